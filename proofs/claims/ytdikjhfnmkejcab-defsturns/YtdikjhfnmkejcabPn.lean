/- Names that come twice, names that have no definition: the program's way. -/
import Derived.Test.YtdikjhfnmkejcabNf
namespace Go.Proofs.Ytdikjhfnmkejcab
open Go.RowKit
set_option maxRecDepth 100000 in
set_option maxHeartbeats 4000000 in
theorem firstTwice_any (l : List ByteArray) (v : Value) (w : World) (h : SsV w v l) :
    Calls Try.prog 43 #[v] w fun e w' => e = .returned (.int .i64 (fstI (isTw l) l.length)) ∧ w' = w := by
  obtain ⟨ao, cap, rfl⟩ := h.slice
  have hcp := h.cap
  have hl := h.1
  go_enter Try.func43, Try.ntmps43
  go_wp2_with fail
  go_loopw [7] (fun i wr => ∃ k : Nat, k ≤ l.length ∧ i = .int .i64 k ∧ wr = w ∧ Hid (∀ j, j < k → isTw l j = false)) (fun i _ => l.length - (intOf i).toNat)
  case atStart => exact ⟨0, Nat.zero_le _, rfl, rfl, hd (fun j hj => absurd hj (Nat.not_lt_zero _))⟩
  case round =>
    obtain ⟨k, hk, rfl, rfl, hall⟩ := hrel
    by_cases hlt : k < l.length
    · obtain ⟨b, o, rfl, cL⟩ := h.at_ hlt
      have st := h.take (k := k) hk
      have hit := isTw_lt hlt
      generalize l[k] = t at *
      have CO := contains_any (l.take k) t (.slice (some ⟨b, o, none⟩) k cap) wr st
      generalize inB t (l.take k) = q at *
      have hck : k ≤ cap := by omega
      have HLT := hd hlt
      have HIT := hd hit
      clear st hit
      cases q with
      | true =>
        go_wp2_with (go_at_call 63; refine CO.mono ?_; rintro e wx ⟨rfl, hwx⟩; obtain rfl := hwx.symm)
        go_ret
        exact ⟨by rw [fstI_hit (k := k) HIT.out hall.out HLT.out]; rfl, rfl⟩
      | false =>
        go_wp2_with (go_at_call 63; refine CO.mono ?_; rintro e wx ⟨rfl, hwx⟩; obtain rfl := hwx.symm)
        go_roundw
        case rel => exact ⟨k + 1, by omega, by go_num, trivial, hd (fun j hj => by
          by_cases e : j = k
          · subst e; exact HIT.out
          · exact hall.out j (by omega))⟩
        case measure => simp [intOf]; omega
    · go_wp2_with fail
      go_ret
      exact ⟨by rw [fstI_none (fun j hj => hall.out j (by omega))]; rfl, rfl⟩
/-- Is the name there that it speaks of? -/
def okX (l : List ByteArray) (op : Int) (nm : ByteArray) : Bool := if op = 2 then inB nm l else true
theorem okN_x (l : List ByteArray) (x : Xp) : okN l (x.nmd 2) = (okX l x.op x.nm && okN l (x.kids.nmd 2)) := by
  unfold Xp.nmd okX
  rw [okN_app]
  split <;> simp [okN]
set_option maxRecDepth 100000 in
set_option maxHeartbeats 4000000 in
theorem known_any (l : List ByteArray) (vN : Value) (bn : Nat) (op : Int) (nm : ByteArray) (ao : Option Addr) (n cap : Nat) (w : World) (hc : w.cell? ⟨bn, 0, none⟩ = some vN) (hs : SsV w vN l) :
    Calls Try.prog 64 #[.agg #[.int .i64 op, .string nm, .slice ao n cap], .pointer (some ⟨bn, 0, none⟩)] w fun e w' => e = .returned (.bool (okX l op nm)) ∧ Below w.heap.size w w' := by
  have CO := contains_any l nm vN (w.alloc (.cells #[.int .i64 op, .string nm, .slice ao n cap] 48)) (hs.below (al1 _ _))
  have hc' := alcell hc (.cells #[.int .i64 op, .string nm, .slice ao n cap] 48)
  obtain ⟨aoN, capN, rfl⟩ := hs.slice
  clear hs
  by_cases h2 : op = 2
  · subst h2
    rw [okX, if_pos rfl]
    generalize inB nm l = q at *
    go_enter Try.func64, Try.ntmps64
    go_wp2_with (go_at_call 63; refine CO.mono ?_; rintro e wx ⟨rfl, hwx⟩; obtain rfl := hwx.symm)
    go_ret
    exact ⟨rfl, al1 _ _⟩
  · rw [okX, if_neg h2]
    have hb : (op != 2) = true := by simpa using h2
    go_enter Try.func64, Try.ntmps64
    go_wp2_with fail
    go_ret
    exact ⟨rfl, al1 _ _⟩
def HkOK (x : Xp) : Prop := ∀ (l : List ByteArray) (vN : Value) (bn : Nat) (va : Value) (w : World), XV w All va x → w.cell? ⟨bn, 0, none⟩ = some vN → SsV w vN l →
  Calls Try.prog 47 #[va, .func (.func 64) #[] #[.pointer (some ⟨bn, 0, none⟩)]] w fun e w' => e = .returned (.bool (okN l (x.nmd 2))) ∧ Below w.heap.size w w'
set_option maxRecDepth 100000 in
set_option maxHeartbeats 8000000 in
theorem hk_head (x : Xp) (ih : ∀ i, i < x.kids.len → HkOK (x.kids.at_ i)) : HkOK x := by
  intro l vN bn va w hx hc hs
  obtain ⟨u, rfl, hl, ao, cap, rfl, hin⟩ := hx
  obtain ⟨W, hW⟩ : ∃ W, W = w.alloc (.cells #[.int .i64 x.op, .string x.nm, .slice ao x.kids.len cap] 48) := ⟨_, rfl⟩
  have hWz : W.heap.size = w.heap.size + 1 := by rw [hW]; simp
  have hWb : Below w.heap.size w W := by rw [hW]; exact al1 _ _
  have hW2 : W.cell? ⟨w.heap.size, 2, none⟩ = some (.slice ao x.kids.len cap) := by rw [hW]; simp
  have KN := fun w' (hb : Below w.heap.size w w') => known_any l vN bn x.op x.nm ao x.kids.len cap w' (bkeep hb hc) (hs.below hb)
  have hok := okN_x l x
  generalize okN l (x.nmd 2) = R at *
  generalize okX l x.op x.nm = q at *
  cases q with
  | false =>
    have hR : R = false := by rw [hok]; rfl
    subst hR
    clear hok
    go_enter Try.func47, Try.ntmps47
    go_wp2_with fail
    rw [← hW]
    refine (KN _ hWb).mono ?_
    rintro e w1 ⟨rfl, hb1⟩
    go_wp2_with fail
    go_ret
    exact ⟨rfl, hWb.trans (hb1.mono hWb.size)⟩
  | true =>
    rw [Bool.true_and] at hok
    have HOK := hd hok
    clear hok
    go_enter Try.func47, Try.ntmps47
    go_wp2_with fail
    rw [← hW]
    refine (KN _ hWb).mono ?_
    rintro e w1 ⟨rfl, hb1⟩
    have HW := hd hW
    clear hW KN
    have bel1 : Below w.heap.size w w1 := hWb.trans (hb1.mono hWb.size)
    have z1 := bel1.size
    have c2 := bkeep hb1 hW2
    clear hb1 hWb hW2
    go_wp2_with fail
    go_loopw [14] (fun i wr => ∃ k : Nat, k ≤ x.kids.len ∧ i = .int .i64 k ∧ Hid (R = okN l ((x.kids.drp k).nmd 2)) ∧ Below w1.heap.size w1 wr) (fun i _ => x.kids.len - (intOf i).toNat)
    case atStart => exact ⟨0, Nat.zero_le _, rfl, hd (by rw [Fo.drp_zero]; exact HOK.out), Below.refl _ _⟩
    case round =>
      obtain ⟨k, hk, rfl, hall, hb⟩ := hrel
      have bel : Below w.heap.size w wr := bel1.trans (hb.mono z1)
      by_cases hlt : k < x.kids.len
      · obtain h0 | ⟨ba, oa, rfl, hia⟩ := hin
        · omega
        have kA : ∀ b o v, All b → w.cell? ⟨b, o, none⟩ = some v → All b ∧ wr.cell? ⟨b, o, none⟩ = some v := keep_cell (fun _ _ h => h) (Kp.of_below bel).block
        obtain ⟨ua, a0, a1, a2, hxa⟩ := ((hia.mono kA).at_ k hlt).xv
        have hxa' := hxa
        obtain ⟨_, e, _, aoa', capa', rfl, _⟩ := hxa'
        simp at e; subst e
        have IH := fun w' hx hc hs => ih k hlt l vN bn (.agg #[.int .i64 (x.kids.at_ k).op, .string (x.kids.at_ k).nm, .slice aoa' (x.kids.at_ k).kids.len capa']) w' hx hc hs
        have hnx : Hid (R = (okN l ((x.kids.at_ k).nmd 2) && okN l ((x.kids.drp (k + 1)).nmd 2))) := hd (by rw [hall.out, Fo.nmd_at 2 hlt, okN_app])
        generalize okN l ((x.kids.at_ k).nmd 2) = q at *
        generalize x.kids.at_ k = xk at *
        obtain ⟨U, hU⟩ : ∃ U, U = wr.alloc (.cells #[.int .i64 xk.op, .string xk.nm, .slice aoa' xk.kids.len capa'] 48) := ⟨_, rfl⟩
        have hUb : Below wr.heap.size wr U := by rw [hU]; exact al1 _ _
        have bU : Below w.heap.size w U := bel.trans (hUb.mono bel.size)
        have CA := IH U (hxa.below hUb) (bkeep bU hc) (hs.below bU)
        clear hall IH kA
        cases q with
        | false =>
          have hR : R = false := by rw [hnx.out]; rfl
          go_wp2_with fail
          rw [← hU]
          refine CA.mono ?_
          rintro e w2 ⟨rfl, hb2⟩
          go_wp2_with fail
          go_ret
          exact ⟨by rw [hR]; rfl, bU.trans (hb2.mono bU.size)⟩
        | true =>
          go_wp2_with fail
          rw [← hU]
          refine CA.mono ?_
          rintro e w2 ⟨rfl, hb2⟩
          have HU := hd hU
          clear hU
          go_wp2_with fail
          go_roundw
          case rel => exact ⟨k + 1, by omega, by go_num, hd (by rw [hnx.out, Bool.true_and]), hb.trans ((hUb.trans (hb2.mono hUb.size)).mono hb.size)⟩
          case measure => simp [intOf]; omega
      · have hR : R = true := by rw [hall.out, Fo.nmd_end 2 (by omega)]; rfl
        go_wp2_with fail
        go_ret
        exact ⟨by rw [hR]; rfl, bel⟩
theorem hk_all : ∀ (f : Fo) (i : Nat), i < f.len → HkOK (f.at_ i)
  | .nil, _, h => absurd h (Nat.not_lt_zero _)
  | .cons op nm kids rest, 0, _ => hk_head ⟨op, nm, kids⟩ (hk_all kids)
  | .cons _ _ _ rest, i + 1, h => hk_all rest i (by simpa [Fo.len] using h)
theorem hk_any (x : Xp) : HkOK x := hk_head x (hk_all x.kids)
end Go.Proofs.Ytdikjhfnmkejcab
