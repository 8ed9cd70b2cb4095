/- The first definition that speaks of one that is not there: the program's way. -/
import Derived.Test.YtdikjhfnmkejcabPn
import Derived.Laws.EntriesVeiled
namespace Go.Proofs.Ytdikjhfnmkejcab
open Go.RowKit
set_option maxRecDepth 100000 in
set_option maxHeartbeats 4000000 in
theorem opens_any (l : List ByteArray) (vN : Value) (bn bk : Nat) (d : Df) (ao : Option Addr) (cap : Nat) (w : World) (hx : XV w All (.agg #[.int .i64 d.e.op, .string d.e.nm, .slice ao d.e.kids.len cap]) d.e) (hc : w.cell? ⟨bn, 0, none⟩ = some vN) (hs : SsV w vN l)
    (hf : w.cell? ⟨bk, 0, none⟩ = some (.func (.func 64) #[] #[.pointer (some ⟨bn, 0, none⟩)])) :
    Calls Try.prog 66 #[.agg #[.string d.nm, .int .i64 d.at_, .int .i64 d.e.op, .string d.e.nm, .slice ao d.e.kids.len cap], .pointer (some ⟨bk, 0, none⟩)] w fun e w' => e = .returned (.bool (!okN l (d.e.nmd 2))) ∧ Below w.heap.size w w' := by
  obtain ⟨W, hW⟩ : ∃ W, W = w.alloc (.cells #[.string d.nm, .int .i64 d.at_, .int .i64 d.e.op, .string d.e.nm, .slice ao d.e.kids.len cap] 50) := ⟨_, rfl⟩
  have hWb : Below w.heap.size w W := by rw [hW]; exact al1 _ _
  have HK := hk_any d.e l vN bn _ W (hx.below hWb) (bkeep hWb hc) (hs.below hWb)
  have hf' := alcell hf (.cells #[.string d.nm, .int .i64 d.at_, .int .i64 d.e.op, .string d.e.nm, .slice ao d.e.kids.len cap] 50)
  generalize okN l (d.e.nmd 2) = q at *
  clear hc hs hx hf
  go_enter Try.func66, Try.ntmps66
  go_wp2_with fail
  rw [← hW]
  refine HK.mono ?_
  rintro e w1 ⟨rfl, hb1⟩
  go_wp2_with fail
  go_ret
  exact ⟨rfl, hWb.trans (hb1.mono hWb.size)⟩
set_option maxRecDepth 100000 in
set_option maxHeartbeats 4000000 in
theorem indexFunc_any (ds : List Df) (l : List ByteArray) (va vN : Value) (bn bk : Nat) (w : World) (hx : DsV w All va ds) (hc : w.cell? ⟨bn, 0, none⟩ = some vN) (hs : SsV w vN l)
    (hf : w.cell? ⟨bk, 0, none⟩ = some (.func (.func 64) #[] #[.pointer (some ⟨bn, 0, none⟩)])) :
    Calls Try.prog 65 #[va, .func (.func 66) #[] #[.pointer (some ⟨bk, 0, none⟩)]] w fun e w' => e = .returned (.int .i64 (fstI (isOp l ds) ds.length)) ∧ Below w.heap.size w w' := by
  obtain ⟨hl, ao, cap, rfl, hin⟩ := hx
  go_enter Try.func65, Try.ntmps65
  go_wp2_with fail
  go_loopw [8] (fun i wr => ∃ k : Nat, k ≤ ds.length ∧ i = .int .i64 k ∧ Hid (∀ j, j < k → isOp l ds j = false) ∧ Below w.heap.size w wr) (fun i _ => ds.length - (intOf i).toNat)
  case atStart => exact ⟨0, Nat.zero_le _, rfl, hd (fun j hj => absurd hj (Nat.not_lt_zero _)), Below.refl _ _⟩
  case round =>
    obtain ⟨k, hk, rfl, hall, hb⟩ := hrel
    by_cases hlt : k < ds.length
    · obtain h0 | ⟨ba, oa, rfl, hia⟩ := hin
      · omega
      have kA : ∀ b o v, All b → w.cell? ⟨b, o, none⟩ = some v → All b ∧ wr.cell? ⟨b, o, none⟩ = some v := keep_cell (fun _ _ h => h) (Kp.of_below hb).block
      obtain ⟨an, aa, ax⟩ := (hia.mono kA).at_ k hlt
      obtain ⟨ua, a0, a1, a2, hxa⟩ := ax.xv
      have hio := isOp_lt (names := l) hlt
      generalize ds[k] = dk at *
      have hxa' := hxa
      obtain ⟨_, e, _, aoa', capa', rfl, _⟩ := hxa'
      simp at e; subst e
      have OA := opens_any l vN bn bk dk aoa' capa' wr hxa (bkeep hb hc) (hs.below hb) (bkeep hb hf)
      have HIO := hd hio
      have HLT := hd hlt
      clear hio kA ax
      generalize okN l (dk.e.nmd 2) = q at *
      cases q with
      | false =>
        go_wp2_with fail
        refine OA.mono ?_
        rintro e w1 ⟨rfl, hb1⟩
        go_wp2_with fail
        go_ret
        exact ⟨by rw [fstI_hit (k := k) HIO.out hall.out HLT.out]; rfl, hb.trans (hb1.mono hb.size)⟩
      | true =>
        go_wp2_with fail
        refine OA.mono ?_
        rintro e w1 ⟨rfl, hb1⟩
        go_wp2_with fail
        go_roundw
        case rel => exact ⟨k + 1, by omega, by go_num, hd (fun j hj => by
          by_cases e : j = k
          · subst e; exact HIO.out
          · exact hall.out j (by omega)), hb.trans (hb1.mono hb.size)⟩
        case measure => simp [intOf]; omega
    · go_wp2_with fail
      go_ret
      exact ⟨by rw [fstI_none (fun j hj => hall.out j (by omega))]; rfl, hb⟩
set_option maxRecDepth 100000 in
set_option maxHeartbeats 4000000 in
theorem firstOpen_any (ds : List Df) (l : List ByteArray) (va vN : Value) (w : World) (hx : DsV w All va ds) (hs : SsV w vN l) :
    Calls Try.prog 44 #[va, vN] w fun e w' => e = .returned (.int .i64 (fstI (isOp l ds) ds.length)) ∧ Below w.heap.size w w' := by
  obtain ⟨aoN, capN, rfl⟩ := hs.slice
  obtain ⟨W, hW⟩ : ∃ W, W = (w.alloc (.cells #[.slice aoN l.length capN] 39)).alloc (.cells #[.func (.func 64) #[] #[.pointer (some ⟨w.heap.size, 0, none⟩)]] 71) := ⟨_, rfl⟩
  have hWb : Below w.heap.size w W := by rw [hW]; exact al2 _ _ _
  have hW0 : W.cell? ⟨w.heap.size, 0, none⟩ = some (.slice aoN l.length capN) := by rw [hW]; simp
  have hW1 : W.cell? ⟨w.heap.size + 1, 0, none⟩ = some (.func (.func 64) #[] #[.pointer (some ⟨w.heap.size, 0, none⟩)]) := by rw [hW]; simp
  have IA := indexFunc_any ds l va _ w.heap.size (w.heap.size + 1) W (hx.kp (Kp.of_below hWb) (fun _ _ h => h)) hW0 (hs.below hWb) hW1
  generalize fstI (isOp l ds) ds.length = r at *
  obtain ⟨hl, ao, cap, rfl, hin⟩ := hx
  clear hs hin
  go_enter Try.func44, Try.ntmps44
  go_wp2_with fail
  rw [← hW]
  refine IA.mono ?_
  rintro e w1 ⟨rfl, hb1⟩
  go_wp2_with fail
  go_ret
  exact ⟨rfl, hWb.trans (hb1.mono hWb.size)⟩
end Go.Proofs.Ytdikjhfnmkejcab
