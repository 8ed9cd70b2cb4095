/- What package render goes through expressions for: open brackets, faults. -/
import Derived.Test.YtcanphhmflbdmacL11
namespace Go.Proofs.Ytcanphhmflbdmac
open Go.RowKit
theorem Fo.dp_le (p : Int) : ∀ {f : Fo} {i : Nat}, i < f.len → (f.at_ i).dp + br1 p (f.at_ i).op ≤ f.dp p
  | .nil, _, h => absurd h (Nat.not_lt_zero _)
  | .cons .., 0, _ => Nat.le_max_left _ _
  | .cons _ _ _ r, i + 1, h => Nat.le_trans (Fo.dp_le p (f := r) (i := i) (by simpa [Fo.len] using h)) (Nat.le_max_right _ _)
def DpOK (x : Xp) : Prop := ∀ (va : Value) (w : World), XV w All va x → x.dp ≤ 9000 →
  Calls Try.prog 99 #[va] w fun e w' => e = .returned (.int .i64 ((x.dp : Nat) : Int)) ∧ Below w.heap.size w w'
set_option maxRecDepth 100000 in
set_option maxHeartbeats 4000000 in
theorem dp_head (x : Xp) (ih : ∀ i, i < x.kids.len → DpOK (x.kids.at_ i)) : DpOK x := by
  intro va w hx hd9
  obtain ⟨u, rfl, hl, ao, cap, rfl, hin⟩ := hx
  obtain ⟨W, hW⟩ : ∃ W, W = w.alloc (.cells #[.int .i64 x.op, .string x.nm, .slice ao x.kids.len cap] 64) := ⟨_, rfl⟩
  have hWz : W.heap.size = w.heap.size + 1 := by rw [hW]; simp
  have hWb : Below w.heap.size w W := by rw [hW]; exact (Below.refl _ _).alloc (Nat.le_refl _) _
  have hW0 : W.cell? ⟨w.heap.size, 0, none⟩ = some (.int .i64 x.op) := by rw [hW]; simp
  have hW1 : W.cell? ⟨w.heap.size, 1, none⟩ = some (.string x.nm) := by rw [hW]; simp
  have hW2 : W.cell? ⟨w.heap.size, 2, none⟩ = some (.slice ao x.kids.len cap) := by rw [hW]; simp
  have hdp : x.dp = x.kids.dp x.op := rfl
  have Hdp := hd hdp
  generalize x.dp = D at *
  go_enter Try.func99, Try.ntmps99
  go_wp2_with fail
  rw [← hW]
  have HW := hd hW
  clear hW
  obtain ⟨w1, h1⟩ : ∃ w1, w1 = W := ⟨_, rfl⟩
  rw [← h1]
  have e0 : w1.cell? ⟨w.heap.size, 0, none⟩ = some (.int .i64 x.op) := by rw [h1]; exact hW0
  have e1 : w1.cell? ⟨w.heap.size, 1, none⟩ = some (.string x.nm) := by rw [h1]; exact hW1
  have e2 : w1.cell? ⟨w.heap.size, 2, none⟩ = some (.slice ao x.kids.len cap) := by rw [h1]; exact hW2
  have bel1 : Below w.heap.size w w1 := by rw [h1]; exact hWb
  clear hW0 hW1 hW2 hWb
  go_loopw [3, 10] (fun a i wr => ∃ (k m : Nat), k ≤ x.kids.len ∧ i = .int .i64 k ∧ a = .int .i64 m ∧ max m ((x.kids.drp k).dp x.op) = D ∧ Below w1.heap.size w1 wr) (fun _ i _ => x.kids.len - (intOf i).toNat)
  case atStart => exact ⟨0, 0, Nat.zero_le _, rfl, rfl, by rw [Fo.drp_zero, hdp]; omega, Below.refl _ _⟩
  case round =>
    obtain ⟨k, m, hk, rfl, rfl, hm, hb⟩ := hrel
    have hz := hb.size
    have bel : Below w.heap.size w wr := bel1.trans (hb.mono bel1.size)
    have s0 := bkeep hb e0
    have s1 := bkeep hb e1
    have s2 := bkeep hb e2
    by_cases hlt : k < x.kids.len
    · obtain h0 | ⟨ba, oa, rfl, hia⟩ := hin
      · omega
      have kA : ∀ b o v, All b → w.cell? ⟨b, o, none⟩ = some v → All b ∧ wr.cell? ⟨b, o, none⟩ = some v := keep_cell (fun _ _ h => h) (Kp.of_below bel).block
      obtain ⟨ua, a0, a1, a2, hxa⟩ := ((hia.mono kA).at_ k hlt).xv
      have hxa' := hxa
      obtain ⟨_, e, _, aoa', capa', rfl, _⟩ := hxa'
      simp at e; subst e
      have IH := ih k hlt
      have hda := Fo.dp_at x.op hlt
      have hdl := Fo.dp_le x.op hlt
      have hbr : br1 x.op (x.kids.at_ k).op = if 5 ≤ x.op ∨ rnd x.op (x.kids.at_ k).op = true then 1 else 0 := rfl
      have RD := fun w => rounded_any (x.kids.at_ k).op x.op (x.kids.at_ k).nm x.nm aoa' (some ⟨ba, oa, none⟩) (x.kids.at_ k).kids.len x.kids.len capa' cap w
      have HLT := hd hlt
      generalize x.kids.at_ k = xk at *
      obtain ⟨ob, hob⟩ : ∃ ob : Obj, ob = .cells #[.int .i64 xk.op, .string xk.nm, .slice aoa' xk.kids.len capa'] 64 := ⟨_, rfl⟩
      have t0 := alcell s0 ob
      have t1 := alcell s1 ob
      have t2 := alcell s2 ob
      have y0 : (wr.alloc ob).cell? ⟨wr.heap.size, 0, none⟩ = some (.int .i64 xk.op) := by rw [hob]; simp
      have y1 : (wr.alloc ob).cell? ⟨wr.heap.size, 1, none⟩ = some (.string xk.nm) := by rw [hob]; simp
      have y2 : (wr.alloc ob).cell? ⟨wr.heap.size, 2, none⟩ = some (.slice aoa' xk.kids.len capa') := by rw [hob]; simp
      have bz : Below w1.heap.size w1 (wr.alloc ob) := hb.trans ((al1 wr ob).mono hb.size)
      have hxz := hxa.below (al1 wr ob)
      subst hob
      have IHc := fun w hx => IH (.agg #[.int .i64 xk.op, .string xk.nm, .slice aoa' xk.kids.len capa']) w hx (by omega)
      generalize xk.dp = d at *
      go_wp2_with fail
      refine (IHc _ hxz).mono ?_
      rintro e w2 ⟨rfl, hb2⟩
      have r0 := bkeep hb2 y0
      have r1 := bkeep hb2 y1
      have r2 := bkeep hb2 y2
      have v0 := bkeep hb2 t0
      have v1 := bkeep hb2 t1
      have v2 := bkeep hb2 t2
      have bel2 : Below w1.heap.size w1 w2 := bz.trans (hb2.mono bz.size)
      clear bz hxz y0 y1 y2 t0 t1 t2 hb2
      by_cases h5 : 5 ≤ x.op
      · simp only [h5, true_or, if_true] at hbr
        go_wp2_with fail
        go_roundw
        case rel => exact ⟨k + 1, max m (d + 1), by omega, by go_num, by go_num, by omega, bel2⟩
        case measure => simp [intOf]; omega
      · go_wp2_with fail
        refine (RD _).mono ?_
        rintro e w3 ⟨rfl, hb3⟩
        have bel3 : Below w1.heap.size w1 w3 := bel2.trans (hb3.mono bel2.size)
        cases hB : rnd x.op xk.op with
        | true =>
          simp only [hB, or_true, if_true] at hbr
          go_wp2_with fail
          go_roundw
          case rel => exact ⟨k + 1, max m (d + 1), by omega, by go_num, by go_num, by omega, bel3⟩
          case measure => simp [intOf]; omega
        | false =>
          rw [if_neg (by rw [hB]; simp; omega)] at hbr
          go_wp2_with fail
          go_roundw
          case rel => exact ⟨k + 1, max m d, by omega, by go_num, by go_num, by omega, bel3⟩
          case measure => simp [intOf]; omega
    · rw [Fo.drp_end (by omega)] at hm
      simp only [Fo.dp] at hm
      go_wp2_with fail
      go_ret
      exact ⟨ret_int (by omega), bel⟩
theorem dp_all : ∀ (f : Fo) (i : Nat), i < f.len → DpOK (f.at_ i)
  | .nil, _, h => absurd h (Nat.not_lt_zero _)
  | .cons op nm kids _, 0, _ => dp_head ⟨op, nm, kids⟩ (dp_all kids)
  | .cons _ _ _ rest, i + 1, h => dp_all rest i (by simpa [Fo.len] using h)
theorem dp_any (x : Xp) : DpOK x := dp_head x (dp_all x.kids)
def CeOK (x : Xp) : Prop := ∀ (va : Value) (w : World), XV w All va x → x.sh →
  Calls Try.prog 100 #[va] w fun e w' => e = .returned (.int .i64 x.bad) ∧ Below w.heap.size w w'
set_option maxRecDepth 100000 in
set_option maxHeartbeats 4000000 in
theorem ce_head (x : Xp) (ih : ∀ i, i < x.kids.len → CeOK (x.kids.at_ i)) : CeOK x := by
  intro va w hx hsh
  obtain ⟨u, rfl, hl, ao, cap, rfl, hin⟩ := hx
  obtain ⟨W, hW⟩ : ∃ W, W = w.alloc (.cells #[.int .i64 x.op, .string x.nm, .slice ao x.kids.len cap] 64) := ⟨_, rfl⟩
  have hWz : W.heap.size = w.heap.size + 1 := by rw [hW]; simp
  have hWb : Below w.heap.size w W := by rw [hW]; exact (Below.refl _ _).alloc (Nat.le_refl _) _
  have hW0 : W.cell? ⟨w.heap.size, 0, none⟩ = some (.int .i64 x.op) := by rw [hW]; simp
  have hW1 : W.cell? ⟨w.heap.size, 1, none⟩ = some (.string x.nm) := by rw [hW]; simp
  have hW2 : W.cell? ⟨w.heap.size, 2, none⟩ = some (.slice ao x.kids.len cap) := by rw [hW]; simp
  have FM := fun w => formed_any x.op x.nm ao x.kids.len cap w hl
  have NM := fun w => named_any x.op x.nm ao x.kids.len cap w hsh.1
  have hbd : Hid (x.bad = if code x.op x.nm x.kids.len ≠ 0 then code x.op x.nm x.kids.len else x.kids.bad) := hd rfl
  generalize x.bad = D at *
  cases hF : formB x.op x.nm x.kids.len with
  | false =>
    have hc : D = 3 := by rw [hbd.out]; simp [code, hF]
    rw [hF] at FM
    subst hc
    go_enter Try.func100, Try.ntmps100
    go_wp2_with fail
    refine (FM _).mono ?_
    rintro e w1 ⟨rfl, hb1⟩
    rw [← hW] at hb1
    go_wp2_with fail
    go_ret
    exact ⟨rfl, hWb.trans (hb1.mono (by omega))⟩
  | true =>
  rw [hF] at FM
  cases hN : namB x.op x.nm with
  | false =>
    have hc : D = 2 := by rw [hbd.out]; simp [code, hF, hN]
    rw [hN] at NM
    subst hc
    go_enter Try.func100, Try.ntmps100
    go_wp2_with fail
    refine (FM _).mono ?_
    rintro e w1 ⟨rfl, hb1⟩
    rw [← hW] at hb1
    have e0 := bkeep hb1 hW0
    have e1 := bkeep hb1 hW1
    have e2 := bkeep hb1 hW2
    go_wp2_with fail
    refine (NM _).mono ?_
    rintro e w2 ⟨rfl, hb2⟩
    go_wp2_with fail
    go_ret
    exact ⟨rfl, (hWb.trans (hb1.mono (by omega))).trans (hb2.mono (by have := hb1.size; omega))⟩
  | true =>
  rw [hN] at NM
  have hc : D = x.kids.bad := by rw [hbd.out]; simp [code, hF, hN]
  clear hbd
  have HF := hd hF
  have HN := hd hN
  clear hF hN
  go_enter Try.func100, Try.ntmps100
  go_wp2_with fail
  refine (FM _).mono ?_
  rintro e w0 ⟨rfl, hb0⟩
  rw [← hW] at hb0
  have d0 := bkeep hb0 hW0
  have d1 := bkeep hb0 hW1
  have d2 := bkeep hb0 hW2
  have bel0 : Below w.heap.size w w0 := hWb.trans (hb0.mono (by omega))
  have HW := hd hW
  clear hW hW0 hW1 hW2 hWb hb0 FM
  go_wp2_with fail
  refine (NM _).mono ?_
  rintro e w1 ⟨rfl, hb1⟩
  have e0 := bkeep hb1 d0
  have e1 := bkeep hb1 d1
  have e2 := bkeep hb1 d2
  have bel1 : Below w.heap.size w w1 := bel0.trans (hb1.mono bel0.size)
  clear hb1 d0 d1 d2 bel0 NM
  go_wp2_with fail
  go_loopw [15] (fun i wr => ∃ (k : Nat), k ≤ x.kids.len ∧ i = .int .i64 k ∧ (x.kids.drp k).bad = D ∧ Below w1.heap.size w1 wr) (fun i _ => x.kids.len - (intOf i).toNat)
  case atStart => exact ⟨0, Nat.zero_le _, rfl, by rw [Fo.drp_zero, hc], Below.refl _ _⟩
  case round =>
    obtain ⟨k, hk, rfl, hm, hb⟩ := hrel
    have hz := hb.size
    have bel : Below w.heap.size w wr := bel1.trans (hb.mono bel1.size)
    have s0 := bkeep hb e0
    have s1 := bkeep hb e1
    have s2 := bkeep hb e2
    by_cases hlt : k < x.kids.len
    · obtain h0 | ⟨ba, oa, rfl, hia⟩ := hin
      · omega
      have kA : ∀ b o v, All b → w.cell? ⟨b, o, none⟩ = some v → All b ∧ wr.cell? ⟨b, o, none⟩ = some v := keep_cell (fun _ _ h => h) (Kp.of_below bel).block
      obtain ⟨ua, a0, a1, a2, hxa⟩ := ((hia.mono kA).at_ k hlt).xv
      have hxa' := hxa
      obtain ⟨_, e, _, aoa', capa', rfl, _⟩ := hxa'
      simp at e; subst e
      have IH := fun w hx => ih k hlt (.agg #[.int .i64 (x.kids.at_ k).op, .string (x.kids.at_ k).nm, .slice aoa' (x.kids.at_ k).kids.len capa']) w hx (hsh.2.at_ hlt)
      have hda := Fo.bad_at hlt
      have HLT := hd hlt
      generalize x.kids.at_ k = xk at *
      obtain ⟨ob, hob⟩ : ∃ ob : Obj, ob = .cells #[.int .i64 xk.op, .string xk.nm, .slice aoa' xk.kids.len capa'] 64 := ⟨_, rfl⟩
      have t0 := alcell s0 ob
      have t1 := alcell s1 ob
      have t2 := alcell s2 ob
      have y0 : (wr.alloc ob).cell? ⟨wr.heap.size, 0, none⟩ = some (.int .i64 xk.op) := by rw [hob]; simp
      have y1 : (wr.alloc ob).cell? ⟨wr.heap.size, 1, none⟩ = some (.string xk.nm) := by rw [hob]; simp
      have y2 : (wr.alloc ob).cell? ⟨wr.heap.size, 2, none⟩ = some (.slice aoa' xk.kids.len capa') := by rw [hob]; simp
      have bz : Below w1.heap.size w1 (wr.alloc ob) := hb.trans ((al1 wr ob).mono hb.size)
      have hxz := hxa.below (al1 wr ob)
      subst hob
      generalize xk.bad = d at *
      go_wp2_with fail
      refine (IH _ hxz).mono ?_
      rintro e w2 ⟨rfl, hb2⟩
      have bel2 : Below w1.heap.size w1 w2 := bz.trans (hb2.mono bz.size)
      clear bz hxz y0 y1 y2 t0 t1 t2 hb2
      by_cases h5 : d = 0
      · subst h5
        simp only [ne_eq, not_true_eq_false, if_false] at hda
        go_wp2_with fail
        go_roundw
        case rel => exact ⟨k + 1, by omega, by go_num, by rw [← hda]; exact hm, bel2⟩
        case measure => simp [intOf]; omega
      · rw [if_pos h5] at hda
        go_wp2_with fail
        go_ret
        exact ⟨ret_int (by rw [← hm, hda]), bel1.trans (bel2.mono bel1.size)⟩
    · rw [Fo.drp_end (by omega)] at hm
      simp only [Fo.bad] at hm
      go_wp2_with fail
      go_ret
      exact ⟨ret_int hm, bel⟩
theorem ce_all : ∀ (f : Fo) (i : Nat), i < f.len → CeOK (f.at_ i)
  | .nil, _, h => absurd h (Nat.not_lt_zero _)
  | .cons op nm kids _, 0, _ => ce_head ⟨op, nm, kids⟩ (ce_all kids)
  | .cons _ _ _ rest, i + 1, h => ce_all rest i (by simpa [Fo.len] using h)
theorem ce_any (x : Xp) : CeOK x := ce_head x (ce_all x.kids)
end Go.Proofs.Ytcanphhmflbdmac
