/- The document's own look at expressions: open brackets, faults. -/
import Derived.Test.YtdikjhfnmkejcabRr
namespace Go.Proofs.Ytdikjhfnmkejcab
open Go.RowKit
def DoOK (x : Xp) : Prop := ∀ (va : Value) (w : World), XV w All va x → x.dp ≤ 9000 →
  Calls Try.prog 33 #[va] w fun e w' => e = .returned (.int .i64 ((x.dp : Nat) : Int)) ∧ Below w.heap.size w w'
set_option maxRecDepth 100000 in
set_option maxHeartbeats 8000000 in
theorem do_head (x : Xp) (ih : ∀ i, i < x.kids.len → DoOK (x.kids.at_ i)) : DoOK x := by
  intro va w hx hd9
  obtain ⟨u, rfl, hl, ao, cap, rfl, hin⟩ := hx
  obtain ⟨W, hW⟩ : ∃ W, W = w.alloc (.cells #[.int .i64 x.op, .string x.nm, .slice ao x.kids.len cap] 48) := ⟨_, rfl⟩
  have hWz : W.heap.size = w.heap.size + 1 := by rw [hW]; simp
  have hWb : Below w.heap.size w W := by rw [hW]; exact (Below.refl _ _).alloc (Nat.le_refl _) _
  have hW0 : W.cell? ⟨w.heap.size, 0, none⟩ = some (.int .i64 x.op) := by rw [hW]; simp
  have hW1 : W.cell? ⟨w.heap.size, 1, none⟩ = some (.string x.nm) := by rw [hW]; simp
  have hW2 : W.cell? ⟨w.heap.size, 2, none⟩ = some (.slice ao x.kids.len cap) := by rw [hW]; simp
  have hdp : x.dp = x.kids.dp x.op := rfl
  have Hdp := hd hdp
  generalize x.dp = D at *
  go_enter Try.func33, Try.ntmps33
  go_wp2_with fail
  rw [← hW]
  have HW := hd hW
  clear hW
  obtain ⟨w1, h1⟩ : ∃ w1, w1 = W := ⟨_, rfl⟩
  rw [← h1]
  have e0 : w1.cell? ⟨w.heap.size, 0, none⟩ = some (.int .i64 x.op) := by rw [h1]; exact hW0
  have e1 : w1.cell? ⟨w.heap.size, 1, none⟩ = some (.string x.nm) := by rw [h1]; exact hW1
  have e2 : w1.cell? ⟨w.heap.size, 2, none⟩ = some (.slice ao x.kids.len cap) := by rw [h1]; exact hW2
  have bel1 : Below w.heap.size w w1 := by rw [h1]; exact hWb
  clear hW0 hW1 hW2 hWb
  go_loopw [3, 4] (fun a i wr => ∃ (k m : Nat), k ≤ x.kids.len ∧ i = .int .i64 k ∧ a = .int .i64 m ∧ max m ((x.kids.drp k).dp x.op) = D ∧ Below w1.heap.size w1 wr) (fun _ i _ => x.kids.len - (intOf i).toNat)
  case atStart => exact ⟨0, 0, Nat.zero_le _, rfl, rfl, by rw [Fo.drp_zero, hdp]; omega, Below.refl _ _⟩
  case round =>
    obtain ⟨k, m, hk, rfl, rfl, hm, hb⟩ := hrel
    have hz := hb.size
    have bel : Below w.heap.size w wr := bel1.trans (hb.mono bel1.size)
    have s0 := bkeep hb e0
    have s1 := bkeep hb e1
    have s2 := bkeep hb e2
    by_cases hlt : k < x.kids.len
    · obtain h0 | ⟨ba, oa, rfl, hia⟩ := hin
      · omega
      have kA : ∀ b o v, All b → w.cell? ⟨b, o, none⟩ = some v → All b ∧ wr.cell? ⟨b, o, none⟩ = some v := keep_cell (fun _ _ h => h) (Kp.of_below bel).block
      obtain ⟨ua, a0, a1, a2, hxa⟩ := ((hia.mono kA).at_ k hlt).xv
      have hxa' := hxa
      obtain ⟨_, e, _, aoa', capa', rfl, _⟩ := hxa'
      simp at e; subst e
      have IH := fun w hx hp => ih k hlt (.agg #[.int .i64 (x.kids.at_ k).op, .string (x.kids.at_ k).nm, .slice aoa' (x.kids.at_ k).kids.len capa']) w hx hp
      have hda := Fo.dp_at x.op hlt
      have hbr : br1 x.op (x.kids.at_ k).op = if 5 ≤ x.op ∨ rnd x.op (x.kids.at_ k).op = true then 1 else 0 := rfl
      have RD := fun w => rIn_any x.op (x.kids.at_ k).op x.nm (x.kids.at_ k).nm (some ⟨ba, oa, none⟩) aoa' x.kids.len (x.kids.at_ k).kids.len cap capa' w
      have HLT := hd hlt
      generalize x.kids.at_ k = xk at *
      have IHw := IH wr hxa (by omega)
      generalize xk.dp = d at *
      go_wp2_with fail
      refine IHw.mono ?_
      rintro e w2 ⟨rfl, hb2⟩
      have bel2 : Below w1.heap.size w1 w2 := hb.trans (hb2.mono hb.size)
      have r0 := fun z : Wd w2 => z.cell (bkeep hb2 s0)
      have r1 := fun z : Wd w2 => z.cell (bkeep hb2 s1)
      have r2 := fun z : Wd w2 => z.cell (bkeep hb2 s2)
      have q0 := fun z : Wd w2 => z.cell (bkeep hb2 a0)
      have q1 := fun z : Wd w2 => z.cell (bkeep hb2 a1)
      have q2 := fun z : Wd w2 => z.cell (bkeep hb2 a2)
      have wne : Nonempty (Wd w2) := Wd.ne _
      clear s0 s1 s2 a0 a1 a2 hb2 IHw IH
      by_cases h5 : 5 ≤ x.op
      · have hg : decide ((5 : Int) ≤ x.op) = true := by simpa using h5
        simp only [h5, true_or, if_true] at hbr
        go_wp2_with fail
        refine region_quiet_lit (C := fun w' => ∃ z : Wd w2, w' = z.u) (by kernel_rfl) (by kernel_rfl) (Wd.drawn _) ?_
        iterate 12 (go_big_quiet_step (fail))
        refine wpQuiet_nil ?_
        intro _ hw'
        obtain ⟨z, hw''⟩ := hw'
        subst hw''
        have bel3 : Below w1.heap.size w1 z.u := bel2.trans (z.h.mono bel2.size)
        by_cases hgt : (m : Int) < ((d + 1 : Nat) : Int)
        · go_wp2_with fail
          go_roundw
          case rel => exact ⟨k + 1, d + 1, by omega, by go_num, by go_num, by omega, bel3⟩
          case measure => simp [intOf]; omega
        · go_wp2_with fail
          go_roundw
          case rel => exact ⟨k + 1, m, by omega, by go_num, by go_num, by omega, bel3⟩
          case measure => simp [intOf]; omega
      · have hg : decide ((5 : Int) ≤ x.op) = false := by simpa using h5
        have H5 := hd h5
        have hbr' : br1 x.op xk.op = if rnd x.op xk.op = true then 1 else 0 := by rw [hbr]; simp [h5]
        clear h5 hbr
        generalize rnd x.op xk.op = B at *
        go_wp2_with fail
        refine region_quiet_lit (C := fun w' => ∃ z : Wd w2, w' = z.u) (by kernel_rfl) (by kernel_rfl) (Wd.drawn _) ?_
        iterate 10 (go_big_quiet_step (fail))
        go_big_quiet_step (exact calls_wd (RD _))
        go_big_quiet_step (fail)
        cases B with
        | true =>
          simp only [if_true] at hbr'
          refine wpQuiet_nil ?_
          intro _ hw'
          obtain ⟨z, hw''⟩ := hw'
          subst hw''
          have bel3 : Below w1.heap.size w1 z.u := bel2.trans (z.h.mono bel2.size)
          by_cases hgt : (m : Int) < ((d + 1 : Nat) : Int)
          · go_wp2_with fail
            go_roundw
            case rel => exact ⟨k + 1, d + 1, by omega, by go_num, by go_num, by omega, bel3⟩
            case measure => simp [intOf]; omega
          · go_wp2_with fail
            go_roundw
            case rel => exact ⟨k + 1, m, by omega, by go_num, by go_num, by omega, bel3⟩
            case measure => simp [intOf]; omega
        | false =>
          simp only [Bool.false_eq_true, if_false] at hbr'
          refine wpQuiet_nil ?_
          intro _ hw'
          obtain ⟨z, hw''⟩ := hw'
          subst hw''
          have bel3 : Below w1.heap.size w1 z.u := bel2.trans (z.h.mono bel2.size)
          by_cases hgt : (m : Int) < ((d : Nat) : Int)
          · go_wp2_with fail
            go_roundw
            case rel => exact ⟨k + 1, d, by omega, by go_num, by go_num, by omega, bel3⟩
            case measure => simp [intOf]; omega
          · go_wp2_with fail
            go_roundw
            case rel => exact ⟨k + 1, m, by omega, by go_num, by go_num, by omega, bel3⟩
            case measure => simp [intOf]; omega
    · rw [Fo.drp_end (by omega)] at hm
      simp only [Fo.dp] at hm
      go_wp2_with fail
      go_ret
      exact ⟨ret_int (by omega), bel⟩
theorem do_all : ∀ (f : Fo) (i : Nat), i < f.len → DoOK (f.at_ i)
  | .nil, _, h => absurd h (Nat.not_lt_zero _)
  | .cons op nm kids _, 0, _ => do_head ⟨op, nm, kids⟩ (do_all kids)
  | .cons _ _ _ rest, i + 1, h => do_all rest i (by simpa [Fo.len] using h)
theorem do_any (x : Xp) : DoOK x := do_head x (do_all x.kids)
end Go.Proofs.Ytdikjhfnmkejcab
