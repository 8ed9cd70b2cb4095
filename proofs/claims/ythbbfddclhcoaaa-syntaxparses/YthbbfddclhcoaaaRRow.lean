/- The document's reader: rows and alternatives. -/
import Derived.Test.YthbbfddclhcoaaaRSign
namespace Go.Proofs.Ythbbfddclhcoaaa
open Go.RowKit
section
variable {r : Nat} {ao : Option Addr} {cap : Nat} {l : List Tk} {en : Int}
set_option maxHeartbeats 4000000 in
theorem rrow_step {k : Nat} (H : ∀ j, j < k → RItemOK r ao cap l en j) : RRowOK r ao cap l en k := by
  intro n p o w h hf
  obtain ⟨i0, hi, iz0, iz1, iz2⟩ := info_parts Try.infoExpr
  generalize hR : rowL l en k n p o .nil = R
  have HR := hd hR
  clear hR
  have sz := h.sz
  have hne : ¬ w.heap.size = r := by omega
  obtain ⟨W, hW⟩ : ∃ W, W = w.alloc (.cells #[.int .i64 0, .string ⟨#[]⟩, .slice none 0 0] 49) := ⟨_, rfl⟩
  have hWz : W.heap.size = w.heap.size + 1 := by rw [hW]; simp
  have hWr : RgS W r ao cap l en n p o := by rw [hW]; exact h.alloc_ _
  have hWb : But r w W := by rw [hW]; exact (But.refl r w).alloc _
  have hWc : W.cell? ⟨w.heap.size, 0, none⟩ = some (.int .i64 0) ∧ W.cell? ⟨w.heap.size, 1, none⟩ = some (.string ⟨#[]⟩) ∧ W.cell? ⟨w.heap.size, 2, none⟩ = some (.slice none 0 0) ∧ ∀ i, W.frozen? ⟨w.heap.size, i, none⟩ = false := by
    rw [hW]; exact ⟨by simp, by simp, by simp, fun i => by simp⟩
  have ha := h.hao _ (Nat.le_refl _)
  have htk := h.tkb
  clear h
  go_enter Try.func54, Try.ntmps54
  go_wp2_with fail
  rw [← hW]
  have HW := hd hW
  clear hW
  go_loopg [3] k (fun gk v wr => ∃ (n' p' : Nat) (acc : Fo) (xs : List Value) (vv : Value), vv = v ∧ RgS wr r ao cap l en n' p' o ∧ gk ≤ k ∧ 4 * (l.length - n') + 2 ≤ gk ∧ Hid (rowL l en gk n' p' o acc = R) ∧ acc.len ≤ p' + 0 ∧ wr.ownsRow (w.heap.size + 1) 49 3 v acc.len xs ∧ FoC wr (fun q => w.heap.size + 1 ≤ q ∧ v.ownBlock ≠ some q) xs acc ∧ But r W wr)
  case atStart => exact ⟨n, p, .nil, [], _, rfl, hWr, Nat.le_refl _, hf, HR, by simp [Fo.len], World.ownsRow_nil _ _ _ _, trivial, But.refl _ _⟩
  case round =>
    obtain ⟨n', p', acc, xs, v, hv, h1, hgk, hfu, hE, hal, hown, hfc, hbr⟩ := hrel
    subst hv
    have hzr := hbr.size
    rw [hWz] at hzr
    have hp60 := h1.pl
    have e0 : wr.cell? ⟨w.heap.size, 0, none⟩ = some (.int .i64 0) := by rw [hbr.cell (by omega) hne]; exact hWc.1
    have e1 : wr.cell? ⟨w.heap.size, 1, none⟩ = some (.string ⟨#[]⟩) := by rw [hbr.cell (by omega) hne]; exact hWc.2.1
    have e2 : wr.cell? ⟨w.heap.size, 2, none⟩ = some (.slice none 0 0) := by rw [hbr.cell (by omega) hne]; exact hWc.2.2.1
    have ef : ∀ i, wr.frozen? ⟨w.heap.size, i, none⟩ = false := fun i => by rw [hbr.frozen (by omega) hne]; exact hWc.2.2.2 i
    obtain ⟨j, rfl⟩ : ∃ j, gk = j + 1 := ⟨gk - 1, by omega⟩
    have I := H j (by omega) n' p' o wr h1 (by omega)
    have FI := (far l en j).item n' p' o
    have hEE := hE.out
    rw [rowL] at hEE
    cases hI : item l en j n' p' o with
    | out =>
      rw [hI] at I
      clear hEE hE HR hI
      go_wp2_with fail
      refine I.mono ?_
      rintro e w1 h2
      exact h2.elim
    | err c a =>
      rw [hI] at I hEE
      simp only at hEE
      subst hEE
      clear hE HR hI FI
      have hown1W := fun (w1 : World) (hb1 : But r wr w1) => owns_but hown hb1 (show r < w.heap.size + 1 by omega)
      by_cases hlen : acc.len = 1
      · skip
        obtain ⟨u, rfl, hu⟩ := FoC_one hfc hlen
        generalize acc.at_ 0 = y at *
        rw [hlen] at hown hown1W
        have huu := hu
        obtain ⟨hl, ao', cap', rfl, hin⟩ := hu
        clear hin
        obtain ⟨g, capg, rfl, hg1, hg2, -, -, -⟩ := owns_first hown
        go_wp2_with fail
        refine I.mono ?_
        rintro e w1 ⟨xi, xs', xq, xm, xk, rfl, h2, hb1⟩
        have z1 := hb1.size
        obtain ⟨g', capg', hgg, -, -, gc0, gc1, gc2⟩ := owns_first (hown1W w1 hb1)
        cases hgg
        have hlt : w.heap.size < w1.heap.size := by omega
        have e0' : w1.cell? ⟨w.heap.size, 0, none⟩ = some (.int .i64 0) := by rw [hb1.cell (by omega) hne]; exact e0
        have e1' : w1.cell? ⟨w.heap.size, 1, none⟩ = some (.string ⟨#[]⟩) := by rw [hb1.cell (by omega) hne]; exact e1
        have e2' : w1.cell? ⟨w.heap.size, 2, none⟩ = some (.slice none 0 0) := by rw [hb1.cell (by omega) hne]; exact e2
        have ef' : ∀ i, w1.frozen? ⟨w.heap.size, i, none⟩ = false := fun i => by rw [hb1.frozen (by omega) hne]; exact ef i
        have gc : ∀ X i, (w1.alloc X).cell? ⟨w.heap.size, i, none⟩ = w1.cell? ⟨w.heap.size, i, none⟩ := fun X i => World.cell?_alloc_lt _ _ _ hlt
        have gf : ∀ X i, (w1.alloc X).frozen? ⟨w.heap.size, i, none⟩ = false := fun X i => by
          rw [World.frozen?_alloc_old _ _ _ (by simp; omega)]; exact ef' i
        have g0 : ∀ X, (w1.alloc X).cell? ⟨g, 0, none⟩ = some (.int .i64 y.op) := fun X => by rw [World.cell?_alloc_lt _ _ _ (show g < w1.heap.size by omega)]; exact gc0
        have g1 : ∀ X, (w1.alloc X).cell? ⟨g, 1, none⟩ = some (.string y.nm) := fun X => by rw [World.cell?_alloc_lt _ _ _ (show g < w1.heap.size by omega)]; exact gc1
        have g2 : ∀ X, (w1.alloc X).cell? ⟨g, 2, none⟩ = some (.slice ao' y.kids.len cap') := fun X => by rw [World.cell?_alloc_lt _ _ _ (show g < w1.heap.size by omega)]; exact gc2
        go_wp2_with fail
        refine bodyPost_ret (v := .agg #[.int .i64 y.op, .string y.nm, .slice ao' y.kids.len cap']) (by simp [results, Try.results54, go_sem, e0', e1', e2', hlt]) rfl ⟨_, _, _, _, _, rfl, ?_, ?_⟩
        · exact (((h2.off (by simp; omega) _).off (by simp; omega) _).off (by simp; omega) _).alloc_ _
        · exact (((((hWb.trans hbr).trans hb1).setCell (.inr (Nat.le_refl _)) _).setCell (.inr (Nat.le_refl _)) _).setCell (.inr (Nat.le_refl _)) _).alloc _
      · skip
        obtain ⟨aov, capv, rfl⟩ := owns_slice hown
        have hlb : ((acc.len : Int) == 1) = false := by simp; omega
        go_wp2_with fail
        refine I.mono ?_
        rintro e w1 ⟨xi, xs', xq, xm, xk, rfl, h2, hb1⟩
        have z1 := hb1.size
        have hlt : w.heap.size < w1.heap.size := by omega
        have e0' : w1.cell? ⟨w.heap.size, 0, none⟩ = some (.int .i64 0) := by rw [hb1.cell (by omega) hne]; exact e0
        have e1' : w1.cell? ⟨w.heap.size, 1, none⟩ = some (.string ⟨#[]⟩) := by rw [hb1.cell (by omega) hne]; exact e1
        have e2' : w1.cell? ⟨w.heap.size, 2, none⟩ = some (.slice none 0 0) := by rw [hb1.cell (by omega) hne]; exact e2
        have ef' : ∀ i, w1.frozen? ⟨w.heap.size, i, none⟩ = false := fun i => by rw [hb1.frozen (by omega) hne]; exact ef i
        have gc : ∀ X i, (w1.alloc X).cell? ⟨w.heap.size, i, none⟩ = w1.cell? ⟨w.heap.size, i, none⟩ := fun X i => World.cell?_alloc_lt _ _ _ hlt
        have gf : ∀ X i, (w1.alloc X).frozen? ⟨w.heap.size, i, none⟩ = false := fun X i => by
          rw [World.frozen?_alloc_old _ _ _ (by simp; omega)]; exact ef' i
        go_wp2_with fail
        refine bodyPost_ret (v := .agg #[.int .i64 3, .string ⟨#[]⟩, .slice aov acc.len capv]) (by simp [results, Try.results54, go_sem, e0', e1', e2', hlt]) rfl ⟨_, _, _, _, _, rfl, ?_, ?_⟩
        · exact (((h2.off (by simp; omega) _).off (by simp; omega) _).off (by simp; omega) _).alloc_ _
        · exact (((((hWb.trans hbr).trans hb1).setCell (.inr (Nat.le_refl _)) _).setCell (.inr (Nat.le_refl _)) _).setCell (.inr (Nat.le_refl _)) _).alloc _
    | ok x n2 p2 =>
      have FI2 := FI x n2 p2 hp60 hI
      cases x with
      | some x =>
        have hpp := FI2.2 (by simp)
        rw [hI] at I hEE
        simp only at hEE
        have HE := hd hEE
        clear hE HR hI hEE FI FI2
        go_wp2_with fail
        refine I.mono ?_
        rintro e w1 ⟨v1, rfl, hx, h2, hb1⟩
        have z1 := hb1.size
        have hxx := hx
        obtain ⟨u, rfl, hl, ao', cap', rfl, hin⟩ := hx
        clear hin
        have hown1 := owns_but hown hb1 (by omega)
        go_wp2_with (first | (at_builtin; go_must (refine wpList_append_own_at _ rfl _ _ 47 rfl (w.heap.size + 1) 49 i0 (.agg #[.int .i64 0, .string ⟨#[]⟩, .slice none 0 0]) 3 48 Try.underlying47 hi iz0 iz1 iz2 rfl (by decide) _ _ _ rfl ((hown1.alloc _).alloc _) ⟨w1.heap.size + 1, 0, none⟩ 1 1 [.int .i64 x.op, .string x.nm, .slice ao' x.kids.len cap'] rfl rfl (cell3_new2 w1 _ _ _ _ _) (oneX _ _ _ _ _) (by unfold maxLen; omega) (by omega) (by simp; omega) ?_)))
        intro v' w3 hown3 hgrow _ hat
        
        have z3 := hgrow.size
        simp at z3
        have hvl : ∀ q, v.ownBlock = some q → w.heap.size + 1 ≤ q ∧ q < wr.heap.size := fun q e => hown.lt q e
        go_wp2_with fail
        go_roundg j
        case measure => omega
        case rel =>
          refine ⟨n2, p2, acc.snoc x, _, v', rfl, ?_, by omega, by omega, HE, by rw [Fo.len_snoc]; omega, by rw [Fo.len_snoc]; exact hown3, ?_, ?_⟩
          · exact h2.kp (S := fun q => q < w.heap.size) (Kp.grown (((Kp.refl _ w1).alloc _).alloc _) hgrow (fun q e => .inl (by have := (hvl q e).1; omega))) sz htk
          · refine FoC_step (w1 := w1) (g := w1.heap.size + 2) hfc hxx.fov hzr (by omega) ?_ ?_ (fun q e => (hvl q e).2) z1 (by simpa using hat)
            · exact Kp.grown (((Kp.of_but hb1 (by omega)).alloc _).alloc _) hgrow (fun q e => .inl fun hs => hs.2 e)
            · exact Kp.grown (((Kp.refl _ w1).alloc _).alloc _) hgrow (fun q e => .inl fun hs => by have := (hvl q e).2; omega)
          · exact (((hbr.trans hb1).alloc _).alloc _).grown hgrow (fun q e => by have := (hvl q e).1; omega)
      | none =>
        obtain ⟨rfl, rfl⟩ := FI2.1 rfl
        rw [hI] at I hEE
        simp only at hEE
        subst hEE
        clear hE HR hI FI FI2
        have hown1W := fun (w1 : World) (hb1 : But r wr w1) => owns_but hown hb1 (show r < w.heap.size + 1 by omega)
        by_cases hlen : acc.len = 1
        · have hmk : mk 3 acc = acc.at_ 0 := if_pos hlen
          obtain ⟨u, rfl, hu⟩ := FoC_one hfc hlen
          generalize acc.at_ 0 = y at *
          rw [hlen] at hown hown1W
          have huu := hu
          obtain ⟨hl, ao', cap', rfl, hin⟩ := hu
          clear hin
          obtain ⟨g, capg, rfl, hg1, hg2, -, -, -⟩ := owns_first hown
          go_wp2_with fail
          refine I.mono ?_
          rintro e w1 ⟨rfl, h2, hb1⟩
          have z1 := hb1.size
          obtain ⟨g', capg', hgg, -, -, gc0, gc1, gc2⟩ := owns_first (hown1W w1 hb1)
          cases hgg
          have hlt : w.heap.size < w1.heap.size := by omega
          have e0' : w1.cell? ⟨w.heap.size, 0, none⟩ = some (.int .i64 0) := by rw [hb1.cell (by omega) hne]; exact e0
          have e1' : w1.cell? ⟨w.heap.size, 1, none⟩ = some (.string ⟨#[]⟩) := by rw [hb1.cell (by omega) hne]; exact e1
          have e2' : w1.cell? ⟨w.heap.size, 2, none⟩ = some (.slice none 0 0) := by rw [hb1.cell (by omega) hne]; exact e2
          have ef' : ∀ i, w1.frozen? ⟨w.heap.size, i, none⟩ = false := fun i => by rw [hb1.frozen (by omega) hne]; exact ef i
          have gc : ∀ X i, (w1.alloc X).cell? ⟨w.heap.size, i, none⟩ = w1.cell? ⟨w.heap.size, i, none⟩ := fun X i => World.cell?_alloc_lt _ _ _ hlt
          have gf : ∀ X i, (w1.alloc X).frozen? ⟨w.heap.size, i, none⟩ = false := fun X i => by
            rw [World.frozen?_alloc_old _ _ _ (by simp; omega)]; exact ef' i
          have g0 : ∀ X, (w1.alloc X).cell? ⟨g, 0, none⟩ = some (.int .i64 y.op) := fun X => by rw [World.cell?_alloc_lt _ _ _ (show g < w1.heap.size by omega)]; exact gc0
          have g1 : ∀ X, (w1.alloc X).cell? ⟨g, 1, none⟩ = some (.string y.nm) := fun X => by rw [World.cell?_alloc_lt _ _ _ (show g < w1.heap.size by omega)]; exact gc1
          have g2 : ∀ X, (w1.alloc X).cell? ⟨g, 2, none⟩ = some (.slice ao' y.kids.len cap') := fun X => by rw [World.cell?_alloc_lt _ _ _ (show g < w1.heap.size by omega)]; exact gc2
          go_wp2_with fail
          refine bodyPost_ret (v := .agg #[.int .i64 y.op, .string y.nm, .slice ao' y.kids.len cap']) (by simp [results, Try.results54, go_sem, e0', e1', e2', hlt]) rfl ⟨_, rfl, ?_, ?_, ?_⟩
          · rw [hmk]; refine ⟨_, rfl, ?_⟩; exact huu.kp (((((Kp.of_but hb1 (by omega)).setCell (.inl (fun hs => absurd hs.1 (Nat.not_succ_le_self _))) _).setCell (.inl (fun hs => absurd hs.1 (Nat.not_succ_le_self _))) _).setCell (.inl (fun hs => absurd hs.1 (Nat.not_succ_le_self _))) _).alloc _) (fun k _ h => by omega)
          · exact (((h2.off (by simp; omega) ha _).off (by simp; omega) ha _).off (by simp; omega) ha _).alloc_ _
          · exact (((((hWb.trans hbr).trans hb1).setCell (.inr (Nat.le_refl _)) _).setCell (.inr (Nat.le_refl _)) _).setCell (.inr (Nat.le_refl _)) _).alloc _
        · have hmk : mk 3 acc = ⟨3, ⟨#[]⟩, acc⟩ := if_neg hlen
          obtain ⟨aov, capv, rfl⟩ := owns_slice hown
          have hlb : ((acc.len : Int) == 1) = false := by simp; omega
          go_wp2_with fail
          refine I.mono ?_
          rintro e w1 ⟨rfl, h2, hb1⟩
          have z1 := hb1.size
          have hlt : w.heap.size < w1.heap.size := by omega
          have e0' : w1.cell? ⟨w.heap.size, 0, none⟩ = some (.int .i64 0) := by rw [hb1.cell (by omega) hne]; exact e0
          have e1' : w1.cell? ⟨w.heap.size, 1, none⟩ = some (.string ⟨#[]⟩) := by rw [hb1.cell (by omega) hne]; exact e1
          have e2' : w1.cell? ⟨w.heap.size, 2, none⟩ = some (.slice none 0 0) := by rw [hb1.cell (by omega) hne]; exact e2
          have ef' : ∀ i, w1.frozen? ⟨w.heap.size, i, none⟩ = false := fun i => by rw [hb1.frozen (by omega) hne]; exact ef i
          have gc : ∀ X i, (w1.alloc X).cell? ⟨w.heap.size, i, none⟩ = w1.cell? ⟨w.heap.size, i, none⟩ := fun X i => World.cell?_alloc_lt _ _ _ hlt
          have gf : ∀ X i, (w1.alloc X).frozen? ⟨w.heap.size, i, none⟩ = false := fun X i => by
            rw [World.frozen?_alloc_old _ _ _ (by simp; omega)]; exact ef' i
          go_wp2_with fail
          refine bodyPost_ret (v := .agg #[.int .i64 3, .string ⟨#[]⟩, .slice aov acc.len capv]) (by simp [results, Try.results54, go_sem, e0', e1', e2', hlt]) rfl ⟨_, rfl, ?_, ?_, ?_⟩
          · rw [hmk]; refine ⟨_, rfl, ?_⟩; exact FoV_owned ((owns_setCell (owns_setCell (owns_setCell (hown1W w1 hb1) (by simp)) (by simp)) (by simp)).alloc _) (hfc.kp (T := fun q => w.heap.size ≤ q) (((((Kp.of_but hb1 (by omega)).setCell (.inl (fun hs => absurd hs.1 (Nat.not_succ_le_self _))) _).setCell (.inl (fun hs => absurd hs.1 (Nat.not_succ_le_self _))) _).setCell (.inl (fun hs => absurd hs.1 (Nat.not_succ_le_self _))) _).alloc _) (fun k _ h => by omega)) (fun _ h => h) (fun k h => by omega) (show acc.len ≤ _ by omega)
          · exact (((h2.off (by simp; omega) ha _).off (by simp; omega) ha _).off (by simp; omega) ha _).alloc_ _
          · exact (((((hWb.trans hbr).trans hb1).setCell (.inr (Nat.le_refl _)) _).setCell (.inr (Nat.le_refl _)) _).setCell (.inr (Nat.le_refl _)) _).alloc _

end
end Go.Proofs.Ythbbfddclhcoaaa
