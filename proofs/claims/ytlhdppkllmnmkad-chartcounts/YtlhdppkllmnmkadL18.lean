/- A grammar in memory of its own, the program's way: gram.Own. -/
import Derived.Test.YtlhdppkllmnmkadL03
namespace Go.Proofs.Ytlhdppkllmnmkad.G
open Go.RowKit
theorem stw {a b : World} {p : Nat} {u v : Value} (st : Below a.heap.size a b) (h : a.cell? ⟨p, 0, none⟩ = some u ∧ a.cell? ⟨p, 1, none⟩ = some v) :
    b.cell? ⟨p, 0, none⟩ = some u ∧ b.cell? ⟨p, 1, none⟩ = some v := ⟨bkeep st h.1, bkeep st h.2⟩
set_option maxRecDepth 100000 in
set_option maxHeartbeats 16000000 in
theorem own_any (g : Gm) (va : Value) (w : World) (ha : GV w All va g) (hs : Small g.rules) :
    Calls Try.prog 87 #[va] w fun e w' => ∃ v, e = .returned v ∧ GV w' (fun k => w.heap.size ≤ k) v g ∧ Below w.heap.size w w' := by
  obtain ⟨i0, hi, iz0, iz1, iz2⟩ := info_parts Try.infoRule
  obtain ⟨j0, hj, jz0, jz1, jz2⟩ := info_parts Try.infoInt
  obtain ⟨ua, rfl, ra⟩ := ha
  obtain ⟨ao, cap, rfl⟩ := ra.slice
  have hl := ra.1
  have h4 := hs.1
  obtain ⟨W, hW⟩ : ∃ W, W = (w.alloc (.cells #[.int .i64 g.vars, .int .i64 g.terms, .int .i64 g.start, .slice ao g.rules.length cap] 24)).alloc (.cells #[.int .i64 0, .int .i64 0, .int .i64 0, .slice none 0 0] 24) := ⟨_, rfl⟩
  have hWz : W.heap.size = w.heap.size + 2 := by rw [hW]; simp
  have hWb : Below w.heap.size w W := by rw [hW]; exact al2 _ _ _
  have hW0 : W.cell? ⟨w.heap.size, 0, none⟩ = some (.int .i64 g.vars) := by rw [hW]; simp
  have hW1 : W.cell? ⟨w.heap.size, 1, none⟩ = some (.int .i64 g.terms) := by rw [hW]; simp
  have hW2 : W.cell? ⟨w.heap.size, 2, none⟩ = some (.int .i64 g.start) := by rw [hW]; simp
  have hW3 : W.cell? ⟨w.heap.size, 3, none⟩ = some (.slice ao g.rules.length cap) := by rw [hW]; simp
  have hWf : ∀ i, W.frozen? ⟨w.heap.size, i, none⟩ = false := by rw [hW]; exact fun i => by simp [go_sem]
  have hV0 : W.cell? ⟨w.heap.size + 1, 0, none⟩ = some (.int .i64 0) := by rw [hW]; simp
  have hV1 : W.cell? ⟨w.heap.size + 1, 1, none⟩ = some (.int .i64 0) := by rw [hW]; simp
  have hV2 : W.cell? ⟨w.heap.size + 1, 2, none⟩ = some (.int .i64 0) := by rw [hW]; simp
  have hV3 : W.cell? ⟨w.heap.size + 1, 3, none⟩ = some (.slice none 0 0) := by rw [hW]; simp
  have hVf : ∀ i, W.frozen? ⟨w.heap.size + 1, i, none⟩ = false := by rw [hW]; exact fun i => by simp [go_sem]
  go_enter Try.func87, Try.ntmps87
  go_wp2_with (first | (refine wpList_make_full _ rfl _ _ 22 rfl (w.heap.size + 2) 77 i0 (.agg #[.int .i64 0, .slice none 0 0]) 2 Try.underlying22 hi iz0 iz1 .i64 .i64 _ _ g.rules.length rfl rfl rfl rfl (by rw [iz2]; omega) (by unfold maxLen; omega) (by simp) ?_))
  intro w1 own1 grow1
  rw [← hW] at grow1
  have hb1 := grown_below grow1
  have HW := hd hW
  clear hW grow1
  obtain ⟨gb, hgb⟩ : ∃ gb, gb = w.heap.size + 1 + 1 := ⟨_, rfl⟩
  rw [← hgb] at own1 ⊢
  have hgw : w.heap.size + 2 ≤ gb := by omega
  have HGB := hd hgb
  clear hgb
  replace own1 := owns_mono own1 hgw
  obtain ⟨xs0, hxs0⟩ : ∃ xs0, xs0 = (madeCells #[Value.int .i64 0, .slice none 0 0] (g.rules.length * 2)).toList := ⟨_, rfl⟩
  rw [← hxs0] at own1
  clear hxs0
  have t3 := bkeep hb1 hW3
  have b1 : Below W.heap.size W w1 := hb1
  go_wp2_with fail
  go_loopw [13] (fun i wr => ∃ (k : Nat) (xs : List Value), k ≤ g.rules.length ∧ i = .int .i64 k ∧ wr.ownsRow (w.heap.size + 2) 77 2 (.slice (some ⟨gb, 0, none⟩) g.rules.length g.rules.length) g.rules.length xs ∧ RC wr (fun q => w.heap.size + 2 ≤ q ∧ q ≠ gb) (xs.take (k * 2)) (g.rules.take k) ∧ Below W.heap.size W wr) (fun i _ => g.rules.length - (intOf i).toNat)
  case atStart => exact ⟨0, xs0, Nat.zero_le _, rfl, own1, trivial, b1⟩
  case round =>
    obtain ⟨k, xs, hk, rfl, hown, hrc, hb⟩ := hrel
    have bel : Below w.heap.size w wr := bthen hWb hb
    have hxl := hown.1
    have hgr : gb < wr.heap.size := (hown.lt gb rfl).2
    by_cases hlt : k < g.rules.length
    · obtain ⟨b, o, rfl, c0, ar, cr, c1, hc⟩ := (ra.lw bel).at_ hlt
      have hxs : g.rules[k].right.length ≤ 100 := hs.2 k hlt
      have htk : Hid (g.rules.take (k + 1) = g.rules.take k ++ [g.rules[k]]) := hd (take_snoc _ hlt)
      generalize g.rules[k] = x at *
      obtain ⟨V, hV⟩ : ∃ V, V = wr.alloc (.cells #[.int .i64 x.left, .slice ar x.right.length cr] 77) := ⟨_, rfl⟩
      have hVb : Below wr.heap.size wr V := by rw [hV]; exact al1 _ _
      have hS0 : V.cell? ⟨wr.heap.size, 0, none⟩ = some (.int .i64 x.left) ∧ V.cell? ⟨wr.heap.size, 1, none⟩ = some (.slice ar x.right.length cr) := ⟨by rw [hV]; simp, by rw [hV]; simp⟩
      have hSd := stw (drw1 V) hS0
      have cV := (hc.lw hVb).lw (drw1 V)
      have oV := owns_below (owns_below hown hVb) (drw1 V)
      have hVz : V.drew.heap.size = wr.heap.size + 1 := by show V.heap.size = _; rw [hV]; simp
      have bV : Below W.heap.size W V.drew := bthen hb (bthen hVb (drw1 V))
      have kV : Below wr.heap.size wr V.drew := bthen hVb (drw1 V)
      go_wp2_with fail
      rw [← hV]
      have HV := hd hV
      clear hV hS0
      refine wp_region_noPanic ?_
      refine wp_region_held_drew (S := fun w' => w'.cell? ⟨wr.heap.size, 0, none⟩ = some (.int .i64 x.left) ∧ w'.cell? ⟨wr.heap.size, 1, none⟩ = some (.slice ar x.right.length cr)) (by kernel_rfl) hSd ?_
      intro hSw
      obtain ⟨y0, hy0⟩ : ∃ y0, y0 = V.drew := ⟨_, rfl⟩
      rw [← hy0] at hSw cV oV hVz bV kV ⊢
      clear hy0
      refine wpAnyH_take (i := 0) (v := ?v1) rfl (by kernel_rfl) (by kernel_rfl) (by kernel_rfl) (fun _ _ _ h => np_panic h) (Or.inl ⟨by rfl, ?hy1⟩) (by assumption) ?_
      case hy1 => (intro w' hS'; (try dsimp only at hS'); go_simp; try with_reducible rfl)
      simp only [Act.put, List.setIfInBounds_toArray, List.set_cons_zero, List.set_cons_succ, List.getElem_toArray, List.getElem_cons_zero]
      refine wpAnyH_take (i := 1) (v := ?v2) rfl (by kernel_rfl) (by kernel_rfl) (by kernel_rfl) (fun _ _ _ h => np_panic h) (Or.inl ⟨by rfl, ?hy2⟩) (by assumption) ?_
      case hy2 => (intro w' hS'; (try dsimp only at hS'); go_simp; try with_reducible rfl)
      simp only [Act.put, List.setIfInBounds_toArray, List.set_cons_zero, List.set_cons_succ, List.getElem_toArray, List.getElem_cons_succ, List.getElem_cons_zero]
      refine wpAnyH_take (i := 2) (v := ?v3) rfl (by kernel_rfl) (by kernel_rfl) (by kernel_rfl) (fun _ _ _ h => np_panic h) (Or.inl ⟨by rfl, ?hy3⟩) (by assumption) ?_
      case hy3 => (intro w' hS'; (try dsimp only at hS'); go_simp; try with_reducible rfl)
      simp only [Act.put, List.setIfInBounds_toArray, List.set_cons_zero, List.set_cons_succ, List.getElem_toArray, List.getElem_cons_succ, List.getElem_cons_zero]
      refine wpAnyH_take (i := 3) (v := ?v4) rfl (by kernel_rfl) (by kernel_rfl) (by kernel_rfl) (fun _ _ _ h => np_panic h) (Or.inl ⟨by rfl, ?hy4⟩) (by assumption) ?_
      case hy4 => (intro w' hS'; (try dsimp only at hS'); go_simp; try with_reducible rfl)
      simp only [Act.put, List.setIfInBounds_toArray, List.set_cons_zero, List.set_cons_succ, List.getElem_toArray, List.getElem_cons_succ, List.getElem_cons_zero]
      refine wpAnyH_take (i := 4) (v := ?v5) rfl (by kernel_rfl) (by kernel_rfl) (by kernel_rfl) (fun _ _ _ h => np_panic h) (Or.inl ⟨by rfl, ?hy5⟩) (by assumption) ?_
      case hy5 => (intro w' hS'; (try dsimp only at hS'); go_simp; try with_reducible rfl)
      simp only [Act.put, List.setIfInBounds_toArray, List.set_cons_zero, List.set_cons_succ, List.getElem_toArray, List.getElem_cons_succ, List.getElem_cons_zero]
      refine wpAnyH_take (i := 5) (v := ?v6) rfl (by kernel_rfl) (by kernel_rfl) (by kernel_rfl) (fun _ _ _ h => np_panic h) (Or.inl ⟨by rfl, ?hy6⟩) (by assumption) ?_
      case hy6 => (intro w' hS'; (try dsimp only at hS'); go_simp; try with_reducible rfl)
      simp only [Act.put, List.setIfInBounds_toArray, List.set_cons_zero, List.set_cons_succ, List.getElem_toArray, List.getElem_cons_succ, List.getElem_cons_zero]
      refine wpAnyH_ready (rs := [6]) (by kernel_rfl) (by simp) ?_
      refine AllReadyH.cons rfl (fun K hK => ?_) AllReadyH.nil
      refine step_ints rfl _ (.tmp 23) 35 rfl y0.heap.size 3 j0 Try.underlying35 hj jz0 jz1 jz2 (.slice none 0 0) 0 [] rfl (World.ownsRow_nil _ _ _ _) All (.slice ar x.right.length cr) x.right rfl cV (by omega) (Nat.le_refl _) ?_
      intro v5 w5 own5 grow5 hat5
      have g5 := grown_below grow5
      have hS5 := stw g5 hSw
      have z5 := g5.size
      have u5 : IsV w5 (fun q => wr.heap.size + 1 ≤ q) v5 x.right := IsV_owned (by simpa using own5) hc.1 (fun q e => by have := (own5.lt q e).1; omega)
      have o5 := owns_below oV g5
      obtain ⟨ao5, cap5, rfl⟩ := u5.slice
      have d0 : w5.cell? ⟨gb, k * 2, none⟩ = some xs[k * 2] := by rw [World.ownsRow.cellAt o5 (k * 2) (by omega)]; exact List.getElem?_eq_getElem (by omega)
      have d1 : w5.cell? ⟨gb, k * 2 + 1, none⟩ = some xs[k * 2 + 1] := by rw [World.ownsRow.cellAt o5 (k * 2 + 1) (by omega)]; exact List.getElem?_eq_getElem (by omega)
      have df := World.ownsRow.frozenAt o5
      refine hK.out _ _ hS5 ?_
      clear hK K
      intro hSw
      simp only [Act.put, List.setIfInBounds_toArray, List.set_cons_zero, List.set_cons_succ, List.getElem_toArray, List.getElem_cons_succ, List.getElem_cons_zero]
      refine wpAnyH_take (i := 7) (v := ?v7) rfl (by kernel_rfl) (by kernel_rfl) (by kernel_rfl) (fun _ _ _ h => np_panic h) (Or.inl ⟨by rfl, ?hy7⟩) (by assumption) ?_
      case hy7 => (intro w' hS'; (try dsimp only at hS'); go_simp; try with_reducible rfl)
      simp only [Act.put, List.setIfInBounds_toArray, List.set_cons_zero, List.set_cons_succ, List.getElem_toArray, List.getElem_cons_succ, List.getElem_cons_zero]
      refine wpAnyH_take (i := 8) (v := ?v8) rfl (by kernel_rfl) (by kernel_rfl) (by kernel_rfl) (fun _ _ _ h => np_panic h) (Or.inl ⟨by rfl, ?hy8⟩) (by assumption) ?_
      case hy8 => (intro w' hS'; (try dsimp only at hS'); go_simp; try with_reducible rfl)
      simp only [Act.put, List.setIfInBounds_toArray, List.set_cons_zero, List.set_cons_succ, List.getElem_toArray, List.getElem_cons_succ, List.getElem_cons_zero]
      refine wpAnyH_ready (rs := [9]) (by kernel_rfl) (by simp) ?_
      refine AllReadyH.cons rfl (fun K hK => ?_) AllReadyH.nil
      go_simp
      obtain ⟨w6, hw6⟩ : ∃ w6, w6 = (w5.setCell ⟨gb, k * 2, none⟩ (.int .i64 x.left)).setCell ⟨gb, k * 2 + 1, none⟩ (.slice ao5 x.right.length cap5) := ⟨_, rfl⟩
      have q5 := World.ownsRow.stored o5 (k * 2) (.int .i64 x.left)
      have q6 := World.ownsRow.stored q5.1 (k * 2 + 1) (.slice ao5 x.right.length cap5)
      rw [← hw6] at q6
      have own6 := q6.1
      have kk : ∀ q, q < w5.heap.size → q ≠ gb → w6.heap[q]? = w5.heap[q]? := fun q h1 h2 => by
        rw [hw6, Below.heap_setCell _ _ _ _ (by exact h2), Below.heap_setCell _ _ _ _ (by exact h2)]
      have z6 : w5.heap.size ≤ w6.heap.size := by rw [hw6]; simp
      have b6 : Below W.heap.size W w6 := by
        rw [hw6]
        exact ((bthen bV g5).setCell (p := ⟨gb, k * 2, none⟩) (by rw [hWz]; exact hgw) _).setCell (p := ⟨gb, k * 2 + 1, none⟩) (by rw [hWz]; exact hgw) _
      have n6 : gb ≠ wr.heap.size := by omega
      have S6 : w6.cell? ⟨wr.heap.size, 0, none⟩ = some (.int .i64 x.left) ∧ w6.cell? ⟨wr.heap.size, 1, none⟩ = some (.slice ar x.right.length cr) := ⟨(World.cell?_of_block (a := ⟨wr.heap.size, 0, none⟩) (kk wr.heap.size (by omega) n6.symm)).trans hS5.1, (World.cell?_of_block (a := ⟨wr.heap.size, 1, none⟩) (kk wr.heap.size (by omega) n6.symm)).trans hS5.2⟩
      have rc6 : RC w6 (fun q => w.heap.size + 2 ≤ q ∧ q ≠ gb) (((xs.set (k * 2) (.int .i64 x.left)).set (k * 2 + 1) (.slice ao5 x.right.length cap5)).take ((k + 1) * 2)) (g.rules.take (k + 1)) := by
        rw [htk.out, set2_take (by omega)]
        refine RC.snoc ?_ ?_
        · exact u5.kp ⟨z6, fun q h1 h2 => kk q h1 (by omega)⟩ (fun q _ h => by omega)
        · refine hrc.kp ⟨by omega, fun q h1 h2 => ?_⟩ (fun _ _ h => h)
          rw [kk q (by omega) h2.2, g5.block q (by omega), kV.block q h1]
      rw [← hw6]
      clear hw6
      refine hK.out _ _ S6 ?_
      clear hK K
      intro hSw
      try simp only [Act.put, List.setIfInBounds_toArray, List.set_cons_zero, List.set_cons_succ]
      refine wpAnyH_done (by kernel_rfl) (NoPanic.normal ?_) _
      go_wp2_with fail
      go_roundw
      case rel => exact ⟨k + 1, _, by omega, by go_num, own6, rc6, b6⟩
      case measure => simp [intOf]; omega
    · have hke : k = g.rules.length := by omega
      subst hke
      have s0 := bkeep hb hW0
      have s1 := bkeep hb hW1
      have s2 := bkeep hb hW2
      have s3 := bkeep hb hW3
      have r0 := bkeep hb hV0
      have r1 := bkeep hb hV1
      have r2 := bkeep hb hV2
      have r3 := bkeep hb hV3
      have sf : ∀ i, wr.frozen? ⟨w.heap.size, i, none⟩ = false := fun i => (World.frozen?_of_block (a := ⟨w.heap.size, i, none⟩) (hb.block _ (lt_of_cell hW0))).trans (hWf i)
      have rf : ∀ i, wr.frozen? ⟨w.heap.size + 1, i, none⟩ = false := fun i => (World.frozen?_of_block (a := ⟨w.heap.size + 1, i, none⟩) (hb.block _ (lt_of_cell hV0))).trans (hVf i)
      have hrs : RsV wr (fun q => w.heap.size + 2 ≤ q) (.slice (some ⟨gb, 0, none⟩) g.rules.length g.rules.length) g.rules := by
        rw [List.take_of_length_le (by rw [hxl]; omega), List.take_of_length_le (Nat.le_refl _)] at hrc
        exact RsV_owned hown hrc (fun _ h => h.1) (fun q e => (hown.lt q e).1) hl
      go_wp2_with fail
      refine bodyPost_ret (v := .agg #[.int .i64 g.vars, .int .i64 g.terms, .int .i64 g.start, .slice (some ⟨gb, 0, none⟩) g.rules.length g.rules.length]) (by simp [results, Try.results87, go_sem, r0, r1, r2, r3]) rfl ⟨_, rfl, ⟨_, rfl, ?_⟩, ?_⟩
      · refine hrs.kp (((((Kp.refl _ wr).setCell (.inl ?_) _).setCell (.inl ?_) _).setCell (.inl ?_) _).setCell (.inl ?_) _ |>.setCell (.inl ?_) _) (fun q _ h => by omega) <;> simp
      · exact ((((bel.setCell (p := ⟨w.heap.size, 3, none⟩) (Nat.le_refl _) _).setCell (p := ⟨w.heap.size + 1, 0, none⟩) (Nat.le_succ _) _).setCell (p := ⟨w.heap.size + 1, 1, none⟩) (Nat.le_succ _) _).setCell (p := ⟨w.heap.size + 1, 2, none⟩) (Nat.le_succ _) _).setCell (p := ⟨w.heap.size + 1, 3, none⟩) (Nat.le_succ _) _
end Go.Proofs.Ytlhdppkllmnmkad.G
