/- A grammar in memory of its own, the document's way. -/
import Derived.Test.YtlhdppkllmnmkadL03
namespace Go.Proofs.Ytlhdppkllmnmkad.G
open Go.RowKit
theorem st3 {a z : World} {p b o1 o2 : Nat} {u v t : Value} (st : Below a.heap.size a z) (h : a.cell? ⟨p, 3, none⟩ = some u ∧ a.cell? ⟨b, o1, none⟩ = some v ∧ a.cell? ⟨b, o2, none⟩ = some t) :
    z.cell? ⟨p, 3, none⟩ = some u ∧ z.cell? ⟨b, o1, none⟩ = some v ∧ z.cell? ⟨b, o2, none⟩ = some t := ⟨bkeep st h.1, bkeep st h.2.1, bkeep st h.2.2⟩
set_option maxRecDepth 100000 in
set_option maxHeartbeats 16000000 in
theorem ownGram_own (g : Gm) (va : Value) (w : World) (ha : GV w All va g) (hs : Small g.rules) :
    Calls Try.prog 40 #[va] w fun e w' => ∃ v xs, e = .returned (.agg #[.int .i64 g.vars, .int .i64 g.terms, .int .i64 g.start, v]) ∧ w'.ownsRow w.heap.size 77 2 v g.rules.length xs ∧ RC w' (fun q => w.heap.size ≤ q ∧ v.ownBlock ≠ some q) xs g.rules ∧ Below w.heap.size w w' := by
  obtain ⟨i0, hi, iz0, iz1, iz2⟩ := info_parts Try.infoRule
  obtain ⟨j0, hj, jz0, jz1, jz2⟩ := info_parts Try.infoInt
  obtain ⟨ua, rfl, ra⟩ := ha
  obtain ⟨ao, cap, rfl⟩ := ra.slice
  have hl := ra.1
  have h4 := hs.1
  obtain ⟨V, hV⟩ : ∃ V, V = (w.alloc (.cells #[.int .i64 g.vars, .int .i64 g.terms, .int .i64 g.start, .slice ao g.rules.length cap] 24)).alloc (.cells #[.int .i64 0, .int .i64 0, .int .i64 0, .slice none 0 0] 24) := ⟨_, rfl⟩
  have hVz : V.heap.size = w.heap.size + 2 := by rw [hV]; simp
  obtain ⟨W, hW⟩ : ∃ W, W = V.alloc (.cells #[.int .i64 g.vars, .int .i64 g.terms, .int .i64 g.start, .slice none 0 0] 24) := ⟨_, rfl⟩
  have hVW : Below V.heap.size V W := by rw [hW]; exact al1 _ _
  have hWz : W.heap.size = w.heap.size + 3 := by rw [hW]; simp; omega
  have hVb : Below w.heap.size w V := by rw [hV]; exact al2 _ _ _
  have hWb : Below w.heap.size w W := bthen hVb hVW
  have hW3 : W.cell? ⟨w.heap.size, 3, none⟩ = some (.slice ao g.rules.length cap) := bkeep hVW (by rw [hV]; simp)
  have hR0 : W.cell? ⟨w.heap.size + 1, 0, none⟩ = some (.int .i64 0) := bkeep hVW (by rw [hV]; simp)
  have hR1 : W.cell? ⟨w.heap.size + 1, 1, none⟩ = some (.int .i64 0) := bkeep hVW (by rw [hV]; simp)
  have hR2 : W.cell? ⟨w.heap.size + 1, 2, none⟩ = some (.int .i64 0) := bkeep hVW (by rw [hV]; simp)
  have hR3 : W.cell? ⟨w.heap.size + 1, 3, none⟩ = some (.slice none 0 0) := bkeep hVW (by rw [hV]; simp)
  have hRf : ∀ i, W.frozen? ⟨w.heap.size + 1, i, none⟩ = false := fun i => by
    rw [World.frozen?_of_block (w := V) (a := ⟨w.heap.size + 1, i, none⟩) (hVW.block (w.heap.size + 1) (by omega)), hV]; simp [go_sem]
  have hWo : ∀ i, W.cell? ⟨w.heap.size + 2, i, none⟩ = (V.alloc (.cells #[.int .i64 g.vars, .int .i64 g.terms, .int .i64 g.start, .slice none 0 0] 24)).cell? ⟨V.heap.size, i, none⟩ := fun i => by rw [hW, hVz]
  have hO0 : W.cell? ⟨w.heap.size + 2, 0, none⟩ = some (.int .i64 g.vars) := by rw [hWo]; simp
  have hO1 : W.cell? ⟨w.heap.size + 2, 1, none⟩ = some (.int .i64 g.terms) := by rw [hWo]; simp
  have hO2 : W.cell? ⟨w.heap.size + 2, 2, none⟩ = some (.int .i64 g.start) := by rw [hWo]; simp
  have hO3 : W.cell? ⟨w.heap.size + 2, 3, none⟩ = some (.slice none 0 0) := by rw [hWo]; simp
  have hOf : ∀ i, W.frozen? ⟨w.heap.size + 2, i, none⟩ = false := fun i => by rw [hW, ← hVz]; simp [go_sem]
  clear hWo
  go_enter Try.func40, Try.ntmps40
  go_wp2_with fail
  rw [← hV, ← hW]
  have HW := hd hW
  have HV := hd hV
  clear hW hV
  go_loopw [4] (fun i wr => ∃ (k : Nat) (v : Value) (xs : List Value), k ≤ g.rules.length ∧ i = .int .i64 k ∧ wr.ownsRow (w.heap.size + 3) 77 2 v k xs ∧ RC wr (fun q => w.heap.size + 3 ≤ q ∧ v.ownBlock ≠ some q) xs (g.rules.take k) ∧
    wr.cell? ⟨w.heap.size + 2, 0, none⟩ = some (.int .i64 g.vars) ∧ wr.cell? ⟨w.heap.size + 2, 1, none⟩ = some (.int .i64 g.terms) ∧ wr.cell? ⟨w.heap.size + 2, 2, none⟩ = some (.int .i64 g.start) ∧ wr.cell? ⟨w.heap.size + 2, 3, none⟩ = some v ∧ (∀ i, wr.frozen? ⟨w.heap.size + 2, i, none⟩ = false) ∧ But (w.heap.size + 2) W wr) (fun i _ => g.rules.length - (intOf i).toNat)
  case atStart => exact ⟨0, .slice none 0 0, [], Nat.zero_le _, rfl, World.ownsRow_nil _ _ _ _, trivial, hO0, hO1, hO2, hO3, hOf, But.refl _ _⟩
  case round =>
    obtain ⟨k, v, xs, hk, rfl, hown, hrc, o0, o1, o2, o3, hof, hbt⟩ := hrel
    have hz := hbt.size
    have bel : Below w.heap.size w wr := hWb.trans (hbt.below (by omega) (by omega))
    have s3 : wr.cell? ⟨w.heap.size, 3, none⟩ = some (.slice ao g.rules.length cap) := by rw [hbt.cell (by omega) (by omega)]; exact hW3
    by_cases hlt : k < g.rules.length
    · obtain ⟨b, o, rfl, c0, ar, cr, c1, hc⟩ := ra.at_ hlt
      have hbw : b < w.heap.size := lt_of_cell c0
      have hxs : g.rules[k].right.length ≤ 100 := hs.2 k hlt
      have htk : Hid (g.rules.take (k + 1) = g.rules.take k ++ [g.rules[k]]) := hd (take_snoc _ hlt)
      generalize g.rules[k] = x at *
      have hS0 : wr.cell? ⟨w.heap.size, 3, none⟩ = some (.slice (some ⟨b, o, none⟩) g.rules.length cap) ∧ wr.cell? ⟨b, o + k * 2, none⟩ = some (.int .i64 x.left) ∧ wr.cell? ⟨b, o + k * 2 + 1, none⟩ = some (.slice ar x.right.length cr) := ⟨s3, bkeep bel c0, bkeep bel c1⟩
      have hSd := st3 (drw1 wr) hS0
      have cV := (hc.lw bel).lw (drw1 wr)
      have oV := owns_below hown (drw1 wr)
      have hvl : ∀ q, v.ownBlock = some q → w.heap.size + 3 ≤ q ∧ q < wr.heap.size := fun q e => hown.lt q e
      have p3 := bkeep (drw1 wr) o3
      have bD := drw1 wr
      have zD : wr.drew.heap.size = wr.heap.size := rfl
      obtain ⟨aov, capv, rfl⟩ := owns_slice hown
      clear c0 c1 hS0
      go_wp2_with fail
      refine wp_region_noPanic ?_
      refine wp_region_held_drew (S := fun w' => w'.cell? ⟨w.heap.size, 3, none⟩ = some (.slice (some ⟨b, o, none⟩) g.rules.length cap) ∧ w'.cell? ⟨b, o + k * 2, none⟩ = some (.int .i64 x.left) ∧ w'.cell? ⟨b, o + k * 2 + 1, none⟩ = some (.slice ar x.right.length cr)) (by kernel_rfl) hSd ?_
      intro hSw
      obtain ⟨y0, hy0⟩ : ∃ y0, y0 = wr.drew := ⟨_, rfl⟩
      rw [← hy0] at hSw cV oV p3 bD zD ⊢
      clear hy0
      refine wpAnyH_take (i := 0) (v := ?v6) rfl (by kernel_rfl) (by kernel_rfl) (by kernel_rfl) (fun _ _ _ h => np_panic h) (Or.inl ⟨by rfl, ?hy6⟩) (by assumption) ?_
      case hy6 => (intro w' hS'; (try dsimp only at hS'); go_simp; try with_reducible rfl)
      simp only [Act.put, List.setIfInBounds_toArray, List.set_cons_zero, List.set_cons_succ, List.getElem_toArray, List.getElem_cons_zero]
      refine wpAnyH_take (i := 2) (v := ?v7) rfl (by kernel_rfl) (by kernel_rfl) (by kernel_rfl) (fun _ _ _ h => np_panic h) (Or.inl ⟨by rfl, ?hy7⟩) (by assumption) ?_
      case hy7 => (intro w' hS'; (try dsimp only at hS'); go_simp; try with_reducible rfl)
      simp only [Act.put, List.setIfInBounds_toArray, List.set_cons_zero, List.set_cons_succ, List.getElem_toArray, List.getElem_cons_succ, List.getElem_cons_zero]
      refine wpAnyH_take (i := 3) (v := ?v8) rfl (by kernel_rfl) (by kernel_rfl) (by kernel_rfl) (fun _ _ _ h => np_panic h) (Or.inl ⟨by rfl, ?hy8⟩) (by assumption) ?_
      case hy8 => (intro w' hS'; (try dsimp only at hS'); go_simp; try with_reducible rfl)
      simp only [Act.put, List.setIfInBounds_toArray, List.set_cons_zero, List.set_cons_succ, List.getElem_toArray, List.getElem_cons_succ, List.getElem_cons_zero]
      refine wpAnyH_take (i := 4) (v := ?v9) rfl (by kernel_rfl) (by kernel_rfl) (by kernel_rfl) (fun _ _ _ h => np_panic h) (Or.inl ⟨by rfl, ?hy9⟩) (by assumption) ?_
      case hy9 => (intro w' hS'; (try dsimp only at hS'); go_simp; try with_reducible rfl)
      simp only [Act.put, List.setIfInBounds_toArray, List.set_cons_zero, List.set_cons_succ, List.getElem_toArray, List.getElem_cons_succ, List.getElem_cons_zero]
      refine wpAnyH_take (i := 5) (v := ?v10) rfl (by kernel_rfl) (by kernel_rfl) (by kernel_rfl) (fun _ _ _ h => np_panic h) (Or.inl ⟨by rfl, ?hy10⟩) (by assumption) ?_
      case hy10 => (intro w' hS'; (try dsimp only at hS'); go_simp; try with_reducible rfl)
      simp only [Act.put, List.setIfInBounds_toArray, List.set_cons_zero, List.set_cons_succ, List.getElem_toArray, List.getElem_cons_succ, List.getElem_cons_zero]
      refine wpAnyH_take (i := 6) (v := ?v11) rfl (by kernel_rfl) (by kernel_rfl) (by kernel_rfl) (fun _ _ _ h => np_panic h) (Or.inl ⟨by rfl, ?hy11⟩) (by assumption) ?_
      case hy11 => (intro w' hS'; (try dsimp only at hS'); go_simp; try with_reducible rfl)
      simp only [Act.put, List.setIfInBounds_toArray, List.set_cons_zero, List.set_cons_succ, List.getElem_toArray, List.getElem_cons_succ, List.getElem_cons_zero]
      refine wpAnyH_take (i := 7) (v := ?v12) rfl (by kernel_rfl) (by kernel_rfl) (by kernel_rfl) (fun _ _ _ h => np_panic h) (Or.inl ⟨by rfl, ?hy12⟩) (by assumption) ?_
      case hy12 => (intro w' hS'; (try dsimp only at hS'); go_simp; try with_reducible rfl)
      simp only [Act.put, List.setIfInBounds_toArray, List.set_cons_zero, List.set_cons_succ, List.getElem_toArray, List.getElem_cons_succ, List.getElem_cons_zero]
      refine wpAnyH_take (i := 8) (v := ?v13) rfl (by kernel_rfl) (by kernel_rfl) (by kernel_rfl) (fun _ _ _ h => np_panic h) (Or.inl ⟨by rfl, ?hy13⟩) (by assumption) ?_
      case hy13 => (intro w' hS'; (try dsimp only at hS'); go_simp; try with_reducible rfl)
      simp only [Act.put, List.setIfInBounds_toArray, List.set_cons_zero, List.set_cons_succ, List.getElem_toArray, List.getElem_cons_succ, List.getElem_cons_zero]
      refine wpAnyH_take (i := 9) (v := ?v14) rfl (by kernel_rfl) (by kernel_rfl) (by kernel_rfl) (fun _ _ _ h => np_panic h) (Or.inl ⟨by rfl, ?hy14⟩) (by assumption) ?_
      case hy14 => (intro w' hS'; (try dsimp only at hS'); go_simp; try with_reducible rfl)
      simp only [Act.put, List.setIfInBounds_toArray, List.set_cons_zero, List.set_cons_succ, List.getElem_toArray, List.getElem_cons_succ, List.getElem_cons_zero]
      refine wpAnyH_take (i := 10) (v := ?v15) rfl (by kernel_rfl) (by kernel_rfl) (by kernel_rfl) (fun _ _ _ h => np_panic h) (Or.inl ⟨by rfl, ?hy15⟩) (by assumption) ?_
      case hy15 => (intro w' hS'; (try dsimp only at hS'); go_simp; try with_reducible rfl)
      simp only [Act.put, List.setIfInBounds_toArray, List.set_cons_zero, List.set_cons_succ, List.getElem_toArray, List.getElem_cons_succ, List.getElem_cons_zero]
      refine wpAnyH_take (i := 11) (v := ?v16) rfl (by kernel_rfl) (by kernel_rfl) (by kernel_rfl) (fun _ _ _ h => np_panic h) (Or.inl ⟨by rfl, ?hy16⟩) (by assumption) ?_
      case hy16 => (intro w' hS'; (try dsimp only at hS'); go_simp; try with_reducible rfl)
      simp only [Act.put, List.setIfInBounds_toArray, List.set_cons_zero, List.set_cons_succ, List.getElem_toArray, List.getElem_cons_succ, List.getElem_cons_zero]
      refine wpAnyH_take (i := 12) (v := ?v17) rfl (by kernel_rfl) (by kernel_rfl) (by kernel_rfl) (fun _ _ _ h => np_panic h) (Or.inl ⟨by rfl, ?hy17⟩) (by assumption) ?_
      case hy17 => (intro w' hS'; (try dsimp only at hS'); go_simp; try with_reducible rfl)
      simp only [Act.put, List.setIfInBounds_toArray, List.set_cons_zero, List.set_cons_succ, List.getElem_toArray, List.getElem_cons_succ, List.getElem_cons_zero]
      refine wpAnyH_take (i := 13) (v := ?v18) rfl (by kernel_rfl) (by kernel_rfl) (by kernel_rfl) (fun _ _ _ h => np_panic h) (Or.inl ⟨by rfl, ?hy18⟩) (by assumption) ?_
      case hy18 => (intro w' hS'; (try dsimp only at hS'); go_simp; try with_reducible rfl)
      simp only [Act.put, List.setIfInBounds_toArray, List.set_cons_zero, List.set_cons_succ, List.getElem_toArray, List.getElem_cons_succ, List.getElem_cons_zero]
      refine wpAnyH_take (i := 14) (v := ?v19) rfl (by kernel_rfl) (by kernel_rfl) (by kernel_rfl) (fun _ _ _ h => np_panic h) (Or.inl ⟨by rfl, ?hy19⟩) (by assumption) ?_
      case hy19 => (intro w' hS'; (try dsimp only at hS'); go_simp; try with_reducible rfl)
      simp only [Act.put, List.setIfInBounds_toArray, List.set_cons_zero, List.set_cons_succ, List.getElem_toArray, List.getElem_cons_succ, List.getElem_cons_zero]
      refine wpAnyH_ready (rs := [1, 15]) (by kernel_rfl) (by simp) ?_
      refine AllReadyH.cons rfl (fun K hK => ?_) (AllReadyH.cons rfl (fun K hK => ?_) AllReadyH.nil)
      · go_simp
        refine hK.out _ _ hSw ?_
        clear hK K
        intro hSw
        try simp only [Act.put, List.setIfInBounds_toArray, List.set_cons_zero, List.set_cons_succ]
        refine wpAnyH_ready (rs := [15]) (by kernel_rfl) (by simp) ?_
        refine AllReadyH.cons rfl (fun K hK => ?_) AllReadyH.nil
        refine step_ints rfl (.tmp 28) (.tmp 34) 35 rfl y0.heap.size 3 j0 Try.underlying35 hj jz0 jz1 jz2 (.slice none 0 0) 0 [] rfl (World.ownsRow_nil _ _ _ _) All (.slice ar x.right.length cr) x.right rfl cV (by omega) (Nat.le_refl _) ?_
        intro v5 w5 own5 grow5 hat5
        have g5 := grown_below grow5
        have hS5 := st3 g5 hSw
        have z5 := g5.size
        have u5 : IsV w5 (fun q => wr.heap.size ≤ q) v5 x.right := IsV_owned (by simpa using own5) hc.1 (fun q e => by have := (own5.lt q e).1; omega)
        have o5 := owns_below oV g5
        have p5 := bkeep g5 p3
        have b5 := bthen bD g5
        obtain ⟨ao5, cap5, rfl⟩ := u5.slice
        refine hK.out _ _ hS5 ?_
        clear hK K
        intro hSw
        simp only [Act.put, List.setIfInBounds_toArray, List.set_cons_zero, List.set_cons_succ, List.getElem_toArray, List.getElem_cons_succ, List.getElem_cons_zero]
        refine wpAnyH_take (i := 16) (v := ?v1) rfl (by kernel_rfl) (by kernel_rfl) (by kernel_rfl) (fun _ _ _ h => np_panic h) (Or.inl ⟨by rfl, ?hy1⟩) (by assumption) ?_
        case hy1 => (intro w' hS'; (try dsimp only at hS'); go_simp; try with_reducible rfl)
        simp only [Act.put, List.setIfInBounds_toArray, List.set_cons_zero, List.set_cons_succ, List.getElem_toArray, List.getElem_cons_succ, List.getElem_cons_zero]
        refine wpAnyH_ready (rs := [17]) (by kernel_rfl) (by simp) ?_
        refine AllReadyH.cons rfl (fun K hK => ?_) AllReadyH.nil
        go_simp
        obtain ⟨w6, hw6⟩ : ∃ w6, w6 = w5.alloc (.cells #[.int .i64 x.left, .slice ao5 x.right.length cap5] 77) := ⟨_, rfl⟩
        have g6 : Below w5.heap.size w5 w6 := by rw [hw6]; exact al1 _ _
        have hS6 := st3 g6 hSw
        have o6 := owns_below o5 g6
        have p6 := bkeep g6 p5
        have z6 : w6.heap.size = w5.heap.size + 1 := by rw [hw6]; simp
        have n6 : ∀ j u, [Value.int .i64 x.left, .slice ao5 x.right.length cap5][j]? = some u → w6.cell? ((⟨w5.heap.size, 0, none⟩ : Addr).add j) = some u := by rw [hw6]; exact cell2_new _ _ _ _ rfl
        rw [← hw6]
        clear hw6
        refine hK.out _ _ hS6 ?_
        clear hK K
        intro hSw
        try simp only [Act.put, List.setIfInBounds_toArray, List.set_cons_zero, List.set_cons_succ]
        refine wpAnyH_ready (rs := [18]) (by kernel_rfl) (by simp) ?_
        refine AllReadyH.cons rfl (fun K hK => ?_) AllReadyH.nil
        refine step_own rfl (.tmp 21) (.tmp 37) 22 rfl (w.heap.size + 3) 77 i0 (.agg #[.int .i64 0, .slice none 0 0]) 2 32 Try.underlying22 hi iz0 iz1 iz2 rfl (by decide) (.slice aov k capv) k xs rfl o6 ⟨w5.heap.size, 0, none⟩ 1 1 [.int .i64 x.left, .slice ao5 x.right.length cap5] rfl rfl n6 (oneRule _ _ _ _) (by unfold maxLen; omega) (by omega) (by omega) ?_
        intro v7 w7 own7 grow7 hat7
        have nr : ∀ q, q < w.heap.size + 3 → w7.heap[q]? = w6.heap[q]? := fun q hq => grow7.block q (by omega) (fun e => by have := (hvl q e.symm).1; omega)
        have hS7 : w7.cell? ⟨w.heap.size, 3, none⟩ = some (.slice (some ⟨b, o, none⟩) g.rules.length cap) ∧ w7.cell? ⟨b, o + k * 2, none⟩ = some (.int .i64 x.left) ∧ w7.cell? ⟨b, o + k * 2 + 1, none⟩ = some (.slice ar x.right.length cr) :=
          ⟨(World.cell?_of_block (a := ⟨w.heap.size, 3, none⟩) (nr w.heap.size (by omega))).trans hSw.1, (World.cell?_of_block (a := ⟨b, o + k * 2, none⟩) (nr b (by omega))).trans hSw.2.1, (World.cell?_of_block (a := ⟨b, o + k * 2 + 1, none⟩) (nr b (by omega))).trans hSw.2.2⟩
        have b6 := bthen b5 g6
        have m7 : ∀ i, w7.cell? ⟨w.heap.size + 2, i, none⟩ = wr.cell? ⟨w.heap.size + 2, i, none⟩ := fun i => World.cell?_of_block (a := ⟨w.heap.size + 2, i, none⟩) ((nr (w.heap.size + 2) (by omega)).trans (b6.block _ (by omega)))
        have p7 := (m7 3).trans o3
        have f7 : ∀ i, w7.frozen? ⟨w.heap.size + 2, i, none⟩ = false := fun i => (World.frozen?_of_block (a := ⟨w.heap.size + 2, i, none⟩) ((nr (w.heap.size + 2) (by omega)).trans (b6.block _ (by omega)))).trans (hof i)
        have q0 := (m7 0).trans o0
        have q1 := (m7 1).trans o1
        have q2 := (m7 2).trans o2
        have bt7 : But (w.heap.size + 2) W w7 := (hbt.trans (But.of_below b6)).grown grow7 (fun q e => by have := (hvl q e).1; omega)
        have z7 := grow7.size
        obtain ⟨ao7, cap7, rfl⟩ := owns_slice own7
        refine hK.out _ _ hS7 ?_
        clear hK K
        intro hSw
        simp only [Act.put, List.setIfInBounds_toArray, List.set_cons_zero, List.set_cons_succ, List.getElem_toArray, List.getElem_cons_succ, List.getElem_cons_zero]
        refine wpAnyH_take (i := 19) (v := ?v2) rfl (by kernel_rfl) (by kernel_rfl) (by kernel_rfl) (fun _ _ _ h => np_panic h) (Or.inl ⟨by rfl, ?hy2⟩) (by assumption) ?_
        case hy2 => (intro w' hS'; (try dsimp only at hS'); go_simp; try with_reducible rfl)
        simp only [Act.put, List.setIfInBounds_toArray, List.set_cons_zero, List.set_cons_succ, List.getElem_toArray, List.getElem_cons_succ, List.getElem_cons_zero]
        refine wpAnyH_ready (rs := [20]) (by kernel_rfl) (by simp) ?_
        refine AllReadyH.cons rfl (fun K hK => ?_) AllReadyH.nil
        go_simp
        obtain ⟨w8, hw8⟩ : ∃ w8, w8 = w7.setCell ⟨w.heap.size + 2, 3, none⟩ (.slice ao7 (k + 1) cap7) := ⟨_, rfl⟩
        have kk : ∀ q, q ≠ w.heap.size + 2 → w8.heap[q]? = w7.heap[q]? := fun q h2 => by rw [hw8, Below.heap_setCell _ _ _ _ (by exact h2)]
        have hS8 : w8.cell? ⟨w.heap.size, 3, none⟩ = some (.slice (some ⟨b, o, none⟩) g.rules.length cap) ∧ w8.cell? ⟨b, o + k * 2, none⟩ = some (.int .i64 x.left) ∧ w8.cell? ⟨b, o + k * 2 + 1, none⟩ = some (.slice ar x.right.length cr) :=
          ⟨(World.cell?_of_block (a := ⟨w.heap.size, 3, none⟩) (kk w.heap.size (by omega))).trans hS7.1, (World.cell?_of_block (a := ⟨b, o + k * 2, none⟩) (kk b (by omega))).trans hS7.2.1, (World.cell?_of_block (a := ⟨b, o + k * 2 + 1, none⟩) (kk b (by omega))).trans hS7.2.2⟩
        have bt8 : But (w.heap.size + 2) W w8 := by rw [hw8]; exact bt7.setCell (.inl rfl) _
        have own8 : w8.ownsRow (w.heap.size + 3) 77 2 (.slice ao7 (k + 1) cap7) (k + 1) (xs ++ [.int .i64 x.left, .slice ao5 x.right.length cap5]) := by rw [hw8]; exact owns_setCell own7 (by show w.heap.size + 2 < w.heap.size + 3; omega)
        have r0 : w8.cell? ⟨w.heap.size + 2, 0, none⟩ = some (.int .i64 g.vars) := by rw [hw8, World.cell?_setCell_other _ _ _ _ (by simp)]; exact q0
        have r1 : w8.cell? ⟨w.heap.size + 2, 1, none⟩ = some (.int .i64 g.terms) := by rw [hw8, World.cell?_setCell_other _ _ _ _ (by simp)]; exact q1
        have r2 : w8.cell? ⟨w.heap.size + 2, 2, none⟩ = some (.int .i64 g.start) := by rw [hw8, World.cell?_setCell_other _ _ _ _ (by simp)]; exact q2
        have r3 : w8.cell? ⟨w.heap.size + 2, 3, none⟩ = some (.slice ao7 (k + 1) cap7) := by rw [hw8]; exact World.cell?_setCell_same _ _ _ p7
        have rf : ∀ i, w8.frozen? ⟨w.heap.size + 2, i, none⟩ = false := fun i => by rw [hw8]; simp [go_sem, f7 i]
        have z8 : w8.heap.size = w7.heap.size := by rw [hw8]; simp
        have rc8 : RC w8 (fun q => w.heap.size + 3 ≤ q ∧ (Value.slice ao7 (k + 1) cap7).ownBlock ≠ some q) (xs ++ [.int .i64 x.left, .slice ao5 x.right.length cap5]) (g.rules.take (k + 1)) := by
          rw [htk.out]
          refine RC_step (w1 := w5) (g := w6.heap.size) hrc u5 (by omega) (by omega) ⟨by omega, fun q h1 h2 => ?_⟩ ⟨by omega, fun q h1 h2 => ?_⟩ (fun q e => (hvl q e).2) (by omega) hat7
          · rw [kk q (by omega), grow7.block q (by omega) (fun e => h2.2 e.symm), b6.block q h1]
          · rw [kk q (by omega), grow7.block q (by omega) (fun e => by have := (hvl q e.symm).2; omega), g6.block q h1]
        rw [← hw8]
        clear hw8
        refine hK.out _ _ hS8 ?_
        clear hK K
        intro hSw
        try simp only [Act.put, List.setIfInBounds_toArray, List.set_cons_zero, List.set_cons_succ]
        refine wpAnyH_done (by kernel_rfl) (NoPanic.normal ?_) _
        go_wp2_with fail
        go_roundw
        case rel => exact ⟨k + 1, _, _, by omega, by go_num, own8, rc8, r0, r1, r2, r3, rf, bt8⟩
        case measure => simp [intOf]; omega
      · refine step_ints rfl (.tmp 28) (.tmp 34) 35 rfl y0.heap.size 3 j0 Try.underlying35 hj jz0 jz1 jz2 (.slice none 0 0) 0 [] rfl (World.ownsRow_nil _ _ _ _) All (.slice ar x.right.length cr) x.right rfl cV (by omega) (Nat.le_refl _) ?_
        intro v5 w5 own5 grow5 hat5
        have g5 := grown_below grow5
        have hS5 := st3 g5 hSw
        have z5 := g5.size
        have u5 : IsV w5 (fun q => wr.heap.size ≤ q) v5 x.right := IsV_owned (by simpa using own5) hc.1 (fun q e => by have := (own5.lt q e).1; omega)
        have o5 := owns_below oV g5
        have p5 := bkeep g5 p3
        have b5 := bthen bD g5
        obtain ⟨ao5, cap5, rfl⟩ := u5.slice
        refine hK.out _ _ hS5 ?_
        clear hK K
        intro hSw
        simp only [Act.put, List.setIfInBounds_toArray, List.set_cons_zero, List.set_cons_succ, List.getElem_toArray, List.getElem_cons_succ, List.getElem_cons_zero]
        refine wpAnyH_take (i := 16) (v := ?v3) rfl (by kernel_rfl) (by kernel_rfl) (by kernel_rfl) (fun _ _ _ h => np_panic h) (Or.inl ⟨by rfl, ?hy3⟩) (by assumption) ?_
        case hy3 => (intro w' hS'; (try dsimp only at hS'); go_simp; try with_reducible rfl)
        simp only [Act.put, List.setIfInBounds_toArray, List.set_cons_zero, List.set_cons_succ, List.getElem_toArray, List.getElem_cons_succ, List.getElem_cons_zero]
        refine wpAnyH_ready (rs := [1, 17]) (by kernel_rfl) (by simp) ?_
        refine AllReadyH.cons rfl (fun K hK => ?_) (AllReadyH.cons rfl (fun K hK => ?_) AllReadyH.nil)
        · go_simp
          refine hK.out _ _ hSw ?_
          clear hK K
          intro hSw
          try simp only [Act.put, List.setIfInBounds_toArray, List.set_cons_zero, List.set_cons_succ]
          refine wpAnyH_ready (rs := [17]) (by kernel_rfl) (by simp) ?_
          refine AllReadyH.cons rfl (fun K hK => ?_) AllReadyH.nil
          go_simp
          obtain ⟨w6, hw6⟩ : ∃ w6, w6 = w5.alloc (.cells #[.int .i64 x.left, .slice ao5 x.right.length cap5] 77) := ⟨_, rfl⟩
          have g6 : Below w5.heap.size w5 w6 := by rw [hw6]; exact al1 _ _
          have hS6 := st3 g6 hSw
          have o6 := owns_below o5 g6
          have p6 := bkeep g6 p5
          have z6 : w6.heap.size = w5.heap.size + 1 := by rw [hw6]; simp
          have n6 : ∀ j u, [Value.int .i64 x.left, .slice ao5 x.right.length cap5][j]? = some u → w6.cell? ((⟨w5.heap.size, 0, none⟩ : Addr).add j) = some u := by rw [hw6]; exact cell2_new _ _ _ _ rfl
          rw [← hw6]
          clear hw6
          refine hK.out _ _ hS6 ?_
          clear hK K
          intro hSw
          try simp only [Act.put, List.setIfInBounds_toArray, List.set_cons_zero, List.set_cons_succ]
          refine wpAnyH_ready (rs := [18]) (by kernel_rfl) (by simp) ?_
          refine AllReadyH.cons rfl (fun K hK => ?_) AllReadyH.nil
          refine step_own rfl (.tmp 21) (.tmp 37) 22 rfl (w.heap.size + 3) 77 i0 (.agg #[.int .i64 0, .slice none 0 0]) 2 32 Try.underlying22 hi iz0 iz1 iz2 rfl (by decide) (.slice aov k capv) k xs rfl o6 ⟨w5.heap.size, 0, none⟩ 1 1 [.int .i64 x.left, .slice ao5 x.right.length cap5] rfl rfl n6 (oneRule _ _ _ _) (by unfold maxLen; omega) (by omega) (by omega) ?_
          intro v7 w7 own7 grow7 hat7
          have nr : ∀ q, q < w.heap.size + 3 → w7.heap[q]? = w6.heap[q]? := fun q hq => grow7.block q (by omega) (fun e => by have := (hvl q e.symm).1; omega)
          have hS7 : w7.cell? ⟨w.heap.size, 3, none⟩ = some (.slice (some ⟨b, o, none⟩) g.rules.length cap) ∧ w7.cell? ⟨b, o + k * 2, none⟩ = some (.int .i64 x.left) ∧ w7.cell? ⟨b, o + k * 2 + 1, none⟩ = some (.slice ar x.right.length cr) :=
            ⟨(World.cell?_of_block (a := ⟨w.heap.size, 3, none⟩) (nr w.heap.size (by omega))).trans hSw.1, (World.cell?_of_block (a := ⟨b, o + k * 2, none⟩) (nr b (by omega))).trans hSw.2.1, (World.cell?_of_block (a := ⟨b, o + k * 2 + 1, none⟩) (nr b (by omega))).trans hSw.2.2⟩
          have b6 := bthen b5 g6
          have m7 : ∀ i, w7.cell? ⟨w.heap.size + 2, i, none⟩ = wr.cell? ⟨w.heap.size + 2, i, none⟩ := fun i => World.cell?_of_block (a := ⟨w.heap.size + 2, i, none⟩) ((nr (w.heap.size + 2) (by omega)).trans (b6.block _ (by omega)))
          have p7 := (m7 3).trans o3
          have f7 : ∀ i, w7.frozen? ⟨w.heap.size + 2, i, none⟩ = false := fun i => (World.frozen?_of_block (a := ⟨w.heap.size + 2, i, none⟩) ((nr (w.heap.size + 2) (by omega)).trans (b6.block _ (by omega)))).trans (hof i)
          have q0 := (m7 0).trans o0
          have q1 := (m7 1).trans o1
          have q2 := (m7 2).trans o2
          have bt7 : But (w.heap.size + 2) W w7 := (hbt.trans (But.of_below b6)).grown grow7 (fun q e => by have := (hvl q e).1; omega)
          have z7 := grow7.size
          obtain ⟨ao7, cap7, rfl⟩ := owns_slice own7
          refine hK.out _ _ hS7 ?_
          clear hK K
          intro hSw
          simp only [Act.put, List.setIfInBounds_toArray, List.set_cons_zero, List.set_cons_succ, List.getElem_toArray, List.getElem_cons_succ, List.getElem_cons_zero]
          refine wpAnyH_take (i := 19) (v := ?v4) rfl (by kernel_rfl) (by kernel_rfl) (by kernel_rfl) (fun _ _ _ h => np_panic h) (Or.inl ⟨by rfl, ?hy4⟩) (by assumption) ?_
          case hy4 => (intro w' hS'; (try dsimp only at hS'); go_simp; try with_reducible rfl)
          simp only [Act.put, List.setIfInBounds_toArray, List.set_cons_zero, List.set_cons_succ, List.getElem_toArray, List.getElem_cons_succ, List.getElem_cons_zero]
          refine wpAnyH_ready (rs := [20]) (by kernel_rfl) (by simp) ?_
          refine AllReadyH.cons rfl (fun K hK => ?_) AllReadyH.nil
          go_simp
          obtain ⟨w8, hw8⟩ : ∃ w8, w8 = w7.setCell ⟨w.heap.size + 2, 3, none⟩ (.slice ao7 (k + 1) cap7) := ⟨_, rfl⟩
          have kk : ∀ q, q ≠ w.heap.size + 2 → w8.heap[q]? = w7.heap[q]? := fun q h2 => by rw [hw8, Below.heap_setCell _ _ _ _ (by exact h2)]
          have hS8 : w8.cell? ⟨w.heap.size, 3, none⟩ = some (.slice (some ⟨b, o, none⟩) g.rules.length cap) ∧ w8.cell? ⟨b, o + k * 2, none⟩ = some (.int .i64 x.left) ∧ w8.cell? ⟨b, o + k * 2 + 1, none⟩ = some (.slice ar x.right.length cr) :=
            ⟨(World.cell?_of_block (a := ⟨w.heap.size, 3, none⟩) (kk w.heap.size (by omega))).trans hS7.1, (World.cell?_of_block (a := ⟨b, o + k * 2, none⟩) (kk b (by omega))).trans hS7.2.1, (World.cell?_of_block (a := ⟨b, o + k * 2 + 1, none⟩) (kk b (by omega))).trans hS7.2.2⟩
          have bt8 : But (w.heap.size + 2) W w8 := by rw [hw8]; exact bt7.setCell (.inl rfl) _
          have own8 : w8.ownsRow (w.heap.size + 3) 77 2 (.slice ao7 (k + 1) cap7) (k + 1) (xs ++ [.int .i64 x.left, .slice ao5 x.right.length cap5]) := by rw [hw8]; exact owns_setCell own7 (by show w.heap.size + 2 < w.heap.size + 3; omega)
          have r0 : w8.cell? ⟨w.heap.size + 2, 0, none⟩ = some (.int .i64 g.vars) := by rw [hw8, World.cell?_setCell_other _ _ _ _ (by simp)]; exact q0
          have r1 : w8.cell? ⟨w.heap.size + 2, 1, none⟩ = some (.int .i64 g.terms) := by rw [hw8, World.cell?_setCell_other _ _ _ _ (by simp)]; exact q1
          have r2 : w8.cell? ⟨w.heap.size + 2, 2, none⟩ = some (.int .i64 g.start) := by rw [hw8, World.cell?_setCell_other _ _ _ _ (by simp)]; exact q2
          have r3 : w8.cell? ⟨w.heap.size + 2, 3, none⟩ = some (.slice ao7 (k + 1) cap7) := by rw [hw8]; exact World.cell?_setCell_same _ _ _ p7
          have rf : ∀ i, w8.frozen? ⟨w.heap.size + 2, i, none⟩ = false := fun i => by rw [hw8]; simp [go_sem, f7 i]
          have z8 : w8.heap.size = w7.heap.size := by rw [hw8]; simp
          have rc8 : RC w8 (fun q => w.heap.size + 3 ≤ q ∧ (Value.slice ao7 (k + 1) cap7).ownBlock ≠ some q) (xs ++ [.int .i64 x.left, .slice ao5 x.right.length cap5]) (g.rules.take (k + 1)) := by
            rw [htk.out]
            refine RC_step (w1 := w5) (g := w6.heap.size) hrc u5 (by omega) (by omega) ⟨by omega, fun q h1 h2 => ?_⟩ ⟨by omega, fun q h1 h2 => ?_⟩ (fun q e => (hvl q e).2) (by omega) hat7
            · rw [kk q (by omega), grow7.block q (by omega) (fun e => h2.2 e.symm), b6.block q h1]
            · rw [kk q (by omega), grow7.block q (by omega) (fun e => by have := (hvl q e.symm).2; omega), g6.block q h1]
          rw [← hw8]
          clear hw8
          refine hK.out _ _ hS8 ?_
          clear hK K
          intro hSw
          try simp only [Act.put, List.setIfInBounds_toArray, List.set_cons_zero, List.set_cons_succ]
          refine wpAnyH_done (by kernel_rfl) (NoPanic.normal ?_) _
          go_wp2_with fail
          go_roundw
          case rel => exact ⟨k + 1, _, _, by omega, by go_num, own8, rc8, r0, r1, r2, r3, rf, bt8⟩
          case measure => simp [intOf]; omega
        · go_simp
          obtain ⟨w6, hw6⟩ : ∃ w6, w6 = w5.alloc (.cells #[.int .i64 x.left, .slice ao5 x.right.length cap5] 77) := ⟨_, rfl⟩
          have g6 : Below w5.heap.size w5 w6 := by rw [hw6]; exact al1 _ _
          have hS6 := st3 g6 hSw
          have o6 := owns_below o5 g6
          have p6 := bkeep g6 p5
          have z6 : w6.heap.size = w5.heap.size + 1 := by rw [hw6]; simp
          have n6 : ∀ j u, [Value.int .i64 x.left, .slice ao5 x.right.length cap5][j]? = some u → w6.cell? ((⟨w5.heap.size, 0, none⟩ : Addr).add j) = some u := by rw [hw6]; exact cell2_new _ _ _ _ rfl
          rw [← hw6]
          clear hw6
          refine hK.out _ _ hS6 ?_
          clear hK K
          intro hSw
          try simp only [Act.put, List.setIfInBounds_toArray, List.set_cons_zero, List.set_cons_succ]
          refine wpAnyH_ready (rs := [1]) (by kernel_rfl) (by simp) ?_
          refine AllReadyH.cons rfl (fun K hK => ?_) AllReadyH.nil
          go_simp
          refine hK.out _ _ hSw ?_
          clear hK K
          intro hSw
          try simp only [Act.put, List.setIfInBounds_toArray, List.set_cons_zero, List.set_cons_succ]
          refine wpAnyH_ready (rs := [18]) (by kernel_rfl) (by simp) ?_
          refine AllReadyH.cons rfl (fun K hK => ?_) AllReadyH.nil
          refine step_own rfl (.tmp 21) (.tmp 37) 22 rfl (w.heap.size + 3) 77 i0 (.agg #[.int .i64 0, .slice none 0 0]) 2 32 Try.underlying22 hi iz0 iz1 iz2 rfl (by decide) (.slice aov k capv) k xs rfl o6 ⟨w5.heap.size, 0, none⟩ 1 1 [.int .i64 x.left, .slice ao5 x.right.length cap5] rfl rfl n6 (oneRule _ _ _ _) (by unfold maxLen; omega) (by omega) (by omega) ?_
          intro v7 w7 own7 grow7 hat7
          have nr : ∀ q, q < w.heap.size + 3 → w7.heap[q]? = w6.heap[q]? := fun q hq => grow7.block q (by omega) (fun e => by have := (hvl q e.symm).1; omega)
          have hS7 : w7.cell? ⟨w.heap.size, 3, none⟩ = some (.slice (some ⟨b, o, none⟩) g.rules.length cap) ∧ w7.cell? ⟨b, o + k * 2, none⟩ = some (.int .i64 x.left) ∧ w7.cell? ⟨b, o + k * 2 + 1, none⟩ = some (.slice ar x.right.length cr) :=
            ⟨(World.cell?_of_block (a := ⟨w.heap.size, 3, none⟩) (nr w.heap.size (by omega))).trans hSw.1, (World.cell?_of_block (a := ⟨b, o + k * 2, none⟩) (nr b (by omega))).trans hSw.2.1, (World.cell?_of_block (a := ⟨b, o + k * 2 + 1, none⟩) (nr b (by omega))).trans hSw.2.2⟩
          have b6 := bthen b5 g6
          have m7 : ∀ i, w7.cell? ⟨w.heap.size + 2, i, none⟩ = wr.cell? ⟨w.heap.size + 2, i, none⟩ := fun i => World.cell?_of_block (a := ⟨w.heap.size + 2, i, none⟩) ((nr (w.heap.size + 2) (by omega)).trans (b6.block _ (by omega)))
          have p7 := (m7 3).trans o3
          have f7 : ∀ i, w7.frozen? ⟨w.heap.size + 2, i, none⟩ = false := fun i => (World.frozen?_of_block (a := ⟨w.heap.size + 2, i, none⟩) ((nr (w.heap.size + 2) (by omega)).trans (b6.block _ (by omega)))).trans (hof i)
          have q0 := (m7 0).trans o0
          have q1 := (m7 1).trans o1
          have q2 := (m7 2).trans o2
          have bt7 : But (w.heap.size + 2) W w7 := (hbt.trans (But.of_below b6)).grown grow7 (fun q e => by have := (hvl q e).1; omega)
          have z7 := grow7.size
          obtain ⟨ao7, cap7, rfl⟩ := owns_slice own7
          refine hK.out _ _ hS7 ?_
          clear hK K
          intro hSw
          simp only [Act.put, List.setIfInBounds_toArray, List.set_cons_zero, List.set_cons_succ, List.getElem_toArray, List.getElem_cons_succ, List.getElem_cons_zero]
          refine wpAnyH_take (i := 19) (v := ?v5) rfl (by kernel_rfl) (by kernel_rfl) (by kernel_rfl) (fun _ _ _ h => np_panic h) (Or.inl ⟨by rfl, ?hy5⟩) (by assumption) ?_
          case hy5 => (intro w' hS'; (try dsimp only at hS'); go_simp; try with_reducible rfl)
          simp only [Act.put, List.setIfInBounds_toArray, List.set_cons_zero, List.set_cons_succ, List.getElem_toArray, List.getElem_cons_succ, List.getElem_cons_zero]
          refine wpAnyH_ready (rs := [20]) (by kernel_rfl) (by simp) ?_
          refine AllReadyH.cons rfl (fun K hK => ?_) AllReadyH.nil
          go_simp
          obtain ⟨w8, hw8⟩ : ∃ w8, w8 = w7.setCell ⟨w.heap.size + 2, 3, none⟩ (.slice ao7 (k + 1) cap7) := ⟨_, rfl⟩
          have kk : ∀ q, q ≠ w.heap.size + 2 → w8.heap[q]? = w7.heap[q]? := fun q h2 => by rw [hw8, Below.heap_setCell _ _ _ _ (by exact h2)]
          have hS8 : w8.cell? ⟨w.heap.size, 3, none⟩ = some (.slice (some ⟨b, o, none⟩) g.rules.length cap) ∧ w8.cell? ⟨b, o + k * 2, none⟩ = some (.int .i64 x.left) ∧ w8.cell? ⟨b, o + k * 2 + 1, none⟩ = some (.slice ar x.right.length cr) :=
            ⟨(World.cell?_of_block (a := ⟨w.heap.size, 3, none⟩) (kk w.heap.size (by omega))).trans hS7.1, (World.cell?_of_block (a := ⟨b, o + k * 2, none⟩) (kk b (by omega))).trans hS7.2.1, (World.cell?_of_block (a := ⟨b, o + k * 2 + 1, none⟩) (kk b (by omega))).trans hS7.2.2⟩
          have bt8 : But (w.heap.size + 2) W w8 := by rw [hw8]; exact bt7.setCell (.inl rfl) _
          have own8 : w8.ownsRow (w.heap.size + 3) 77 2 (.slice ao7 (k + 1) cap7) (k + 1) (xs ++ [.int .i64 x.left, .slice ao5 x.right.length cap5]) := by rw [hw8]; exact owns_setCell own7 (by show w.heap.size + 2 < w.heap.size + 3; omega)
          have r0 : w8.cell? ⟨w.heap.size + 2, 0, none⟩ = some (.int .i64 g.vars) := by rw [hw8, World.cell?_setCell_other _ _ _ _ (by simp)]; exact q0
          have r1 : w8.cell? ⟨w.heap.size + 2, 1, none⟩ = some (.int .i64 g.terms) := by rw [hw8, World.cell?_setCell_other _ _ _ _ (by simp)]; exact q1
          have r2 : w8.cell? ⟨w.heap.size + 2, 2, none⟩ = some (.int .i64 g.start) := by rw [hw8, World.cell?_setCell_other _ _ _ _ (by simp)]; exact q2
          have r3 : w8.cell? ⟨w.heap.size + 2, 3, none⟩ = some (.slice ao7 (k + 1) cap7) := by rw [hw8]; exact World.cell?_setCell_same _ _ _ p7
          have rf : ∀ i, w8.frozen? ⟨w.heap.size + 2, i, none⟩ = false := fun i => by rw [hw8]; simp [go_sem, f7 i]
          have z8 : w8.heap.size = w7.heap.size := by rw [hw8]; simp
          have rc8 : RC w8 (fun q => w.heap.size + 3 ≤ q ∧ (Value.slice ao7 (k + 1) cap7).ownBlock ≠ some q) (xs ++ [.int .i64 x.left, .slice ao5 x.right.length cap5]) (g.rules.take (k + 1)) := by
            rw [htk.out]
            refine RC_step (w1 := w5) (g := w6.heap.size) hrc u5 (by omega) (by omega) ⟨by omega, fun q h1 h2 => ?_⟩ ⟨by omega, fun q h1 h2 => ?_⟩ (fun q e => (hvl q e).2) (by omega) hat7
            · rw [kk q (by omega), grow7.block q (by omega) (fun e => h2.2 e.symm), b6.block q h1]
            · rw [kk q (by omega), grow7.block q (by omega) (fun e => by have := (hvl q e.symm).2; omega), g6.block q h1]
          rw [← hw8]
          clear hw8
          refine hK.out _ _ hS8 ?_
          clear hK K
          intro hSw
          try simp only [Act.put, List.setIfInBounds_toArray, List.set_cons_zero, List.set_cons_succ]
          refine wpAnyH_done (by kernel_rfl) (NoPanic.normal ?_) _
          go_wp2_with fail
          go_roundw
          case rel => exact ⟨k + 1, _, _, by omega, by go_num, own8, rc8, r0, r1, r2, r3, rf, bt8⟩
          case measure => simp [intOf]; omega
    · have hke : k = g.rules.length := by omega
      subst hke
      rw [List.take_of_length_le (Nat.le_refl _)] at hrc
      obtain ⟨aov, capv, rfl⟩ := owns_slice hown
      have r0 : wr.cell? ⟨w.heap.size + 1, 0, none⟩ = some (.int .i64 0) := by rw [hbt.cell (by omega) (by omega)]; exact hR0
      have r1 : wr.cell? ⟨w.heap.size + 1, 1, none⟩ = some (.int .i64 0) := by rw [hbt.cell (by omega) (by omega)]; exact hR1
      have r2 : wr.cell? ⟨w.heap.size + 1, 2, none⟩ = some (.int .i64 0) := by rw [hbt.cell (by omega) (by omega)]; exact hR2
      have r3 : wr.cell? ⟨w.heap.size + 1, 3, none⟩ = some (.slice none 0 0) := by rw [hbt.cell (by omega) (by omega)]; exact hR3
      have rf : ∀ i, wr.frozen? ⟨w.heap.size + 1, i, none⟩ = false := fun i => by rw [hbt.frozen (by omega) (by omega)]; exact hRf i
      go_wp2_with fail
      refine bodyPost_ret (v := .agg #[.int .i64 g.vars, .int .i64 g.terms, .int .i64 g.start, .slice aov g.rules.length capv]) (by simp [results, Try.results40, go_sem, r0, r1, r2, r3]) rfl ⟨_, xs, rfl, ?_, ?_, ?_⟩
      · exact owns_mono (owns_setCell (owns_setCell (owns_setCell (owns_setCell hown (by show w.heap.size + 1 < w.heap.size + 3; omega)) (by show w.heap.size + 1 < w.heap.size + 3; omega)) (by show w.heap.size + 1 < w.heap.size + 3; omega)) (by show w.heap.size + 1 < w.heap.size + 3; omega)) (by omega)
      · refine hrc.kp ((((Kp.refl _ wr).setCell (.inl ?_) _).setCell (.inl ?_) _).setCell (.inl ?_) _ |>.setCell (.inl ?_) _) (fun q _ h => ⟨by omega, h.2⟩) <;> (rintro ⟨h, _⟩; simp at h)
      · exact (((bel.setCell (p := ⟨w.heap.size + 1, 0, none⟩) (Nat.le_succ _) _).setCell (p := ⟨w.heap.size + 1, 1, none⟩) (Nat.le_succ _) _).setCell (p := ⟨w.heap.size + 1, 2, none⟩) (Nat.le_succ _) _).setCell (p := ⟨w.heap.size + 1, 3, none⟩) (Nat.le_succ _) _
theorem ownGram_any (g : Gm) (va : Value) (w : World) (ha : GV w All va g) (hs : Small g.rules) :
    Calls Try.prog 40 #[va] w fun e w' => ∃ v, e = .returned v ∧ GV w' (fun k => w.heap.size ≤ k) v g ∧ Below w.heap.size w w' := by
  have hl : g.rules.length ≤ 9223372036854775807 := by have := hs.1; omega
  refine (ownGram_own g va w ha hs).mono ?_
  rintro e w' ⟨v, xs, rfl, own, hrc, hb⟩
  exact ⟨_, rfl, ⟨_, rfl, RsV_owned own hrc (fun _ h => h.1) (fun q e => (own.lt q e).1) hl⟩, hb⟩
end Go.Proofs.Ytlhdppkllmnmkad.G
