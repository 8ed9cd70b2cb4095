/- Trees in memory of their own: the program's copy, the document's copy. -/
import Derived.Test.YtghplmldnkcpnadL02
namespace Go.Proofs.Ytghplmldnkcpnad.G
open Go.RowKit
theorem Try.infoTree : (Try.prog.info? 27).map (fun i => (i.zero, i.size, i.bytes)) = some (some (.agg #[.int .i64 0, .slice none 0 0]), 2, 32) := by kernel_rfl
def CpOK (t : Tr) : Prop := ∀ (va : Value) (w : World), TrV w All va t → t.sz ≤ 1000000 →
  Calls Try.prog 17 #[va] w fun e w' => ∃ v, e = .returned v ∧ TrV w' (fun k => w.heap.size ≤ k) v t ∧ Below w.heap.size w w'
set_option maxRecDepth 100000 in
set_option maxHeartbeats 8000000 in
theorem cp_head (t : Tr) (ih : ∀ i, i < t.kids.len → CpOK (t.kids.at_ i)) : CpOK t := by
  intro va w ht hsz
  obtain ⟨i0, hi, iz0, iz1, iz2⟩ := info_parts Try.infoTree
  obtain ⟨u, rfl, hx⟩ := ht
  obtain ⟨ao, cap, rfl, hcp⟩ := hx.slice
  have hls := Tf.len_sz t.kids
  have hts : t.sz = 1 + t.kids.sz := rfl
  obtain ⟨W, hW⟩ : ∃ W, W = (w.alloc (.cells #[.int .i64 t.rule, .slice ao t.kids.len cap] 27)).alloc (.cells #[.int .i64 0, .slice none 0 0] 27) := ⟨_, rfl⟩
  have hWz : W.heap.size = w.heap.size + 2 := by rw [hW]; simp
  have hWb : Below w.heap.size w W := by rw [hW]; exact al2 _ _ _
  have x0 : W.cell? ⟨w.heap.size, 0, none⟩ = some (.int .i64 t.rule) := by rw [hW]; simp
  have r0 : W.cell? ⟨w.heap.size + 1, 0, none⟩ = some (.int .i64 0) := by rw [hW]; simp
  have r1 : W.cell? ⟨w.heap.size + 1, 1, none⟩ = some (.slice none 0 0) := by rw [hW]; simp
  have rf : ∀ i, W.frozen? ⟨w.heap.size + 1, i, none⟩ = false := fun i => by rw [hW]; simp [go_sem]
  go_enter Try.func17, Try.ntmps17
  go_wp2_with fail
  rw [← hW]
  have HW := hd hW
  clear hW
  go_loopw [3, 9] (fun v i wr => ∃ (k : Nat) (acc : Tf) (xs : List Value), k ≤ t.kids.len ∧ i = .int .i64 k ∧ acc.len = k ∧ Hid (∀ j, j < k → acc.at_ j = t.kids.at_ j) ∧ wr.ownsRow (w.heap.size + 2) 27 2 v acc.len xs ∧ TC wr (fun q => w.heap.size + 2 ≤ q ∧ v.ownBlock ≠ some q) xs acc ∧ Below W.heap.size W wr) (fun _ i _ => t.kids.len - (intOf i).toNat)
  case atStart => exact ⟨0, .nil, [], Nat.zero_le _, rfl, rfl, hd (fun j hj => absurd hj (Nat.not_lt_zero _)), World.ownsRow_nil _ _ _ _, trivial, Below.refl _ _⟩
  case round =>
    obtain ⟨k, acc, xs, hk, rfl, hal, hac, hown, hfc, hb⟩ := hrel
    have hz := hb.size
    have bel : Below w.heap.size w wr := bthen hWb hb
    by_cases hlt : k < t.kids.len
    · obtain ⟨b, o, rfl, _, c0, aq, cq, c1, hq⟩ := (hx.lw bel).at_ hlt
      have hks := Tf.sz_at hlt
      have hac' : Hid (∀ j, j < k + 1 → (acc.snoc (t.kids.at_ k)).at_ j = t.kids.at_ j) := hd (fun j hj => by
        by_cases e : j = k
        · rw [e, ← hal, Tf.snoc_last, hal]
        · rw [Tf.snoc_at _ _ _ (by omega)]; exact hac.out j (by omega))
      have IH := ih k hlt
      rw [hal] at hown
      have HAL := hd hal
      clear hal hac
      generalize t.kids.at_ k = x at *
      obtain ⟨V, hV⟩ : ∃ V, V = wr.alloc (.cells #[.int .i64 x.rule, .slice aq x.kids.len cq] 27) := ⟨_, rfl⟩
      have hVz : V.heap.size = wr.heap.size + 1 := by rw [hV]; simp
      have hVb : Below wr.heap.size wr V := by rw [hV]; exact al1 _ _
      have SR := IH _ V (TrV_mk (hq.lw hVb)) (by omega)
      obtain ⟨aov, capv, rfl⟩ := owns_slice hown
      have hvl : ∀ q, (Value.slice aov k capv).ownBlock = some q → w.heap.size + 2 ≤ q ∧ q < wr.heap.size := fun q e => hown.lt q e
      go_wp2_with fail
      rw [← hV]
      refine SR.mono ?_
      rintro e w2 ⟨_, rfl, ⟨u2, rfl, hu2⟩, hb2⟩
      have HV := hd hV
      clear hV SR
      have hb2' := bthen hVb hb2
      have hown2 := owns_below hown hb2'
      have z2 : wr.heap.size + 1 ≤ w2.heap.size := by have := hb2.size; omega
      obtain ⟨ao2, cap2, rfl, _⟩ := id hu2.slice
      go_wp2_with (first | (at_builtin; go_must (refine wpList_append_own_at _ rfl _ _ 25 rfl (w.heap.size + 2) 27 i0 (.agg #[.int .i64 0, .slice none 0 0]) 2 32 Try.underlying25 hi iz0 iz1 iz2 rfl (by decide) _ _ _ rfl (hown2.alloc _) ⟨w2.heap.size, 0, none⟩ 1 1 [.int .i64 x.rule, .slice ao2 x.kids.len cap2] rfl rfl (cell2_new _ _ _ _ (by simp)) (oneRule _ _ _ _) (by unfold maxLen; omega) (by omega) (by simp; omega) ?_)))
      intro v1 W1 own1 grow1 _ hat
      have fc1 : TC W1 (fun q => w.heap.size + 2 ≤ q ∧ v1.ownBlock ≠ some q) (xs ++ [.int .i64 x.rule, .slice ao2 x.kids.len cap2]) (acc.snoc x) := by
        refine TC_step (w1 := w2) (g := w2.heap.size + 1) (x := x) hfc (hu2.mono (keep_all (Below.refl _ _) fun q hq => ?_)) (by omega) (by omega) ?_ ?_ (fun q e => (hvl q e).2) (by omega) (by simpa using hat)
        · show wr.heap.size ≤ q
          omega
        · have kk1 : Kp (fun q => w.heap.size + 2 ≤ q ∧ (Value.slice aov k capv).ownBlock ≠ some q) wr w2 := Kp.of_below hb2'
          exact (kk1.alloc _).grown grow1 (fun q e => .inl fun hs => hs.2 e)
        · exact ((Kp.refl _ w2).alloc _).grown grow1 (fun q e => .inl fun hs => by have := (hvl q e).2; omega)
      have bz : Below W.heap.size W W1 := ((bthen hb hb2').alloc (by omega) _).grown grow1 (by simp; omega) (fun q e => by have := (hvl q e).1; omega)
      go_wp2_with fail
      go_roundw
      case rel => exact ⟨k + 1, acc.snoc x, _, by omega, by go_num, by rw [Tf.len_snoc, HAL.out], hac', by rw [Tf.len_snoc, HAL.out]; exact own1, fc1, bz⟩
      case measure => simp [intOf]; omega
    · have hke : k = t.kids.len := by omega
      have hacc : acc = t.kids := Tf.ext_at _ _ (by omega) (fun j hj => hac.out j (by omega))
      have hfv := TfV_owned (T := fun q => w.heap.size + 2 ≤ q) hown hfc (fun _ h => h.1) (fun q h => (hown.lt q h).1) (by omega)
      rw [hacc] at hfv
      obtain ⟨aov, capv, rfl⟩ := owns_slice hown
      have s0 := bkeep hb x0
      have q0 := bkeep hb r0
      have q1 := bkeep hb r1
      have qf : ∀ i, wr.frozen? ⟨w.heap.size + 1, i, none⟩ = false := fun i => (World.frozen?_of_block (a := ⟨w.heap.size + 1, i, none⟩) (hb.block (w.heap.size + 1) (by omega))).trans (rf i)
      have HKE := hd hke
      have HAC := hd hacc
      have HAL := hd hal
      clear hke hacc hal hown hfc
      go_wp2_with fail
      refine bodyPost_ret (v := .agg #[.int .i64 t.rule, .slice aov acc.len capv]) (by simp [results, Try.results17, go_sem, q0, q1]) rfl ⟨_, rfl, ⟨_, rfl, ?_⟩, ?_⟩
      · refine hfv.kp (((Kp.refl _ wr).setCell (.inl ?_) _).setCell (.inl ?_) _) (fun q _ h => by omega) <;> simp
      · exact (bel.setCell (p := ⟨w.heap.size + 1, 0, none⟩) (Nat.le_succ _) _).setCell (p := ⟨w.heap.size + 1, 1, none⟩) (Nat.le_succ _) _
theorem cp_all : ∀ (f : Tf) (i : Nat), i < f.len → CpOK (f.at_ i)
  | .nil, _, h => absurd h (Nat.not_lt_zero _)
  | .cons rule kids _, 0, _ => cp_head ⟨rule, kids⟩ (cp_all kids)
  | .cons _ _ rest, i + 1, h => cp_all rest i (by simpa [Tf.len] using h)
theorem treeOwn_any (t : Tr) : CpOK t := cp_head t (cp_all t.kids)

/-! The document's. -/
def OtOK (t : Tr) : Prop := ∀ (va : Value) (w : World), TrV w All va t → t.sz ≤ 1000000 →
  Calls Try.prog 8 #[va] w fun e w' => ∃ v, e = .returned v ∧ TrV w' (fun k => w.heap.size ≤ k) v t ∧ Below w.heap.size w w'
set_option maxRecDepth 100000 in
set_option maxHeartbeats 16000000 in
theorem ot_head (x : Tr) (ih : ∀ i, i < x.kids.len → OtOK (x.kids.at_ i)) : OtOK x := by
  intro va w hx hsz
  obtain ⟨i0, hi, iz0, iz1, iz2⟩ := info_parts Try.infoTree
  obtain ⟨u, rfl, hin⟩ := hx
  obtain ⟨ao, cap, rfl, hcp⟩ := hin.slice
  have hls := Tf.len_sz x.kids
  have hxs : x.sz = 1 + x.kids.sz := rfl
  obtain ⟨V, hV⟩ : ∃ V, V = (w.alloc (.cells #[.int .i64 x.rule, .slice ao x.kids.len cap] 27)).alloc (.cells #[.int .i64 0, .slice none 0 0] 27) := ⟨_, rfl⟩
  have hVz : V.heap.size = w.heap.size + 2 := by rw [hV]; simp
  obtain ⟨W, hW⟩ : ∃ W, W = V.alloc (.cells #[.int .i64 x.rule, .slice none 0 0] 27) := ⟨_, rfl⟩
  have hVW : Below V.heap.size V W := by rw [hW]; exact al1 _ _
  have hWz : W.heap.size = w.heap.size + 3 := by rw [hW]; simp; omega
  have hVb : Below w.heap.size w V := by rw [hV]; exact al2 _ _ _
  have hWb : Below w.heap.size w W := hVb.trans (hVW.mono (by omega))
  have hW1 : W.cell? ⟨w.heap.size, 1, none⟩ = some (.slice ao x.kids.len cap) := bkeep hVW (by rw [hV]; simp)
  have hWr0 : W.cell? ⟨w.heap.size + 1, 0, none⟩ = some (.int .i64 0) := bkeep hVW (by rw [hV]; simp)
  have hWr1 : W.cell? ⟨w.heap.size + 1, 1, none⟩ = some (.slice none 0 0) := bkeep hVW (by rw [hV]; simp)
  have hWrf : ∀ i, W.frozen? ⟨w.heap.size + 1, i, none⟩ = false := fun i => by
    rw [World.frozen?_of_block (w := V) (a := ⟨w.heap.size + 1, i, none⟩) (hVW.block (w.heap.size + 1) (by omega)), hV]; simp [go_sem]
  have hWo : ∀ i, W.cell? ⟨w.heap.size + 2, i, none⟩ = (V.alloc (.cells #[.int .i64 x.rule, .slice none 0 0] 27)).cell? ⟨V.heap.size, i, none⟩ := fun i => by rw [hW, hVz]
  have hWo0 : W.cell? ⟨w.heap.size + 2, 0, none⟩ = some (.int .i64 x.rule) := by rw [hWo]; simp
  have hWo1 : W.cell? ⟨w.heap.size + 2, 1, none⟩ = some (.slice none 0 0) := by rw [hWo]; simp
  have hWof : ∀ i, W.frozen? ⟨w.heap.size + 2, i, none⟩ = false := fun i => by rw [hW, ← hVz]; simp [go_sem]
  clear hWo
  go_enter Try.func8, Try.ntmps8
  go_wp2_with fail
  rw [← hV, ← hW]
  have HW := hd hW
  have HV := hd hV
  clear hW hV
  go_loopw [4] (fun i wr => ∃ (k : Nat) (acc : Tf) (v : Value) (xs : List Value), k ≤ x.kids.len ∧ i = .int .i64 k ∧ acc.len = k ∧ Hid (∀ j, j < k → acc.at_ j = x.kids.at_ j) ∧ wr.ownsRow (w.heap.size + 3) 27 2 v acc.len xs ∧ TC wr (fun q => w.heap.size + 3 ≤ q ∧ v.ownBlock ≠ some q) xs acc ∧
    wr.cell? ⟨w.heap.size + 2, 0, none⟩ = some (.int .i64 x.rule) ∧ wr.cell? ⟨w.heap.size + 2, 1, none⟩ = some v ∧ (∀ i, wr.frozen? ⟨w.heap.size + 2, i, none⟩ = false) ∧ But (w.heap.size + 2) W wr) (fun i _ => x.kids.len - (intOf i).toNat)
  case atStart => exact ⟨0, .nil, .slice none 0 0, [], Nat.zero_le _, rfl, rfl, hd (fun j hj => absurd hj (Nat.not_lt_zero _)), World.ownsRow_nil _ _ _ _, trivial, hWo0, hWo1, hWof, But.refl _ _⟩
  case round =>
    obtain ⟨k, acc, v, xs, hk, rfl, hal, hac, hown, hfc, o0, o1, hof, hbt⟩ := hrel
    have hz := hbt.size
    have bel : Below w.heap.size w wr := hWb.trans (hbt.below (by omega) (by omega))
    have s1 : wr.cell? ⟨w.heap.size, 1, none⟩ = some (.slice ao x.kids.len cap) := by rw [hbt.cell (by omega) (by omega)]; exact hW1
    by_cases hlt : k < x.kids.len
    · obtain ⟨ba, oa, rfl, _, a0, aoa', capa', a1, hxa⟩ := (hin.lw bel).at_ hlt
      have hks := Tf.sz_at hlt
      have IH := fun w hx => ih k hlt (.agg #[.int .i64 (x.kids.at_ k).rule, .slice aoa' (x.kids.at_ k).kids.len capa']) w hx (by omega)
      have hac' : Hid (∀ y, y = x.kids.at_ k → ∀ j, j < k + 1 → (acc.snoc y).at_ j = x.kids.at_ j) := hd (fun y hy j hj => by
        by_cases e : j = k
        · rw [e, ← hal, Tf.snoc_last, hal]; exact hy
        · rw [Tf.snoc_at _ _ _ (by omega)]; exact hac.out j (by omega))
      have HLT := hd hlt
      rw [hal] at hown
      have HAL := hd hal
      clear hal
      obtain ⟨xk, hxk⟩ : ∃ xk, xk = x.kids.at_ k := ⟨_, rfl⟩
      have HXK := hd hxk
      rw [← hxk] at a0 a1 hxa IH hks
      clear hxk
      have hvl : ∀ q, v.ownBlock = some q → w.heap.size + 3 ≤ q ∧ q < wr.heap.size := fun q e => hown.lt q e
      obtain ⟨aov, capv, rfl⟩ := owns_slice hown
      have drw : Below wr.heap.size wr wr.drew := ⟨rfl, rfl, rfl, Nat.le_refl _, fun _ _ => rfl⟩
      have IHd := IH wr.drew (TrV_mk (hxa.lw drw))
      have hown0 : wr.drew.ownsRow (w.heap.size + 3) 27 2 (.slice aov k capv) k xs := hown
      have bt0 : But (w.heap.size + 2) W wr.drew := hbt.trans (But.of_below drw)
      have of0 : ∀ i, wr.drew.frozen? ⟨w.heap.size + 2, i, none⟩ = false := hof
      have e0 : wr.drew.cell? ⟨w.heap.size + 2, 0, none⟩ = some (.int .i64 x.rule) := o0
      have e1 : wr.drew.cell? ⟨w.heap.size + 2, 1, none⟩ = some (.slice aov k capv) := o1
      go_wp2_with fail
      go_region_law
        (first
          | (go_simp; go_at_call 8; refine IHd.mono ?_; rintro e w2 ⟨_, rfl, ⟨u2, rfl, hu2⟩, hb2⟩; obtain ⟨ao2, cap2, rfl, _⟩ := id hu2.slice; have z2 : wr.heap.size ≤ w2.heap.size := hb2.size; have f0 := bkeep hb2 e0; have f1 := bkeep hb2 e1; have ff : ∀ i, w2.frozen? ⟨w.heap.size + 2, i, none⟩ = false := (fun i => (World.frozen?_of_block (a := ⟨w.heap.size + 2, i, none⟩) (hb2.block _ (lt_of_cell e0))).trans (of0 i)); have f1u : (w2.alloc (.cells #[.int .i64 xk.rule, .slice ao2 xk.kids.len cap2] 27)).cell? ⟨w.heap.size + 2, 1, none⟩ = some (.slice aov k capv) := alcell f1 _; have own2 := owns_but hown0 (But.of_below (r := w.heap.size + 2) hb2) (by omega); have own3 : (w2.alloc (.cells #[.int .i64 xk.rule, .slice ao2 xk.kids.len cap2] 27)).ownsRow (w.heap.size + 3) 27 2 (.slice aov k capv) k xs := own2.alloc _; have bt3 : But (w.heap.size + 2) W (w2.alloc (.cells #[.int .i64 xk.rule, .slice ao2 xk.kids.len cap2] 27)) := (bt0.trans (But.of_below hb2)).trans (But.of_below (al1 _ _)))
          | (refine step_own rfl (.tmp 16) (.tmp 23) 25 rfl (w.heap.size + 3) 27 i0 (.agg #[.int .i64 0, .slice none 0 0]) 2 32 Try.underlying25 hi iz0 iz1 iz2 rfl (by decide) (.slice aov k capv) k xs (by simp [Act.eval]) own3 ⟨w2.heap.size, 0, none⟩ 1 1 [.int .i64 xk.rule, .slice ao2 xk.kids.len cap2] (by simp [Act.eval]) rfl (cell2_new w2 _ _ _ rfl) (oneRule _ _ _ _) (by unfold maxLen; omega) (by omega) (by simp; omega) ?_; intro v' w4 own4 grow4 hat; have bt4 : But (w.heap.size + 2) W w4 := bt3.grown grow4 (fun q e => by have := (hvl q e).1; omega); have z4 := grow4.size; have gk : ∀ q, q < w2.heap.size → q < w.heap.size + 3 → w4.heap[q]? = w2.heap[q]? := (fun q h1 h2 => by rw [grow4.block q (by simp; omega) (fun e => by have := (hvl q e.symm).1; omega)]; exact (al1 w2 _).block q h1); have f40 : w4.cell? ⟨w.heap.size + 2, 0, none⟩ = some (.int .i64 x.rule) := (World.cell?_of_block (a := ⟨w.heap.size + 2, 0, none⟩) (gk (w.heap.size + 2) (lt_of_cell f0) (by omega))).trans f0; have f42 : w4.cell? ⟨w.heap.size + 2, 1, none⟩ = some (.slice aov k capv) := (World.cell?_of_block (a := ⟨w.heap.size + 2, 1, none⟩) (gk (w.heap.size + 2) (lt_of_cell f0) (by omega))).trans f1; have f4f : ∀ i, w4.frozen? ⟨w.heap.size + 2, i, none⟩ = false := (fun i => (World.frozen?_of_block (a := ⟨w.heap.size + 2, i, none⟩) (gk (w.heap.size + 2) (lt_of_cell f0) (by omega))).trans (ff i)); obtain ⟨ao4, cap4, rfl⟩ := owns_slice own4))
      all_goals
        have bt5 : But (w.heap.size + 2) W (w4.setCell ⟨w.heap.size + 2, 1, none⟩ (.slice ao4 (k + 1) cap4)) := bt4.setCell (.inl rfl) _
        have own5 := (owns_setCell (a := ⟨w.heap.size + 2, 1, none⟩) own4 (by show w.heap.size + 2 < w.heap.size + 3; omega) : (w4.setCell ⟨w.heap.size + 2, 1, none⟩ (.slice ao4 (k + 1) cap4)).ownsRow _ _ _ _ _ _)
        have z4' : w2.heap.size + 1 ≤ w4.heap.size := by simpa using z4
        have fc5 : TC (w4.setCell ⟨w.heap.size + 2, 1, none⟩ (.slice ao4 (k + 1) cap4)) (fun q => w.heap.size + 3 ≤ q ∧ (Value.slice ao4 (k + 1) cap4).ownBlock ≠ some q) (xs ++ [.int .i64 xk.rule, .slice ao2 xk.kids.len cap2]) (acc.snoc xk) := by
          refine TC_step (w1 := w2) (g := w2.heap.size + 1) (x := xk) hfc hu2 (by omega) (by omega) ?_ ?_ (fun q e => (hvl q e).2) z2 (by simpa using hat)
          · have kk1 : Kp (fun q => w.heap.size + 3 ≤ q ∧ (Value.slice aov k capv).ownBlock ≠ some q) wr w2 := ⟨hb2.size, fun q hq _ => hb2.block q hq⟩
            exact Kp.setCell ((kk1.alloc _).grown grow4 (fun q e => .inl fun hs => hs.2 e)) (.inl fun hs => by have := hs.1; simp at this) _
          · exact Kp.setCell (((Kp.refl _ w2).alloc _).grown grow4 (fun q e => .inl fun hs => by have := (hvl q e).2; omega)) (.inl fun hs => by simp at hs; omega) _
        have p0 : (w4.setCell ⟨w.heap.size + 2, 1, none⟩ (.slice ao4 (k + 1) cap4)).cell? ⟨w.heap.size + 2, 0, none⟩ = some (.int .i64 x.rule) := by rw [World.cell?_setCell_other _ _ _ _ (by simp)]; exact f40
        have p2 : (w4.setCell ⟨w.heap.size + 2, 1, none⟩ (.slice ao4 (k + 1) cap4)).cell? ⟨w.heap.size + 2, 1, none⟩ = some (.slice ao4 (k + 1) cap4) := World.cell?_setCell_same _ _ _ f42
        have pf : ∀ i, (w4.setCell ⟨w.heap.size + 2, 1, none⟩ (.slice ao4 (k + 1) cap4)).frozen? ⟨w.heap.size + 2, i, none⟩ = false := fun i => by simp [go_sem, f4f i]
        obtain ⟨Z, hZ⟩ : ∃ Z, Z = w4.setCell ⟨w.heap.size + 2, 1, none⟩ (.slice ao4 (k + 1) cap4) := ⟨_, rfl⟩
        rw [← hZ] at bt5 own5 fc5 p0 p2 pf
        rw [← hZ]
        clear hZ bt4 own4 f40 f42 f4f
        go_wp2_with fail
        go_roundw
        case rel => exact ⟨k + 1, acc.snoc xk, _, _, by omega, by go_num, by rw [Tf.len_snoc, HAL.out], hd (hac'.out xk HXK.out), by rw [Tf.len_snoc, HAL.out]; exact own5, fc5, p0, p2, pf, bt5⟩
        case measure => simp [intOf]; omega
    · have hke : k = x.kids.len := by omega
      have hacc : acc = x.kids := Tf.ext_at _ _ (by omega) (fun j hj => hac.out j (by omega))
      have hfv := TfV_owned (T := fun q => w.heap.size + 3 ≤ q) hown hfc (fun _ h => h.1) (fun q h => (hown.lt q h).1) (by omega)
      rw [hacc] at hfv
      obtain ⟨aov, capv, rfl⟩ := owns_slice hown
      have r0 : wr.cell? ⟨w.heap.size + 1, 0, none⟩ = some (.int .i64 0) := by rw [hbt.cell (by omega) (by omega)]; exact hWr0
      have r1 : wr.cell? ⟨w.heap.size + 1, 1, none⟩ = some (.slice none 0 0) := by rw [hbt.cell (by omega) (by omega)]; exact hWr1
      have rf : ∀ i, wr.frozen? ⟨w.heap.size + 1, i, none⟩ = false := fun i => by rw [hbt.frozen (by omega) (by omega)]; exact hWrf i
      have HKE := hd hke
      have HAC := hd hacc
      have HAL := hd hal
      clear hke hacc hal hown hfc
      go_wp2_with fail
      refine bodyPost_ret (v := .agg #[.int .i64 x.rule, .slice aov acc.len capv]) (by simp [results, Try.results8, go_sem, r0, r1]) rfl ⟨_, rfl, ⟨_, rfl, ?_⟩, ?_⟩
      · refine hfv.kp (((Kp.refl _ wr).setCell (.inl ?_) _).setCell (.inl ?_) _) (fun q _ h => by omega) <;> simp
      · exact (bel.setCell (p := ⟨w.heap.size + 1, 0, none⟩) (Nat.le_succ _) _).setCell (p := ⟨w.heap.size + 1, 1, none⟩) (Nat.le_succ _) _
theorem ot_all : ∀ (f : Tf) (i : Nat), i < f.len → OtOK (f.at_ i)
  | .nil, _, h => absurd h (Nat.not_lt_zero _)
  | .cons rule kids _, 0, _ => ot_head ⟨rule, kids⟩ (ot_all kids)
  | .cons _ _ rest, i + 1, h => ot_all rest i (by simpa [Tf.len] using h)
theorem ownTree_any (x : Tr) : OtOK x := ot_head x (ot_all x.kids)
end Go.Proofs.Ytghplmldnkcpnad.G
