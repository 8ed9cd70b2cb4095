/- Corners, the program's way. -/
import Derived.Test.YtbhpbleenfegjacL11
namespace Go.Proofs.Ytbhpbleenfegjac.G
open Go.RowKit
theorem Try.infoIntsOf : (Try.prog.info? 33).map (fun i => (i.zero, i.size, i.bytes)) = some (some (.slice none 0 0), 1, 24) := by kernel_rfl
/-- A slice of slices of numbers. -/
def LsV (w : World) (v : Value) (L : List (List Int)) : Prop :=
  L.length ≤ 9223372036854775807 ∧ ∃ ao cap, v = .slice ao L.length cap ∧ (L.length = 0 ∨ ∃ b o, ao = some ⟨b, o, none⟩ ∧ ∀ i (h : i < L.length), ∃ u, w.cell? ⟨b, o + i, none⟩ = some u ∧ IsV w All u L[i])
theorem LsV.slice {w : World} {v : Value} {L : List (List Int)} (h : LsV w v L) : ∃ ao cap, v = .slice ao L.length cap := let ⟨_, ao, cap, e, _⟩ := h; ⟨ao, cap, e⟩
theorem LsV.lw {w w' : World} {v : Value} {L : List (List Int)} (h : LsV w v L) (hb : Below w.heap.size w w') : LsV w' v L := by
  obtain ⟨h1, ao, cap, h2, h3⟩ := h
  refine ⟨h1, ao, cap, h2, h3.imp id fun ⟨b, o, e, hx⟩ => ⟨b, o, e, fun i hi => ?_⟩⟩
  obtain ⟨u, g1, g2⟩ := hx i hi
  exact ⟨u, bkeep hb g1, g2.lw hb⟩
theorem LsV_nil (w : World) : LsV w (.slice none 0 0) [] := ⟨by simp, none, 0, rfl, .inl rfl⟩
theorem LsV.at_ {w : World} {ao : Option Addr} {n cap : Nat} {L : List (List Int)} (h : LsV w (.slice ao n cap) L) {k : Nat} (hk : k < L.length) :
    ∃ b o, ao = some ⟨b, o, none⟩ ∧ ∃ ar cr, w.cell? ⟨b, o + k, none⟩ = some (.slice ar L[k].length cr) ∧ IsV w All (.slice ar L[k].length cr) L[k] := by
  obtain ⟨_, ao', cap', e, h5⟩ := h
  simp at e
  obtain ⟨rfl, rfl, rfl⟩ := e
  rcases h5 with h5 | ⟨b, o, rfl, hx⟩
  · omega
  · obtain ⟨u, g2, g3⟩ := hx k hk
    obtain ⟨ar, cr, rfl⟩ := g3.slice
    exact ⟨b, o, rfl, ar, cr, g2, g3⟩
/-- A row of slices of one's own, on its way: the first ones are told. -/
def Rws (w : World) (gb : Nat) (xs : List Value) (L : List (List Int)) : Prop := ∀ j (h : j < L.length), ∃ u, xs[j]? = some u ∧ IsV w (fun b => gb < b) u L[j]
theorem Rws.lw {w w' : World} {gb : Nat} {xs : List Value} {L : List (List Int)} (h : Rws w gb xs L) (hb : Below w.heap.size w w') : Rws w' gb xs L := fun j hj =>
  let ⟨u, h1, h2⟩ := h j hj
  ⟨u, h1, h2.lw hb⟩
theorem Rws.put {w : World} {gb : Nat} {xs : List Value} {L : List (List Int)} {l : List Int} {u : Value} (h : Rws w gb xs L) (hk : L.length < xs.length) (hu : IsV w (fun b => gb < b) u l) : Rws (w.setCell ⟨gb, L.length, none⟩ u) gb (xs.set L.length u) (L ++ [l]) := by
  have keep : ∀ b o v, gb < b → w.cell? ⟨b, o, none⟩ = some v → gb < b ∧ (w.setCell ⟨gb, L.length, none⟩ u).cell? ⟨b, o, none⟩ = some v := fun b o v hb hc =>
    ⟨hb, by rw [World.cell?_of_block (w := w) (a := ⟨b, o, none⟩) (Below.heap_setCell _ _ _ _ (by show b ≠ gb; omega))]; exact hc⟩
  intro j hj
  rw [List.length_append] at hj
  by_cases e : j < L.length
  · obtain ⟨u', h1, h2⟩ := h j e
    refine ⟨u', by rw [List.getElem?_set_ne (by omega)]; exact h1, ?_⟩
    rw [List.getElem_append_left e]
    exact h2.mono keep
  · obtain rfl : j = L.length := by simp at hj; omega
    refine ⟨u, by rw [List.getElem?_set_self hk], ?_⟩
    rw [List.getElem_append_right (Nat.le_refl _)]
    simpa using hu.mono keep
/-- What Corners answers. -/
def CnR (w w' : World) (g : Gm) (e : Ending) : Prop :=
  ∃ v L, e = .returned (.tuple #[v, .agg #[.int .i64 (gFl g).1, .int .i64 (gFl g).2]]) ∧ LsV w' v L ∧ ((gFl g).1 ≠ 0 → L = []) ∧
    ((gFl g).1 = 0 → ∀ V, Rgt g V → L.length = V ∧ ∀ k (h : k < L.length), ∃ r, L[k] = listB r ∧ ∀ x, hasB r x = true ↔ Led true (Gen false g.rules) g.rules k x) ∧ Below w.heap.size w w'
theorem Rgt.uniq {g : Gm} {V V' : Nat} (h : Rgt g V) (h' : Rgt g V') : V' = V := by have := h.gv; have := h'.gv; omega
set_option maxRecDepth 100000 in
set_option maxHeartbeats 4000000 in
theorem corners_any (g : Gm) (va : Value) (w : World) (ha : GV w All va g) : Calls Try.prog 39 #[va] w fun e w' => CnR w w' g e := by
  obtain ⟨i0, hi, iz0, iz1, iz2⟩ := info_parts Try.infoIntsOf
  obtain ⟨u, rfl, hr⟩ := ha
  obtain ⟨ao, cap, rfl⟩ := hr.slice
  obtain ⟨W, hW⟩ : ∃ W, W = (w.alloc (.cells #[.int .i64 g.vars, .int .i64 g.terms, .int .i64 g.start, .slice ao g.rules.length cap] 24)).alloc (.cells #[.int .i64 0, .int .i64 0] 29) := ⟨_, rfl⟩
  have hWb : Below w.heap.size w W := by rw [hW]; exact al2 _ _ _
  have hWz : W.heap.size = w.heap.size + 2 := by rw [hW]; simp
  have hW0 : W.cell? ⟨w.heap.size, 0, none⟩ = some (.int .i64 g.vars) := by rw [hW]; simp
  have hW1 : W.cell? ⟨w.heap.size, 1, none⟩ = some (.int .i64 g.terms) := by rw [hW]; simp
  have hW2 : W.cell? ⟨w.heap.size, 2, none⟩ = some (.int .i64 g.start) := by rw [hW]; simp
  have hW3 : W.cell? ⟨w.heap.size, 3, none⟩ = some (.slice ao g.rules.length cap) := by rw [hW]; simp
  have hWr : RB W (w.heap.size + 1) := by rw [hW]; exact ⟨by simp, by simp, fun i => by simp [go_sem]⟩
  have CA := check_any g _ W ⟨_, rfl, hr.lw hWb⟩
  unfold CnR
  by_cases hz : (gFl g).1 = 0
  · obtain ⟨h00, V, hR⟩ := rgt_of hz
    rw [h00] at CA ⊢
    have hgv := hR.gv
    have hV1 := hR.v1
    have hV64 := hR.vr.1
    have OA := fun w' (hb : Below w.heap.size w w') => onward_any true _ step_firsts g V hgv hV1 hR.vr (.agg #[.int .i64 g.vars, .int .i64 g.terms, .int .i64 g.start, .slice ao g.rules.length cap]) w' ⟨_, rfl, hr.lw hb⟩
    rw [hgv] at CA OA hW hW0 ⊢
    clear hz h00
    have HGV := hd hgv
    clear hgv
    go_enter Try.func39, Try.ntmps39
    go_wp2_with fail
    rw [← hW]
    have HW := hd hW
    clear hW
    refine CA.mono ?_
    rintro e w1 ⟨rfl, hb1⟩
    obtain ⟨w2, hw2⟩ : ∃ w2, w2 = w1.alloc (.cells #[.int .i64 0, .int .i64 0] 29) := ⟨_, rfl⟩
    have hb2 : Below w1.heap.size w1 w2 := by rw [hw2]; exact al1 _ _
    have k2 := bthen hb1 hb2
    have t0 := bkeep k2 hW0
    have t1 := bkeep k2 hW1
    have t2 := bkeep k2 hW2
    have t3 := bkeep k2 hW3
    have tr := hWr.below k2
    have b2 := bthen hWb k2
    have x0 := alcell (bkeep hb1 hW0) (.cells #[.int .i64 0, .int .i64 0] 29)
    clear hW0 hW1 hW2 hW3 hWr
    go_wp2_with (first | (rw [← hw2]; refine wpList_make_full _ rfl _ _ 71 rfl w2.heap.size 33 i0 (.slice none 0 0) 1 Try.underlying71 hi iz0 iz1 .i64 .i64 _ _ V rfl rfl rfl rfl (by rw [iz2]; omega) (by unfold maxLen; omega) (Nat.le_refl _) ?_))
    intro w3 own3 grow3
    have hb3 := grown_below grow3
    rw [← hw2] at hb3
    generalize hxs : (madeCells #[Value.slice none 0 0] V).toList = xs0 at own3
    have hxl : xs0.length = V := by have := own3.1; omega
    have hzw : w2.heap.size = w1.heap.size + 1 := by rw [hw2]; simp
    obtain ⟨gb, hgb'⟩ : ∃ gb, gb = w1.heap.size + 1 := ⟨_, rfl⟩
    rw [← hgb'] at own3 ⊢
    have hgb : gb = w2.heap.size := by omega
    have hg1 := (own3.lt gb rfl).2
    have OW := OA w3 (bthen b2 hb3)
    have y0 := bkeep hb3 t0
    have y1 := bkeep hb3 t1
    have y2 := bkeep hb3 t2
    have y3 := bkeep hb3 t3
    have HG := hd hgb
    clear hgb hgb' hzw hxs x0 hw2 OA t0 t1 t2 t3 CA
    go_wp2_with fail
    refine OW.mono ?_
    rintro e w4 ⟨nb, N, rfl, ownN, hO, hb4⟩
    have HO := hd hO
    have hNl := hO.1
    have hnb := (ownN.lt nb rfl).1
    have own4 := owns_below own3 hb4
    have hcl : ∀ j, j < V → w4.cell? ⟨nb, j, none⟩ = some (.int .u64 (U (N.getD j 0#64))) := fun j hj => by rw [World.ownsRow.cellAt ownN j (by omega), sets_at (by omega)]
    have b34 : Below w2.heap.size w2 w4 := bthen hb3 hb4
    have tr4 := tr.below b34
    have hz2 : w.heap.size + 1 < gb := by have := lt_of_cell tr.c0; have := HG.out; omega
    have hz4 : gb < w4.heap.size := (own4.lt gb rfl).2
    clear hO OW y0 y1 y2 y3
    go_wp2_with fail
    go_loopw [20] (fun i wr => ∃ (k : Nat) (xs : List Value) (L : List (List Int)), k ≤ V ∧ i = .int .i64 k ∧ L.length = k ∧ xs.length = V ∧ Hid (∀ j (h : j < L.length), L[j] = listB (N.getD j 0#64)) ∧ wr.ownsRow gb 33 1 (.slice (some ⟨gb, 0, none⟩) V V) V xs ∧ Rws wr gb xs L ∧ (∀ b, b < w4.heap.size → b ≠ gb → wr.heap[b]? = w4.heap[b]?) ∧ Below w2.heap.size w2 wr) (fun i _ => V - (intOf i).toNat)
    case atStart => exact ⟨0, xs0, [], Nat.zero_le _, rfl, rfl, hxl, hd (fun j h => by simp at h), own4, (fun j h => by simp at h), fun _ _ _ => rfl, b34⟩
    case round =>
      obtain ⟨k, xs, L, hk, rfl, hLl, hxs, hL, own, hrw, hkp, bel⟩ := hrel
      by_cases hlt : k < V
      · have hlt2 : (k : Int) < (V : Int) := by omega
        have c0 : wr.cell? ⟨nb, k, none⟩ = some (.int .u64 (U (N.getD k 0#64))) := by
          rw [World.cell?_of_block (w := w4) (a := ⟨nb, k, none⟩) (hkp nb (ownN.lt nb rfl).2 (by omega))]; exact hcl k hlt
        have HLk : Hid (∀ j (h : j < (L ++ [listB (N.getD k 0#64)]).length), (L ++ [listB (N.getD k 0#64)])[j] = listB (N.getD j 0#64)) := hd (fun j h => by
          rw [List.length_append] at h
          by_cases e : j < L.length
          · rw [List.getElem_append_left e]; exact hL.out j e
          · obtain rfl : j = L.length := by simp at h; omega
            rw [List.getElem_append_right (Nat.le_refl _)]; simp [hLl])
        clear hcl
        generalize N.getD k 0#64 = z at *
        go_wp2_with fail
        refine (list_any z wr).mono ?_
        rintro e w5 ⟨v5, rfl, own5, hb5⟩
        have hgw := (own.lt gb rfl).2
        have i5 : IsV w5 (fun b => gb < b) v5 (listB z) := IsV_owned own5 (Nat.le_trans (upto_len _ _) (by omega)) (fun q hq => by have := (own5.lt q hq).1; omega)
        obtain ⟨av, cv, rfl⟩ := i5.slice
        have ownx := owns_below own hb5
        have fx := World.ownsRow.frozenAt ownx
        obtain ⟨ux, hux⟩ : ∃ ux, xs[k]? = some ux := ⟨_, List.getElem?_eq_getElem (by omega)⟩
        have cx : w5.cell? ⟨gb, k, none⟩ = some ux := by rw [World.ownsRow.cellAt ownx k (by omega), hux]
        have q9 := World.ownsRow.stored ownx k (.slice av (listB z).length cv)
        have r9 := (hrw.lw hb5).put (by omega) i5
        rw [hLl] at r9
        have bx := (bthen bel hb5).setCell (p := ⟨gb, k, none⟩) (by have := HG.out; show w2.heap.size ≤ gb; omega) (.slice av (listB z).length cv)
        have hkp9 : ∀ b, b < w4.heap.size → b ≠ gb → (w5.setCell ⟨gb, k, none⟩ (.slice av (listB z).length cv)).heap[b]? = w4.heap[b]? := fun b hb hn => by
          rw [Below.heap_setCell _ _ _ _ (by exact hn), hb5.block b (by
            rcases Nat.lt_or_ge b wr.heap.size with h | h
            · exact h
            · exfalso
              have e1 := hkp b hb hn
              rw [Array.getElem?_eq_none h, Array.getElem?_eq_getElem hb] at e1
              cases e1)]
          exact hkp b hb hn
        clear own5 i5 hux
        go_wp2_with fail
        go_roundw
        case rel => exact ⟨k + 1, _, _, by omega, by go_num, by simp; omega, by simpa using hxs, HLk, q9.1, r9, hkp9, bx⟩
        case measure => simp [intOf]; omega
      · obtain rfl : k = V := by omega
        have tr9 : RB wr (w.heap.size + 1) := tr.below bel
        have q0 := tr9.c0
        have q1 := tr9.c1
        have qf := tr9.fz
        have b9 := bthen b2 bel
        have HL1 : Hid (∀ V', Rgt g V' → L.length = V' ∧ ∀ j (h : j < L.length), ∃ r, L[j] = listB r ∧ ∀ x, hasB r x = true ↔ Led true (Gen false g.rules) g.rules j x) := hd (fun V' hV' => ⟨by rw [hR.uniq hV', hLl], fun j hj => ⟨_, hL.out j hj, fun x => ⟨(HO.out.2 j (by omega)).1 x, (HO.out.2 j (by omega)).2.2 (by omega) x⟩⟩⟩)
        go_wp2_with fail
        refine bodyPost_ret (v := .tuple #[.slice (some ⟨gb, 0, none⟩) k k, .agg #[.int .i64 0, .int .i64 0]]) (by simp [results, Try.results39, go_sem, q0, q1]) rfl ?_
        refine ⟨_, L, rfl, ⟨by omega, _, _, by rw [hLl], .inr ⟨gb, 0, rfl, fun j hj => ?_⟩⟩, (fun h => absurd rfl h), fun _ => HL1.out, (b9.setCell (p := ⟨w.heap.size + 1, 0, none⟩) (Nat.le_succ _) _).setCell (p := ⟨w.heap.size + 1, 1, none⟩) (Nat.le_succ _) _⟩
        obtain ⟨uj, h1, h2⟩ := hrw j hj
        have keep : ∀ b o v, gb ≤ b → wr.cell? ⟨b, o, none⟩ = some v → ((wr.setCell ⟨w.heap.size + 1, 0, none⟩ (.int .i64 0)).setCell ⟨w.heap.size + 1, 1, none⟩ (.int .i64 0)).cell? ⟨b, o, none⟩ = some v := fun b o v hb hc => by
          rw [World.cell?_setCell_other _ _ _ _ (by simp <;> omega), World.cell?_setCell_other _ _ _ _ (by simp <;> omega)]; exact hc
        refine ⟨uj, keep _ _ _ (Nat.le_refl _) ?_, h2.mono fun b o v hb hc => ⟨trivial, keep b o v (by omega) hc⟩⟩
        rw [Nat.zero_add, World.ownsRow.cellAt own j (by omega)]; exact h1
  · generalize (gFl g).1 = c at *
    generalize (gFl g).2 = a at *
    have hcb : (c != 0) = true := by simpa using hz
    have HZ := hd hz
    clear hz
    go_enter Try.func39, Try.ntmps39
    go_wp2_with fail
    rw [← hW]
    have HW := hd hW
    clear hW
    refine CA.mono ?_
    rintro e w1 ⟨rfl, hb1⟩
    obtain ⟨w2, hw2⟩ : ∃ w2, w2 = w1.alloc (.cells #[.int .i64 c, .int .i64 a] 29) := ⟨_, rfl⟩
    have hb2 : Below w1.heap.size w1 w2 := by rw [hw2]; exact al1 _ _
    have c0 : w2.cell? ⟨w1.heap.size, 0, none⟩ = some (.int .i64 c) := by rw [hw2]; simp
    have c1 : w2.cell? ⟨w1.heap.size, 1, none⟩ = some (.int .i64 a) := by rw [hw2]; simp
    have k2 := bthen hb1 hb2
    have tr := hWr.below k2
    have b2 := bthen hWb k2
    have q0 := tr.c0
    have q1 := tr.c1
    have qf := tr.fz
    have hz2 := lt_of_cell q0
    clear hW0 hW1 hW2 hW3 hWr
    go_wp2_with fail
    rw [← hw2]
    clear hw2
    go_wp2_with fail
    go_region
    all_goals
      go_wp2_with fail
      refine bodyPost_ret (v := .tuple #[.slice none 0 0, .agg #[.int .i64 c, .int .i64 a]]) (by simp [results, Try.results39, go_sem, q0, q1]) rfl ?_
      exact ⟨_, [], rfl, LsV_nil _, fun _ => rfl, fun h => absurd h HZ.out, ((bthen b2 (drw1 _)).setCell (p := ⟨w.heap.size + 1, 0, none⟩) (Nat.le_succ _) _).setCell (p := ⟨w.heap.size + 1, 1, none⟩) (Nat.le_succ _) _⟩
end Go.Proofs.Ytbhpbleenfegjac.G
