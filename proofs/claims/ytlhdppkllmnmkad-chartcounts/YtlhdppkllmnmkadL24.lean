/- Texts laid together: Fgg Fh Fc Fj Zh. -/
import Derived.Test.YtlhdppkllmnmkadL23
import Derived.Deep.CutRange
import Derived.Test.YtlhdppkllmnmkadL13
import Derived.Test.YtlhdppkllmnmkadL14
/- Where a nonterminal leads in one step or more, and what Start comes to, the document's way. -/
namespace Go.Proofs.Ytlhdppkllmnmkad.G
open Go.RowKit
theorem Qu.tail1 {w : World} {base g off n : Nat} {x : Int} (h : Qu w base (.slice (some ⟨g, off, none⟩) n 1) [x]) : Qu w base (.slice (some ⟨g, off, none⟩) 0 0) [] := by
  have := h.tail
  obtain ⟨_, _, e, _⟩ := h
  simp at e
  obtain ⟨_, rfl, _⟩ := e
  simpa [sliced] using this
theorem Qu.tail2 {w : World} {base g off n cap : Nat} {x : Int} {l : List Int} (h : Qu w base (.slice (some ⟨g, off, none⟩) n cap) (x :: l)) (hc : ¬ cap = 1) : Qu w base (.slice (some ⟨g, off + 1, none⟩) l.length (cap - 1)) l := by
  have := h.tail
  obtain ⟨_, _, e, _⟩ := h
  simp at e
  obtain ⟨_, rfl, _⟩ := e
  simpa [sliced, hc, addr_add] using this
theorem Qu.head {w : World} {base : Nat} {v : Value} {x : Int} {l : List Int} (h : Qu w base v (x :: l)) : ∃ g off cap, v = .slice (some ⟨g, off, none⟩) (l.length + 1) cap ∧ l.length + 1 ≤ cap ∧ base ≤ g ∧ g < w.heap.size ∧ w.cell? ⟨g, off, none⟩ = some (.int .i64 x) := by
  obtain ⟨ao, cap, rfl, h1, h2, h3⟩ := h
  simp only [List.length_cons] at h1
  rcases h3 with ⟨_, rfl⟩ | ⟨g, off, rfl, hb, hz, _, h5⟩
  · omega
  · exact ⟨g, off, cap, by simp, h1, hb, hz, h5 0 (Nat.succ_pos _)⟩
theorem way_lt {I : List Int} {nx : Int → List Int} {V : Nat} {is : List Bool} {x : Int} {l : List Int} (h : Way I nx V is (x :: l)) (hc : ∀ v, Cm I nx v → 0 ≤ v ∧ v < (V : Int)) : ∃ m : Nat, x = m ∧ m < V := by
  have := hc x (h.sndT x (List.mem_cons_self ..))
  exact ⟨x.toNat, by omega, by omega⟩
theorem left_over {V c a b : Nat} (hc : c + 1 ≤ V) (hb : b ≤ 1600) : (V - (c + 1)) * 1601 + (a + b) < (V - c) * 1601 + (a + 1) := by
  obtain ⟨d, rfl⟩ : ∃ d, V = c + 1 + d := ⟨V - (c + 1), by omega⟩
  have h1 : c + 1 + d - (c + 1) = d := by omega
  have h2 : c + 1 + d - c = d + 1 := by omega
  rw [h1, h2, Nat.add_mul]
  omega
set_option maxRecDepth 100000 in
set_option maxHeartbeats 8000000 in
theorem ledTo_any (g : Gm) (V : Nat) (hR : Rgt g V) (nl : List Bool) (hnl : nl.length = V) (hE : ∀ v, isAt nl v = true ↔ Gen false g.rules v) (nb : Nat) (v : Int) (c : Bool) (va : Value) (w : World) (ha : GV w All va g) (hb : BsV w nb nl) :
    Calls Try.prog 128 #[va, .slice (some ⟨nb, 0, none⟩) V V, .int .i64 v, .bool c] w fun e w' => ∃ gb is, e = .returned (.slice (some ⟨gb, 0, none⟩) V V) ∧ w'.ownsRow w.heap.size 4 1 (.slice (some ⟨gb, 0, none⟩) V V) V (bools is) ∧ is.length = V ∧ (∀ x, isAt is x = true ↔ Led c (Gen false g.rules) g.rules v x) ∧ Below w.heap.size w w' := by
  obtain ⟨i0, hi, iz0, iz1, iz2⟩ := info_parts Try.infoBool
  obtain ⟨j0, hj, jz0, jz1, jz2⟩ := info_parts Try.infoInt
  have hCm : ∀ x, Cm (stT c nl g.rules v) (stT c nl g.rules) x → 0 ≤ x ∧ x < (V : Int) := fun x hx => hR.vr.led ((led_cm hE).1 hx)
  have HLed := hd (fun x => led_cm (c := c) (R := g.rules) (a := v) (v := x) hE)
  have hlT := fun u => stT_len hR c nl u
  obtain ⟨u, rfl, hr⟩ := id ha
  obtain ⟨ao, cap, rfl⟩ := hr.slice
  have hgv := hR.gv
  have hV1 := hR.v1
  have hV64 := hR.vr.1
  have SA := fun x w' (hb' : Below w.heap.size w w') => stepsTo_any g V hR nl hnl nb x c _ w' (ha.lw hb') (hb.lw hb')
  rw [hgv] at SA ⊢
  obtain ⟨W, hW⟩ : ∃ W, W = w.alloc (.cells #[.int .i64 V, .int .i64 g.terms, .int .i64 g.start, .slice ao g.rules.length cap] 24) := ⟨_, rfl⟩
  have hWb : Below w.heap.size w W := by rw [hW]; exact al1 _ _
  have hWz : W.heap.size = w.heap.size + 1 := by rw [hW]; simp
  have hW0 : W.cell? ⟨w.heap.size, 0, none⟩ = some (.int .i64 V) := by rw [hW]; simp
  have hW1 : W.cell? ⟨w.heap.size, 1, none⟩ = some (.int .i64 g.terms) := by rw [hW]; simp
  have hW2 : W.cell? ⟨w.heap.size, 2, none⟩ = some (.int .i64 g.start) := by rw [hW]; simp
  have hW3 : W.cell? ⟨w.heap.size, 3, none⟩ = some (.slice ao g.rules.length cap) := by rw [hW]; simp
  have HGV := hd hgv
  clear hgv
  go_enter Try.func128, Try.ntmps128
  go_wp2_with (first | (refine wpList_make_full _ rfl _ _ 146 rfl (w.heap.size + 1) 4 i0 (.bool false) 1 Try.underlying146 hi iz0 iz1 .i64 .i64 _ _ V rfl rfl rfl rfl (by rw [iz2]; omega) (by unfold maxLen; omega) (by simp) ?_))
  intro w1 own1 grow1
  rw [← hW] at grow1
  have k1 := grown_below grow1
  rw [made_bools] at own1
  have hgw : (w.alloc (.cells #[.int .i64 V, .int .i64 g.terms, .int .i64 g.start, .slice ao g.rules.length cap] 24)).heap.size = w.heap.size + 1 := by simp
  obtain ⟨gb, hgb⟩ : ∃ gb, gb = w.heap.size + 1 := ⟨_, rfl⟩
  rw [← hgb] at own1 ⊢
  have HG := hd hgb
  have hgW : W.heap.size ≤ gb := by omega
  have hg1 := (own1.lt gb rfl).2
  clear hgb hW grow1 hgw
  have b1 := bthen hWb k1
  have s0 := bkeep k1 hW0
  have s1 := bkeep k1 hW1
  have s2 := bkeep k1 hW2
  have s3 := bkeep k1 hW3
  have SV := SA v w1 b1
  have hI := hlT v
  go_wp2_with fail
  refine SV.mono ?_
  rintro e w2 ⟨u2, rfl, own2, k2⟩
  have q2 := Qu_owned own2
  have ownI := owns_below own1 k2
  have hWay := Way.start (stT c nl g.rules v) (stT c nl g.rules) V
  have HWay := hd hWay
  have b2 := bthen k1 k2
  obtain ⟨ao2, cap2, rfl⟩ := owns_slice own2
  clear hWay own2 SV s0 s1 s2 s3
  generalize stT c nl g.rules v = I at *
  go_wp2_with fail
  go_loopg [10] 120000 (fun gk tv wr => ∃ (is : List Bool) (todo : List Int), Qu wr w1.heap.size tv todo ∧ wr.ownsRow gb 4 1 (.slice (some ⟨gb, 0, none⟩) V V) V (bools is) ∧ Hid (Way I (stT c nl g.rules) V is todo) ∧ (V - cnt is) * 1601 + todo.length ≤ gk ∧ gk ≤ 120000 ∧ Below W.heap.size W wr)
  case atStart => exact ⟨_, _, q2, ownI, HWay, by have : (V - cnt (List.replicate V false)) * 1601 ≤ 64 * 1601 := Nat.mul_le_mul_right _ (by omega); omega, Nat.le_refl _, b2⟩
  case round =>
    obtain ⟨is, todo, hQ, own, hWy, hgk, hgk2, bel⟩ := hrel
    have hil := hWy.out.len
    have belw := bthen hWb bel
    have hz := bel.size
    cases todo with
    | nil =>
      obtain ⟨aq, cq, rfl⟩ := hQ.slice
      have HD : Hid (∀ x, isAt is x = true ↔ Led c (Gen false g.rules) g.rules v x) := hd (fun x => (hWy.out.done x).trans (HLed.out x))
      go_wp2_with fail
      go_ret
      exact ⟨gb, is, rfl, owns_mono own (by have := HG.out; omega), hil, HD.out, belw⟩
    | cons x rest =>
      obtain ⟨m, rfl, hmV⟩ := way_lt hWy.out hCm
      obtain ⟨gq, oq, cq, rfl, hcq, hgq1, hgq2, cx⟩ := hQ.head
      have hm2 : (m : Int) < (V : Int) := by omega
      have cg : wr.cell? ⟨gb, m, none⟩ = some (.bool (is.getD m false)) := BsV_owned own hil m (by omega)
      have HA : Hid (is.getD m false = true → Way I (stT c nl g.rules) V is rest) := hd (fun e => hWy.out.again (by unfold isAt; simpa using e))
      have HP : Hid (Way I (stT c nl g.rules) V (is.set m true) (rest ++ stT c nl g.rules m)) := hd (hWy.out.put hmV)
      have HC : Hid (is.getD m false = false → cnt (is.set m true) = cnt is + 1) := hd (fun e => cnt_set (by omega) e)
      have hcl := cnt_le (is.set m true)
      rw [List.length_set, hil] at hcl
      rw [List.length_cons] at hgk
      have hTm := hlT m
      have t0 := bkeep bel hW0
      have t1 := bkeep bel hW1
      have t2 := bkeep bel hW2
      have t3 := bkeep bel hW3
      have fz := World.ownsRow.frozenAt own
      clear hWy
      generalize is.getD m false = q at *
      cases q with
      | true =>
        have HA' := hd (HA.out rfl)
        clear HA HP HC t0 t1 t2 t3
        by_cases hc : cq = 1
        · obtain rfl : rest = [] := List.eq_nil_of_length_eq_zero (by omega)
          subst hc
          have qT := hQ.tail1
          go_wp2_with fail
          go_roundg (gk - 1)
          case measure => omega
          case rel => exact ⟨is, ([] : List Int), qT, own, HA', by first | omega | (simp at hgk ⊢; omega) | (simp at hgk; omega) | (simp; omega), by omega, bel⟩
        · have qT := hQ.tail2 hc
          go_wp2_with fail
          go_roundg (gk - 1)
          case measure => omega
          case rel => exact ⟨is, rest, qT, own, HA', by first | omega | (simp at hgk ⊢; omega) | (simp at hgk; omega) | (simp; omega), by omega, bel⟩
      | false =>
        have hcn := HC.out rfl
        clear HA HC
        have q9 := World.ownsRow.stored own m (.bool true)
        have own9 : (wr.setCell ⟨gb, m, none⟩ (.bool true)).ownsRow gb 4 1 (.slice (some ⟨gb, 0, none⟩) V V) V (bools (is.set m true)) := by rw [← bools_set]; exact q9.1
        have be9 := bel.setCell (p := ⟨gb, m, none⟩) hgW (.bool true)
        obtain ⟨Y, hY⟩ : ∃ Y, Y = wr.setCell ⟨gb, m, none⟩ (.bool true) := ⟨_, rfl⟩
        have gr9 := q9.2
        rw [← hY] at own9 be9 gr9
        have zY := gr9.size
        have SY := SA m Y (bthen hWb be9)
        have y0 := bkeep be9 hW0
        have y1 := bkeep be9 hW1
        have y2 := bkeep be9 hW2
        have y3 := bkeep be9 hW3
        have x0 : (wr.setCell ⟨gb, m, none⟩ (.bool true)).cell? ⟨w.heap.size, 0, none⟩ = some (.int .i64 V) := by rw [← hY]; exact y0
        have x1 : (wr.setCell ⟨gb, m, none⟩ (.bool true)).cell? ⟨w.heap.size, 1, none⟩ = some (.int .i64 g.terms) := by rw [← hY]; exact y1
        have x2 : (wr.setCell ⟨gb, m, none⟩ (.bool true)).cell? ⟨w.heap.size, 2, none⟩ = some (.int .i64 g.start) := by rw [← hY]; exact y2
        have x3 : (wr.setCell ⟨gb, m, none⟩ (.bool true)).cell? ⟨w.heap.size, 3, none⟩ = some (.slice ao g.rules.length cap) := by rw [← hY]; exact y3
        clear q9 t0 t1 t2 t3
        by_cases hc : cq = 1
        · obtain rfl : rest = [] := List.eq_nil_of_length_eq_zero (by omega)
          subst hc
          have qT := hQ.tail1
          have qY := qT.kept gr9 (.inr (by simp [Value.ownBlock]; omega))
          go_wp2_with fail
          rw [← hY]
          refine SY.mono ?_
          rintro e Z ⟨uZ, rfl, ownZ, kZ⟩
          have iZ : IsV Z All uZ (stT c nl g.rules m) := IsV_owned ownZ (by omega) (fun _ _ => trivial)
          obtain ⟨az, cz, rfl⟩ := iZ.slice
          have qZ := qY.lw kZ
          have bZ := bthen be9 kZ
          have oZ := owns_below own9 kZ
          have zZ := bZ.size
          have zW := bel.size
          have zz := kZ.size
          have b12 := k1.size
          go_wp2_with (first | (at_builtin; go_must (refine wpList_append_qu _ rfl _ _ 35 rfl w1.heap.size 3 j0 Try.underlying35 hj jz0 jz1 jz2 _ ([] : List Int) rfl qZ All _ _ rfl iZ (by first | omega | (simp at hgk ⊢; omega) | (simp at hgk; omega) | (simp; omega)) (by have := (hQ.lt gq rfl).2; omega) ?_)))
          intro v1 W1 qu1 grow1 hat1
          obtain ⟨a1, c1, rfl⟩ := qu1.slice
          have ow1 := oZ.kept grow1 (.inr (by simp [Value.ownBlock]; omega))
          have be1 : Below W.heap.size W W1 := bZ.grown grow1 zZ (fun j hj => by have := (qZ.lt j hj).1; omega)
          have hlo := left_over (V := V) (c := cnt is) (a := (([] : List Int)).length) (b := (stT c nl g.rules m).length) (by omega) hTm
          go_wp2_with fail
          go_roundg (gk - 1)
          case measure => omega
          case rel => exact ⟨_, _, qu1, ow1, HP, by rw [hcn]; first | omega | (simp at hgk hlo ⊢; omega) | (simp at hlo ⊢; omega) | (rw [List.length_append]; omega) | (simp; omega), by omega, be1⟩
        · have qT := hQ.tail2 hc
          have qY := qT.kept gr9 (.inr (by simp [Value.ownBlock]; omega))
          go_wp2_with fail
          rw [← hY]
          refine SY.mono ?_
          rintro e Z ⟨uZ, rfl, ownZ, kZ⟩
          have iZ : IsV Z All uZ (stT c nl g.rules m) := IsV_owned ownZ (by omega) (fun _ _ => trivial)
          obtain ⟨az, cz, rfl⟩ := iZ.slice
          have qZ := qY.lw kZ
          have bZ := bthen be9 kZ
          have oZ := owns_below own9 kZ
          have zZ := bZ.size
          have zW := bel.size
          have zz := kZ.size
          have b12 := k1.size
          go_wp2_with (first | (at_builtin; go_must (refine wpList_append_qu _ rfl _ _ 35 rfl w1.heap.size 3 j0 Try.underlying35 hj jz0 jz1 jz2 _ rest rfl qZ All _ _ rfl iZ (by first | omega | (simp at hgk ⊢; omega) | (simp at hgk; omega) | (simp; omega)) (by have := (hQ.lt gq rfl).2; omega) ?_)))
          intro v1 W1 qu1 grow1 hat1
          obtain ⟨a1, c1, rfl⟩ := qu1.slice
          have ow1 := oZ.kept grow1 (.inr (by simp [Value.ownBlock]; omega))
          have be1 : Below W.heap.size W W1 := bZ.grown grow1 zZ (fun j hj => by have := (qZ.lt j hj).1; omega)
          have hlo := left_over (V := V) (c := cnt is) (a := (rest).length) (b := (stT c nl g.rules m).length) (by omega) hTm
          go_wp2_with fail
          go_roundg (gk - 1)
          case measure => omega
          case rel => exact ⟨_, _, qu1, ow1, HP, by rw [hcn]; first | omega | (simp at hgk hlo ⊢; omega) | (simp at hlo ⊢; omega) | (rw [List.length_append]; omega) | (simp; omega), by omega, be1⟩
end Go.Proofs.Ytlhdppkllmnmkad.G

/- What Start comes to, the document's way. -/
namespace Go.Proofs.Ytlhdppkllmnmkad.G
open Go.RowKit
end Go.Proofs.Ytlhdppkllmnmkad.G

/- Corners, the program's way. -/
namespace Go.Proofs.Ytlhdppkllmnmkad.G
open Go.RowKit
/-- A slice of slices of numbers. -/
def LsV (w : World) (v : Value) (L : List (List Int)) : Prop :=
  L.length ≤ 9223372036854775807 ∧ ∃ ao cap, v = .slice ao L.length cap ∧ (L.length = 0 ∨ ∃ b o, ao = some ⟨b, o, none⟩ ∧ ∀ i (h : i < L.length), ∃ u, w.cell? ⟨b, o + i, none⟩ = some u ∧ IsV w All u L[i])
theorem LsV.slice {w : World} {v : Value} {L : List (List Int)} (h : LsV w v L) : ∃ ao cap, v = .slice ao L.length cap := let ⟨_, ao, cap, e, _⟩ := h; ⟨ao, cap, e⟩
theorem LsV.lw {w w' : World} {v : Value} {L : List (List Int)} (h : LsV w v L) (hb : Below w.heap.size w w') : LsV w' v L := by
  obtain ⟨h1, ao, cap, h2, h3⟩ := h
  refine ⟨h1, ao, cap, h2, h3.imp id fun ⟨b, o, e, hx⟩ => ⟨b, o, e, fun i hi => ?_⟩⟩
  obtain ⟨u, g1, g2⟩ := hx i hi
  exact ⟨u, bkeep hb g1, g2.lw hb⟩
theorem LsV.at_ {w : World} {ao : Option Addr} {n cap : Nat} {L : List (List Int)} (h : LsV w (.slice ao n cap) L) {k : Nat} (hk : k < L.length) :
    ∃ b o, ao = some ⟨b, o, none⟩ ∧ ∃ ar cr, w.cell? ⟨b, o + k, none⟩ = some (.slice ar L[k].length cr) ∧ IsV w All (.slice ar L[k].length cr) L[k] := by
  obtain ⟨_, ao', cap', e, h5⟩ := h
  simp at e
  obtain ⟨rfl, rfl, rfl⟩ := e
  rcases h5 with h5 | ⟨b, o, rfl, hx⟩
  · omega
  · obtain ⟨u, g2, g3⟩ := hx k hk
    obtain ⟨ar, cr, rfl⟩ := g3.slice
    exact ⟨b, o, rfl, ar, cr, g2, g3⟩
/-- A row of slices of one's own, on its way: the first ones are told. -/
def Rws (w : World) (gb : Nat) (xs : List Value) (L : List (List Int)) : Prop := ∀ j (h : j < L.length), ∃ u, xs[j]? = some u ∧ IsV w (fun b => gb < b) u L[j]
theorem Rws.lw {w w' : World} {gb : Nat} {xs : List Value} {L : List (List Int)} (h : Rws w gb xs L) (hb : Below w.heap.size w w') : Rws w' gb xs L := fun j hj =>
  let ⟨u, h1, h2⟩ := h j hj
  ⟨u, h1, h2.lw hb⟩
theorem Rws.put {w : World} {gb : Nat} {xs : List Value} {L : List (List Int)} {l : List Int} {u : Value} (h : Rws w gb xs L) (hk : L.length < xs.length) (hu : IsV w (fun b => gb < b) u l) : Rws (w.setCell ⟨gb, L.length, none⟩ u) gb (xs.set L.length u) (L ++ [l]) := by
  have keep : ∀ b o v, gb < b → w.cell? ⟨b, o, none⟩ = some v → gb < b ∧ (w.setCell ⟨gb, L.length, none⟩ u).cell? ⟨b, o, none⟩ = some v := fun b o v hb hc =>
    ⟨hb, by rw [World.cell?_of_block (w := w) (a := ⟨b, o, none⟩) (Below.heap_setCell _ _ _ _ (by show b ≠ gb; omega))]; exact hc⟩
  intro j hj
  rw [List.length_append] at hj
  by_cases e : j < L.length
  · obtain ⟨u', h1, h2⟩ := h j e
    refine ⟨u', by rw [List.getElem?_set_ne (by omega)]; exact h1, ?_⟩
    rw [List.getElem_append_left e]
    exact h2.mono keep
  · obtain rfl : j = L.length := by simp at hj; omega
    refine ⟨u, by rw [List.getElem?_set_self hk], ?_⟩
    rw [List.getElem_append_right (Nat.le_refl _)]
    simpa using hu.mono keep
end Go.Proofs.Ytlhdppkllmnmkad.G

/- Cyclic and Corners, the document's way. -/
namespace Go.Proofs.Ytlhdppkllmnmkad.G
open Go.RowKit
theorem pB_of {p : Prop} {b : Bool} (h : b = true ↔ p) : b = pB p := by rw [Bool.eq_iff_iff, pB_iff]; exact h
theorem isAt_nat (is : List Bool) (k : Nat) : isAt is (k : Int) = is.getD k false := by unfold isAt; simp
theorem nul_right {g : Gm} {V : Nat} (hR : Rgt g V) (v : Int) : isAt (genN false g.rules V V) v = true ↔ Gen false g.rules v := genN_right hR.lin v
set_option maxRecDepth 100000 in
set_option maxHeartbeats 8000000 in
theorem cyclicOf_any (g : Gm) (V : Nat) (hR : Rgt g V) (va : Value) (w : World) (ha : GV w All va g) :
    Calls Try.prog 90 #[va] w fun e w' => ∃ v l, e = .returned v ∧ w'.ownsRow w.heap.size 3 1 v l.length (ints l) ∧ l = (upto V fun k => pB (Led false (Gen false g.rules) g.rules k k)) ∧ Below w.heap.size w w' := by
  obtain ⟨j0, hj, jz0, jz1, jz2⟩ := info_parts Try.infoInt
  obtain ⟨u, rfl, hr⟩ := id ha
  obtain ⟨ao, cap, rfl⟩ := hr.slice
  have hgv := hR.gv
  have hV1 := hR.v1
  have hV64 := hR.vr.1
  have NA := fun w' (hb' : Below w.heap.size w w') => nullOf_any g V hR _ w' (ha.lw hb')
  have LA := fun nb x w' (hb' : Below w.heap.size w w') (hn : BsV w' nb (genN false g.rules V V)) => ledTo_any g V hR (genN false g.rules V V) (genN_len _ _ _ _) (nul_right hR) nb x false _ w' (ha.lw hb') hn
  have hnl := genN_len false g.rules V V
  rw [hgv] at NA LA ⊢
  generalize genN false g.rules V V = nl at *
  obtain ⟨W, hW⟩ : ∃ W, W = w.alloc (.cells #[.int .i64 V, .int .i64 g.terms, .int .i64 g.start, .slice ao g.rules.length cap] 24) := ⟨_, rfl⟩
  have hWb : Below w.heap.size w W := by rw [hW]; exact al1 _ _
  have hWz : W.heap.size = w.heap.size + 1 := by rw [hW]; simp
  have hW0 : W.cell? ⟨w.heap.size, 0, none⟩ = some (.int .i64 V) := by rw [hW]; simp
  have hW1 : W.cell? ⟨w.heap.size, 1, none⟩ = some (.int .i64 g.terms) := by rw [hW]; simp
  have hW2 : W.cell? ⟨w.heap.size, 2, none⟩ = some (.int .i64 g.start) := by rw [hW]; simp
  have hW3 : W.cell? ⟨w.heap.size, 3, none⟩ = some (.slice ao g.rules.length cap) := by rw [hW]; simp
  have HGV := hd hgv
  clear hgv
  go_enter Try.func90, Try.ntmps90
  go_wp2_with fail
  rw [← hW]
  clear hW
  refine (NA W hWb).mono ?_
  rintro e w1 ⟨nb, rfl, ownn, k1⟩
  have hn1 := BsV_owned ownn hnl
  have s0 := bkeep k1 hW0
  have s1 := bkeep k1 hW1
  have s2 := bkeep k1 hW2
  have s3 := bkeep k1 hW3
  have b1 := bthen hWb k1
  have z1 := b1.size
  clear ownn hW0 hW1 hW2 hW3 NA
  go_wp2_with fail
  go_loopw [4, 5] (fun o i wr => ∃ (k : Nat) (acc : List Int), k ≤ V ∧ i = .int .i64 k ∧ Hid (acc = upto k fun j => pB (Led false (Gen false g.rules) g.rules j j)) ∧ acc.length ≤ k ∧ wr.ownsRow w1.heap.size 3 1 o acc.length (ints acc) ∧ Below w1.heap.size w1 wr) (fun _ i _ => V - (intOf i).toNat)
  case atStart => exact ⟨0, [], Nat.zero_le _, rfl, hd rfl, Nat.le_refl _, World.ownsRow_nil _ _ _ _, Below.refl _ _⟩
  case round =>
    obtain ⟨k, acc, hk, rfl, hacc, hal, own, bel⟩ := hrel
    obtain ⟨aov, capv, rfl⟩ := owns_slice own
    have t0 := bkeep bel s0
    by_cases hlt : k < V
    · have hlt2 : (k : Int) < (V : Int) := by omega
      have t1 := bkeep bel s1
      have t2 := bkeep bel s2
      have t3 := bkeep bel s3
      have LK := LA nb k wr (bthen b1 bel) (hn1.lw bel)
      go_wp2_with fail
      refine LK.mono ?_
      rintro e wx ⟨gb, is, rfl, ownb, hil, hled, kx⟩
      have cb : wx.cell? ⟨gb, k, none⟩ = some (.bool (is.getD k false)) := BsV_owned ownb hil k (by omega)
      have HB : Hid (is.getD k false = pB (Led false (Gen false g.rules) g.rules k k)) := hd (pB_of (by rw [← isAt_nat]; exact hled k))
      have own := owns_below own kx
      have bel := bthen bel kx
      have hz := bel.size
      clear hled ownb
      have HY : Hid (is.getD k false = true → acc ++ [(k : Int)] = upto (k + 1) fun j => pB (Led false (Gen false g.rules) g.rules j j)) := hd (fun e => by rw [hacc.out, upto_yes (f := fun j : Nat => pB (Led false (Gen false g.rules) g.rules j j)) (by rw [← HB.out]; exact e)])
      have HN : Hid (is.getD k false = false → acc = upto (k + 1) fun j => pB (Led false (Gen false g.rules) g.rules j j)) := hd (fun e => by rw [hacc.out, upto_no (f := fun j : Nat => pB (Led false (Gen false g.rules) g.rules j j)) (by rw [← HB.out]; exact e)])
      clear hacc HB
      generalize is.getD k false = q at *
      cases q with
      | true =>
        have HY' := hd (HY.out rfl)
        clear HY HN
        go_wp2_with (first | (at_builtin; go_must (refine wpList_append_own _ rfl _ _ 35 rfl w1.heap.size 3 j0 (.int .i64 0) 1 8 Try.underlying35 hj jz0 jz1 jz2 rfl (by decide) _ _ _ rfl (own.alloc _) ⟨wx.heap.size, 0, none⟩ 1 1 [.int .i64 k] rfl rfl (cell_one_at _ _ _ (by simp)) (oneInts [(k : Int)]) (by unfold maxLen; omega) (by omega) (by simp <;> omega) ?_)))
        intro v1 W1 own1 grow1 _
        go_wp2_with fail
        go_roundw
        case rel => exact ⟨k + 1, acc ++ [(k : Int)], by omega, by go_num, HY', by simp; omega, by simpa [ints] using own1, (bel.alloc hz _).grown grow1 (by simp <;> omega) (fun j hj => (own.lt j hj).1)⟩
        case measure => simp [intOf]; omega
      | false =>
        have HN' := hd (HN.out rfl)
        clear HY HN
        go_wp2_with fail
        go_roundw
        case rel => exact ⟨k + 1, acc, by omega, by go_num, HN', by omega, own, bel⟩
        case measure => simp [intOf]; omega
    · have he : Hid (acc = upto V fun j => pB (Led false (Gen false g.rules) g.rules j j)) := hd (by rw [hacc.out, show k = V by omega])
      clear hacc
      go_wp2_with fail
      go_ret
      exact ⟨_, acc, rfl, owns_mono own z1, he.out, bthen b1 bel⟩
/-- Slices of numbers, told one behind the other. -/
def Lc (w : World) (S : Nat → Prop) (xs : List Value) (L : List (List Int)) : Prop := ∀ j (h : j < L.length), ∃ u, xs[j]? = some u ∧ IsV w S u L[j]
theorem Lc.kp {w w' : World} {S T : Nat → Prop} {xs : List Value} {L : List (List Int)} (h : Lc w S xs L) (hk : Kp S w w') (hT : ∀ k, k < w.heap.size → S k → T k) : Lc w' T xs L := fun j hj =>
  let ⟨u, h1, h2⟩ := h j hj
  ⟨u, h1, h2.kp hk hT⟩
theorem Lc.snoc {w : World} {S : Nat → Prop} {xs : List Value} {L : List (List Int)} {u : Value} {l : List Int} (h : Lc w S xs L) (hx : xs.length = L.length) (hu : IsV w S u l) : Lc w S (xs ++ [u]) (L ++ [l]) := by
  intro j hj
  rw [List.length_append] at hj
  by_cases e : j < L.length
  · obtain ⟨u', h1, h2⟩ := h j e
    refine ⟨u', by rw [List.getElem?_append_left (by omega)]; exact h1, ?_⟩
    rw [List.getElem_append_left e]; exact h2
  · obtain rfl : j = L.length := by simp at hj; omega
    refine ⟨u, by rw [List.getElem?_append_right (by omega), hx]; simp, ?_⟩
    rw [List.getElem_append_right (Nat.le_refl _)]
    simpa using hu
end Go.Proofs.Ytlhdppkllmnmkad.G

/- What is wrong with a grammar and a word: the document's ChartFault; words that are too much. -/
namespace Go.Proofs.Ytlhdppkllmnmkad.G
open Go.RowKit
set_option maxRecDepth 100000 in
set_option maxHeartbeats 8000000 in
theorem chartFault_any (g : Gm) (W : List Int) (va vw : Value) (w : World) (hg : GV w All va g) (hw : IsV w All vw W) :
    Calls Try.prog 42 #[va, vw] w fun e w' => e = .returned (.agg #[.int .i64 (chFl g W).1, .int .i64 (chFl g W).2]) ∧ Below w.heap.size w w' := by
  obtain ⟨R, hR⟩ : ∃ R, R = chFl g W := ⟨_, rfl⟩
  rw [← hR]
  unfold chFl at hR
  have CK := fun w' (hb : Below w.heap.size w w') => gramFault_any g va w' (hg.lw hb)
  have CY := fun V hV w' (hb : Below w.heap.size w w') => cyclicOf_any g V hV va w' (hg.lw hb)
  have hrg := fun h => rgt_of (g := g) h
  obtain ⟨D1, D2, hD⟩ : ∃ a b, gFl g = (a, b) := ⟨_, _, rfl⟩
  rw [hD] at CK hR hrg
  simp only at CK hR hrg
  obtain ⟨ua, rfl, ra⟩ := hg
  obtain ⟨ao, cap, rfl⟩ := ra.slice
  obtain ⟨aw, cw, rfl⟩ := hw.slice
  have hwl := hw.1
  obtain ⟨Z, hZ⟩ : ∃ Z, Z = (w.alloc (.cells #[.int .i64 g.vars, .int .i64 g.terms, .int .i64 g.start, .slice ao g.rules.length cap] 24)).alloc (.cells #[.int .i64 0, .int .i64 0] 33) := ⟨_, rfl⟩
  have hZb : Below w.heap.size w Z := by rw [hZ]; exact al2 _ _ _
  have x0 : Z.cell? ⟨w.heap.size, 0, none⟩ = some (.int .i64 g.vars) := by rw [hZ]; simp
  have x1 : Z.cell? ⟨w.heap.size, 1, none⟩ = some (.int .i64 g.terms) := by rw [hZ]; simp
  have x2 : Z.cell? ⟨w.heap.size, 2, none⟩ = some (.int .i64 g.start) := by rw [hZ]; simp
  have x3 : Z.cell? ⟨w.heap.size, 3, none⟩ = some (.slice ao g.rules.length cap) := by rw [hZ]; simp
  have hZr : RB Z (w.heap.size + 1) := by rw [hZ]; exact ⟨by simp, by simp, fun i => by simp [go_sem]⟩
  have CW := CK Z hZb
  have HR := hd hR
  have HRG := hd hrg
  clear hR hrg CK
  go_enter Try.func42, Try.ntmps42
  go_wp2_with fail
  rw [← hZ]
  have HZ := hd hZ
  clear hZ
  refine CW.mono ?_
  rintro e w1 ⟨rfl, hb1⟩
  obtain ⟨V1, hV1⟩ : ∃ V1, V1 = w1.alloc (.cells #[.int .i64 D1, .int .i64 D2] 33) := ⟨_, rfl⟩
  have hVb : Below w1.heap.size w1 V1 := by rw [hV1]; exact al1 _ _
  have bZ := bthen hb1 hVb
  have bV := bthen hZb bZ
  have tr := hZr.below hb1
  by_cases hc : D1 = 0
  rotate_left
  · have hr : R = (D1, D2) := HR.out.trans (if_pos hc)
    subst hr
    have hcb : (D1 != 0) = true := by simpa using hc
    clear hc
    have q0 := alcell tr.c0 (.cells #[.int .i64 D1, .int .i64 D2] 33)
    have q1 := alcell tr.c1 (.cells #[.int .i64 D1, .int .i64 D2] 33)
    have qf := (tr.below (al1 w1 (.cells #[.int .i64 D1, .int .i64 D2] 33))).fz
    go_wp2_with fail
    refine bodyPost_ret (v := .agg #[.int .i64 D1, .int .i64 D2]) (by simp [results, Try.results42, go_sem, q0, q1]) rfl ⟨rfl, ?_⟩
    rw [← hV1]
    exact (bV.setCell (p := ⟨w.heap.size + 1, 0, none⟩) (by show w.heap.size ≤ w.heap.size + 1; omega) _).setCell (p := ⟨w.heap.size + 1, 1, none⟩) (by show w.heap.size ≤ w.heap.size + 1; omega) _
  subst hc
  obtain ⟨hD2, V, hV⟩ := HRG.out rfl
  have HR1 := hd (HR.out.trans (if_neg (by simp)))
  have HV := hd hV
  clear HR HRG CW hD2 hV
  by_cases h12 : 12 < W.length
  · have hr : R = (15, -1) := HR1.out.trans (if_pos h12)
    subst hr
    have hr12 : (12 : Int) < (W.length : Int) := by omega
    go_wp2_with fail
    rw [← hV1]
    refine (rF_any _ _ _).mono ?_
    rintro e wf ⟨rfl, hbf⟩
    have rf := (tr.below hVb).below hbf
    have q0 := rf.c0
    have q1 := rf.c1
    have qf := rf.fz
    have bf := bthen bV hbf
    go_wp2_with fail
    refine bodyPost_ret (v := .agg #[.int .i64 15, .int .i64 (-1)]) (by simp [results, Try.results42, go_sem, q0, q1]) rfl ⟨rfl, ?_⟩
    exact (bf.setCell (p := ⟨w.heap.size + 1, 0, none⟩) (by show w.heap.size ≤ w.heap.size + 1; omega) _).setCell (p := ⟨w.heap.size + 1, 1, none⟩) (by show w.heap.size ≤ w.heap.size + 1; omega) _
  obtain ⟨RE, hRE⟩ : ∃ RE : Int × Int, RE = (if pB (Acy g.rules g.vars.toNat) = true then (0, 0) else (10, -1)) := ⟨_, rfl⟩
  have HR2 : Hid (R = bwF g.terms RE (W.drop 0) 0) := hd (by rw [List.drop_zero, hRE]; exact HR1.out.trans (if_neg h12))
  have HRE := hd hRE
  have hn12 : ¬ ((12 : Int) < (W.length : Int)) := by omega
  clear HR1 hRE
  go_wp2_with fail
  rw [← hV1]
  have HV1 := hd hV1
  clear hV1
  go_loopw [6] (fun i wr => ∃ k : Nat, k ≤ W.length ∧ i = .int .i64 k ∧ Hid (R = bwF g.terms RE (W.drop k) k) ∧ Below V1.heap.size V1 wr) (fun i _ => W.length - (intOf i).toNat)
  case atStart => exact ⟨0, Nat.zero_le _, rfl, HR2, Below.refl _ _⟩
  case round =>
    obtain ⟨k, hk, rfl, hinv, bel⟩ := hrel
    clear HR2
    have br := bthen bV bel
    have brZ := bthen bZ bel
    have tr4 := (tr.below hVb).below bel
    by_cases hlt : k < W.length
    · obtain ⟨b, o, rfl, c0⟩ := (hw.lw br).at_ hlt
      have HI := hd (hinv.out.trans (bwF_at hlt))
      clear hinv
      generalize W[k] = x at *
      have NE := Wd.ne wr
      have e0 := fun z : Wd wr => z.cell c0
      have e1 := fun z : Wd wr => z.cell (bkeep brZ x1)
      by_cases hx0 : x < 0
      · have hr : R = (15, (k : Int)) := HI.out.trans (if_pos (.inl hx0))
        subst hr
        have g1 : decide (x < 0) = true := decide_eq_true hx0
        clear HI
        go_wp2_with fail
        refine region_quiet_lit (C := fun w' => ∃ z : Wd wr, w' = z.u) (by kernel_rfl) (by kernel_rfl) (Wd.drawn _) ?_
        iterate 14 (go_big_quiet_step (fail))
        refine wpQuiet_nil ?_
        intro _ hw'
        obtain ⟨z, hw''⟩ := hw'
        subst hw''
        go_wp2_with fail
        refine (rF_any _ _ _).mono ?_
        rintro e wf ⟨rfl, hbf⟩
        have rf := (tr4.below z.h).below hbf
        have q0 := rf.c0
        have q1 := rf.c1
        have qf := rf.fz
        have bf := bthen (bthen br z.h) hbf
        go_wp2_with fail
        refine bodyPost_ret (v := .agg #[.int .i64 15, .int .i64 k]) (by simp [results, Try.results42, go_sem, q0, q1]) rfl ⟨rfl, ?_⟩
        exact (bf.setCell (p := ⟨w.heap.size + 1, 0, none⟩) (by show w.heap.size ≤ w.heap.size + 1; omega) _).setCell (p := ⟨w.heap.size + 1, 1, none⟩) (by show w.heap.size ≤ w.heap.size + 1; omega) _
      have g1 : decide (x < 0) = false := decide_eq_false hx0
      by_cases hxt : g.terms ≤ x
      · have hr : R = (15, (k : Int)) := HI.out.trans (if_pos (.inr hxt))
        subst hr
        have g2 : decide (g.terms ≤ x) = true := decide_eq_true hxt
        clear HI
        go_wp2_with fail
        refine region_quiet_lit (C := fun w' => ∃ z : Wd wr, w' = z.u) (by kernel_rfl) (by kernel_rfl) (Wd.drawn _) ?_
        iterate 14 (go_big_quiet_step (fail))
        refine wpQuiet_nil ?_
        intro _ hw'
        obtain ⟨z, hw''⟩ := hw'
        subst hw''
        go_wp2_with fail
        refine (rF_any _ _ _).mono ?_
        rintro e wf ⟨rfl, hbf⟩
        have rf := (tr4.below z.h).below hbf
        have q0 := rf.c0
        have q1 := rf.c1
        have qf := rf.fz
        have bf := bthen (bthen br z.h) hbf
        go_wp2_with fail
        refine bodyPost_ret (v := .agg #[.int .i64 15, .int .i64 k]) (by simp [results, Try.results42, go_sem, q0, q1]) rfl ⟨rfl, ?_⟩
        exact (bf.setCell (p := ⟨w.heap.size + 1, 0, none⟩) (by show w.heap.size ≤ w.heap.size + 1; omega) _).setCell (p := ⟨w.heap.size + 1, 1, none⟩) (by show w.heap.size ≤ w.heap.size + 1; omega) _
      have g2 : decide (g.terms ≤ x) = false := decide_eq_false hxt
      have HI2 := hd (HI.out.trans (if_neg (by omega)))
      clear HI
      go_wp2_with fail
      refine region_quiet_lit (C := fun w' => ∃ z : Wd wr, w' = z.u) (by kernel_rfl) (by kernel_rfl) (Wd.drawn _) ?_
      iterate 14 (go_big_quiet_step (fail))
      refine wpQuiet_nil ?_
      intro _ hw'
      obtain ⟨z, hw''⟩ := hw'
      subst hw''
      have bz := bthen bel z.h
      go_wp2_with fail
      go_roundw
      case rel => exact ⟨k + 1, by omega, by go_num, HI2, bz⟩
      case measure => simp [intOf]; omega
    · have hr := (hinv.out.trans (bwF_end (by omega))).trans HRE.out
      have HRR := hd hr
      have hgv : g.vars.toNat = V := by have := HV.out.gv; omega
      have CV := CY V HV.out wr br
      have d0 := bkeep brZ x0
      have d1 := bkeep brZ x1
      have d2 := bkeep brZ x2
      have d3 := bkeep brZ x3
      have hcn := cyc_nil (R := g.rules) (V := V)
      rw [← hgv] at hcn
      have HCN := hd hcn
      have HGV := hd hgv
      clear hinv HRE hr hgv CY hcn
      go_wp2_with fail
      refine CV.mono ?_
      rintro e w5 ⟨v5, l, rfl, own5, hl5, hb5⟩
      obtain ⟨a5, c5, rfl⟩ := owns_slice own5
      have hlq : l = [] ↔ Acy g.rules g.vars.toNat := by rw [hl5, ← HGV.out]; exact HCN.out
      have b5 := bthen br hb5
      have t5 := tr4.below hb5
      clear own5 hl5 CV
      by_cases hA : Acy g.rules g.vars.toNat
      · have hl0 : l = [] := hlq.2 hA
        have hr : R = (0, 0) := HRR.out.trans (if_pos (pB_iff.2 hA))
        subst hl0 hr
        have q0 := t5.c0
        have q1 := t5.c1
        have qf := t5.fz
        clear hA hlq
        go_wp2_with fail
        refine bodyPost_ret (v := .agg #[.int .i64 0, .int .i64 0]) (by simp [results, Try.results42, go_sem, q0, q1]) rfl ⟨rfl, ?_⟩
        exact (b5.setCell (p := ⟨w.heap.size + 1, 0, none⟩) (by show w.heap.size ≤ w.heap.size + 1; omega) _).setCell (p := ⟨w.heap.size + 1, 1, none⟩) (by show w.heap.size ≤ w.heap.size + 1; omega) _
      · have hln : l ≠ [] := fun h => hA (hlq.1 h)
        have hr : R = (10, -1) := HRR.out.trans (if_neg (fun h => hA (pB_iff.1 h)))
        have hl0 : 0 < l.length := List.length_pos_iff.2 hln
        subst hr
        clear hA hlq hln
        go_wp2_with fail
        refine (rF_any _ _ _).mono ?_
        rintro e wf ⟨rfl, hbf⟩
        have rf := t5.below hbf
        have q0 := rf.c0
        have q1 := rf.c1
        have qf := rf.fz
        have bf := bthen b5 hbf
        go_wp2_with fail
        refine bodyPost_ret (v := .agg #[.int .i64 10, .int .i64 (-1)]) (by simp [results, Try.results42, go_sem, q0, q1]) rfl ⟨rfl, ?_⟩
        exact (bf.setCell (p := ⟨w.heap.size + 1, 0, none⟩) (by show w.heap.size ≤ w.heap.size + 1; omega) _).setCell (p := ⟨w.heap.size + 1, 1, none⟩) (by show w.heap.size ≤ w.heap.size + 1; omega) _
end Go.Proofs.Ytlhdppkllmnmkad.G
