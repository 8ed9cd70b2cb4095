/- Where a nonterminal leads in one step or more, and what Start comes to, the document's way. -/
import Derived.Test.YtbhpbleenfegjacL14
namespace Go.Proofs.Ytbhpbleenfegjac.G
open Go.RowKit
theorem Qu.tail1 {w : World} {base g off n : Nat} {x : Int} (h : Qu w base (.slice (some ⟨g, off, none⟩) n 1) [x]) : Qu w base (.slice (some ⟨g, off, none⟩) 0 0) [] := by
  have := h.tail
  obtain ⟨_, _, e, _⟩ := h
  simp at e
  obtain ⟨_, rfl, _⟩ := e
  simpa [sliced] using this
theorem Qu.tail2 {w : World} {base g off n cap : Nat} {x : Int} {l : List Int} (h : Qu w base (.slice (some ⟨g, off, none⟩) n cap) (x :: l)) (hc : ¬ cap = 1) : Qu w base (.slice (some ⟨g, off + 1, none⟩) l.length (cap - 1)) l := by
  have := h.tail
  obtain ⟨_, _, e, _⟩ := h
  simp at e
  obtain ⟨_, rfl, _⟩ := e
  simpa [sliced, hc, addr_add] using this
theorem Qu.head {w : World} {base : Nat} {v : Value} {x : Int} {l : List Int} (h : Qu w base v (x :: l)) : ∃ g off cap, v = .slice (some ⟨g, off, none⟩) (l.length + 1) cap ∧ l.length + 1 ≤ cap ∧ base ≤ g ∧ g < w.heap.size ∧ w.cell? ⟨g, off, none⟩ = some (.int .i64 x) := by
  obtain ⟨ao, cap, rfl, h1, h2, h3⟩ := h
  simp only [List.length_cons] at h1
  rcases h3 with ⟨_, rfl⟩ | ⟨g, off, rfl, hb, hz, _, h5⟩
  · omega
  · exact ⟨g, off, cap, by simp, h1, hb, hz, h5 0 (Nat.succ_pos _)⟩
theorem way_lt {I : List Int} {nx : Int → List Int} {V : Nat} {is : List Bool} {x : Int} {l : List Int} (h : Way I nx V is (x :: l)) (hc : ∀ v, Cm I nx v → 0 ≤ v ∧ v < (V : Int)) : ∃ m : Nat, x = m ∧ m < V := by
  have := hc x (h.sndT x (List.mem_cons_self ..))
  exact ⟨x.toNat, by omega, by omega⟩
theorem left_over {V c a b : Nat} (hc : c + 1 ≤ V) (hb : b ≤ 1600) : (V - (c + 1)) * 1601 + (a + b) < (V - c) * 1601 + (a + 1) := by
  obtain ⟨d, rfl⟩ : ∃ d, V = c + 1 + d := ⟨V - (c + 1), by omega⟩
  have h1 : c + 1 + d - (c + 1) = d := by omega
  have h2 : c + 1 + d - c = d + 1 := by omega
  rw [h1, h2, Nat.add_mul]
  omega
set_option maxRecDepth 100000 in
set_option maxHeartbeats 8000000 in
theorem ledTo_any (g : Gm) (V : Nat) (hR : Rgt g V) (nl : List Bool) (hnl : nl.length = V) (hE : ∀ v, isAt nl v = true ↔ Gen false g.rules v) (nb : Nat) (v : Int) (c : Bool) (va : Value) (w : World) (ha : GV w All va g) (hb : BsV w nb nl) :
    Calls Try.prog 80 #[va, .slice (some ⟨nb, 0, none⟩) V V, .int .i64 v, .bool c] w fun e w' => ∃ gb is, e = .returned (.slice (some ⟨gb, 0, none⟩) V V) ∧ w'.ownsRow w.heap.size 4 1 (.slice (some ⟨gb, 0, none⟩) V V) V (bools is) ∧ is.length = V ∧ (∀ x, isAt is x = true ↔ Led c (Gen false g.rules) g.rules v x) ∧ Below w.heap.size w w' := by
  obtain ⟨i0, hi, iz0, iz1, iz2⟩ := info_parts Try.infoBool
  obtain ⟨j0, hj, jz0, jz1, jz2⟩ := info_parts Try.infoInt
  have hCm : ∀ x, Cm (stT c nl g.rules v) (stT c nl g.rules) x → 0 ≤ x ∧ x < (V : Int) := fun x hx => hR.vr.led ((led_cm hE).1 hx)
  have HLed := hd (fun x => led_cm (c := c) (R := g.rules) (a := v) (v := x) hE)
  have hlT := fun u => stT_len hR c nl u
  obtain ⟨u, rfl, hr⟩ := id ha
  obtain ⟨ao, cap, rfl⟩ := hr.slice
  have hgv := hR.gv
  have hV1 := hR.v1
  have hV64 := hR.vr.1
  have SA := fun x w' (hb' : Below w.heap.size w w') => stepsTo_any g V hR nl hnl nb x c _ w' (ha.lw hb') (hb.lw hb')
  rw [hgv] at SA ⊢
  obtain ⟨W, hW⟩ : ∃ W, W = w.alloc (.cells #[.int .i64 V, .int .i64 g.terms, .int .i64 g.start, .slice ao g.rules.length cap] 24) := ⟨_, rfl⟩
  have hWb : Below w.heap.size w W := by rw [hW]; exact al1 _ _
  have hWz : W.heap.size = w.heap.size + 1 := by rw [hW]; simp
  have hW0 : W.cell? ⟨w.heap.size, 0, none⟩ = some (.int .i64 V) := by rw [hW]; simp
  have hW1 : W.cell? ⟨w.heap.size, 1, none⟩ = some (.int .i64 g.terms) := by rw [hW]; simp
  have hW2 : W.cell? ⟨w.heap.size, 2, none⟩ = some (.int .i64 g.start) := by rw [hW]; simp
  have hW3 : W.cell? ⟨w.heap.size, 3, none⟩ = some (.slice ao g.rules.length cap) := by rw [hW]; simp
  have HGV := hd hgv
  clear hgv
  go_enter Try.func80, Try.ntmps80
  go_wp2_with (first | (refine wpList_make_full _ rfl _ _ 76 rfl (w.heap.size + 1) 4 i0 (.bool false) 1 Try.underlying76 hi iz0 iz1 .i64 .i64 _ _ V rfl rfl rfl rfl (by rw [iz2]; omega) (by unfold maxLen; omega) (by simp) ?_))
  intro w1 own1 grow1
  rw [← hW] at grow1
  have k1 := grown_below grow1
  rw [made_bools] at own1
  have hgw : (w.alloc (.cells #[.int .i64 V, .int .i64 g.terms, .int .i64 g.start, .slice ao g.rules.length cap] 24)).heap.size = w.heap.size + 1 := by simp
  obtain ⟨gb, hgb⟩ : ∃ gb, gb = w.heap.size + 1 := ⟨_, rfl⟩
  rw [← hgb] at own1 ⊢
  have HG := hd hgb
  have hgW : W.heap.size ≤ gb := by omega
  have hg1 := (own1.lt gb rfl).2
  clear hgb hW grow1 hgw
  have b1 := bthen hWb k1
  have s0 := bkeep k1 hW0
  have s1 := bkeep k1 hW1
  have s2 := bkeep k1 hW2
  have s3 := bkeep k1 hW3
  have SV := SA v w1 b1
  have hI := hlT v
  go_wp2_with fail
  refine SV.mono ?_
  rintro e w2 ⟨u2, rfl, own2, k2⟩
  have q2 := Qu_owned own2
  have ownI := owns_below own1 k2
  have hWay := Way.start (stT c nl g.rules v) (stT c nl g.rules) V
  have HWay := hd hWay
  have b2 := bthen k1 k2
  obtain ⟨ao2, cap2, rfl⟩ := owns_slice own2
  clear hWay own2 SV s0 s1 s2 s3
  generalize stT c nl g.rules v = I at *
  go_wp2_with fail
  go_loopg [10] 120000 (fun gk tv wr => ∃ (is : List Bool) (todo : List Int), Qu wr w1.heap.size tv todo ∧ wr.ownsRow gb 4 1 (.slice (some ⟨gb, 0, none⟩) V V) V (bools is) ∧ Hid (Way I (stT c nl g.rules) V is todo) ∧ (V - cnt is) * 1601 + todo.length ≤ gk ∧ gk ≤ 120000 ∧ Below W.heap.size W wr)
  case atStart => exact ⟨_, _, q2, ownI, HWay, by have : (V - cnt (List.replicate V false)) * 1601 ≤ 64 * 1601 := Nat.mul_le_mul_right _ (by omega); omega, Nat.le_refl _, b2⟩
  case round =>
    obtain ⟨is, todo, hQ, own, hWy, hgk, hgk2, bel⟩ := hrel
    have hil := hWy.out.len
    have belw := bthen hWb bel
    have hz := bel.size
    cases todo with
    | nil =>
      obtain ⟨aq, cq, rfl⟩ := hQ.slice
      have HD : Hid (∀ x, isAt is x = true ↔ Led c (Gen false g.rules) g.rules v x) := hd (fun x => (hWy.out.done x).trans (HLed.out x))
      go_wp2_with fail
      go_ret
      exact ⟨gb, is, rfl, owns_mono own (by have := HG.out; omega), hil, HD.out, belw⟩
    | cons x rest =>
      obtain ⟨m, rfl, hmV⟩ := way_lt hWy.out hCm
      obtain ⟨gq, oq, cq, rfl, hcq, hgq1, hgq2, cx⟩ := hQ.head
      have hm2 : (m : Int) < (V : Int) := by omega
      have cg : wr.cell? ⟨gb, m, none⟩ = some (.bool (is.getD m false)) := BsV_owned own hil m (by omega)
      have HA : Hid (is.getD m false = true → Way I (stT c nl g.rules) V is rest) := hd (fun e => hWy.out.again (by unfold isAt; simpa using e))
      have HP : Hid (Way I (stT c nl g.rules) V (is.set m true) (rest ++ stT c nl g.rules m)) := hd (hWy.out.put hmV)
      have HC : Hid (is.getD m false = false → cnt (is.set m true) = cnt is + 1) := hd (fun e => cnt_set (by omega) e)
      have hcl := cnt_le (is.set m true)
      rw [List.length_set, hil] at hcl
      rw [List.length_cons] at hgk
      have hTm := hlT m
      have t0 := bkeep bel hW0
      have t1 := bkeep bel hW1
      have t2 := bkeep bel hW2
      have t3 := bkeep bel hW3
      have fz := World.ownsRow.frozenAt own
      clear hWy
      generalize is.getD m false = q at *
      cases q with
      | true =>
        have HA' := hd (HA.out rfl)
        clear HA HP HC t0 t1 t2 t3
        by_cases hc : cq = 1
        · obtain rfl : rest = [] := List.eq_nil_of_length_eq_zero (by omega)
          subst hc
          have qT := hQ.tail1
          go_wp2_with fail
          go_roundg (gk - 1)
          case measure => omega
          case rel => exact ⟨is, ([] : List Int), qT, own, HA', by first | omega | (simp at hgk ⊢; omega) | (simp at hgk; omega) | (simp; omega), by omega, bel⟩
        · have qT := hQ.tail2 hc
          go_wp2_with fail
          go_roundg (gk - 1)
          case measure => omega
          case rel => exact ⟨is, rest, qT, own, HA', by first | omega | (simp at hgk ⊢; omega) | (simp at hgk; omega) | (simp; omega), by omega, bel⟩
      | false =>
        have hcn := HC.out rfl
        clear HA HC
        have q9 := World.ownsRow.stored own m (.bool true)
        have own9 : (wr.setCell ⟨gb, m, none⟩ (.bool true)).ownsRow gb 4 1 (.slice (some ⟨gb, 0, none⟩) V V) V (bools (is.set m true)) := by rw [← bools_set]; exact q9.1
        have be9 := bel.setCell (p := ⟨gb, m, none⟩) hgW (.bool true)
        obtain ⟨Y, hY⟩ : ∃ Y, Y = wr.setCell ⟨gb, m, none⟩ (.bool true) := ⟨_, rfl⟩
        have gr9 := q9.2
        rw [← hY] at own9 be9 gr9
        have zY := gr9.size
        have SY := SA m Y (bthen hWb be9)
        have y0 := bkeep be9 hW0
        have y1 := bkeep be9 hW1
        have y2 := bkeep be9 hW2
        have y3 := bkeep be9 hW3
        have x0 : (wr.setCell ⟨gb, m, none⟩ (.bool true)).cell? ⟨w.heap.size, 0, none⟩ = some (.int .i64 V) := by rw [← hY]; exact y0
        have x1 : (wr.setCell ⟨gb, m, none⟩ (.bool true)).cell? ⟨w.heap.size, 1, none⟩ = some (.int .i64 g.terms) := by rw [← hY]; exact y1
        have x2 : (wr.setCell ⟨gb, m, none⟩ (.bool true)).cell? ⟨w.heap.size, 2, none⟩ = some (.int .i64 g.start) := by rw [← hY]; exact y2
        have x3 : (wr.setCell ⟨gb, m, none⟩ (.bool true)).cell? ⟨w.heap.size, 3, none⟩ = some (.slice ao g.rules.length cap) := by rw [← hY]; exact y3
        clear q9 t0 t1 t2 t3
        by_cases hc : cq = 1
        · obtain rfl : rest = [] := List.eq_nil_of_length_eq_zero (by omega)
          subst hc
          have qT := hQ.tail1
          have qY := qT.kept gr9 (.inr (by simp [Value.ownBlock]; omega))
          go_wp2_with fail
          rw [← hY]
          refine SY.mono ?_
          rintro e Z ⟨uZ, rfl, ownZ, kZ⟩
          have iZ : IsV Z All uZ (stT c nl g.rules m) := IsV_owned ownZ (by omega) (fun _ _ => trivial)
          obtain ⟨az, cz, rfl⟩ := iZ.slice
          have qZ := qY.lw kZ
          have bZ := bthen be9 kZ
          have oZ := owns_below own9 kZ
          have zZ := bZ.size
          have zW := bel.size
          have zz := kZ.size
          have b12 := k1.size
          go_wp2_with (first | (at_builtin; go_must (refine wpList_append_qu _ rfl _ _ 33 rfl w1.heap.size 3 j0 Try.underlying33 hj jz0 jz1 jz2 _ ([] : List Int) rfl qZ All _ _ rfl iZ (by first | omega | (simp at hgk ⊢; omega) | (simp at hgk; omega) | (simp; omega)) (by have := (hQ.lt gq rfl).2; omega) ?_)))
          intro v1 W1 qu1 grow1 hat1
          obtain ⟨a1, c1, rfl⟩ := qu1.slice
          have ow1 := oZ.kept grow1 (.inr (by simp [Value.ownBlock]; omega))
          have be1 : Below W.heap.size W W1 := bZ.grown grow1 zZ (fun j hj => by have := (qZ.lt j hj).1; omega)
          have hlo := left_over (V := V) (c := cnt is) (a := (([] : List Int)).length) (b := (stT c nl g.rules m).length) (by omega) hTm
          go_wp2_with fail
          go_roundg (gk - 1)
          case measure => omega
          case rel => exact ⟨_, _, qu1, ow1, HP, by rw [hcn]; first | omega | (simp at hgk hlo ⊢; omega) | (simp at hlo ⊢; omega) | (rw [List.length_append]; omega) | (simp; omega), by omega, be1⟩
        · have qT := hQ.tail2 hc
          have qY := qT.kept gr9 (.inr (by simp [Value.ownBlock]; omega))
          go_wp2_with fail
          rw [← hY]
          refine SY.mono ?_
          rintro e Z ⟨uZ, rfl, ownZ, kZ⟩
          have iZ : IsV Z All uZ (stT c nl g.rules m) := IsV_owned ownZ (by omega) (fun _ _ => trivial)
          obtain ⟨az, cz, rfl⟩ := iZ.slice
          have qZ := qY.lw kZ
          have bZ := bthen be9 kZ
          have oZ := owns_below own9 kZ
          have zZ := bZ.size
          have zW := bel.size
          have zz := kZ.size
          have b12 := k1.size
          go_wp2_with (first | (at_builtin; go_must (refine wpList_append_qu _ rfl _ _ 33 rfl w1.heap.size 3 j0 Try.underlying33 hj jz0 jz1 jz2 _ rest rfl qZ All _ _ rfl iZ (by first | omega | (simp at hgk ⊢; omega) | (simp at hgk; omega) | (simp; omega)) (by have := (hQ.lt gq rfl).2; omega) ?_)))
          intro v1 W1 qu1 grow1 hat1
          obtain ⟨a1, c1, rfl⟩ := qu1.slice
          have ow1 := oZ.kept grow1 (.inr (by simp [Value.ownBlock]; omega))
          have be1 : Below W.heap.size W W1 := bZ.grown grow1 zZ (fun j hj => by have := (qZ.lt j hj).1; omega)
          have hlo := left_over (V := V) (c := cnt is) (a := (rest).length) (b := (stT c nl g.rules m).length) (by omega) hTm
          go_wp2_with fail
          go_roundg (gk - 1)
          case measure => omega
          case rel => exact ⟨_, _, qu1, ow1, HP, by rw [hcn]; first | omega | (simp at hgk hlo ⊢; omega) | (simp at hlo ⊢; omega) | (rw [List.length_append]; omega) | (simp; omega), by omega, be1⟩
end Go.Proofs.Ytbhpbleenfegjac.G
