/- What Start comes to, the document's way. -/
import Derived.Test.YtbhpbleenfegjacL15
import Derived.Deep.CutRange
namespace Go.Proofs.Ytbhpbleenfegjac.G
open Go.RowKit
theorem Qu.form {w : World} {base : Nat} {v : Value} {l : List Int} (h : Qu w base v l) : ∃ ao n cap, v = .slice ao n cap := let ⟨ao, cap, e, _⟩ := h; ⟨ao, _, cap, e⟩
/-- One step of a region that draws its order: numbers behind those that are still to be done. -/
theorem step_qu {P : Program} {ops : Array Oper} {o : Oper} {a : Act} {w : World} {K : Act → World → Prop} {Q : Exit → Act → World → Prop} {E : Prop}
    (hg : o.guard = none) (s x : Operand) (t : TypeId) (hop : o.op = Op.call { callee := Callee.builtin Builtin.append, args := #[s, x], argTypes := #[t, t] })
    (base : Nat) (e : TypeId) (i : TypeInfo) (h1 : P.underlying t = some (.slice e)) (h2 : P.info? e = some i) (h3 : i.zero = some (.int .i64 0)) (h4 : i.size = 1) (h5 : i.bytes = 8)
    (v : Value) (l : List Int) (hs : a.eval s = v) (hv : Qu w base v l) (S : Nat → Prop) (u : Value) (m : List Int) (hx : a.eval x = u) (hu : IsV w S u m) (b1 : l.length + m.length ≤ 10000000) (hbase : base ≤ w.heap.size)
    (hK : ∀ v' w', Qu w' base v' (l ++ m) → w.grownBy w' v.ownBlock → (v'.ownBlock = v.ownBlock ∨ ∀ k, v'.ownBlock = some k → w.heap.size ≤ k) → K (a.put o.dst v') w') :
    if Region.wanted o (yielded ops a.tmps) = true then Oper.wp P o a w K Q else E := by
  have hw : Region.wanted o (yielded ops a.tmps) = true := by simp [Region.wanted, hg]
  rw [if_pos hw]
  obtain ⟨v', w', hrun, r1, r2, r3⟩ := run_append_qu (P := P) w base t o.type e i h1 h2 h3 h4 h5 v l hv S u m hu b1 hbase
  unfold Oper.wp
  simp [execOp, hop, resolve, invoke, builtin, hs, hx, hrun, Result.andThen]
  exact hK v' w' r1 r2 r3
theorem reach_len {g : Gm} {V : Nat} (hR : Rgt g V) (l : List Int) (hl : ∀ x ∈ l, ∃ j : Nat, x = j ∧ j < g.rules.length) : (byF kidsL g.rules l).length ≤ l.length * 10 :=
  byF_len fun i hi => by
    obtain ⟨j, rfl, hj⟩ := hl i hi
    rw [ruAt_nat _ hj]
    exact Nat.le_trans (kidsL_len _) (hR.short _ (List.getElem_mem hj))
set_option maxRecDepth 100000 in
set_option maxHeartbeats 8000000 in
theorem reachedOf_any (g : Gm) (V : Nat) (hR : Rgt g V) (va : Value) (w : World) (ha : GV w All va g) :
    Calls Try.prog 44 #[va] w fun e w' => ∃ gb is, e = .returned (.slice (some ⟨gb, 0, none⟩) V V) ∧ w'.ownsRow w.heap.size 4 1 (.slice (some ⟨gb, 0, none⟩) V V) V (bools is) ∧ is.length = V ∧ (∀ x, isAt is x = true ↔ Rch g.rules g.start x) ∧ Below w.heap.size w w' := by
  obtain ⟨i0, hi, iz0, iz1, iz2⟩ := info_parts Try.infoBool
  obtain ⟨j0, hj, jz0, jz1, jz2⟩ := info_parts Try.infoInt
  obtain ⟨nx, hnx⟩ : ∃ nx : Int → List Int, nx = fun v => byF kidsL g.rules (byL v g.rules 0) := ⟨_, rfl⟩
  have hCm : ∀ x, Cm [g.start] nx x → 0 ≤ x ∧ x < (V : Int) := fun x hx => hR.vr.rch hR.st (rch_cm.1 (hnx ▸ hx))
  have HRch : Hid (∀ x, Cm [g.start] nx x ↔ Rch g.rules g.start x) := hd (fun x => by rw [hnx]; exact rch_cm)
  have hbl := fun v => byL_len v g.rules 0
  have hbm : ∀ v, ∀ x ∈ byL v g.rules 0, ∃ j : Nat, x = j ∧ j < g.rules.length := fun v x hx => byL_at hx
  have hfew := hR.few
  have hnl : ∀ v, (nx v).length ≤ 1600 := fun v => by
    have h1 := reach_len hR (byL v g.rules 0) (hbm v)
    have h2 := hbl v
    rw [hnx]; show (byF kidsL g.rules (byL v g.rules 0)).length ≤ 1600; omega
  have HNX : Hid (∀ v, nx v = byF kidsL g.rules (byL v g.rules 0)) := hd (fun v => by rw [hnx])
  clear hnx
  obtain ⟨u, rfl, hr⟩ := id ha
  obtain ⟨ao, cap, rfl⟩ := hr.slice
  have hl := hr.1
  have hgv := hR.gv
  have hV1 := hR.v1
  have hV64 := hR.vr.1
  have RA := fun x w' (hb' : Below w.heap.size w w') => rulesOf_any g x _ w' (ha.lw hb') (by omega)
  rw [hgv] at RA ⊢
  obtain ⟨W, hW⟩ : ∃ W, W = w.alloc (.cells #[.int .i64 V, .int .i64 g.terms, .int .i64 g.start, .slice ao g.rules.length cap] 24) := ⟨_, rfl⟩
  have hWb : Below w.heap.size w W := by rw [hW]; exact al1 _ _
  have hWz : W.heap.size = w.heap.size + 1 := by rw [hW]; simp
  have hW0 : W.cell? ⟨w.heap.size, 0, none⟩ = some (.int .i64 V) := by rw [hW]; simp
  have hW1 : W.cell? ⟨w.heap.size, 1, none⟩ = some (.int .i64 g.terms) := by rw [hW]; simp
  have hW2 : W.cell? ⟨w.heap.size, 2, none⟩ = some (.int .i64 g.start) := by rw [hW]; simp
  have hW3 : W.cell? ⟨w.heap.size, 3, none⟩ = some (.slice ao g.rules.length cap) := by rw [hW]; simp
  have HGV := hd hgv
  clear hgv
  go_enter Try.func44, Try.ntmps44
  go_wp2_with (first | (refine wpList_make_full _ rfl _ _ 76 rfl (w.heap.size + 1) 4 i0 (.bool false) 1 Try.underlying76 hi iz0 iz1 .i64 .i64 _ _ V rfl rfl rfl rfl (by rw [iz2]; omega) (by unfold maxLen; omega) (by simp) ?_))
  intro w1 own1 grow1
  rw [← hW] at grow1
  have k1 := grown_below grow1
  rw [made_bools] at own1
  have hgw : (w.alloc (.cells #[.int .i64 V, .int .i64 g.terms, .int .i64 g.start, .slice ao g.rules.length cap] 24)).heap.size = w.heap.size + 1 := by simp
  obtain ⟨gb, hgb⟩ : ∃ gb, gb = w.heap.size + 1 := ⟨_, rfl⟩
  rw [← hgb] at own1 ⊢
  have HG := hd hgb
  have hgW : W.heap.size ≤ gb := by omega
  have hg1 := (own1.lt gb rfl).2
  clear hgb hW grow1 hgw
  have b1 := bthen hWb k1
  have s2 := bkeep k1 hW2
  obtain ⟨w2, hw2⟩ : ∃ w2, w2 = w1.alloc (.cells #[.int .i64 g.start] 3) := ⟨_, rfl⟩
  have k2 : Below w1.heap.size w1 w2 := by rw [hw2]; exact al1 _ _
  have q2 : Qu w2 w1.heap.size (.slice (some ⟨w1.heap.size, 0, none⟩) 1 1) [g.start] := by
    rw [hw2]
    exact Qu_owned (l := [g.start]) (World.ownsRow_lit w1 #[.int .i64 g.start] 1 (Nat.le_refl _) (by unfold maxLen; omega) (by simp))
  have ownI := owns_below own1 k2
  have HWay := hd (Way.start [g.start] nx V)
  have b2 := bthen k1 k2
  go_wp2_with fail
  rw [← hw2]
  clear hw2 s2
  go_loopg [4] 120000 (fun gk tv wr => ∃ (is : List Bool) (todo : List Int), Qu wr w1.heap.size tv todo ∧ wr.ownsRow gb 4 1 (.slice (some ⟨gb, 0, none⟩) V V) V (bools is) ∧ Hid (Way [g.start] nx V is todo) ∧ (V - cnt is) * 1601 + todo.length ≤ gk ∧ gk ≤ 120000 ∧ w1.heap.size ≤ wr.heap.size ∧ Below W.heap.size W wr)
  case atStart => exact ⟨_, _, q2, ownI, HWay, by have : (V - cnt (List.replicate V false)) * 1601 ≤ 64 * 1601 := Nat.mul_le_mul_right _ (by omega); simp; omega, Nat.le_refl _, k2.size, b2⟩
  case round =>
    obtain ⟨is, todo, hQ, own, hWy, hgk, hgk2, hz1, bel⟩ := hrel
    have hil := hWy.out.len
    have belw := bthen hWb bel
    have hz := bel.size
    cases todo with
    | nil =>
      obtain ⟨aq, cq, rfl⟩ := hQ.slice
      have HD : Hid (∀ x, isAt is x = true ↔ Rch g.rules g.start x) := hd (fun x => (hWy.out.done x).trans (HRch.out x))
      go_wp2_with fail
      go_ret
      exact ⟨gb, is, rfl, owns_mono own (by have := HG.out; omega), hil, HD.out, belw⟩
    | cons x0 rest =>
      obtain ⟨m, rfl, hmV⟩ := way_lt hWy.out hCm
      obtain ⟨gq, oq, cq, rfl, hcq, hgq1, hgq2, cx⟩ := hQ.head
      have hm2 : (m : Int) < (V : Int) := by omega
      have cg : wr.cell? ⟨gb, m, none⟩ = some (.bool (is.getD m false)) := BsV_owned own hil m (by omega)
      have HA : Hid (is.getD m false = true → Way [g.start] nx V is rest) := hd (fun e => hWy.out.again (by unfold isAt; simpa using e))
      have HP : Hid (Way [g.start] nx V (is.set m true) (rest ++ nx m)) := hd (hWy.out.put hmV)
      have HC : Hid (is.getD m false = false → cnt (is.set m true) = cnt is + 1) := hd (fun e => cnt_set (by omega) e)
      have hcl := cnt_le (is.set m true)
      rw [List.length_set, hil] at hcl
      rw [List.length_cons] at hgk
      have hTm := hnl m
      have fz := World.ownsRow.frozenAt own
      clear hWy
      generalize is.getD m false = q at *
      go_upto_region 5 with fail
      go_cut [4] from 14 to 49 (fun v4 wc => Qu wr w1.heap.size v4 rest ∧ wc = wr)
      case first =>
        by_cases hc : cq = 1
        · obtain rfl : rest = [] := List.eq_nil_of_length_eq_zero (by omega)
          subst hc
          have qT := hQ.tail1
          go_wp2_with fail
          go_meet
          exact ⟨qT, rfl⟩
        · have qT := hQ.tail2 hc
          go_wp2_with fail
          go_meet
          exact ⟨qT, rfl⟩
      case rest =>
      obtain ⟨qT, hwc⟩ := hcut
      obtain rfl := hwc.symm
      clear hQ hcq hgq1 hgq2 cx
      obtain ⟨aq, ct, rfl⟩ := qT.slice
      cases q with
      | true =>
        have HA' := hd (HA.out rfl)
        clear HA HP HC
        go_wp2_with fail
        go_roundg (gk - 1)
        case measure => omega
        case rel => exact ⟨is, rest, qT, own, HA', by omega, by omega, hz1, bel⟩
      | false =>
        have hcn := HC.out rfl
        clear HA HC
        have q9 := World.ownsRow.stored own m (.bool true)
        have own9 : (wr.setCell ⟨gb, m, none⟩ (.bool true)).ownsRow gb 4 1 (.slice (some ⟨gb, 0, none⟩) V V) V (bools (is.set m true)) := by rw [← bools_set]; exact q9.1
        have be9 := bel.setCell (p := ⟨gb, m, none⟩) hgW (.bool true)
        obtain ⟨Y, hY⟩ : ∃ Y, Y = wr.setCell ⟨gb, m, none⟩ (.bool true) := ⟨_, rfl⟩
        have gr9 := q9.2
        rw [← hY] at own9 be9 gr9
        have zY := gr9.size
        have qY := qT.kept gr9 (by
          cases e : (Value.slice aq rest.length ct).ownBlock with
          | none => exact .inl rfl
          | some q => right; intro e2; have h1 := (qT.lt q e).1; cases e2; omega)
        have RY := RA m Y (bthen hWb be9)
        have HNm := hd (HNX.out m)
        have hblm := hbl m
        have hbmm := hbm m
        generalize byL m g.rules 0 = l at *
        have y0 := bkeep be9 hW0
        have y1 := bkeep be9 hW1
        have y2 := bkeep be9 hW2
        have y3 := bkeep be9 hW3
        have x0 : (wr.setCell ⟨gb, m, none⟩ (.bool true)).cell? ⟨w.heap.size, 0, none⟩ = some (.int .i64 V) := by rw [← hY]; exact y0
        have x1 : (wr.setCell ⟨gb, m, none⟩ (.bool true)).cell? ⟨w.heap.size, 1, none⟩ = some (.int .i64 g.terms) := by rw [← hY]; exact y1
        have x2 : (wr.setCell ⟨gb, m, none⟩ (.bool true)).cell? ⟨w.heap.size, 2, none⟩ = some (.int .i64 g.start) := by rw [← hY]; exact y2
        have x3 : (wr.setCell ⟨gb, m, none⟩ (.bool true)).cell? ⟨w.heap.size, 3, none⟩ = some (.slice ao g.rules.length cap) := by rw [← hY]; exact y3
        clear q9
        go_wp2_with fail
        rw [← hY]
        clear x0 x1 x2 x3 y0 y1 y2 y3 hY own qT
        refine RY.mono ?_
        rintro e Z ⟨ul, rfl, ownl, kZ⟩
        have qZ := qY.lw kZ
        have oZ := owns_below own9 kZ
        have bZ := bthen be9 kZ
        have zZ := kZ.size
        obtain ⟨al, cl, hul⟩ := owns_slice ownl
        have hne0 : ul.ownBlock = none ∨ ul.ownBlock ≠ (Value.slice aq rest.length ct).ownBlock := by
          cases hu : ul.ownBlock with
          | none => exact .inl rfl
          | some q => right; intro e; have h1 := (ownl.lt q hu).1; have h2 := (qY.lt q e.symm).2; omega
        subst hul
        clear own9 be9 gr9 RY
        go_wp2_with fail
        go_loopw [4, 7] (fun tv i wx => ∃ (k : Nat) (acc : List Int), k ≤ l.length ∧ i = .int .i64 k ∧ Hid (acc = byF kidsL g.rules (l.take k)) ∧ acc.length ≤ k * 10 ∧ Qu wx w1.heap.size tv (rest ++ acc) ∧ wx.ownsRow Y.heap.size 3 1 (.slice al l.length cl) l.length (ints l) ∧ ((Value.slice al l.length cl).ownBlock = none ∨ (Value.slice al l.length cl).ownBlock ≠ tv.ownBlock) ∧ wx.ownsRow gb 4 1 (.slice (some ⟨gb, 0, none⟩) V V) V (bools (is.set m true)) ∧ w1.heap.size ≤ wx.heap.size ∧ Below W.heap.size W wx) (fun _ i _ => l.length - (intOf i).toNat)
        case atStart => exact ⟨0, [], Nat.zero_le _, rfl, hd (by simp [byF]), Nat.zero_le _, by simpa using qZ, ownl, hne0, oZ, by omega, bZ⟩
        case round =>
          clear qY qZ oZ bZ ownl hne0 bel
          obtain ⟨k, acc, hk, rfl, hacc, hal, hQ, ownl, hne, own, hz2, bel⟩ := hrel
          obtain ⟨aq2, nq2, cq2, rfl⟩ := hQ.form
          by_cases hlt : k < l.length
          · have il : IsV wr All (.slice al l.length cl) l := IsV_owned ownl (by omega) (fun _ _ => trivial)
            obtain ⟨bl, ol, rfl, cl0⟩ := il.at_ hlt
            obtain ⟨j, hj', hjR⟩ := hbmm l[k] (List.getElem_mem hlt)
            rw [hj'] at cl0
            have HS := hd (byF_snoc kidsL g.rules l hlt)
            rw [hj', ruAt_nat g.rules hjR] at HS
            have hsh := hR.short _ (List.getElem_mem hjR)
            have hkl := kidsL_len g.rules[j].right
            obtain ⟨b, o, rfl, _, ar, cr, c1w, hc0⟩ := hr.at_ hjR
            have hj2 : (j : Int) < (g.rules.length : Int) := by omega
            have hlt2 : (k : Int) < (l.length : Int) := by omega
            have HN : Hid (acc ++ kidsL g.rules[j].right = byF kidsL g.rules (l.take (k + 1))) := hd (by rw [HS.out, hacc.out])
            clear HS hacc
            generalize g.rules[j].right = x at *
            have hxl := hc0.1
            have bewr := bthen hWb bel
            have dD := drw1 wr
            have isD := (hc0.lw bewr).lw dD
            have qD := hQ.lw dD
            have ownlD := owns_below ownl dD
            have ownD := owns_below own dD
            have beD := bthen bel dD
            have zY0 : w1.heap.size ≤ wr.drew.heap.size := by have := dD.size; omega
            have hs0 : World.cell? wr.drew ⟨w.heap.size, 3, none⟩ = some (.slice (some ⟨b, o, none⟩) g.rules.length cap) ∧ World.cell? wr.drew ⟨bl, ol + k, none⟩ = some (.int .i64 j) ∧ World.cell? wr.drew ⟨b, o + j * 2 + 1, none⟩ = some (.slice ar x.length cr) := ⟨bkeep beD hW3, bkeep dD cl0, bkeep (bthen hWb beD) c1w⟩
            go_wp2_with fail
            refine wp_region_noPanic ?_
            refine wp_region_held_drew (S := fun w' => World.cell? w' ⟨w.heap.size, 3, none⟩ = some (.slice (some ⟨b, o, none⟩) g.rules.length cap) ∧ World.cell? w' ⟨bl, ol + k, none⟩ = some (.int .i64 j) ∧ World.cell? w' ⟨b, o + j * 2 + 1, none⟩ = some (.slice ar x.length cr)) (by kernel_rfl) hs0 ?_
            intro hSw
            obtain ⟨y0, hy0⟩ : ∃ y0, y0 = wr.drew := ⟨_, rfl⟩
            rw [← hy0] at hSw isD qD ownlD ownD beD zY0 ⊢
            clear hy0
            refine wpAnyH_take (i := 0) (v := ?v1) rfl (by kernel_rfl) (by kernel_rfl) (by kernel_rfl) (fun _ _ _ h => np_panic h) (Or.inl ⟨by rfl, ?hy1⟩) (by assumption) ?_
            case hy1 => (intro w' hS'; (try dsimp only at hS'); go_simp; try with_reducible rfl)
            simp only [Act.put, List.setIfInBounds_toArray, List.set_cons_zero, List.set_cons_succ, List.getElem_toArray, List.getElem_cons_zero]
            refine wpAnyH_take (i := 1) (v := ?v2) rfl (by kernel_rfl) (by kernel_rfl) (by kernel_rfl) (fun _ _ _ h => np_panic h) (Or.inl ⟨by rfl, ?hy2⟩) (by assumption) ?_
            case hy2 => (intro w' hS'; (try dsimp only at hS'); go_simp; try with_reducible rfl)
            simp only [Act.put, List.setIfInBounds_toArray, List.set_cons_zero, List.set_cons_succ, List.getElem_toArray, List.getElem_cons_succ, List.getElem_cons_zero]
            refine wpAnyH_take (i := 2) (v := ?v3) rfl (by kernel_rfl) (by kernel_rfl) (by kernel_rfl) (fun _ _ _ h => np_panic h) (Or.inl ⟨by rfl, ?hy3⟩) (by assumption) ?_
            case hy3 => (intro w' hS'; (try dsimp only at hS'); go_simp; try with_reducible rfl)
            simp only [Act.put, List.setIfInBounds_toArray, List.set_cons_zero, List.set_cons_succ, List.getElem_toArray, List.getElem_cons_succ, List.getElem_cons_zero]
            refine wpAnyH_take (i := 3) (v := ?v4) rfl (by kernel_rfl) (by kernel_rfl) (by kernel_rfl) (fun _ _ _ h => np_panic h) (Or.inl ⟨by rfl, ?hy4⟩) (by assumption) ?_
            case hy4 => (intro w' hS'; (try dsimp only at hS'); go_simp; try with_reducible rfl)
            simp only [Act.put, List.setIfInBounds_toArray, List.set_cons_zero, List.set_cons_succ, List.getElem_toArray, List.getElem_cons_succ, List.getElem_cons_zero]
            refine wpAnyH_take (i := 4) (v := ?v5) rfl (by kernel_rfl) (by kernel_rfl) (by kernel_rfl) (fun _ _ _ h => np_panic h) (Or.inl ⟨by rfl, ?hy5⟩) (by assumption) ?_
            case hy5 => (intro w' hS'; (try dsimp only at hS'); go_simp; try with_reducible rfl)
            simp only [Act.put, List.setIfInBounds_toArray, List.set_cons_zero, List.set_cons_succ, List.getElem_toArray, List.getElem_cons_succ, List.getElem_cons_zero]
            refine wpAnyH_take (i := 5) (v := ?v6) rfl (by kernel_rfl) (by kernel_rfl) (by kernel_rfl) (fun _ _ _ h => np_panic h) (Or.inl ⟨by rfl, ?hy6⟩) (by assumption) ?_
            case hy6 => (intro w' hS'; (try dsimp only at hS'); go_simp; try with_reducible rfl)
            simp only [Act.put, List.setIfInBounds_toArray, List.set_cons_zero, List.set_cons_succ, List.getElem_toArray, List.getElem_cons_succ, List.getElem_cons_zero]
            refine wpAnyH_take (i := 6) (v := ?v7) rfl (by kernel_rfl) (by kernel_rfl) (by kernel_rfl) (fun _ _ _ h => np_panic h) (Or.inl ⟨by rfl, ?hy7⟩) (by assumption) ?_
            case hy7 => (intro w' hS'; (try dsimp only at hS'); go_simp; try with_reducible rfl)
            simp only [Act.put, List.setIfInBounds_toArray, List.set_cons_zero, List.set_cons_succ, List.getElem_toArray, List.getElem_cons_succ, List.getElem_cons_zero]
            refine wpAnyH_take (i := 7) (v := ?v8) rfl (by kernel_rfl) (by kernel_rfl) (by kernel_rfl) (fun _ _ _ h => np_panic h) (Or.inl ⟨by rfl, ?hy8⟩) (by assumption) ?_
            case hy8 => (intro w' hS'; (try dsimp only at hS'); go_simp; try with_reducible rfl)
            simp only [Act.put, List.setIfInBounds_toArray, List.set_cons_zero, List.set_cons_succ, List.getElem_toArray, List.getElem_cons_succ, List.getElem_cons_zero]
            refine wpAnyH_take (i := 8) (v := ?v9) rfl (by kernel_rfl) (by kernel_rfl) (by kernel_rfl) (fun _ _ _ h => np_panic h) (Or.inl ⟨by rfl, ?hy9⟩) (by assumption) ?_
            case hy9 => (intro w' hS'; (try dsimp only at hS'); go_simp; try with_reducible rfl)
            simp only [Act.put, List.setIfInBounds_toArray, List.set_cons_zero, List.set_cons_succ, List.getElem_toArray, List.getElem_cons_succ, List.getElem_cons_zero]
            refine wpAnyH_take (i := 9) (v := ?v10) rfl (by kernel_rfl) (by kernel_rfl) (by kernel_rfl) (fun _ _ _ h => np_panic h) (Or.inl ⟨by rfl, ?hy10⟩) (by assumption) ?_
            case hy10 => (intro w' hS'; (try dsimp only at hS'); go_simp; try with_reducible rfl)
            simp only [Act.put, List.setIfInBounds_toArray, List.set_cons_zero, List.set_cons_succ, List.getElem_toArray, List.getElem_cons_succ, List.getElem_cons_zero]
            refine wpAnyH_ready (rs := [10]) (by kernel_rfl) (by simp) ?_
            refine AllReadyH.cons rfl (fun K hK => ?_) AllReadyH.nil
            go_simp
            go_at_call 21
            refine (kidsOf_any x _ y0 isD (by omega)).mono ?_
            rintro e yy ⟨vk, rfl, ownk, hby⟩
            have ik : IsV yy All vk (kidsL x) := IsV_owned ownk (by omega) (fun _ _ => trivial)
            obtain ⟨ak, ck, rfl⟩ := ik.slice
            have qY := qD.lw hby
            have ownlY := owns_below ownlD hby
            have ownY := owns_below ownD hby
            have beY := bthen beD hby
            have sY : World.cell? yy ⟨w.heap.size, 3, none⟩ = some (.slice (some ⟨b, o, none⟩) g.rules.length cap) ∧ World.cell? yy ⟨bl, ol + k, none⟩ = some (.int .i64 j) ∧ World.cell? yy ⟨b, o + j * 2 + 1, none⟩ = some (.slice ar x.length cr) := ⟨bkeep hby hSw.1, bkeep hby hSw.2.1, bkeep hby hSw.2.2⟩
            have zyy := hby.size
            have zbe := beY.size
            have zD : w1.heap.size ≤ y0.heap.size := by have := zY0; omega
            refine hK.out _ _ sY ?_
            clear hK K
            intro hSw
            try simp only [Act.put, List.setIfInBounds_toArray, List.set_cons_zero, List.set_cons_succ]
            refine wpAnyH_ready (rs := [11]) (by kernel_rfl) (by simp) ?_
            refine AllReadyH.cons rfl (fun K hK => ?_) AllReadyH.nil
            refine step_qu rfl _ _ 33 rfl w1.heap.size 3 j0 Try.underlying33 hj jz0 jz1 jz2 _ (rest ++ acc) rfl qY All _ (kidsL x) rfl ik (by rw [List.length_append]; omega) (by omega) ?_
            intro v1 y1 qu1 grow1 hat1
            obtain ⟨a1, n1, c1, rfl⟩ := qu1.form
            have ownl1 := ownlY.kept grow1 hne
            have own1 := ownY.kept grow1 (.inr (fun e => by have := (qY.lt gb e.symm).1; omega))
            have be1 : Below W.heap.size W y1 := beY.grown grow1 zbe (fun q hq => by have := (qY.lt q hq).1; omega)
            have hne1 : (Value.slice (some ⟨bl, ol, none⟩) l.length cl).ownBlock = none ∨ (Value.slice (some ⟨bl, ol, none⟩) l.length cl).ownBlock ≠ (Value.slice a1 n1 c1).ownBlock := by
              rcases hat1 with h | h
              · rw [h]; exact hne
              · cases hu : (Value.slice (some ⟨bl, ol, none⟩) l.length cl).ownBlock with
                | none => exact .inl rfl
                | some q =>
                  right
                  intro e
                  have e1 := h q e.symm
                  have e2 := (ownlY.lt q hu).2
                  omega
            have il1 : IsV y1 All (.slice (some ⟨bl, ol, none⟩) l.length cl) l := IsV_owned ownl1 (by omega) (fun _ _ => trivial)
            have s1 : World.cell? y1 ⟨w.heap.size, 3, none⟩ = some (.slice (some ⟨b, o, none⟩) g.rules.length cap) ∧ World.cell? y1 ⟨bl, ol + k, none⟩ = some (.int .i64 j) ∧ World.cell? y1 ⟨b, o + j * 2 + 1, none⟩ = some (.slice ar x.length cr) := by
              refine ⟨bkeep be1 hW3, ?_, bkeep (bthen hWb be1) c1w⟩
              obtain ⟨b', o', e', cc⟩ := il1.at_ hlt
              simp at e'
              obtain ⟨rfl, rfl⟩ := e'
              rw [hj'] at cc
              exact cc
            refine hK.out _ _ s1 ?_
            clear hK K
            intro hSw
            simp only [Act.put, List.setIfInBounds_toArray, List.set_cons_zero, List.set_cons_succ, List.getElem_toArray, List.getElem_cons_succ, List.getElem_cons_zero]
            refine wpAnyH_take (i := 12) (v := ?v11) rfl (by kernel_rfl) (by kernel_rfl) (by kernel_rfl) (fun _ _ _ h => np_panic h) (Or.inl ⟨by rfl, ?hy11⟩) (by assumption) ?_
            case hy11 => (intro w' hS'; (try dsimp only at hS'); go_simp; try with_reducible rfl)
            simp only [Act.put, List.setIfInBounds_toArray, List.set_cons_zero, List.set_cons_succ, List.getElem_toArray, List.getElem_cons_succ, List.getElem_cons_zero]
            refine wpAnyH_done (by kernel_rfl) (NoPanic.normal ?_) _
            go_wp2_with fail
            go_roundw
            case rel => exact ⟨k + 1, acc ++ kidsL x, by omega, by go_num, HN, by rw [List.length_append]; omega, by rw [← List.append_assoc]; exact qu1, ownl1, hne1, own1, by have := grow1.size; omega, be1⟩
            case measure => simp [intOf]; omega
          · have he : Hid (rest ++ acc = rest ++ nx m) := hd (by rw [HNm.out, hacc.out, List.take_of_length_le (by omega)])
            rw [he.out] at hQ
            have hlo := left_over (V := V) (c := cnt is) (a := rest.length) (b := (nx m).length) (by omega) hTm
            clear hacc
            go_wp2_with fail
            go_roundg (gk - 1)
            case measure => omega
            case rel => exact ⟨_, _, hQ, own, HP, by rw [hcn, List.length_append]; omega, by omega, hz2, bel⟩
end Go.Proofs.Ytbhpbleenfegjac.G
