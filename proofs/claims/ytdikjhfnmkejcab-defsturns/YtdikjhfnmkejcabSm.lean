/- Two expressions that are held against each other. -/
import Derived.Test.YtdikjhfnmkejcabDefn
import Derived.Test.YtdikjhfnmkejcabXk
namespace Go.Proofs.Ytdikjhfnmkejcab
open Go.RowKit
theorem Xp.ext3 {x y : Xp} (h1 : x.op = y.op) (h2 : x.nm = y.nm) (h3 : x.kids = y.kids) : x = y := by cases x; cases y; simp_all
/-- What is asked of one expression. -/
def smEOK (x : Xp) : Prop := ∀ (y : Xp) (va vb : Value) (w : World), XV w All va x → XV w All vb y →
  Calls Try.prog 42 #[va, vb] w fun e w' => e = .returned (.bool (decide (x = y))) ∧ Below w.heap.size w w'
set_option maxRecDepth 100000 in
set_option maxHeartbeats 4000000 in
theorem smE_head (x : Xp) (ih : ∀ i, i < x.kids.len → smEOK (x.kids.at_ i)) : smEOK x := by
  intro y va vb w hx hy
  have hx0 := hx
  have hy0 := hy
  obtain ⟨u, rfl, hl, aoa, capa, rfl, hin⟩ := hx
  obtain ⟨u', rfl, hl', aob, capb, rfl, hin'⟩ := hy
  generalize hR : decide (x = y) = R
  by_cases h1 : x.op = y.op
  rotate_left
  · have hr : R = false := by rw [← hR]; simp; intro e; exact h1 (by rw [e])
    have b1 : (x.op != y.op) = true := by simpa using h1
    clear hR ih hin hin'
    subst hr
    go_enter Try.func42, Try.ntmps42
    go_wp2_with fail
    go_ret
    exact ⟨rfl, ((Below.refl _ _).alloc (Nat.le_refl _) _).alloc (by simp) _⟩
  by_cases h2 : x.nm = y.nm
  rotate_left
  · have hr : R = false := by rw [← hR]; simp; intro e; exact h2 (by rw [e])
    have b2 : (x.nm.toList == y.nm.toList) = false := by rw [beq_str]; simpa using h2
    clear hR ih hin hin'
    subst hr
    rw [h1]
    go_enter Try.func42, Try.ntmps42
    go_wp2_with fail
    go_ret
    exact ⟨rfl, ((Below.refl _ _).alloc (Nat.le_refl _) _).alloc (by simp) _⟩
  by_cases h3 : x.kids.len = y.kids.len
  rotate_left
  · have hr : R = false := by rw [← hR]; simp; intro e; exact h3 (by rw [e])
    have b3 : ((x.kids.len : Int) != (y.kids.len : Int)) = true := by simp; omega
    clear hR ih hin hin'
    subst hr
    rw [h1, h2]
    go_enter Try.func42, Try.ntmps42
    go_wp2_with fail
    go_ret
    exact ⟨rfl, ((Below.refl _ _).alloc (Nat.le_refl _) _).alloc (by simp) _⟩
  have HR : Hid (decide (x = y) = R) := hR
  clear hR
  rw [h1, h2, h3]
  have H3 := hd h3
  rw [h3] at hl hin
  clear h3
  obtain ⟨W, hW⟩ : ∃ W, W = (w.alloc (.cells #[.int .i64 y.op, .string y.nm, .slice aoa y.kids.len capa] 48)).alloc (.cells #[.int .i64 y.op, .string y.nm, .slice aob y.kids.len capb] 48) := ⟨_, rfl⟩
  have hWz : W.heap.size = w.heap.size + 2 := by rw [hW]; simp
  have hWb : Below w.heap.size w W := by rw [hW]; exact ((Below.refl _ _).alloc (Nat.le_refl _) _).alloc (by simp) _
  have hWc : W.cell? ⟨w.heap.size, 2, none⟩ = some (.slice aoa y.kids.len capa) ∧ W.cell? ⟨w.heap.size + 1, 2, none⟩ = some (.slice aob y.kids.len capb) := by rw [hW]; exact ⟨by simp, by simp⟩
  go_enter Try.func42, Try.ntmps42
  go_wp2_with fail
  rw [← hW]
  have HW := hd hW
  clear hW
  go_loopw [31] (fun i wr => ∃ k : Nat, k ≤ y.kids.len ∧ i = .int .i64 k ∧ Below W.heap.size W wr ∧ Hid (∀ j, j < k → x.kids.at_ j = y.kids.at_ j)) (fun i _ => y.kids.len - (intOf i).toNat)
  case atStart => exact ⟨0, Nat.zero_le _, rfl, Below.refl _ _, fun j hj => absurd hj (Nat.not_lt_zero _)⟩
  case round =>
    obtain ⟨k, hk, rfl, hb, hall⟩ := hrel
    have hz := hb.size
    have bel : Below w.heap.size w wr := hWb.trans (hb.mono (by omega))
    have s1 : wr.cell? ⟨w.heap.size, 2, none⟩ = some (.slice aoa y.kids.len capa) := by rw [hb.cell (p := ⟨w.heap.size, 2, none⟩) (by simp; omega)]; exact hWc.1
    have s2 : wr.cell? ⟨w.heap.size + 1, 2, none⟩ = some (.slice aob y.kids.len capb) := by rw [hb.cell (p := ⟨w.heap.size + 1, 2, none⟩) (by simp; omega)]; exact hWc.2
    by_cases hlt : k < y.kids.len
    · obtain h0 | ⟨ba, oa, rfl, hia⟩ := hin
      · omega
      obtain h0 | ⟨bb, ob, rfl, hib⟩ := hin'
      · omega
      have kA : ∀ b o v, All b → w.cell? ⟨b, o, none⟩ = some v → All b ∧ wr.cell? ⟨b, o, none⟩ = some v := keep_cell (fun _ _ h => h) (Kp.of_below bel).block
      obtain ⟨ua, a0, a1, a2, hxa⟩ := ((hia.mono kA).at_ k (by rw [H3.out]; exact hlt)).xv
      obtain ⟨ub, c0, c1, c2, hxb⟩ := ((hib.mono kA).at_ k hlt).xv
      have hxa' := hxa
      have hxb' := hxb
      obtain ⟨_, e, _, aoa', capa', rfl, _⟩ := hxa'
      simp at e; subst e
      obtain ⟨_, e, _, aob', capb', rfl, _⟩ := hxb'
      simp at e; subst e
      have IH := ih k (by rw [H3.out]; exact hlt)
      generalize hxk : x.kids.at_ k = xk at *
      generalize hyk : y.kids.at_ k = yk at *
      have HXK := hd hxk
      have HYK := hd hyk
      clear hxk hyk
      have IHk := IH yk
      generalize hB : decide (xk = yk) = B at IHk
      have HB := hd hB
      clear hB IH
      have s3 : ∀ X, ∀ z : Wd (wr.alloc X), z.u.cell? ⟨w.heap.size + 1, 2, none⟩ = some (.slice (some ⟨bb, ob, none⟩) y.kids.len capb) := fun X z => z.cell (by rw [World.cell?_alloc_lt _ _ _ (lt_of_cell s2)]; exact s2)
      have c0' : ∀ X, ∀ z : Wd (wr.alloc X), z.u.cell? ⟨bb, ob + k * 3, none⟩ = some (.int .i64 yk.op) := fun X z => z.cell (by rw [World.cell?_alloc_lt _ _ _ (lt_of_cell c0)]; exact c0)
      have c1' : ∀ X, ∀ z : Wd (wr.alloc X), z.u.cell? ⟨bb, ob + k * 3 + 1, none⟩ = some (.string yk.nm) := fun X z => z.cell (by rw [World.cell?_alloc_lt _ _ _ (lt_of_cell c1)]; exact c1)
      have c2' : ∀ X, ∀ z : Wd (wr.alloc X), z.u.cell? ⟨bb, ob + k * 3 + 2, none⟩ = some (.slice aob' yk.kids.len capb') := fun X z => z.cell (by rw [World.cell?_alloc_lt _ _ _ (lt_of_cell c2)]; exact c2)
      have n0 : ∀ z : Wd (wr.alloc (.cells #[.int .i64 xk.op, .string xk.nm, .slice aoa' xk.kids.len capa'] 48)), z.u.cell? ⟨wr.heap.size, 0, none⟩ = some (.int .i64 xk.op) := fun z => z.cell (by simp)
      have n1 : ∀ z : Wd (wr.alloc (.cells #[.int .i64 xk.op, .string xk.nm, .slice aoa' xk.kids.len capa'] 48)), z.u.cell? ⟨wr.heap.size, 1, none⟩ = some (.string xk.nm) := fun z => z.cell (by simp)
      have n2 : ∀ z : Wd (wr.alloc (.cells #[.int .i64 xk.op, .string xk.nm, .slice aoa' xk.kids.len capa'] 48)), z.u.cell? ⟨wr.heap.size, 2, none⟩ = some (.slice aoa' xk.kids.len capa') := fun z => z.cell (by simp)
      cases B with
      | true =>
        go_wp2_with fail
        have wne : Nonempty (Wd (wr.alloc (.cells #[.int .i64 xk.op, .string xk.nm, .slice aoa' xk.kids.len capa'] 48))) := Wd.ne _
        refine region_quiet_lit (C := fun w' => ∃ z : Wd (wr.alloc (.cells #[.int .i64 xk.op, .string xk.nm, .slice aoa' xk.kids.len capa'] 48)), w' = z.u) (by kernel_rfl) (by kernel_rfl) (Wd.drawn _) ?_
        repeat (go_big_quiet_step (exact calls_wd (IHk _ _ _ ((hxa.below ((Below.refl _ _).alloc (Nat.le_refl _) _)).below (Wd.h _)) ((hxb.below ((Below.refl _ _).alloc (Nat.le_refl _) _)).below (Wd.h _)))))
        refine wpQuiet_nil ?_
        intro _ hw'
        obtain ⟨⟨w2, hb2⟩, hw''⟩ := hw'
        subst hw''
        go_wp2_with fail
        go_roundw
        case rel => exact ⟨k + 1, by omega, by go_num, (hb.alloc (by omega) _).trans (hb2.mono (by simp; omega)), fun j hj => (by
          by_cases e : j = k
          · rw [e, HXK.out, HYK.out]; exact of_decide_eq_true HB.out
          · exact hall.out j (by omega))⟩
        case measure => simp [intOf]; omega
      | false =>
        go_wp2_with fail
        have wne : Nonempty (Wd (wr.alloc (.cells #[.int .i64 xk.op, .string xk.nm, .slice aoa' xk.kids.len capa'] 48))) := Wd.ne _
        refine region_quiet_lit (C := fun w' => ∃ z : Wd (wr.alloc (.cells #[.int .i64 xk.op, .string xk.nm, .slice aoa' xk.kids.len capa'] 48)), w' = z.u) (by kernel_rfl) (by kernel_rfl) (Wd.drawn _) ?_
        repeat (go_big_quiet_step (exact calls_wd (IHk _ _ _ ((hxa.below ((Below.refl _ _).alloc (Nat.le_refl _) _)).below (Wd.h _)) ((hxb.below ((Below.refl _ _).alloc (Nat.le_refl _) _)).below (Wd.h _)))))
        refine wpQuiet_nil ?_
        intro _ hw'
        obtain ⟨⟨w2, hb2⟩, hw''⟩ := hw'
        subst hw''
        go_wp2_with fail
        go_ret
        refine ⟨ret_bool ?_, (bel.alloc bel.size _).trans (hb2.mono (by simp; omega))⟩
        rw [← HR.out]
        symm
        rw [decide_eq_false_iff_not]
        intro e
        exact of_decide_eq_false HB.out (by rw [← HXK.out, ← HYK.out, e])
    · go_wp2_with fail
      go_ret
      refine ⟨ret_bool ?_, bel⟩
      rw [← HR.out]
      symm
      rw [decide_eq_true_iff]
      exact Xp.ext3 h1 h2 (Fo.ext_at _ _ H3.out fun i hi => hall.out i (by have := H3.out; omega))
theorem smE_all : ∀ (f : Fo) (i : Nat), i < f.len → smEOK (f.at_ i)
  | .nil, _, h => absurd h (Nat.not_lt_zero _)
  | .cons op nm kids rest, 0, _ => smE_head ⟨op, nm, kids⟩ (smE_all kids)
  | .cons op nm kids rest, i + 1, h => smE_all rest i (by simpa [Fo.len] using h)
theorem smE_any (x : Xp) : smEOK x := smE_head x (smE_all x.kids)
/-- What is asked of one expression. -/
def rmEOK (x : Xp) : Prop := ∀ (y : Xp) (va vb : Value) (w : World), XV w All va x → XV w All vb y →
  Calls Try.prog 48 #[va, vb] w fun e w' => e = .returned (.bool (decide (x = y))) ∧ Below w.heap.size w w'
set_option maxRecDepth 100000 in
set_option maxHeartbeats 4000000 in
theorem rmE_head (x : Xp) (ih : ∀ i, i < x.kids.len → rmEOK (x.kids.at_ i)) : rmEOK x := by
  intro y va vb w hx hy
  have hx0 := hx
  have hy0 := hy
  obtain ⟨u, rfl, hl, aoa, capa, rfl, hin⟩ := hx
  obtain ⟨u', rfl, hl', aob, capb, rfl, hin'⟩ := hy
  generalize hR : decide (x = y) = R
  by_cases h1 : x.op = y.op
  rotate_left
  · have hr : R = false := by rw [← hR]; simp; intro e; exact h1 (by rw [e])
    have b1 : (x.op != y.op) = true := by simpa using h1
    clear hR ih hin hin'
    subst hr
    go_enter Try.func48, Try.ntmps48
    go_wp2_with fail
    go_ret
    exact ⟨rfl, ((Below.refl _ _).alloc (Nat.le_refl _) _).alloc (by simp) _⟩
  by_cases h2 : x.nm = y.nm
  rotate_left
  · have hr : R = false := by rw [← hR]; simp; intro e; exact h2 (by rw [e])
    have b2 : (x.nm.toList == y.nm.toList) = false := by rw [beq_str]; simpa using h2
    clear hR ih hin hin'
    subst hr
    rw [h1]
    go_enter Try.func48, Try.ntmps48
    go_wp2_with fail
    go_ret
    exact ⟨rfl, ((Below.refl _ _).alloc (Nat.le_refl _) _).alloc (by simp) _⟩
  by_cases h3 : x.kids.len = y.kids.len
  rotate_left
  · have hr : R = false := by rw [← hR]; simp; intro e; exact h3 (by rw [e])
    have b3 : ((x.kids.len : Int) != (y.kids.len : Int)) = true := by simp; omega
    clear hR ih hin hin'
    subst hr
    rw [h1, h2]
    go_enter Try.func48, Try.ntmps48
    go_wp2_with fail
    go_ret
    exact ⟨rfl, ((Below.refl _ _).alloc (Nat.le_refl _) _).alloc (by simp) _⟩
  have HR : Hid (decide (x = y) = R) := hR
  clear hR
  rw [h1, h2, h3]
  have H3 := hd h3
  rw [h3] at hl hin
  clear h3
  obtain ⟨W, hW⟩ : ∃ W, W = (w.alloc (.cells #[.int .i64 y.op, .string y.nm, .slice aoa y.kids.len capa] 48)).alloc (.cells #[.int .i64 y.op, .string y.nm, .slice aob y.kids.len capb] 48) := ⟨_, rfl⟩
  have hWz : W.heap.size = w.heap.size + 2 := by rw [hW]; simp
  have hWb : Below w.heap.size w W := by rw [hW]; exact ((Below.refl _ _).alloc (Nat.le_refl _) _).alloc (by simp) _
  have hWc : W.cell? ⟨w.heap.size, 2, none⟩ = some (.slice aoa y.kids.len capa) ∧ W.cell? ⟨w.heap.size + 1, 2, none⟩ = some (.slice aob y.kids.len capb) := by rw [hW]; exact ⟨by simp, by simp⟩
  go_enter Try.func48, Try.ntmps48
  go_wp2_with fail
  rw [← hW]
  have HW := hd hW
  clear hW
  go_loopw [5] (fun i wr => ∃ k : Nat, k ≤ y.kids.len ∧ i = .int .i64 k ∧ Below W.heap.size W wr ∧ Hid (∀ j, j < k → x.kids.at_ j = y.kids.at_ j)) (fun i _ => y.kids.len - (intOf i).toNat)
  case atStart => exact ⟨0, Nat.zero_le _, rfl, Below.refl _ _, fun j hj => absurd hj (Nat.not_lt_zero _)⟩
  case round =>
    obtain ⟨k, hk, rfl, hb, hall⟩ := hrel
    have hz := hb.size
    have bel : Below w.heap.size w wr := hWb.trans (hb.mono (by omega))
    have s1 : wr.cell? ⟨w.heap.size, 2, none⟩ = some (.slice aoa y.kids.len capa) := by rw [hb.cell (p := ⟨w.heap.size, 2, none⟩) (by simp; omega)]; exact hWc.1
    have s2 : wr.cell? ⟨w.heap.size + 1, 2, none⟩ = some (.slice aob y.kids.len capb) := by rw [hb.cell (p := ⟨w.heap.size + 1, 2, none⟩) (by simp; omega)]; exact hWc.2
    by_cases hlt : k < y.kids.len
    · obtain h0 | ⟨ba, oa, rfl, hia⟩ := hin
      · omega
      obtain h0 | ⟨bb, ob, rfl, hib⟩ := hin'
      · omega
      have kA : ∀ b o v, All b → w.cell? ⟨b, o, none⟩ = some v → All b ∧ wr.cell? ⟨b, o, none⟩ = some v := keep_cell (fun _ _ h => h) (Kp.of_below bel).block
      obtain ⟨ua, a0, a1, a2, hxa⟩ := ((hia.mono kA).at_ k (by rw [H3.out]; exact hlt)).xv
      obtain ⟨ub, c0, c1, c2, hxb⟩ := ((hib.mono kA).at_ k hlt).xv
      have hxa' := hxa
      have hxb' := hxb
      obtain ⟨_, e, _, aoa', capa', rfl, _⟩ := hxa'
      simp at e; subst e
      obtain ⟨_, e, _, aob', capb', rfl, _⟩ := hxb'
      simp at e; subst e
      have IH := ih k (by rw [H3.out]; exact hlt)
      generalize hxk : x.kids.at_ k = xk at *
      generalize hyk : y.kids.at_ k = yk at *
      have HXK := hd hxk
      have HYK := hd hyk
      clear hxk hyk
      have IHk := IH yk
      generalize hB : decide (xk = yk) = B at IHk
      have HB := hd hB
      clear hB IH
      have s3 : ∀ z : Wd wr, z.u.cell? ⟨w.heap.size + 1, 2, none⟩ = some (.slice (some ⟨bb, ob, none⟩) y.kids.len capb) := fun z => z.cell s2
      have s4 : ∀ z : Wd wr, z.u.cell? ⟨w.heap.size, 2, none⟩ = some (.slice (some ⟨ba, oa, none⟩) y.kids.len capa) := fun z => z.cell s1
      have c0' : ∀ z : Wd wr, z.u.cell? ⟨bb, ob + k * 3, none⟩ = some (.int .i64 yk.op) := fun z => z.cell c0
      have c1' : ∀ z : Wd wr, z.u.cell? ⟨bb, ob + k * 3 + 1, none⟩ = some (.string yk.nm) := fun z => z.cell c1
      have c2' : ∀ z : Wd wr, z.u.cell? ⟨bb, ob + k * 3 + 2, none⟩ = some (.slice aob' yk.kids.len capb') := fun z => z.cell c2
      have a0' : ∀ z : Wd wr, z.u.cell? ⟨ba, oa + k * 3, none⟩ = some (.int .i64 xk.op) := fun z => z.cell a0
      have a1' : ∀ z : Wd wr, z.u.cell? ⟨ba, oa + k * 3 + 1, none⟩ = some (.string xk.nm) := fun z => z.cell a1
      have a2' : ∀ z : Wd wr, z.u.cell? ⟨ba, oa + k * 3 + 2, none⟩ = some (.slice aoa' xk.kids.len capa') := fun z => z.cell a2
      cases B with
      | true =>
        go_wp2_with fail
        have wne : Nonempty (Wd wr) := Wd.ne _
        refine region_quiet_lit (C := fun w' => ∃ z : Wd wr, w' = z.u) (by kernel_rfl) (by kernel_rfl) (Wd.drawn _) ?_
        repeat (go_big_quiet_step (exact calls_wd (IHk _ _ _ (hxa.below (Wd.h _)) (hxb.below (Wd.h _)))))
        refine wpQuiet_nil ?_
        intro _ hw'
        obtain ⟨⟨w2, hb2⟩, hw''⟩ := hw'
        subst hw''
        go_wp2_with fail
        go_roundw
        case rel => exact ⟨k + 1, by omega, by go_num, hb.trans (hb2.mono hb.size), fun j hj => (by
          by_cases e : j = k
          · rw [e, HXK.out, HYK.out]; exact of_decide_eq_true HB.out
          · exact hall.out j (by omega))⟩
        case measure => simp [intOf]; omega
      | false =>
        go_wp2_with fail
        have wne : Nonempty (Wd wr) := Wd.ne _
        refine region_quiet_lit (C := fun w' => ∃ z : Wd wr, w' = z.u) (by kernel_rfl) (by kernel_rfl) (Wd.drawn _) ?_
        repeat (go_big_quiet_step (exact calls_wd (IHk _ _ _ (hxa.below (Wd.h _)) (hxb.below (Wd.h _)))))
        refine wpQuiet_nil ?_
        intro _ hw'
        obtain ⟨⟨w2, hb2⟩, hw''⟩ := hw'
        subst hw''
        go_wp2_with fail
        go_ret
        refine ⟨ret_bool ?_, bel.trans (hb2.mono bel.size)⟩
        rw [← HR.out]
        symm
        rw [decide_eq_false_iff_not]
        intro e
        exact of_decide_eq_false HB.out (by rw [← HXK.out, ← HYK.out, e])
    · go_wp2_with fail
      go_ret
      refine ⟨ret_bool ?_, bel⟩
      rw [← HR.out]
      symm
      rw [decide_eq_true_iff]
      exact Xp.ext3 h1 h2 (Fo.ext_at _ _ H3.out fun i hi => hall.out i (by have := H3.out; omega))
theorem rmE_all : ∀ (f : Fo) (i : Nat), i < f.len → rmEOK (f.at_ i)
  | .nil, _, h => absurd h (Nat.not_lt_zero _)
  | .cons op nm kids rest, 0, _ => rmE_head ⟨op, nm, kids⟩ (rmE_all kids)
  | .cons op nm kids rest, i + 1, h => rmE_all rest i (by simpa [Fo.len] using h)
theorem rmE_any (x : Xp) : rmEOK x := rmE_head x (rmE_all x.kids)
end Go.Proofs.Ytdikjhfnmkejcab
