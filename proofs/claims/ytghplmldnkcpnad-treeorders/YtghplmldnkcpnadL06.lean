/- Proved: for every three trees TreeOrders returns true (tree.Order turned round is the other way round; what is not above the second is not above the third that the second is not above; only a tree itself is as it is), and the trees read as before. No condition. -/
import Derived.Test.YtghplmldnkcpnadL05
import Derived.Test.YtghplmldnkcpnadRows
import Derived.ProofKit
import Derived.OpenShut
import Derived.ShutString
import Derived.ChangeOld
namespace Go.Proofs.Ytghplmldnkcpnad.treeOrders
open Go.Proofs.Ytghplmldnkcpnad Go.Proofs.Ytghplmldnkcpnad.G
open Go.ChangeShapes Go.WideShapes Go.ChangeAt Go.RowKit

theorem own : ownKnob Try.prog.godebug = none := by kernel_rfl
theorem laidOut : laidOutB Try.prog = true := by kernel_rfl
set_option maxRecDepth 100000 in
set_option maxHeartbeats 16000000 in
theorem walk (a b c : Tr) (va vb vc : Value) (w : World) (hA : TrV w All va a) (hB : TrV w All vb b) (hC : TrV w All vc c) :
    Calls Try.prog 4 #[va, vb, vc] w fun e w' => e = .returned (.bool true) ∧ Below w.heap.size w w' := by
  have GA := fun w' (hb : Below w.heap.size w w') => greatTree_any a va w' (hA.lw hb)
  have GB := fun w' (hb : Below w.heap.size w w') => greatTree_any b vb w' (hB.lw hb)
  have GC := fun w' (hb : Below w.heap.size w w') => greatTree_any c vc w' (hC.lw hb)
  have AB := fun w' (hb : Below w.heap.size w w') => order_any a b va vb w' (hA.lw hb) (hB.lw hb)
  have BC := fun w' (hb : Below w.heap.size w w') => order_any b c vb vc w' (hB.lw hb) (hC.lw hb)
  have AC := fun w' (hb : Below w.heap.size w w') => order_any a c va vc w' (hA.lw hb) (hC.lw hb)
  have BA := fun w' (hb : Below w.heap.size w w') => order_any b a vb va w' (hB.lw hb) (hA.lw hb)
  have AA := fun w' (hb : Below w.heap.size w w') => order_any a a va va w' (hA.lw hb) (hA.lw hb)
  have SA := fun w' (hb : Below w.heap.size w w') => sameTree_any a b va vb w' (hA.lw hb) (hB.lw hb)
  have hq : decide (a = b) = (ordT a b == 0) := by
    by_cases h : a = b
    · rw [decide_eq_true h, ordT_zero.2 h]; rfl
    · rw [decide_eq_false h]
      have : ¬ ordT a b = 0 := fun e => h (ordT_eq e)
      simpa using this
  have htr : ¬ 0 < ordT a b → ¬ 0 < ordT b c → ordT a c ≤ 0 := fun h1 h2 => ordT_trans (b := b) (by omega) (by omega)
  have hrx := ordT_range a b
  rw [ordT_neg a b] at BA
  rw [ordT_refl] at AA
  rw [hq] at SA
  clear hq
  generalize ordT a b = x at *
  generalize ordT b c = y at *
  generalize ordT a c = z at *
  obtain ⟨ua, rfl, ka⟩ := hA
  obtain ⟨ub, rfl, kb⟩ := hB
  obtain ⟨uc, rfl, kc⟩ := hC
  obtain ⟨aa, ca, rfl, _⟩ := ka.slice
  obtain ⟨ab, cb, rfl, _⟩ := kb.slice
  obtain ⟨ac, cc, rfl, _⟩ := kc.slice
  obtain ⟨W, hW⟩ : ∃ W, W = ((w.alloc (.cells #[.int .i64 a.rule, .slice aa a.kids.len ca] 27)).alloc (.cells #[.int .i64 b.rule, .slice ab b.kids.len cb] 27)).alloc (.cells #[.int .i64 c.rule, .slice ac c.kids.len cc] 27) := ⟨_, rfl⟩
  have hWb : Below w.heap.size w W := by rw [hW]; exact (al2 w _ _).alloc (by simp <;> omega) _
  have x0 : W.cell? ⟨w.heap.size, 0, none⟩ = some (.int .i64 a.rule) := by rw [hW]; simp [go_sem]
  have x1 : W.cell? ⟨w.heap.size, 1, none⟩ = some (.slice aa a.kids.len ca) := by rw [hW]; simp [go_sem]
  have y0 : W.cell? ⟨w.heap.size + 1, 0, none⟩ = some (.int .i64 b.rule) := by rw [hW]; simp [go_sem]
  have y1 : W.cell? ⟨w.heap.size + 1, 1, none⟩ = some (.slice ab b.kids.len cb) := by rw [hW]; simp [go_sem]
  have z0 : W.cell? ⟨w.heap.size + 2, 0, none⟩ = some (.int .i64 c.rule) := by rw [hW]; simp [go_sem]
  have z1 : W.cell? ⟨w.heap.size + 2, 1, none⟩ = some (.slice ac c.kids.len cc) := by rw [hW]; simp [go_sem]
  have HT := hd htr
  clear htr
  go_enter Try.func4, Try.ntmps4
  go_wp2_with fail
  rw [← hW]
  have HW := hd hW
  clear hW
  refine (treeBegun_any _).mono ?_
  rintro e w1 ⟨rfl, k1⟩
  have b1 := bthen hWb k1
  have x10 := bkeep k1 x0
  have x11 := bkeep k1 x1
  go_wp2_with fail
  refine (GA _ b1).mono ?_
  rintro e w2 ⟨rfl, k2⟩
  have b2 := bthen b1 k2
  by_cases hga : 3000 < a.sz
  · rw [decide_eq_true hga]
    go_wp2_with fail
    go_ret
    exact ⟨rfl, b2⟩
  rw [decide_eq_false hga]
  have k2' := bthen k1 k2
  have y20 := bkeep k2' y0
  have y21 := bkeep k2' y1
  clear x10 x11 GA hga
  go_wp2_with fail
  refine (GB _ b2).mono ?_
  rintro e w3 ⟨rfl, k3⟩
  have b3 := bthen b2 k3
  by_cases hgb : 3000 < b.sz
  · rw [decide_eq_true hgb]
    go_wp2_with fail
    go_ret
    exact ⟨rfl, b3⟩
  rw [decide_eq_false hgb]
  have k3' := bthen k2' k3
  have z30 := bkeep k3' z0
  have z31 := bkeep k3' z1
  clear y20 y21 GB hgb
  go_wp2_with fail
  refine (GC _ b3).mono ?_
  rintro e Z ⟨rfl, k4⟩
  have b4 := bthen b3 k4
  by_cases hgc : 3000 < c.sz
  · rw [decide_eq_true hgc]
    go_wp2_with fail
    go_ret
    exact ⟨rfl, b4⟩
  rw [decide_eq_false hgc]
  have k4' := bthen k3' k4
  clear z30 z31 GC hgc
  have SAB := fun s : Wd Z => AB s.u (bthen b4 s.h)
  have SBC := fun s : Wd Z => BC s.u (bthen b4 s.h)
  have SAC := fun s : Wd Z => AC s.u (bthen b4 s.h)
  have q0 := fun s : Wd Z => s.cell (bkeep k4' x0)
  have q1 := fun s : Wd Z => s.cell (bkeep k4' x1)
  have q2 := fun s : Wd Z => s.cell (bkeep k4' y0)
  have q3 := fun s : Wd Z => s.cell (bkeep k4' y1)
  have q4 := fun s : Wd Z => s.cell (bkeep k4' z0)
  have q5 := fun s : Wd Z => s.cell (bkeep k4' z1)
  have NE := Wd.ne Z
  clear AB BC AC x0 x1 y0 y1 z0 z1
  go_wp2_with fail
  refine region_quiet_lit (C := fun w' => ∃ s : Wd Z, w' = s.u) (by kernel_rfl) (by kernel_rfl) (Wd.drawn _) ?_
  iterate 2 (go_big_quiet_step (fail))
  go_big_quiet_step (exact calls_wd (SAB _))
  iterate 2 (go_big_quiet_step (fail))
  go_big_quiet_step (exact calls_wd (SBC _))
  iterate 2 (go_big_quiet_step (fail))
  go_big_quiet_step (exact calls_wd (SAC _))
  iterate 3 (go_big_quiet_step (fail))
  refine wpQuiet_nil ?_
  intro _ hw'
  obtain ⟨s, hw''⟩ := hw'
  subst hw''
  have b5 := bthen b4 s.h
  have p0 := q0 s
  have p1 := q1 s
  have p2 := q2 s
  have p3 := q3 s
  clear q4 q5 SAB SBC SAC
  have hx1 : -1 ≤ x := by omega
  have hx2 : x ≤ 1 := by omega
  clear hrx
  have SB := BA s.u b5
  go_wp2_with fail
  refine SB.mono ?_
  rintro e w6 ⟨rfl, k6⟩
  have b6 := bthen b5 k6
  have p60 := bkeep k6 p0
  have p61 := bkeep k6 p1
  have A6 := AA w6 b6
  clear q0 q1 q2 q3
  go_wp2_with fail
  refine A6.mono ?_
  rintro e w7 ⟨rfl, k7⟩
  have b7 := bthen b6 k7
  have k7' := bthen k6 k7
  have r0 := bkeep k7' p0
  have r1 := bkeep k7' p1
  have r2 := bkeep k7' p2
  have r3 := bkeep k7' p3
  have S7 := SA w7 b7
  clear p60 p61 p0 p1 p2 p3
  by_cases h1 : 0 < x
  · go_wp2_with fail
    refine S7.mono ?_
    rintro e w8 ⟨rfl, k8⟩
    have b8 := bthen b7 k8
    go_wp2_with fail
    go_ret
    exact ⟨ret_bool (by simp), b8⟩
  · by_cases h2 : 0 < y
    · go_wp2_with fail
      refine S7.mono ?_
      rintro e w8 ⟨rfl, k8⟩
      have b8 := bthen b7 k8
      go_wp2_with fail
      go_ret
      exact ⟨ret_bool (by simp), b8⟩
    · have h3 : z ≤ 0 := HT.out (by omega) (by omega)
      go_wp2_with fail
      refine S7.mono ?_
      rintro e w8 ⟨rfl, k8⟩
      have b8 := bthen b7 k8
      go_wp2_with fail
      go_ret
      exact ⟨ret_bool (by simp), b8⟩

set_option maxRecDepth 100000 in
theorem lifted (os : Os) (started : os.Started) (H : Type) (enc : TypeId × Value → H) :
    ReturnsInHanded {} Try.checked os 4 .any (Rows.treeOrdersSpec.pre6 enc Try.prog Try.f4 Rows.treeOrdersRow.domain false) (Rows.treeOrdersSpec.post enc Try.prog Try.f4 false true false false) := by
  refine returnsInHanded_of_change (C := Try.checked) own started (by kernel_rfl) Try.func4
    (ChangeSpec.witness6 (enc := enc) (C := Try.checked) false ⟨#[], #[.agg #[.int .i64 0, .slice none 0 0], .agg #[.int .i64 0, .slice none 0 0], .agg #[.int .i64 0, .slice none 0 0]], []⟩ 8 (by kernel_rfl) (by kernel_rfl) (by kernel_rfl) (by kernel_rfl)) ?_
  intro W base args ds gs before hval0 hW hcnd _
  have hval : ∀ (j : Nat) t v, Try.f4.params[j]? = some t → args[j]? = some v → Value.okWide Try.prog W .any base t v := hval0
  have hW' := hW
  obtain ⟨p, q, hA0, hV, rfl, hfz, hnd⟩ := hW
  have hA : DataW.TrodAll enc Try.prog W 0 (fun _ => true) true Try.f4.params.toList args.toList ds p := hA0
  rw [Try.params4] at hA hval
  obtain ⟨v0, vs0, d0, ds0, p0, q0, hargs, rfl, rfl, h0, r0⟩ := trodAll_cons hA
  obtain ⟨v1, vs1, d1, ds1, p1, q1, rfl, rfl, rfl, h1, r1⟩ := trodAll_cons r0
  obtain ⟨v2, vs2, d2, ds2, p2, q2, rfl, rfl, rfl, h2, r2⟩ := trodAll_cons r1
  obtain ⟨rfl, rfl, rfl⟩ := trodAll_nil r2
  obtain rfl : args = #[v0, v1, v2] := by cases args; simp_all
  obtain ⟨rfl, rfl⟩ := trodVars_none hV
  have k0 := h0
  have k1 := h1
  have k2 := h2
  have lt0 : ∀ x ∈ p0, x.block < W.heap.size := by obtain ⟨m, hm⟩ := k0; exact DataW.trod_lt m _ _ _ hm
  have lt1 : ∀ x ∈ p1, x.block < W.heap.size := by obtain ⟨m, hm⟩ := k1; exact DataW.trod_lt m _ _ _ hm
  have lt2 : ∀ x ∈ p2, x.block < W.heap.size := by obtain ⟨m, hm⟩ := k2; exact DataW.trod_lt m _ _ _ hm
  obtain ⟨a, ha⟩ := open_tree (hval 0 27 v0 rfl rfl) h0
  obtain ⟨b, hb⟩ := open_tree (hval 1 27 v1 rfl rfl) h1
  obtain ⟨c, hc⟩ := open_tree (hval 2 27 v2 rfl rfl) h2
  clear hA0 hval0
  refine (walk a b c v0 v1 v2 W ha hb hc).mono fun e W' ⟨he, bel⟩ => ?_
  subst he
  exact ⟨_, rfl, _, _, _, [], _, [], hW', trodAll_mk1 (shut_bool Try.underlying4 _), (trodAll_cons_mk (Below.trod laidOut (by kernel_rfl) (of_decide_eq_true (by kernel_rfl)) k0 bel lt0) (trodAll_cons_mk (Below.trod laidOut (by kernel_rfl) (of_decide_eq_true (by kernel_rfl)) k1 bel lt1) (trodAll_cons_mk (Below.trod laidOut (by kernel_rfl) (of_decide_eq_true (by kernel_rfl)) k2 bel lt2) trodAll_mk0))), rfl, bel.frame _, fun h => by cases h⟩

theorem stands : Rows.treeOrdersRow.holds Try.pinned (OpenSpec.ofChange Rows.treeOrdersSpec) :=
  OpenClaim.holds_of_wide 4 Try.f4 rfl rfl rfl rfl rfl rfl rfl ⟨rfl, rfl, rfl, rfl, rfl⟩ rfl rfl rfl rfl rfl (by kernel_rfl) Try.func4 (by kernel_rfl)
    (of_decide_eq_true (by kernel_rfl)) (by unfold Func.isWrapper; first | (rw [if_pos (by decide +kernel)]; kernel_rfl) | (rw [if_neg (by decide +kernel)]; exact ⟨rfl, rfl⟩))
    (fun os started H enc _ => lifted os started H enc)

theorem proved : Rows.TreeOrdersSaid := stands
#print axioms proved
end Go.Proofs.Ytghplmldnkcpnad.treeOrders
