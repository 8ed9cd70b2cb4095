/- Proved: for every grammar, every two trees and every number TreeDoes returns true (tree.Check, tree.Word, tree.Order and tree.Own answer as the document's own functions do, and what they were handed stays), and what was handed in reads as before. No condition. -/
import Derived.Test.YtghplmldnkcpnadL08
import Derived.Test.YtghplmldnkcpnadRows
import Derived.ProofKit
import Derived.OpenShut
import Derived.ShutString
import Derived.ChangeOld
namespace Go.Proofs.Ytghplmldnkcpnad.treeDoes
open Go.Proofs.Ytghplmldnkcpnad Go.Proofs.Ytghplmldnkcpnad.G
open Go.ChangeShapes Go.WideShapes Go.ChangeAt Go.RowKit

theorem own : ownKnob Try.prog.godebug = none := by kernel_rfl
theorem laidOut : laidOutB Try.prog = true := by kernel_rfl
theorem keep10 {W a e : World} {b0 o0 b1 o1 b2 o2 b3 o3 b4 o4 b5 o5 b6 o6 b7 o7 b8 o8 b9 o9 : Nat} {v0 v1 v2 v3 v4 v5 v6 v7 v8 v9 : Value} (st : Stp a e) (h : Below W.heap.size W a ∧ a.cell? ⟨b0, o0, none⟩ = some v0 ∧ a.cell? ⟨b1, o1, none⟩ = some v1 ∧ a.cell? ⟨b2, o2, none⟩ = some v2 ∧ a.cell? ⟨b3, o3, none⟩ = some v3 ∧ a.cell? ⟨b4, o4, none⟩ = some v4 ∧ a.cell? ⟨b5, o5, none⟩ = some v5 ∧ a.cell? ⟨b6, o6, none⟩ = some v6 ∧ a.cell? ⟨b7, o7, none⟩ = some v7 ∧ a.cell? ⟨b8, o8, none⟩ = some v8 ∧ a.cell? ⟨b9, o9, none⟩ = some v9) :
    Below W.heap.size W e ∧ e.cell? ⟨b0, o0, none⟩ = some v0 ∧ e.cell? ⟨b1, o1, none⟩ = some v1 ∧ e.cell? ⟨b2, o2, none⟩ = some v2 ∧ e.cell? ⟨b3, o3, none⟩ = some v3 ∧ e.cell? ⟨b4, o4, none⟩ = some v4 ∧ e.cell? ⟨b5, o5, none⟩ = some v5 ∧ e.cell? ⟨b6, o6, none⟩ = some v6 ∧ e.cell? ⟨b7, o7, none⟩ = some v7 ∧ e.cell? ⟨b8, o8, none⟩ = some v8 ∧ e.cell? ⟨b9, o9, none⟩ = some v9 :=
  ⟨bthen h.1 st.h, bkeep st.h h.2.1, bkeep st.h h.2.2.1, bkeep st.h h.2.2.2.1, bkeep st.h h.2.2.2.2.1, bkeep st.h h.2.2.2.2.2.1, bkeep st.h h.2.2.2.2.2.2.1, bkeep st.h h.2.2.2.2.2.2.2.1, bkeep st.h h.2.2.2.2.2.2.2.2.1, bkeep st.h h.2.2.2.2.2.2.2.2.2.1, bkeep st.h h.2.2.2.2.2.2.2.2.2.2⟩
set_option maxRecDepth 100000 in
set_option maxHeartbeats 32000000 in
theorem walk (g : Gm) (t u : Tr) (v : Int) (va vt vu : Value) (w : World) (hA : GV w All va g) (hT : TrV w All vt t) (hU : TrV w All vu u) :
    Calls Try.prog 3 #[va, vt, vu, .int .i64 v] w fun e w' => e = .returned (.bool true) ∧ Below w.heap.size w w' := by
  have GA := fun w' (hb : Below w.heap.size w w') => great_any g va w' (hA.lw hb)
  have GT := fun w' (hb : Below w.heap.size w w') => greatTree_any t vt w' (hT.lw hb)
  have GU := fun w' (hb : Below w.heap.size w w') => greatTree_any u vu w' (hU.lw hb)
  have OT := fun w' (hb : Below w.heap.size w w') h => ownTree_any t vt w' (hT.lw hb) h
  have FS := fun w' (hb : Below w.heap.size w w') h => treeFault_any g t g.start va vt w' (hA.lw hb) (hT.lw hb) h
  have FV := fun w' (hb : Below w.heap.size w w') h => treeFault_any g t v va vt w' (hA.lw hb) (hT.lw hb) h
  have WO := fun w' vc (hb : Below w.heap.size w w') h h2 => word_any g t va vc w' (hA.lw hb) h h2
  have WD := fun w' (hb : Below w.heap.size w w') h2 h3 h4 h5 => wordOf_any t g va vt g.start w' (hA.lw hb) (hT.lw hb) h2 h3 h4 h5
  have CK := fun w' vc (hb : Below w.heap.size w w') h h2 => tcheck_any g t v va vc w' (hA.lw hb) h h2
  have OO := fun w' vc (hb : Below w.heap.size w w') h => order_any t u vc vu w' h (hU.lw hb)
  have OF := fun w' (hb : Below w.heap.size w w') => orderOf_any t u vt vu w' (hT.lw hb) (hU.lw hb)
  have OW := fun w' vc h h2 => treeOwn_any t vc w' h h2
  have ST := fun w' vc (hb : Below w.heap.size w w') h => sameTree_any t t vc vt w' h (hT.lw hb)
  rw [show decide (t = t) = true from decide_eq_true rfl] at ST
  generalize ordT t u = c at *
  obtain ⟨D1, D2, hD⟩ : ∃ a b, tFl g t v = (a, b) := ⟨_, _, rfl⟩
  rw [hD] at FV CK
  obtain ⟨R1, R2, hR⟩ : ∃ a b, tFl g t g.start = (a, b) := ⟨_, _, rfl⟩
  rw [hR] at FS WO
  simp only at FS WO FV CK
  have hz : R1 = 0 → (gFl g).1 = 0 ∧ t.sz ≤ 400 ∧ fitT g.rules t g.start = true ∧ (tFl g t g.start).2 = 0 := fun h => tFl_zero (v := g.start) (by rw [hR]; exact h)
  obtain ⟨L, hL0⟩ : ∃ L, L = wdE g t := ⟨_, rfl⟩
  have hL : L = if R1 = 0 then wdT g.rules t else [] := by rw [hL0]; unfold wdE; rw [hR]
  rw [← hL0] at WO
  clear hL0
  obtain ⟨ua, rfl, ra⟩ := hA
  obtain ⟨ut, rfl, kt⟩ := hT
  obtain ⟨uu, rfl, ku⟩ := hU
  obtain ⟨ao, cap, rfl⟩ := ra.slice
  obtain ⟨at_, ct, rfl, _⟩ := kt.slice
  obtain ⟨au, cu, rfl, _⟩ := ku.slice
  obtain ⟨W, hW⟩ : ∃ W, W = ((w.alloc (.cells #[.int .i64 g.vars, .int .i64 g.terms, .int .i64 g.start, .slice ao g.rules.length cap] 24)).alloc (.cells #[.int .i64 t.rule, .slice at_ t.kids.len ct] 27)).alloc (.cells #[.int .i64 u.rule, .slice au u.kids.len cu] 27) := ⟨_, rfl⟩
  have hWb : Below w.heap.size w W := by rw [hW]; exact (al2 w _ _).alloc (by simp <;> omega) _
  have x0 : W.cell? ⟨w.heap.size, 0, none⟩ = some (.int .i64 g.vars) := by rw [hW]; simp [go_sem]
  have x1 : W.cell? ⟨w.heap.size, 1, none⟩ = some (.int .i64 g.terms) := by rw [hW]; simp [go_sem]
  have x2 : W.cell? ⟨w.heap.size, 2, none⟩ = some (.int .i64 g.start) := by rw [hW]; simp [go_sem]
  have x3 : W.cell? ⟨w.heap.size, 3, none⟩ = some (.slice ao g.rules.length cap) := by rw [hW]; simp [go_sem]
  have y0 : W.cell? ⟨w.heap.size + 1, 0, none⟩ = some (.int .i64 t.rule) := by rw [hW]; simp [go_sem]
  have y1 : W.cell? ⟨w.heap.size + 1, 1, none⟩ = some (.slice at_ t.kids.len ct) := by rw [hW]; simp [go_sem]
  have s0 : W.cell? ⟨w.heap.size + 2, 0, none⟩ = some (.int .i64 u.rule) := by rw [hW]; simp [go_sem]
  have s1 : W.cell? ⟨w.heap.size + 2, 1, none⟩ = some (.slice au u.kids.len cu) := by rw [hW]; simp [go_sem]
  go_enter Try.func3, Try.ntmps3
  go_wp2_with fail
  rw [← hW]
  have HW := hd hW
  clear hW
  refine (treeBegun_any _).mono ?_
  rintro e w1 ⟨rfl, k1⟩
  have b1 := bthen hWb k1
  have x10 := bkeep k1 x0
  have x11 := bkeep k1 x1
  have x12 := bkeep k1 x2
  have x13 := bkeep k1 x3
  go_wp2_with fail
  refine (GA _ b1).mono ?_
  rintro e w2 ⟨q2, rfl, hq2, k2⟩
  have b2 := bthen b1 k2
  cases q2 with
  | true =>
    go_wp2_with fail
    go_ret
    exact ⟨rfl, b2⟩
  | false =>
  have hsm := hq2 rfl
  have k2' := bthen k1 k2
  have y20 := bkeep k2' y0
  have y21 := bkeep k2' y1
  clear x10 x11 x12 x13 GA hq2
  go_wp2_with fail
  refine (GT _ b2).mono ?_
  rintro e w3 ⟨rfl, k3⟩
  have b3 := bthen b2 k3
  by_cases hgt : 3000 < t.sz
  · rw [decide_eq_true hgt]
    go_wp2_with fail
    go_ret
    exact ⟨rfl, b3⟩
  rw [decide_eq_false hgt]
  have k3' := bthen k2' k3
  have s30 := bkeep k3' s0
  have s31 := bkeep k3' s1
  have HGT := hd hgt
  clear y20 y21 GT hgt
  go_wp2_with fail
  refine (GU _ b3).mono ?_
  rintro e w4 ⟨rfl, k4⟩
  have b4 := bthen b3 k4
  by_cases hgu : 3000 < u.sz
  · rw [decide_eq_true hgu]
    go_wp2_with fail
    go_ret
    exact ⟨rfl, b4⟩
  rw [decide_eq_false hgu]
  have k4' := bthen k3' k4
  have y40 := bkeep k4' y0
  have y41 := bkeep k4' y1
  have hsz6 : t.sz ≤ 1000000 := by have := HGT.out; omega
  have OT4 := OT _ b4 hsz6
  have OW' := fun w' vc h => OW w' vc h hsz6
  clear s30 s31 GU hgu OT OW
  go_wp2_with fail
  refine OT4.mono ?_
  rintro e w5 ⟨v5, rfl, tv5, k5⟩
  have k5' := bthen k4' k5
  have b5 := bthen b4 k5
  have ta5 := tv5.all
  clear tv5 OT4 y40 y41
  obtain ⟨u5, rfl, kt5⟩ := id ta5
  obtain ⟨ao5, cap5, rfl, _⟩ := kt5.slice
  obtain ⟨W5, hW5⟩ : ∃ W5, W5 = w5.alloc (.cells #[.int .i64 t.rule, .slice ao5 t.kids.len cap5] 27) := ⟨_, rfl⟩
  have k6 : Below w5.heap.size w5 W5 := by rw [hW5]; exact al1 _ _
  have k6' := bthen k5' k6
  have b6 := bthen b5 k6
  have z0 : W5.cell? ⟨w5.heap.size, 0, none⟩ = some (.int .i64 t.rule) := by rw [hW5]; simp
  have z1 : W5.cell? ⟨w5.heap.size, 1, none⟩ = some (.slice ao5 t.kids.len cap5) := by rw [hW5]; simp
  have ta6 := ta5.lw k6
  have e0 := alcell (bkeep k5' x0) (.cells #[.int .i64 t.rule, .slice ao5 t.kids.len cap5] 27)
  have e1 := alcell (bkeep k5' x1) (.cells #[.int .i64 t.rule, .slice ao5 t.kids.len cap5] 27)
  have e2 := alcell (bkeep k5' x2) (.cells #[.int .i64 t.rule, .slice ao5 t.kids.len cap5] 27)
  have e3 := alcell (bkeep k5' x3) (.cells #[.int .i64 t.rule, .slice ao5 t.kids.len cap5] 27)
  have e4 := alcell (bkeep k5' y0) (.cells #[.int .i64 t.rule, .slice ao5 t.kids.len cap5] 27)
  have e5 := alcell (bkeep k5' y1) (.cells #[.int .i64 t.rule, .slice ao5 t.kids.len cap5] 27)
  go_wp2_with fail
  rw [← hW5]
  have HW5 := hd hW5
  clear hW5 e0 e1 e2 e3 e4 e5
  refine (FS _ b6 hsm).mono ?_
  rintro e w7 ⟨rfl, k7⟩
  obtain ⟨W7, hW7⟩ : ∃ W7, W7 = w7.alloc (.cells #[.int .i64 R1, .int .i64 R2] 33) := ⟨_, rfl⟩
  have kv : Below w7.heap.size w7 W7 := by rw [hW7]; exact al1 _ _
  have j7 := bthen k7 kv
  have b7 := bthen b6 j7
  have k7' := bthen k6' k7
  have f0 : W7.cell? ⟨w7.heap.size, 0, none⟩ = some (.int .i64 R1) := by rw [hW7]; simp
  have f1 : W7.cell? ⟨w7.heap.size, 1, none⟩ = some (.int .i64 R2) := by rw [hW7]; simp
  have e0 := alcell (bkeep k7' x0) (.cells #[.int .i64 R1, .int .i64 R2] 33)
  have e1 := alcell (bkeep k7' x1) (.cells #[.int .i64 R1, .int .i64 R2] 33)
  have e2 := alcell (bkeep k7' x2) (.cells #[.int .i64 R1, .int .i64 R2] 33)
  have e3 := alcell (bkeep k7' x3) (.cells #[.int .i64 R1, .int .i64 R2] 33)
  have e4 := alcell (bkeep k7 z0) (.cells #[.int .i64 R1, .int .i64 R2] 33)
  have e5 := alcell (bkeep k7 z1) (.cells #[.int .i64 R1, .int .i64 R2] 33)
  have WO7 := WO _ _ b7 (ta6.lw j7) hsm
  clear FS WO
  go_wp2_with fail
  rw [← hW7]
  have HW7 := hd hW7
  clear hW7 e0 e1 e2 e3 e4 e5
  refine WO7.mono ?_
  rintro e w8 ⟨v8, rfl, i8, k8⟩
  obtain ⟨W8, hW8⟩ : ∃ W8, W8 = w8.alloc (.cells #[.int .i64 R1, .int .i64 R2] 33) := ⟨_, rfl⟩
  have kv8 : Below w8.heap.size w8 W8 := by rw [hW8]; exact al1 _ _
  have j8 := bthen k8 kv8
  have j8' := bthen j7 j8
  have j8w := bthen k6' j8'
  have b8 := bthen b7 j8
  have f80 := alcell (bkeep k8 f0) (.cells #[.int .i64 R1, .int .i64 R2] 33)
  have f81 := alcell (bkeep k8 f1) (.cells #[.int .i64 R1, .int .i64 R2] 33)
  have m0 : W8.cell? ⟨w8.heap.size, 0, none⟩ = some (.int .i64 R1) := by rw [hW8]; simp
  have m1 : W8.cell? ⟨w8.heap.size, 1, none⟩ = some (.int .i64 R2) := by rw [hW8]; simp
  have f90 := bkeep j8 f0
  have f91 := bkeep j8 f1
  have i8' := i8.all.lw kv8
  have ta8 := ta6.lw j8'
  obtain ⟨a8, c8, rfl⟩ := i8'.slice
  have k8w := bthen k6' (bthen j7 k8)
  have e0 := alcell (bkeep k8w x0) (.cells #[.int .i64 R1, .int .i64 R2] 33)
  have e1 := alcell (bkeep k8w x1) (.cells #[.int .i64 R1, .int .i64 R2] 33)
  have e2 := alcell (bkeep k8w x2) (.cells #[.int .i64 R1, .int .i64 R2] 33)
  have e3 := alcell (bkeep k8w x3) (.cells #[.int .i64 R1, .int .i64 R2] 33)
  have e4 := alcell (bkeep k8w y0) (.cells #[.int .i64 R1, .int .i64 R2] 33)
  have e5 := alcell (bkeep k8w y1) (.cells #[.int .i64 R1, .int .i64 R2] 33)
  have HR := hd hR
  have HZ := hd hz
  have HL := hd hL
  clear hR hz hL WO7 f0 f1 i8 k8 kv8
  have c0 := bkeep j8w x0
  have c1 := bkeep j8w x1
  have c2 := bkeep j8w x2
  have c3 := bkeep j8w x3
  have c4 := bkeep j8w y0
  have c5 := bkeep j8w y1
  have c6 := bkeep j8w s0
  have c7 := bkeep j8w s1
  have c8 := bkeep j8' z0
  have c9 := bkeep j8' z1
  by_cases hc : R1 = 0
  rotate_left
  · have hl0 : L = [] := by rw [HL.out, if_neg hc]
    subst hl0
    have hcb : (R1 != 0) = true := by simpa using hc
    have hcb2 : (R1 == 0) = false := by simpa using hc
    clear hc c0 c1 c2 c3 c4 c5 c6 c7 c8 c9
    go_wp2_with fail
    rw [← hW8]
    obtain ⟨Z, hZ⟩ : ∃ Z, Z = W8 := ⟨_, rfl⟩
    have kZ : Below W8.heap.size W8 Z := by rw [hZ]; exact Below.refl _ _
    rw [← hZ]
    clear hZ
    have kZw := bthen j8w kZ
    have kZ5 := bthen j8' kZ
    have g0 : Below Z.heap.size Z Z ∧ Z.cell? ⟨w.heap.size, 0, none⟩ = some (.int .i64 g.vars) ∧ Z.cell? ⟨w.heap.size, 1, none⟩ = some (.int .i64 g.terms) ∧ Z.cell? ⟨w.heap.size, 2, none⟩ = some (.int .i64 g.start) ∧ Z.cell? ⟨w.heap.size, 3, none⟩ = some (.slice ao g.rules.length cap) ∧ Z.cell? ⟨w.heap.size + 1, 0, none⟩ = some (.int .i64 t.rule) ∧ Z.cell? ⟨w.heap.size + 1, 1, none⟩ = some (.slice at_ t.kids.len ct) ∧ Z.cell? ⟨w.heap.size + 2, 0, none⟩ = some (.int .i64 u.rule) ∧ Z.cell? ⟨w.heap.size + 2, 1, none⟩ = some (.slice au u.kids.len cu) ∧ Z.cell? ⟨w5.heap.size, 0, none⟩ = some (.int .i64 t.rule) ∧ Z.cell? ⟨w5.heap.size, 1, none⟩ = some (.slice ao5 t.kids.len cap5) := ⟨Below.refl _ _, bkeep kZw x0, bkeep kZw x1, bkeep kZw x2, bkeep kZw x3, bkeep kZw y0, bkeep kZw y1, bkeep kZw s0, bkeep kZw s1, bkeep kZ5 z0, bkeep kZ5 z1⟩
    have st0 : Stp Z Z.drew := ⟨drw1 Z⟩
    have bZ := bthen b8 kZ
    have hL' : ∀ z, Below Z.heap.size Z z → Below w.heap.size w z := fun z hz => bthen bZ hz
    have taZ := ta8.lw kZ
    clear x0 x1 x2 x3 y0 y1 s0 s1 z0 z1 e0 e1 e2 e3 e4 e5 f80 f81 f90 f91 m0 m1 kZw kZ5 ta5 ta6 ta8 ra kt ku i8' kt5
    go_region_held3 (fun w' => Below Z.heap.size Z w' ∧ w'.cell? ⟨w.heap.size, 0, none⟩ = some (.int .i64 g.vars) ∧ w'.cell? ⟨w.heap.size, 1, none⟩ = some (.int .i64 g.terms) ∧ w'.cell? ⟨w.heap.size, 2, none⟩ = some (.int .i64 g.start) ∧ w'.cell? ⟨w.heap.size, 3, none⟩ = some (.slice ao g.rules.length cap) ∧ w'.cell? ⟨w.heap.size + 1, 0, none⟩ = some (.int .i64 t.rule) ∧ w'.cell? ⟨w.heap.size + 1, 1, none⟩ = some (.slice at_ t.kids.len ct) ∧ w'.cell? ⟨w.heap.size + 2, 0, none⟩ = some (.int .i64 u.rule) ∧ w'.cell? ⟨w.heap.size + 2, 1, none⟩ = some (.slice au u.kids.len cu) ∧ w'.cell? ⟨w5.heap.size, 0, none⟩ = some (.int .i64 t.rule) ∧ w'.cell? ⟨w5.heap.size, 1, none⟩ = some (.slice ao5 t.kids.len cap5))
      (first | assumption | exact keep10 (by assumption) (by assumption))
      (first
        | (go_at_call 13; refine (CK _ _ (hL' _ (And.left (by assumption))) (taZ.lw (And.left (by assumption))) hsm).mono ?_; rintro e w11 ⟨rfl, hb11⟩; have st11 := Stp.mk hb11; clear hb11)
        | (go_at_call 9; refine (FV _ (hL' _ (And.left (by assumption))) hsm).mono ?_; rintro e w12 ⟨rfl, hb12⟩; have st12 := Stp.mk hb12; clear hb12)
        | (go_at_call 14; refine (OO _ _ (hL' _ (And.left (by assumption))) (taZ.lw (And.left (by assumption)))).mono ?_; rintro e w13 ⟨rfl, hb13⟩; have st13 := Stp.mk hb13; clear hb13)
        | (go_at_call 15; refine (OF _ (hL' _ (And.left (by assumption)))).mono ?_; rintro e w14 ⟨rfl, hb14⟩; have st14 := Stp.mk hb14; clear hb14)
        | (go_at_call 17; refine (OW' _ _ (taZ.lw (And.left (by assumption)))).mono ?_; rintro e w15 ⟨v15, rfl, tv15, hb15⟩; have st15 := Stp.mk hb15; clear hb15; have ta15 := tv15.all; clear tv15; obtain ⟨u15, rfl, kt15⟩ := id ta15; obtain ⟨ao15, cap15, rfl, _⟩ := kt15.slice; clear kt15)
        | (go_at_call 16; refine (ST _ _ (hL' _ (And.left (by assumption))) ta15).mono ?_; rintro e w16 ⟨rfl, hb16⟩; have st16 := Stp.mk hb16; clear hb16)
        | (go_at_call 16; refine (ST _ _ (hL' _ (And.left (by assumption))) (taZ.lw (And.left (by assumption)))).mono ?_; rintro e w17 ⟨rfl, hb17⟩; have st17 := Stp.mk hb17; clear hb17))
    rename Below Z.heap.size Z w17 ∧ _ => hS
    have bz := hL' _ hS.1
    go_wp2_with fail
    go_ret
    exact ⟨rfl, bz⟩
  · subst hc
    obtain ⟨hg0, h400, hfit, hR2⟩ := HZ.out rfl
    have hl0 : L = wdT g.rules t := by rw [HL.out, if_pos rfl]
    have hwl := wdT_len hsm t
    have WD8 := WD W8 b8 hsm (near_of hg0) hfit (by omega)
    rw [← hl0] at WD8 hwl
    have Hl0 := hd hl0
    have Hft := hd hfit
    have Hg0 := hd hg0
    have hwl' : L.length ≤ 9223372036854775807 := by omega
    have HR2 := hd hR2
    clear hl0 hfit hg0 hR2 c0 c1 c2 c3 c4 c5 c6 c7 c8 c9
    go_wp2_with fail
    rw [← hW8]
    refine WD8.mono ?_
    rintro e wa ⟨va', rfl, own9, k9⟩
    have i9 := IsV_owned (S := All) own9 hwl' (fun _ _ => trivial)
    obtain ⟨a9, c9, rfl⟩ := i9.slice
    have SI := sameInts_any L L _ _ wa (i8'.lw k9) i9
    rw [show decide (L = L) = true from decide_eq_true rfl] at SI
    go_wp2_with fail
    refine SI.mono ?_
    rintro e Z ⟨rfl, k10⟩
    have kZ : Below W8.heap.size W8 Z := bthen k9 k10
    clear SI i9 own9 WD8
    go_wp2_with fail
    have kZw := bthen j8w kZ
    have kZ5 := bthen j8' kZ
    have g0 : Below Z.heap.size Z Z ∧ Z.cell? ⟨w.heap.size, 0, none⟩ = some (.int .i64 g.vars) ∧ Z.cell? ⟨w.heap.size, 1, none⟩ = some (.int .i64 g.terms) ∧ Z.cell? ⟨w.heap.size, 2, none⟩ = some (.int .i64 g.start) ∧ Z.cell? ⟨w.heap.size, 3, none⟩ = some (.slice ao g.rules.length cap) ∧ Z.cell? ⟨w.heap.size + 1, 0, none⟩ = some (.int .i64 t.rule) ∧ Z.cell? ⟨w.heap.size + 1, 1, none⟩ = some (.slice at_ t.kids.len ct) ∧ Z.cell? ⟨w.heap.size + 2, 0, none⟩ = some (.int .i64 u.rule) ∧ Z.cell? ⟨w.heap.size + 2, 1, none⟩ = some (.slice au u.kids.len cu) ∧ Z.cell? ⟨w5.heap.size, 0, none⟩ = some (.int .i64 t.rule) ∧ Z.cell? ⟨w5.heap.size, 1, none⟩ = some (.slice ao5 t.kids.len cap5) := ⟨Below.refl _ _, bkeep kZw x0, bkeep kZw x1, bkeep kZw x2, bkeep kZw x3, bkeep kZw y0, bkeep kZw y1, bkeep kZw s0, bkeep kZw s1, bkeep kZ5 z0, bkeep kZ5 z1⟩
    have st0 : Stp Z Z.drew := ⟨drw1 Z⟩
    have bZ := bthen b8 kZ
    have hL' : ∀ z, Below Z.heap.size Z z → Below w.heap.size w z := fun z hz => bthen bZ hz
    have taZ := ta8.lw kZ
    clear x0 x1 x2 x3 y0 y1 s0 s1 z0 z1 e0 e1 e2 e3 e4 e5 f80 f81 f90 f91 m0 m1 kZw kZ5 ta5 ta6 ta8 ra kt ku i8' kt5
    go_region_held3 (fun w' => Below Z.heap.size Z w' ∧ w'.cell? ⟨w.heap.size, 0, none⟩ = some (.int .i64 g.vars) ∧ w'.cell? ⟨w.heap.size, 1, none⟩ = some (.int .i64 g.terms) ∧ w'.cell? ⟨w.heap.size, 2, none⟩ = some (.int .i64 g.start) ∧ w'.cell? ⟨w.heap.size, 3, none⟩ = some (.slice ao g.rules.length cap) ∧ w'.cell? ⟨w.heap.size + 1, 0, none⟩ = some (.int .i64 t.rule) ∧ w'.cell? ⟨w.heap.size + 1, 1, none⟩ = some (.slice at_ t.kids.len ct) ∧ w'.cell? ⟨w.heap.size + 2, 0, none⟩ = some (.int .i64 u.rule) ∧ w'.cell? ⟨w.heap.size + 2, 1, none⟩ = some (.slice au u.kids.len cu) ∧ w'.cell? ⟨w5.heap.size, 0, none⟩ = some (.int .i64 t.rule) ∧ w'.cell? ⟨w5.heap.size, 1, none⟩ = some (.slice ao5 t.kids.len cap5))
      (first | assumption | exact keep10 (by assumption) (by assumption))
      (first
        | (go_at_call 13; refine (CK _ _ (hL' _ (And.left (by assumption))) (taZ.lw (And.left (by assumption))) hsm).mono ?_; rintro e w11 ⟨rfl, hb11⟩; have st11 := Stp.mk hb11; clear hb11)
        | (go_at_call 9; refine (FV _ (hL' _ (And.left (by assumption))) hsm).mono ?_; rintro e w12 ⟨rfl, hb12⟩; have st12 := Stp.mk hb12; clear hb12)
        | (go_at_call 14; refine (OO _ _ (hL' _ (And.left (by assumption))) (taZ.lw (And.left (by assumption)))).mono ?_; rintro e w13 ⟨rfl, hb13⟩; have st13 := Stp.mk hb13; clear hb13)
        | (go_at_call 15; refine (OF _ (hL' _ (And.left (by assumption)))).mono ?_; rintro e w14 ⟨rfl, hb14⟩; have st14 := Stp.mk hb14; clear hb14)
        | (go_at_call 17; refine (OW' _ _ (taZ.lw (And.left (by assumption)))).mono ?_; rintro e w15 ⟨v15, rfl, tv15, hb15⟩; have st15 := Stp.mk hb15; clear hb15; have ta15 := tv15.all; clear tv15; obtain ⟨u15, rfl, kt15⟩ := id ta15; obtain ⟨ao15, cap15, rfl, _⟩ := kt15.slice; clear kt15)
        | (go_at_call 16; refine (ST _ _ (hL' _ (And.left (by assumption))) ta15).mono ?_; rintro e w16 ⟨rfl, hb16⟩; have st16 := Stp.mk hb16; clear hb16)
        | (go_at_call 16; refine (ST _ _ (hL' _ (And.left (by assumption))) (taZ.lw (And.left (by assumption)))).mono ?_; rintro e w17 ⟨rfl, hb17⟩; have st17 := Stp.mk hb17; clear hb17))
    rename Below Z.heap.size Z w17 ∧ _ => hS
    have bz := hL' _ hS.1
    go_wp2_with fail
    go_ret
    exact ⟨rfl, bz⟩

set_option maxRecDepth 100000 in
theorem lifted (os : Os) (started : os.Started) (H : Type) (enc : TypeId × Value → H) :
    ReturnsInHanded {} Try.checked os 3 .any (Rows.treeDoesSpec.pre6 enc Try.prog Try.f3 Rows.treeDoesRow.domain false) (Rows.treeDoesSpec.post enc Try.prog Try.f3 false true false false) := by
  refine returnsInHanded_of_change (C := Try.checked) own started (by kernel_rfl) Try.func3
    (ChangeSpec.witness6 (enc := enc) (C := Try.checked) false ⟨#[], #[.agg #[.int .i64 0, .int .i64 0, .int .i64 0, .slice none 0 0], .agg #[.int .i64 0, .slice none 0 0], .agg #[.int .i64 0, .slice none 0 0], .int .i64 0], []⟩ 8 (by kernel_rfl) (by kernel_rfl) (by kernel_rfl) (by kernel_rfl)) ?_
  intro W base args ds gs before hval0 hW hcnd _
  have hval : ∀ (j : Nat) t v, Try.f3.params[j]? = some t → args[j]? = some v → Value.okWide Try.prog W .any base t v := hval0
  have hW' := hW
  obtain ⟨p, q, hA0, hV, rfl, hfz, hnd⟩ := hW
  have hA : DataW.TrodAll enc Try.prog W 0 (fun _ => true) true Try.f3.params.toList args.toList ds p := hA0
  rw [Try.params3] at hA hval
  obtain ⟨v0, vs0, d0, ds0, p0, q0, hargs, rfl, rfl, h0, r0⟩ := trodAll_cons hA
  obtain ⟨v1, vs1, d1, ds1, p1, q1, rfl, rfl, rfl, h1, r1⟩ := trodAll_cons r0
  obtain ⟨v2, vs2, d2, ds2, p2, q2, rfl, rfl, rfl, h2, r2⟩ := trodAll_cons r1
  obtain ⟨v3, vs3, d3, ds3, p3, q3, rfl, rfl, rfl, h3, r3⟩ := trodAll_cons r2
  obtain ⟨rfl, rfl, rfl⟩ := trodAll_nil r3
  obtain rfl : args = #[v0, v1, v2, v3] := by cases args; simp_all
  obtain ⟨rfl, rfl⟩ := trodVars_none hV
  have k0 := h0
  have k1 := h1
  have k2 := h2
  have k3 := h3
  have lt0 : ∀ x ∈ p0, x.block < W.heap.size := by obtain ⟨m, hm⟩ := k0; exact DataW.trod_lt m _ _ _ hm
  have lt1 : ∀ x ∈ p1, x.block < W.heap.size := by obtain ⟨m, hm⟩ := k1; exact DataW.trod_lt m _ _ _ hm
  have lt2 : ∀ x ∈ p2, x.block < W.heap.size := by obtain ⟨m, hm⟩ := k2; exact DataW.trod_lt m _ _ _ hm
  have lt3 : ∀ x ∈ p3, x.block < W.heap.size := by obtain ⟨m, hm⟩ := k3; exact DataW.trod_lt m _ _ _ hm
  obtain ⟨g, hg⟩ := open_gram (hval 0 24 v0 rfl rfl) h0
  obtain ⟨t, ht⟩ := open_tree (hval 1 27 v1 rfl rfl) h1
  obtain ⟨u, hu⟩ := open_tree (hval 2 27 v2 rfl rfl) h2
  obtain ⟨n, rfl⟩ := okWide_int Try.underlying3 (hval 3 3 v3 rfl rfl)
  clear hA0 hval0
  refine (walk g t u n v0 v1 v2 W hg ht hu).mono fun e W' ⟨he, bel⟩ => ?_
  subst he
  exact ⟨_, rfl, _, _, _, [], _, [], hW', trodAll_mk1 (shut_bool Try.underlying4 _), (trodAll_cons_mk (Below.trod laidOut (by kernel_rfl) (of_decide_eq_true (by kernel_rfl)) k0 bel lt0) (trodAll_cons_mk (Below.trod laidOut (by kernel_rfl) (of_decide_eq_true (by kernel_rfl)) k1 bel lt1) (trodAll_cons_mk (Below.trod laidOut (by kernel_rfl) (of_decide_eq_true (by kernel_rfl)) k2 bel lt2) (trodAll_cons_mk (Below.trod laidOut (by kernel_rfl) (of_decide_eq_true (by kernel_rfl)) k3 bel lt3) trodAll_mk0)))), rfl, bel.frame _, fun h => by cases h⟩

theorem stands : Rows.treeDoesRow.holds Try.pinned (OpenSpec.ofChange Rows.treeDoesSpec) :=
  OpenClaim.holds_of_wide 3 Try.f3 rfl rfl rfl rfl rfl rfl rfl ⟨rfl, rfl, rfl, rfl, rfl⟩ rfl rfl rfl rfl rfl (by kernel_rfl) Try.func3 (by kernel_rfl)
    (of_decide_eq_true (by kernel_rfl)) (by unfold Func.isWrapper; first | (rw [if_pos (by decide +kernel)]; kernel_rfl) | (rw [if_neg (by decide +kernel)]; exact ⟨rfl, rfl⟩))
    (fun os started H enc _ => lifted os started H enc)

theorem proved : Rows.TreeDoesSaid := stands
#print axioms proved
end Go.Proofs.Ytghplmldnkcpnad.treeDoes
