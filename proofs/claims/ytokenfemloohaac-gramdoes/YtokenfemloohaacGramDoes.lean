/- Proved: for every two grammars and every number GramDoes returns true (gram.Check, gram.Same, gram.Own, gram.By and gram.Kids answer as the document's own functions do, and what they were handed stays), and the grammars read as before. No condition. -/
import Derived.Test.YtokenfemloohaacGl
import Derived.Test.YtokenfemloohaacGv
import Derived.Test.YtokenfemloohaacGw
import Derived.Test.YtokenfemloohaacGx
import Derived.Test.YtokenfemloohaacRows
import Derived.ProofKit
import Derived.OpenShut
import Derived.ShutString
import Derived.ChangeOld
namespace Go.Proofs.Ytokenfemloohaac.gramDoes
open Go.Proofs.Ytokenfemloohaac Go.Proofs.Ytokenfemloohaac.G
open Go.ChangeShapes Go.WideShapes Go.ChangeAt Go.RowKit

theorem own : ownKnob Try.prog.godebug = none := by kernel_rfl
theorem laidOut : laidOutB Try.prog = true := by kernel_rfl
theorem keep12 {W a b : World} {p q r : Nat} {u0 u1 u2 u3 v0 v1 v2 v3 t0 t1 t2 t3 : Value} (st : Stp a b) (h : Below W.heap.size W a ∧ a.cell? ⟨p, 0, none⟩ = some u0 ∧ a.cell? ⟨p, 1, none⟩ = some u1 ∧ a.cell? ⟨p, 2, none⟩ = some u2 ∧ a.cell? ⟨p, 3, none⟩ = some u3 ∧ a.cell? ⟨q, 0, none⟩ = some v0 ∧ a.cell? ⟨q, 1, none⟩ = some v1 ∧ a.cell? ⟨q, 2, none⟩ = some v2 ∧ a.cell? ⟨q, 3, none⟩ = some v3 ∧ a.cell? ⟨r, 0, none⟩ = some t0 ∧ a.cell? ⟨r, 1, none⟩ = some t1 ∧ a.cell? ⟨r, 2, none⟩ = some t2 ∧ a.cell? ⟨r, 3, none⟩ = some t3) :
    Below W.heap.size W b ∧ b.cell? ⟨p, 0, none⟩ = some u0 ∧ b.cell? ⟨p, 1, none⟩ = some u1 ∧ b.cell? ⟨p, 2, none⟩ = some u2 ∧ b.cell? ⟨p, 3, none⟩ = some u3 ∧ b.cell? ⟨q, 0, none⟩ = some v0 ∧ b.cell? ⟨q, 1, none⟩ = some v1 ∧ b.cell? ⟨q, 2, none⟩ = some v2 ∧ b.cell? ⟨q, 3, none⟩ = some v3 ∧ b.cell? ⟨r, 0, none⟩ = some t0 ∧ b.cell? ⟨r, 1, none⟩ = some t1 ∧ b.cell? ⟨r, 2, none⟩ = some t2 ∧ b.cell? ⟨r, 3, none⟩ = some t3 :=
  ⟨bthen h.1 st.h, bkeep st.h h.2.1, bkeep st.h h.2.2.1, bkeep st.h h.2.2.2.1, bkeep st.h h.2.2.2.2.1, bkeep st.h h.2.2.2.2.2.1, bkeep st.h h.2.2.2.2.2.2.1, bkeep st.h h.2.2.2.2.2.2.2.1, bkeep st.h h.2.2.2.2.2.2.2.2.1, bkeep st.h h.2.2.2.2.2.2.2.2.2.1, bkeep st.h h.2.2.2.2.2.2.2.2.2.2.1, bkeep st.h h.2.2.2.2.2.2.2.2.2.2.2.1, bkeep st.h h.2.2.2.2.2.2.2.2.2.2.2.2⟩
theorem keep5 {W a e : World} {p q b d i1 i2 i3 : Nat} {u v x y z : Value} (st : Stp a e) (h : Below W.heap.size W a ∧ a.cell? ⟨p, 3, none⟩ = some u ∧ a.cell? ⟨q, 3, none⟩ = some v ∧ a.cell? ⟨b, i1, none⟩ = some x ∧ a.cell? ⟨b, i2, none⟩ = some y ∧ a.cell? ⟨d, i3, none⟩ = some z) :
    Below W.heap.size W e ∧ e.cell? ⟨p, 3, none⟩ = some u ∧ e.cell? ⟨q, 3, none⟩ = some v ∧ e.cell? ⟨b, i1, none⟩ = some x ∧ e.cell? ⟨b, i2, none⟩ = some y ∧ e.cell? ⟨d, i3, none⟩ = some z :=
  ⟨bthen h.1 st.h, bkeep st.h h.2.1, bkeep st.h h.2.2.1, bkeep st.h h.2.2.2.1, bkeep st.h h.2.2.2.2.1, bkeep st.h h.2.2.2.2.2⟩
set_option maxRecDepth 100000 in
set_option maxHeartbeats 16000000 in
theorem walk (g h : Gm) (v : Int) (va vb : Value) (w : World) (hA : GV w All va g) (hB : GV w All vb h) :
    Calls Try.prog 3 #[va, vb, .int .i64 v] w fun e w' => e = .returned (.bool true) ∧ Below w.heap.size w w' := by
  have GA := fun w' (hb : Below w.heap.size w w') => great_any g va w' (hA.lw hb)
  have GB := fun w' (hb : Below w.heap.size w w') => great_any h vb w' (hB.lw hb)
  have OA := fun w' (hb : Below w.heap.size w w') => ownGram_any g va w' (hA.lw hb)
  have FA := fun w' (hb : Below w.heap.size w w') => gramFault_any g va w' (hA.lw hb)
  have RA := fun w' (hb : Below w.heap.size w w') => rulesOf_any g v va w' (hA.lw hb)
  have SB := fun w' (hb : Below w.heap.size w w') => sameGram_any g h va vb w' (hA.lw hb) (hB.lw hb)
  have SC := fun w' vc (hb : Below w.heap.size w w') hc => sameGram_any g g vc va w' hc (hA.lw hb)
  have SA := fun w' vc (hb : Below w.heap.size w w') hc => same_any g h vc vb w' hc (hB.lw hb)
  have CA := fun w' vc hc => check_any g vc w' hc
  have YA := fun w' vc hc => by_any g v vc w' hc
  have WA := fun w' vc hc => own_any g vc w' hc
  rw [show decide (g = g) = true from decide_eq_true rfl] at SC
  generalize decide (g = h) = q at *
  generalize gFl g = D at *
  obtain ⟨D1, D2⟩ := D
  simp only at CA FA
  obtain ⟨ua, rfl, ra⟩ := hA
  obtain ⟨ub, rfl, rb⟩ := hB
  obtain ⟨ao, cap, rfl⟩ := ra.slice
  obtain ⟨bo, dap, rfl⟩ := rb.slice
  have hl := ra.1
  obtain ⟨W, hW⟩ : ∃ W, W = (w.alloc (.cells #[.int .i64 g.vars, .int .i64 g.terms, .int .i64 g.start, .slice ao g.rules.length cap] 24)).alloc (.cells #[.int .i64 h.vars, .int .i64 h.terms, .int .i64 h.start, .slice bo h.rules.length dap] 24) := ⟨_, rfl⟩
  have hWb : Below w.heap.size w W := by rw [hW]; exact al2 _ _ _
  have x0 : W.cell? ⟨w.heap.size, 0, none⟩ = some (.int .i64 g.vars) := by rw [hW]; simp
  have x1 : W.cell? ⟨w.heap.size, 1, none⟩ = some (.int .i64 g.terms) := by rw [hW]; simp
  have x2 : W.cell? ⟨w.heap.size, 2, none⟩ = some (.int .i64 g.start) := by rw [hW]; simp
  have x3 : W.cell? ⟨w.heap.size, 3, none⟩ = some (.slice ao g.rules.length cap) := by rw [hW]; simp
  have y0 : W.cell? ⟨w.heap.size + 1, 0, none⟩ = some (.int .i64 h.vars) := by rw [hW]; simp
  have y1 : W.cell? ⟨w.heap.size + 1, 1, none⟩ = some (.int .i64 h.terms) := by rw [hW]; simp
  have y2 : W.cell? ⟨w.heap.size + 1, 2, none⟩ = some (.int .i64 h.start) := by rw [hW]; simp
  have y3 : W.cell? ⟨w.heap.size + 1, 3, none⟩ = some (.slice bo h.rules.length dap) := by rw [hW]; simp
  go_enter Try.func3, Try.ntmps3
  go_wp2_with fail
  rw [← hW]
  have HW := hd hW
  clear hW
  refine (begun_any _).mono ?_
  rintro e w1 ⟨rfl, k1⟩
  have b1 := bthen hWb k1
  have x10 := bkeep k1 x0
  have x11 := bkeep k1 x1
  have x12 := bkeep k1 x2
  have x13 := bkeep k1 x3
  go_wp2_with fail
  refine (GA _ b1).mono ?_
  rintro e w2 ⟨q2, rfl, hq2, k2⟩
  have b2 := bthen b1 k2
  cases q2 with
  | true =>
    go_wp2_with fail
    go_ret
    exact ⟨rfl, b2⟩
  | false =>
  have hsm := hq2 rfl
  have k2' := bthen k1 k2
  have y20 := bkeep k2' y0
  have y21 := bkeep k2' y1
  have y22 := bkeep k2' y2
  have y23 := bkeep k2' y3
  clear x10 x11 x12 x13 GA
  go_wp2_with fail
  refine (GB _ b2).mono ?_
  rintro e w3 ⟨q3, rfl, hq3, k3⟩
  have b3 := bthen b2 k3
  cases q3 with
  | true =>
    go_wp2_with fail
    go_ret
    exact ⟨rfl, b3⟩
  | false =>
  have k3' := bthen k2' k3
  have x30 := bkeep k3' x0
  have x31 := bkeep k3' x1
  have x32 := bkeep k3' x2
  have x33 := bkeep k3' x3
  clear GB hq3 hq2 y20 y21 y22 y23
  go_wp2_with fail
  refine (OA _ b3 hsm).mono ?_
  rintro e w4 ⟨v4, rfl, gv4, k4⟩
  have k4' := bthen k3' k4
  have b4 := bthen b3 k4
  have ga4 := gv4.all
  clear gv4 OA x30 x31 x32 x33
  obtain ⟨u4, rfl, ra4⟩ := id ga4
  obtain ⟨ao4, cap4, rfl⟩ := ra4.slice
  obtain ⟨W5, hW5⟩ : ∃ W5, W5 = w4.alloc (.cells #[.int .i64 g.vars, .int .i64 g.terms, .int .i64 g.start, .slice ao4 g.rules.length cap4] 24) := ⟨_, rfl⟩
  have k5 : Below w4.heap.size w4 W5 := by rw [hW5]; exact al1 _ _
  have k5' := bthen k4' k5
  have b5 := bthen b4 k5
  have z0 : W5.cell? ⟨w4.heap.size, 0, none⟩ = some (.int .i64 g.vars) := by rw [hW5]; simp
  have z1 : W5.cell? ⟨w4.heap.size, 1, none⟩ = some (.int .i64 g.terms) := by rw [hW5]; simp
  have z2 : W5.cell? ⟨w4.heap.size, 2, none⟩ = some (.int .i64 g.start) := by rw [hW5]; simp
  have z3 : W5.cell? ⟨w4.heap.size, 3, none⟩ = some (.slice ao4 g.rules.length cap4) := by rw [hW5]; simp
  have g0 : Below W5.heap.size W5 W5 ∧ W5.cell? ⟨w.heap.size, 0, none⟩ = some (.int .i64 g.vars) ∧ W5.cell? ⟨w.heap.size, 1, none⟩ = some (.int .i64 g.terms) ∧ W5.cell? ⟨w.heap.size, 2, none⟩ = some (.int .i64 g.start) ∧ W5.cell? ⟨w.heap.size, 3, none⟩ = some (.slice ao g.rules.length cap) ∧ W5.cell? ⟨w.heap.size + 1, 0, none⟩ = some (.int .i64 h.vars) ∧ W5.cell? ⟨w.heap.size + 1, 1, none⟩ = some (.int .i64 h.terms) ∧ W5.cell? ⟨w.heap.size + 1, 2, none⟩ = some (.int .i64 h.start) ∧ W5.cell? ⟨w.heap.size + 1, 3, none⟩ = some (.slice bo h.rules.length dap) ∧ W5.cell? ⟨w4.heap.size, 0, none⟩ = some (.int .i64 g.vars) ∧ W5.cell? ⟨w4.heap.size, 1, none⟩ = some (.int .i64 g.terms) ∧ W5.cell? ⟨w4.heap.size, 2, none⟩ = some (.int .i64 g.start) ∧ W5.cell? ⟨w4.heap.size, 3, none⟩ = some (.slice ao4 g.rules.length cap4) :=
    ⟨Below.refl _ _, bkeep k5' x0, bkeep k5' x1, bkeep k5' x2, bkeep k5' x3, bkeep k5' y0, bkeep k5' y1, bkeep k5' y2, bkeep k5' y3, z0, z1, z2, z3⟩
  have st0 : Stp W5 W5.drew := ⟨drw1 W5⟩
  have ga5 := ga4.lw k5
  have ra5 := ra4.lw k5
  have hL : ∀ z, Below W5.heap.size W5 z → Below w.heap.size w z := fun z hz => bthen b5 hz
  have hsl := hsm.1
  have RA' := fun w' hb => RA w' hb (by omega)
  have YA' := fun w' vc hc => YA w' vc hc (by omega)
  have WA' := fun w' vc hc => WA w' vc hc hsm
  have hbl := byL_len v g.rules 0
  have HSM := hd hsm
  clear hsm RA YA WA ga4 ra4 k5 k5' k4' k3' k2' k1 k2 k3 k4 b1 b2 b3 b4 hWb
  have hBl : (byL v g.rules 0).length ≤ 9223372036854775807 := by omega
  generalize byL v g.rules 0 = B at *
  go_wp2_with fail
  rw [← hW5]
  have HW5 := hd hW5
  clear hW5
  go_region_held3 (fun w' => Below W5.heap.size W5 w' ∧ w'.cell? ⟨w.heap.size, 0, none⟩ = some (.int .i64 g.vars) ∧ w'.cell? ⟨w.heap.size, 1, none⟩ = some (.int .i64 g.terms) ∧ w'.cell? ⟨w.heap.size, 2, none⟩ = some (.int .i64 g.start) ∧ w'.cell? ⟨w.heap.size, 3, none⟩ = some (.slice ao g.rules.length cap) ∧ w'.cell? ⟨w.heap.size + 1, 0, none⟩ = some (.int .i64 h.vars) ∧ w'.cell? ⟨w.heap.size + 1, 1, none⟩ = some (.int .i64 h.terms) ∧ w'.cell? ⟨w.heap.size + 1, 2, none⟩ = some (.int .i64 h.start) ∧ w'.cell? ⟨w.heap.size + 1, 3, none⟩ = some (.slice bo h.rules.length dap) ∧ w'.cell? ⟨w4.heap.size, 0, none⟩ = some (.int .i64 g.vars) ∧ w'.cell? ⟨w4.heap.size, 1, none⟩ = some (.int .i64 g.terms) ∧ w'.cell? ⟨w4.heap.size, 2, none⟩ = some (.int .i64 g.start) ∧ w'.cell? ⟨w4.heap.size, 3, none⟩ = some (.slice ao4 g.rules.length cap4))
    (exact keep12 (by assumption) (by assumption))
    (first
      | (go_at_call 7; refine (CA _ _ (ga5.lw (And.left (by assumption)))).mono ?_; rintro e w6 ⟨rfl, hb6⟩; have st6 := Stp.mk hb6; clear hb6)
      | (go_at_call 8; refine (FA _ (hL _ (And.left (by assumption)))).mono ?_; rintro e w7 ⟨rfl, hb7⟩; have st7 := Stp.mk hb7; clear hb7)
      | (go_at_call 9; refine (SA _ _ (hL _ (And.left (by assumption))) (ga5.lw (And.left (by assumption)))).mono ?_; rintro e w8 ⟨rfl, hb8⟩; have st8 := Stp.mk hb8; clear hb8)
      | (go_at_call 11; refine (WA' _ _ (ga5.lw (And.left (by assumption)))).mono ?_; rintro e w10 ⟨v10, rfl, gv10, hb10⟩; have st10 := Stp.mk hb10; clear hb10; have ga10 := gv10.all; clear gv10; obtain ⟨u10, rfl, ra10⟩ := id ga10; obtain ⟨ao10, cap10, rfl⟩ := ra10.slice; clear ra10)
      | (go_at_call 10; refine (SC _ _ (hL _ (And.left (by assumption))) ga10).mono ?_; rintro e w11 ⟨rfl, hb11⟩; have st11 := Stp.mk hb11; clear hb11)
      | (go_at_call 10; refine (SB _ (hL _ (And.left (by assumption)))).mono ?_; rintro e w9 ⟨rfl, hb9⟩; have st9 := Stp.mk hb9; clear hb9)
      | (go_at_call 13; refine (YA' _ _ (ga5.lw (And.left (by assumption)))).mono ?_; rintro e w12 ⟨v12, rfl, own12, hb12⟩; have st12 := Stp.mk hb12; clear hb12; have i12 := IsV_owned (S := All) own12 hBl (fun _ _ => trivial); obtain ⟨ao12, cap12, rfl⟩ := i12.slice; clear own12)
      | (go_at_call 14; refine (RA' _ (hL _ (And.left (by assumption)))).mono ?_; rintro e w13 ⟨v13, rfl, own13, hb13⟩; have st13 := Stp.mk hb13; have i13 := IsV_owned (S := All) own13 hBl (fun _ _ => trivial); have i12' := i12.lw hb13; obtain ⟨ao13, cap13, rfl⟩ := i13.slice; clear own13 hb13)
      | (go_at_call 12; refine (sameInts_any B B _ _ _ i12' i13).mono ?_; rw [show decide (B = B) = true from decide_eq_true rfl]; rintro e w14 ⟨rfl, hb14⟩; have st14 := Stp.mk hb14; clear hb14))
  rename Below W5.heap.size W5 w14 ∧ _ => hS
  obtain ⟨k14, m0, m1, m2, m3, _, _, _, _, n0, n1, n2, n3⟩ := hS
  have b14 := hL _ k14
  have ga14 := ga5.lw k14
  have ra14 := ra5.lw k14
  clear st6 st7 st8 st9 st10 st11 st13 st14 st0 g0 i12 i12' i13 ga10 hL
  go_wp2_with fail
  go_loopw [8] (fun i wr => ∃ k : Nat, k ≤ g.rules.length ∧ i = .int .i64 k ∧ Below w14.heap.size w14 wr) (fun i _ => g.rules.length - (intOf i).toNat)
  case atStart => exact ⟨0, Nat.zero_le _, rfl, Below.refl _ _⟩
  case round =>
    obtain ⟨k, hk, rfl, hb⟩ := hrel
    have bel : Below w.heap.size w wr := bthen b14 hb
    have o3 := bkeep hb n3
    have p3 := bkeep hb m3
    by_cases hlt : k < g.rules.length
    · obtain ⟨b, o, rfl, c0, ar, cr, c1, hc⟩ := (ra14.lw hb).at_ hlt
      obtain ⟨b', o', rfl, d0, ar', cr', d1, hc'⟩ := (ra.lw bel).at_ hlt
      have hxs : g.rules[k].right.length ≤ 100 := HSM.out.2 k hlt
      generalize g.rules[k] = x at *
      have gg0 : Below wr.heap.size wr wr ∧ wr.cell? ⟨w4.heap.size, 3, none⟩ = some (.slice (some ⟨b, o, none⟩) g.rules.length cap4) ∧ wr.cell? ⟨w.heap.size, 3, none⟩ = some (.slice (some ⟨b', o', none⟩) g.rules.length cap) ∧ wr.cell? ⟨b, o + k * 2, none⟩ = some (.int .i64 x.left) ∧ wr.cell? ⟨b, o + k * 2 + 1, none⟩ = some (.slice ar x.right.length cr) ∧ wr.cell? ⟨b', o' + k * 2 + 1, none⟩ = some (.slice ar' x.right.length cr') := ⟨Below.refl _ _, o3, p3, c0, c1, d1⟩
      have st0 : Stp wr wr.drew := ⟨drw1 wr⟩
      have KI := fun w' (hb : Below wr.heap.size wr w') => kids_any x ar cr w' (hc.lw hb) (by omega)
      have KO := fun w' (hb : Below wr.heap.size wr w') => kidsOf_any x.right (.slice ar' x.right.length cr') w' (hc'.lw hb) (by omega)
      have hkl := kidsL_len x.right
      have hKl : (kidsL x.right).length ≤ 9223372036854775807 := by omega
      clear hc hc' d0
      generalize kidsL x.right = B' at *
      go_wp2_with fail
      go_region_held3 (fun w' => Below wr.heap.size wr w' ∧ w'.cell? ⟨w4.heap.size, 3, none⟩ = some (.slice (some ⟨b, o, none⟩) g.rules.length cap4) ∧ w'.cell? ⟨w.heap.size, 3, none⟩ = some (.slice (some ⟨b', o', none⟩) g.rules.length cap) ∧ w'.cell? ⟨b, o + k * 2, none⟩ = some (.int .i64 x.left) ∧ w'.cell? ⟨b, o + k * 2 + 1, none⟩ = some (.slice ar x.right.length cr) ∧ w'.cell? ⟨b', o' + k * 2 + 1, none⟩ = some (.slice ar' x.right.length cr'))
        (exact keep5 (by assumption) (by assumption))
        (first
          | (go_at_call 15; refine (KI _ (And.left (by assumption))).mono ?_; rintro e w15 ⟨v15, rfl, own15, hb15⟩; have st15 := Stp.mk hb15; clear hb15; have i15 := IsV_owned (S := All) own15 hKl (fun _ _ => trivial); obtain ⟨ao15, cap15, rfl⟩ := i15.slice; clear own15)
          | (go_at_call 16; refine (KO _ (And.left (by assumption))).mono ?_; rintro e w16 ⟨v16, rfl, own16, hb16⟩; have st16 := Stp.mk hb16; have i16 := IsV_owned (S := All) own16 hKl (fun _ _ => trivial); have i15' := i15.lw hb16; obtain ⟨ao16, cap16, rfl⟩ := i16.slice; clear own16 hb16)
          | (go_at_call 12; refine (sameInts_any B' B' _ _ _ i15' i16).mono ?_; rw [show decide (B' = B') = true from decide_eq_true rfl]; rintro e w17 ⟨rfl, hb17⟩; have st17 := Stp.mk hb17; clear hb17))
      rename Below wr.heap.size wr w17 ∧ _ => hS
      have bz := bthen hb hS.1
      go_wp2_with fail
      go_roundw
      case rel => exact ⟨k + 1, by omega, by go_num, bz⟩
      case measure => simp [intOf]; omega
    · have q0 := bkeep hb n0
      have q1 := bkeep hb n1
      have q2 := bkeep hb n2
      have r0 := bkeep hb m0
      have r1 := bkeep hb m1
      have r2 := bkeep hb m2
      have SZ := SC wr _ bel (ga14.lw hb)
      go_wp2_with fail
      refine SZ.mono ?_
      rintro e w18 ⟨rfl, k18⟩
      have b18 := bthen bel k18
      go_wp2_with fail
      go_ret
      exact ⟨rfl, b18⟩

set_option maxRecDepth 100000 in
theorem lifted (os : Os) (started : os.Started) (H : Type) (enc : TypeId × Value → H) :
    ReturnsInHanded {} Try.checked os 3 .any (Rows.gramDoesSpec.pre6 enc Try.prog Try.f3 Rows.gramDoesRow.domain false) (Rows.gramDoesSpec.post enc Try.prog Try.f3 false true false false) := by
  refine returnsInHanded_of_change (C := Try.checked) own started (by kernel_rfl) Try.func3
    (ChangeSpec.witness6 (enc := enc) (C := Try.checked) false ⟨#[], #[.agg #[.int .i64 0, .int .i64 0, .int .i64 0, .slice none 0 0], .agg #[.int .i64 0, .int .i64 0, .int .i64 0, .slice none 0 0], .int .i64 0], []⟩ 8 (by kernel_rfl) (by kernel_rfl) (by kernel_rfl) (by kernel_rfl)) ?_
  intro W base args ds gs before hval0 hW hcnd _
  have hval : ∀ (j : Nat) t v, Try.f3.params[j]? = some t → args[j]? = some v → Value.okWide Try.prog W .any base t v := hval0
  have hW' := hW
  obtain ⟨p, q, hA0, hV, rfl, hfz, hnd⟩ := hW
  have hA : DataW.TrodAll enc Try.prog W 0 (fun _ => true) true Try.f3.params.toList args.toList ds p := hA0
  rw [Try.params3] at hA hval
  obtain ⟨v0, vs0, d0, ds0, p0, q0, hargs, rfl, rfl, h0, r0⟩ := trodAll_cons hA
  obtain ⟨v1, vs1, d1, ds1, p1, q1, rfl, rfl, rfl, h1, r1⟩ := trodAll_cons r0
  obtain ⟨v2, vs2, d2, ds2, p2, q2, rfl, rfl, rfl, h2, r2⟩ := trodAll_cons r1
  obtain ⟨rfl, rfl, rfl⟩ := trodAll_nil r2
  obtain rfl : args = #[v0, v1, v2] := by cases args; simp_all
  obtain ⟨rfl, rfl⟩ := trodVars_none hV
  have k0 := h0
  have k1 := h1
  have k2 := h2
  have lt0 : ∀ x ∈ p0, x.block < W.heap.size := by obtain ⟨m, hm⟩ := k0; exact DataW.trod_lt m _ _ _ hm
  have lt1 : ∀ x ∈ p1, x.block < W.heap.size := by obtain ⟨m, hm⟩ := k1; exact DataW.trod_lt m _ _ _ hm
  have lt2 : ∀ x ∈ p2, x.block < W.heap.size := by obtain ⟨m, hm⟩ := k2; exact DataW.trod_lt m _ _ _ hm
  obtain ⟨g, hg⟩ := open_gram (hval 0 24 v0 rfl rfl) h0
  obtain ⟨h, hh⟩ := open_gram (hval 1 24 v1 rfl rfl) h1
  obtain ⟨n, rfl⟩ := okWide_int Try.underlying3 (hval 2 3 v2 rfl rfl)
  clear hA0 hval0
  refine (walk g h n v0 v1 W hg hh).mono fun e W' ⟨he, bel⟩ => ?_
  subst he
  exact ⟨_, rfl, _, _, _, [], _, [], hW', trodAll_mk1 (shut_bool Try.underlying4 _), (trodAll_cons_mk (Below.trod laidOut (by kernel_rfl) (of_decide_eq_true (by kernel_rfl)) k0 bel lt0) (trodAll_cons_mk (Below.trod laidOut (by kernel_rfl) (of_decide_eq_true (by kernel_rfl)) k1 bel lt1) (trodAll_cons_mk (Below.trod laidOut (by kernel_rfl) (of_decide_eq_true (by kernel_rfl)) k2 bel lt2) trodAll_mk0))), rfl, bel.frame _, fun h => by cases h⟩

theorem stands : Rows.gramDoesRow.holds Try.pinned (OpenSpec.ofChange Rows.gramDoesSpec) :=
  OpenClaim.holds_of_wide 3 Try.f3 rfl rfl rfl rfl rfl rfl rfl ⟨rfl, rfl, rfl, rfl, rfl⟩ rfl rfl rfl rfl rfl (by kernel_rfl) Try.func3 (by kernel_rfl)
    (of_decide_eq_true (by kernel_rfl)) (by unfold Func.isWrapper; first | (rw [if_pos (by decide +kernel)]; kernel_rfl) | (rw [if_neg (by decide +kernel)]; exact ⟨rfl, rfl⟩))
    (fun os started H enc _ => lifted os started H enc)

theorem proved : Rows.GramDoesSaid := stands
#print axioms proved
end Go.Proofs.Ytokenfemloohaac.gramDoes
