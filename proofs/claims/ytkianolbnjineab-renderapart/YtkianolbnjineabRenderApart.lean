/- Proved: for every two texts RenderApart returns true (two that may be printed are the same just if their texts are), and both texts read as before. No condition. -/
import Derived.Test.YtkianolbnjineabRl
import Derived.Test.YtkianolbnjineabOpen
import Derived.Test.YtkianolbnjineabRows
import Derived.ProofKit
import Derived.OpenShut
import Derived.ShutString
import Derived.ChangeOld
namespace Go.Proofs.Ytkianolbnjineab.renderApart
open Go.Proofs.Ytkianolbnjineab
open Go.ChangeShapes Go.WideShapes Go.ChangeAt Go.RowKit

theorem own : ownKnob Try.prog.godebug = none := by kernel_rfl
theorem laidOut : laidOutB Try.prog = true := by kernel_rfl
set_option maxRecDepth 100000 in
set_option maxHeartbeats 1000000 in
theorem walk (ds es : List Df) (va vb : Value) (w : World) (hA : DsV w All va ds) (hB : DsV w All vb es) :
    Calls Try.prog 5 #[.agg #[va], .agg #[vb]] w fun e w' => e = .returned (.bool true) ∧ Below w.heap.size w w' := by
  have GA := fun w' (hb : Below w.heap.size w w') => grt_any ds va w' (hA.lw hb)
  have GB := fun w' (hb : Below w.heap.size w w') => grt_any es vb w' (hB.lw hb)
  have PA := fun w' (hb : Below w.heap.size w w') => print_any ds va w' (hA.lw hb)
  have PB := fun w' (hb : Below w.heap.size w w') => print_any es vb w' (hB.lw hb)
  have SA := fun w' (hb : Below w.heap.size w w') => same_text ds es va vb w' (hA.lw hb) (hB.lw hb)
  have hst : Hid ((rflt ds).1 = 0 → (rflt es).1 = 0 → ((pstr ds).toList == (pstr es).toList) = smB false ds es) := hd (fun h1 h2 => by
    have f1 := (rflt_zero h1).1
    have f2 := (rflt_zero h2).1
    rw [beq_str, pstr_fine f1, pstr_fine f2]; exact f1.apart f2)
  generalize rflt ds = R at *
  generalize rflt es = Q at *
  obtain ⟨R1, R2⟩ := R
  obtain ⟨Q1, Q2⟩ := Q
  simp only at PA PB hst
  generalize pstr ds = S at *
  generalize pstr es = T at *
  generalize smB false ds es = B at *
  obtain ⟨hl, ao, cap, rfl, _⟩ := hA
  obtain ⟨hl', ao', cap', rfl, _⟩ := hB
  go_enter Try.func5, Try.ntmps5
  go_wp2_with fail
  refine (rbegun_any _).mono ?_
  rintro e w1 ⟨rfl, hb1⟩
  have e0 : w1.cell? ⟨w.heap.size, 0, none⟩ = some (.slice ao ds.length cap) := bkeep hb1 (by simp)
  have e1 : w1.cell? ⟨w.heap.size + 1, 0, none⟩ = some (.slice ao' es.length cap') := bkeep hb1 (by simp)
  have bel1 : Below w.heap.size w w1 := (al2 _ _ _).trans (hb1.mono (by simp; omega))
  clear hb1
  go_wp2_with fail
  refine (GA _ bel1).mono ?_
  rintro e w2 ⟨q, rfl, hq, hb2⟩
  have bel2 : Below w.heap.size w w2 := bel1.trans (hb2.mono bel1.size)
  have f0 := bkeep hb2 e0
  have f1 := bkeep hb2 e1
  cases q with
  | true =>
    go_wp2_with fail
    go_ret
    exact ⟨rfl, bel2⟩
  | false =>
  have hsh := fun d hd => (hq rfl d hd).2
  clear GA hq hb2 e0 e1
  go_wp2_with fail
  refine (GB _ bel2).mono ?_
  rintro e w3 ⟨q, rfl, hq, hb3⟩
  have bel3 : Below w.heap.size w w3 := bel2.trans (hb3.mono bel2.size)
  have g0 := bkeep hb3 f0
  have g1 := bkeep hb3 f1
  cases q with
  | true =>
    go_wp2_with fail
    go_ret
    exact ⟨rfl, bel3⟩
  | false =>
  have hsh' := fun d hd => (hq rfl d hd).2
  clear GB hq hb3 f0 f1
  go_wp2_with fail
  refine (PA _ bel3 hsh).mono ?_
  rintro e w4 ⟨rfl, hb4⟩
  have h0 := bkeepB hb4 g0 (.cells #[.int .i64 R1, .int .i64 R2] 28)
  have h1 := bkeepB hb4 g1 (.cells #[.int .i64 R1, .int .i64 R2] 28)
  have bel4 : Below w.heap.size w (w4.alloc (.cells #[.int .i64 R1, .int .i64 R2] 28)) := (bel3.trans (hb4.mono bel3.size)).trans ((al1 _ _).mono (by have := bel3.size; have := hb4.size; omega))
  have c0 : (w4.alloc (.cells #[.int .i64 R1, .int .i64 R2] 28)).cell? ⟨w4.heap.size, 0, none⟩ = some (.int .i64 R1) := by simp
  clear hb4 g0 g1 PA
  go_wp2_with fail
  refine (PB _ bel4 hsh').mono ?_
  rintro e w5 ⟨rfl, hb5⟩
  have k0 := bkeepB hb5 h0 (.cells #[.int .i64 Q1, .int .i64 Q2] 28)
  have k1 := bkeepB hb5 h1 (.cells #[.int .i64 Q1, .int .i64 Q2] 28)
  have c1 := bkeepB hb5 c0 (.cells #[.int .i64 Q1, .int .i64 Q2] 28)
  have bel5 : Below w.heap.size w (w5.alloc (.cells #[.int .i64 Q1, .int .i64 Q2] 28)) := (bel4.trans (hb5.mono bel4.size)).trans ((al1 _ _).mono (by have := bel4.size; have := hb5.size; omega))
  clear hb5 h0 h1 c0 PB
  by_cases hR : R1 = 0
  · by_cases hQ : Q1 = 0
    · have hs := hst.out hR hQ
      subst hR hQ
      clear hst
      have SS := SA _ bel5
      go_wp2_with fail
      refine SS.mono ?_
      rintro e w6 ⟨rfl, hb6⟩
      go_wp2_with fail
      go_ret
      exact ⟨ret_bool (by cases B <;> rfl), bel5.trans (hb6.mono bel5.size)⟩
    · subst hR
      have hQb : (Q1 != 0) = true := by simpa using hQ
      go_wp2_with fail
      go_ret
      exact ⟨rfl, bel5⟩
  · have hRb : (R1 != 0) = true := by simpa using hR
    go_wp2_with fail
    go_ret
    exact ⟨rfl, bel5⟩

set_option maxRecDepth 100000 in
theorem lifted (os : Os) (started : os.Started) (H : Type) (enc : TypeId × Value → H) :
    ReturnsInHanded {} Try.checked os 5 .any (Rows.renderApartSpec.pre6 enc Try.prog Try.f5 Rows.renderApartRow.domain false) (Rows.renderApartSpec.post enc Try.prog Try.f5 false true false false) := by
  refine returnsInHanded_of_change (C := Try.checked) own started (by kernel_rfl) Try.func5
    (ChangeSpec.witness6 (enc := enc) (C := Try.checked) false ⟨#[], #[.agg #[.slice none 0 0], .agg #[.slice none 0 0]], []⟩ 8 (by kernel_rfl) (by kernel_rfl) (by kernel_rfl) (by kernel_rfl)) ?_
  intro W base args ds gs before hval0 hW hcnd _
  have hval : ∀ (j : Nat) t v, Try.f5.params[j]? = some t → args[j]? = some v → Value.okWide Try.prog W .any base t v := hval0
  have hW' := hW
  obtain ⟨p, q, hA0, hV, rfl, hfz, hnd⟩ := hW
  have hA : DataW.TrodAll enc Try.prog W 0 (fun _ => true) true Try.f5.params.toList args.toList ds p := hA0
  rw [Try.params5] at hA hval
  obtain ⟨v0, vs0, d0, ds0, p0, q0, hargs, rfl, rfl, h0, r0⟩ := trodAll_cons hA
  obtain ⟨v1, vs1, d1, ds1, p1, q1, rfl, rfl, rfl, h1, r1⟩ := trodAll_cons r0
  obtain ⟨rfl, rfl, rfl⟩ := trodAll_nil r1
  obtain rfl : args = #[v0, v1] := by cases args; simp_all
  obtain ⟨rfl, rfl⟩ := trodVars_none hV
  have k0 := h0
  have k1 := h1
  have lt0 : ∀ x ∈ p0, x.block < W.heap.size := by obtain ⟨m, hm⟩ := k0; exact DataW.trod_lt m _ _ _ hm
  have lt1 : ∀ x ∈ p1, x.block < W.heap.size := by obtain ⟨m, hm⟩ := k1; exact DataW.trod_lt m _ _ _ hm
  obtain ⟨xs, ua, rfl, hxs⟩ := open_text (hval 0 24 v0 rfl rfl) h0
  obtain ⟨ys, ub, rfl, hys⟩ := open_text (hval 1 24 v1 rfl rfl) h1
  clear hA0 hval0
  refine (walk xs ys ua ub W hxs hys).mono fun e W' ⟨he, bel⟩ => ?_
  subst he
  exact ⟨_, rfl, _, _, _, [], _, [], hW', trodAll_mk1 (shut_bool Try.underlying4 _), (trodAll_cons_mk (Below.trod laidOut (by kernel_rfl) (of_decide_eq_true (by kernel_rfl)) k0 bel lt0) (trodAll_cons_mk (Below.trod laidOut (by kernel_rfl) (of_decide_eq_true (by kernel_rfl)) k1 bel lt1) trodAll_mk0)), rfl, bel.frame _, fun h => by cases h⟩

theorem stands : Rows.renderApartRow.holds Try.pinned (OpenSpec.ofChange Rows.renderApartSpec) :=
  OpenClaim.holds_of_wide 5 Try.f5 rfl rfl rfl rfl rfl rfl rfl ⟨rfl, rfl, rfl, rfl, rfl⟩ rfl rfl rfl rfl rfl (by kernel_rfl) Try.func5 (by kernel_rfl)
    (of_decide_eq_true (by kernel_rfl)) (by unfold Func.isWrapper; first | (rw [if_pos (by decide +kernel)]; kernel_rfl) | (rw [if_neg (by decide +kernel)]; exact ⟨rfl, rfl⟩))
    (fun os started H enc _ => lifted os started H enc)

theorem proved : Rows.RenderApartSaid := stands
#print axioms proved
end Go.Proofs.Ytkianolbnjineab.renderApart
