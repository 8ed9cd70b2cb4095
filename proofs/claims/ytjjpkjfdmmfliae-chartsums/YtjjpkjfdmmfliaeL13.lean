/- Proved: for every two numbers ChartSums returns true (of two numbers from 0 to Many chart.Plus and chart.Times answer as the document's own functions do; of others they answer, too). No condition. -/
import Derived.Test.YtjjpkjfdmmfliaeL12
import Derived.Test.YtjjpkjfdmmfliaeL04
import Derived.Test.YtjjpkjfdmmfliaeRows
import Derived.ProofKit
import Derived.OpenShut
import Derived.ShutString
import Derived.ChangeOld
namespace Go.Proofs.Ytjjpkjfdmmfliae.chartSums
open Go.Proofs.Ytjjpkjfdmmfliae Go.Proofs.Ytjjpkjfdmmfliae.G
open Go.ChangeShapes Go.WideShapes Go.ChangeAt Go.RowKit

theorem own : ownKnob Try.prog.godebug = none := by kernel_rfl
theorem laidOut : laidOutB Try.prog = true := by kernel_rfl

set_option maxRecDepth 100000 in
set_option maxHeartbeats 4000000 in
theorem walk (a b : Int) (w : World) :
    Calls Try.prog 4 #[.int .i64 a, .int .i64 b] w fun e w' => e = .returned (.bool true) ∧ Below w.heap.size w w' := by
  by_cases h : a < 0 ∨ b < 0 ∨ 4611686018427387904 < a ∨ 4611686018427387904 < b
  · have PA := fun u => plus_any a b u
    have TA := fun u => times_any a b u
    have key : ∀ q : Nat, True := fun _ => trivial
    by_cases h1 : a < 0
    · have d1 : decide (a < 0) = true := decide_eq_true h1
      clear h
      go_enter Try.func4, Try.ntmps4
      go_wp2_with fail
      refine (chartBegun_any _).mono ?_
      rintro e w1 ⟨rfl, hb1⟩
      go_wp2_with fail
      refine (PA _).mono ?_
      rintro e wx ⟨⟨n1, rfl, _⟩, hwx⟩
      obtain rfl := hwx.symm
      go_wp2_with fail
      refine (TA _).mono ?_
      rintro e wx ⟨⟨n2, rfl, _⟩, hwx⟩
      obtain rfl := hwx.symm
      go_wp2_with fail
      go_ret
      exact ⟨rfl, hb1⟩
    have d1 : decide (a < 0) = false := decide_eq_false h1
    by_cases h2 : b < 0
    · have d2 : decide (b < 0) = true := decide_eq_true h2
      clear h
      go_enter Try.func4, Try.ntmps4
      go_wp2_with fail
      refine (chartBegun_any _).mono ?_
      rintro e w1 ⟨rfl, hb1⟩
      go_wp2_with fail
      refine (PA _).mono ?_
      rintro e wx ⟨⟨n1, rfl, _⟩, hwx⟩
      obtain rfl := hwx.symm
      go_wp2_with fail
      refine (TA _).mono ?_
      rintro e wx ⟨⟨n2, rfl, _⟩, hwx⟩
      obtain rfl := hwx.symm
      go_wp2_with fail
      go_ret
      exact ⟨rfl, hb1⟩
    have d2 : decide (b < 0) = false := decide_eq_false h2
    by_cases h3 : 4611686018427387904 < a
    · have d3 : decide (4611686018427387904 < a) = true := decide_eq_true h3
      clear h
      go_enter Try.func4, Try.ntmps4
      go_wp2_with fail
      refine (chartBegun_any _).mono ?_
      rintro e w1 ⟨rfl, hb1⟩
      go_wp2_with fail
      refine (PA _).mono ?_
      rintro e wx ⟨⟨n1, rfl, _⟩, hwx⟩
      obtain rfl := hwx.symm
      go_wp2_with fail
      refine (TA _).mono ?_
      rintro e wx ⟨⟨n2, rfl, _⟩, hwx⟩
      obtain rfl := hwx.symm
      go_wp2_with fail
      go_ret
      exact ⟨rfl, hb1⟩
    have d3 : decide (4611686018427387904 < a) = false := decide_eq_false h3
    have h4 : 4611686018427387904 < b := by omega
    have d4 : decide (4611686018427387904 < b) = true := decide_eq_true h4
    clear h
    go_enter Try.func4, Try.ntmps4
    go_wp2_with fail
    refine (chartBegun_any _).mono ?_
    rintro e w1 ⟨rfl, hb1⟩
    go_wp2_with fail
    refine (PA _).mono ?_
    rintro e wx ⟨⟨n1, rfl, _⟩, hwx⟩
    obtain rfl := hwx.symm
    go_wp2_with fail
    refine (TA _).mono ?_
    rintro e wx ⟨⟨n2, rfl, _⟩, hwx⟩
    obtain rfl := hwx.symm
    go_wp2_with fail
    go_ret
    exact ⟨rfl, hb1⟩
  · have r : (0 ≤ a ∧ a ≤ 4611686018427387904) ∧ (0 ≤ b ∧ b ≤ 4611686018427387904) := by omega
    have d1 : decide (a < 0) = false := decide_eq_false (by omega)
    have d2 : decide (b < 0) = false := decide_eq_false (by omega)
    have d3 : decide (4611686018427387904 < a) = false := decide_eq_false (by omega)
    have d4 : decide (4611686018427387904 < b) = false := decide_eq_false (by omega)
    have n1 : ¬ a < 0 := by omega
    have n2 : ¬ b < 0 := by omega
    have n3 : ¬ 4611686018427387904 < a := by omega
    have n4 : ¬ 4611686018427387904 < b := by omega
    have PA := fun u => plus_in (a := a) (b := b) u r.1.1 r.1.2 r.2.1 r.2.2
    have TA := fun u => times_in (a := a) (b := b) u r.1.1 r.1.2 r.2.1 r.2.2
    have SA := fun u => sum_any a b 4611686018427387904 u r.1.1 r.2.1 (by omega) (by omega) r.1.2 r.2.2
    have QA := fun u => product_any a b 4611686018427387904 u r.1.1 r.2.1 (by omega) (by omega) r.1.2 r.2.2
    clear h r
    generalize smI a b 4611686018427387904 = x at *
    generalize prI a b 4611686018427387904 = y at *
    go_enter Try.func4, Try.ntmps4
    go_wp2_with fail
    refine (chartBegun_any _).mono ?_
    rintro e w1 ⟨rfl, hb1⟩
    go_wp2_with fail
    refine (PA _).mono ?_
    rintro e wx ⟨rfl, hwx⟩
    obtain rfl := hwx.symm
    go_wp2_with fail
    refine (SA _).mono ?_
    rintro e wx ⟨rfl, hwx⟩
    obtain rfl := hwx.symm
    go_wp2_with fail
    refine (TA _).mono ?_
    rintro e wx ⟨rfl, hwx⟩
    obtain rfl := hwx.symm
    go_wp2_with fail
    refine (QA _).mono ?_
    rintro e wx ⟨rfl, hwx⟩
    obtain rfl := hwx.symm
    go_wp2_with fail
    go_ret
    exact ⟨by first | rfl | exact ret_bool (by simp), hb1⟩

set_option maxRecDepth 100000 in
theorem lifted (os : Os) (started : os.Started) (H : Type) (enc : TypeId × Value → H) :
    ReturnsInHanded {} Try.checked os 4 .any (Rows.chartSumsSpec.pre6 enc Try.prog Try.f4 Rows.chartSumsRow.domain false) (Rows.chartSumsSpec.post enc Try.prog Try.f4 false true false false) := by
  refine returnsInHanded_of_change (C := Try.checked) own started (by kernel_rfl) Try.func4
    (ChangeSpec.witness6 (enc := enc) (C := Try.checked) false ⟨#[], #[.int .i64 0, .int .i64 0], []⟩ 8 (by kernel_rfl) (by kernel_rfl) (by kernel_rfl) (by kernel_rfl)) ?_
  intro W base args ds gs before hval0 hW hcnd _
  have hval : ∀ (j : Nat) t v, Try.f4.params[j]? = some t → args[j]? = some v → Value.okWide Try.prog W .any base t v := hval0
  have hW' := hW
  obtain ⟨p, q, hA0, hV, rfl, hfz, hnd⟩ := hW
  have hA : DataW.TrodAll enc Try.prog W 0 (fun _ => true) true Try.f4.params.toList args.toList ds p := hA0
  rw [Try.params4] at hA hval
  obtain ⟨v0, vs0, d0, ds0, p0, q0, hargs, rfl, rfl, h0, r0⟩ := trodAll_cons hA
  obtain ⟨v1, vs1, d1, ds1, p1, q1, rfl, rfl, rfl, h1, r1⟩ := trodAll_cons r0
  obtain ⟨rfl, rfl, rfl⟩ := trodAll_nil r1
  obtain rfl : args = #[v0, v1] := by cases args; simp_all
  obtain ⟨rfl, rfl⟩ := trodVars_none hV
  have k0 := h0
  have k1 := h1
  have lt0 : ∀ x ∈ p0, x.block < W.heap.size := by obtain ⟨m, hm⟩ := k0; exact DataW.trod_lt m _ _ _ hm
  have lt1 : ∀ x ∈ p1, x.block < W.heap.size := by obtain ⟨m, hm⟩ := k1; exact DataW.trod_lt m _ _ _ hm
  obtain ⟨a, rfl⟩ := okWide_int Try.underlying3 (hval 0 3 v0 rfl rfl)
  obtain ⟨b, rfl⟩ := okWide_int Try.underlying3 (hval 1 3 v1 rfl rfl)
  clear hA0 hval0
  refine (walk a b  W ).mono fun e W' ⟨he, bel⟩ => ?_
  subst he
  exact ⟨_, rfl, _, _, _, [], _, [], hW', trodAll_mk1 (shut_bool Try.underlying4 _), (trodAll_cons_mk (Below.trod laidOut (by kernel_rfl) (of_decide_eq_true (by kernel_rfl)) k0 bel lt0) (trodAll_cons_mk (Below.trod laidOut (by kernel_rfl) (of_decide_eq_true (by kernel_rfl)) k1 bel lt1) trodAll_mk0)), rfl, bel.frame _, fun h => by cases h⟩

theorem stands : Rows.chartSumsRow.holds Try.pinned (OpenSpec.ofChange Rows.chartSumsSpec) :=
  OpenClaim.holds_of_wide 4 Try.f4 rfl rfl rfl rfl rfl rfl rfl ⟨rfl, rfl, rfl, rfl, rfl⟩ rfl rfl rfl rfl rfl (by kernel_rfl) Try.func4 (by kernel_rfl)
    (of_decide_eq_true (by kernel_rfl)) (by unfold Func.isWrapper; first | (rw [if_pos (by decide +kernel)]; kernel_rfl) | (rw [if_neg (by decide +kernel)]; exact ⟨rfl, rfl⟩))
    (fun os started H enc _ => lifted os started H enc)

theorem proved : Rows.ChartSumsSaid := stands
#print axioms proved
end Go.Proofs.Ytjjpkjfdmmfliae.chartSums
