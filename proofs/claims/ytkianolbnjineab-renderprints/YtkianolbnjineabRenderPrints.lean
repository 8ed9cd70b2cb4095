/- Proved: for every text RenderPrints returns true (render.Print answers as the document's own functions do: the same text, or the same fault), and the text reads as before. No condition. -/
import Derived.Test.YtkianolbnjineabRl
import Derived.Test.YtkianolbnjineabOt
import Derived.Test.YtkianolbnjineabOpen
import Derived.Test.YtkianolbnjineabRows
import Derived.ProofKit
import Derived.OpenShut
import Derived.ShutString
import Derived.ChangeOld
namespace Go.Proofs.Ytkianolbnjineab.renderPrints
open Go.Proofs.Ytkianolbnjineab
open Go.ChangeShapes Go.WideShapes Go.ChangeAt Go.RowKit

theorem own : ownKnob Try.prog.godebug = none := by kernel_rfl
theorem laidOut : laidOutB Try.prog = true := by kernel_rfl
set_option maxRecDepth 100000 in
set_option maxHeartbeats 1000000 in
theorem walk (ds : List Df) (va : Value) (w : World) (hA : DsV w All va ds) :
    Calls Try.prog 3 #[.agg #[va]] w fun e w' => e = .returned (.bool true) ∧ Below w.heap.size w w' := by
  have GA := fun w' (hb : Below w.heap.size w w') => grt_all ds va w' (hA.lw hb)
  have RA := fun w' (hb : Below w.heap.size w w') => rfault_any ds va w' (hA.lw hb)
  have OA := fun w' (hb : Below w.heap.size w w') => ownT_any ds va w' (hA.lw hb)
  have PA := fun w' vb hB => print_any ds vb w' hB
  have TA : Hid (∀ w', Below w.heap.size w w' → (rflt ds).1 = 0 → Calls Try.prog 12 #[.agg #[va]] w' fun e w'' => e = .returned (.string (pstr ds)) ∧ Below w'.heap.size w' w'') := hd (fun w' hb h => by
    obtain ⟨hf, _⟩ := rflt_zero h
    rw [pstr_fine hf]
    exact textOf_any ds va w' (hA.lw hb) hf.all (by have := hf.len; omega))
  have hpe := hd (fun h => @pstr_bad ds h)
  generalize rflt ds = R at *
  obtain ⟨R1, R2⟩ := R
  simp only at PA RA TA hpe
  generalize pstr ds = S at *
  obtain ⟨hl, ao, cap, rfl, _⟩ := hA
  go_enter Try.func3, Try.ntmps3
  go_wp2_with fail
  refine (rbegun_any _).mono ?_
  rintro e w1 ⟨rfl, hb1⟩
  have e0 : w1.cell? ⟨w.heap.size, 0, none⟩ = some (.slice ao ds.length cap) := bkeep hb1 (by simp)
  have bel1 : Below w.heap.size w w1 := (al1 _ _).trans (hb1.mono (by simp))
  clear hb1
  go_wp2_with fail
  refine (GA _ bel1).mono ?_
  rintro e w2 ⟨q, rfl, hq, hb2⟩
  have bel2 : Below w.heap.size w w2 := bel1.trans (hb2.mono bel1.size)
  have f0 := bkeep hb2 e0
  cases q with
  | true =>
    go_wp2_with fail
    go_ret
    exact ⟨rfl, bel2⟩
  | false =>
  obtain ⟨h60, hsz⟩ := hq rfl
  clear GA hq hb2 e0
  have HSZ := hd hsz
  have H60 := hd h60
  clear hsz h60
  go_wp2_with fail
  refine (RA _ bel2 HSZ.out).mono ?_
  rintro e w3 ⟨rfl, hb3⟩
  have g0 := bkeepB hb3 f0 (.cells #[.int .i64 R1, .int .i64 R2] 28)
  have c0 : (w3.alloc (.cells #[.int .i64 R1, .int .i64 R2] 28)).cell? ⟨w3.heap.size, 0, none⟩ = some (.int .i64 R1) := by simp
  have c1 : (w3.alloc (.cells #[.int .i64 R1, .int .i64 R2] 28)).cell? ⟨w3.heap.size, 1, none⟩ = some (.int .i64 R2) := by simp
  have bel3 : Below w.heap.size w (w3.alloc (.cells #[.int .i64 R1, .int .i64 R2] 28)) := (bel2.trans (hb3.mono bel2.size)).trans ((al1 _ _).mono (by have := bel2.size; have := hb3.size; omega))
  clear RA hb3 f0
  go_wp2_with fail
  refine (OA _ bel3 H60.out (fun d hd => (HSZ.out d hd).1)).mono ?_
  rintro e w4 ⟨v4, rfl, hd4, hb4⟩
  have hd4' : DsV w4 All v4 ds := hd4.mono fun _ _ _ _ h => ⟨trivial, h⟩
  clear hd4
  obtain ⟨_, ao4, cap4, rfl, _⟩ := id hd4'
  have k0 := bkeep hb4 g0
  have d0 := bkeep hb4 c0
  have d1 := bkeep hb4 c1
  have bel4 : Below w.heap.size w w4 := bel3.trans (hb4.mono bel3.size)
  have PR := PA w4 _ hd4' (fun d hd => (HSZ.out d hd).2)
  clear OA PA hb4 g0 c0 c1
  go_wp2_with fail
  refine PR.mono ?_
  rintro e w5 ⟨rfl, hb5⟩
  have m0 := bkeepB hb5 k0 (.cells #[.int .i64 R1, .int .i64 R2] 28)
  have p0 := bkeepB hb5 d0 (.cells #[.int .i64 R1, .int .i64 R2] 28)
  have p1 := bkeepB hb5 d1 (.cells #[.int .i64 R1, .int .i64 R2] 28)
  have bel5 : Below w.heap.size w (w5.alloc (.cells #[.int .i64 R1, .int .i64 R2] 28)) := (bel4.trans (hb5.mono bel4.size)).trans ((al1 _ _).mono (by have := bel4.size; have := hb5.size; omega))
  clear PR hb5 k0 d0 d1
  by_cases hR : R1 = 0
  · have TT := TA.out _ bel5 hR
    subst hR
    clear TA hpe
    go_wp2_with fail
    refine TT.mono ?_
    rintro e w6 ⟨rfl, hb6⟩
    go_wp2_with fail
    go_ret
    exact ⟨ret_bool (by simp), bel5.trans (hb6.mono bel5.size)⟩
  · have hS := hpe.out hR
    subst hS
    have hRb : (R1 != 0) = true := by simpa using hR
    clear TA hpe
    go_wp2_with fail
    go_ret
    exact ⟨ret_bool (by simp), bel5⟩

set_option maxRecDepth 100000 in
theorem lifted (os : Os) (started : os.Started) (H : Type) (enc : TypeId × Value → H) :
    ReturnsInHanded {} Try.checked os 3 .any (Rows.renderPrintsSpec.pre6 enc Try.prog Try.f3 Rows.renderPrintsRow.domain false) (Rows.renderPrintsSpec.post enc Try.prog Try.f3 false true false false) := by
  refine returnsInHanded_of_change (C := Try.checked) own started (by kernel_rfl) Try.func3
    (ChangeSpec.witness6 (enc := enc) (C := Try.checked) false ⟨#[], #[.agg #[.slice none 0 0]], []⟩ 8 (by kernel_rfl) (by kernel_rfl) (by kernel_rfl) (by kernel_rfl)) ?_
  intro W base args ds gs before hval0 hW hcnd _
  have hval : ∀ (j : Nat) t v, Try.f3.params[j]? = some t → args[j]? = some v → Value.okWide Try.prog W .any base t v := hval0
  have hW' := hW
  obtain ⟨p, q, hA0, hV, rfl, hfz, hnd⟩ := hW
  have hA : DataW.TrodAll enc Try.prog W 0 (fun _ => true) true Try.f3.params.toList args.toList ds p := hA0
  rw [Try.params3] at hA hval
  obtain ⟨v0, vs0, d0, ds0, p0, q0, hargs, rfl, rfl, h0, r0⟩ := trodAll_cons hA
  obtain ⟨rfl, rfl, rfl⟩ := trodAll_nil r0
  obtain rfl : args = #[v0] := by cases args; simp_all
  obtain ⟨rfl, rfl⟩ := trodVars_none hV
  have k0 := h0
  have lt0 : ∀ x ∈ p0, x.block < W.heap.size := by obtain ⟨m, hm⟩ := k0; exact DataW.trod_lt m _ _ _ hm
  obtain ⟨xs, ua, rfl, hxs⟩ := open_text (hval 0 24 v0 rfl rfl) h0
  clear hA0 hval0
  refine (walk xs ua W hxs).mono fun e W' ⟨he, bel⟩ => ?_
  subst he
  exact ⟨_, rfl, _, _, _, [], _, [], hW', trodAll_mk1 (shut_bool Try.underlying4 _), (trodAll_cons_mk (Below.trod laidOut (by kernel_rfl) (of_decide_eq_true (by kernel_rfl)) k0 bel lt0) trodAll_mk0), rfl, bel.frame _, fun h => by cases h⟩

theorem stands : Rows.renderPrintsRow.holds Try.pinned (OpenSpec.ofChange Rows.renderPrintsSpec) :=
  OpenClaim.holds_of_wide 3 Try.f3 rfl rfl rfl rfl rfl rfl rfl ⟨rfl, rfl, rfl, rfl, rfl⟩ rfl rfl rfl rfl rfl (by kernel_rfl) Try.func3 (by kernel_rfl)
    (of_decide_eq_true (by kernel_rfl)) (by unfold Func.isWrapper; first | (rw [if_pos (by decide +kernel)]; kernel_rfl) | (rw [if_neg (by decide +kernel)]; exact ⟨rfl, rfl⟩))
    (fun os started H enc _ => lifted os started H enc)

theorem proved : Rows.RenderPrintsSaid := stands
#print axioms proved
end Go.Proofs.Ytkianolbnjineab.renderPrints
