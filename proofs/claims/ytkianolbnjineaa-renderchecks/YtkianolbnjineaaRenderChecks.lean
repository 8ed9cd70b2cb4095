/- Proved: for every text RenderChecks returns true (render.Check answers as the document's own function does, and what it was handed stays), and the text reads as before. No condition. -/
import Derived.Test.YtkianolbnjineaaRl
import Derived.Test.YtkianolbnjineaaOt
import Derived.Test.YtkianolbnjineaaStT
import Derived.Deep.QuietTactic
import Derived.BigQuiet
import Derived.Test.YtkianolbnjineaaOpen
import Derived.Test.YtkianolbnjineaaRows
import Derived.ProofKit
import Derived.OpenShut
import Derived.ShutString
import Derived.ChangeOld
namespace Go.Proofs.Ytkianolbnjineaa.renderChecks
open Go.Proofs.Ytkianolbnjineaa
open Go.ChangeShapes Go.WideShapes Go.ChangeAt Go.RowKit

theorem own : ownKnob Try.prog.godebug = none := by kernel_rfl
theorem laidOut : laidOutB Try.prog = true := by kernel_rfl
set_option maxRecDepth 100000 in
set_option maxHeartbeats 1000000 in
theorem walk (ds : List Df) (va : Value) (w : World) (hA : DsV w All va ds) :
    Calls Try.prog 8 #[.agg #[va]] w fun e w' => e = .returned (.bool true) ∧ Below w.heap.size w w' := by
  have GA := fun w' (hb : Below w.heap.size w w') => grt_all ds va w' (hA.lw hb)
  have RA := fun w' (hb : Below w.heap.size w w') => rfault_any ds va w' (hA.lw hb)
  have OA := fun w' (hb : Below w.heap.size w w') => ownT_any ds va w' (hA.lw hb)
  have CA := fun w' vb hB hs => check_any ds vb w' hB hs
  have SA := fun w' vb (hb : Below w.heap.size w w') hB => same_ref_true ds vb va w' hB (hA.lw hb)
  generalize rflt ds = R at *
  obtain ⟨R1, R2⟩ := R
  simp only at CA RA
  obtain ⟨hl, ao, cap, rfl, _⟩ := hA
  go_enter Try.func8, Try.ntmps8
  go_wp2_with fail
  refine (rbegun_any _).mono ?_
  rintro e w1 ⟨rfl, hb1⟩
  have e0 : w1.cell? ⟨w.heap.size, 0, none⟩ = some (.slice ao ds.length cap) := bkeep hb1 (by simp)
  have bel1 : Below w.heap.size w w1 := (al1 _ _).trans (hb1.mono (by simp))
  clear hb1
  go_wp2_with fail
  refine (GA _ bel1).mono ?_
  rintro e w2 ⟨q, rfl, hq, hb2⟩
  have bel2 : Below w.heap.size w w2 := bel1.trans (hb2.mono bel1.size)
  have f0 := bkeep hb2 e0
  cases q with
  | true =>
    go_wp2_with fail
    go_ret
    exact ⟨rfl, bel2⟩
  | false =>
  obtain ⟨h60, hsz⟩ := hq rfl
  clear GA hq hb2 e0
  have HSZ := hd hsz
  have H60 := hd h60
  clear hsz h60
  go_wp2_with fail
  refine (OA _ bel2 H60.out (fun d hd => (HSZ.out d hd).1)).mono ?_
  rintro e w3 ⟨v3, rfl, hd3, hb3⟩
  have hd3' : DsV w3 All v3 ds := hd3.mono fun _ _ _ _ h => ⟨trivial, h⟩
  clear hd3
  obtain ⟨_, ao3, cap3, rfl, _⟩ := id hd3'
  obtain ⟨W4, hW4⟩ : ∃ W4, W4 = w3.alloc (.cells #[.slice ao3 ds.length cap3] 34) := ⟨_, rfl⟩
  have h4 : Below w3.heap.size w3 W4 := by rw [hW4]; exact al1 _ _
  have bel3 : Below w.heap.size w w3 := bel2.trans (hb3.mono bel2.size)
  have bel4 : Below w.heap.size w W4 := bel3.trans (h4.mono bel3.size)
  have g0 : ∀ z : Wd W4, z.u.cell? ⟨w.heap.size, 0, none⟩ = some (.slice ao ds.length cap) := fun z => z.cell (bkeep h4 (bkeep hb3 f0))
  have g1 : ∀ z : Wd W4, z.u.cell? ⟨w3.heap.size, 0, none⟩ = some (.slice ao3 ds.length cap3) := fun z => z.cell (by rw [hW4]; simp)
  have hdz : ∀ z : Wd W4, DsV z.u All (.slice ao3 ds.length cap3) ds := fun z => (hd3'.lw h4).lw z.h
  have belz : ∀ z : Wd W4, Below w.heap.size w z.u := fun z => bel4.trans (z.h.mono bel4.size)
  have wne : Nonempty (Wd W4) := Wd.ne _
  have hsh := fun d hd => (HSZ.out d hd).2
  have HSH := hd hsh
  clear hsh
  clear OA hb3 f0 hd3' h4
  go_wp2_with fail
  rw [← hW4]
  have HW4 := hd hW4
  clear hW4
  refine region_quiet_lit (C := fun w' => ∃ z : Wd W4, w' = z.u) (by kernel_rfl) (by kernel_rfl) (Wd.drawn _) ?_
  go_big_quiet_step (fail)
  go_big_quiet_step (exact calls_wd (CA _ _ (hdz _) HSH.out))
  go_big_quiet_step (fail)
  go_big_quiet_step (exact calls_wd (RA _ (belz _) HSZ.out))
  iterate 4 (go_big_quiet_step (fail))
  go_big_quiet_step (exact calls_wd (SA _ _ (belz _) (hdz _)))
  iterate 2 (go_big_quiet_step (fail))
  refine wpQuiet_nil ?_
  intro _ hw'
  obtain ⟨z, hw''⟩ := hw'
  subst hw''
  go_wp2_with fail
  go_ret
  exact ⟨rfl, belz z⟩

set_option maxRecDepth 100000 in
theorem lifted (os : Os) (started : os.Started) (H : Type) (enc : TypeId × Value → H) :
    ReturnsInHanded {} Try.checked os 8 .any (Rows.renderChecksSpec.pre6 enc Try.prog Try.f8 Rows.renderChecksRow.domain false) (Rows.renderChecksSpec.post enc Try.prog Try.f8 false true false false) := by
  refine returnsInHanded_of_change (C := Try.checked) own started (by kernel_rfl) Try.func8
    (ChangeSpec.witness6 (enc := enc) (C := Try.checked) false ⟨#[], #[.agg #[.slice none 0 0]], []⟩ 8 (by kernel_rfl) (by kernel_rfl) (by kernel_rfl) (by kernel_rfl)) ?_
  intro W base args ds gs before hval0 hW hcnd _
  have hval : ∀ (j : Nat) t v, Try.f8.params[j]? = some t → args[j]? = some v → Value.okWide Try.prog W .any base t v := hval0
  have hW' := hW
  obtain ⟨p, q, hA0, hV, rfl, hfz, hnd⟩ := hW
  have hA : DataW.TrodAll enc Try.prog W 0 (fun _ => true) true Try.f8.params.toList args.toList ds p := hA0
  rw [Try.params8] at hA hval
  obtain ⟨v0, vs0, d0, ds0, p0, q0, hargs, rfl, rfl, h0, r0⟩ := trodAll_cons hA
  obtain ⟨rfl, rfl, rfl⟩ := trodAll_nil r0
  obtain rfl : args = #[v0] := by cases args; simp_all
  obtain ⟨rfl, rfl⟩ := trodVars_none hV
  have k0 := h0
  have lt0 : ∀ x ∈ p0, x.block < W.heap.size := by obtain ⟨m, hm⟩ := k0; exact DataW.trod_lt m _ _ _ hm
  obtain ⟨xs, ua, rfl, hxs⟩ := open_text (hval 0 34 v0 rfl rfl) h0
  clear hA0 hval0
  refine (walk xs ua W hxs).mono fun e W' ⟨he, bel⟩ => ?_
  subst he
  exact ⟨_, rfl, _, _, _, [], _, [], hW', trodAll_mk1 (shut_bool Try.underlying4 _), (trodAll_cons_mk (Below.trod laidOut (by kernel_rfl) (of_decide_eq_true (by kernel_rfl)) k0 bel lt0) trodAll_mk0), rfl, bel.frame _, fun h => by cases h⟩

theorem stands : Rows.renderChecksRow.holds Try.pinned (OpenSpec.ofChange Rows.renderChecksSpec) :=
  OpenClaim.holds_of_wide 8 Try.f8 rfl rfl rfl rfl rfl rfl rfl ⟨rfl, rfl, rfl, rfl, rfl⟩ rfl rfl rfl rfl rfl (by kernel_rfl) Try.func8 (by kernel_rfl)
    (of_decide_eq_true (by kernel_rfl)) (by unfold Func.isWrapper; first | (rw [if_pos (by decide +kernel)]; kernel_rfl) | (rw [if_neg (by decide +kernel)]; exact ⟨rfl, rfl⟩))
    (fun os started H enc _ => lifted os started H enc)

theorem proved : Rows.RenderChecksSaid := stands
#print axioms proved
end Go.Proofs.Ytkianolbnjineaa.renderChecks
