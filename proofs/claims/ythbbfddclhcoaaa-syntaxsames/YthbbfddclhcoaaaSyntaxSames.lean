/- Proved: for every two texts SyntaxSames returns true (syntax.Same answers as the document's own function, either way round, and a text is the same as itself), and both texts read as before. No condition. -/
import Derived.Test.YthbbfddclhcoaaaSBegun
import Derived.Test.YthbbfddclhcoaaaStR
import Derived.Test.YthbbfddclhcoaaaOpen
import Derived.Test.YthbbfddclhcoaaaRows
import Derived.ProofKit
import Derived.OpenShut
import Derived.ShutString
import Derived.ChangeOld
namespace Go.Proofs.Ythbbfddclhcoaaa.syntaxSames
open Go.Proofs.Ythbbfddclhcoaaa
open Go.ChangeShapes Go.WideShapes Go.ChangeAt Go.RowKit

theorem own : ownKnob Try.prog.godebug = none := by kernel_rfl
theorem laidOut : laidOutB Try.prog = true := by kernel_rfl
theorem smB_symm (pl : Bool) (ds es : List Df) : smB pl es ds = smB pl ds es := by
  unfold smB; rw [decide_eq_decide]; exact eq_comm
theorem smB_self (pl : Bool) (ds : List Df) : smB pl ds ds = true := by simp [smB]

set_option maxHeartbeats 4000000 in
theorem walk (ds es : List Df) (va vb : Value) (w : World) (hA : DsV w All va ds) (hB : DsV w All vb es) :
    Calls Try.prog 6 #[.agg #[va], .agg #[vb]] w fun e w' => e = .returned (.bool true) ∧ Below w.heap.size w w' := by
  have GA := fun w' (hb : Below w.heap.size w w') => great_any ds va w' (hA.below hb)
  have GB := fun w' (hb : Below w.heap.size w w') => great_any es vb w' (hB.below hb)
  have SAB := fun w' (hb : Below w.heap.size w w') => same_text ds es va vb w' (hA.below hb) (hB.below hb)
  have RAB := fun w' (hb : Below w.heap.size w w') => same_ref ds es va vb w' (hA.below hb) (hB.below hb)
  have SBA := fun w' (hb : Below w.heap.size w w') => same_text es ds vb va w' (hB.below hb) (hA.below hb)
  have SAA := fun w' (hb : Below w.heap.size w w') => same_text ds ds va va w' (hA.below hb) (hA.below hb)
  rw [smB_symm] at SBA
  rw [smB_self] at SAA
  generalize smB false ds es = B at *
  obtain ⟨_, aoa, capa, rfl, _⟩ := hA
  obtain ⟨_, aob, capb, rfl, _⟩ := hB
  go_enter Try.func6, Try.ntmps6
  go_wp2_with fail
  refine (sbegun_any _).mono ?_
  rintro e w1 ⟨rfl, hb1⟩
  have z1 := hb1.size
  simp at z1
  have e0 : w1.cell? ⟨w.heap.size, 0, none⟩ = some (.slice aoa ds.length capa) := by rw [hb1.cell (p := ⟨w.heap.size, 0, none⟩) (by simp; omega)]; simp
  have e1 : w1.cell? ⟨w.heap.size + 1, 0, none⟩ = some (.slice aob es.length capb) := by rw [hb1.cell (p := ⟨w.heap.size + 1, 0, none⟩) (by simp)]; simp
  have bel1 : Below w.heap.size w w1 := (((Below.refl _ _).alloc (Nat.le_refl _) _).alloc (by simp) _).trans (hb1.mono (by simp; omega))
  go_wp2_with fail
  refine (GA _ bel1).mono ?_
  rintro e w2 ⟨q, rfl, hb2⟩
  have z2 := hb2.size
  have bel2 : Below w.heap.size w w2 := bel1.trans (hb2.mono bel1.size)
  cases q with
  | true =>
    go_wp2_with fail
    go_ret
    exact ⟨rfl, bel2⟩
  | false =>
    have f0 : w2.cell? ⟨w.heap.size, 0, none⟩ = some (.slice aoa ds.length capa) := by rw [hb2.cell (p := ⟨w.heap.size, 0, none⟩) (lt_of_cell e0)]; exact e0
    have f1 : w2.cell? ⟨w.heap.size + 1, 0, none⟩ = some (.slice aob es.length capb) := by rw [hb2.cell (p := ⟨w.heap.size + 1, 0, none⟩) (lt_of_cell e1)]; exact e1
    go_wp2_with fail
    refine (GB _ bel2).mono ?_
    rintro e w3 ⟨q, rfl, hb3⟩
    have z3 := hb3.size
    have bel3 : Below w.heap.size w w3 := bel2.trans (hb3.mono bel2.size)
    cases q with
    | true =>
      go_wp2_with fail
      go_ret
      exact ⟨rfl, bel3⟩
    | false =>
      have g0 : ∀ z : Wd w3, z.u.cell? ⟨w.heap.size, 0, none⟩ = some (.slice aoa ds.length capa) := fun z => z.cell (by rw [hb3.cell (p := ⟨w.heap.size, 0, none⟩) (lt_of_cell f0)]; exact f0)
      have g1 : ∀ z : Wd w3, z.u.cell? ⟨w.heap.size + 1, 0, none⟩ = some (.slice aob es.length capb) := fun z => z.cell (by rw [hb3.cell (p := ⟨w.heap.size + 1, 0, none⟩) (lt_of_cell f1)]; exact f1)
      have belz : ∀ z : Wd w3, Below w.heap.size w z.u := fun z => bel3.trans (z.h.mono bel3.size)
      have wne : Nonempty (Wd w3) := Wd.ne _
      cases B with
      | true =>
        go_wp2_with fail
        refine region_quiet_lit (C := fun w' => ∃ z : Wd w3, w' = z.u) (by kernel_rfl) (by kernel_rfl) (Wd.drawn _) ?_
        iterate 2 (go_big_quiet_step (fail))
        go_big_quiet_step (exact calls_wd (SAB _ (belz _)))
        iterate 2 (go_big_quiet_step (fail))
        go_big_quiet_step (exact calls_wd (RAB _ (belz _)))
        iterate 4 (go_big_quiet_step (fail))
        go_big_quiet_step (exact calls_wd (SBA _ (belz _)))
        iterate 2 (go_big_quiet_step (fail))
        go_big_quiet_step (exact calls_wd (SAB _ (belz _)))
        iterate 5 (go_big_quiet_step (fail))
        go_big_quiet_step (exact calls_wd (SAA _ (belz _)))
        iterate 2 (go_big_quiet_step (fail))
        refine wpQuiet_nil ?_
        intro _ hw'
        obtain ⟨z, hw''⟩ := hw'
        subst hw''
        go_wp2_with fail
        go_ret
        exact ⟨rfl, belz z⟩
      | false =>
        go_wp2_with fail
        refine region_quiet_lit (C := fun w' => ∃ z : Wd w3, w' = z.u) (by kernel_rfl) (by kernel_rfl) (Wd.drawn _) ?_
        iterate 2 (go_big_quiet_step (fail))
        go_big_quiet_step (exact calls_wd (SAB _ (belz _)))
        iterate 2 (go_big_quiet_step (fail))
        go_big_quiet_step (exact calls_wd (RAB _ (belz _)))
        iterate 4 (go_big_quiet_step (fail))
        go_big_quiet_step (exact calls_wd (SBA _ (belz _)))
        iterate 2 (go_big_quiet_step (fail))
        go_big_quiet_step (exact calls_wd (SAB _ (belz _)))
        iterate 5 (go_big_quiet_step (fail))
        go_big_quiet_step (exact calls_wd (SAA _ (belz _)))
        iterate 2 (go_big_quiet_step (fail))
        refine wpQuiet_nil ?_
        intro _ hw'
        obtain ⟨z, hw''⟩ := hw'
        subst hw''
        go_wp2_with fail
        go_ret
        exact ⟨rfl, belz z⟩

set_option maxRecDepth 100000 in
theorem lifted (os : Os) (started : os.Started) (H : Type) (enc : TypeId × Value → H) :
    ReturnsInHanded {} Try.checked os 6 .any (Rows.syntaxSamesSpec.pre6 enc Try.prog Try.f6 Rows.syntaxSamesRow.domain false) (Rows.syntaxSamesSpec.post enc Try.prog Try.f6 false true false false) := by
  refine returnsInHanded_of_change (C := Try.checked) own started (by kernel_rfl) Try.func6
    (ChangeSpec.witness6 (enc := enc) (C := Try.checked) false ⟨#[], #[.agg #[.slice none 0 0], .agg #[.slice none 0 0]], []⟩ 8 (by kernel_rfl) (by kernel_rfl) (by kernel_rfl) (by kernel_rfl)) ?_
  intro W base args ds gs before hval0 hW hcnd _
  have hval : ∀ (j : Nat) t v, Try.f6.params[j]? = some t → args[j]? = some v → Value.okWide Try.prog W .any base t v := hval0
  have hW' := hW
  obtain ⟨p, q, hA0, hV, rfl, hfz, hnd⟩ := hW
  have hA : DataW.TrodAll enc Try.prog W 0 (fun _ => true) true Try.f6.params.toList args.toList ds p := hA0
  rw [Try.params6] at hA hval
  obtain ⟨v0, vs0, d0, ds0, p0, q0, hargs, rfl, rfl, h0, r0⟩ := trodAll_cons hA
  obtain ⟨v1, vs1, d1, ds1, p1, q1, rfl, rfl, rfl, h1, r1⟩ := trodAll_cons r0
  obtain ⟨rfl, rfl, rfl⟩ := trodAll_nil r1
  obtain rfl : args = #[v0, v1] := by cases args; simp_all
  obtain ⟨rfl, rfl⟩ := trodVars_none hV
  have k0 := h0
  have k1 := h1
  have lt0 : ∀ x ∈ p0, x.block < W.heap.size := by obtain ⟨m, hm⟩ := k0; exact DataW.trod_lt m _ _ _ hm
  have lt1 : ∀ x ∈ p1, x.block < W.heap.size := by obtain ⟨m, hm⟩ := k1; exact DataW.trod_lt m _ _ _ hm
  obtain ⟨xs, ua, rfl, hxs⟩ := open_text (hval 0 34 v0 rfl rfl) h0
  obtain ⟨ys, ub, rfl, hys⟩ := open_text (hval 1 34 v1 rfl rfl) h1
  clear hA0 hval0
  refine (walk xs ys ua ub W hxs hys).mono fun e W' ⟨he, bel⟩ => ?_
  subst he
  exact ⟨_, rfl, _, _, _, [], _, [], hW', trodAll_mk1 (shut_bool Try.underlying4 _), (trodAll_cons_mk (Below.trod laidOut (by kernel_rfl) (of_decide_eq_true (by kernel_rfl)) k0 bel lt0) (trodAll_cons_mk (Below.trod laidOut (by kernel_rfl) (of_decide_eq_true (by kernel_rfl)) k1 bel lt1) trodAll_mk0)), rfl, bel.frame _, fun h => by cases h⟩

theorem stands : Rows.syntaxSamesRow.holds Try.pinned (OpenSpec.ofChange Rows.syntaxSamesSpec) :=
  OpenClaim.holds_of_wide 6 Try.f6 rfl rfl rfl rfl rfl rfl rfl ⟨rfl, rfl, rfl, rfl, rfl⟩ rfl rfl rfl rfl rfl (by kernel_rfl) Try.func6 (by kernel_rfl)
    (of_decide_eq_true (by kernel_rfl)) (by unfold Func.isWrapper; first | (rw [if_pos (by decide +kernel)]; kernel_rfl) | (rw [if_neg (by decide +kernel)]; exact ⟨rfl, rfl⟩))
    (fun os started H enc _ => lifted os started H enc)

theorem proved : Rows.SyntaxSamesSaid := stands
#print axioms proved
end Go.Proofs.Ythbbfddclhcoaaa.syntaxSames
