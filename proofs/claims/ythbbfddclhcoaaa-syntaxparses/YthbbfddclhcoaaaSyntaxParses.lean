/- Proved: for every text SyntaxParses returns true (syntax.Parse answers as the document's own function does: the same definitions with the same places, or the same fault), and the text reads as before. No condition. -/
import Derived.Test.YthbbfddclhcoaaaSBegun
import Derived.Test.YthbbfddclhcoaaaStT
import Derived.Test.YthbbfddclhcoaaaRParse
import Derived.Test.YthbbfddclhcoaaaRows
import Derived.ProofKit
import Derived.OpenShut
import Derived.ShutString
namespace Go.Proofs.Ythbbfddclhcoaaa.syntaxParses
open Go.Proofs.Ythbbfddclhcoaaa
open Go.ChangeShapes Go.WideShapes Go.ChangeAt Go.RowKit
open Go.ChangeMaps (open_string shut_string)

theorem own : ownKnob Try.prog.godebug = none := by kernel_rfl

theorem scan_len (s : ByteArray) : (scan s).1.length ≤ 6000 := by
  unfold scan
  split
  · simp
  · unfold fin
    have := st_len s s.size
    split
    · simp
    · show (st s s.size).1.length ≤ 6000; omega
theorem DsV_nil (w : World) : DsV w All (.slice none 0 0) [] := ⟨by simp, none, 0, rfl, .inl rfl⟩

set_option maxHeartbeats 2000000 in
theorem walk (s : ByteArray) (hs : s.size ≤ maxLen) (w : World) :
    Calls Try.prog 5 #[.string s] w fun e w' => e = .returned (.bool true) ∧ Below w.heap.size w w' := by
  have hs' := hs
  unfold maxLen at hs'
  by_cases h2 : 20000 < s.size
  · go_enter Try.func5, Try.ntmps5
    go_wp2_with fail
    refine (sbegun_any _).mono ?_
    rintro e w1 ⟨rfl, hb⟩
    go_wp2_with fail
    go_ret
    exact ⟨rfl, hb⟩
  · have A := fun w => parse_any s w (by omega) (scan_len s)
    have B := fun w => rparse_any s w (by omega) (scan_len s)
    generalize parse s = r at *
    cases r with
    | out =>
      go_enter Try.func5, Try.ntmps5
      go_wp2_with fail
      refine (sbegun_any _).mono ?_
      rintro e w1 ⟨rfl, hb1⟩
      go_wp2_with fail
      refine (A _).mono ?_
      rintro e w2 h2
      exact h2.elim
    | err c a =>
      go_enter Try.func5, Try.ntmps5
      go_wp2_with fail
      refine (sbegun_any _).mono ?_
      rintro e w1 ⟨rfl, hb1⟩
      have z1 := hb1.size
      go_wp2_with fail
      refine (A _).mono ?_
      rintro e w2 ⟨rfl, hb2⟩
      have z2 := hb2.size
      go_wp2_with fail
      refine (B _).mono ?_
      rintro e w3 ⟨rfl, hb3⟩
      have z3 := hb3.size
      simp at z3
      have f0 : w3.cell? ⟨w2.heap.size, 0, none⟩ = some (.slice none 0 0) := by rw [hb3.cell (p := ⟨w2.heap.size, 0, none⟩) (by simp; omega)]; simp
      have f1 : w3.cell? ⟨w2.heap.size + 1, 0, none⟩ = some (.int .i64 c) := by rw [hb3.cell (p := ⟨w2.heap.size + 1, 0, none⟩) (by simp)]; simp
      have f2 : w3.cell? ⟨w2.heap.size + 1, 1, none⟩ = some (.int .i64 a) := by rw [hb3.cell (p := ⟨w2.heap.size + 1, 1, none⟩) (by simp)]; simp
      have bel : Below w.heap.size w w3 := (hb1.trans (hb2.mono z1)).trans ((((Below.refl _ _).alloc (by omega) _).alloc (by simp; omega) _).trans (hb3.mono (by simp; omega)))
      have F0 : ∀ X Y, ((w3.alloc X).alloc Y).cell? ⟨w2.heap.size, 0, none⟩ = some (.slice none 0 0) := fun X Y => by rw [World.cell?_alloc_lt _ _ _ (by simp; omega), World.cell?_alloc_lt _ _ _ (lt_of_cell f0)]; exact f0
      have F1 : ∀ X Y, ((w3.alloc X).alloc Y).cell? ⟨w2.heap.size + 1, 0, none⟩ = some (.int .i64 c) := fun X Y => by rw [World.cell?_alloc_lt _ _ _ (by simp; omega), World.cell?_alloc_lt _ _ _ (lt_of_cell f1)]; exact f1
      have F2 : ∀ X Y, ((w3.alloc X).alloc Y).cell? ⟨w2.heap.size + 1, 1, none⟩ = some (.int .i64 a) := fun X Y => by rw [World.cell?_alloc_lt _ _ _ (by simp; omega), World.cell?_alloc_lt _ _ _ (lt_of_cell f1)]; exact f2
      clear hb1 hb2 hb3 A B
      go_wp2_with fail
      refine (same_ref_true [] _ _ _ (DsV_nil _) (DsV_nil _)).mono ?_
      rintro e w4 ⟨rfl, hb4⟩
      go_wp2_with fail
      go_ret
      exact ⟨ret_bool (by simp), ((bel.alloc (by omega) _).alloc (by simp; omega) _).trans (hb4.mono (by simp; omega))⟩
    | ok ds n p =>
      go_enter Try.func5, Try.ntmps5
      go_wp2_with fail
      refine (sbegun_any _).mono ?_
      rintro e w1 ⟨rfl, hb1⟩
      have z1 := hb1.size
      go_wp2_with fail
      refine (A _).mono ?_
      rintro e w2 ⟨v2, rfl, hd2, hb2⟩
      have z2 := hb2.size
      have hd2' : DsV w2 All v2 ds := hd2.mono fun _ _ _ _ h => ⟨trivial, h⟩
      clear hd2
      obtain ⟨_, aoa, capa, rfl, _⟩ := id hd2'
      go_wp2_with fail
      refine (B _).mono ?_
      rintro e w3 ⟨v3, rfl, hd3, hb3⟩
      have z3 := hb3.size
      simp at z3
      have hd3' : DsV w3 All v3 ds := hd3.mono fun _ _ _ _ h => ⟨trivial, h⟩
      clear hd3
      obtain ⟨_, aob, capb, rfl, _⟩ := id hd3'
      have b23 : Below w2.heap.size w2 w3 := (((Below.refl _ _).alloc (Nat.le_refl _) _).alloc (by simp) _).trans (hb3.mono (by simp; omega))
      have hd4 := hd2'.below b23
      have f0 : w3.cell? ⟨w2.heap.size, 0, none⟩ = some (.slice aoa ds.length capa) := by rw [hb3.cell (p := ⟨w2.heap.size, 0, none⟩) (by simp; omega)]; simp
      have f1 : w3.cell? ⟨w2.heap.size + 1, 0, none⟩ = some (.int .i64 0) := by rw [hb3.cell (p := ⟨w2.heap.size + 1, 0, none⟩) (by simp)]; simp
      have f2 : w3.cell? ⟨w2.heap.size + 1, 1, none⟩ = some (.int .i64 0) := by rw [hb3.cell (p := ⟨w2.heap.size + 1, 1, none⟩) (by simp)]; simp
      have bel : Below w.heap.size w w3 := (hb1.trans (hb2.mono z1)).trans (b23.mono (by omega))
      have F0 : ∀ X Y, ((w3.alloc X).alloc Y).cell? ⟨w2.heap.size, 0, none⟩ = some (.slice aoa ds.length capa) := fun X Y => by rw [World.cell?_alloc_lt _ _ _ (by simp; omega), World.cell?_alloc_lt _ _ _ (lt_of_cell f0)]; exact f0
      have F1 : ∀ X Y, ((w3.alloc X).alloc Y).cell? ⟨w2.heap.size + 1, 0, none⟩ = some (.int .i64 0) := fun X Y => by rw [World.cell?_alloc_lt _ _ _ (by simp; omega), World.cell?_alloc_lt _ _ _ (lt_of_cell f1)]; exact f1
      have F2 : ∀ X Y, ((w3.alloc X).alloc Y).cell? ⟨w2.heap.size + 1, 1, none⟩ = some (.int .i64 0) := fun X Y => by rw [World.cell?_alloc_lt _ _ _ (by simp; omega), World.cell?_alloc_lt _ _ _ (lt_of_cell f1)]; exact f2
      clear hb1 hb2 hb3 A B
      go_wp2_with fail
      refine (same_ref_true ds _ _ _ (hd4.below (((Below.refl _ _).alloc (Nat.le_refl _) _).alloc (by simp) _)) (hd3'.below (((Below.refl _ _).alloc (Nat.le_refl _) _).alloc (by simp) _))).mono ?_
      rintro e w4 ⟨rfl, hb4⟩
      go_wp2_with fail
      go_ret
      exact ⟨ret_bool (by simp), ((bel.alloc (by omega) _).alloc (by simp; omega) _).trans (hb4.mono (by simp; omega))⟩

set_option maxRecDepth 100000 in
theorem lifted (os : Os) (started : os.Started) (H : Type) (enc : TypeId × Value → H) :
    ReturnsInHanded {} Try.checked os 5 .any (Rows.syntaxParsesSpec.pre6 enc Try.prog Try.f5 Rows.syntaxParsesRow.domain false) (Rows.syntaxParsesSpec.post enc Try.prog Try.f5 false true false false) := by
  refine returnsInHanded_of_change (C := Try.checked) own started (by kernel_rfl) Try.func5
    (ChangeSpec.witness6 (enc := enc) (C := Try.checked) false ⟨#[], #[.string ByteArray.empty], []⟩ 8 (by kernel_rfl) (by kernel_rfl) (by kernel_rfl) (by kernel_rfl)) ?_
  intro W base args ds gs before hval0 hW hcnd _
  have hval : ∀ (j : Nat) t v, Try.f5.params[j]? = some t → args[j]? = some v → Value.okWide Try.prog W .any base t v := hval0
  have hW' := hW
  obtain ⟨p, q, hA0, hV, rfl, hfz, hnd⟩ := hW
  have hA : DataW.TrodAll enc Try.prog W 0 (fun _ => true) true Try.f5.params.toList args.toList ds p := hA0
  rw [Try.params5] at hA hval
  obtain ⟨v0, vs0, d0, ds0, p0, q0, hargs, rfl, rfl, h0, r0⟩ := trodAll_cons hA
  obtain ⟨rfl, rfl, rfl⟩ := trodAll_nil r0
  obtain rfl : args = #[v0] := by cases args; simp_all
  obtain ⟨rfl, rfl⟩ := trodVars_none hV
  obtain ⟨a0, rfl, rfl, rfl, w0⟩ := open_string Try.underlying9 (hval 0 9 v0 rfl rfl) h0
  clear hA0 hval0
  simp only [List.append_nil] at hW'
  refine (walk a0 w0 W).mono fun e W' ⟨he, bel⟩ => ?_
  subst he
  exact ⟨_, rfl, _, _, _, [], _, [], hW', trodAll_mk1 (shut_bool Try.underlying4 _), trodAll_cons_mk (shut_string Try.underlying9 w0) trodAll_mk0, rfl, bel.frame _, fun h => by cases h⟩

theorem stands : Rows.syntaxParsesRow.holds Try.pinned (OpenSpec.ofChange Rows.syntaxParsesSpec) :=
  OpenClaim.holds_of_wide 5 Try.f5 rfl rfl rfl rfl rfl rfl rfl ⟨rfl, rfl, rfl, rfl, rfl⟩ rfl rfl rfl rfl rfl (by kernel_rfl) Try.func5 (by kernel_rfl)
    (of_decide_eq_true (by kernel_rfl)) (by unfold Func.isWrapper; first | (rw [if_pos (by decide +kernel)]; kernel_rfl) | (rw [if_neg (by decide +kernel)]; exact ⟨rfl, rfl⟩))
    (fun os started H enc _ => lifted os started H enc)

theorem proved : Rows.SyntaxParsesSaid := stands
#print axioms proved
end Go.Proofs.Ythbbfddclhcoaaa.syntaxParses
