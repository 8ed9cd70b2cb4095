/- Proved: for every string RenderForth returns true (what was parsed can be printed, if its text is not too long, and is parsed again as the same), and the string reads as before. No condition. -/
import Derived.Test.YtkianolbnjineabRl
import Derived.Test.YtkianolbnjineabRows
import Derived.ProofKit
import Derived.OpenShut
import Derived.ShutString
namespace Go.Proofs.Ytkianolbnjineab.renderForth
open Go.Proofs.Ytkianolbnjineab
open Go.ChangeShapes Go.WideShapes Go.ChangeAt Go.RowKit
open Go.ChangeMaps (open_string shut_string)

theorem own : ownKnob Try.prog.godebug = none := by kernel_rfl
set_option maxRecDepth 100000 in
set_option maxHeartbeats 1000000 in
theorem walk (s : ByteArray) (_ : s.size ≤ maxLen) (w : World) :
    Calls Try.prog 6 #[.string s] w fun e w' => e = .returned (.bool true) ∧ Below w.heap.size w w' := by
  by_cases h6 : (6000 : Int) < (s.size : Int)
  · go_enter Try.func6, Try.ntmps6
    go_wp2_with fail
    refine (rbegun_any _).mono ?_
    rintro e w1 ⟨rfl, hb1⟩
    go_wp2_with fail
    go_ret
    exact ⟨rfl, hb1⟩
  have PS := fun w => parse_any s w (by omega) (scan_lenS s (by omega))
  cases hp : parse s with
  | out =>
    rw [hp] at PS
    go_enter Try.func6, Try.ntmps6
    go_wp2_with fail
    refine (rbegun_any _).mono ?_
    rintro e w1 ⟨rfl, hb1⟩
    go_wp2_with fail
    refine (PS _).mono ?_
    intro e w2 h
    exact h.elim
  | err c p =>
    have hc := parse_nz hp
    rw [hp] at PS
    have hcb : (c != 0) = true := by simpa using hc
    clear hp
    go_enter Try.func6, Try.ntmps6
    go_wp2_with fail
    refine (rbegun_any _).mono ?_
    rintro e w1 ⟨rfl, hb1⟩
    go_wp2_with fail
    refine (PS _).mono ?_
    rintro e w2 ⟨rfl, hb2⟩
    go_wp2_with fail
    go_ret
    exact ⟨rfl, (hb1.trans (hb2.mono hb1.size)).trans ((al2 _ _ _).mono (by have := hb1.size; have := hb2.size; omega))⟩
  | ok ds x y =>
    rw [hp] at PS
    have hcd := (parse_wf hp).1
    have PR := fun w vb hB => print_any ds vb w hB (fun d hd => Df.code_sh (hcd d hd))
    have hfl := hd (parse_flt hp)
    have hpf := hd (fun h : Fine ds => pstr_fine h)
    have hps := hd (fun h : Fine ds => pstr_size h)
    have SA := fun w' va vb es (hA : DsV w' All va ds) hB => same_text ds es va vb w' hA hB
    clear hp hcd
    generalize rflt ds = R at *
    obtain ⟨R1, R2⟩ := R
    simp only at PR hfl
    generalize pstr ds = S at *
    go_enter Try.func6, Try.ntmps6
    go_wp2_with fail
    refine (rbegun_any _).mono ?_
    rintro e w1 ⟨rfl, hb1⟩
    go_wp2_with fail
    refine (PS _).mono ?_
    clear PS
    rintro e w2 ⟨v, rfl, hds, hb2⟩
    have hds' : DsV w2 All v ds := hds.mono fun _ _ _ _ h => ⟨trivial, h⟩
    clear hds
    obtain ⟨_, ao, cap, rfl, _⟩ := id hds'
    have bel2 : Below w.heap.size w w2 := hb1.trans (hb2.mono hb1.size)
    obtain ⟨W2, hW2⟩ : ∃ W2, W2 = (w2.alloc (.cells #[.slice ao ds.length cap] 24)).alloc (.cells #[.int .i64 0, .int .i64 0] 28) := ⟨_, rfl⟩
    have h2 : Below w2.heap.size w2 W2 := by rw [hW2]; exact al2 _ _ _
    have k0 : W2.cell? ⟨w2.heap.size, 0, none⟩ = some (.slice ao ds.length cap) := by rw [hW2]; simp
    have hdsW := hds'.lw h2
    have bel3 : Below w.heap.size w W2 := bel2.trans (h2.mono bel2.size)
    have PRW := PR W2 _ hdsW
    clear hb1 hb2 PR
    go_wp2_with fail
    rw [← hW2]
    have HW2 := hd hW2
    clear hW2
    refine PRW.mono ?_
    rintro e w3 ⟨rfl, hb3⟩
    have bel4 : Below w.heap.size w w3 := bel3.trans (hb3.mono bel3.size)
    have k1 := bkeep hb3 k0
    have hds3 := hdsW.lw hb3
    clear PRW
    rcases hfl.out with ⟨hf, hR⟩ | hR
    · obtain ⟨rfl, rfl⟩ : R1 = 0 ∧ R2 = 0 := by simpa using hR
      obtain ⟨es, x', y', hp, hk⟩ := hf.back
      have hsz := hps.out hf
      have hsm : smB false ds es = true := by unfold smB; rw [hk]; simp
      rw [← hpf.out hf] at hp
      have PS := fun w => parse_any S w (by omega) (scan_lenS S hsz)
      rw [hp] at PS
      clear hfl hpf hps hf hp hk hR
      obtain ⟨W4, hW4⟩ : ∃ W4, W4 = w3.alloc (.cells #[.int .i64 0, .int .i64 0] 28) := ⟨_, rfl⟩
      have h4 : Below w3.heap.size w3 W4 := by rw [hW4]; exact al1 _ _
      have k2 := bkeep h4 k1
      have bel5 : Below w.heap.size w W4 := bel4.trans (h4.mono bel4.size)
      have hds4 := hds3.lw h4
      go_wp2_with fail
      rw [← hW4]
      have HW4 := hd hW4
      clear hW4
      refine (PS _).mono ?_
      clear PS
      rintro e w5 ⟨v', rfl, hes, hb5⟩
      have hes' : DsV w5 All v' es := hes.mono fun _ _ _ _ h => ⟨trivial, h⟩
      clear hes
      obtain ⟨_, aoe, cape, rfl, _⟩ := id hes'
      have bel6 : Below w.heap.size w w5 := bel5.trans (hb5.mono bel5.size)
      have k3 := bkeep hb5 k2
      obtain ⟨W6, hW6⟩ : ∃ W6, W6 = (w5.alloc (.cells #[.slice aoe es.length cape] 24)).alloc (.cells #[.int .i64 0, .int .i64 0] 28) := ⟨_, rfl⟩
      have h6' : Below w5.heap.size w5 W6 := by rw [hW6]; exact al2 _ _ _
      have k4 := bkeep h6' k3
      have k4u := k4
      rw [hW6] at k4u
      have bel7 : Below w.heap.size w W6 := bel6.trans (h6'.mono bel6.size)
      have SS := SA W6 _ _ es ((hds4.lw hb5).lw h6') (hes'.lw h6')
      rw [hsm] at SS
      go_wp2_with fail
      rw [← hW6]
      clear k4u
      refine SS.mono ?_
      rintro e w7 ⟨rfl, hb7⟩
      go_wp2_with fail
      go_ret
      exact ⟨rfl, bel7.trans (hb7.mono bel7.size)⟩
    · obtain ⟨rfl, rfl⟩ : R1 = 6 ∧ R2 = -1 := by simpa using hR
      go_wp2_with fail
      go_ret
      exact ⟨rfl, bel4.trans ((al1 _ _).mono bel4.size)⟩

set_option maxRecDepth 100000 in
theorem lifted (os : Os) (started : os.Started) (H : Type) (enc : TypeId × Value → H) :
    ReturnsInHanded {} Try.checked os 6 .any (Rows.renderForthSpec.pre6 enc Try.prog Try.f6 Rows.renderForthRow.domain false) (Rows.renderForthSpec.post enc Try.prog Try.f6 false true false false) := by
  refine returnsInHanded_of_change (C := Try.checked) own started (by kernel_rfl) Try.func6
    (ChangeSpec.witness6 (enc := enc) (C := Try.checked) false ⟨#[], #[.string ByteArray.empty], []⟩ 8 (by kernel_rfl) (by kernel_rfl) (by kernel_rfl) (by kernel_rfl)) ?_
  intro W base args ds gs before hval0 hW hcnd _
  have hval : ∀ (j : Nat) t v, Try.f6.params[j]? = some t → args[j]? = some v → Value.okWide Try.prog W .any base t v := hval0
  have hW' := hW
  obtain ⟨p, q, hA0, hV, rfl, hfz, hnd⟩ := hW
  have hA : DataW.TrodAll enc Try.prog W 0 (fun _ => true) true Try.f6.params.toList args.toList ds p := hA0
  rw [Try.params6] at hA hval
  obtain ⟨v0, vs0, d0, ds0, p0, q0, hargs, rfl, rfl, h0, r0⟩ := trodAll_cons hA
  obtain ⟨rfl, rfl, rfl⟩ := trodAll_nil r0
  obtain rfl : args = #[v0] := by cases args; simp_all
  obtain ⟨rfl, rfl⟩ := trodVars_none hV
  obtain ⟨a0, rfl, rfl, rfl, w0⟩ := open_string Try.underlying9 (hval 0 9 v0 rfl rfl) h0
  clear hA0 hval0
  simp only [List.append_nil] at hW'
  refine (walk a0 w0 W).mono fun e W' ⟨he, bel⟩ => ?_
  subst he
  exact ⟨_, rfl, _, _, _, [], _, [], hW', trodAll_mk1 (shut_bool Try.underlying4 _), trodAll_cons_mk (shut_string Try.underlying9 w0) trodAll_mk0, rfl, bel.frame _, fun h => by cases h⟩

theorem stands : Rows.renderForthRow.holds Try.pinned (OpenSpec.ofChange Rows.renderForthSpec) :=
  OpenClaim.holds_of_wide 6 Try.f6 rfl rfl rfl rfl rfl rfl rfl ⟨rfl, rfl, rfl, rfl, rfl⟩ rfl rfl rfl rfl rfl (by kernel_rfl) Try.func6 (by kernel_rfl)
    (of_decide_eq_true (by kernel_rfl)) (by unfold Func.isWrapper; first | (rw [if_pos (by decide +kernel)]; kernel_rfl) | (rw [if_neg (by decide +kernel)]; exact ⟨rfl, rfl⟩))
    (fun os started H enc _ => lifted os started H enc)

theorem proved : Rows.RenderForthSaid := stands
#print axioms proved
end Go.Proofs.Ytkianolbnjineab.renderForth
