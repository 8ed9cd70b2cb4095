/- Proved: for every text RenderBack returns true (what Print printed is parsed as the same, and printed again is the same text), and the text reads as before. No condition. -/
import Derived.Test.YtkianolbnjineabRl
import Derived.Test.YtkianolbnjineabOpen
import Derived.Test.YtkianolbnjineabRows
import Derived.ProofKit
import Derived.OpenShut
import Derived.ShutString
import Derived.ChangeOld
namespace Go.Proofs.Ytkianolbnjineab.renderBack
open Go.Proofs.Ytkianolbnjineab
open Go.ChangeShapes Go.WideShapes Go.ChangeAt Go.RowKit

theorem own : ownKnob Try.prog.godebug = none := by kernel_rfl
theorem laidOut : laidOutB Try.prog = true := by kernel_rfl
set_option maxRecDepth 100000 in
set_option maxHeartbeats 1000000 in
theorem walk (ds : List Df) (va : Value) (w : World) (hA : DsV w All va ds) :
    Calls Try.prog 4 #[.agg #[va]] w fun e w' => e = .returned (.bool true) ∧ Below w.heap.size w w' := by
  have GA := fun w' (hb : Below w.heap.size w w') => grt_any ds va w' (hA.lw hb)
  have PA := fun w' (hb : Below w.heap.size w w') => print_any ds va w' (hA.lw hb)
  have SA := fun w' vb es (hb : Below w.heap.size w w') hB => same_text ds es va vb w' (hA.lw hb) hB
  have hz := hd (@rflt_zero ds)
  have hps := hd (fun h : Fine ds => pstr_size h)
  have hpe := hd (fun h => @pstr_bad ds h)
  have hpf := hd (fun h : Fine ds => pstr_fine h)
  generalize rflt ds = R at *
  obtain ⟨R1, R2⟩ := R
  simp only at PA hz hpe
  generalize pstr ds = S at *
  obtain ⟨hl, ao, cap, rfl, _⟩ := hA
  go_enter Try.func4, Try.ntmps4
  go_wp2_with fail
  refine (rbegun_any _).mono ?_
  rintro e w1 ⟨rfl, hb1⟩
  have e0 : w1.cell? ⟨w.heap.size, 0, none⟩ = some (.slice ao ds.length cap) := bkeep hb1 (by simp)
  have bel1 : Below w.heap.size w w1 := (al1 _ _).trans (hb1.mono (by simp))
  clear hb1
  go_wp2_with fail
  refine (GA _ bel1).mono ?_
  rintro e w2 ⟨q, rfl, hq, hb2⟩
  have bel2 : Below w.heap.size w w2 := bel1.trans (hb2.mono bel1.size)
  have f0 := bkeep hb2 e0
  cases q with
  | true =>
    go_wp2_with fail
    go_ret
    exact ⟨rfl, bel2⟩
  | false =>
  have hsh := fun d hd => (hq rfl d hd).2
  clear GA hq hb2 e0
  go_wp2_with fail
  refine (PA _ bel2 hsh).mono ?_
  rintro e w3 ⟨rfl, hb3⟩
  have bel3 : Below w.heap.size w w3 := bel2.trans (hb3.mono bel2.size)
  obtain ⟨W3, hW3⟩ : ∃ W3, W3 = w3.alloc (.cells #[.int .i64 R1, .int .i64 R2] 28) := ⟨_, rfl⟩
  have c0 : W3.cell? ⟨w3.heap.size, 0, none⟩ = some (.int .i64 R1) := by rw [hW3]; simp
  have g0 : W3.cell? ⟨w.heap.size, 0, none⟩ = some (.slice ao ds.length cap) := by rw [hW3]; exact bkeepB hb3 f0 _
  have bel4 : Below w.heap.size w W3 := by rw [hW3]; exact bel3.trans ((al1 _ _).mono bel3.size)
  by_cases hR : R1 = 0
  · obtain ⟨hf, hR0⟩ := hz.out hR
    obtain ⟨es, x, y, hp, hk⟩ := hf.back
    have hsz := hps.out hf
    have hfe := hf.same hk.symm
    have hsm : smB false ds es = true := by unfold smB; rw [hk]; simp
    have PU := fun w vb hB => print_any es vb w hB (fun d hd => Df.code_sh (hfe.all d hd))
    rw [rflt_of hfe, pstr_fine hfe, (kk_same hk).1, ← hpf.out hf] at PU
    rw [← hpf.out hf] at hp
    have PS := fun w => parse_any S w (by omega) (scan_lenS S hsz)
    rw [hp] at PS
    obtain ⟨rfl, rfl⟩ : R1 = 0 ∧ R2 = 0 := by simpa using hR0
    clear hR hR0
    clear hz hps hpe hpf hf hfe hk hp
    go_wp2_with fail
    rw [← hW3]
    have HW3 := hd hW3
    clear hW3
    refine (PS _).mono ?_
    clear PS
    rintro e w5 ⟨v, rfl, hds, hb5⟩
    have hds' : DsV w5 All v es := hds.mono fun _ _ _ _ h => ⟨trivial, h⟩
    clear hds
    obtain ⟨_, aoe, cape, rfl, _⟩ := id hds'
    have bel5 : Below w.heap.size w w5 := bel4.trans (hb5.mono bel4.size)
    have g1 := bkeep hb5 g0
    obtain ⟨W6, hW6⟩ : ∃ W6, W6 = (w5.alloc (.cells #[.slice aoe es.length cape] 24)).alloc (.cells #[.int .i64 0, .int .i64 0] 28) := ⟨_, rfl⟩
    have h6 : Below w5.heap.size w5 W6 := by rw [hW6]; exact al2 _ _ _
    have k0 : W6.cell? ⟨w5.heap.size, 0, none⟩ = some (.slice aoe es.length cape) := by rw [hW6]; simp
    have k1 : W6.cell? ⟨w5.heap.size + 1, 0, none⟩ = some (.int .i64 0) := by rw [hW6]; simp
    have g2 := bkeep h6 g1
    have hdsW := hds'.lw h6
    have bel6 : Below w.heap.size w W6 := bel5.trans (h6.mono bel5.size)
    have SS := SA W6 _ es bel6 hdsW
    rw [hsm] at SS
    have g2u := g2
    rw [hW6] at g2u
    go_wp2_with fail
    rw [← hW6]
    clear g2u
    have HW6 := hd hW6
    clear hW6
    refine SS.mono ?_
    rintro e w7 ⟨rfl, hb7⟩
    have bel7 : Below w.heap.size w w7 := bel6.trans (hb7.mono bel6.size)
    have k2 := bkeep hb7 k0
    have PUU := PU w7 _ (hdsW.lw hb7)
    clear SS PU SA
    go_wp2_with fail
    refine PUU.mono ?_
    rintro e w8 ⟨rfl, hb8⟩
    go_wp2_with fail
    go_ret
    exact ⟨rfl, (bel7.trans (hb8.mono bel7.size)).trans ((al1 _ _).mono (by have := bel7.size; have := hb8.size; omega))⟩
  · have hS := hpe.out hR
    subst hS
    clear hz hps hpf hpe
    have hRb : (R1 != 0) = true := by simpa using hR
    go_wp2_with fail
    go_ret
    exact ⟨rfl, by rw [← hW3]; exact bel4⟩

set_option maxRecDepth 100000 in
theorem lifted (os : Os) (started : os.Started) (H : Type) (enc : TypeId × Value → H) :
    ReturnsInHanded {} Try.checked os 4 .any (Rows.renderBackSpec.pre6 enc Try.prog Try.f4 Rows.renderBackRow.domain false) (Rows.renderBackSpec.post enc Try.prog Try.f4 false true false false) := by
  refine returnsInHanded_of_change (C := Try.checked) own started (by kernel_rfl) Try.func4
    (ChangeSpec.witness6 (enc := enc) (C := Try.checked) false ⟨#[], #[.agg #[.slice none 0 0]], []⟩ 8 (by kernel_rfl) (by kernel_rfl) (by kernel_rfl) (by kernel_rfl)) ?_
  intro W base args ds gs before hval0 hW hcnd _
  have hval : ∀ (j : Nat) t v, Try.f4.params[j]? = some t → args[j]? = some v → Value.okWide Try.prog W .any base t v := hval0
  have hW' := hW
  obtain ⟨p, q, hA0, hV, rfl, hfz, hnd⟩ := hW
  have hA : DataW.TrodAll enc Try.prog W 0 (fun _ => true) true Try.f4.params.toList args.toList ds p := hA0
  rw [Try.params4] at hA hval
  obtain ⟨v0, vs0, d0, ds0, p0, q0, hargs, rfl, rfl, h0, r0⟩ := trodAll_cons hA
  obtain ⟨rfl, rfl, rfl⟩ := trodAll_nil r0
  obtain rfl : args = #[v0] := by cases args; simp_all
  obtain ⟨rfl, rfl⟩ := trodVars_none hV
  have k0 := h0
  have lt0 : ∀ x ∈ p0, x.block < W.heap.size := by obtain ⟨m, hm⟩ := k0; exact DataW.trod_lt m _ _ _ hm
  obtain ⟨xs, ua, rfl, hxs⟩ := open_text (hval 0 24 v0 rfl rfl) h0
  clear hA0 hval0
  refine (walk xs ua W hxs).mono fun e W' ⟨he, bel⟩ => ?_
  subst he
  exact ⟨_, rfl, _, _, _, [], _, [], hW', trodAll_mk1 (shut_bool Try.underlying4 _), (trodAll_cons_mk (Below.trod laidOut (by kernel_rfl) (of_decide_eq_true (by kernel_rfl)) k0 bel lt0) trodAll_mk0), rfl, bel.frame _, fun h => by cases h⟩

theorem stands : Rows.renderBackRow.holds Try.pinned (OpenSpec.ofChange Rows.renderBackSpec) :=
  OpenClaim.holds_of_wide 4 Try.f4 rfl rfl rfl rfl rfl rfl rfl ⟨rfl, rfl, rfl, rfl, rfl⟩ rfl rfl rfl rfl rfl (by kernel_rfl) Try.func4 (by kernel_rfl)
    (of_decide_eq_true (by kernel_rfl)) (by unfold Func.isWrapper; first | (rw [if_pos (by decide +kernel)]; kernel_rfl) | (rw [if_neg (by decide +kernel)]; exact ⟨rfl, rfl⟩))
    (fun os started H enc _ => lifted os started H enc)

theorem proved : Rows.RenderBackSaid := stands
#print axioms proved
end Go.Proofs.Ytkianolbnjineab.renderBack
