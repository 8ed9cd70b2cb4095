/- Proved: for every text DefsDoes returns true (defs.Check, defs.Names and defs.Terms answer as the document's own functions do, and what they were handed stays), and the text reads as before. No condition. -/
import Derived.Test.YtdikjhfnmkejcabDl
import Derived.Deep.RegionHeld3
import Derived.Test.YtdikjhfnmkejcabOpen
import Derived.Test.YtdikjhfnmkejcabRows
import Derived.ProofKit
import Derived.OpenShut
import Derived.ShutString
import Derived.ChangeOld
namespace Go.Proofs.Ytdikjhfnmkejcab.defsDoes
open Go.Proofs.Ytdikjhfnmkejcab
open Go.ChangeShapes Go.WideShapes Go.ChangeAt Go.RowKit

theorem own : ownKnob Try.prog.godebug = none := by kernel_rfl
theorem laidOut : laidOutB Try.prog = true := by kernel_rfl
set_option maxRecDepth 100000 in
set_option maxHeartbeats 16000000 in
theorem walk (ds : List Df) (va : Value) (w : World) (hA : DsV w All va ds) :
    Calls Try.prog 7 #[.agg #[va]] w fun e w' => e = .returned (.bool true) ∧ Below w.heap.size w w' := by
  have GA := fun w' (hb : Below w.heap.size w w') => grt_all ds va w' (hA.lw hb)
  have OA := fun w' (hb : Below w.heap.size w w') => ownT_any ds va w' (hA.lw hb)
  have FA := fun w' (hb : Below w.heap.size w w') => dfault_any ds va w' (hA.lw hb)
  have MA := fun w' (hb : Below w.heap.size w w') => namesOf_any ds va w' (hA.lw hb)
  have UA := fun w' (hb : Below w.heap.size w w') => termsOf_any ds va w' (hA.lw hb)
  have CA := fun w' vb hB => dcheck_any ds vb w' hB
  have NA := fun w' vb hB => names_any ds vb w' hB
  have TA := fun w' vb hB => terms_any ds vb w' hB
  have SA := fun w' vb (hb : Below w.heap.size w w') hB => same_ref_true ds vb va w' hB (hA.lw hb)
  have hnl := nms_len ds
  generalize dfl ds = D at *
  obtain ⟨D1, D2⟩ := D
  simp only at CA FA
  obtain ⟨hl, ao, cap, rfl, _⟩ := hA
  go_enter Try.func7, Try.ntmps7
  go_wp2_with fail
  refine (dbegun_any _).mono ?_
  rintro e w1 ⟨rfl, hb1⟩
  have e0 : w1.cell? ⟨w.heap.size, 0, none⟩ = some (.slice ao ds.length cap) := bkeep hb1 (by simp)
  have bel1 : Below w.heap.size w w1 := (al1 _ _).trans (hb1.mono (by simp))
  clear hb1
  go_wp2_with fail
  refine (GA _ bel1).mono ?_
  rintro e w2 ⟨q, rfl, hq, hb2⟩
  have bel2 : Below w.heap.size w w2 := bel1.trans (hb2.mono bel1.size)
  have f0 := bkeep hb2 e0
  cases q with
  | true =>
    go_wp2_with fail
    go_ret
    exact ⟨rfl, bel2⟩
  | false =>
  obtain ⟨h60, hsz⟩ := hq rfl
  have htl := trms_len h60 (fun d hd => (hsz d hd).1)
  have OA2 := OA _ bel2 h60 (fun d hd => (hsz d hd).1)
  have FA' := fun w' hb => FA w' hb h60 hsz
  have MA' := fun w' hb => MA w' hb h60
  have UA' := fun w' hb => UA w' hb h60 (fun d hd => (hsz d hd).1)
  have CA' := fun w' vb hB => CA w' vb hB h60 hsz
  have NA' := fun w' vb hB => NA w' vb hB h60
  have TA' := fun w' vb hB => TA w' vb hB h60 hsz
  clear GA hq hb2 e0 OA FA MA UA CA NA TA hsz
  generalize nms ds = N at *
  generalize trms ds = T at *
  have hNl : N.length ≤ 9223372036854775807 := by omega
  have hTl : T.length ≤ 9223372036854775807 := by omega
  go_wp2_with fail
  refine OA2.mono ?_
  rintro e w3 ⟨v3, rfl, hd3, hb3⟩
  have hd3' : DsV w3 All v3 ds := hd3.mono fun _ _ _ _ h => ⟨trivial, h⟩
  clear hd3 OA2
  obtain ⟨_, ao3, cap3, rfl, _⟩ := id hd3'
  obtain ⟨W4, hW4⟩ : ∃ W4, W4 = w3.alloc (.cells #[.slice ao3 ds.length cap3] 24) := ⟨_, rfl⟩
  have h4 : Below w3.heap.size w3 W4 := by rw [hW4]; exact al1 _ _
  have bel3 : Below w.heap.size w w3 := bel2.trans (hb3.mono bel2.size)
  have bel4 : Below w.heap.size w W4 := bel3.trans (h4.mono bel3.size)
  have g0 : Below W4.heap.size W4 W4 ∧ W4.cell? ⟨w.heap.size, 0, none⟩ = some (.slice ao ds.length cap) ∧ W4.cell? ⟨w3.heap.size, 0, none⟩ = some (.slice ao3 ds.length cap3) := ⟨Below.refl _ _, bkeep h4 (bkeep hb3 f0), by rw [hW4]; simp⟩
  have st0 : Stp W4 W4.drew := ⟨drw1 W4⟩
  have hd4 : DsV W4 All (.slice ao3 ds.length cap3) ds := hd3'.lw h4
  have hL : ∀ z, Below W4.heap.size W4 z → Below w.heap.size w z := fun z hz => bel4.trans (hz.mono bel4.size)
  clear hb3 f0 hd3' h4 bel3 bel2 bel1
  go_wp2_with fail
  rw [← hW4]
  have HW4 := hd hW4
  clear hW4 htl hnl h60 hl
  go_region_held3 (fun w' => Below W4.heap.size W4 w' ∧ w'.cell? ⟨w.heap.size, 0, none⟩ = some (.slice ao ds.length cap) ∧ w'.cell? ⟨w3.heap.size, 0, none⟩ = some (.slice ao3 ds.length cap3))
    (exact stk (by assumption) (by assumption))
    (first
      | (go_at_call 18; refine (CA' _ _ (hd4.lw (And.left (by assumption)))).mono ?_; rintro e w5 ⟨rfl, hb5⟩; have st5 := Stp.mk hb5; clear hb5)
      | (go_at_call 19; refine (FA' _ (hL _ (And.left (by assumption)))).mono ?_; rintro e w6 ⟨rfl, hb6⟩; have st6 := Stp.mk hb6; clear hb6)
      | (go_at_call 21; refine (NA' _ _ (hd4.lw (And.left (by assumption)))).mono ?_; rintro e w7 ⟨v7, rfl, own7, hb7⟩; have st7 := Stp.mk hb7; have s7 := SsV_owned own7 hNl; obtain ⟨ao7, cap7, rfl⟩ := owns_slice own7; clear own7 hb7)
      | (go_at_call 22; refine (MA' _ (hL _ (And.left (by assumption)))).mono ?_; rintro e w8 ⟨v8, rfl, own8, hb8⟩; have st8 := Stp.mk hb8; have s8 := SsV_owned own8 hNl; have s7' := s7.below hb8; obtain ⟨ao8, cap8, rfl⟩ := owns_slice own8; clear own8 hb8)
      | (go_at_call 20; refine (sameStrings_any T _ _ _ s10' s11).mono ?_; rintro e w12 ⟨rfl, hb12⟩; have st12 := Stp.mk hb12; clear hb12)
      | (go_at_call 20; refine (sameStrings_any N _ _ _ s7' s8).mono ?_; rintro e w9 ⟨rfl, hb9⟩; have st9 := Stp.mk hb9; clear hb9)
      | (go_at_call 23; refine (TA' _ _ (hd4.lw (And.left (by assumption)))).mono ?_; rintro e w10 ⟨v10, rfl, own10, hb10⟩; have st10 := Stp.mk hb10; have s10 := SsV_owned own10 hTl; obtain ⟨ao10, cap10, rfl⟩ := owns_slice own10; clear own10 hb10)
      | (go_at_call 24; refine (UA' _ (hL _ (And.left (by assumption)))).mono ?_; rintro e w11 ⟨v11, rfl, own11, hb11⟩; have st11 := Stp.mk hb11; have s11 := SsV_owned own11 hTl; have s10' := s10.below hb11; obtain ⟨ao11, cap11, rfl⟩ := owns_slice own11; clear own11 hb11)
      | (go_at_call 25; refine (SA _ _ (hL _ (And.left (by assumption))) (hd4.lw (And.left (by assumption)))).mono ?_; rintro e w13 ⟨rfl, hb13⟩; have st13 := Stp.mk hb13; clear hb13))
  all_goals
    go_wp2_with fail
    go_ret
    exact ⟨rfl, hL _ (And.left (by assumption))⟩

set_option maxRecDepth 100000 in
theorem lifted (os : Os) (started : os.Started) (H : Type) (enc : TypeId × Value → H) :
    ReturnsInHanded {} Try.checked os 7 .any (Rows.defsDoesSpec.pre6 enc Try.prog Try.f7 Rows.defsDoesRow.domain false) (Rows.defsDoesSpec.post enc Try.prog Try.f7 false true false false) := by
  refine returnsInHanded_of_change (C := Try.checked) own started (by kernel_rfl) Try.func7
    (ChangeSpec.witness6 (enc := enc) (C := Try.checked) false ⟨#[], #[.agg #[.slice none 0 0]], []⟩ 8 (by kernel_rfl) (by kernel_rfl) (by kernel_rfl) (by kernel_rfl)) ?_
  intro W base args ds gs before hval0 hW hcnd _
  have hval : ∀ (j : Nat) t v, Try.f7.params[j]? = some t → args[j]? = some v → Value.okWide Try.prog W .any base t v := hval0
  have hW' := hW
  obtain ⟨p, q, hA0, hV, rfl, hfz, hnd⟩ := hW
  have hA : DataW.TrodAll enc Try.prog W 0 (fun _ => true) true Try.f7.params.toList args.toList ds p := hA0
  rw [Try.params7] at hA hval
  obtain ⟨v0, vs0, d0, ds0, p0, q0, hargs, rfl, rfl, h0, r0⟩ := trodAll_cons hA
  obtain ⟨rfl, rfl, rfl⟩ := trodAll_nil r0
  obtain rfl : args = #[v0] := by cases args; simp_all
  obtain ⟨rfl, rfl⟩ := trodVars_none hV
  have k0 := h0
  have lt0 : ∀ x ∈ p0, x.block < W.heap.size := by obtain ⟨m, hm⟩ := k0; exact DataW.trod_lt m _ _ _ hm
  obtain ⟨xs, ua, rfl, hxs⟩ := open_text (hval 0 24 v0 rfl rfl) h0
  clear hA0 hval0
  refine (walk xs ua W hxs).mono fun e W' ⟨he, bel⟩ => ?_
  subst he
  exact ⟨_, rfl, _, _, _, [], _, [], hW', trodAll_mk1 (shut_bool Try.underlying4 _), (trodAll_cons_mk (Below.trod laidOut (by kernel_rfl) (of_decide_eq_true (by kernel_rfl)) k0 bel lt0) trodAll_mk0), rfl, bel.frame _, fun h => by cases h⟩

theorem stands : Rows.defsDoesRow.holds Try.pinned (OpenSpec.ofChange Rows.defsDoesSpec) :=
  OpenClaim.holds_of_wide 7 Try.f7 rfl rfl rfl rfl rfl rfl rfl ⟨rfl, rfl, rfl, rfl, rfl⟩ rfl rfl rfl rfl rfl (by kernel_rfl) Try.func7 (by kernel_rfl)
    (of_decide_eq_true (by kernel_rfl)) (by unfold Func.isWrapper; first | (rw [if_pos (by decide +kernel)]; kernel_rfl) | (rw [if_neg (by decide +kernel)]; exact ⟨rfl, rfl⟩))
    (fun os started H enc _ => lifted os started H enc)

theorem proved : Rows.DefsDoesSaid := stands
#print axioms proved
end Go.Proofs.Ytdikjhfnmkejcab.defsDoes
