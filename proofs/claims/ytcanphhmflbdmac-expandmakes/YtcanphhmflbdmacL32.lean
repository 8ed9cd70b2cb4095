/- Proved: for every text ExpandMakes returns true (expand.Make answers as the document's own function does, its grammar is right where there is no fault, and what it was handed stays), and the text reads as before. No condition. -/
import Derived.Test.YtcanphhmflbdmacL31
import Derived.Deep.RegionHeld3
import Derived.Test.YtcanphhmflbdmacL30
import Derived.Test.YtcanphhmflbdmacRows
import Derived.ProofKit
import Derived.OpenShut
import Derived.ShutString
import Derived.ChangeOld
namespace Go.Proofs.Ytcanphhmflbdmac.expandMakes
open Go.Proofs.Ytcanphhmflbdmac
open Go.ChangeShapes Go.WideShapes Go.ChangeAt Go.RowKit G

theorem own : ownKnob Try.prog.godebug = none := by kernel_rfl
theorem laidOut : laidOutB Try.prog = true := by kernel_rfl
/-- What the last statement reads, in a later world. -/
theorem stk7 {W a b : World} {p m : Nat} {tv g0 g1 g2 g3 g4 g5 : Value} (st : Stp a b) (h : Below W.heap.size W a ∧ a.cell? ⟨p, 0, none⟩ = some tv ∧ a.cell? ⟨m, 0, none⟩ = some g0 ∧ a.cell? ⟨m, 1, none⟩ = some g1 ∧ a.cell? ⟨m, 2, none⟩ = some g2 ∧ a.cell? ⟨m, 3, none⟩ = some g3 ∧ a.cell? ⟨m, 4, none⟩ = some g4 ∧ a.cell? ⟨m, 5, none⟩ = some g5) :
    Below W.heap.size W b ∧ b.cell? ⟨p, 0, none⟩ = some tv ∧ b.cell? ⟨m, 0, none⟩ = some g0 ∧ b.cell? ⟨m, 1, none⟩ = some g1 ∧ b.cell? ⟨m, 2, none⟩ = some g2 ∧ b.cell? ⟨m, 3, none⟩ = some g3 ∧ b.cell? ⟨m, 4, none⟩ = some g4 ∧ b.cell? ⟨m, 5, none⟩ = some g5 :=
  ⟨h.1.trans (st.h.mono h.1.size), bkeep st.h h.2.1, bkeep st.h h.2.2.1, bkeep st.h h.2.2.2.1, bkeep st.h h.2.2.2.2.1, bkeep st.h h.2.2.2.2.2.1, bkeep st.h h.2.2.2.2.2.2.1, bkeep st.h h.2.2.2.2.2.2.2⟩
set_option maxRecDepth 100000 in
set_option maxHeartbeats 16000000 in
theorem walk (ds : List Df) (va : Value) (w : World) (hA : DsV w All va ds) :
    Calls Try.prog 4 #[.agg #[va]] w fun e w' => e = .returned (.bool true) ∧ Below w.heap.size w w' := by
  have GA := fun w' (hb : Below w.heap.size w w') => grt_all ds va w' (hA.lw hb)
  have OA := fun w' (hb : Below w.heap.size w w') => ownT_any ds va w' (hA.lw hb)
  have XA := fun w' (hb : Below w.heap.size w w') => expanded_all ds va w' (hA.lw hb)
  have MA := fun w' vb hB => make_all ds vb w' hB
  have NA := fun w' (hb : Below w.heap.size w w') => namesOf_any ds va w' (hA.lw hb)
  have TA := fun w' (hb : Below w.heap.size w w') => termsOf_any ds va w' (hA.lw hb)
  have SA := fun w' vb (hb : Below w.heap.size w w') hB => same_ref_true ds vb va w' hB (hA.lw hb)
  have hnl := nms_len ds
  have hrl := exGm_rl ds
  have hfr := fun h => (exF_right (ds := ds) h).2.2
  have hN0 : (exF ds).1 = 0 → exN ds = nms ds := fun h => if_pos h
  have hT0 : (exF ds).1 = 0 → exT ds = trms ds := fun h => if_pos h
  have hN1 : (exF ds).1 ≠ 0 → exN ds = [] := fun h => if_neg h
  have hT1 : (exF ds).1 ≠ 0 → exT ds = [] := fun h => if_neg h
  unfold ExD at XA
  generalize exF ds = D at *
  obtain ⟨D1, D2⟩ := D
  generalize exGm ds = g at *
  simp only at MA XA hfr hN0 hT0 hN1 hT1
  obtain ⟨hl, ao, cap, rfl, _⟩ := hA
  go_enter Try.func4, Try.ntmps4
  go_wp2_with fail
  refine (ebegun_any _).mono ?_
  rintro e w1 ⟨rfl, hb1⟩
  have e0 : w1.cell? ⟨w.heap.size, 0, none⟩ = some (.slice ao ds.length cap) := bkeep hb1 (by simp)
  have bel1 : Below w.heap.size w w1 := bthen (al1 _ _) hb1
  clear hb1
  go_wp2_with fail
  refine (GA _ bel1).mono ?_
  rintro e w2 ⟨q, rfl, hq, hb2⟩
  have bel2 : Below w.heap.size w w2 := bthen bel1 hb2
  have f0 := bkeep hb2 e0
  cases q with
  | true =>
    go_wp2_with fail
    go_ret
    exact ⟨rfl, bel2⟩
  | false =>
  obtain ⟨h60, hsz⟩ := hq rfl
  have htl := trms_len h60 (fun d hd => (hsz d hd).1)
  have OA2 := OA _ bel2 h60 (fun d hd => (hsz d hd).1)
  have XA' := fun w' hb => XA w' hb h60 hsz
  have NA' := fun w' hb => NA w' hb h60
  have TA' := fun w' hb => TA w' hb h60 (fun d hd => (hsz d hd).1)
  have MA' := fun w' vb hB => MA w' vb hB h60 hsz
  clear GA hq hb2 e0 OA XA NA TA MA hsz
  generalize nms ds = N at *
  generalize trms ds = T at *
  generalize exN ds = N' at *
  generalize exT ds = T' at *
  have hNl : N.length ≤ 9223372036854775807 := by omega
  have hTl : T.length ≤ 9223372036854775807 := by omega
  clear hnl htl
  go_wp2_with fail
  refine OA2.mono ?_
  rintro e w3 ⟨v3, rfl, hd3, hb3⟩
  have hd3' : DsV w3 All v3 ds := hd3.mono fun _ _ _ _ h => ⟨trivial, h⟩
  clear hd3 OA2
  obtain ⟨_, ao3, cap3, rfl, _⟩ := id hd3'
  obtain ⟨W4, hW4⟩ : ∃ W4, W4 = w3.alloc (.cells #[.slice ao3 ds.length cap3] 42) := ⟨_, rfl⟩
  have h4 : Below w3.heap.size w3 W4 := by rw [hW4]; exact al1 _ _
  have bel3 : Below w.heap.size w w3 := bthen bel2 hb3
  have bel4 : Below w.heap.size w W4 := bthen bel3 h4
  have g0 : W4.cell? ⟨w.heap.size, 0, none⟩ = some (.slice ao ds.length cap) := bkeep h4 (bkeep hb3 f0)
  have k0 : W4.cell? ⟨w3.heap.size, 0, none⟩ = some (.slice ao3 ds.length cap3) := by rw [hW4]; simp
  have hd4 : DsV W4 All (.slice ao3 ds.length cap3) ds := hd3'.lw h4
  clear hb3 f0 hd3' bel3 bel2 bel1
  go_wp2_with fail
  rw [← hW4]
  have HW4 := hd hW4
  clear hW4
  refine (MA' W4 _ hd4).mono ?_
  rintro e w5 ⟨vr, vn, vt, rfl, rs5, sn5, st5, hb5⟩
  obtain ⟨aor, capr, rfl⟩ := rs5.slice
  obtain ⟨aon, capn, rfl⟩ := sn5.slice
  obtain ⟨aot, capt, rfl⟩ := st5.slice
  obtain ⟨W6, hW6⟩ : ∃ W6, W6 = (w5.alloc (.cells #[.int .i64 g.vars, .int .i64 g.terms, .int .i64 g.start, .slice aor g.rules.length capr, .slice aon N'.length capn, .slice aot T'.length capt] 47)).alloc (.cells #[.int .i64 D1, .int .i64 D2] 29) := ⟨_, rfl⟩
  have h6 : Below w5.heap.size w5 W6 := by rw [hW6]; exact al2 _ _ _
  have b46 : Below W4.heap.size W4 W6 := bthen hb5 h6
  have m0 : W6.cell? ⟨w5.heap.size, 0, none⟩ = some (.int .i64 g.vars) := by rw [hW6]; simp [go_sem]
  have m1 : W6.cell? ⟨w5.heap.size, 1, none⟩ = some (.int .i64 g.terms) := by rw [hW6]; simp [go_sem]
  have m2 : W6.cell? ⟨w5.heap.size, 2, none⟩ = some (.int .i64 g.start) := by rw [hW6]; simp [go_sem]
  have m3 : W6.cell? ⟨w5.heap.size, 3, none⟩ = some (.slice aor g.rules.length capr) := by rw [hW6]; simp [go_sem]
  have m4 : W6.cell? ⟨w5.heap.size, 4, none⟩ = some (.slice aon N'.length capn) := by rw [hW6]; simp [go_sem]
  have m5 : W6.cell? ⟨w5.heap.size, 5, none⟩ = some (.slice aot T'.length capt) := by rw [hW6]; simp [go_sem]
  have n0 : W6.cell? ⟨w5.heap.size + 1, 0, none⟩ = some (.int .i64 D1) := by rw [hW6]; simp [go_sem]
  have n1 : W6.cell? ⟨w5.heap.size + 1, 1, none⟩ = some (.int .i64 D2) := by rw [hW6]; simp [go_sem]
  have g6 := bkeep b46 g0
  have k6 := bkeep b46 k0
  have rs6 := (rs5.lw h6).all
  have sn6 := sn5.below h6
  have st6 := st5.below h6
  have bel6 : Below w.heap.size w W6 := bthen bel4 b46
  have hd6 := hd4.lw b46
  clear rs5 sn5 st5 hd4 g0 k0
  go_upto_region 7 with fail
  rw [← hW6]
  have HW6 := hd hW6
  clear hW6
  go_wp2_with fail
  refine (XA' W6 bel6).mono ?_
  rintro e w7 ⟨vr', rfl, rs7, hb7⟩
  obtain ⟨aor', capr', rfl⟩ := rs7.slice
  obtain ⟨W8, hW8⟩ : ∃ W8, W8 = (w7.alloc (.cells #[.int .i64 g.vars, .int .i64 g.terms, .int .i64 g.start, .slice aor' g.rules.length capr'] 24)).alloc (.cells #[.int .i64 D1, .int .i64 D2] 29) := ⟨_, rfl⟩
  have h8 : Below w7.heap.size w7 W8 := by rw [hW8]; exact al2 _ _ _
  have b68 : Below W6.heap.size W6 W8 := bthen hb7 h8
  have p0 : W8.cell? ⟨w7.heap.size, 0, none⟩ = some (.int .i64 g.vars) := by rw [hW8]; simp [go_sem]
  have p1 : W8.cell? ⟨w7.heap.size, 1, none⟩ = some (.int .i64 g.terms) := by rw [hW8]; simp [go_sem]
  have p2 : W8.cell? ⟨w7.heap.size, 2, none⟩ = some (.int .i64 g.start) := by rw [hW8]; simp [go_sem]
  have p3 : W8.cell? ⟨w7.heap.size, 3, none⟩ = some (.slice aor' g.rules.length capr') := by rw [hW8]; simp [go_sem]
  have q0 : W8.cell? ⟨w7.heap.size + 1, 0, none⟩ = some (.int .i64 D1) := by rw [hW8]; simp [go_sem]
  have q1 : W8.cell? ⟨w7.heap.size + 1, 1, none⟩ = some (.int .i64 D2) := by rw [hW8]; simp [go_sem]
  have m0' := bkeep b68 m0
  have m1' := bkeep b68 m1
  have m2' := bkeep b68 m2
  have m3' := bkeep b68 m3
  have m4' := bkeep b68 m4
  have m5' := bkeep b68 m5
  have n0' := bkeep b68 n0
  have n1' := bkeep b68 n1
  have g8 := bkeep b68 g6
  have k8 := bkeep b68 k6
  have rs8 := rs6.lw b68
  have sn8 := sn6.below b68
  have st8 := st6.below b68
  have rx8 := (rs7.lw h8).all
  have bel8 : Below w.heap.size w W8 := bthen bel6 b68
  have hd8 := hd6.lw b68
  have SG := sameGram_any g g (.agg #[.int .i64 g.vars, .int .i64 g.terms, .int .i64 g.start, .slice aor g.rules.length capr]) (.agg #[.int .i64 g.vars, .int .i64 g.terms, .int .i64 g.start, .slice aor' g.rules.length capr']) W8 ⟨_, rfl, rs8⟩ ⟨_, rfl, rx8⟩
  rw [decide_eq_true rfl] at SG
  clear m0 m1 m2 m3 m4 m5 n0 n1 g6 k6 rs6 sn6 st6 rs7 hd6 rx8
  go_upto_region 8 with fail
  rw [← hW8]
  have HW8 := hd hW8
  clear hW8
  go_wp2_with fail
  refine SG.mono ?_
  rintro e w9 ⟨rfl, hb9⟩
  have bel9 : Below w.heap.size w w9 := bthen bel8 hb9
  have ST := SA w9 _ bel9 (hd8.lw hb9)
  have g9 := bkeep hb9 g8
  have k9 := bkeep hb9 k8
  clear SG
  go_wp2_with fail
  refine ST.mono ?_
  rintro e w10 ⟨rfl, hb10⟩
  have b810 : Below W8.heap.size W8 w10 := bthen hb9 hb10
  have bel10 : Below w.heap.size w w10 := bthen bel8 b810
  have i0 := bkeep b810 m0'
  have i1 := bkeep b810 m1'
  have i2 := bkeep b810 m2'
  have i3 := bkeep b810 m3'
  have i4 := bkeep b810 m4'
  have i5 := bkeep b810 m5'
  have j0 := bkeep b810 n0'
  have g10 := bkeep b810 g8
  have rs10 := rs8.lw b810
  have sn10 := sn8.below b810
  have st10 := st8.below b810
  clear m0' m1' m2' m3' m4' m5' n0' n1' g8 k8 rs8 sn8 st8 hd8 ST p0 p1 p2 p3 q0 q1 g9 k9 SA
  by_cases hD : D1 = 0
  · obtain rfl := hN0 hD
    obtain rfl := hT0 hD
    have hgf := hfr hD
    subst hD
    have GF := fun w' (hb : Below w10.heap.size w10 w') => gramFault_any g (.agg #[.int .i64 g.vars, .int .i64 g.terms, .int .i64 g.start, .slice aor g.rules.length capr]) w' ⟨_, rfl, rs10.lw hb⟩
    rw [hgf] at GF
    generalize (gFl g).2 = G2 at *
    have hL : ∀ z, Below w10.heap.size w10 z → Below w.heap.size w z := fun z hz => bthen bel10 hz
    have s0 : Below w10.heap.size w10 w10 ∧ w10.cell? ⟨w.heap.size, 0, none⟩ = some (.slice ao ds.length cap) ∧ w10.cell? ⟨w5.heap.size, 0, none⟩ = some (.int .i64 g.vars) ∧ w10.cell? ⟨w5.heap.size, 1, none⟩ = some (.int .i64 g.terms) ∧ w10.cell? ⟨w5.heap.size, 2, none⟩ = some (.int .i64 g.start) ∧ w10.cell? ⟨w5.heap.size, 3, none⟩ = some (.slice aor g.rules.length capr) ∧ w10.cell? ⟨w5.heap.size, 4, none⟩ = some (.slice aon N'.length capn) ∧ w10.cell? ⟨w5.heap.size, 5, none⟩ = some (.slice aot T'.length capt) := ⟨Below.refl _ _, g10, i0, i1, i2, i3, i4, i5⟩
    have s1 := stk7 ⟨drw1 w10⟩ s0
    have hfi := fun a b w => field0 a b w
    clear hfr hN0 hT0 hN1 hT1 i0 i1 i2 i3 i4 i5 g10 rs10
    go_wp2_with fail
    refine wp_region_noPanic ?_
    refine wp_region_held_drew (S := fun w' => Below w10.heap.size w10 w' ∧ World.cell? w' ⟨w.heap.size, 0, none⟩ = some (.slice ao ds.length cap) ∧ World.cell? w' ⟨w5.heap.size, 0, none⟩ = some (.int .i64 g.vars) ∧ World.cell? w' ⟨w5.heap.size, 1, none⟩ = some (.int .i64 g.terms) ∧ World.cell? w' ⟨w5.heap.size, 2, none⟩ = some (.int .i64 g.start) ∧ World.cell? w' ⟨w5.heap.size, 3, none⟩ = some (.slice aor g.rules.length capr) ∧ World.cell? w' ⟨w5.heap.size, 4, none⟩ = some (.slice aon N'.length capn) ∧ World.cell? w' ⟨w5.heap.size, 5, none⟩ = some (.slice aot T'.length capt)) (by kernel_rfl) s1 ?_
    intro hSw
    obtain ⟨y0, hy0⟩ : ∃ y0, y0 = w10.drew := ⟨_, rfl⟩
    rw [← hy0] at hSw ⊢
    clear hy0
    refine wpAnyH_take (i := 0) (v := ?v1) rfl (by kernel_rfl) (by kernel_rfl) (by kernel_rfl) (fun _ _ _ h => np_panic h) (Or.inl ⟨by rfl, ?hy1⟩) (by assumption) ?_
    case hy1 => (intro w' hS'; (try dsimp only at hS'); go_simp; try with_reducible rfl)
    simp only [Act.put, List.setIfInBounds_toArray, List.set_cons_zero, List.set_cons_succ, List.getElem_toArray, List.getElem_cons_zero]
    refine wpAnyH_take (i := 1) (v := ?v2) rfl (by kernel_rfl) (by kernel_rfl) (by kernel_rfl) (fun _ _ _ h => np_panic h) (Or.inl ⟨by rfl, ?hy2⟩) (by assumption) ?_
    case hy2 => (intro w' hS'; (try dsimp only at hS'); go_simp; try with_reducible rfl)
    simp only [Act.put, List.setIfInBounds_toArray, List.set_cons_zero, List.set_cons_succ, List.getElem_toArray, List.getElem_cons_succ, List.getElem_cons_zero]
    refine wpAnyH_take (i := 2) (v := ?v3) rfl (by kernel_rfl) (by kernel_rfl) (by kernel_rfl) (fun _ _ _ h => np_panic h) (Or.inl ⟨by rfl, ?hy3⟩) (by assumption) ?_
    case hy3 => (intro w' hS'; (try dsimp only at hS'); go_simp; try with_reducible rfl)
    simp only [Act.put, List.setIfInBounds_toArray, List.set_cons_zero, List.set_cons_succ, List.getElem_toArray, List.getElem_cons_succ, List.getElem_cons_zero]
    refine wpAnyH_ready (rs := [3]) (by kernel_rfl) (by simp) ?_
    refine AllReadyH.cons rfl (fun K hK => ?_) AllReadyH.nil
    go_simp
    go_at_call 26
    refine (NA' _ (hL _ hSw.1)).mono ?_
    rintro e w11 ⟨v11, rfl, own11, hb11⟩
    have c11 := stk7 ⟨hb11⟩ hSw
    have s11 := SsV_owned own11 hNl
    obtain ⟨ao11, cap11, rfl⟩ := owns_slice own11
    clear own11
    refine hK.out _ _ c11 ?_
    clear hK K
    intro hSw
    try simp only [Act.put, List.setIfInBounds_toArray, List.set_cons_zero, List.set_cons_succ]
    refine wpAnyH_ready (rs := [4]) (by kernel_rfl) (by simp) ?_
    refine AllReadyH.cons rfl (fun K hK => ?_) AllReadyH.nil
    go_simp
    go_at_call 25
    refine (sameStrings_any N' (.slice aon N'.length capn) (.slice ao11 N'.length cap11) w11 (sn10.below hSw.1) s11).mono ?_
    rintro e w12 ⟨rfl, hb12⟩
    have c12 := stk7 ⟨hb12⟩ hSw
    refine hK.out _ _ c12 ?_
    clear hK K
    intro hSw
    try simp only [Act.put, List.setIfInBounds_toArray, List.set_cons_zero, List.set_cons_succ]
    refine wpAnyH_take (i := 5) (v := ?v4) rfl (by kernel_rfl) (by kernel_rfl) (by kernel_rfl) (fun _ _ _ h => np_panic h) (Or.inl ⟨by rfl, ?hy4⟩) (by assumption) ?_
    case hy4 => (intro w' hS'; (try dsimp only at hS'); go_simp; try with_reducible rfl)
    simp only [Act.put, List.setIfInBounds_toArray, List.set_cons_zero, List.set_cons_succ, List.getElem_toArray, List.getElem_cons_succ, List.getElem_cons_zero]
    refine wpAnyH_take (i := 6) (v := ?v5) rfl (by kernel_rfl) (by kernel_rfl) (by kernel_rfl) (fun _ _ _ h => np_panic h) (Or.inl ⟨by rfl, ?hy5⟩) (by assumption) ?_
    case hy5 => (intro w' hS'; (try dsimp only at hS'); go_simp; try with_reducible rfl)
    simp only [Act.put, List.setIfInBounds_toArray, List.set_cons_zero, List.set_cons_succ, List.getElem_toArray, List.getElem_cons_succ, List.getElem_cons_zero]
    refine wpAnyH_take (i := 7) (v := ?v6) rfl (by kernel_rfl) (by kernel_rfl) (by kernel_rfl) (fun _ _ _ h => np_panic h) (Or.inl ⟨by rfl, ?hy6⟩) (by assumption) ?_
    case hy6 => (intro w' hS'; (try dsimp only at hS'); go_simp; try with_reducible rfl)
    simp only [Act.put, List.setIfInBounds_toArray, List.set_cons_zero, List.set_cons_succ, List.getElem_toArray, List.getElem_cons_succ, List.getElem_cons_zero]
    refine wpAnyH_take (i := 8) (v := ?v7) rfl (by kernel_rfl) (by kernel_rfl) (by kernel_rfl) (fun _ _ _ h => np_panic h) (Or.inl ⟨by rfl, ?hy7⟩) (by assumption) ?_
    case hy7 => (intro w' hS'; (try dsimp only at hS'); go_simp; try with_reducible rfl)
    simp only [Act.put, List.setIfInBounds_toArray, List.set_cons_zero, List.set_cons_succ, List.getElem_toArray, List.getElem_cons_succ, List.getElem_cons_zero]
    refine wpAnyH_ready (rs := [9]) (by kernel_rfl) (by simp) ?_
    refine AllReadyH.cons rfl (fun K hK => ?_) AllReadyH.nil
    go_simp
    go_at_call 27
    refine (TA' _ (hL _ hSw.1)).mono ?_
    rintro e w13 ⟨v13, rfl, own13, hb13⟩
    have c13 := stk7 ⟨hb13⟩ hSw
    have s13 := SsV_owned own13 hTl
    obtain ⟨ao13, cap13, rfl⟩ := owns_slice own13
    clear own13
    refine hK.out _ _ c13 ?_
    clear hK K
    intro hSw
    try simp only [Act.put, List.setIfInBounds_toArray, List.set_cons_zero, List.set_cons_succ]
    refine wpAnyH_ready (rs := [10]) (by kernel_rfl) (by simp) ?_
    refine AllReadyH.cons rfl (fun K hK => ?_) AllReadyH.nil
    go_simp
    go_at_call 25
    refine (sameStrings_any T' (.slice aot T'.length capt) (.slice ao13 T'.length cap13) w13 (st10.below hSw.1) s13).mono ?_
    rintro e w14 ⟨rfl, hb14⟩
    have c14 := stk7 ⟨hb14⟩ hSw
    refine hK.out _ _ c14 ?_
    clear hK K
    intro hSw
    try simp only [Act.put, List.setIfInBounds_toArray, List.set_cons_zero, List.set_cons_succ]
    refine wpAnyH_take (i := 11) (v := ?v8) rfl (by kernel_rfl) (by kernel_rfl) (by kernel_rfl) (fun _ _ _ h => np_panic h) (Or.inl ⟨by rfl, ?hy8⟩) (by assumption) ?_
    case hy8 => (intro w' hS'; (try dsimp only at hS'); go_simp; try with_reducible rfl)
    simp only [Act.put, List.setIfInBounds_toArray, List.set_cons_zero, List.set_cons_succ, List.getElem_toArray, List.getElem_cons_succ, List.getElem_cons_zero]
    refine wpAnyH_take (i := 12) (v := ?v9) rfl (by kernel_rfl) (by kernel_rfl) (by kernel_rfl) (fun _ _ _ h => np_panic h) (Or.inl ⟨by rfl, ?hy9⟩) (by assumption) ?_
    case hy9 => (intro w' hS'; (try dsimp only at hS'); go_simp; try with_reducible rfl)
    simp only [Act.put, List.setIfInBounds_toArray, List.set_cons_zero, List.set_cons_succ, List.getElem_toArray, List.getElem_cons_succ, List.getElem_cons_zero]
    refine wpAnyH_take (i := 13) (v := ?v10) rfl (by kernel_rfl) (by kernel_rfl) (by kernel_rfl) (fun _ _ _ h => np_panic h) (Or.inl ⟨by rfl, ?hy10⟩) (by assumption) ?_
    case hy10 => (intro w' hS'; (try dsimp only at hS'); go_simp; try with_reducible rfl)
    simp only [Act.put, List.setIfInBounds_toArray, List.set_cons_zero, List.set_cons_succ, List.getElem_toArray, List.getElem_cons_succ, List.getElem_cons_zero]
    refine wpAnyH_take (i := 14) (v := ?v11) rfl (by kernel_rfl) (by kernel_rfl) (by kernel_rfl) (fun _ _ _ h => np_panic h) (Or.inl ⟨by rfl, ?hy11⟩) (by assumption) ?_
    case hy11 => (intro w' hS'; (try dsimp only at hS'); go_simp; try with_reducible rfl)
    simp only [Act.put, List.setIfInBounds_toArray, List.set_cons_zero, List.set_cons_succ, List.getElem_toArray, List.getElem_cons_succ, List.getElem_cons_zero]
    refine wpAnyH_ready (rs := [15]) (by kernel_rfl) (by simp) ?_
    refine AllReadyH.cons rfl (fun K hK => ?_) AllReadyH.nil
    go_simp
    go_at_call 10
    refine (GF _ hSw.1).mono ?_
    rintro e w15 ⟨rfl, hb15⟩
    have c15 := stk7 ⟨hb15⟩ hSw
    refine hK.out _ _ c15 ?_
    clear hK K
    intro hSw
    try simp only [Act.put, List.setIfInBounds_toArray, List.set_cons_zero, List.set_cons_succ]
    refine wpAnyH_take (i := 16) (v := ?v12) rfl (by kernel_rfl) (by kernel_rfl) (by kernel_rfl) (fun _ _ _ h => np_panic h) (Or.inl ⟨by rfl, ?hy12⟩) (by assumption) ?_
    case hy12 => (intro w' hS'; (try dsimp only at hS'); go_simp; try with_reducible rfl)
    simp only [Act.put, List.setIfInBounds_toArray, List.set_cons_zero, List.set_cons_succ, List.getElem_toArray, List.getElem_cons_succ, List.getElem_cons_zero]
    refine wpAnyH_take (i := 17) (v := ?v13) rfl (by kernel_rfl) (by kernel_rfl) (by kernel_rfl) (fun _ _ _ h => np_panic h) (Or.inl ⟨by rfl, ?hy13⟩) (by assumption) ?_
    case hy13 => (intro w' hS'; (try dsimp only at hS'); go_simp; try with_reducible rfl)
    simp only [Act.put, List.setIfInBounds_toArray, List.set_cons_zero, List.set_cons_succ, List.getElem_toArray, List.getElem_cons_succ, List.getElem_cons_zero]
    refine wpAnyH_take (i := 18) (v := ?v14) rfl (by kernel_rfl) (by kernel_rfl) (by kernel_rfl) (fun _ _ _ h => np_panic h) (Or.inl ⟨by rfl, ?hy14⟩) (by assumption) ?_
    case hy14 => (intro w' hS'; (try dsimp only at hS'); go_simp; try with_reducible rfl)
    simp only [Act.put, List.setIfInBounds_toArray, List.set_cons_zero, List.set_cons_succ, List.getElem_toArray, List.getElem_cons_succ, List.getElem_cons_zero]
    refine wpAnyH_take (i := 19) (v := ?v15) rfl (by kernel_rfl) (by kernel_rfl) (by kernel_rfl) (fun _ _ _ h => np_panic h) (Or.inl ⟨by rfl, ?hy15⟩) (by assumption) ?_
    case hy15 => (intro w' hS'; (try dsimp only at hS'); go_simp; try with_reducible rfl)
    simp only [Act.put, List.setIfInBounds_toArray, List.set_cons_zero, List.set_cons_succ, List.getElem_toArray, List.getElem_cons_succ, List.getElem_cons_zero]
    refine wpAnyH_done (by kernel_rfl) (NoPanic.normal ?_) _
    go_wp2_with fail
    go_ret
    exact ⟨rfl, hL _ hSw.1⟩
  · have hDb : (D1 != 0) = true := by simpa using hD
    obtain rfl := hN1 hD
    obtain rfl := hT1 hD
    simp only [List.length_nil] at i4 i5
    go_wp2_with fail
    go_ret
    exact ⟨rfl, bel10⟩

set_option maxRecDepth 100000 in
theorem lifted (os : Os) (started : os.Started) (H : Type) (enc : TypeId × Value → H) :
    ReturnsInHanded {} Try.checked os 4 .any (Rows.expandMakesSpec.pre6 enc Try.prog Try.f4 Rows.expandMakesRow.domain false) (Rows.expandMakesSpec.post enc Try.prog Try.f4 false true false false) := by
  refine returnsInHanded_of_change (C := Try.checked) own started (by kernel_rfl) Try.func4
    (ChangeSpec.witness6 (enc := enc) (C := Try.checked) false ⟨#[], #[.agg #[.slice none 0 0]], []⟩ 8 (by kernel_rfl) (by kernel_rfl) (by kernel_rfl) (by kernel_rfl)) ?_
  intro W base args ds gs before hval0 hW hcnd _
  have hval : ∀ (j : Nat) t v, Try.f4.params[j]? = some t → args[j]? = some v → Value.okWide Try.prog W .any base t v := hval0
  have hW' := hW
  obtain ⟨p, q, hA0, hV, rfl, hfz, hnd⟩ := hW
  have hA : DataW.TrodAll enc Try.prog W 0 (fun _ => true) true Try.f4.params.toList args.toList ds p := hA0
  rw [Try.params4] at hA hval
  obtain ⟨v0, vs0, d0, ds0, p0, q0, hargs, rfl, rfl, h0, r0⟩ := trodAll_cons hA
  obtain ⟨rfl, rfl, rfl⟩ := trodAll_nil r0
  obtain rfl : args = #[v0] := by cases args; simp_all
  obtain ⟨rfl, rfl⟩ := trodVars_none hV
  have k0 := h0
  have lt0 : ∀ x ∈ p0, x.block < W.heap.size := by obtain ⟨m, hm⟩ := k0; exact DataW.trod_lt m _ _ _ hm
  obtain ⟨xs, ua, rfl, hxs⟩ := open_text (hval 0 42 v0 rfl rfl) h0
  clear hA0 hval0
  refine (walk xs ua W hxs).mono fun e W' ⟨he, bel⟩ => ?_
  subst he
  exact ⟨_, rfl, _, _, _, [], _, [], hW', trodAll_mk1 (shut_bool Try.underlying4 _), (trodAll_cons_mk (Below.trod laidOut (by kernel_rfl) (of_decide_eq_true (by kernel_rfl)) k0 bel lt0) trodAll_mk0), rfl, bel.frame _, fun h => by cases h⟩

theorem stands : Rows.expandMakesRow.holds Try.pinned (OpenSpec.ofChange Rows.expandMakesSpec) :=
  OpenClaim.holds_of_wide 4 Try.f4 rfl rfl rfl rfl rfl rfl rfl ⟨rfl, rfl, rfl, rfl, rfl⟩ rfl rfl rfl rfl rfl (by kernel_rfl) Try.func4 (by kernel_rfl)
    (of_decide_eq_true (by kernel_rfl)) (by unfold Func.isWrapper; first | (rw [if_pos (by decide +kernel)]; kernel_rfl) | (rw [if_neg (by decide +kernel)]; exact ⟨rfl, rfl⟩))
    (fun os started H enc _ => lifted os started H enc)

theorem proved : Rows.ExpandMakesSaid := stands
#print axioms proved
end Go.Proofs.Ytcanphhmflbdmac.expandMakes
