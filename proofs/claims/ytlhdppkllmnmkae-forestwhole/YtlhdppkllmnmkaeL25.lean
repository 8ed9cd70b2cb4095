/- Proved: for every grammar and every word ForestWhole returns true (a list is whole: just as many as are counted, each a tree of the word, rising, none twice), and what was handed in reads as before. No condition. -/
import Derived.Test.YtlhdppkllmnmkaeL23
import Derived.Test.YtlhdppkllmnmkaeL24
import Derived.Test.YtlhdppkllmnmkaeL01
import Derived.Test.YtlhdppkllmnmkaeRows
import Derived.ProofKit
import Derived.OpenShut
import Derived.ShutString
import Derived.ChangeOld
namespace Go.Proofs.Ytlhdppkllmnmkae.forestWhole
open Go.Proofs.Ytlhdppkllmnmkae Go.Proofs.Ytlhdppkllmnmkae.G
open Go.ChangeShapes Go.WideShapes Go.ChangeAt Go.RowKit

theorem own : ownKnob Try.prog.godebug = none := by kernel_rfl
theorem laidOut : laidOutB Try.prog = true := by kernel_rfl

theorem lsO_ok {g : Gm} {W : List Int} (h : (lsO g W).1.1 = 0) : (chFl g W).1 = 0 ∧ nAll g W g.vars.toNat ≤ 200 ∧ okL (Trs g.rules W g.vars.toNat g.start 0 W.length) ∧ lsO g W = ((0, 0), lstT (Trs g.rules W g.vars.toNat g.start 0 W.length)) := by
  unfold lsO at h ⊢
  by_cases h1 : (chFl g W).1 ≠ 0
  · rw [if_pos h1] at h; exact absurd h h1
  rw [if_neg h1] at h ⊢
  by_cases h2 : lsFl g W g.vars.toNat ≠ 0
  · rw [if_pos h2] at h; exact absurd h h2
  rw [if_neg h2]
  have h3 : lsFl g W g.vars.toNat = 0 := by simpa using h2
  unfold lsFl at h3
  by_cases h4 : 200 < nAll g W g.vars.toNat
  · rw [if_pos h4] at h3; omega
  rw [if_neg h4] at h3
  by_cases h5 : okL (Trs g.rules W g.vars.toNat g.start 0 W.length)
  · exact ⟨by simpa using h1, by omega, h5, rfl⟩
  · rw [if_neg h5] at h3; omega
theorem lsO_no {g : Gm} {W : List Int} (h : (lsO g W).1.1 ≠ 0) : (lsO g W).2 = .nil := by
  unfold lsO at h ⊢
  by_cases h1 : (chFl g W).1 ≠ 0
  · rw [if_pos h1]
  rw [if_neg h1] at h ⊢
  by_cases h2 : lsFl g W g.vars.toNat ≠ 0
  · rw [if_pos h2]
  · rw [if_neg h2] at h; exact absurd rfl h
set_option maxRecDepth 100000 in
set_option maxHeartbeats 4000000 in
theorem walk (g : Gm) (W : List Int) (va vw : Value) (w : World) (hg : GV w All va g) (hw : IsV w All vw W) :
    Calls Try.prog 6 #[va, vw] w fun e w' => e = .returned (.bool true) ∧ Below w.heap.size w w' := by
  have HV := fun w' (hb : Below w.heap.size w w') => heavy_any g W va vw w' (hg.lw hb) (hw.lw hb)
  have NW := fun w' (hb : Below w.heap.size w w') => chnew_any g W va vw w' (hg.lw hb) (hw.lw hb)
  have hg0 := hg
  have hw0 := hw
  obtain ⟨ua, rfl, ra⟩ := hg
  obtain ⟨ao, cap, rfl⟩ := ra.slice
  obtain ⟨aw, cw, rfl⟩ := hw.slice
  obtain ⟨Z, hZ⟩ : ∃ Z, Z = w.alloc (.cells #[.int .i64 g.vars, .int .i64 g.terms, .int .i64 g.start, .slice ao g.rules.length cap] 24) := ⟨_, rfl⟩
  have hZb : Below w.heap.size w Z := by rw [hZ]; exact al1 _ _
  have x0 : Z.cell? ⟨w.heap.size, 0, none⟩ = some (.int .i64 g.vars) := by rw [hZ]; simp
  have x1 : Z.cell? ⟨w.heap.size, 1, none⟩ = some (.int .i64 g.terms) := by rw [hZ]; simp
  have x2 : Z.cell? ⟨w.heap.size, 2, none⟩ = some (.int .i64 g.start) := by rw [hZ]; simp
  have x3 : Z.cell? ⟨w.heap.size, 3, none⟩ = some (.slice ao g.rules.length cap) := by rw [hZ]; simp
  have HHV := hd HV
  have HNW := hd NW
  clear HV NW
  go_enter Try.func6, Try.ntmps6
  go_wp2_with fail
  rw [← hZ]
  have HZ := hd hZ
  clear hZ
  refine (forestBegun_any _).mono ?_
  rintro e w1 ⟨rfl, hb1⟩
  have b1 := bthen hZb hb1
  have a0 := bkeep hb1 x0
  have a1 := bkeep hb1 x1
  have a2 := bkeep hb1 x2
  have a3 := bkeep hb1 x3
  go_wp2_with fail
  refine (HHV.out w1 b1).mono ?_
  rintro e w2 ⟨q, rfl, hq, hb2⟩
  have b2 := bthen b1 hb2
  have hb12 := bthen hb1 hb2
  have c0 := bkeep hb12 x0
  have c1 := bkeep hb12 x1
  have c2 := bkeep hb12 x2
  have c3 := bkeep hb12 x3
  clear a0 a1 a2 a3
  cases q with
  | true =>
    go_wp2_with fail
    go_ret
    exact ⟨rfl, b2⟩
  | false =>
  have HQ := hd (hq rfl)
  clear hq
  go_wp2_with fail
  have LA := forestList_any g W (.agg #[.int .i64 g.vars, .int .i64 g.terms, .int .i64 g.start, .slice ao g.rules.length cap]) _ w2 (hg0.lw b2) (hw0.lw b2)
  unfold LsR at LA
  obtain ⟨O, hO⟩ : ∃ O, O = lsO g W := ⟨_, rfl⟩
  rw [← hO] at LA
  obtain ⟨⟨D1, D2⟩, T⟩ := O
  dsimp only at LA
  refine LA.mono ?_
  rintro e w3 ⟨v3, rfl, hv3, hb3⟩
  have b3 := bthen b2 hb3
  have hb13 := bthen hb12 hb3
  by_cases hD : D1 = 0
  rotate_left
  · have hcb : (D1 != 0) = true := by simpa using hD
    have hT : T = .nil := by have := lsO_no (g := g) (W := W) (by rw [← hO]; exact hD); rw [← hO] at this; exact this
    subst hT
    obtain ⟨a3, c3', rfl, _⟩ := id hv3.slice
    have hl0 : Tf.len .nil = 0 := rfl
    clear hO hD
    go_wp2_with fail
    go_ret
    exact ⟨rfl, bthen b3 (al1 _ _)⟩
  subst hD
  obtain ⟨H0, hN200, hok, hOO⟩ := lsO_ok (g := g) (W := W) (by rw [← hO])
  rw [← hO] at hOO
  obtain ⟨rfl, rfl⟩ : D2 = 0 ∧ T = lstT (Trs g.rules W g.vars.toNat g.start 0 W.length) := by
    simp only [Prod.mk.injEq] at hOO
    exact ⟨hOO.1.2, hOO.2⟩
  clear hO hOO LA
  obtain ⟨a3, c3', rfl, _⟩ := id hv3.slice
  obtain ⟨w4, hw4⟩ : ∃ w4, w4 = w3.alloc (.cells #[.int .i64 0, .int .i64 0] 30) := ⟨_, rfl⟩
  have hb4 : Below w3.heap.size w3 w4 := by rw [hw4]; exact al1 _ _
  have b4 := bthen b3 hb4
  have hb14 := bthen hb13 hb4
  have d0 := bkeep hb14 x0
  have d1 := bkeep hb14 x1
  have d2 := bkeep hb14 x2
  have d3 := bkeep hb14 x3
  have l0 := d0
  have l1 := d1
  have l2 := d2
  have l3 := d3
  rw [hw4] at l0 l1 l2 l3
  have HOK := hd hok
  clear c0 c1 c2 c3 hok
  go_wp2_with fail
  rw [← hw4]
  have HW4 := hd hw4
  clear hw4 l0 l1 l2 l3
  refine (HNW.out w4 b4).mono ?_
  rintro e w5 ⟨hb5, hn⟩
  have b5 := bthen b4 hb5
  have hb15 := bthen hb14 hb5
  rcases hn with ⟨hc, rfl⟩ | ⟨cb, tb, rb, V, E, vR, vW, h0, h00, rfl, hG, hE, hs5, z1, z2, z3⟩
  · exact absurd H0 hc
  obtain rfl := hG.vars
  have H0' := hd H0
  clear h0 h00 H0 HNW HHV
  obtain ⟨w6, hw6⟩ : ∃ w6, w6 = w5.alloc (.cells #[.int .i64 0, .int .i64 0] 30) := ⟨_, rfl⟩
  have hb6 : Below w5.heap.size w5 w6 := by rw [hw6]; exact al1 _ _
  have b6 := bthen b5 hb6
  have hb16 := bthen hb15 hb6
  have hs6 := hs5.lw hb6
  have CA := Count_any hG hE w6 hs6
  rw [ofZ_all hG, cM_lt (show nAll g W g.vars.toNat < 4611686018427387904 by omega)] at CA
  have hlen : (lstT (Trs g.rules W g.vars.toNat g.start 0 W.length)).len = nAll g W g.vars.toNat := by rw [lstT_len, all_len hG]
  obtain ⟨N, hN⟩ : ∃ N, N = nAll g W g.vars.toNat := ⟨_, rfl⟩
  rw [← hN] at CA hlen hN200
  have zw4 := b4.size
  have hv6 : TfV w6 All (.slice a3 (lstT (Trs g.rules W g.vars.toNat g.start 0 W.length)).len c3') (lstT (Trs g.rules W g.vars.toNat g.start 0 W.length)) := ((hv3.all.lw hb4).lw hb5).lw hb6
  rw [hlen] at hv6 ⊢
  have HN := hd hN
  have HLEN := hd hlen
  have hnn : ((N : Int) != (N : Int)) = false := by simp
  have e0 := bkeep hb16 x0
  have e1 := bkeep hb16 x1
  have e2 := bkeep hb16 x2
  have e3 := bkeep hb16 x3
  clear hN hlen d0 d1 d2 d3 x0 x1 x2 x3 hv3 hs5
  go_wp2_with fail
  rw [← hw6]
  have HW6 := hd hw6
  clear hw6
  refine CA.mono ?_
  rintro e w7 ⟨rfl, hs7, kt7⟩
  have f0 := hs6.keep kt7 e0
  have f1 := hs6.keep kt7 e1
  have f2 := hs6.keep kt7 e2
  have f3 := hs6.keep kt7 e3
  have b7 : Below w.heap.size w w7 := b6.trans (kt7.below (by omega) (by omega) b6.size)
  have hr7 : RsV w7 All (.slice ao g.rules.length cap) g.rules := (ra.lw b6).mono (hs6.keepA kt7)
  have hw7 : IsV w7 All (.slice aw W.length cw) W := (hw0.lw b6).mono (hs6.keepA kt7)
  have hv7 := hv6.mono (hs6.keepA kt7)
  have hsm := hG.small
  have hgf : gFl g = (0, 0) := gfl_of H0'.out
  clear CA hs6 hs7 kt7 e0 e1 e2 e3 hv6
  go_wp2_with fail
  go_loopw [9] (fun i wr => ∃ k : Nat, k ≤ N ∧ i = .int .i64 k ∧ Below w7.heap.size w7 wr) (fun i _ => N - (intOf i).toNat)
  case atStart => exact ⟨0, Nat.zero_le _, rfl, Below.refl _ _⟩
  case round =>
    obtain ⟨k, hk, rfl, hbr⟩ := hrel
    have bel := bthen b7 hbr
    by_cases hlt : k < N
    rotate_left
    · go_wp2_with fail
      go_ret
      exact ⟨rfl, bel⟩
    have hkL : k < (Trs g.rules W g.vars.toNat g.start 0 W.length).length := by rw [all_len hG, ← HN.out]; exact hlt
    obtain ⟨bl, ol, rfl, _, c0, aq, cq, c1, hq⟩ := (hv7.lw hbr).at_ (k := k) (by rw [HLEN.out]; exact hlt)
    rw [lstT_at _ k hkL] at c0 c1 hq
    obtain ⟨hfit, hwd, _, _⟩ := Trs_is (R := g.rules) (W := W) (V := g.vars.toNat) (v := g.start) (i := 0) (j := W.length) (Nat.le_refl _) (List.getElem?_eq_getElem hkL)
    rw [seg_full] at hwd
    have hsz : (Trs g.rules W g.vars.toNat g.start 0 W.length)[k].sz ≤ 400 := HOK.out _ (List.getElem_mem hkL)
    have HTK := hd (List.getElem?_eq_getElem hkL)
    generalize (Trs g.rules W g.vars.toNat g.start 0 W.length)[k] = t at *
    have htf : tFl g t g.start = (0, 0) := tFl_fit (b := 0) hgf (by omega) hfit
    have hwe : wdE g t = W := by unfold wdE; rw [htf, if_pos rfl, hwd]
    have WA := fun u (hu : Below wr.heap.size wr u) => word_any g t (.agg #[.int .i64 g.vars, .int .i64 g.terms, .int .i64 g.start, .slice ao g.rules.length cap]) (.agg #[.int .i64 t.rule, .slice aq t.kids.len cq]) u ⟨_, rfl, (hr7.lw hbr).lw hu⟩ (TrV_mk (hq.lw hu)) hsm
    rw [htf, hwe] at WA
    have g0 := bkeep hbr f0
    have g1 := bkeep hbr f1
    have g2 := bkeep hbr f2
    have g3 := bkeep hbr f3
    have eP : wr.drew.cell? ⟨w.heap.size, 0, none⟩ = some (.int .i64 g.vars) ∧ wr.drew.cell? ⟨w.heap.size, 1, none⟩ = some (.int .i64 g.terms) ∧ wr.drew.cell? ⟨w.heap.size, 2, none⟩ = some (.int .i64 g.start) ∧ wr.drew.cell? ⟨w.heap.size, 3, none⟩ = some (.slice ao g.rules.length cap) ∧ wr.drew.cell? ⟨bl, ol + k * 2, none⟩ = some (.int .i64 t.rule) ∧ wr.drew.cell? ⟨bl, ol + k * 2 + 1, none⟩ = some (.slice aq t.kids.len cq) := ⟨g0, g1, g2, g3, c0, c1⟩
    have bD := drw1 wr
    have HKL := hd hkL
    clear hkL
    go_wp2_with fail
    refine wp_region_noPanic ?_
    refine wp_region_held_drew (S := fun w' => w'.cell? ⟨w.heap.size, 0, none⟩ = some (.int .i64 g.vars) ∧ w'.cell? ⟨w.heap.size, 1, none⟩ = some (.int .i64 g.terms) ∧ w'.cell? ⟨w.heap.size, 2, none⟩ = some (.int .i64 g.start) ∧ w'.cell? ⟨w.heap.size, 3, none⟩ = some (.slice ao g.rules.length cap) ∧ w'.cell? ⟨bl, ol + k * 2, none⟩ = some (.int .i64 t.rule) ∧ w'.cell? ⟨bl, ol + k * 2 + 1, none⟩ = some (.slice aq t.kids.len cq)) (by kernel_rfl) eP ?_
    intro hSw
    obtain ⟨y0, hy0⟩ : ∃ y0, y0 = wr.drew := ⟨_, rfl⟩
    rw [← hy0] at hSw bD ⊢
    clear hy0
    refine wpAnyH_take (i := 0) (v := ?v1) rfl (by kernel_rfl) (by kernel_rfl) (by kernel_rfl) (fun _ _ _ h => np_panic h) (Or.inl ⟨by rfl, ?hy1⟩) (by assumption) ?_
    case hy1 => (intro w' hS'; (try dsimp only at hS'); go_simp; try with_reducible rfl)
    simp only [Act.put, List.setIfInBounds_toArray, List.set_cons_zero, List.set_cons_succ, List.getElem_toArray, List.getElem_cons_zero]
    refine wpAnyH_take (i := 1) (v := ?v2) rfl (by kernel_rfl) (by kernel_rfl) (by kernel_rfl) (fun _ _ _ h => np_panic h) (Or.inl ⟨by rfl, ?hy2⟩) (by assumption) ?_
    case hy2 => (intro w' hS'; (try dsimp only at hS'); go_simp; try with_reducible rfl)
    simp only [Act.put, List.setIfInBounds_toArray, List.set_cons_zero, List.set_cons_succ, List.getElem_toArray, List.getElem_cons_succ, List.getElem_cons_zero]
    refine wpAnyH_take (i := 2) (v := ?v3) rfl (by kernel_rfl) (by kernel_rfl) (by kernel_rfl) (fun _ _ _ h => np_panic h) (Or.inl ⟨by rfl, ?hy3⟩) (by assumption) ?_
    case hy3 => (intro w' hS'; (try dsimp only at hS'); go_simp; try with_reducible rfl)
    simp only [Act.put, List.setIfInBounds_toArray, List.set_cons_zero, List.set_cons_succ, List.getElem_toArray, List.getElem_cons_succ, List.getElem_cons_zero]
    refine wpAnyH_take (i := 3) (v := ?v4) rfl (by kernel_rfl) (by kernel_rfl) (by kernel_rfl) (fun _ _ _ h => np_panic h) (Or.inl ⟨by rfl, ?hy4⟩) (by assumption) ?_
    case hy4 => (intro w' hS'; (try dsimp only at hS'); go_simp; try with_reducible rfl)
    simp only [Act.put, List.setIfInBounds_toArray, List.set_cons_zero, List.set_cons_succ, List.getElem_toArray, List.getElem_cons_succ, List.getElem_cons_zero]
    refine wpAnyH_take (i := 4) (v := ?v5) rfl (by kernel_rfl) (by kernel_rfl) (by kernel_rfl) (fun _ _ _ h => np_panic h) (Or.inl ⟨by rfl, ?hy5⟩) (by assumption) ?_
    case hy5 => (intro w' hS'; (try dsimp only at hS'); go_simp; try with_reducible rfl)
    simp only [Act.put, List.setIfInBounds_toArray, List.set_cons_zero, List.set_cons_succ, List.getElem_toArray, List.getElem_cons_succ, List.getElem_cons_zero]
    refine wpAnyH_ready (rs := [5, 9]) (by kernel_rfl) (by simp) ?_
    refine AllReadyH.cons rfl (fun K hK => ?_) (AllReadyH.cons rfl (fun K hK => ?_) AllReadyH.nil)
    focus
      go_simp
      go_at_call 20
      refine (WA _ bD).mono ?_
      rintro e y1 ⟨v8, rfl, hi8, bq0⟩
      obtain ⟨a8, c8, rfl⟩ := hi8.slice
      have hi8 := hi8.all
      have bD := bthen bD bq0
      have e1 : y1.cell? ⟨w.heap.size, 0, none⟩ = some (.int .i64 g.vars) ∧ y1.cell? ⟨w.heap.size, 1, none⟩ = some (.int .i64 g.terms) ∧ y1.cell? ⟨w.heap.size, 2, none⟩ = some (.int .i64 g.start) ∧ y1.cell? ⟨w.heap.size, 3, none⟩ = some (.slice ao g.rules.length cap) ∧ y1.cell? ⟨bl, ol + k * 2, none⟩ = some (.int .i64 t.rule) ∧ y1.cell? ⟨bl, ol + k * 2 + 1, none⟩ = some (.slice aq t.kids.len cq) := ⟨bkeep bq0 hSw.1, bkeep bq0 hSw.2.1, bkeep bq0 hSw.2.2.1, bkeep bq0 hSw.2.2.2.1, bkeep bq0 hSw.2.2.2.2.1, bkeep bq0 hSw.2.2.2.2.2⟩
      refine hK.out _ _ e1 ?_
      clear hK K
      intro hSw
      try simp only [Act.put, List.setIfInBounds_toArray, List.set_cons_zero, List.set_cons_succ, List.getElem_toArray, List.getElem_cons_succ, List.getElem_cons_zero]
      refine wpAnyH_take (i := 6) (v := ?v6) rfl (by kernel_rfl) (by kernel_rfl) (by kernel_rfl) (fun _ _ _ h => np_panic h) (Or.inl ⟨by rfl, ?hy6⟩) (by assumption) ?_
      case hy6 => (intro w' hS'; (try dsimp only at hS'); go_simp; try with_reducible rfl)
      simp only [Act.put, List.setIfInBounds_toArray, List.set_cons_zero, List.set_cons_succ, List.getElem_toArray, List.getElem_cons_succ, List.getElem_cons_zero]
      refine wpAnyH_take (i := 7) (v := ?v7) rfl (by kernel_rfl) (by kernel_rfl) (by kernel_rfl) (fun _ _ _ h => np_panic h) (Or.inl ⟨by rfl, ?hy7⟩) (by assumption) ?_
      case hy7 => (intro w' hS'; (try dsimp only at hS'); go_simp; try with_reducible rfl)
      simp only [Act.put, List.setIfInBounds_toArray, List.set_cons_zero, List.set_cons_succ, List.getElem_toArray, List.getElem_cons_succ, List.getElem_cons_zero]
      refine wpAnyH_take (i := 8) (v := ?v8) rfl (by kernel_rfl) (by kernel_rfl) (by kernel_rfl) (fun _ _ _ h => np_panic h) (Or.inl ⟨by rfl, ?hy8⟩) (by assumption) ?_
      case hy8 => (intro w' hS'; (try dsimp only at hS'); go_simp; try with_reducible rfl)
      simp only [Act.put, List.setIfInBounds_toArray, List.set_cons_zero, List.set_cons_succ, List.getElem_toArray, List.getElem_cons_succ, List.getElem_cons_zero]
      refine wpAnyH_ready (rs := [9]) (by kernel_rfl) (by simp) ?_
      refine AllReadyH.cons rfl (fun K hK => ?_) AllReadyH.nil
      go_simp
      obtain ⟨hb, hhb⟩ : ∃ hb, hb = (World.heap y1).size := ⟨_, rfl⟩
      obtain ⟨y2, hy2⟩ : ∃ y2, y2 = World.alloc y1 (.cells #[.int .i64 0, .int .i64 0] 30) := ⟨_, rfl⟩
      have bq1 : Below (World.heap y1).size y1 y2 := by rw [hy2]; exact al1 _ _
      have hb0' : World.cell? y2 ⟨hb, 0, none⟩ = some (.int .i64 0) := by rw [hy2]; exact al_c0 hhb.symm
      have hb1' : World.cell? y2 ⟨hb, 1, none⟩ = some (.int .i64 0) := by rw [hy2]; exact al_c1 hhb.symm
      have hbf : ∀ i, World.frozen? y2 ⟨hb, i, none⟩ = false := fun i => by rw [hy2]; exact al_fz hhb.symm i
      have hbn : wr.heap.size ≤ hb := by have := bD.size; omega
      have bD := bthen bD bq1
      rw [← hy2, ← hhb]
      clear hy2 hhb
      have hi8 := hi8.lw bq1
      have e2 : y2.cell? ⟨w.heap.size, 0, none⟩ = some (.int .i64 g.vars) ∧ y2.cell? ⟨w.heap.size, 1, none⟩ = some (.int .i64 g.terms) ∧ y2.cell? ⟨w.heap.size, 2, none⟩ = some (.int .i64 g.start) ∧ y2.cell? ⟨w.heap.size, 3, none⟩ = some (.slice ao g.rules.length cap) ∧ y2.cell? ⟨bl, ol + k * 2, none⟩ = some (.int .i64 t.rule) ∧ y2.cell? ⟨bl, ol + k * 2 + 1, none⟩ = some (.slice aq t.kids.len cq) := ⟨bkeep bq1 hSw.1, bkeep bq1 hSw.2.1, bkeep bq1 hSw.2.2.1, bkeep bq1 hSw.2.2.2.1, bkeep bq1 hSw.2.2.2.2.1, bkeep bq1 hSw.2.2.2.2.2⟩
      refine hK.out _ _ e2 ?_
      clear hK K
      intro hSw
      try simp only [Act.put, List.setIfInBounds_toArray, List.set_cons_zero, List.set_cons_succ, List.getElem_toArray, List.getElem_cons_succ, List.getElem_cons_zero]
      refine wpAnyH_take (i := 10) (v := ?v9) rfl (by kernel_rfl) (by kernel_rfl) (by kernel_rfl) (fun _ _ _ h => np_panic h) (Or.inl ⟨by rfl, ?hy9⟩) (by assumption) ?_
      case hy9 => (intro w' hS'; (try dsimp only at hS'); go_simp; try with_reducible rfl)
      simp only [Act.put, List.setIfInBounds_toArray, List.set_cons_zero, List.set_cons_succ, List.getElem_toArray, List.getElem_cons_succ, List.getElem_cons_zero]
      refine wpAnyH_ready (rs := [11]) (by kernel_rfl) (by simp) ?_
      refine AllReadyH.cons rfl (fun K hK => ?_) AllReadyH.nil
      go_simp
      obtain ⟨Z, hZ⟩ : ∃ Z, Z = (World.setCell y2 ⟨hb, 0, none⟩ (.int .i64 0)).setCell ⟨hb, 1, none⟩ (.int .i64 0) := ⟨_, rfl⟩
      have kZ : ∀ b o v, All b → World.cell? y2 ⟨b, o, none⟩ = some v → All b ∧ Z.cell? ⟨b, o, none⟩ = some v := fun b o v hb' hc => ⟨hb', by rw [hZ]; exact set_idle (set_off hb1' (by decide)) (set_idle hb0' hc)⟩
      have bZ : Below wr.heap.size wr Z := by rw [hZ]; exact (bD.setCell (p := ⟨hb, 0, none⟩) hbn _).setCell (p := ⟨hb, 1, none⟩) hbn _
      have eZ : Z.cell? ⟨w.heap.size, 0, none⟩ = some (.int .i64 g.vars) ∧ Z.cell? ⟨w.heap.size, 1, none⟩ = some (.int .i64 g.terms) ∧ Z.cell? ⟨w.heap.size, 2, none⟩ = some (.int .i64 g.start) ∧ Z.cell? ⟨w.heap.size, 3, none⟩ = some (.slice ao g.rules.length cap) ∧ Z.cell? ⟨bl, ol + k * 2, none⟩ = some (.int .i64 t.rule) ∧ Z.cell? ⟨bl, ol + k * 2 + 1, none⟩ = some (.slice aq t.kids.len cq) := ⟨(kZ _ _ _ trivial hSw.1).2, (kZ _ _ _ trivial hSw.2.1).2, (kZ _ _ _ trivial hSw.2.2.1).2, (kZ _ _ _ trivial hSw.2.2.2.1).2, (kZ _ _ _ trivial hSw.2.2.2.2.1).2, (kZ _ _ _ trivial hSw.2.2.2.2.2).2⟩
      have hi8 := hi8.mono kZ
      have hZ0 := (kZ _ _ _ trivial hb0').2
      try rw [← hZ]
      clear hZ kZ hb0' hb1' hbf
      refine hK.out _ _ eZ ?_
      clear hK K
      intro hSw
      try simp only [Act.put, List.setIfInBounds_toArray, List.set_cons_zero, List.set_cons_succ, List.getElem_toArray, List.getElem_cons_succ, List.getElem_cons_zero]
      refine wpAnyH_done (by kernel_rfl) (NoPanic.normal ?_) _
    rotate_left 1
    focus
      go_simp
      obtain ⟨hb, hhb⟩ : ∃ hb, hb = (World.heap y0).size := ⟨_, rfl⟩
      obtain ⟨y1, hy2⟩ : ∃ y1, y1 = World.alloc y0 (.cells #[.int .i64 0, .int .i64 0] 30) := ⟨_, rfl⟩
      have bq0 : Below (World.heap y0).size y0 y1 := by rw [hy2]; exact al1 _ _
      have hb0' : World.cell? y1 ⟨hb, 0, none⟩ = some (.int .i64 0) := by rw [hy2]; exact al_c0 hhb.symm
      have hb1' : World.cell? y1 ⟨hb, 1, none⟩ = some (.int .i64 0) := by rw [hy2]; exact al_c1 hhb.symm
      have hbf : ∀ i, World.frozen? y1 ⟨hb, i, none⟩ = false := fun i => by rw [hy2]; exact al_fz hhb.symm i
      have hbn : wr.heap.size ≤ hb := by have := bD.size; omega
      have bD := bthen bD bq0
      rw [← hy2, ← hhb]
      clear hy2 hhb
      have e1 : y1.cell? ⟨w.heap.size, 0, none⟩ = some (.int .i64 g.vars) ∧ y1.cell? ⟨w.heap.size, 1, none⟩ = some (.int .i64 g.terms) ∧ y1.cell? ⟨w.heap.size, 2, none⟩ = some (.int .i64 g.start) ∧ y1.cell? ⟨w.heap.size, 3, none⟩ = some (.slice ao g.rules.length cap) ∧ y1.cell? ⟨bl, ol + k * 2, none⟩ = some (.int .i64 t.rule) ∧ y1.cell? ⟨bl, ol + k * 2 + 1, none⟩ = some (.slice aq t.kids.len cq) := ⟨bkeep bq0 hSw.1, bkeep bq0 hSw.2.1, bkeep bq0 hSw.2.2.1, bkeep bq0 hSw.2.2.2.1, bkeep bq0 hSw.2.2.2.2.1, bkeep bq0 hSw.2.2.2.2.2⟩
      refine hK.out _ _ e1 ?_
      clear hK K
      intro hSw
      try simp only [Act.put, List.setIfInBounds_toArray, List.set_cons_zero, List.set_cons_succ, List.getElem_toArray, List.getElem_cons_succ, List.getElem_cons_zero]
      refine wpAnyH_ready (rs := [5]) (by kernel_rfl) (by simp) ?_
      refine AllReadyH.cons rfl (fun K hK => ?_) AllReadyH.nil
      go_simp
      go_at_call 20
      refine (WA _ bD).mono ?_
      rintro e y2 ⟨v8, rfl, hi8, bq1⟩
      obtain ⟨a8, c8, rfl⟩ := hi8.slice
      have hi8 := hi8.all
      have bD := bthen bD bq1
      have hbf : ∀ i, World.frozen? y2 ⟨hb, i, none⟩ = false := fun i => by rw [bq1.frozen (p := ⟨hb, i, none⟩) (lt_of_cell hb0')]; exact hbf i
      have hb0' := bkeep bq1 hb0'
      have hb1' := bkeep bq1 hb1'
      have e2 : y2.cell? ⟨w.heap.size, 0, none⟩ = some (.int .i64 g.vars) ∧ y2.cell? ⟨w.heap.size, 1, none⟩ = some (.int .i64 g.terms) ∧ y2.cell? ⟨w.heap.size, 2, none⟩ = some (.int .i64 g.start) ∧ y2.cell? ⟨w.heap.size, 3, none⟩ = some (.slice ao g.rules.length cap) ∧ y2.cell? ⟨bl, ol + k * 2, none⟩ = some (.int .i64 t.rule) ∧ y2.cell? ⟨bl, ol + k * 2 + 1, none⟩ = some (.slice aq t.kids.len cq) := ⟨bkeep bq1 hSw.1, bkeep bq1 hSw.2.1, bkeep bq1 hSw.2.2.1, bkeep bq1 hSw.2.2.2.1, bkeep bq1 hSw.2.2.2.2.1, bkeep bq1 hSw.2.2.2.2.2⟩
      refine hK.out _ _ e2 ?_
      clear hK K
      intro hSw
      try simp only [Act.put, List.setIfInBounds_toArray, List.set_cons_zero, List.set_cons_succ, List.getElem_toArray, List.getElem_cons_succ, List.getElem_cons_zero]
      refine wpAnyH_take (i := 6) (v := ?v10) rfl (by kernel_rfl) (by kernel_rfl) (by kernel_rfl) (fun _ _ _ h => np_panic h) (Or.inl ⟨by rfl, ?hy10⟩) (by assumption) ?_
      case hy10 => (intro w' hS'; (try dsimp only at hS'); go_simp; try with_reducible rfl)
      simp only [Act.put, List.setIfInBounds_toArray, List.set_cons_zero, List.set_cons_succ, List.getElem_toArray, List.getElem_cons_succ, List.getElem_cons_zero]
      refine wpAnyH_take (i := 7) (v := ?v11) rfl (by kernel_rfl) (by kernel_rfl) (by kernel_rfl) (fun _ _ _ h => np_panic h) (Or.inl ⟨by rfl, ?hy11⟩) (by assumption) ?_
      case hy11 => (intro w' hS'; (try dsimp only at hS'); go_simp; try with_reducible rfl)
      simp only [Act.put, List.setIfInBounds_toArray, List.set_cons_zero, List.set_cons_succ, List.getElem_toArray, List.getElem_cons_succ, List.getElem_cons_zero]
      refine wpAnyH_take (i := 8) (v := ?v12) rfl (by kernel_rfl) (by kernel_rfl) (by kernel_rfl) (fun _ _ _ h => np_panic h) (Or.inl ⟨by rfl, ?hy12⟩) (by assumption) ?_
      case hy12 => (intro w' hS'; (try dsimp only at hS'); go_simp; try with_reducible rfl)
      simp only [Act.put, List.setIfInBounds_toArray, List.set_cons_zero, List.set_cons_succ, List.getElem_toArray, List.getElem_cons_succ, List.getElem_cons_zero]
      refine wpAnyH_take (i := 10) (v := ?v13) rfl (by kernel_rfl) (by kernel_rfl) (by kernel_rfl) (fun _ _ _ h => np_panic h) (Or.inl ⟨by rfl, ?hy13⟩) (by assumption) ?_
      case hy13 => (intro w' hS'; (try dsimp only at hS'); go_simp; try with_reducible rfl)
      simp only [Act.put, List.setIfInBounds_toArray, List.set_cons_zero, List.set_cons_succ, List.getElem_toArray, List.getElem_cons_succ, List.getElem_cons_zero]
      refine wpAnyH_ready (rs := [11]) (by kernel_rfl) (by simp) ?_
      refine AllReadyH.cons rfl (fun K hK => ?_) AllReadyH.nil
      go_simp
      obtain ⟨Z, hZ⟩ : ∃ Z, Z = (World.setCell y2 ⟨hb, 0, none⟩ (.int .i64 0)).setCell ⟨hb, 1, none⟩ (.int .i64 0) := ⟨_, rfl⟩
      have kZ : ∀ b o v, All b → World.cell? y2 ⟨b, o, none⟩ = some v → All b ∧ Z.cell? ⟨b, o, none⟩ = some v := fun b o v hb' hc => ⟨hb', by rw [hZ]; exact set_idle (set_off hb1' (by decide)) (set_idle hb0' hc)⟩
      have bZ : Below wr.heap.size wr Z := by rw [hZ]; exact (bD.setCell (p := ⟨hb, 0, none⟩) hbn _).setCell (p := ⟨hb, 1, none⟩) hbn _
      have eZ : Z.cell? ⟨w.heap.size, 0, none⟩ = some (.int .i64 g.vars) ∧ Z.cell? ⟨w.heap.size, 1, none⟩ = some (.int .i64 g.terms) ∧ Z.cell? ⟨w.heap.size, 2, none⟩ = some (.int .i64 g.start) ∧ Z.cell? ⟨w.heap.size, 3, none⟩ = some (.slice ao g.rules.length cap) ∧ Z.cell? ⟨bl, ol + k * 2, none⟩ = some (.int .i64 t.rule) ∧ Z.cell? ⟨bl, ol + k * 2 + 1, none⟩ = some (.slice aq t.kids.len cq) := ⟨(kZ _ _ _ trivial hSw.1).2, (kZ _ _ _ trivial hSw.2.1).2, (kZ _ _ _ trivial hSw.2.2.1).2, (kZ _ _ _ trivial hSw.2.2.2.1).2, (kZ _ _ _ trivial hSw.2.2.2.2.1).2, (kZ _ _ _ trivial hSw.2.2.2.2.2).2⟩
      have hi8 := hi8.mono kZ
      have hZ0 := (kZ _ _ _ trivial hb0').2
      try rw [← hZ]
      clear hZ kZ hb0' hb1' hbf
      refine hK.out _ _ eZ ?_
      clear hK K
      intro hSw
      try simp only [Act.put, List.setIfInBounds_toArray, List.set_cons_zero, List.set_cons_succ, List.getElem_toArray, List.getElem_cons_succ, List.getElem_cons_zero]
      refine wpAnyH_done (by kernel_rfl) (NoPanic.normal ?_) _
    rotate_left 1
    all_goals
      have b3Z := bthen bel bZ
      have hvZ := (hv7.lw hbr).lw bZ
      have SI := sameInts_any W W (.slice a8 W.length c8) (.slice aw W.length cw)
      have hdW : decide (W = W) = true := decide_eq_true rfl
      rw [hdW] at SI
      have SI' := fun z : Wd Z => SI z.u (hi8.lw z.h) (((hw7.lw hbr).lw bZ).lw z.h)
      have NE := Wd.ne Z
      have s0 := fun z : Wd Z => z.cell eZ.1
      have s1 := fun z : Wd Z => z.cell eZ.2.1
      have s2 := fun z : Wd Z => z.cell eZ.2.2.1
      have s3 := fun z : Wd Z => z.cell eZ.2.2.2.1
      have s4 := fun z : Wd Z => z.cell eZ.2.2.2.2.1
      have s5 := fun z : Wd Z => z.cell eZ.2.2.2.2.2
      have s6 := fun z : Wd Z => z.cell hZ0
      by_cases hk0 : k = 0
      · subst hk0
        go_wp2_with fail
        refine region_quiet_lit (C := fun w' => ∃ z : Wd Z, w' = z.u) (by kernel_rfl) (by kernel_rfl) (Wd.drawn _) ?_
        iterate 6 (go_big_quiet_step (fail))
        go_big_quiet_step (exact calls_wd (SI' _))
        iterate 20 (go_big_quiet_step (fail))
        refine wpQuiet_nil ?_
        intro _ hw'
        obtain ⟨z, hw''⟩ := hw'
        subst hw''
        go_wp2_with fail
        go_roundw
        case rel => exact ⟨1, by omega, by go_num, bthen hbr (bthen bZ z.h)⟩
        case measure => simp [intOf]; omega
      · obtain ⟨j, rfl⟩ : ∃ j, k = j + 1 := ⟨k - 1, by omega⟩
        have hjL : j < (Trs g.rules W g.vars.toNat g.start 0 W.length).length := by have := HKL.out; omega
        obtain ⟨bl', ol', hbl, _, d0, ar, cr, d1, hq'⟩ := hvZ.at_ (k := j) (by rw [HLEN.out]; omega)
        obtain ⟨rfl, rfl⟩ : bl = bl' ∧ ol = ol' := by simpa using hbl
        rw [lstT_at _ j hjL] at d0 d1 hq'
        have hfit' := (Trs_is (R := g.rules) (W := W) (V := g.vars.toNat) (v := g.start) (i := 0) (j := W.length) (Nat.le_refl _) (List.getElem?_eq_getElem hjL)).1
        have hri := Trs_rise (R := g.rules) (W := W) (V := g.vars.toNat) (v := g.start) (i := 0) (j := W.length) (Nat.le_refl _) (Nat.lt_succ_self j) (List.getElem?_eq_getElem hjL) HTK.out
        have hsz' : (Trs g.rules W g.vars.toNat g.start 0 W.length)[j].sz ≤ 400 := HOK.out _ (List.getElem_mem hjL)
        generalize (Trs g.rules W g.vars.toNat g.start 0 W.length)[j] = t' at *
        have AH := fun z : Wd Z => ahead'_any t' t g (.agg #[.int .i64 t'.rule, .slice ar t'.kids.len cr]) (.agg #[.int .i64 t.rule, .slice aq t.kids.len cq]) (.agg #[.int .i64 g.vars, .int .i64 g.terms, .int .i64 g.start, .slice ao g.rules.length cap]) g.start z.u ⟨_, rfl, (((hr7.lw hbr).lw bZ).lw z.h)⟩ (TrV_mk (hq'.lw z.h)) (TrV_mk ((hq.lw bZ).lw z.h)) hsm (near_of (by rw [hgf])) hfit' hfit hsz' hsz
        rw [hri] at AH
        have s7 := fun z : Wd Z => z.cell d0
        have s8 := fun z : Wd Z => z.cell d1
        have hjn : ((j + 1 : Nat) : Int) - 1 = (j : Int) := by omega
        have hjn2 : (j : Int) + 1 - 1 = (j : Int) := by omega
        have hjl : (j : Int) < (N : Int) := by omega
        have hpos : (0 : Int) < (j : Int) + 1 := by omega
        have hpos2 : decide ((0 : Int) < (j : Int) + 1) = true := decide_eq_true hpos
        go_wp2_with fail
        refine region_quiet_lit (C := fun w' => ∃ z : Wd Z, w' = z.u) (by kernel_rfl) (by kernel_rfl) (Wd.drawn _) ?_
        iterate 6 (go_big_quiet_step (fail))
        go_big_quiet_step (exact calls_wd (SI' _))
        iterate 16 (go_big_quiet_step (fail))
        go_big_quiet_step (exact calls_wd (AH _))
        iterate 3 (go_big_quiet_step (fail))
        refine wpQuiet_nil ?_
        intro _ hw'
        obtain ⟨z, hw''⟩ := hw'
        subst hw''
        go_wp2_with fail
        go_roundw
        case rel => exact ⟨j + 1 + 1, by omega, by go_num, bthen hbr (bthen bZ z.h)⟩
        case measure => simp [intOf]; omega
set_option maxRecDepth 100000 in
theorem open_ints_arg {H : Type} {enc : TypeId × Value → H} {w : World} {base b2 : Nat} {spare : Nat → Bool} {held : Bool} {v : Value} {d : DataW H} {ps : List MemPlace} (hv : Value.okWide Try.prog w .any b2 25 v) (h : DataW.Trod enc Try.prog w base spare held 25 v d ps) : ∃ l : List Int, IsV w G.All v l := by
  obtain ⟨a, len, cap, rfl⟩ := okWide_slice Try.underlying25 hv
  obtain ⟨fuel, h⟩ := h
  exact open_ints h

set_option maxRecDepth 100000 in
theorem lifted (os : Os) (started : os.Started) (H : Type) (enc : TypeId × Value → H) :
    ReturnsInHanded {} Try.checked os 6 .any (Rows.forestWholeSpec.pre6 enc Try.prog Try.f6 Rows.forestWholeRow.domain false) (Rows.forestWholeSpec.post enc Try.prog Try.f6 false true false false) := by
  refine returnsInHanded_of_change (C := Try.checked) own started (by kernel_rfl) Try.func6
    (ChangeSpec.witness6 (enc := enc) (C := Try.checked) false ⟨#[], #[.agg #[.int .i64 0, .int .i64 0, .int .i64 0, .slice none 0 0], .slice none 0 0], []⟩ 8 (by kernel_rfl) (by kernel_rfl) (by kernel_rfl) (by kernel_rfl)) ?_
  intro W base args ds gs before hval0 hW hcnd _
  have hval : ∀ (j : Nat) t v, Try.f6.params[j]? = some t → args[j]? = some v → Value.okWide Try.prog W .any base t v := hval0
  have hW' := hW
  obtain ⟨p, q, hA0, hV, rfl, hfz, hnd⟩ := hW
  have hA : DataW.TrodAll enc Try.prog W 0 (fun _ => true) true Try.f6.params.toList args.toList ds p := hA0
  rw [Try.params6] at hA hval
  obtain ⟨v0, vs0, d0, ds0, p0, q0, hargs, rfl, rfl, h0, r0⟩ := trodAll_cons hA
  obtain ⟨v1, vs1, d1, ds1, p1, q1, rfl, rfl, rfl, h1, r1⟩ := trodAll_cons r0
  obtain ⟨rfl, rfl, rfl⟩ := trodAll_nil r1
  obtain rfl : args = #[v0, v1] := by cases args; simp_all
  obtain ⟨rfl, rfl⟩ := trodVars_none hV
  have k0 := h0
  have k1 := h1
  have lt0 : ∀ x ∈ p0, x.block < W.heap.size := by obtain ⟨m, hm⟩ := k0; exact DataW.trod_lt m _ _ _ hm
  have lt1 : ∀ x ∈ p1, x.block < W.heap.size := by obtain ⟨m, hm⟩ := k1; exact DataW.trod_lt m _ _ _ hm
  obtain ⟨g, hg⟩ := open_gram (hval 0 24 v0 rfl rfl) h0
  obtain ⟨x, hx⟩ := open_ints_arg (hval 1 25 v1 rfl rfl) h1
  clear hA0 hval0
  refine (walk g x v0 v1 W hg hx).mono fun e W' ⟨he, bel⟩ => ?_
  subst he
  exact ⟨_, rfl, _, _, _, [], _, [], hW', trodAll_mk1 (shut_bool Try.underlying4 _), (trodAll_cons_mk (Below.trod laidOut (by kernel_rfl) (of_decide_eq_true (by kernel_rfl)) k0 bel lt0) (trodAll_cons_mk (Below.trod laidOut (by kernel_rfl) (of_decide_eq_true (by kernel_rfl)) k1 bel lt1) trodAll_mk0)), rfl, bel.frame _, fun h => by cases h⟩

theorem stands : Rows.forestWholeRow.holds Try.pinned (OpenSpec.ofChange Rows.forestWholeSpec) :=
  OpenClaim.holds_of_wide 6 Try.f6 rfl rfl rfl rfl rfl rfl rfl ⟨rfl, rfl, rfl, rfl, rfl⟩ rfl rfl rfl rfl rfl (by kernel_rfl) Try.func6 (by kernel_rfl)
    (of_decide_eq_true (by kernel_rfl)) (by unfold Func.isWrapper; first | (rw [if_pos (by decide +kernel)]; kernel_rfl) | (rw [if_neg (by decide +kernel)]; exact ⟨rfl, rfl⟩))
    (fun os started H enc _ => lifted os started H enc)

theorem proved : Rows.ForestWholeSaid := stands
#print axioms proved
end Go.Proofs.Ytlhdppkllmnmkae.forestWhole
