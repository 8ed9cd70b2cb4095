/- Proved: for every grammar, every word and every number ForestBack returns true (the tree of a number has that number, and the word; of numbers one behind the other the trees rise), and what was handed in reads as before. No condition. -/
import Derived.Test.YtlhdppkllmnmkaeL23
import Derived.Test.YtlhdppkllmnmkaeL24
import Derived.Test.YtlhdppkllmnmkaeL01
import Derived.Test.YtlhdppkllmnmkaeRows
import Derived.ProofKit
import Derived.OpenShut
import Derived.ShutString
import Derived.ChangeOld
namespace Go.Proofs.Ytlhdppkllmnmkae.forestBack
open Go.Proofs.Ytlhdppkllmnmkae Go.Proofs.Ytlhdppkllmnmkae.G
open Go.ChangeShapes Go.WideShapes Go.ChangeAt Go.RowKit

theorem own : ownKnob Try.prog.godebug = none := by kernel_rfl
theorem laidOut : laidOutB Try.prog = true := by kernel_rfl

theorem modN (i : Int) {N : Nat} (h0 : 0 < N) (h : N < 4611686018427387904) : ∃ x : Nat, x < N ∧ wrap64 ((IntKind.u64.wrap i).tmod (N : Int)) = x := by
  have h1 : 0 ≤ IntKind.u64.wrap i := by rw [IntKind.wrap_u64]; omega
  rw [Int.tmod_eq_emod_of_nonneg h1]
  have h2 := Int.emod_nonneg (IntKind.u64.wrap i) (b := (N : Int)) (by omega)
  have h3 := Int.emod_lt_of_pos (IntKind.u64.wrap i) (b := (N : Int)) (by omega)
  generalize IntKind.u64.wrap i % (N : Int) = z at *
  exact ⟨z.toNat, by omega, by rw [w64_in (by omega)]; omega⟩
theorem atO_ok {g : Gm} {W : List Int} {k : Nat} {t : Tr} (hc : (chFl g W).1 = 0) (hM : nAll g W g.vars.toNat < 4611686018427387904) (hk : k < nAll g W g.vars.toNat) (ht : (Trs g.rules W g.vars.toNat g.start 0 W.length)[k]? = some t) : atO g W (k : Int) = if t.sz ≤ 400 then ((0, 0), t) else ((6, -1), ⟨0, .nil⟩) := by
  have hg : (Trs g.rules W g.vars.toNat g.start 0 W.length).getD (k : Int).toNat ⟨0, .nil⟩ = t := by rw [Int.toNat_natCast, List.getD_eq_getElem?_getD, ht]; rfl
  have h1 : atFl g W g.vars.toNat (k : Int) = if t.sz ≤ 400 then 0 else 6 := by unfold atFl; rw [if_neg (by omega), if_neg (by omega), hg]
  unfold atO
  rw [if_neg (by simp [hc]), h1, hg]
  by_cases h : t.sz ≤ 400
  · rw [if_pos h, if_pos h, if_neg (by simp)]
  · rw [if_neg h, if_neg h, if_pos (by decide)]
theorem atO_out {g : Gm} {W : List Int} (hc : (chFl g W).1 = 0) (hM : nAll g W g.vars.toNat < 4611686018427387904) : atO g W (nAll g W g.vars.toNat : Nat) = ((9, -1), ⟨0, .nil⟩) := by
  have h1 : atFl g W g.vars.toNat (nAll g W g.vars.toNat : Nat) = 9 := by unfold atFl; rw [if_neg (by omega), if_pos (by omega)]
  unfold atO
  rw [if_neg (by simp [hc]), h1, if_pos (by decide)]
set_option maxRecDepth 100000 in
set_option maxHeartbeats 4000000 in
theorem walk (g : Gm) (W : List Int) (k : Int) (va vw : Value) (w : World) (hg : GV w All va g) (hw : IsV w All vw W) :
    Calls Try.prog 5 #[va, vw, .int .i64 k] w fun e w' => e = .returned (.bool true) ∧ Below w.heap.size w w' := by
  have HV := fun w' (hb : Below w.heap.size w w') => heavy_any g W va vw w' (hg.lw hb) (hw.lw hb)
  have NW := fun w' (hb : Below w.heap.size w w') => chnew_any g W va vw w' (hg.lw hb) (hw.lw hb)
  have hg0 := hg
  have hw0 := hw
  obtain ⟨ua, rfl, ra⟩ := hg
  obtain ⟨ao, cap, rfl⟩ := ra.slice
  obtain ⟨aw, cw, rfl⟩ := hw.slice
  obtain ⟨Z, hZ⟩ : ∃ Z, Z = w.alloc (.cells #[.int .i64 g.vars, .int .i64 g.terms, .int .i64 g.start, .slice ao g.rules.length cap] 24) := ⟨_, rfl⟩
  have hZb : Below w.heap.size w Z := by rw [hZ]; exact al1 _ _
  have x0 : Z.cell? ⟨w.heap.size, 0, none⟩ = some (.int .i64 g.vars) := by rw [hZ]; simp
  have x1 : Z.cell? ⟨w.heap.size, 1, none⟩ = some (.int .i64 g.terms) := by rw [hZ]; simp
  have x2 : Z.cell? ⟨w.heap.size, 2, none⟩ = some (.int .i64 g.start) := by rw [hZ]; simp
  have x3 : Z.cell? ⟨w.heap.size, 3, none⟩ = some (.slice ao g.rules.length cap) := by rw [hZ]; simp
  have HHV := hd HV
  have HNW := hd NW
  clear HV NW
  go_enter Try.func5, Try.ntmps5
  go_wp2_with fail
  rw [← hZ]
  have HZ := hd hZ
  clear hZ
  refine (forestBegun_any _).mono ?_
  rintro e w1 ⟨rfl, hb1⟩
  have b1 := bthen hZb hb1
  have a0 := bkeep hb1 x0
  have a1 := bkeep hb1 x1
  have a2 := bkeep hb1 x2
  have a3 := bkeep hb1 x3
  go_wp2_with fail
  refine (HHV.out w1 b1).mono ?_
  rintro e w2 ⟨q, rfl, hq, hb2⟩
  have b2 := bthen b1 hb2
  have hb12 := bthen hb1 hb2
  have c0 := bkeep hb12 x0
  have c1 := bkeep hb12 x1
  have c2 := bkeep hb12 x2
  have c3 := bkeep hb12 x3
  clear a0 a1 a2 a3
  cases q with
  | true =>
    go_wp2_with fail
    go_ret
    exact ⟨rfl, b2⟩
  | false =>
  have HQ := hd (hq rfl)
  clear hq
  go_wp2_with fail
  refine (HNW.out w2 b2).mono ?_
  rintro e w3 ⟨hb3, hn⟩
  have b3 := bthen b2 hb3
  have hb13 := bthen hb12 hb3
  rcases hn with ⟨hc, rfl⟩ | ⟨cb, tb, rb, V, E, vR, vW, h0, h00, rfl, hG, hE, hs3, z1, z2, z3⟩
  · have hcb : ((chFl g W).1 != 0) = true := by simpa using hc
    generalize (chFl g W).1 = D1 at *
    generalize (chFl g W).2 = D2 at *
    clear hc
    go_wp2_with fail
    go_ret
    exact ⟨rfl, bthen b3 (al1 _ _)⟩
  obtain rfl := hG.vars
  obtain ⟨w4, hw4⟩ : ∃ w4, w4 = w3.alloc (.cells #[.int .i64 0, .int .i64 0] 30) := ⟨_, rfl⟩
  have hb4 : Below w3.heap.size w3 w4 := by rw [hw4]; exact al1 _ _
  have b4 := bthen b3 hb4
  have hb14 := bthen hb13 hb4
  have hs4 := hs3.lw hb4
  have CA := Count_any hG hE w4 hs4
  rw [ofZ_all hG] at CA
  have d0 := bkeep hb14 x0
  have d1 := bkeep hb14 x1
  have d2 := bkeep hb14 x2
  have d3 := bkeep hb14 x3
  have zw2 := b2.size
  clear c0 c1 c2 c3 x0 x1 x2 x3
  obtain ⟨N, hN⟩ : ∃ N, N = nAll g W g.vars.toNat := ⟨_, rfl⟩
  rw [← hN] at CA
  have H0 := hd h0
  clear h0 h00 HNW HHV
  go_wp2_with fail
  rw [← hw4]
  have HW4 := hd hw4
  clear hw4
  refine CA.mono ?_
  rintro e w5 ⟨rfl, hs5, kt5⟩
  have e0 := hs4.keep kt5 d0
  have e1 := hs4.keep kt5 d1
  have e2 := hs4.keep kt5 d2
  have e3 := hs4.keep kt5 d3
  have b5 : Below w.heap.size w w5 := b4.trans (kt5.below (by omega) (by omega) b4.size)
  have hr5 : RsV w5 All (.slice ao g.rules.length cap) g.rules := (ra.lw b4).mono (hs4.keepA kt5)
  have hw5 : IsV w5 All (.slice aw W.length cw) W := (hw0.lw b4).mono (hs4.keepA kt5)
  clear CA hs4 hs5 kt5 hs3 d0 d1 d2 d3
  by_cases hN0 : N = 0
  · have hz : cM N = 0 := by rw [hN0, cM_zero]
    rw [hz]
    go_wp2_with fail
    go_ret
    exact ⟨rfl, b5⟩
  by_cases hNM : 4611686018427387904 ≤ N
  · have hz : cM N = 4611686018427387904 := cM_full.2 hNM
    rw [hz]
    go_wp2_with fail
    go_ret
    exact ⟨rfl, b5⟩
  have hcN : cM N = (N : Int) := cM_lt (by omega)
  rw [hcN]
  have hN1 : ((N : Int) == 0) = false := by simp; omega
  have hN2 : ((N : Int) == 4611686018427387904) = false := by simp; omega
  obtain ⟨x, hx, ex⟩ := modN k (N := N) (by omega) (by omega)
  have hxL : x < (Trs g.rules W g.vars.toNat g.start 0 W.length).length := by rw [all_len hG, ← hN]; exact hx
  obtain ⟨t, ht⟩ : ∃ t, (Trs g.rules W g.vars.toNat g.start 0 W.length)[x]? = some t := ⟨_, List.getElem?_eq_getElem hxL⟩
  have hO := atO_ok (k := x) (t := t) H0.out (by rw [← hN]; omega) (by rw [← hN]; exact hx) ht
  have hgf : gFl g = (0, 0) := gfl_of H0.out
  have AT := forestAt_any g W x (.agg #[.int .i64 g.vars, .int .i64 g.terms, .int .i64 g.start, .slice ao g.rules.length cap]) _ w5 ⟨_, rfl, hr5⟩ hw5
  unfold AtR at AT
  rw [hO] at AT
  have hNw : IntKind.u64.wrap (N : Int) = (N : Int) := by rw [IntKind.wrap_u64]; omega
  have hN3 : ¬ ((N : Int) = 0) := by omega
  have hN64 : N < 4611686018427387904 := by omega
  have HO := hd hO
  have HN := hd hN
  have HT := hd ht
  have hsm := hG.small
  clear hN hO ht hxL hNM hN0 hcN
  obtain ⟨X, hX⟩ : ∃ X : Int, X = (x : Int) := ⟨_, rfl⟩
  rw [← hX] at ex AT
  have HX := hd hX
  clear hX
  have EX := hd ex
  go_wp2_with fail
  clear ex
  by_cases hsz : t.sz ≤ 400
  rotate_left
  · rw [if_neg hsz] at AT
    refine AT.mono ?_
    rintro e w6 ⟨_, rfl, ⟨u6, rfl, hv6⟩, hb6⟩
    obtain ⟨a6, c6, rfl, _⟩ := id hv6.slice
    have hl0 : (Tr.mk 0 .nil).kids.len = 0 := rfl
    go_wp2_with fail
    go_ret
    exact ⟨rfl, bthen b5 (bthen hb6 (al2 _ _ _))⟩
  rw [if_pos hsz] at AT
  refine AT.mono ?_
  rintro e w6 ⟨_, rfl, ⟨u6, rfl, hv6⟩, hb6⟩
  obtain ⟨a6, c6, rfl, _⟩ := id hv6.slice
  obtain ⟨hfit, hwd, _, _⟩ := Trs_is (R := g.rules) (W := W) (V := g.vars.toNat) (v := g.start) (i := 0) (j := W.length) (Nat.le_refl _) HT.out
  rw [seg_full] at hwd
  have htf : tFl g t g.start = (0, 0) := tFl_fit (b := 0) hgf (by omega) hfit
  have hwe : wdE g t = W := by unfold wdE; rw [htf, if_pos rfl, hwd]
  obtain ⟨w7, hw7⟩ : ∃ w7, w7 = (w6.alloc (.cells #[.int .i64 t.rule, .slice a6 t.kids.len c6] 44)).alloc (.cells #[.int .i64 0, .int .i64 0] 30) := ⟨_, rfl⟩
  have hb7 : Below w6.heap.size w6 w7 := by rw [hw7]; exact al2 _ _ _
  have b57 := bthen hb6 hb7
  have f0 := bkeep b57 e0
  have f1 := bkeep b57 e1
  have f2 := bkeep b57 e2
  have f3 := bkeep b57 e3
  have t0 : w7.cell? ⟨w6.heap.size, 0, none⟩ = some (.int .i64 t.rule) := by rw [hw7]; simp [go_sem]
  have t1 : w7.cell? ⟨w6.heap.size, 1, none⟩ = some (.slice a6 t.kids.len c6) := by rw [hw7]; simp [go_sem]
  have hf7 := hv6.all.lw hb7
  have v0 : w7.cell? ⟨w6.heap.size + 1, 0, none⟩ = some (.int .i64 0) := by rw [hw7]; simp [go_sem]
  have v1 : w7.cell? ⟨w6.heap.size + 1, 1, none⟩ = some (.int .i64 0) := by rw [hw7]; simp [go_sem]
  have vf : ∀ i, w7.frozen? ⟨w6.heap.size + 1, i, none⟩ = false := fun i => by rw [hw7]; simp [go_sem]
  have WA := word_any g t (.agg #[.int .i64 g.vars, .int .i64 g.terms, .int .i64 g.start, .slice ao g.rules.length cap]) (.agg #[.int .i64 t.rule, .slice a6 t.kids.len c6]) w7 ⟨_, rfl, hr5.lw b57⟩ (TrV_mk hf7) hsm
  rw [htf, hwe] at WA
  clear AT e0 e1 e2 e3 hv6
  have l0 := f0
  have l1 := f1
  have l2 := f2
  have l3 := f3
  have m0 := t0
  have m1 := t1
  rw [hw7] at l0 l1 l2 l3 m0 m1
  go_wp2_with fail
  rw [← hw7]
  have HW7 := hd hw7
  clear hw7 l0 l1 l2 l3 m0 m1
  refine WA.mono ?_
  rintro e w8 ⟨v8, rfl, hi8, hb8⟩
  obtain ⟨a8, c8, rfl⟩ := hi8.slice
  obtain ⟨w9, hw9⟩ : ∃ w9, w9 = w8.alloc (.cells #[.int .i64 0, .int .i64 0] 30) := ⟨_, rfl⟩
  have hb9 : Below w8.heap.size w8 w9 := by rw [hw9]; exact al1 _ _
  have b79 := bthen hb8 hb9
  have y8 : w9.cell? ⟨w8.heap.size, 0, none⟩ = some (.int .i64 0) := by rw [hw9]; exact al_c0 rfl
  have q0 := bkeep b79 f0
  have q1 := bkeep b79 f1
  have q2 := bkeep b79 f2
  have q3 := bkeep b79 f3
  have s0 := bkeep b79 t0
  have s1 := bkeep b79 t1
  have hi9 := hi8.all.lw hb9
  have RA := forestRank_any g t (.agg #[.int .i64 g.vars, .int .i64 g.terms, .int .i64 g.start, .slice ao g.rules.length cap]) (.agg #[.int .i64 t.rule, .slice a6 t.kids.len c6]) w9 ⟨_, rfl, (hr5.lw b57).lw b79⟩ (TrV_mk (hf7.lw b79)) hsm
  clear WA hi8
  have l0 := q0
  have l1 := q1
  have l2 := q2
  have l3 := q3
  have m0 := s0
  have m1 := s1
  rw [hw9] at l0 l1 l2 l3 m0 m1
  go_wp2_with fail
  rw [← hw9]
  have HW9 := hd hw9
  clear hw9 l0 l1 l2 l3 m0 m1
  refine RA.mono ?_
  rintro e w10 ⟨n, c, a, rfl, hR, hb10⟩
  obtain ⟨rfl, rfl, rfl⟩ : n = x ∧ c = 0 ∧ a = 0 := by
    unfold RkR at hR
    rw [htf, hwd] at hR
    rcases hR with ⟨h, _⟩ | ⟨_, h, _⟩ | ⟨_, _, _, h, _⟩ | ⟨_, _, _, _, h1, h2, h3⟩
    · exact absurd rfl h
    · exact absurd H0.out h
    · rw [← HN.out] at h; omega
    · exact ⟨Trs_one (Nat.le_refl _) h3 HT.out, h1, h2⟩
  obtain ⟨w11, hw11⟩ : ∃ w11, w11 = w10.alloc (.cells #[.int .i64 0, .int .i64 0] 30) := ⟨_, rfl⟩
  have hb11 : Below w10.heap.size w10 w11 := by rw [hw11]; exact al1 _ _
  have b911 := bthen hb10 hb11
  have b711 := bthen b79 b911
  have b511 := bthen b57 b711
  have SI := sameInts_any W W (.slice a8 W.length c8) (.slice aw W.length cw) w11 (hi9.lw b911) (hw5.lw b511)
  have hdW : decide (W = W) = true := decide_eq_true rfl
  rw [hdW] at SI
  have r0 := bkeep b711 f0
  have r1 := bkeep b711 f1
  have r2 := bkeep b711 f2
  have r3 := bkeep b711 f3
  have u0 := bkeep b711 t0
  have u1 := bkeep b711 t1
  have y8' := bkeep b911 y8
  have y10 : w11.cell? ⟨w10.heap.size, 0, none⟩ = some (.int .i64 0) := by rw [hw11]; exact al_c0 rfl
  have b11 := bthen b5 b511
  clear RA hR f0 f1 f2 f3 t0 t1 q0 q1 q2 q3 s0 s1 y8
  have l8 := y8'
  rw [hw11] at l8
  go_wp2_with fail
  rw [← hw11]
  have HW11 := hd hw11
  clear hw11 l8
  have HX' := HX.out
  have EX' : wrap64 ((IntKind.u64.wrap k).tmod (N : Int)) = (n : Int) := by rw [EX.out, HX']
  have hx2 : ((n : Int) != (n : Int)) = false := by simp
  refine SI.mono ?_
  rintro e w12 ⟨rfl, hb12'⟩
  have p0 := bkeep hb12' r0
  have p1 := bkeep hb12' r1
  have p2 := bkeep hb12' r2
  have p3 := bkeep hb12' r3
  have o0 := bkeep hb12' u0
  have o1 := bkeep hb12' u1
  have y8 := bkeep hb12' y8'
  have y12 := bkeep hb12' y10
  have b512 := bthen b511 hb12'
  have b12 := bthen b5 b512
  have hxN : (n : Int) + 1 ≤ (N : Int) := by clear EX'; omega
  clear SI r0 r1 r2 r3 u0 u1 y8' y10 hi9
  have AL := forestAt_any g W N (.agg #[.int .i64 g.vars, .int .i64 g.terms, .int .i64 g.start, .slice ao g.rules.length cap]) _ w12 ⟨_, rfl, hr5.lw b512⟩ (hw5.lw b512)
  have AN := forestAt_any g W ((n + 1 : Nat) : Int) (.agg #[.int .i64 g.vars, .int .i64 g.terms, .int .i64 g.start, .slice ao g.rules.length cap]) _ w12 ⟨_, rfl, hr5.lw b512⟩ (hw5.lw b512)
  unfold AtR at AL AN
  by_cases hend : n + 1 = N
  · have hO := atO_out H0.out (by rw [← HN.out]; omega)
    rw [← HN.out] at hO
    rw [hO] at AL
    have hx1 : (n : Int) + 1 = (N : Int) := by omega
    clear AN hO hend
    go_wp2_with fail
    refine AL.mono ?_
    rintro e w13 ⟨_, rfl, ⟨u13, rfl, hv13⟩, hb13'⟩
    obtain ⟨a13, c13, rfl, _⟩ := id hv13.slice
    go_wp2_with fail
    go_ret
    exact ⟨rfl, bthen b12 (bthen hb13' (al2 _ _ _))⟩
  · have hx1L : n + 1 < (Trs g.rules W g.vars.toNat g.start 0 W.length).length := by rw [all_len hG, ← HN.out]; omega
    obtain ⟨t', ht'⟩ : ∃ t', (Trs g.rules W g.vars.toNat g.start 0 W.length)[n + 1]? = some t' := ⟨_, List.getElem?_eq_getElem hx1L⟩
    have hO := atO_ok (k := n + 1) (t := t') H0.out (by rw [← HN.out]; omega) (by rw [← HN.out]; omega) ht'
    rw [hO] at AN
    have hne : ((n : Int) + 1 == (N : Int)) = false := by simp; omega
    have hx1 : (((n + 1 : Nat)) : Int) = (n : Int) + 1 := by omega
    rw [hx1] at AN
    have HT' := hd ht'
    clear AL hO hend hx1L hx1 ht'
    go_wp2_with fail
    refine AN.mono ?_
    rintro e w13 ⟨_, rfl, ⟨u13, rfl, hv13⟩, hb13'⟩
    obtain ⟨a13, c13, rfl, _⟩ := id hv13.slice
    have b713 := bthen b711 (bthen hb12' hb13')
    have v0' := bkeep b713 v0
    have v1' := bkeep b713 v1
    have vf' : ∀ i, w13.frozen? ⟨w6.heap.size + 1, i, none⟩ = false := fun i => by rw [b713.frozen (p := ⟨w6.heap.size + 1, i, none⟩) (lt_of_cell v0)]; exact vf i
    have b13 := bthen b12 hb13'
    have zF : w.heap.size ≤ w6.heap.size + 1 := by have := (bthen b5 hb6).size; omega
    have lF := lt_of_cell v0'
    have p0' := bkeep hb13' p0
    have p1' := bkeep hb13' p1
    have p2' := bkeep hb13' p2
    have p3' := bkeep hb13' p3
    have o0' := bkeep hb13' o0
    have o1' := bkeep hb13' o1
    have nF : w6.heap.size + 1 ≠ w13.heap.size := by omega
    by_cases hsz' : t'.sz ≤ 400
    · rw [if_pos hsz'] at hv13 ⊢
      obtain ⟨wB, hwB⟩ : ∃ wB, wB = (w13.setCell ⟨w6.heap.size + 1, 0, none⟩ (.int .i64 0)).setCell ⟨w6.heap.size + 1, 1, none⟩ (.int .i64 0) := ⟨_, rfl⟩
      have kB : ∀ b o v, All b → w13.cell? ⟨b, o, none⟩ = some v → All b ∧ wB.cell? ⟨b, o, none⟩ = some v := fun b o v hb hc => ⟨hb, by rw [hwB]; exact set_idle (set_off v1' (by decide)) (set_idle v0' hc)⟩
      have zB : wB.heap.size = w13.heap.size := by rw [hwB]; simp [World.setCell]
      have bB : Below w.heap.size w wB := by rw [hwB]; exact (b13.setCell (p := ⟨w6.heap.size + 1, 0, none⟩) zF _).setCell (p := ⟨w6.heap.size + 1, 1, none⟩) zF _
      obtain ⟨w14, hw14⟩ : ∃ w14, w14 = wB.alloc (.cells #[.int .i64 t'.rule, .slice a13 t'.kids.len c13] 44) := ⟨_, rfl⟩
      have hbA : Below wB.heap.size wB w14 := by rw [hw14]; exact al1 _ _
      have b14 := bthen bB hbA
      have hfit' := (Trs_is (R := g.rules) (W := W) (V := g.vars.toNat) (v := g.start) (i := 0) (j := W.length) (Nat.le_refl _) HT'.out).1
      have hri := Trs_rise (R := g.rules) (W := W) (V := g.vars.toNat) (v := g.start) (i := 0) (j := W.length) (Nat.le_refl _) (Nat.lt_succ_self n) HT.out HT'.out
      have AH := fun u (hu : Below w14.heap.size w14 u) => ahead'_any t t' g (.agg #[.int .i64 t.rule, .slice a6 t.kids.len c6]) (.agg #[.int .i64 t'.rule, .slice a13 t'.kids.len c13]) (.agg #[.int .i64 g.vars, .int .i64 g.terms, .int .i64 g.start, .slice ao g.rules.length cap]) g.start u ⟨_, rfl, ((((hr5.lw b512).lw hb13').mono kB).lw hbA).lw hu⟩ (TrV_mk (((((hf7.lw b713)).mono kB).lw hbA).lw hu)) (TrV_mk ((((hv13.all).mono kB).lw hbA).lw hu)) hsm (near_of (by rw [hgf])) hfit hfit' hsz hsz'
      rw [hri] at AH
      have g0 := bkeep hbA (kB _ _ _ trivial p0').2
      have g1 := bkeep hbA (kB _ _ _ trivial p1').2
      have g2 := bkeep hbA (kB _ _ _ trivial p2').2
      have g3 := bkeep hbA (kB _ _ _ trivial p3').2
      have g4 := bkeep hbA (kB _ _ _ trivial o0').2
      have g5 := bkeep hbA (kB _ _ _ trivial o1').2
      have g6 : w14.cell? ⟨w13.heap.size, 0, none⟩ = some (.int .i64 t'.rule) := by rw [hw14]; exact al_c0 zB
      have g7 : w14.cell? ⟨w13.heap.size, 1, none⟩ = some (.slice a13 t'.kids.len c13) := by rw [hw14]; exact al_c1 zB
      have g8 := bkeep hbA (kB _ _ _ trivial v0').2
      have AHw := AH w14 (Below.refl _ _)
      clear AN kB hv13 p0 p1 p2 p3 o0 o1
      go_upto_region 23 with fail
      rw [← hwB, ← hw14]
      have HWB := hd hwB
      have HW14 := hd hw14
      clear hwB hw14 v0' v1' vf' p0' p1' p2' p3' o0' o1'
      go_wp2_with fail
      refine AHw.mono ?_
      rintro e w15 ⟨rfl, hb15⟩
      go_wp2_with fail
      go_ret
      exact ⟨rfl, bthen b14 hb15⟩
    · rw [if_neg hsz'] at hv13 ⊢
      go_wp2_with fail
      go_ret
      exact ⟨rfl, bthen ((b13.setCell (p := ⟨w6.heap.size + 1, 0, none⟩) zF _).setCell (p := ⟨w6.heap.size + 1, 1, none⟩) zF _) (al1 _ _)⟩
set_option maxRecDepth 100000 in
theorem open_ints_arg {H : Type} {enc : TypeId × Value → H} {w : World} {base b2 : Nat} {spare : Nat → Bool} {held : Bool} {v : Value} {d : DataW H} {ps : List MemPlace} (hv : Value.okWide Try.prog w .any b2 25 v) (h : DataW.Trod enc Try.prog w base spare held 25 v d ps) : ∃ l : List Int, IsV w G.All v l := by
  obtain ⟨a, len, cap, rfl⟩ := okWide_slice Try.underlying25 hv
  obtain ⟨fuel, h⟩ := h
  exact open_ints h

set_option maxRecDepth 100000 in
theorem lifted (os : Os) (started : os.Started) (H : Type) (enc : TypeId × Value → H) :
    ReturnsInHanded {} Try.checked os 5 .any (Rows.forestBackSpec.pre6 enc Try.prog Try.f5 Rows.forestBackRow.domain false) (Rows.forestBackSpec.post enc Try.prog Try.f5 false true false false) := by
  refine returnsInHanded_of_change (C := Try.checked) own started (by kernel_rfl) Try.func5
    (ChangeSpec.witness6 (enc := enc) (C := Try.checked) false ⟨#[], #[.agg #[.int .i64 0, .int .i64 0, .int .i64 0, .slice none 0 0], .slice none 0 0, .int .i64 0], []⟩ 8 (by kernel_rfl) (by kernel_rfl) (by kernel_rfl) (by kernel_rfl)) ?_
  intro W base args ds gs before hval0 hW hcnd _
  have hval : ∀ (j : Nat) t v, Try.f5.params[j]? = some t → args[j]? = some v → Value.okWide Try.prog W .any base t v := hval0
  have hW' := hW
  obtain ⟨p, q, hA0, hV, rfl, hfz, hnd⟩ := hW
  have hA : DataW.TrodAll enc Try.prog W 0 (fun _ => true) true Try.f5.params.toList args.toList ds p := hA0
  rw [Try.params5] at hA hval
  obtain ⟨v0, vs0, d0, ds0, p0, q0, hargs, rfl, rfl, h0, r0⟩ := trodAll_cons hA
  obtain ⟨v1, vs1, d1, ds1, p1, q1, rfl, rfl, rfl, h1, r1⟩ := trodAll_cons r0
  obtain ⟨v2, vs2, d2, ds2, p2, q2, rfl, rfl, rfl, h2, r2⟩ := trodAll_cons r1
  obtain ⟨rfl, rfl, rfl⟩ := trodAll_nil r2
  obtain rfl : args = #[v0, v1, v2] := by cases args; simp_all
  obtain ⟨rfl, rfl⟩ := trodVars_none hV
  have k0 := h0
  have k1 := h1
  have k2 := h2
  have lt0 : ∀ x ∈ p0, x.block < W.heap.size := by obtain ⟨m, hm⟩ := k0; exact DataW.trod_lt m _ _ _ hm
  have lt1 : ∀ x ∈ p1, x.block < W.heap.size := by obtain ⟨m, hm⟩ := k1; exact DataW.trod_lt m _ _ _ hm
  have lt2 : ∀ x ∈ p2, x.block < W.heap.size := by obtain ⟨m, hm⟩ := k2; exact DataW.trod_lt m _ _ _ hm
  obtain ⟨g, hg⟩ := open_gram (hval 0 24 v0 rfl rfl) h0
  obtain ⟨x, hx⟩ := open_ints_arg (hval 1 25 v1 rfl rfl) h1
  obtain ⟨i, rfl⟩ := okWide_int Try.underlying3 (hval 2 3 v2 rfl rfl)
  clear hA0 hval0
  refine (walk g x i v0 v1 W hg hx).mono fun e W' ⟨he, bel⟩ => ?_
  subst he
  exact ⟨_, rfl, _, _, _, [], _, [], hW', trodAll_mk1 (shut_bool Try.underlying4 _), (trodAll_cons_mk (Below.trod laidOut (by kernel_rfl) (of_decide_eq_true (by kernel_rfl)) k0 bel lt0) (trodAll_cons_mk (Below.trod laidOut (by kernel_rfl) (of_decide_eq_true (by kernel_rfl)) k1 bel lt1) (trodAll_cons_mk (Below.trod laidOut (by kernel_rfl) (of_decide_eq_true (by kernel_rfl)) k2 bel lt2) trodAll_mk0))), rfl, bel.frame _, fun h => by cases h⟩

theorem stands : Rows.forestBackRow.holds Try.pinned (OpenSpec.ofChange Rows.forestBackSpec) :=
  OpenClaim.holds_of_wide 5 Try.f5 rfl rfl rfl rfl rfl rfl rfl ⟨rfl, rfl, rfl, rfl, rfl⟩ rfl rfl rfl rfl rfl (by kernel_rfl) Try.func5 (by kernel_rfl)
    (of_decide_eq_true (by kernel_rfl)) (by unfold Func.isWrapper; first | (rw [if_pos (by decide +kernel)]; kernel_rfl) | (rw [if_neg (by decide +kernel)]; exact ⟨rfl, rfl⟩))
    (fun os started H enc _ => lifted os started H enc)

theorem proved : Rows.ForestBackSaid := stands
#print axioms proved
end Go.Proofs.Ytlhdppkllmnmkae.forestBack
