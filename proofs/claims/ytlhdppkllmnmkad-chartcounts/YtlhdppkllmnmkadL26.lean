/- Proved: for every grammar, every word and every five numbers ChartCounts returns true (chart.New, Count, Of, Rule and Split answer as the document's own functions do, and what they were handed stays), and what was handed in reads as before. No condition. -/
import Derived.Test.YtlhdppkllmnmkadL19
import Derived.Test.YtlhdppkllmnmkadL21
import Derived.Test.YtlhdppkllmnmkadL24
import Derived.Test.YtlhdppkllmnmkadL25
import Derived.Test.YtlhdppkllmnmkadL03
import Derived.Test.YtlhdppkllmnmkadRows
import Derived.ProofKit
import Derived.OpenShut
import Derived.ShutString
import Derived.ChangeOld
namespace Go.Proofs.Ytlhdppkllmnmkad.chartCounts
open Go.Proofs.Ytlhdppkllmnmkad Go.Proofs.Ytlhdppkllmnmkad.G
open Go.ChangeShapes Go.WideShapes Go.ChangeAt Go.RowKit

theorem own : ownKnob Try.prog.godebug = none := by kernel_rfl
theorem laidOut : laidOutB Try.prog = true := by kernel_rfl

theorem ctv_keep {w w' : World} {cb tb rb : Nat} {g : Gm} {W : List Int} {Vn : Nat} {E : BitVec 64} {vR vW : Value} {kb V : Nat} {R : List Ru} {W' : List Int} {m : Int} {f : Nat → Nat → Nat → Int} {vR' vW' : Value} {b0 c0 : Nat} {b1 c1 : Nat → Nat} {rb' : Nat → Nat → Nat} (h : CtV w kb V R W' m f vR' vW' b0 c0 b1 c1 rb') (hc : ChS w cb tb rb g W Vn E vR vW) (hk : Kt tb rb w w') : CtV w' kb V R W' m f vR' vW' b0 c0 b1 c1 rb' :=
  ⟨hc.keep hk h.k0, hc.keep hk h.k3, hc.keep hk h.k4, hc.keep hk h.k5, hc.keep hk h.k6, h.r.mono (hc.keepA hk), h.x.mono (hc.keepA hk), ⟨fun v hv => hc.keep hk (h.tb.h0 v hv), fun v i hv hi => hc.keep hk (h.tb.h1 v i hv hi), fun v i j hv hi hj => hc.keep hk (h.tb.h2 v i j hv hi hj)⟩⟩
set_option maxRecDepth 100000 in
set_option maxHeartbeats 4000000 in
theorem walk (g : Gm) (W : List Int) (a b i m j : Int) (va vw : Value) (w : World) (hg : GV w All va g) (hw : IsV w All vw W) :
    Calls Try.prog 8 #[va, vw, .int .i64 a, .int .i64 b, .int .i64 i, .int .i64 m, .int .i64 j] w fun e w' => e = .returned (.bool true) ∧ Below w.heap.size w w' := by
  have HV := fun w' (hb : Below w.heap.size w w') => heavy_any g W va vw w' (hg.lw hb) (hw.lw hb)
  obtain ⟨i0, hi, iz0, iz1, iz2⟩ := info_parts Try.infoInt
  have CF := fun w' (hb : Below w.heap.size w w') => chartFault_any g W va vw w' (hg.lw hb) (hw.lw hb)
  have hg0 := hg
  have hw0 := hw
  obtain ⟨ua, rfl, ra⟩ := hg
  obtain ⟨ao, cap, rfl⟩ := ra.slice
  obtain ⟨aw, cw, rfl⟩ := hw.slice
  obtain ⟨Z, hZ⟩ : ∃ Z, Z = w.alloc (.cells #[.int .i64 g.vars, .int .i64 g.terms, .int .i64 g.start, .slice ao g.rules.length cap] 24) := ⟨_, rfl⟩
  have hZb : Below w.heap.size w Z := by rw [hZ]; exact al1 _ _
  have x0 : Z.cell? ⟨w.heap.size, 0, none⟩ = some (.int .i64 g.vars) := by rw [hZ]; simp
  have x1 : Z.cell? ⟨w.heap.size, 1, none⟩ = some (.int .i64 g.terms) := by rw [hZ]; simp
  have x2 : Z.cell? ⟨w.heap.size, 2, none⟩ = some (.int .i64 g.start) := by rw [hZ]; simp
  have x3 : Z.cell? ⟨w.heap.size, 3, none⟩ = some (.slice ao g.rules.length cap) := by rw [hZ]; simp
  have HHV := hd HV
  have HCF := hd CF
  clear HV CF
  go_enter Try.func8, Try.ntmps8
  go_wp2_with fail
  rw [← hZ]
  have HZ := hd hZ
  clear hZ
  refine (chartBegun_any _).mono ?_
  rintro e w1 ⟨rfl, hb1⟩
  have b1 := bthen hZb hb1
  have a0 := bkeep hb1 x0
  have a1 := bkeep hb1 x1
  have a2 := bkeep hb1 x2
  have a3 := bkeep hb1 x3
  go_wp2_with fail
  refine (HHV.out w1 b1).mono ?_
  rintro e w2 ⟨q, rfl, hq, hb2⟩
  have b2 := bthen b1 hb2
  have hb12 := bthen hb1 hb2
  have c0 := bkeep hb12 x0
  have c1 := bkeep hb12 x1
  have c2 := bkeep hb12 x2
  have c3 := bkeep hb12 x3
  clear a0 a1 a2 a3
  cases q with
  | true =>
    go_wp2_with fail
    go_ret
    exact ⟨rfl, b2⟩
  | false =>
  have HQ := hd (hq rfl)
  clear hq
  go_wp2_with fail
  have hw2 := hw0.lw b2
  have OW := ownGram_any g (.agg #[.int .i64 g.vars, .int .i64 g.terms, .int .i64 g.start, .slice ao g.rules.length cap]) w2 (hg0.lw b2) HQ.out.1
  refine OW.mono ?_
  rintro e w3 ⟨vo, rfl, ⟨uo, rfl, ro⟩, hb3⟩
  obtain ⟨ag, cg, rfl⟩ := ro.slice
  obtain ⟨w4, hw4⟩ : ∃ w4, w4 = w3.alloc (.cells #[.int .i64 g.vars, .int .i64 g.terms, .int .i64 g.start, .slice ag g.rules.length cg] 24) := ⟨_, rfl⟩
  have hb4 : Below w3.heap.size w3 w4 := by rw [hw4]; exact al1 _ _
  have b3 := bthen b2 hb3
  have b4 := bthen b3 hb4
  have hb14 := bthen hb12 (bthen hb3 hb4)
  have p0 : w4.cell? ⟨w3.heap.size, 0, none⟩ = some (.int .i64 g.vars) := by rw [hw4]; simp
  have p1 : w4.cell? ⟨w3.heap.size, 1, none⟩ = some (.int .i64 g.terms) := by rw [hw4]; simp
  have p2 : w4.cell? ⟨w3.heap.size, 2, none⟩ = some (.int .i64 g.start) := by rw [hw4]; simp
  have p3 : w4.cell? ⟨w3.heap.size, 3, none⟩ = some (.slice ag g.rules.length cg) := by rw [hw4]; simp
  have hW300 : W.length ≤ 300 := HQ.out.2.1
  have hw4' := hw0.lw b4
  clear OW HHV c0 c1 c2 c3
  go_upto_region 7 with fail
  rw [← hw4]
  have HW4 := hd hw4
  clear hw4
  go_wp2_with (first | (at_builtin; go_must (refine wpList_ints _ rfl _ _ 35 rfl w4.heap.size 3 i0 Try.underlying35 hi iz0 iz1 iz2 (.slice none 0 0) 0 [] rfl (World.ownsRow_nil _ _ _ _) All _ W rfl hw4' (by simp; omega) (Nat.le_refl _) ?_)))
  intro v5 w5 own5 grow5 _
  obtain ⟨a5, c5, rfl⟩ := owns_slice own5
  try simp only [Nat.zero_add, List.nil_append] at own5
  have hb5 : Below w4.heap.size w4 w5 := grown_below grow5
  have b5 := bthen b4 hb5
  have hb15 := bthen hb14 hb5
  have i5 : IsV w5 All (.slice a5 W.length c5) W := IsV_owned own5 (by omega) (fun _ _ => trivial)
  have ro5 : RsV w5 All (.slice ag g.rules.length cg) g.rules := (ro.all.lw hb4).lw hb5
  have q0 := bkeep hb5 p0
  have q1 := bkeep hb5 p1
  have q2 := bkeep hb5 p2
  have q3 := bkeep hb5 p3
  have NW := chnew_any g W (.agg #[.int .i64 g.vars, .int .i64 g.terms, .int .i64 g.start, .slice ag g.rules.length cg]) (.slice a5 W.length c5) w5 ⟨_, rfl, ro5⟩ i5
  clear p0 p1 p2 p3 own5
  go_wp2_with fail
  refine NW.mono ?_
  rintro e w6 ⟨hb6, hn⟩
  have b6 := bthen b5 hb6
  have hb16 := bthen hb15 hb6
  rcases hn with ⟨hc, rfl⟩ | ⟨cb, tb, rb, V, E, vR, vW, h0, h00, rfl, hG, hE, hs6, z1, z2, z3⟩
  · have hcb : ((chFl g W).1 != 0) = true := by simpa using hc
    have FA := HCF.out
    generalize chFl g W = D at *
    obtain ⟨D1, D2⟩ := D
    dsimp only at FA hc hcb ⊢
    obtain ⟨w7, hw7⟩ : ∃ w7, w7 = w6.alloc (.cells #[.int .i64 D1, .int .i64 D2] 33) := ⟨_, rfl⟩
    have hb7 : Below w6.heap.size w6 w7 := by rw [hw7]; exact al1 _ _
    have b7 := bthen b6 hb7
    have hb17 := bthen hb16 hb7
    have d0 := bkeep hb17 x0
    have d1 := bkeep hb17 x1
    have d2 := bkeep hb17 x2
    have d3 := bkeep hb17 x3
    have y0 : w7.cell? ⟨w6.heap.size, 0, none⟩ = some (.int .i64 D1) := by rw [hw7]; simp
    have y1 : w7.cell? ⟨w6.heap.size, 1, none⟩ = some (.int .i64 D2) := by rw [hw7]; simp
    have FA7 := FA w7 b7
    rw [hw7] at d0 d1 d2 d3
    clear FA
    go_wp2_with fail
    rw [← hw7]
    have HW7 := hd hw7
    clear hw7 d0 d1 d2 d3
    refine FA7.mono ?_
    rintro e w8 ⟨rfl, hb8⟩
    have k0 := bkeep (bthen hb8 (al1 w8 (.cells #[.int .i64 D1, .int .i64 D2] 33))) y0
    have k1 := bkeep (bthen hb8 (al1 w8 (.cells #[.int .i64 D1, .int .i64 D2] 33))) y1
    go_wp2_with fail
    go_ret
    exact ⟨rfl, bthen b7 (bthen hb8 (al1 _ _))⟩
  have FA := HCF.out
  rw [h0, h00] at FA
  obtain ⟨w7, hw7⟩ : ∃ w7, w7 = w6.alloc (.cells #[.int .i64 0, .int .i64 0] 33) := ⟨_, rfl⟩
  have hb7 : Below w6.heap.size w6 w7 := by rw [hw7]; exact al1 _ _
  have b7 := bthen b6 hb7
  have hb17 := bthen hb16 hb7
  have d0 := bkeep hb17 x0
  have d1 := bkeep hb17 x1
  have d2 := bkeep hb17 x2
  have d3 := bkeep hb17 x3
  have y0 : w7.cell? ⟨w6.heap.size, 0, none⟩ = some (.int .i64 0) := by rw [hw7]; simp
  have y1 : w7.cell? ⟨w6.heap.size, 1, none⟩ = some (.int .i64 0) := by rw [hw7]; simp
  have FA7 := FA w7 b7
  have l0 := d0
  have l1 := d1
  have l2 := d2
  have l3 := d3
  rw [hw7] at l0 l1 l2 l3
  clear FA h0 h00 HCF
  go_wp2_with fail
  rw [← hw7]
  have HW7 := hd hw7
  clear hw7 l0 l1 l2 l3
  refine FA7.mono ?_
  rintro e w8 ⟨rfl, hb8⟩
  obtain ⟨w9, hw9⟩ : ∃ w9, w9 = w8.alloc (.cells #[.int .i64 0, .int .i64 0] 33) := ⟨_, rfl⟩
  have hb9 : Below w8.heap.size w8 w9 := by rw [hw9]; exact al1 _ _
  have b79 := bthen hb8 hb9
  have b9 := bthen b7 b79
  have e0 := bkeep b79 d0
  have e1 := bkeep b79 d1
  have e2 := bkeep b79 d2
  have e3 := bkeep b79 d3
  have k0 := bkeep b79 y0
  have k1 := bkeep b79 y1
  obtain ⟨T, hT⟩ := ct_stop hG
  have CO := countsOf_more g (.agg #[.int .i64 g.vars, .int .i64 g.terms, .int .i64 g.start, .slice ao g.rules.length cap]) (.slice aw W.length cw) W 4611686018427387904 V w9 (hg0.lw b9) (hw0.lw b9) hG.rg.gv hG.rg.v1 (by have := hG.rg.vr.1; omega) (by have := hG.rg.few; omega) (fun r hr => ⟨(hG.rg.vr.2 r hr).1.1, (hG.rg.vr.2 r hr).1.2, fun s hs => ⟨hG.hR r hr s hs, by have := hG.lo r hr s hs; omega⟩⟩) (by omega) (fun x hx => by have := hG.wr x hx; omega) (by omega) (by omega) T hT
  have l0 := e0
  have l1 := e1
  have l2 := e2
  have l3 := e3
  have m0 := k0
  have m1 := k1
  rw [hw9] at l0 l1 l2 l3 m0 m1
  clear d0 d1 d2 d3 y0 y1 hT
  go_wp2_with fail
  rw [← hw9]
  have HW9 := hd hw9
  clear hw9 l0 l1 l2 l3 m0 m1
  refine CO.mono ?_
  rintro e w10 ⟨kb, b0', c0', b1', c1', rb', tt, vR', rfl, n0, n4, n6, ntb, nst, n3, nr, n5, hb10⟩
  have b910 := hb10
  have b10 := bthen b9 hb10
  have hcv : CtV w10 kb V g.rules W 4611686018427387904 (cnT g.rules W 4611686018427387904 (tt + 1)) vR' (.slice aw W.length cw) b0' c0' b1' c1' rb' := ⟨n0, n3, n4, n5, n6, nr, (hw0.lw b10), ntb⟩
  have hcg : CtG V g.rules W 4611686018427387904 (cnT g.rules W 4611686018427387904 (tt + 1)) := ct_g hG
  have b710 := bthen b79 hb10
  have b610 := bthen hb7 b710
  have hs10 := hs6.lw b610
  have f0 := bkeep hb10 e0
  have f1 := bkeep hb10 e1
  have f2 := bkeep hb10 e2
  have f3 := bkeep hb10 e3
  have r0 := bkeep (bthen hb6 b610) q0
  have r1 := bkeep (bthen hb6 b610) q1
  have r2 := bkeep (bthen hb6 b610) q2
  have r3 := bkeep (bthen hb6 b610) q3
  have ro10 := ro5.lw (bthen hb6 b610)
  have i10 := i5.lw (bthen hb6 b610)
  have hr10 : RsV w10 All (.slice ao g.rules.length cap) g.rules := ra.lw b10
  have iw10 : IsV w10 All (.slice aw W.length cw) W := hw0.lw b10
  have NE := Wk.ne hs10
  have C1 := fun z : Wk cb tb rb g W V E vR vW w10 => Count_any hG hE z.u z.s
  have C2 := fun z : Wk cb tb rb g W V E vR vW w10 => cofI_any g.start 0 (W.length : Nat) z.u (ctv_keep hcv hs10 z.k) hcg
  have C3 := fun z : Wk cb tb rb g W V E vR vW w10 => Of_any hG hE a i j z.u z.s
  have C4 := fun z : Wk cb tb rb g W V E vR vW w10 => cofI_any a i j z.u (ctv_keep hcv hs10 z.k) hcg
  have C5 := fun z : Wk cb tb rb g W V E vR vW w10 => Rule_any hG hE a i j z.u z.s
  have C6 := fun z : Wk cb tb rb g W V E vR vW w10 => cruleI_any a i j z.u (ctv_keep hcv hs10 z.k) hcg
  have C7 := fun z : Wk cb tb rb g W V E vR vW w10 => Split_any hG hE a b i m j z.u z.s
  have C8 := fun z : Wk cb tb rb g W V E vR vW w10 => csplitI_any a b i m j z.u (ctv_keep hcv hs10 z.k) hcg
  simp only [of_eq hG nst, ru_eq hG nst, sp_eq hG nst] at C2 C4 C6 C8
  have s2 := fun z : Wk cb tb rb g W V E vR vW w10 => z.cell hs10 f2
  generalize ofZ g W V g.start 0 (W.length : Nat) = N1 at *
  generalize ofZ g W V a i j = N2 at *
  generalize ruZ g W V a i j = N3 at *
  generalize splZ g W V a b i m j = N4 at *
  have g1 : (N1 != N1) = false := by simp
  have g2 : (N2 != N2) = false := by simp
  have g3 : (N3 != N3) = false := by simp
  have g4 : (N4 != N4) = false := by simp
  clear CO FA7 NW e0 e1 e2 e3 k0 k1 q0 q1 q2 q3
  go_wp2_with fail
  refine region_quiet_lit (C := fun w' => ∃ z : Wk cb tb rb g W V E vR vW w10, w' = z.u) (by kernel_rfl) (by kernel_rfl) (Wk.below hs10 ⟨rfl, rfl, rfl, Nat.le_refl _, fun _ _ => rfl⟩) ?_
  iterate 1 (go_big_quiet_step (fail))
  go_big_quiet_step (exact calls_wk (C1 _))
  iterate 5 (go_big_quiet_step (fail))
  go_big_quiet_step (exact calls_wkq (C2 _))
  iterate 6 (go_big_quiet_step (fail))
  go_big_quiet_step (exact calls_wk (C3 _))
  iterate 4 (go_big_quiet_step (fail))
  go_big_quiet_step (exact calls_wkq (C4 _))
  iterate 7 (go_big_quiet_step (fail))
  go_big_quiet_step (exact calls_wk (C5 _))
  iterate 4 (go_big_quiet_step (fail))
  go_big_quiet_step (exact calls_wks (C6 _))
  iterate 9 (go_big_quiet_step (fail))
  go_big_quiet_step (exact calls_wk (C7 _))
  iterate 6 (go_big_quiet_step (fail))
  go_big_quiet_step (exact calls_wks (C8 _))
  iterate 2 (go_big_quiet_step (fail))
  refine wpQuiet_nil ?_
  intro _ hw'
  obtain ⟨z, hw''⟩ := hw'
  subst hw''
  have hs11 := z.s
  have kt11 := z.k
  generalize z.u = w11 at *
  have hV64 := hG.rg.vr.1
  have f0' : w10.cell? ⟨w.heap.size, 0, none⟩ = some (.int .i64 (V : Int)) := by rw [← hG.rg.gv]; exact f0
  have hW12 := hG.wl
  have htb : w.heap.size ≤ tb := Nat.le_trans b5.size z1
  have hrb : w.heap.size ≤ rb := Nat.le_trans b5.size z2
  have hwf : w.heap.size ≤ w10.heap.size := b10.size
  have KK : ∀ {wr : World}, Kt tb rb w10 wr → CtV wr kb V g.rules W 4611686018427387904 (cnT g.rules W 4611686018427387904 (tt + 1)) vR' (.slice aw W.length cw) b0' c0' b1' c1' rb' := fun h => ctv_keep hcv hs10 h
  have OE := fun (k q r : Int) => of_eq hG nst k q r
  have HOE := hd OE
  clear C1 C2 C3 C4 C5 C6 C7 C8 g1 g2 g3 g4 s2 NE nst OE
  go_wp2_with fail
  go_loopw [21] (fun v wr => ∃ k : Nat, k ≤ V ∧ v = .int .i64 (k : Int) ∧ ChS wr cb tb rb g W V E vR vW ∧ Kt tb rb w10 wr) (fun v _ => V - (intOf v).toNat)
  case atStart => exact ⟨0, Nat.zero_le _, rfl, hs11, kt11⟩
  case round =>
    obtain ⟨k, hk, rfl, hs, hkt⟩ := hrel
    have p0 := hs10.keep hkt f0'
    by_cases hlt : k < V
    · have hkI : (k : Int) < (V : Int) := Int.ofNat_lt.2 hlt
      go_wp2_with fail
      go_loopw [22] (fun x wx => ∃ q : Nat, q ≤ W.length + 1 ∧ x = .int .i64 (q : Int) ∧ ChS wx cb tb rb g W V E vR vW ∧ Kt tb rb w10 wx) (fun x _ => W.length + 1 - (intOf x).toNat)
      case atStart => exact ⟨0, Nat.zero_le _, rfl, hs, hkt⟩
      case round =>
        obtain ⟨q, hq, rfl, hs2, hkt2⟩ := hrel
        by_cases hlq : q ≤ W.length
        · have hqI : (q : Int) ≤ (W.length : Int) := Int.ofNat_le.2 hlq
          go_wp2_with fail
          go_loopw [23] (fun y wy => ∃ r : Nat, r ≤ W.length + 1 ∧ y = .int .i64 (r : Int) ∧ ChS wy cb tb rb g W V E vR vW ∧ Kt tb rb w10 wy) (fun y _ => W.length + 1 - (intOf y).toNat)
          case atStart => exact ⟨q, hq, rfl, hs2, hkt2⟩
          case round =>
            obtain ⟨r, hr, rfl, hs3, hkt3⟩ := hrel
            by_cases hlr : r ≤ W.length
            · have hrI : (r : Int) ≤ (W.length : Int) := Int.ofNat_le.2 hlr
              have A := Of_any hG hE (k : Int) (q : Int) (r : Int) _ hs3
              have B := fun {wq : World} (h : Kt tb rb w10 wq) => cofI_any (k : Int) (q : Int) (r : Int) wq (KK h) hcg
              simp only [HOE.out] at B
              generalize ofZ g W V (k : Int) (q : Int) (r : Int) = N at *
              have gN : (N != N) = false := by simp
              go_wp2_with fail
              refine A.mono ?_
              rintro e w13 ⟨rfl, hs4, kt4⟩
              have hkt4 := hkt3.trans kt4
              go_wp2_with fail
              refine (B hkt4).mono ?_
              rintro e w14 ⟨rfl, hw14⟩
              obtain rfl := hw14.symm
              go_wp2_with fail
              go_roundw
              case rel => exact ⟨r + 1, Nat.succ_le_succ hlr, by go_num, hs4, hkt4⟩
              case measure => clear hs hs2 hs3 hs4 hs6 hs10 hs11 hkt hkt2 hkt3 hkt4 kt4; simp [intOf]; omega
            · have hgt : ¬ ((r : Int) ≤ (W.length : Int)) := fun h => hlr (Int.ofNat_le.1 h)
              go_wp2_with fail
              go_roundw
              case rel => exact ⟨q + 1, Nat.succ_le_succ hlq, by go_num, hs3, hkt3⟩
              case measure => clear hs hs2 hs3 hs6 hs10 hs11 hkt hkt2 hkt3; simp [intOf]; omega
        · have hgt : ¬ ((q : Int) ≤ (W.length : Int)) := fun h => hlq (Int.ofNat_le.1 h)
          go_wp2_with fail
          go_roundw
          case rel => exact ⟨k + 1, hlt, by go_num, hs2, hkt2⟩
          case measure => clear hs hs2 hs6 hs10 hs11 hkt hkt2; simp [intOf]; omega
    · have hge : ¬ ((k : Int) < g.vars) := by rw [hG.rg.gv]; omega
      have y0 := hs10.keep hkt f0
      have y1 := hs10.keep hkt f1
      have y2 := hs10.keep hkt f2
      have y3 := hs10.keep hkt f3
      have t0 := hs10.keep hkt r0
      have t1 := hs10.keep hkt r1
      have t2 := hs10.keep hkt r2
      have t3 := hs10.keep hkt r3
      have KA := hs10.keepA hkt
      have SG := sameGram_any g g _ _ _ ⟨_, rfl, ro10.mono KA⟩ ⟨_, rfl, hr10.mono KA⟩
      have SI := fun wz (hb : Below (World.heap _).size _ wz) => sameInts_any W W (.slice a5 W.length c5) (.slice aw W.length cw) wz ((i10.mono KA).lw hb) ((iw10.mono KA).lw hb)
      have hdW : decide (W = W) = true := decide_eq_true rfl
      have hdG : decide (g = g) = true := decide_eq_true rfl
      rw [hdW] at SI
      rw [hdG] at SG
      clear p0
      go_wp2_with fail
      refine SG.mono ?_
      rintro e w15 ⟨rfl, hb15'⟩
      have SI' := SI w15 hb15'
      go_wp2_with fail
      refine SI'.mono ?_
      rintro e w16 ⟨rfl, hb16⟩
      go_wp2_with fail
      go_ret
      exact ⟨rfl, bthen (bthen (b10.trans (hkt.below htb hrb hwf)) hb15') hb16⟩
set_option maxRecDepth 100000 in
theorem open_ints_arg {H : Type} {enc : TypeId × Value → H} {w : World} {base b2 : Nat} {spare : Nat → Bool} {held : Bool} {v : Value} {d : DataW H} {ps : List MemPlace} (hv : Value.okWide Try.prog w .any b2 35 v) (h : DataW.Trod enc Try.prog w base spare held 35 v d ps) : ∃ l : List Int, IsV w G.All v l := by
  obtain ⟨a, len, cap, rfl⟩ := okWide_slice Try.underlying35 hv
  obtain ⟨fuel, h⟩ := h
  exact open_ints h

set_option maxRecDepth 100000 in
theorem lifted (os : Os) (started : os.Started) (H : Type) (enc : TypeId × Value → H) :
    ReturnsInHanded {} Try.checked os 8 .any (Rows.chartCountsSpec.pre6 enc Try.prog Try.f8 Rows.chartCountsRow.domain false) (Rows.chartCountsSpec.post enc Try.prog Try.f8 false true false false) := by
  refine returnsInHanded_of_change (C := Try.checked) own started (by kernel_rfl) Try.func8
    (ChangeSpec.witness6 (enc := enc) (C := Try.checked) false ⟨#[], #[.agg #[.int .i64 0, .int .i64 0, .int .i64 0, .slice none 0 0], .slice none 0 0, .int .i64 0, .int .i64 0, .int .i64 0, .int .i64 0, .int .i64 0], []⟩ 8 (by kernel_rfl) (by kernel_rfl) (by kernel_rfl) (by kernel_rfl)) ?_
  intro W base args ds gs before hval0 hW hcnd _
  have hval : ∀ (j : Nat) t v, Try.f8.params[j]? = some t → args[j]? = some v → Value.okWide Try.prog W .any base t v := hval0
  have hW' := hW
  obtain ⟨p, q, hA0, hV, rfl, hfz, hnd⟩ := hW
  have hA : DataW.TrodAll enc Try.prog W 0 (fun _ => true) true Try.f8.params.toList args.toList ds p := hA0
  rw [Try.params8] at hA hval
  obtain ⟨v0, vs0, d0, ds0, p0, q0, hargs, rfl, rfl, h0, r0⟩ := trodAll_cons hA
  obtain ⟨v1, vs1, d1, ds1, p1, q1, rfl, rfl, rfl, h1, r1⟩ := trodAll_cons r0
  obtain ⟨v2, vs2, d2, ds2, p2, q2, rfl, rfl, rfl, h2, r2⟩ := trodAll_cons r1
  obtain ⟨v3, vs3, d3, ds3, p3, q3, rfl, rfl, rfl, h3, r3⟩ := trodAll_cons r2
  obtain ⟨v4, vs4, d4, ds4, p4, q4, rfl, rfl, rfl, h4, r4⟩ := trodAll_cons r3
  obtain ⟨v5, vs5, d5, ds5, p5, q5, rfl, rfl, rfl, h5, r5⟩ := trodAll_cons r4
  obtain ⟨v6, vs6, d6, ds6, p6, q6, rfl, rfl, rfl, h6, r6⟩ := trodAll_cons r5
  obtain ⟨rfl, rfl, rfl⟩ := trodAll_nil r6
  obtain rfl : args = #[v0, v1, v2, v3, v4, v5, v6] := by cases args; simp_all
  obtain ⟨rfl, rfl⟩ := trodVars_none hV
  have k0 := h0
  have k1 := h1
  have k2 := h2
  have k3 := h3
  have k4 := h4
  have k5 := h5
  have k6 := h6
  have lt0 : ∀ x ∈ p0, x.block < W.heap.size := by obtain ⟨m, hm⟩ := k0; exact DataW.trod_lt m _ _ _ hm
  have lt1 : ∀ x ∈ p1, x.block < W.heap.size := by obtain ⟨m, hm⟩ := k1; exact DataW.trod_lt m _ _ _ hm
  have lt2 : ∀ x ∈ p2, x.block < W.heap.size := by obtain ⟨m, hm⟩ := k2; exact DataW.trod_lt m _ _ _ hm
  have lt3 : ∀ x ∈ p3, x.block < W.heap.size := by obtain ⟨m, hm⟩ := k3; exact DataW.trod_lt m _ _ _ hm
  have lt4 : ∀ x ∈ p4, x.block < W.heap.size := by obtain ⟨m, hm⟩ := k4; exact DataW.trod_lt m _ _ _ hm
  have lt5 : ∀ x ∈ p5, x.block < W.heap.size := by obtain ⟨m, hm⟩ := k5; exact DataW.trod_lt m _ _ _ hm
  have lt6 : ∀ x ∈ p6, x.block < W.heap.size := by obtain ⟨m, hm⟩ := k6; exact DataW.trod_lt m _ _ _ hm
  obtain ⟨g, hg⟩ := open_gram (hval 0 24 v0 rfl rfl) h0
  obtain ⟨x, hx⟩ := open_ints_arg (hval 1 35 v1 rfl rfl) h1
  obtain ⟨a, rfl⟩ := okWide_int Try.underlying3 (hval 2 3 v2 rfl rfl)
  obtain ⟨b, rfl⟩ := okWide_int Try.underlying3 (hval 3 3 v3 rfl rfl)
  obtain ⟨i, rfl⟩ := okWide_int Try.underlying3 (hval 4 3 v4 rfl rfl)
  obtain ⟨m, rfl⟩ := okWide_int Try.underlying3 (hval 5 3 v5 rfl rfl)
  obtain ⟨j, rfl⟩ := okWide_int Try.underlying3 (hval 6 3 v6 rfl rfl)
  clear hA0 hval0
  refine (walk g x a b i m j v0 v1 W hg hx).mono fun e W' ⟨he, bel⟩ => ?_
  subst he
  exact ⟨_, rfl, _, _, _, [], _, [], hW', trodAll_mk1 (shut_bool Try.underlying4 _), (trodAll_cons_mk (Below.trod laidOut (by kernel_rfl) (of_decide_eq_true (by kernel_rfl)) k0 bel lt0) (trodAll_cons_mk (Below.trod laidOut (by kernel_rfl) (of_decide_eq_true (by kernel_rfl)) k1 bel lt1) (trodAll_cons_mk (Below.trod laidOut (by kernel_rfl) (of_decide_eq_true (by kernel_rfl)) k2 bel lt2) (trodAll_cons_mk (Below.trod laidOut (by kernel_rfl) (of_decide_eq_true (by kernel_rfl)) k3 bel lt3) (trodAll_cons_mk (Below.trod laidOut (by kernel_rfl) (of_decide_eq_true (by kernel_rfl)) k4 bel lt4) (trodAll_cons_mk (Below.trod laidOut (by kernel_rfl) (of_decide_eq_true (by kernel_rfl)) k5 bel lt5) (trodAll_cons_mk (Below.trod laidOut (by kernel_rfl) (of_decide_eq_true (by kernel_rfl)) k6 bel lt6) trodAll_mk0))))))), rfl, bel.frame _, fun h => by cases h⟩

theorem stands : Rows.chartCountsRow.holds Try.pinned (OpenSpec.ofChange Rows.chartCountsSpec) :=
  OpenClaim.holds_of_wide 8 Try.f8 rfl rfl rfl rfl rfl rfl rfl ⟨rfl, rfl, rfl, rfl, rfl⟩ rfl rfl rfl rfl rfl (by kernel_rfl) Try.func8 (by kernel_rfl)
    (of_decide_eq_true (by kernel_rfl)) (by unfold Func.isWrapper; first | (rw [if_pos (by decide +kernel)]; kernel_rfl) | (rw [if_neg (by decide +kernel)]; exact ⟨rfl, rfl⟩))
    (fun os started H enc _ => lifted os started H enc)

theorem proved : Rows.ChartCountsSaid := stands
#print axioms proved
end Go.Proofs.Ytlhdppkllmnmkad.chartCounts
