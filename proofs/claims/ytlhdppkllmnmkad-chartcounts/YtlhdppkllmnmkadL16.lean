/- Texts laid together: Zr Zs Zt. -/
import Derived.Test.YtlhdppkllmnmkadL15
import Derived.Test.YtlhdppkllmnmkadL03
import Derived.Maps.RangeWalk
/- A chart's row. -/
namespace Go.Proofs.Ytlhdppkllmnmkad.G
open Go.RowKit Go.Maps
section
variable {cb tb rb : Nat} {g : Gm} {W : List Int} {V : Nat} {E : BitVec 64} {vR vW : Value}
/-- A world in which a chart may have counted more, and some is new. -/
structure Wk (cb tb rb : Nat) (g : Gm) (W : List Int) (V : Nat) (E : BitVec 64) (vR vW : Value) (w : World) where
  u : World
  s : ChS u cb tb rb g W V E vR vW
  k : Kt tb rb w u
theorem Wk.cell {w : World} (x : Wk cb tb rb g W V E vR vW w) (h0 : ChS w cb tb rb g W V E vR vW) {b o : Nat} {v : Value} (h : w.cell? ⟨b, o, none⟩ = some v) : x.u.cell? ⟨b, o, none⟩ = some v := h0.keep x.k h
theorem Wk.below {w w' : World} (h0 : ChS w cb tb rb g W V E vR vW) (hb : Below w.heap.size w w') : ∃ z : Wk cb tb rb g W V E vR vW w, w' = z.u := ⟨⟨w', h0.lw hb, Kt.of_below hb⟩, rfl⟩
theorem Wk.ne {w : World} (h0 : ChS w cb tb rb g W V E vR vW) : Nonempty (Wk cb tb rb g W V E vR vW w) := ⟨⟨w, h0, Kt.refl _ _ _⟩⟩
theorem calls_wk {f : FuncId} {args : Array Value} {w : World} {x : Wk cb tb rb g W V E vR vW w} {n : Int} (h : Calls Try.prog f args x.u (ChR x.u cb tb rb g W V E vR vW n)) :
    Calls Try.prog f args x.u fun e w'' => e = .returned (.int .i64 n) ∧ ∃ y : Wk cb tb rb g W V E vR vW w, w'' = y.u :=
  h.mono fun _ _ ⟨he, hs, hk⟩ => ⟨he, ⟨_, hs, x.k.trans hk⟩, rfl⟩
theorem calls_wks {f : FuncId} {args : Array Value} {w : World} {x : Wk cb tb rb g W V E vR vW w} {v : Value} (h : Calls Try.prog f args x.u fun e w' => e = .returned v ∧ Below x.u.heap.size x.u w') :
    Calls Try.prog f args x.u fun e w'' => e = .returned v ∧ ∃ y : Wk cb tb rb g W V E vR vW w, w'' = y.u :=
  h.mono fun _ _ ⟨he, hb⟩ => ⟨he, ⟨_, x.s.lw hb, x.k.trans (Kt.of_below hb)⟩, rfl⟩
theorem calls_wkq {f : FuncId} {args : Array Value} {w : World} {x : Wk cb tb rb g W V E vR vW w} {v : Value} (h : Calls Try.prog f args x.u fun e w' => e = .returned v ∧ w' = x.u) :
    Calls Try.prog f args x.u fun e w'' => e = .returned v ∧ ∃ y : Wk cb tb rb g W V E vR vW w, w'' = y.u :=
  h.mono fun _ _ ⟨he, hw⟩ => ⟨he, x, hw⟩
theorem splZ_nat (r k i m j : Nat) (hr : r < g.rules.length) (hk : k < (rgtR g r).length) (him : i ≤ m) (hmj : m ≤ j) (hj : j ≤ W.length) : splZ g W V r k i m j = cM (spN g.rules W V (rgtR g r) k i m j) := by
  unfold splZ
  simp only [Int.toNat_natCast]
  rw [if_neg (by omega)]
theorem al5 (w : World) (a b c d e : Obj) : Below w.heap.size w (((((w.alloc a).alloc b).alloc c).alloc d).alloc e) :=
  ((((al1 w a).trans ((al1 _ b).mono (al1 w a).size)).trans ((al1 _ c).mono (al2 w a b).size)).trans ((al2 _ d e).mono ((al2 w a b).trans ((al1 _ c).mono (al2 w a b).size)).size))
theorem zr_step {F : Nat → Nat} {i q : Nat} : smI (cM (spS F i q)) (cM (F (i + q))) 4611686018427387904 = cM (spS F i (q + 1)) := cM_add _ _
theorem zr_add {i x : Nat} (h : i ≤ x) : i + (x - i) = x := by omega
theorem zr_sub {i x : Nat} (h : i ≤ x) : x + 1 - i = x - i + 1 := by omega
theorem zr_end {i x j : Nat} (h : x ≤ j + 1) (h2 : ¬ x ≤ j) : x - i = j + 1 - i := by omega
set_option maxRecDepth 100000 in
set_option maxHeartbeats 400000 in
theorem crow1_any (hG : CkG g W V) {r k i j : Nat} (_hr : r < g.rules.length) (hk : k < (rgtR g r).length) (hij : i ≤ j) (hj : j ≤ W.length) (hsp : ∀ m, i ≤ m → m ≤ j → SplOK cb tb rb g W V E vR vW r k i m j) (b0 b1 b2 b3 b4 : Nat) (w : World) (hc : ChS w cb tb rb g W V E vR vW)
    (x0 : w.cell? ⟨b0, 0, none⟩ = some (.int .i64 i)) (x1 : w.cell? ⟨b1, 0, none⟩ = some (.int .i64 j)) (x2 : w.cell? ⟨b2, 0, none⟩ = some (.pointer (some ⟨cb, 0, none⟩))) (x3 : w.cell? ⟨b3, 0, none⟩ = some (.int .i64 r)) (x4 : w.cell? ⟨b4, 0, none⟩ = some (.int .i64 k)) :
    Calls Try.prog 131 #[.pointer (some ⟨b0, 0, none⟩), .pointer (some ⟨b1, 0, none⟩), .pointer (some ⟨b2, 0, none⟩), .pointer (some ⟨b3, 0, none⟩), .pointer (some ⟨b4, 0, none⟩)] w (ChR w cb tb rb g W V E vR vW (cM (chN (nN g.rules W V) W ((rgtR g r).drop k) i j))) := by
  have hW12 := hG.wl
  have hend := hd (congrArg cM (chN_spS (R := g.rules) (W := W) (V := V) hk hij hj))
  obtain ⟨F, hF⟩ : ∃ F : Nat → Nat, F = fun m => spN g.rules W V (rgtR g r) k i m j := ⟨_, rfl⟩
  have HSP := hd hsp
  have hst := hd (fun q => zr_step (F := F) (i := i) (q := q))
  rw [← hF] at hend
  have HF := hd hF
  clear hF hsp
  generalize cM (chN (nN g.rules W V) W ((rgtR g r).drop k) i j) = R at *
  go_enter Try.func131, Try.ntmps131
  go_wp2_with fail
  go_loopw [6, 7] (fun n m wr => ∃ x : Nat, i ≤ x ∧ x ≤ j + 1 ∧ n = .int .i64 (cM (spS F i (x - i))) ∧ m = .int .i64 (x : Int) ∧ ChS wr cb tb rb g W V E vR vW ∧ Kt tb rb w wr) (fun _ m _ => j + 1 - (intOf m).toNat)
  case atStart => exact ⟨i, Nat.le_refl _, Nat.le_succ_of_le hij, by rw [Nat.sub_self, show spS F i 0 = 0 from rfl, cM_zero], rfl, hc, Kt.refl _ _ _⟩
  case round =>
    obtain ⟨x, hix, hxj, rfl, rfl, hs, hkt⟩ := hrel
    have y0 := hc.keep hkt x0
    have y1 := hc.keep hkt x1
    have y2 := hc.keep hkt x2
    have y3 := hc.keep hkt x3
    have y4 := hc.keep hkt x4
    by_cases hlt : x ≤ j
    · have SP := HSP.out x hix hlt wr hs
      have r1 := hd (cM_rng (spS F i (x - i)))
      have r2 := hd (cM_rng (F x))
      have HN := hd (hst.out (x - i))
      have hFq : spN g.rules W V (rgtR g r) k i x j = F x := by rw [HF.out]
      rw [hFq] at SP
      rw [zr_add hix] at HN
      have hle : (x : Int) ≤ (j : Int) := Int.ofNat_le.2 hlt
      have hq := zr_sub hix
      clear hFq hst hend HSP
      generalize cM (spS F i (x - i)) = n at *
      generalize cM (F x) = n2 at *
      go_wp2_with fail
      refine SP.mono ?_
      rintro e w1 ⟨rfl, hs1, kt1⟩
      go_wp2_with fail
      refine (plus_in w1 r1.out.1 r1.out.2 r2.out.1 r2.out.2).mono ?_
      rintro e wx ⟨rfl, hwx⟩
      obtain rfl := hwx.symm
      go_wp2_with fail
      go_roundw
      case rel => exact ⟨x + 1, Nat.le_succ_of_le hix, Nat.succ_le_succ hlt, by rw [HN.out, hq], by go_num, hs1, hkt.trans kt1⟩
      case measure => clear hk _hr hc hs hs1 hkt kt1 HF HN hxj; simp [intOf]; omega
    · have hqe : x - i = j + 1 - i := zr_end hxj hlt
      have hgt : ¬ ((x : Int) ≤ (j : Int)) := fun h => hlt (Int.ofNat_le.1 h)
      rw [hqe, ← hend.out]
      clear hend hst hqe HSP
      go_wp2_with fail
      go_ret
      exact ⟨rfl, hs, hkt⟩
set_option maxRecDepth 100000 in
set_option maxHeartbeats 400000 in
theorem crow_end (hG : CkG g W V) {r i j : Nat} (hr : r < g.rules.length) : CRowOK cb tb rb g W V E vR vW r (rgtR g r).length i j := by
  intro w hc
  have hn : chN (nN g.rules W V) W ((rgtR g r).drop (rgtR g r).length) i j = if i = j then 1 else 0 := by rw [List.drop_length]; rfl
  rw [hn]
  have hq : ∀ q : Bool, q = ((i : Int) == (j : Int)) → cM (if i = j then 1 else 0) = oneI q := fun q hq => by
    by_cases h : i = j
    · subst h; rw [if_pos rfl, cM_one, hq]; simp [oneI]
    · rw [if_neg h, cM_zero, hq]
      have : ((i : Int) == (j : Int)) = false := by simp; omega
      rw [this]; rfl
  have HQ := hd (hq _ rfl)
  obtain ⟨Z, hZ⟩ : ∃ Z, Z = ((((w.alloc (.cells #[.pointer (some ⟨cb, 0, none⟩)] 64)).alloc (.cells #[.int .i64 r] 3)).alloc (.cells #[.int .i64 ((rgtR g r).length : Nat)] 3)).alloc (.cells #[.int .i64 i] 3)).alloc (.cells #[.int .i64 j] 3) := ⟨_, rfl⟩
  have hZb : Below w.heap.size w Z := by rw [hZ]; exact al5 w _ _ _ _ _
  have x0 : Z.cell? ⟨w.heap.size, 0, none⟩ = some (.pointer (some ⟨cb, 0, none⟩)) := by rw [hZ]; simp [go_sem]
  have x1 : Z.cell? ⟨w.heap.size + 1, 0, none⟩ = some (.int .i64 r) := by rw [hZ]; simp [go_sem]
  have x2 : Z.cell? ⟨w.heap.size + 1 + 1, 0, none⟩ = some (.int .i64 ((rgtR g r).length : Nat)) := by rw [hZ]; simp [go_sem]
  have x3 : Z.cell? ⟨w.heap.size + 1 + 1 + 1, 0, none⟩ = some (.int .i64 i) := by rw [hZ]; simp [go_sem]
  have x4 : Z.cell? ⟨w.heap.size + 1 + 1 + 1 + 1, 0, none⟩ = some (.int .i64 j) := by rw [hZ]; simp [go_sem]
  have hsZ := hc.lw hZb
  have k3 := hsZ.c3
  obtain ⟨aR, cR, rfl⟩ := hc.r.slice
  obtain ⟨bR, oR, rfl, d0, au, cu, d1, hu⟩ := hsZ.r.at_ hr
  have hrr : g.rules[r].right = rgtR g r := by unfold rgtR; rw [hG.at_ hr]
  rw [hrr] at d1
  have OA := fun u => one_any ((i : Int) == (j : Int)) u
  have hrI : (r : Int) < (g.rules.length : Int) := Int.ofNat_lt.2 hr
  clear hu hrr hn hq d0
  rw [HQ.out]
  clear HQ
  generalize (rgtR g r).length = L at *
  go_enter Try.func98, Try.ntmps98
  go_wp2_with fail
  rw [← hZ]
  have HZ := hd hZ
  clear hZ
  go_quiet (fail)
  go_wp2_with fail
  refine (OA _).mono ?_
  rintro e wx ⟨rfl, hwx⟩
  obtain rfl := hwx.symm
  go_wp2_with fail
  go_ret
  exact ⟨rfl, hsZ.lw (drwN Z _), Kt.of_below (bthen hZb (drwN Z _))⟩
set_option maxRecDepth 100000 in
set_option maxHeartbeats 1000000 in
theorem crow_mid (hG : CkG g W V) {r k i j : Nat} (hr : r < g.rules.length) (hk : k < (rgtR g r).length) (hij : i ≤ j) (hj : j ≤ W.length) (hsp : ∀ m, i ≤ m → m ≤ j → SplOK cb tb rb g W V E vR vW r k i m j) : CRowOK cb tb rb g W V E vR vW r k i j := by
  intro w hc
  obtain ⟨Z, hZ⟩ : ∃ Z, Z = ((((w.alloc (.cells #[.pointer (some ⟨cb, 0, none⟩)] 64)).alloc (.cells #[.int .i64 r] 3)).alloc (.cells #[.int .i64 k] 3)).alloc (.cells #[.int .i64 i] 3)).alloc (.cells #[.int .i64 j] 3) := ⟨_, rfl⟩
  have hZb : Below w.heap.size w Z := by rw [hZ]; exact al5 w _ _ _ _ _
  have x0 : Z.cell? ⟨w.heap.size, 0, none⟩ = some (.pointer (some ⟨cb, 0, none⟩)) := by rw [hZ]; simp [go_sem]
  have x1 : Z.cell? ⟨w.heap.size + 1, 0, none⟩ = some (.int .i64 r) := by rw [hZ]; simp [go_sem]
  have x2 : Z.cell? ⟨w.heap.size + 1 + 1, 0, none⟩ = some (.int .i64 k) := by rw [hZ]; simp [go_sem]
  have x3 : Z.cell? ⟨w.heap.size + 1 + 1 + 1, 0, none⟩ = some (.int .i64 i) := by rw [hZ]; simp [go_sem]
  have x4 : Z.cell? ⟨w.heap.size + 1 + 1 + 1 + 1, 0, none⟩ = some (.int .i64 j) := by rw [hZ]; simp [go_sem]
  have hsZ := hc.lw hZb
  have k3 := hsZ.c3
  have k7 := hsZ.c7
  obtain ⟨aR, cR, rfl⟩ := hc.r.slice
  obtain ⟨bR, oR, rfl, d0, au, cu, d1, hu⟩ := hsZ.r.at_ hr
  have hrr : g.rules[r].right = rgtR g r := by unfold rgtR; rw [hG.at_ hr]
  rw [hrr] at d1
  have hrI : (r : Int) < (g.rules.length : Int) := Int.ofNat_lt.2 hr
  have hne : ((k : Int) == (((rgtR g r).length : Nat) : Int)) = false := by simp; omega
  have KO : ∀ z : Wk cb tb rb g W V E (.slice (some ⟨bR, oR, none⟩) g.rules.length cR) vW Z, Calls Try.prog 130 #[.map (some rb), .agg #[.int .i64 r, .int .i64 k, .int .i64 i, .int .i64 j], .func (.func 131) #[] #[.pointer (some ⟨w.heap.size + 1 + 1 + 1, 0, none⟩), .pointer (some ⟨w.heap.size + 1 + 1 + 1 + 1, 0, none⟩), .pointer (some ⟨w.heap.size, 0, none⟩), .pointer (some ⟨w.heap.size + 1, 0, none⟩), .pointer (some ⟨w.heap.size + 1 + 1, 0, none⟩)]] z.u (ChR z.u cb tb rb g W V E (.slice (some ⟨bR, oR, none⟩) g.rules.length cR) vW (cM (chN (nN g.rules W V) W ((rgtR g r).drop k) i j))) := fun z =>
    keptO_any hG r k i j hr hk hij hj _ _ z.u z.s (fun args w => by go_simp) fun w1 hb1 =>
      crow1_any hG hr hk hij hj hsp _ _ _ _ _ w1 (z.s.lw hb1) (bkeep hb1 (z.cell hsZ x3)) (bkeep hb1 (z.cell hsZ x4)) (bkeep hb1 (z.cell hsZ x0)) (bkeep hb1 (z.cell hsZ x1)) (bkeep hb1 (z.cell hsZ x2))
  clear hu hrr d0 hsp
  generalize cM (chN (nN g.rules W V) W ((rgtR g r).drop k) i j) = n at *
  generalize (rgtR g r).length = L at *
  go_enter Try.func98, Try.ntmps98
  go_wp2_with fail
  rw [← hZ]
  have HZ := hd hZ
  clear hZ
  go_quiet (fail)
  rename_i nq
  have NE := Wk.ne hsZ
  have e0 := fun z : Wk cb tb rb g W V E (.slice (some ⟨bR, oR, none⟩) g.rules.length cR) vW Z => z.cell hsZ x0
  have e1 := fun z : Wk cb tb rb g W V E (.slice (some ⟨bR, oR, none⟩) g.rules.length cR) vW Z => z.cell hsZ x1
  have e2 := fun z : Wk cb tb rb g W V E (.slice (some ⟨bR, oR, none⟩) g.rules.length cR) vW Z => z.cell hsZ x2
  have e3 := fun z : Wk cb tb rb g W V E (.slice (some ⟨bR, oR, none⟩) g.rules.length cR) vW Z => z.cell hsZ x3
  have e4 := fun z : Wk cb tb rb g W V E (.slice (some ⟨bR, oR, none⟩) g.rules.length cR) vW Z => z.cell hsZ x4
  have e7 := fun z : Wk cb tb rb g W V E (.slice (some ⟨bR, oR, none⟩) g.rules.length cR) vW Z => z.cell hsZ k7
  go_wp2_with fail
  refine region_quiet_lit (C := fun w' => ∃ z : Wk cb tb rb g W V E (.slice (some ⟨bR, oR, none⟩) g.rules.length cR) vW Z, w' = z.u) (by kernel_rfl) (by kernel_rfl) (Wk.below hsZ ⟨rfl, rfl, rfl, Nat.le_refl _, fun _ _ => rfl⟩) ?_
  iterate 10 (go_big_quiet_step (fail))
  go_big_quiet_step (exact calls_wk (KO _))
  go_big_quiet_step (fail)
  refine wpQuiet_nil ?_
  intro _ hw'
  obtain ⟨z, hw''⟩ := hw'
  subst hw''
  go_wp2_with fail
  go_ret
  exact ⟨rfl, z.s, (Kt.of_below hZb).trans z.k⟩
end
end Go.Proofs.Ytlhdppkllmnmkad.G

/- A chart's Of, as far as its rows. -/
namespace Go.Proofs.Ytlhdppkllmnmkad.G
open Go.RowKit Go.Maps
section
variable {cb tb rb : Nat} {g : Gm} {W : List Int} {V : Nat} {E : BitVec 64} {vR vW : Value}
theorem stS_take {f : Nat → Nat → Nat → Nat} {R : List Ru} {i j : Nat} {l : List Int} {k : Nat} (hk : k < l.length) : stS f R W i j (l.take (k + 1)) = stS f R W i j (l.take k) + chN f W (R.getD (l[k]).toNat ⟨0, []⟩).right i j := by
  have key : ∀ a b : List Int, stS f R W i j (a ++ b) = stS f R W i j a + stS f R W i j b := fun a b => by
    induction a with
    | nil => simp [stS]
    | cons x a ih => simp only [List.cons_append, stS, ih]; omega
  rw [← List.take_append_getElem hk, key]; simp [stS]
theorem byL_in {v : Int} : ∀ {rs : List Ru} {k : Nat} {x : Int}, x ∈ byL v rs k → ∃ q : Nat, x = ((k + q : Nat) : Int) ∧ ∃ h : q < rs.length, rs[q].left = v
  | [], _, _, h => by simp [byL] at h
  | r :: rs, k, x, h => by
    simp only [byL] at h
    have rec_ : x ∈ byL v rs (k + 1) → ∃ q : Nat, x = ((k + q : Nat) : Int) ∧ ∃ h : q < (r :: rs).length, (r :: rs)[q].left = v := fun h => by
      obtain ⟨q, h1, h2, h3⟩ := byL_in h
      exact ⟨q + 1, by rw [h1]; congr 1; omega, by simpa using h2, by simpa using h3⟩
    split at h
    · rename_i hv
      rcases List.mem_cons.1 h with rfl | h
      · exact ⟨0, rfl, by simp, by simpa using hv⟩
      · exact rec_ h
    · exact rec_ h
set_option maxRecDepth 100000 in
set_option maxHeartbeats 1000000 in
theorem cof1_any (hG : CkG g W V) {v i j : Nat} (_hij : i ≤ j) (hj : j ≤ W.length) (hrow : ∀ r (hr : r < g.rules.length), g.rules[r].left = (v : Int) → CRowOK cb tb rb g W V E vR vW r 0 i j) (b0 b1 b2 b3 : Nat) (w : World) (hc : ChS w cb tb rb g W V E vR vW)
    (x0 : w.cell? ⟨b0, 0, none⟩ = some (.pointer (some ⟨cb, 0, none⟩))) (x1 : w.cell? ⟨b1, 0, none⟩ = some (.int .i64 v)) (x2 : w.cell? ⟨b2, 0, none⟩ = some (.int .i64 i)) (x3 : w.cell? ⟨b3, 0, none⟩ = some (.int .i64 j)) :
    Calls Try.prog 96 #[.pointer (some ⟨b0, 0, none⟩), .pointer (some ⟨b1, 0, none⟩), .pointer (some ⟨b2, 0, none⟩), .pointer (some ⟨b3, 0, none⟩)] w (ChR w cb tb rb g W V E vR vW (cM (nN g.rules W V v i j))) := by
  have hlen : g.rules.length ≤ 1000000 := by have := hG.rg.few; omega
  have k0 := hc.c0
  have k1 := hc.c1
  have k2 := hc.c2
  have k3 := hc.c3
  obtain ⟨aR, cR, rfl⟩ := hc.r.slice
  have BY := fun w' (hb : Below w.heap.size w w') => by_any g v _ w' ⟨_, rfl, hc.r.lw hb⟩ hlen
  obtain ⟨l, hl⟩ : ∃ l, l = byL (v : Int) g.rules 0 := ⟨_, rfl⟩
  have hfx : nN g.rules W V v i j = stS (nN g.rules W V) g.rules W i j l := by
    rw [nN_fix hG.ac hG.hR v i j hj, hl]
    exact stS_by g.rules 0 (by simp)
  have hin : ∀ x ∈ l, ∃ r : Nat, x = r ∧ CRowOK cb tb rb g W V E (.slice aR g.rules.length cR) vW r 0 i j := fun x hx => by
    obtain ⟨q, h1, h2, h3⟩ := byL_in (hl ▸ hx)
    exact ⟨q, by rw [h1, Nat.zero_add], hrow q h2 h3⟩
  rw [hfx]
  rw [← hl] at BY
  have hll : l.length ≤ 160 := by have := byL_len (v := (v : Int)) g.rules 0; have := hG.rg.few; rw [hl]; omega
  have HIN := hd hin
  have BYd := BY w.drew (drw1 w)
  have d0 : w.drew.cell? ⟨b0, 0, none⟩ = _ := x0
  have d1 : w.drew.cell? ⟨b1, 0, none⟩ = _ := x1
  have f0 : w.drew.cell? ⟨cb, 0, none⟩ = _ := k0
  have f1 : w.drew.cell? ⟨cb, 1, none⟩ = _ := k1
  have f2 : w.drew.cell? ⟨cb, 2, none⟩ = _ := k2
  have f3 : w.drew.cell? ⟨cb, 3, none⟩ = _ := k3
  clear hfx hin hl BY hlen hrow
  go_enter Try.func96, Try.ntmps96
  go_wp2_with fail
  go_region_law
    (first
      | (go_simp; go_at_call 97; refine BYd.mono ?_; rintro e w1 ⟨u, rfl, own1, hb1⟩; obtain ⟨a1, c1, rfl⟩ := owns_slice own1))
  all_goals
    have i1 : IsV w1 All (.slice a1 l.length c1) l := IsV_owned own1 (by omega) (fun _ _ => trivial)
    have hb01 : Below w.heap.size w w1 := bthen (drw1 w) hb1
    have hs1 := hc.lw hb01
    have y0 := bkeep hb01 x0
    have y2 := bkeep hb01 x2
    have y3 := bkeep hb01 x3
    clear own1
    go_wp2_with fail
    simp only [Act.put, List.setIfInBounds_toArray, List.set_cons_zero, List.set_cons_succ, List.getElem_toArray, List.getElem_cons_succ, List.getElem_cons_zero]
    go_loopw [5, 15] (fun n q wr => ∃ k : Nat, k ≤ l.length ∧ n = .int .i64 (cM (stS (nN g.rules W V) g.rules W i j (l.take k))) ∧ q = .int .i64 (k : Int) ∧ ChS wr cb tb rb g W V E (.slice aR g.rules.length cR) vW ∧ Kt tb rb w1 wr) (fun _ q _ => l.length - (intOf q).toNat)
    case atStart => exact ⟨0, Nat.zero_le _, by rw [List.take_zero, show stS (nN g.rules W V) g.rules W i j [] = 0 from rfl, cM_zero], rfl, hs1, Kt.refl _ _ _⟩
    case round =>
      obtain ⟨k, hk, rfl, rfl, hs, hkt⟩ := hrel
      have z0 := hs1.keep hkt y0
      have z2 := hs1.keep hkt y2
      have z3 := hs1.keep hkt y3
      by_cases hlt : k < l.length
      · obtain ⟨b, o, rfl, c0⟩ := (i1.mono (hs1.keepA hkt)).at_ hlt
        obtain ⟨r, hr, HR⟩ := HIN.out _ (List.getElem_mem hlt)
        have RW : Calls Try.prog 98 #[.pointer (some ⟨cb, 0, none⟩), .int .i64 r, .int .i64 0, .int .i64 i, .int .i64 j] wr (ChR wr cb tb rb g W V E (.slice aR g.rules.length cR) vW (cM (chN (nN g.rules W V) W ((rgtR g r).drop 0) i j))) := HR wr hs
        have hst := stS_take (f := nN g.rules W V) (R := g.rules) (W := W) (i := i) (j := j) hlt
        rw [hr] at hst c0
        have hrr : (g.rules.getD ((r : Int)).toNat ⟨0, []⟩).right = (rgtR g r).drop 0 := by rw [Int.toNat_natCast]; rfl
        rw [hrr] at hst
        have HN := hd ((congrArg cM hst).trans (cM_add _ _).symm)
        have r1 := hd (cM_rng (stS (nN g.rules W V) g.rules W i j (l.take k)))
        have r2 := hd (cM_rng (chN (nN g.rules W V) W ((rgtR g r).drop 0) i j))
        clear hst hrr HR HIN hr
        generalize cM (stS (nN g.rules W V) g.rules W i j (l.take k)) = n at *
        generalize cM (chN (nN g.rules W V) W ((rgtR g r).drop 0) i j) = n2 at *
        go_wp2_with fail
        refine RW.mono ?_
        rintro e w2 ⟨rfl, hs2, kt2⟩
        go_wp2_with fail
        refine (plus_in w2 r1.out.1 r1.out.2 r2.out.1 r2.out.2).mono ?_
        rintro e wx ⟨rfl, hwx⟩
        obtain rfl := hwx.symm
        go_wp2_with fail
        go_roundw
        case rel => exact ⟨k + 1, hlt, by rw [HN.out], by go_num, hs2, hkt.trans kt2⟩
        case measure => clear hs hs1 hs2 hkt kt2 hc HN i1 hll; simp [intOf]; omega
      · have he : l.take k = l := List.take_of_length_le (by omega)
        rw [he]
        clear HIN he
        go_wp2_with fail
        go_ret
        exact ⟨rfl, hs, (Kt.of_below hb01).trans hkt⟩
end
end Go.Proofs.Ytlhdppkllmnmkad.G

/- A chart's Of, Rule, Split, Count: what they answer. -/
namespace Go.Proofs.Ytlhdppkllmnmkad.G
open Go.RowKit Go.Maps
section
variable {cb tb rb : Nat} {g : Gm} {W : List Int} {V : Nat} {E : BitVec 64} {vR vW : Value}
theorem al4 (w : World) (a b c d : Obj) : Below w.heap.size w ((((w.alloc a).alloc b).alloc c).alloc d) := (al2 w a b).trans ((al2 _ c d).mono (al2 w a b).size)
noncomputable def ofZ (g : Gm) (W : List Int) (V : Nat) (v i j : Int) : Int := if v < 0 ∨ (V : Int) ≤ v ∨ i < 0 ∨ j < i ∨ (W.length : Int) < j then 0 else cM (nN g.rules W V v.toNat i.toNat j.toNat)
noncomputable def ruZ (g : Gm) (W : List Int) (V : Nat) (r i j : Int) : Int := if r < 0 ∨ (g.rules.length : Int) ≤ r ∨ i < 0 ∨ j < i ∨ (W.length : Int) < j then 0 else cM (chN (nN g.rules W V) W (rgtR g r.toNat) i.toNat j.toNat)
set_option maxRecDepth 100000 in
set_option maxHeartbeats 4000000 in
theorem chof_any (hG : CkG g W V) (v i j : Int) (hrow : ∀ v' i' j' : Nat, v = v' → i = i' → j = j' → v' < V → i' ≤ j' → j' ≤ W.length → ∀ r (hr : r < g.rules.length), g.rules[r].left = (v' : Int) → CRowOK cb tb rb g W V E vR vW r 0 i' j')
    (w : World) (hc : ChS w cb tb rb g W V E vR vW) :
    Calls Try.prog 46 #[.pointer (some ⟨cb, 0, none⟩), .int .i64 v, .int .i64 i, .int .i64 j] w (ChR w cb tb rb g W V E vR vW (ofZ g W V v i j)) := by
  obtain ⟨R, hR⟩ : ∃ R, R = ofZ g W V v i j := ⟨_, rfl⟩
  rw [← hR]
  obtain ⟨Z, hZ⟩ : ∃ Z, Z = (((w.alloc (.cells #[.pointer (some ⟨cb, 0, none⟩)] 64)).alloc (.cells #[.int .i64 v] 3)).alloc (.cells #[.int .i64 i] 3)).alloc (.cells #[.int .i64 j] 3) := ⟨_, rfl⟩
  have hZb : Below w.heap.size w Z := by rw [hZ]; exact al4 w _ _ _ _
  have x0 : Z.cell? ⟨w.heap.size, 0, none⟩ = some (.pointer (some ⟨cb, 0, none⟩)) := by rw [hZ]; simp [go_sem]
  have x1 : Z.cell? ⟨w.heap.size + 1, 0, none⟩ = some (.int .i64 v) := by rw [hZ]; simp [go_sem]
  have x2 : Z.cell? ⟨w.heap.size + 1 + 1, 0, none⟩ = some (.int .i64 i) := by rw [hZ]; simp [go_sem]
  have x3 : Z.cell? ⟨w.heap.size + 1 + 1 + 1, 0, none⟩ = some (.int .i64 j) := by rw [hZ]; simp [go_sem]
  have hsZ := hc.lw hZb
  have hgv := hG.rg.gv
  have k0 := hsZ.c0
  rw [hgv] at k0
  have k6 := hsZ.c6
  have NE := Wk.ne hsZ
  have SP := fun z : Wk cb tb rb g W V E vR vW Z => cspans_any i j z.u z.s
  have e0 := fun z : Wk cb tb rb g W V E vR vW Z => z.cell hsZ x0
  have e1 := fun z : Wk cb tb rb g W V E vR vW Z => z.cell hsZ x1
  have e2 := fun z : Wk cb tb rb g W V E vR vW Z => z.cell hsZ x2
  have e3 := fun z : Wk cb tb rb g W V E vR vW Z => z.cell hsZ x3
  have f0 := fun z : Wk cb tb rb g W V E vR vW Z => z.cell hsZ k0
  have f6 := fun z : Wk cb tb rb g W V E vR vW Z => z.cell hsZ k6
  by_cases g1 : v < 0
  · have hz := hd (hR.trans (if_pos (.inl g1)))
    have d1 : decide (v < 0) = true := decide_eq_true g1
    clear hR hrow g1
    go_enter Try.func46, Try.ntmps46
    go_wp2_with fail
    rw [← hZ]
    have HZ := hd hZ
    clear hZ
    refine region_quiet_lit (C := fun w' => ∃ z : Wk cb tb rb g W V E vR vW Z, w' = z.u) (by kernel_rfl) (by kernel_rfl) (Wk.below hsZ ⟨rfl, rfl, rfl, Nat.le_refl _, fun _ _ => rfl⟩) ?_
    iterate 18 (go_big_quiet_step (fail))
    refine wpQuiet_nil ?_
    intro _ hw'
    obtain ⟨z, hw''⟩ := hw'
    subst hw''
    go_wp2_with fail
    go_ret
    exact ⟨ret_int hz.out.symm, z.s, (Kt.of_below hZb).trans z.k⟩
  have d1 : decide (v < 0) = false := decide_eq_false g1
  by_cases g2 : (V : Int) ≤ v
  · have hz := hd (hR.trans (if_pos (.inr (.inl g2))))
    have d2 : decide ((V : Int) ≤ v) = true := decide_eq_true g2
    clear hR hrow g2 g1
    go_enter Try.func46, Try.ntmps46
    go_wp2_with fail
    rw [← hZ]
    have HZ := hd hZ
    clear hZ
    refine region_quiet_lit (C := fun w' => ∃ z : Wk cb tb rb g W V E vR vW Z, w' = z.u) (by kernel_rfl) (by kernel_rfl) (Wk.below hsZ ⟨rfl, rfl, rfl, Nat.le_refl _, fun _ _ => rfl⟩) ?_
    iterate 18 (go_big_quiet_step (fail))
    refine wpQuiet_nil ?_
    intro _ hw'
    obtain ⟨z, hw''⟩ := hw'
    subst hw''
    go_wp2_with fail
    go_ret
    exact ⟨ret_int hz.out.symm, z.s, (Kt.of_below hZb).trans z.k⟩
  have d2 : decide ((V : Int) ≤ v) = false := decide_eq_false g2
  by_cases g3 : i < 0 ∨ j < i ∨ (W.length : Int) < j
  · have hz := hd (hR.trans (if_pos (by rcases g3 with h | h | h; exact .inr (.inr (.inl h)); exact .inr (.inr (.inr (.inl h))); exact .inr (.inr (.inr (.inr h))))))
    rw [spB_no g3] at SP
    clear hR hrow g3 g2 g1
    go_enter Try.func46, Try.ntmps46
    go_wp2_with fail
    rw [← hZ]
    have HZ := hd hZ
    clear hZ
    refine region_quiet_lit (C := fun w' => ∃ z : Wk cb tb rb g W V E vR vW Z, w' = z.u) (by kernel_rfl) (by kernel_rfl) (Wk.below hsZ ⟨rfl, rfl, rfl, Nat.le_refl _, fun _ _ => rfl⟩) ?_
    iterate 15 (go_big_quiet_step (fail))
    go_big_quiet_step (exact calls_wkq (SP _))
    iterate 2 (go_big_quiet_step (fail))
    refine wpQuiet_nil ?_
    intro _ hw'
    obtain ⟨z, hw''⟩ := hw'
    subst hw''
    go_wp2_with fail
    go_ret
    exact ⟨ret_int hz.out.symm, z.s, (Kt.of_below hZb).trans z.k⟩
  rw [spB_yes (by omega) (by omega) (by omega)] at SP
  obtain ⟨v', rfl⟩ : ∃ v' : Nat, v = v' := ⟨v.toNat, by omega⟩
  obtain ⟨i', rfl⟩ : ∃ i' : Nat, i = i' := ⟨i.toNat, by omega⟩
  obtain ⟨j', rfl⟩ : ∃ j' : Nat, j = j' := ⟨j.toNat, by omega⟩
  have hv : v' < V := by omega
  have d2n : decide (V ≤ v') = false := decide_eq_false (by omega)
  have hij : i' ≤ j' := by omega
  have hj : j' ≤ W.length := by omega
  have hz : R = cM (nN g.rules W V v' i' j') := by rw [hR]; unfold ofZ; rw [if_neg (by omega)]; simp only [Int.toNat_natCast]
  have HR := hrow v' i' j' rfl rfl rfl hv hij hj
  have KO : ∀ z : Wk cb tb rb g W V E vR vW Z, Calls Try.prog 95 #[.map (some tb), .agg #[.int .i64 v', .int .i64 i', .int .i64 j'], .func (.func 96) #[] #[.pointer (some ⟨w.heap.size, 0, none⟩), .pointer (some ⟨w.heap.size + 1, 0, none⟩), .pointer (some ⟨w.heap.size + 1 + 1, 0, none⟩), .pointer (some ⟨w.heap.size + 1 + 1 + 1, 0, none⟩)]] z.u (ChR z.u cb tb rb g W V E vR vW R) := fun z => by
    rw [hz]
    exact keptT_any hG v' i' j' hv hij hj _ _ z.u z.s (fun args w => by go_simp) fun w1 hb1 =>
      cof1_any hG hij hj HR _ _ _ _ w1 (z.s.lw hb1) (bkeep hb1 (z.cell hsZ x0)) (bkeep hb1 (z.cell hsZ x1)) (bkeep hb1 (z.cell hsZ x2)) (bkeep hb1 (z.cell hsZ x3))
  clear hR hrow g3 g2 g1 hz HR hv hij hj
  go_enter Try.func46, Try.ntmps46
  go_wp2_with fail
  rw [← hZ]
  have HZ := hd hZ
  clear hZ
  refine region_quiet_lit (C := fun w' => ∃ z : Wk cb tb rb g W V E vR vW Z, w' = z.u) (by kernel_rfl) (by kernel_rfl) (Wk.below hsZ ⟨rfl, rfl, rfl, Nat.le_refl _, fun _ _ => rfl⟩) ?_
  iterate 15 (go_big_quiet_step (fail))
  go_big_quiet_step (exact calls_wkq (SP _))
  iterate 2 (go_big_quiet_step (fail))
  refine wpQuiet_nil ?_
  intro _ hw'
  obtain ⟨z, hw''⟩ := hw'
  subst hw''
  go_wp2_with fail
  have NE2 := Wk.ne z.s
  have e0' := fun y : Wk cb tb rb g W V E vR vW z.u => y.cell z.s (z.cell hsZ x0)
  have e1' := fun y : Wk cb tb rb g W V E vR vW z.u => y.cell z.s (z.cell hsZ x1)
  have e2' := fun y : Wk cb tb rb g W V E vR vW z.u => y.cell z.s (z.cell hsZ x2)
  have e3' := fun y : Wk cb tb rb g W V E vR vW z.u => y.cell z.s (z.cell hsZ x3)
  have f6' := fun y : Wk cb tb rb g W V E vR vW z.u => y.cell z.s (z.cell hsZ k6)
  have KO' : ∀ y : Wk cb tb rb g W V E vR vW z.u, Calls Try.prog 95 #[.map (some tb), .agg #[.int .i64 v', .int .i64 i', .int .i64 j'], .func (.func 96) #[] #[.pointer (some ⟨w.heap.size, 0, none⟩), .pointer (some ⟨w.heap.size + 1, 0, none⟩), .pointer (some ⟨w.heap.size + 1 + 1, 0, none⟩), .pointer (some ⟨w.heap.size + 1 + 1 + 1, 0, none⟩)]] y.u (ChR y.u cb tb rb g W V E vR vW R) := fun y => KO ⟨y.u, y.s, z.k.trans y.k⟩
  clear e0 e1 e2 e3 f0 f6 SP KO NE
  refine region_quiet_lit (C := fun w' => ∃ y : Wk cb tb rb g W V E vR vW z.u, w' = y.u) (by kernel_rfl) (by kernel_rfl) (Wk.below z.s ⟨rfl, rfl, rfl, Nat.le_refl _, fun _ _ => rfl⟩) ?_
  iterate 9 (go_big_quiet_step (fail))
  go_big_quiet_step (exact calls_wk (KO' _))
  go_big_quiet_step (fail)
  refine wpQuiet_nil ?_
  intro _ hw'
  obtain ⟨y, hw''⟩ := hw'
  subst hw''
  go_wp2_with fail
  go_ret
  exact ⟨rfl, y.s, (Kt.of_below hZb).trans (z.k.trans y.k)⟩
/-! All of it: by parts of the word that grow, by what leads where, by symbols. -/
theorem cof_ok {v i j : Nat} (h : ∀ w, ChS w cb tb rb g W V E vR vW → Calls Try.prog 46 #[.pointer (some ⟨cb, 0, none⟩), .int .i64 v, .int .i64 i, .int .i64 j] w (ChR w cb tb rb g W V E vR vW (ofZ g W V v i j))) (hv : v < V) (hij : i ≤ j) (hj : j ≤ W.length) : COfOK cb tb rb g W V E vR vW v i j := by
  intro w hc
  have h1 := h w hc
  unfold ofZ at h1
  rw [if_neg (by omega)] at h1
  simpa only [Int.toNat_natCast] using h1
/-- A row, where its symbols are told at each step. -/
theorem crow_from (hG : CkG g W V) (hE : ∀ v : Int, hasB E v = true ↔ Nul g.rules v) {r j : Nat} (hr : r < g.rules.length) (hj : j ≤ W.length) (A : Nat → Nat → Prop)
    (hA : ∀ k i m, A k i → k < (rgtR g r).length → i ≤ m → m ≤ j → i + lstN (fun s => hasB E s) [(rgtR g r).getD k 0] ≤ m → m + lstN (fun s => hasB E s) ((rgtR g r).drop (k + 1)) ≤ j → CSyOK cb tb rb g W V E vR vW ((rgtR g r).getD k 0) i m ∧ A (k + 1) m) :
    ∀ (d k i : Nat), k + d = (rgtR g r).length → i ≤ j → A k i → CRowOK cb tb rb g W V E vR vW r k i j
  | 0, k, i, hk, _, _ => by
    obtain rfl : k = (rgtR g r).length := by omega
    exact crow_end hG hr
  | d + 1, k, i, hk, hij, hAk => by
    refine crow_mid hG hr (by omega) hij hj fun m him hmj w hc => ?_
    have h := csplit_any hG hE (r : Int) k i m j (fun r' k' i' m' j' e1 e2 e3 e4 e5 _ h2 h3 h4 _ h6 h7 => by
      obtain rfl : r = r' := by omega
      obtain rfl : k = k' := by omega
      obtain rfl : i = i' := by omega
      obtain rfl : m = m' := by omega
      obtain rfl : j = j' := by omega
      obtain ⟨s1, s2⟩ := hA k i m hAk h2 h3 h4 h6 h7
      exact ⟨s1, crow_from hG hE hr hj A hA d (k + 1) m (by omega) hmj s2⟩) w hc
    rw [splZ_nat r k i m j hr (by omega) him hmj hj] at h
    exact h
theorem lst_zero {F : Int → Bool} : ∀ {l : List Int}, lstN F l = 0 → ∀ s ∈ l, F s = true
  | [], _, s, h => by cases h
  | x :: l, h0, s, h => by
    simp only [lstN] at h0
    have hx : F x = true := by
      cases e : F x with
      | true => rfl
      | false => rw [e] at h0; simp at h0
    rcases List.mem_cons.1 h with rfl | h
    · exact hx
    · exact lst_zero (by rw [hx] at h0; simpa using h0) s h
theorem chof_all (hG : CkG g W V) (hE : ∀ v : Int, hasB E v = true ↔ Nul g.rules v) : ∀ (n v i j : Nat), (j - i) * (V + 1) + rkN g.rules V v < n → v < V → i ≤ j → j ≤ W.length → COfOK cb tb rb g W V E vR vW v i j
  | 0, _, _, _, h, _, _, _ => absurd h (Nat.not_lt_zero _)
  | n + 1, v, i, j, hn, hv, hij, hj => by
    refine cof_ok (fun w hc => chof_any hG v i j (fun v' i' j' e1 e2 e3 _ _ _ r hr hl => ?_) w hc) hv hij hj
    obtain rfl : v = v' := by omega
    obtain rfl : i = i' := by omega
    obtain rfl : j = j' := by omega
    have hsy := hG.sym hr
    have hrr : g.rules[r].right = rgtR g r := by unfold rgtR; rw [hG.at_ hr]
    have hW12 := hG.wl
    refine crow_from hG hE hr hj (fun k x => i ≤ x ∧ (x = i → ∀ s ∈ (rgtR g r).take k, Nul g.rules s)) (fun k x m hA hk hxm hmj h1 h2 => ?_) (rgtR g r).length 0 i (by omega) hij ⟨Nat.le_refl _, fun _ s hs => by simp at hs⟩
    have hget : (rgtR g r).getD k 0 = (rgtR g r)[k] := by rw [List.getD_eq_getElem?_getD, List.getElem?_eq_getElem hk]; rfl
    rw [hget] at h1 ⊢
    obtain ⟨s1, s2⟩ := hsy _ (List.getElem_mem hk)
    refine ⟨?_, Nat.le_trans hA.1 hxm, fun e => ?_⟩
    · by_cases hs0 : 0 ≤ (rgtR g r)[k]
      · obtain ⟨u, hu⟩ : ∃ u : Nat, (rgtR g r)[k] = u := ⟨((rgtR g r)[k]).toNat, by omega⟩
        refine sym_var hs0 ?_
        rw [hu, Int.toNat_natCast]
        refine chof_all hG hE n u x m ?_ (by omega) hxm (by omega)
        have hru := rkN_le g.rules V (u : Int)
        by_cases hsame : x = i ∧ m = j
        · obtain ⟨rfl, rfl⟩ := hsame
          have hd0 : lstN (fun s => hasB E s) ((rgtR g r).drop (k + 1)) = 0 := by omega
          have hlt := rkN_lt (R := g.rules) (V := V) hG.ac (v := (v : Int)) (u := u) (by omega) ⟨by omega, g.rules[r], List.getElem_mem hr, hl, k, by rw [hrr]; exact hk, by simp only [hrr]; exact hu, by rw [hrr]; exact hA.2 rfl, .inr (by rw [hrr]; exact fun s hs => (hE s).1 (lst_zero hd0 s hs))⟩
          omega
        · have hlt : (m - x) + 1 ≤ j - i := by have := hA.1; omega
          have h3 : ((m - x) + 1) * (V + 1) ≤ (j - i) * (V + 1) := Nat.mul_le_mul_right _ hlt
          rw [Nat.add_mul, Nat.one_mul] at h3
          omega
      · exact sym_term (by omega) s2 hxm (by omega) hW12
    · have hx : x = i := by have := hA.1; omega
      have hl0 : lstN (fun s => hasB E s) [(rgtR g r)[k]] = 0 := by omega
      intro s hs
      rw [← List.take_append_getElem hk] at hs
      rcases List.mem_append.1 hs with hs | hs
      · exact hA.2 hx s hs
      · exact (hE s).1 (lst_zero hl0 s hs)
theorem sym_all (hG : CkG g W V) (hE : ∀ v : Int, hasB E v = true ↔ Nul g.rules v) {s : Int} (hs : s < V ∧ -16 ≤ s) {i j : Nat} (hij : i ≤ j) (hj : j ≤ W.length) : CSyOK cb tb rb g W V E vR vW s i j := by
  by_cases h0 : 0 ≤ s
  · exact sym_var h0 (chof_all hG hE _ s.toNat i j (Nat.lt_succ_self _) (by omega) hij hj)
  · exact sym_term (by omega) hs.2 hij hj hG.wl
theorem row_all (hG : CkG g W V) (hE : ∀ v : Int, hasB E v = true ↔ Nul g.rules v) {r k i j : Nat} (hr : r < g.rules.length) (hk : k ≤ (rgtR g r).length) (hij : i ≤ j) (hj : j ≤ W.length) : CRowOK cb tb rb g W V E vR vW r k i j :=
  crow_from hG hE hr hj (fun _ _ => True) (fun k x m _ hk h1 h2 _ _ => ⟨sym_all hG hE (by rw [show (rgtR g r).getD k 0 = (rgtR g r)[k] by rw [List.getD_eq_getElem?_getD, List.getElem?_eq_getElem hk]; rfl]; exact hG.sym hr _ (List.getElem_mem hk)) h1 (Nat.le_trans h2 hj), trivial⟩) _ k i (Nat.add_sub_cancel' hk) hij trivial
/-- Of, at any numbers. -/
theorem Of_any (hG : CkG g W V) (hE : ∀ v : Int, hasB E v = true ↔ Nul g.rules v) (v i j : Int) (w : World) (hc : ChS w cb tb rb g W V E vR vW) :
    Calls Try.prog 46 #[.pointer (some ⟨cb, 0, none⟩), .int .i64 v, .int .i64 i, .int .i64 j] w (ChR w cb tb rb g W V E vR vW (ofZ g W V v i j)) :=
  chof_any hG v i j (fun _ _ _ _ _ _ _ h1 h2 _ hr _ => row_all hG hE hr (Nat.zero_le _) h1 h2) w hc
/-- Split, at any numbers. -/
theorem Split_any (hG : CkG g W V) (hE : ∀ v : Int, hasB E v = true ↔ Nul g.rules v) (r k i m j : Int) (w : World) (hc : ChS w cb tb rb g W V E vR vW) :
    Calls Try.prog 49 #[.pointer (some ⟨cb, 0, none⟩), .int .i64 r, .int .i64 k, .int .i64 i, .int .i64 m, .int .i64 j] w (ChR w cb tb rb g W V E vR vW (splZ g W V r k i m j)) :=
  csplit_any hG hE r k i m j (fun r' k' i' m' j' _ _ _ _ _ hr hk h1 h2 h3 _ _ => ⟨sym_all hG hE (by rw [show (rgtR g r').getD k' 0 = (rgtR g r')[k'] by rw [List.getD_eq_getElem?_getD, List.getElem?_eq_getElem hk]; rfl]; exact hG.sym hr _ (List.getElem_mem hk)) h1 (Nat.le_trans h2 h3), row_all hG hE hr hk h2 h3⟩) w hc
set_option maxRecDepth 100000 in
set_option maxHeartbeats 4000000 in
theorem Rule_any (hG : CkG g W V) (hE : ∀ v : Int, hasB E v = true ↔ Nul g.rules v) (r i j : Int) (w : World) (hc : ChS w cb tb rb g W V E vR vW) :
    Calls Try.prog 47 #[.pointer (some ⟨cb, 0, none⟩), .int .i64 r, .int .i64 i, .int .i64 j] w (ChR w cb tb rb g W V E vR vW (ruZ g W V r i j)) := by
  have HA := chas_any r w hc
  have HS := cspans_any i j w hc
  obtain ⟨R, hR⟩ : ∃ R, R = ruZ g W V r i j := ⟨_, rfl⟩
  rw [← hR]
  by_cases g0 : r < 0 ∨ (g.rules.length : Int) ≤ r
  · have hz := hd (hR.trans (if_pos (by rcases g0 with h | h; exact .inl h; exact .inr (.inl h))))
    have hb : (decide (0 ≤ r) && decide (r < (g.rules.length : Int))) = false := by rw [← Bool.not_eq_true]; simp only [Bool.and_eq_true, decide_eq_true_eq]; omega
    rw [hb] at HA
    clear hR g0 hb
    go_enter Try.func47, Try.ntmps47
    go_wp2_with fail
    refine HA.mono ?_
    rintro e wx ⟨rfl, hwx⟩
    obtain rfl := hwx.symm
    go_wp2_with fail
    go_ret
    exact ⟨ret_int hz.out.symm, hc, Kt.refl _ _ _⟩
  have hb : (decide (0 ≤ r) && decide (r < (g.rules.length : Int))) = true := by simp only [Bool.and_eq_true, decide_eq_true_eq]; omega
  rw [hb] at HA
  clear hb
  by_cases g3 : i < 0 ∨ j < i ∨ (W.length : Int) < j
  · have hz := hd (hR.trans (if_pos (by rcases g3 with h | h | h; exact .inr (.inr (.inl h)); exact .inr (.inr (.inr (.inl h))); exact .inr (.inr (.inr (.inr h))))))
    rw [spB_no g3] at HS
    clear hR g0 g3
    go_enter Try.func47, Try.ntmps47
    go_wp2_with fail
    refine HA.mono ?_
    rintro e wx ⟨rfl, hwx⟩
    obtain rfl := hwx.symm
    go_wp2_with fail
    refine HS.mono ?_
    rintro e wx ⟨rfl, hwx⟩
    obtain rfl := hwx.symm
    go_wp2_with fail
    go_ret
    exact ⟨ret_int hz.out.symm, hc, Kt.refl _ _ _⟩
  rw [spB_yes (by omega) (by omega) (by omega)] at HS
  obtain ⟨r', rfl⟩ : ∃ r' : Nat, r = r' := ⟨r.toNat, by omega⟩
  obtain ⟨i', rfl⟩ : ∃ i' : Nat, i = i' := ⟨i.toNat, by omega⟩
  obtain ⟨j', rfl⟩ : ∃ j' : Nat, j = j' := ⟨j.toNat, by omega⟩
  have RO : Calls Try.prog 98 #[.pointer (some ⟨cb, 0, none⟩), .int .i64 r', .int .i64 0, .int .i64 i', .int .i64 j'] w (ChR w cb tb rb g W V E vR vW (cM (chN (nN g.rules W V) W ((rgtR g r').drop 0) i' j'))) := row_all hG hE (k := 0) (by omega) (Nat.zero_le _) (by omega) (by omega) w hc
  have hz : R = cM (chN (nN g.rules W V) W ((rgtR g r').drop 0) i' j') := by rw [hR]; unfold ruZ; rw [if_neg (by omega)]; simp only [Int.toNat_natCast, List.drop_zero]
  rw [← hz] at RO
  clear hR hz g0 g3
  go_enter Try.func47, Try.ntmps47
  go_wp2_with fail
  refine HA.mono ?_
  rintro e wx ⟨rfl, hwx⟩
  obtain rfl := hwx.symm
  go_wp2_with fail
  refine HS.mono ?_
  rintro e wx ⟨rfl, hwx⟩
  obtain rfl := hwx.symm
  go_wp2_with fail
  refine RO.mono ?_
  rintro e w1 ⟨rfl, hs1, kt1⟩
  go_wp2_with fail
  go_ret
  exact ⟨rfl, hs1, kt1⟩
set_option maxRecDepth 100000 in
set_option maxHeartbeats 4000000 in
theorem Count_any (hG : CkG g W V) (hE : ∀ v : Int, hasB E v = true ↔ Nul g.rules v) (w : World) (hc : ChS w cb tb rb g W V E vR vW) :
    Calls Try.prog 44 #[.pointer (some ⟨cb, 0, none⟩)] w (ChR w cb tb rb g W V E vR vW (ofZ g W V g.start 0 (W.length : Nat))) := by
  have OF := fun z : Wk cb tb rb g W V E vR vW w => Of_any hG hE g.start 0 (W.length : Nat) z.u z.s
  have NE := Wk.ne hc
  obtain ⟨aW, cW, rfl⟩ := hc.x.slice
  have e2 := fun z : Wk cb tb rb g W V E vR (.slice aW W.length cW) w => z.cell hc hc.c2
  have e4 := fun z : Wk cb tb rb g W V E vR (.slice aW W.length cW) w => z.cell hc hc.c4
  generalize ofZ g W V g.start 0 (W.length : Nat) = n at *
  go_enter Try.func44, Try.ntmps44
  go_wp2_with fail
  refine region_quiet_lit (C := fun w' => ∃ z : Wk cb tb rb g W V E vR (.slice aW W.length cW) w, w' = z.u) (by kernel_rfl) (by kernel_rfl) (Wk.below hc ⟨rfl, rfl, rfl, Nat.le_refl _, fun _ _ => rfl⟩) ?_
  iterate 11 (go_big_quiet_step (fail))
  go_big_quiet_step (exact calls_wk (OF _))
  go_big_quiet_step (fail)
  refine wpQuiet_nil ?_
  intro _ hw'
  obtain ⟨z, hw''⟩ := hw'
  subst hw''
  go_wp2_with fail
  go_ret
  exact ⟨rfl, z.s, z.k⟩
end
end Go.Proofs.Ytlhdppkllmnmkad.G
