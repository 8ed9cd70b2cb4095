/- Proved: for every grammar, every word and every two numbers ChartParts returns true (what a nonterminal has its rules have together; what a rule has that begins with a symbol its splits have), and what was handed in reads as before. No condition. -/
import Derived.Test.YtjjpkjfdmmfliaeL12
import Derived.Test.YtjjpkjfdmmfliaeL01
import Derived.Test.YtjjpkjfdmmfliaeL04
import Derived.Test.YtjjpkjfdmmfliaeRows
import Derived.ProofKit
import Derived.OpenShut
import Derived.ShutString
import Derived.ChangeOld
namespace Go.Proofs.Ytjjpkjfdmmfliae.chartParts
open Go.Proofs.Ytjjpkjfdmmfliae Go.Proofs.Ytjjpkjfdmmfliae.G
open Go.ChangeShapes Go.WideShapes Go.ChangeAt Go.RowKit

theorem own : ownKnob Try.prog.godebug = none := by kernel_rfl
theorem laidOut : laidOutB Try.prog = true := by kernel_rfl

theorem stN_take {f : Nat → Nat → Nat → Nat} {W : List Int} {v : Int} {i j : Nat} {R : List Ru} {k : Nat} (hk : k < R.length) : stN f W v i j (R.take (k + 1)) = stN f W v i j (R.take k) + if R[k].left = v then chN f W R[k].right i j else 0 := by
  rw [← List.take_append_getElem hk, stN_app]; simp [stN]
theorem modnat (i : Int) {L : Nat} (h : L ≤ 12) : ∃ x : Nat, x ≤ L ∧ wrap64 ((IntKind.u64.wrap i).tmod ((L : Int) + 1)) = x := by
  have h0 : 0 ≤ IntKind.u64.wrap i := by rw [IntKind.wrap_u64]; omega
  rw [Int.tmod_eq_emod_of_nonneg h0]
  have h1 := Int.emod_nonneg (IntKind.u64.wrap i) (b := (L : Int) + 1) (by omega)
  have h2 := Int.emod_lt_of_pos (IntKind.u64.wrap i) (b := (L : Int) + 1) (by omega)
  generalize IntKind.u64.wrap i % ((L : Int) + 1) = z at *
  exact ⟨z.toNat, by omega, by rw [w64_in (by omega)]; omega⟩
theorem xyall (i j : Int) {L : Nat} (hL : L ≤ 12) : ∃ x y : Nat, x ≤ L ∧ x ≤ y ∧ y ≤ L ∧ wrap64 ((IntKind.u64.wrap i).tmod ((L : Int) + 1)) = x ∧ wrap64 ((x : Int) + wrap64 ((IntKind.u64.wrap j).tmod ((L : Int) - x + 1))) = y := by
  obtain ⟨x, hx, ex⟩ := modnat i hL
  obtain ⟨t, ht, et⟩ := modnat j (L := L - x) (Nat.le_trans (Nat.sub_le _ _) hL)
  have hc : ((L - x : Nat) : Int) = (L : Int) - x := Int.ofNat_sub hx
  rw [hc] at et
  refine ⟨x, x + t, hx, Nat.le_add_right _ _, by clear ex et; omega, ex, ?_⟩
  rw [et]
  clear ex et
  rw [w64_in (by omega)]; rfl
/-- Sums in memory. -/
def SmV (w : World) (sb V : Nat) (F : Nat → Int) : Prop := ∀ v, v < V → w.cell? ⟨sb, v, none⟩ = some (.int .i64 (F v)) ∧ w.frozen? ⟨sb, v, none⟩ = false
theorem smv_made {w : World} {base e sb V : Nat} (h : w.ownsRow base e 1 (.slice (some ⟨sb, 0, none⟩) V V) V (madeCells #[Value.int .i64 0] V).toList) : SmV w sb V fun _ => 0 := by
  intro v hv
  have h0 := h
  have hm : (madeCells #[Value.int .i64 0] V).toList[v]? = some (.int .i64 0) := by rw [made_zero]; unfold ints; simp [hv]
  refine ⟨by have := World.ownsRow.cellAt h0 v (by have := h0.1; omega); rw [this, hm], ?_⟩
  obtain ⟨_, h2 | ⟨g, cap, cur, e1, _, e3, _⟩⟩ := h
  · cases h2.1
  · simp at e1
    obtain ⟨rfl, _⟩ := e1
    simp [World.frozen?, e3]
theorem SmV.keep {w w' : World} {cb tb rb : Nat} {g : Gm} {W : List Int} {Vn : Nat} {E : BitVec 64} {vR vW : Value} {sb V : Nat} {F : Nat → Int} (h : SmV w sb V F) (hc : ChS w cb tb rb g W Vn E vR vW) (hk : Kt tb rb w w') : SmV w' sb V F := fun v hv =>
  ⟨hc.keep hk (h v hv).1, (hc.froz hk (h v hv).1).trans (h v hv).2⟩
theorem SmV.put {w : World} {sb V v : Nat} {F G : Nat → Int} {n : Int} (h : SmV w sb V F) (hv : v < V) (hn : G v = n) (hG : ∀ u, u ≠ v → G u = F u) : SmV (w.setCell ⟨sb, v, none⟩ (.int .i64 n)) sb V G := fun u hu => by
  refine ⟨?_, by simp [go_sem, (h u hu).2]⟩
  by_cases e : u = v
  · subst e; rw [World.cell?_setCell_same _ _ _ (h u hu).1, hn]
  · rw [World.cell?_setCell_other _ _ _ _ (fun e' => e (by injection e' with e1 e2; exact e2.symm)), hG u e]; exact (h u hu).1
theorem SmV.congr {w : World} {sb V : Nat} {F G : Nat → Int} (h : SmV w sb V F) (hG : ∀ u, u < V → G u = F u) : SmV w sb V G := fun u hu => by rw [hG u hu]; exact h u hu
/-- What was summed so far. -/
noncomputable def cS (g : Gm) (W : List Int) (V x y k : Nat) (v : Nat) : Int := cM (stN (nN g.rules W V) W (v : Int) x y (g.rules.take k))
theorem cS_zero (g : Gm) (W : List Int) (V x y v : Nat) : cS g W V x y 0 v = 0 := by unfold cS; rw [List.take_zero, show stN (nN g.rules W V) W (v : Int) x y [] = 0 from rfl, cM_zero]
theorem cS_yes {g : Gm} {W : List Int} {V x y k lf : Nat} (hk : k < g.rules.length) (hl : g.rules[k].left = (lf : Int)) : cS g W V x y (k + 1) lf = smI (cS g W V x y k lf) (cM (chN (nN g.rules W V) W g.rules[k].right x y)) 4611686018427387904 := by
  unfold cS; rw [stN_take hk, if_pos hl, cM_add]
theorem cS_no {g : Gm} {W : List Int} {V x y k lf u : Nat} (hk : k < g.rules.length) (hl : g.rules[k].left = (lf : Int)) (hu : u ≠ lf) : cS g W V x y (k + 1) u = cS g W V x y k u := by
  unfold cS; rw [stN_take hk, if_neg (by rw [hl]; omega), Nat.add_zero]
theorem cS_rng (g : Gm) (W : List Int) (V x y k v : Nat) : 0 ≤ cS g W V x y k v ∧ cS g W V x y k v ≤ 4611686018427387904 := cM_rng _
theorem ruZ_nat {g : Gm} {W : List Int} {V k x y : Nat} (hk : k < g.rules.length) (hxy : x ≤ y) (hy : y ≤ W.length) : ruZ g W V (k : Int) x y = cM (chN (nN g.rules W V) W (rgtR g k) x y) := by
  unfold ruZ; rw [if_neg (by omega)]; simp only [Int.toNat_natCast]
theorem lt_cast {a b : Nat} (h : a < b) : (a : Int) < (b : Int) := Int.ofNat_lt.2 h
set_option maxRecDepth 100000 in
set_option maxHeartbeats 16000000 in
theorem walk (g : Gm) (W : List Int) (i j : Int) (va vw : Value) (w : World) (hg : GV w All va g) (hw : IsV w All vw W) :
    Calls Try.prog 3 #[va, vw, .int .i64 i, .int .i64 j] w fun e w' => e = .returned (.bool true) ∧ Below w.heap.size w w' := by
  obtain ⟨j0, hj, jz0, jz1, jz2⟩ := info_parts Try.infoInt
  have HV := fun w' (hb : Below w.heap.size w w') => heavy_any g W va vw w' (hg.lw hb) (hw.lw hb)
  have NW := fun w' (hb : Below w.heap.size w w') => chnew_any g W va vw w' (hg.lw hb) (hw.lw hb)
  have hg0 := hg
  obtain ⟨ua, rfl, ra⟩ := hg
  obtain ⟨ao, cap, rfl⟩ := ra.slice
  obtain ⟨aw, cw, rfl⟩ := hw.slice
  obtain ⟨Z, hZ⟩ : ∃ Z, Z = w.alloc (.cells #[.int .i64 g.vars, .int .i64 g.terms, .int .i64 g.start, .slice ao g.rules.length cap] 24) := ⟨_, rfl⟩
  have hZb : Below w.heap.size w Z := by rw [hZ]; exact al1 _ _
  have x0 : Z.cell? ⟨w.heap.size, 0, none⟩ = some (.int .i64 g.vars) := by rw [hZ]; simp
  have x1 : Z.cell? ⟨w.heap.size, 1, none⟩ = some (.int .i64 g.terms) := by rw [hZ]; simp
  have x2 : Z.cell? ⟨w.heap.size, 2, none⟩ = some (.int .i64 g.start) := by rw [hZ]; simp
  have x3 : Z.cell? ⟨w.heap.size, 3, none⟩ = some (.slice ao g.rules.length cap) := by rw [hZ]; simp
  have HHV := hd HV
  have HNW := hd NW
  clear HV NW
  go_enter Try.func3, Try.ntmps3
  go_wp2_with fail
  rw [← hZ]
  have HZ := hd hZ
  clear hZ
  refine (chartBegun_any _).mono ?_
  rintro e w1 ⟨rfl, hb1⟩
  have b1 := bthen hZb hb1
  have a0 := bkeep hb1 x0
  have a1 := bkeep hb1 x1
  have a2 := bkeep hb1 x2
  have a3 := bkeep hb1 x3
  go_wp2_with fail
  refine (HHV.out w1 b1).mono ?_
  rintro e w2 ⟨q, rfl, hq, hb2⟩
  have b2 := bthen b1 hb2
  have hb12 := bthen hb1 hb2
  have c0 := bkeep hb12 x0
  have c1 := bkeep hb12 x1
  have c2 := bkeep hb12 x2
  have c3 := bkeep hb12 x3
  clear hq
  cases q with
  | true =>
    go_wp2_with fail
    go_ret
    exact ⟨rfl, b2⟩
  | false =>
  go_wp2_with fail
  refine (HNW.out w2 b2).mono ?_
  rintro e w3 ⟨hb3, hn⟩
  have b3 := bthen b2 hb3
  have hb13 := bthen hb12 hb3
  rcases hn with ⟨hc, rfl⟩ | ⟨cb, tb, rb, V, E, vR, vW, h0, h00, rfl, hG, hE, hs3, z1, z2, z3⟩
  · have hcb : ((chFl g W).1 != 0) = true := by simpa using hc
    generalize (chFl g W).1 = D1 at *
    generalize (chFl g W).2 = D2 at *
    clear hc
    go_wp2_with fail
    go_ret
    exact ⟨rfl, bthen b3 (al1 _ _)⟩
  obtain ⟨w4, hw4⟩ : ∃ w4, w4 = w3.alloc (.cells #[.int .i64 0, .int .i64 0] 30) := ⟨_, rfl⟩
  have hb4 : Below w3.heap.size w3 w4 := by rw [hw4]; exact al1 _ _
  have hs4 := hs3.lw hb4
  have b4 := bthen b3 hb4
  have hW12 := hG.wl
  have hR160 := hG.rg.few
  have hb14 := bthen hb13 hb4
  have d0 := bkeep hb14 x0
  have d1 := bkeep hb14 x1
  have d2 := bkeep hb14 x2
  have d3 := bkeep hb14 x3
  have hgv := hG.rg.gv
  rw [hgv] at d0
  have hV64 := hG.rg.vr.1
  have e0 : (w3.alloc (.cells #[.int .i64 0, .int .i64 0] 30)).cell? ⟨w.heap.size, 0, none⟩ = some (.int .i64 (V : Int)) := hw4 ▸ d0
  have hV8 : V * 8 ≤ 140737488355328 := by omega
  have hVm : V ≤ maxLen := by unfold maxLen; omega
  obtain ⟨x, y, hxL, hxy, f6, hx, hye⟩ := xyall i j hW12
  have HY := hd hye
  clear hye
  go_wp2_with (first | (refine wpList_make_full _ rfl _ _ 25 rfl w4.heap.size 3 j0 (.int .i64 0) 1 Try.underlying25 hj jz0 jz1 .i64 .i64 _ _ V rfl rfl rfl rfl (by rw [jz2]; first | exact hV8 | (rw [Nat.mul_comm]; exact hV8) | omega) (by first | exact hVm | omega) (by rw [hw4]; simp) ?_))
  intro w5 own5 grow5
  rw [HY.out]
  rw [← hw4] at grow5
  have hb5 : Below w4.heap.size w4 w5 := grown_below grow5
  have hsz : w4.heap.size = w3.heap.size + 1 := by rw [hw4]; simp
  have hm5 := smv_made own5
  obtain ⟨sb, hsb⟩ : ∃ sb, sb = w3.heap.size + 1 := ⟨_, rfl⟩
  rw [← hsb] at hm5 ⊢
  have hs5 := hs4.lw hb5
  have b5 := bthen b4 hb5
  have kt5 : Kt tb rb w4 w5 := Kt.of_below hb5
  have HSZ := hd (hsz.trans hsb.symm)
  have ra4 := ra.lw b4
  clear own5 grow5 hsb hsz e0 hx
  have hwf : w.heap.size ≤ w4.heap.size := b4.size
  have hz2 := b2.size
  have htb : w.heap.size ≤ tb := Nat.le_trans hz2 z1
  have hrb : w.heap.size ≤ rb := Nat.le_trans hz2 z2
  have hw4 := hd hw4
  go_wp2_with fail
  go_loopw [14] (fun i wr => ∃ k : Nat, k ≤ g.rules.length ∧ i = .int .i64 (k : Int) ∧ SmV wr sb V (cS g W V x y k) ∧ ChS wr cb tb rb g W V E vR vW ∧ Kt tb rb w4 wr) (fun i _ => g.rules.length - (intOf i).toNat)
  case atStart => exact ⟨0, Nat.zero_le _, rfl, hm5.congr fun u _ => cS_zero g W V x y u, hs5, kt5⟩
  case round =>
    obtain ⟨k, hk, rfl, hsm, hs, hkt⟩ := hrel
    have p0 := hs4.keep hkt d0
    have p3 := hs4.keep hkt d3
    by_cases hlt : k < g.rules.length
    · have RU := Rule_any hG hE (k : Int) x y wr hs
      rw [ruZ_nat hlt hxy f6] at RU
      have hrr : g.rules[k].right = rgtR g k := by unfold rgtR; rw [hG.at_ hlt]
      obtain ⟨lf, hlf⟩ : ∃ lf : Nat, g.rules[k].left = lf := ⟨(g.rules[k].left).toNat, by have := (hG.rg.vr.2 _ (List.getElem_mem hlt)).1; omega⟩
      have hlV : lf < V := by have := (hG.rg.vr.2 _ (List.getElem_mem hlt)).1; omega
      obtain ⟨b, o, rfl, q0, ar, cr, q1, hu⟩ := ra4.at_ hlt
      have HCY := hd (cS_yes (W := W) (V := V) (x := x) (y := y) hlt hlf)
      have HCN := hd (fun u hu => cS_no (W := W) (V := V) (x := x) (y := y) (u := u) hlt hlf hu)
      rw [hrr] at HCY q1 hu
      rw [hlf] at q0
      have hsp := hd (fun (hk0 : 0 < (rgtR g k).length) => chN_spS (R := g.rules) (W := W) (V := V) (l := rgtR g k) (k := 0) (i := x) (j := y) hk0 hxy f6)
      have hkI := lt_cast hlt
      have hlI := lt_cast hlV
      have rc1 := hd (cS_rng g W V x y k lf)
      have rc2 := hd (cM_rng (chN (nN g.rules W V) W (rgtR g k) x y))
      have hshort := hG.short hlt
      clear hlf hrr
      generalize g.rules[k] = rz at *
      obtain ⟨n, hn⟩ : ∃ n, n = cM (chN (nN g.rules W V) W (rgtR g k) x y) := ⟨_, rfl⟩
      rw [← hn] at RU rc2 HCY
      have HN := hd hn
      clear hn
      go_wp2_with fail
      refine RU.mono ?_
      rintro e w6 ⟨rfl, hs6, kt6⟩
      have s6 := hsm.keep hs kt6
      have t3 := hs.keep kt6 p3
      have hkt6 := hkt.trans kt6
      have t0 := hs4.keep hkt6 q0
      have tS := (s6 lf hlV).1
      have tF := (s6 lf hlV).2
      obtain ⟨n2, hn2⟩ : ∃ n2, n2 = smI (cS g W V x y k lf) n 4611686018427387904 := ⟨_, rfl⟩
      have PL := fun u => plus_in (a := cS g W V x y k lf) (b := n) u rc1.out.1 rc1.out.2 rc2.out.1 rc2.out.2
      rw [← hn2] at HCY PL
      clear hn2
      obtain ⟨w7, hw7⟩ : ∃ w7, w7 = w6.drew.setCell ⟨sb, lf, none⟩ (.int .i64 n2) := ⟨_, rfl⟩
      have s7 : SmV w7 sb V (cS g W V x y (k + 1)) := hw7 ▸ SmV.put (w := w6.drew) (F := cS g W V x y k) s6 hlV HCY.out HCN.out
      have kt7 : Kt tb rb w4 w7 := hw7 ▸ ((hkt6.trans (Kt.of_below (drw1 w6))).setCell (x := ⟨sb, lf, none⟩) (by show w4.heap.size ≤ sb; rw [HSZ.out]; exact Nat.le_refl _) _)
      have hs7 : ChS w7 cb tb rb g W V E vR vW := hs4.turn kt7 (hw7 ▸ (hs6.lw (drw1 w6)).t.of (Below.heap_setCell _ _ _ _ (by have := hs4.t.lt; rw [HSZ.out] at this; show tb ≠ sb; omega))) (hw7 ▸ (hs6.lw (drw1 w6)).o.of (Below.heap_setCell _ _ _ _ (by have := hs4.o.lt; rw [HSZ.out] at this; show rb ≠ sb; omega)))
      have eP : w6.drew.cell? ⟨b, o + k * 2, none⟩ = some (.int .i64 lf) ∧ w6.drew.cell? ⟨w.heap.size, 3, none⟩ = some (.slice (some ⟨b, o, none⟩) g.rules.length cap) := ⟨t0, t3⟩
      have eS : w6.drew.cell? ⟨sb, lf, none⟩ = _ := tS
      have eF : w6.drew.frozen? ⟨sb, lf, none⟩ = false := tF
      have e7 : w7.cell? ⟨b, o + k * 2, none⟩ = some (.int .i64 lf) ∧ w7.cell? ⟨w.heap.size, 3, none⟩ = some (.slice (some ⟨b, o, none⟩) g.rules.length cap) := ⟨hs4.keep kt7 q0, hs4.keep kt7 d3⟩
      have t1 := hs4.keep kt7 q1
      clear s6 HCY HCN rc1 rc2 hs6 hkt6 hs hkt hsm tS tF t0 t3
      generalize cS g W V x y k lf = c1 at *
      go_wp2_with fail
      refine wp_region_noPanic ?_
      refine wp_region_held_drew (S := fun w' => w'.cell? ⟨b, o + k * 2, none⟩ = some (.int .i64 lf) ∧ w'.cell? ⟨w.heap.size, 3, none⟩ = some (.slice (some ⟨b, o, none⟩) g.rules.length cap)) (by kernel_rfl) eP ?_
      intro hSw
      obtain ⟨y0, hy0⟩ : ∃ y0, y0 = w6.drew := ⟨_, rfl⟩
      rw [← hy0] at hSw hw7 eS eF ⊢
      clear hy0
      refine wpAnyH_take (i := 0) (v := ?v1) rfl (by kernel_rfl) (by kernel_rfl) (by kernel_rfl) (fun _ _ _ h => np_panic h) (Or.inl ⟨by rfl, ?hy1⟩) (by assumption) ?_
      case hy1 => (intro w' hS'; (try dsimp only at hS'); go_simp; try with_reducible rfl)
      simp only [Act.put, List.setIfInBounds_toArray, List.set_cons_zero, List.set_cons_succ, List.getElem_toArray, List.getElem_cons_zero]
      refine wpAnyH_take (i := 1) (v := ?v2) rfl (by kernel_rfl) (by kernel_rfl) (by kernel_rfl) (fun _ _ _ h => np_panic h) (Or.inl ⟨by rfl, ?hy2⟩) (by assumption) ?_
      case hy2 => (intro w' hS'; (try dsimp only at hS'); go_simp; try with_reducible rfl)
      simp only [Act.put, List.setIfInBounds_toArray, List.set_cons_zero, List.set_cons_succ, List.getElem_toArray, List.getElem_cons_succ, List.getElem_cons_zero]
      refine wpAnyH_take (i := 2) (v := ?v3) rfl (by kernel_rfl) (by kernel_rfl) (by kernel_rfl) (fun _ _ _ h => np_panic h) (Or.inl ⟨by rfl, ?hy3⟩) (by assumption) ?_
      case hy3 => (intro w' hS'; (try dsimp only at hS'); go_simp; try with_reducible rfl)
      simp only [Act.put, List.setIfInBounds_toArray, List.set_cons_zero, List.set_cons_succ, List.getElem_toArray, List.getElem_cons_succ, List.getElem_cons_zero]
      refine wpAnyH_take (i := 3) (v := ?v4) rfl (by kernel_rfl) (by kernel_rfl) (by kernel_rfl) (fun _ _ _ h => np_panic h) (Or.inl ⟨by rfl, ?hy4⟩) (by assumption) ?_
      case hy4 => (intro w' hS'; (try dsimp only at hS'); go_simp; try with_reducible rfl)
      simp only [Act.put, List.setIfInBounds_toArray, List.set_cons_zero, List.set_cons_succ, List.getElem_toArray, List.getElem_cons_succ, List.getElem_cons_zero]
      refine wpAnyH_take (i := 4) (v := ?v5) rfl (by kernel_rfl) (by kernel_rfl) (by kernel_rfl) (fun _ _ _ h => np_panic h) (Or.inl ⟨by rfl, ?hy5⟩) (by assumption) ?_
      case hy5 => (intro w' hS'; (try dsimp only at hS'); go_simp; try with_reducible rfl)
      simp only [Act.put, List.setIfInBounds_toArray, List.set_cons_zero, List.set_cons_succ, List.getElem_toArray, List.getElem_cons_succ, List.getElem_cons_zero]
      refine wpAnyH_take (i := 5) (v := ?v6) rfl (by kernel_rfl) (by kernel_rfl) (by kernel_rfl) (fun _ _ _ h => np_panic h) (Or.inl ⟨by rfl, ?hy6⟩) (by assumption) ?_
      case hy6 => (intro w' hS'; (try dsimp only at hS'); go_simp; try with_reducible rfl)
      simp only [Act.put, List.setIfInBounds_toArray, List.set_cons_zero, List.set_cons_succ, List.getElem_toArray, List.getElem_cons_succ, List.getElem_cons_zero]
      refine wpAnyH_take (i := 6) (v := ?v7) rfl (by kernel_rfl) (by kernel_rfl) (by kernel_rfl) (fun _ _ _ h => np_panic h) (Or.inl ⟨by rfl, ?hy7⟩) (by assumption) ?_
      case hy7 => (intro w' hS'; (try dsimp only at hS'); go_simp; try with_reducible rfl)
      simp only [Act.put, List.setIfInBounds_toArray, List.set_cons_zero, List.set_cons_succ, List.getElem_toArray, List.getElem_cons_succ, List.getElem_cons_zero]
      refine wpAnyH_take (i := 7) (v := ?v8) rfl (by kernel_rfl) (by kernel_rfl) (by kernel_rfl) (fun _ _ _ h => np_panic h) (Or.inl ⟨by rfl, ?hy8⟩) (by assumption) ?_
      case hy8 => (intro w' hS'; (try dsimp only at hS'); go_simp; try with_reducible rfl)
      simp only [Act.put, List.setIfInBounds_toArray, List.set_cons_zero, List.set_cons_succ, List.getElem_toArray, List.getElem_cons_succ, List.getElem_cons_zero]
      refine wpAnyH_take (i := 8) (v := ?v9) rfl (by kernel_rfl) (by kernel_rfl) (by kernel_rfl) (fun _ _ _ h => np_panic h) (Or.inl ⟨by rfl, ?hy9⟩) (by assumption) ?_
      case hy9 => (intro w' hS'; (try dsimp only at hS'); go_simp; try with_reducible rfl)
      simp only [Act.put, List.setIfInBounds_toArray, List.set_cons_zero, List.set_cons_succ, List.getElem_toArray, List.getElem_cons_succ, List.getElem_cons_zero]
      refine wpAnyH_take (i := 9) (v := ?v10) rfl (by kernel_rfl) (by kernel_rfl) (by kernel_rfl) (fun _ _ _ h => np_panic h) (Or.inl ⟨by rfl, ?hy10⟩) (by assumption) ?_
      case hy10 => (intro w' hS'; (try dsimp only at hS'); go_simp; try with_reducible rfl)
      simp only [Act.put, List.setIfInBounds_toArray, List.set_cons_zero, List.set_cons_succ, List.getElem_toArray, List.getElem_cons_succ, List.getElem_cons_zero]
      refine wpAnyH_take (i := 10) (v := ?v11) rfl (by kernel_rfl) (by kernel_rfl) (by kernel_rfl) (fun _ _ _ h => np_panic h) (Or.inl ⟨by rfl, ?hy11⟩) (by assumption) ?_
      case hy11 => (intro w' hS'; (try dsimp only at hS'); go_simp; try with_reducible rfl)
      simp only [Act.put, List.setIfInBounds_toArray, List.set_cons_zero, List.set_cons_succ, List.getElem_toArray, List.getElem_cons_succ, List.getElem_cons_zero]
      refine wpAnyH_take (i := 11) (v := ?v12) rfl (by kernel_rfl) (by kernel_rfl) (by kernel_rfl) (fun _ _ _ h => np_panic h) (Or.inl ⟨by rfl, ?hy12⟩) (by assumption) ?_
      case hy12 => (intro w' hS'; (try dsimp only at hS'); go_simp; try with_reducible rfl)
      simp only [Act.put, List.setIfInBounds_toArray, List.set_cons_zero, List.set_cons_succ, List.getElem_toArray, List.getElem_cons_succ, List.getElem_cons_zero]
      refine wpAnyH_take (i := 12) (v := ?v13) rfl (by kernel_rfl) (by kernel_rfl) (by kernel_rfl) (fun _ _ _ h => np_panic h) (Or.inl ⟨by rfl, ?hy13⟩) (by assumption) ?_
      case hy13 => (intro w' hS'; (try dsimp only at hS'); go_simp; try with_reducible rfl)
      simp only [Act.put, List.setIfInBounds_toArray, List.set_cons_zero, List.set_cons_succ, List.getElem_toArray, List.getElem_cons_succ, List.getElem_cons_zero]
      refine wpAnyH_take (i := 13) (v := ?v14) rfl (by kernel_rfl) (by kernel_rfl) (by kernel_rfl) (fun _ _ _ h => np_panic h) (Or.inl ⟨by rfl, ?hy14⟩) (by assumption) ?_
      case hy14 => (intro w' hS'; (try dsimp only at hS'); go_simp; try with_reducible rfl)
      simp only [Act.put, List.setIfInBounds_toArray, List.set_cons_zero, List.set_cons_succ, List.getElem_toArray, List.getElem_cons_succ, List.getElem_cons_zero]
      refine wpAnyH_take (i := 14) (v := ?v15) rfl (by kernel_rfl) (by kernel_rfl) (by kernel_rfl) (fun _ _ _ h => np_panic h) (Or.inl ⟨by rfl, ?hy15⟩) (by assumption) ?_
      case hy15 => (intro w' hS'; (try dsimp only at hS'); go_simp; try with_reducible rfl)
      simp only [Act.put, List.setIfInBounds_toArray, List.set_cons_zero, List.set_cons_succ, List.getElem_toArray, List.getElem_cons_succ, List.getElem_cons_zero]
      refine wpAnyH_take (i := 16) (v := ?v16) rfl (by kernel_rfl) (by kernel_rfl) (by kernel_rfl) (fun _ _ _ h => np_panic h) (Or.inl ⟨by rfl, ?hy16⟩) (by assumption) ?_
      case hy16 => (intro w' hS'; (try dsimp only at hS'); go_simp; try with_reducible rfl)
      simp only [Act.put, List.setIfInBounds_toArray, List.set_cons_zero, List.set_cons_succ, List.getElem_toArray, List.getElem_cons_succ, List.getElem_cons_zero]
      refine wpAnyH_ready (rs := [15]) (by kernel_rfl) (by simp) ?_
      refine AllReadyH.cons rfl (fun K hK => ?_) AllReadyH.nil
      go_simp
      refine hK.out _ _ (by assumption) ?_
      clear hK K
      intro hSw
      try simp only [Act.put, List.setIfInBounds_toArray, List.set_cons_zero, List.set_cons_succ, List.getElem_toArray, List.getElem_cons_succ, List.getElem_cons_zero]
      refine wpAnyH_ready (rs := [17]) (by kernel_rfl) (by simp) ?_
      refine AllReadyH.cons rfl (fun K hK => ?_) AllReadyH.nil
      go_simp
      go_at_call 9
      refine (PL _).mono ?_
      rintro e wx ⟨rfl, hwx⟩
      obtain rfl := hwx.symm
      refine hK.out _ _ (by assumption) ?_
      clear hK K
      intro hSw
      try simp only [Act.put, List.setIfInBounds_toArray, List.set_cons_zero, List.set_cons_succ, List.getElem_toArray, List.getElem_cons_succ, List.getElem_cons_zero]
      refine wpAnyH_take (i := 18) (v := ?v17) rfl (by kernel_rfl) (by kernel_rfl) (by kernel_rfl) (fun _ _ _ h => np_panic h) (Or.inl ⟨by rfl, ?hy17⟩) (by assumption) ?_
      case hy17 => (intro w' hS'; (try dsimp only at hS'); go_simp; try with_reducible rfl)
      simp only [Act.put, List.setIfInBounds_toArray, List.set_cons_zero, List.set_cons_succ, List.getElem_toArray, List.getElem_cons_succ, List.getElem_cons_zero]
      refine wpAnyH_ready (rs := [19]) (by kernel_rfl) (by simp) ?_
      refine AllReadyH.cons rfl (fun K hK => ?_) AllReadyH.nil
      go_simp
      rw [← hw7]
      refine hK.out _ _ e7 ?_
      clear hK K
      intro hSw
      try simp only [Act.put, List.setIfInBounds_toArray, List.set_cons_zero, List.set_cons_succ, List.getElem_toArray, List.getElem_cons_succ, List.getElem_cons_zero]
      refine wpAnyH_done (by kernel_rfl) (NoPanic.normal ?_) _
      have u3 := e7.2
      clear eP eS eF e7 hw7
      by_cases hz : (rgtR g k).length = 0
      · generalize rgtR g k = rr at *
        go_wp2_with fail
        go_roundw
        case rel => exact ⟨k + 1, hlt, by go_num, s7, hs7, kt7⟩
        case measure => clear hs4 hs5 hs7 s7 hG; simp [intOf]; omega
      · have hk0 : 0 < (rgtR g k).length := Nat.pos_of_ne_zero hz
        have hz1 : (((rgtR g k).length : Nat) : Int) ≠ 0 := by omega
        have hzb : ((((rgtR g k).length : Nat) : Int) == 0) = false := by simpa using hz
        obtain ⟨F, hF⟩ : ∃ F : Nat → Nat, F = fun m => spN g.rules W V (rgtR g k) 0 x m y := ⟨_, rfl⟩
        have hend := hd ((congrArg cM (hsp.out hk0)).symm)
        have hst := hd (fun q => zr_step (F := F) (i := x) (q := q))
        rw [← hF, List.drop_zero, ← HN.out] at hend
        have HF := hd hF
        have HK0 := hd hk0
        clear hF hk0 hsp
        have hlz := hd hz
        generalize hLL : (rgtR g k).length = LL at *
        have HLL := hd hLL
        clear hLL hz hz1
        go_wp2_with fail
        go_loopw [16, 17] (fun nn m wr => ∃ q : Nat, x ≤ q ∧ q ≤ y + 1 ∧ nn = .int .i64 (cM (spS F x (q - x))) ∧ m = .int .i64 (q : Int) ∧ ChS wr cb tb rb g W V E vR vW ∧ Kt tb rb w7 wr) (fun _ m _ => y + 1 - (intOf m).toNat)
        case atStart => exact ⟨x, Nat.le_refl _, Nat.le_succ_of_le hxy, by rw [Nat.sub_self, show spS F x 0 = 0 from rfl, cM_zero], rfl, hs7, Kt.refl _ _ _⟩
        case round =>
          obtain ⟨q, hxq, hqy, rfl, rfl, hs8, hkt8⟩ := hrel
          by_cases hlq : q ≤ y
          · have SP := Split_any hG hE (k : Int) 0 x q y wr hs8
            have hsz : splZ g W V (k : Int) 0 x q y = cM (F q) := by rw [HF.out]; exact splZ_nat k 0 x q y hlt (by rw [HLL.out]; exact HK0.out) hxq hlq f6
            rw [hsz] at SP
            have r1 := hd (cM_rng (spS F x (q - x)))
            have r2 := hd (cM_rng (F q))
            have HM := hd (hst.out (q - x))
            rw [zr_add hxq] at HM
            have hle : (q : Int) ≤ (y : Int) := Int.ofNat_le.2 hlq
            have hqq := zr_sub hxq
            clear hsz hst hend
            generalize cM (spS F x (q - x)) = n1 at *
            generalize cM (F q) = n2' at *
            go_wp2_with fail
            refine SP.mono ?_
            rintro e w9 ⟨rfl, hs9, kt9⟩
            go_wp2_with fail
            refine (plus_in w9 r1.out.1 r1.out.2 r2.out.1 r2.out.2).mono ?_
            rintro e wx ⟨rfl, hwx⟩
            obtain rfl := hwx.symm
            go_wp2_with fail
            go_roundw
            case rel => exact ⟨q + 1, Nat.le_succ_of_le hxq, Nat.succ_le_succ hlq, by rw [HM.out, hqq], by go_num, hs9, hkt8.trans kt9⟩
            case measure => clear hs4 hs5 hs7 s7 hG hs8 hs9 hkt8 kt9 hqq HM; simp [intOf]; omega
          · have hqe : q - x = y + 1 - x := zr_end hqy hlq
            have hgt : ¬ ((q : Int) ≤ (y : Int)) := fun h => hlq (Int.ofNat_le.1 h)
            rw [hqe, hend.out]
            have s8 := s7.keep hs7 hkt8
            have kt8 := kt7.trans hkt8
            clear hend hst hqe
            go_wp2_with fail
            go_roundw
            case rel => exact ⟨k + 1, hlt, by go_num, s8, hs8, kt8⟩
            case measure => clear hs4 hs5 hs7 s7 hG hs8 hkt8 s8 kt8; simp [intOf]; omega
    · have hke : g.rules.take k = g.rules := List.take_of_length_le (by omega)
      have hsm2 : SmV wr sb V fun u => cM (nN g.rules W V u x y) := hsm.congr fun u _ => by unfold cS; rw [hke, ← nN_fix hG.ac hG.hR u x y f6]
      have hge : ¬ ((k : Int) < (g.rules.length : Int)) := by omega
      clear hke hsm
      go_wp2_with fail
      go_loopw [18] (fun v wr => ∃ u : Nat, u ≤ V ∧ v = .int .i64 (u : Int) ∧ SmV wr sb V (fun u => cM (nN g.rules W V u x y)) ∧ ChS wr cb tb rb g W V E vR vW ∧ Kt tb rb w4 wr) (fun v _ => V - (intOf v).toNat)
      case atStart => exact ⟨0, Nat.zero_le _, rfl, hsm2, hs, hkt⟩
      case round =>
        clear p0 p3 hsm2 hs hkt
        obtain ⟨u, hu, rfl, hsm, hs, hkt⟩ := hrel
        have p0 := hs4.keep hkt d0
        by_cases hlu : u < V
        · have hof : ofZ g W V (u : Int) x y = cM (nN g.rules W V u x y) := by unfold ofZ; rw [if_neg (by omega)]; simp only [Int.toNat_natCast]
          have NE := Wk.ne hs
          have OF := fun z : Wk cb tb rb g W V E vR vW wr => Of_any hG hE (u : Int) x y z.u z.s
          rw [hof] at OF
          have eS : ∀ z : Wk cb tb rb g W V E vR vW wr, z.u.cell? ⟨sb, u, none⟩ = some (.int .i64 (cM (nN g.rules W V u x y))) := fun z => z.cell hs (hsm u hlu).1
          have hluI := lt_cast hlu
          have HSM := hd hsm
          clear hof hsm
          generalize cM (nN g.rules W V u x y) = n at *
          go_wp2_with fail
          refine region_quiet_lit (C := fun w' => ∃ z : Wk cb tb rb g W V E vR vW wr, w' = z.u) (by kernel_rfl) (by kernel_rfl) (Wk.below hs ⟨rfl, rfl, rfl, Nat.le_refl _, fun _ _ => rfl⟩) ?_
          iterate 8 (go_big_quiet_step (fail))
          go_big_quiet_step (exact calls_wk (OF _))
          go_big_quiet_step (fail)
          refine wpQuiet_nil ?_
          intro _ hw'
          obtain ⟨z, hw''⟩ := hw'
          subst hw''
          have sz := HSM.out.keep hs z.k
          have kz := hkt.trans z.k
          go_wp2_with fail
          go_roundw
          case rel => exact ⟨u + 1, hlu, by go_num, sz, z.s, kz⟩
          case measure => clear hs4 hs5 hG hs hkt sz kz; simp [intOf]; omega
        · have hge2 : ¬ ((u : Int) < (V : Int)) := by omega
          go_wp2_with fail
          go_ret
          exact ⟨rfl, b4.trans (hkt.below htb hrb hwf)⟩
set_option maxRecDepth 100000 in
theorem open_ints_arg {H : Type} {enc : TypeId × Value → H} {w : World} {base b2 : Nat} {spare : Nat → Bool} {held : Bool} {v : Value} {d : DataW H} {ps : List MemPlace} (hv : Value.okWide Try.prog w .any b2 25 v) (h : DataW.Trod enc Try.prog w base spare held 25 v d ps) : ∃ l : List Int, IsV w G.All v l := by
  obtain ⟨a, len, cap, rfl⟩ := okWide_slice Try.underlying25 hv
  obtain ⟨fuel, h⟩ := h
  exact open_ints h

set_option maxRecDepth 100000 in
theorem lifted (os : Os) (started : os.Started) (H : Type) (enc : TypeId × Value → H) :
    ReturnsInHanded {} Try.checked os 3 .any (Rows.chartPartsSpec.pre6 enc Try.prog Try.f3 Rows.chartPartsRow.domain false) (Rows.chartPartsSpec.post enc Try.prog Try.f3 false true false false) := by
  refine returnsInHanded_of_change (C := Try.checked) own started (by kernel_rfl) Try.func3
    (ChangeSpec.witness6 (enc := enc) (C := Try.checked) false ⟨#[], #[.agg #[.int .i64 0, .int .i64 0, .int .i64 0, .slice none 0 0], .slice none 0 0, .int .i64 0, .int .i64 0], []⟩ 8 (by kernel_rfl) (by kernel_rfl) (by kernel_rfl) (by kernel_rfl)) ?_
  intro W base args ds gs before hval0 hW hcnd _
  have hval : ∀ (j : Nat) t v, Try.f3.params[j]? = some t → args[j]? = some v → Value.okWide Try.prog W .any base t v := hval0
  have hW' := hW
  obtain ⟨p, q, hA0, hV, rfl, hfz, hnd⟩ := hW
  have hA : DataW.TrodAll enc Try.prog W 0 (fun _ => true) true Try.f3.params.toList args.toList ds p := hA0
  rw [Try.params3] at hA hval
  obtain ⟨v0, vs0, d0, ds0, p0, q0, hargs, rfl, rfl, h0, r0⟩ := trodAll_cons hA
  obtain ⟨v1, vs1, d1, ds1, p1, q1, rfl, rfl, rfl, h1, r1⟩ := trodAll_cons r0
  obtain ⟨v2, vs2, d2, ds2, p2, q2, rfl, rfl, rfl, h2, r2⟩ := trodAll_cons r1
  obtain ⟨v3, vs3, d3, ds3, p3, q3, rfl, rfl, rfl, h3, r3⟩ := trodAll_cons r2
  obtain ⟨rfl, rfl, rfl⟩ := trodAll_nil r3
  obtain rfl : args = #[v0, v1, v2, v3] := by cases args; simp_all
  obtain ⟨rfl, rfl⟩ := trodVars_none hV
  have k0 := h0
  have k1 := h1
  have k2 := h2
  have k3 := h3
  have lt0 : ∀ x ∈ p0, x.block < W.heap.size := by obtain ⟨m, hm⟩ := k0; exact DataW.trod_lt m _ _ _ hm
  have lt1 : ∀ x ∈ p1, x.block < W.heap.size := by obtain ⟨m, hm⟩ := k1; exact DataW.trod_lt m _ _ _ hm
  have lt2 : ∀ x ∈ p2, x.block < W.heap.size := by obtain ⟨m, hm⟩ := k2; exact DataW.trod_lt m _ _ _ hm
  have lt3 : ∀ x ∈ p3, x.block < W.heap.size := by obtain ⟨m, hm⟩ := k3; exact DataW.trod_lt m _ _ _ hm
  obtain ⟨g, hg⟩ := open_gram (hval 0 24 v0 rfl rfl) h0
  obtain ⟨x, hx⟩ := open_ints_arg (hval 1 25 v1 rfl rfl) h1
  obtain ⟨i, rfl⟩ := okWide_int Try.underlying3 (hval 2 3 v2 rfl rfl)
  obtain ⟨j, rfl⟩ := okWide_int Try.underlying3 (hval 3 3 v3 rfl rfl)
  clear hA0 hval0
  refine (walk g x i j v0 v1 W hg hx).mono fun e W' ⟨he, bel⟩ => ?_
  subst he
  exact ⟨_, rfl, _, _, _, [], _, [], hW', trodAll_mk1 (shut_bool Try.underlying4 _), (trodAll_cons_mk (Below.trod laidOut (by kernel_rfl) (of_decide_eq_true (by kernel_rfl)) k0 bel lt0) (trodAll_cons_mk (Below.trod laidOut (by kernel_rfl) (of_decide_eq_true (by kernel_rfl)) k1 bel lt1) (trodAll_cons_mk (Below.trod laidOut (by kernel_rfl) (of_decide_eq_true (by kernel_rfl)) k2 bel lt2) (trodAll_cons_mk (Below.trod laidOut (by kernel_rfl) (of_decide_eq_true (by kernel_rfl)) k3 bel lt3) trodAll_mk0)))), rfl, bel.frame _, fun h => by cases h⟩

theorem stands : Rows.chartPartsRow.holds Try.pinned (OpenSpec.ofChange Rows.chartPartsSpec) :=
  OpenClaim.holds_of_wide 3 Try.f3 rfl rfl rfl rfl rfl rfl rfl ⟨rfl, rfl, rfl, rfl, rfl⟩ rfl rfl rfl rfl rfl (by kernel_rfl) Try.func3 (by kernel_rfl)
    (of_decide_eq_true (by kernel_rfl)) (by unfold Func.isWrapper; first | (rw [if_pos (by decide +kernel)]; kernel_rfl) | (rw [if_neg (by decide +kernel)]; exact ⟨rfl, rfl⟩))
    (fun os started H enc _ => lifted os started H enc)

theorem proved : Rows.ChartPartsSaid := stands
#print axioms proved
end Go.Proofs.Ytjjpkjfdmmfliae.chartParts
