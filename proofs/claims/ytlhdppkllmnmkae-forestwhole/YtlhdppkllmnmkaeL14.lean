/- Texts laid together: Vf Td Vg Vh Vi. -/
import Derived.Test.YtlhdppkllmnmkaeL13
import Derived.Test.YtlhdppkllmnmkaeL01
/- A forest's looks: how many trees have a rule, how many ways a split has; what is behind. -/
namespace Go.Proofs.Ytlhdppkllmnmkae.G
open Go.RowKit Go.Maps
section
variable {fb cb tb rb : Nat} {g : Gm} {W : List Int} {V : Nat} {E : BitVec 64} {vR vW vg : Value} {room : Nat} {w w' : World}
theorem cal_rules1 : Cal 98 := fun args w => by go_simp
theorem cal_splits1 : Cal 99 := fun args w => by go_simp
theorem ruZ_nat {r i j : Nat} (hr : r < g.rules.length) (hij : i ≤ j) (hj : j ≤ W.length) : ruZ g W V r i j = cM (chN (nN g.rules W V) W (rgtR g r) i j) := by
  unfold ruZ
  simp only [Int.toNat_natCast]
  rw [if_neg (by omega)]
theorem ofZ_nat {v i j : Nat} (hv : v < V) (hij : i ≤ j) (hj : j ≤ W.length) : ofZ g W V v i j = cM (nN g.rules W V v i j) := by
  unfold ofZ
  simp only [Int.toNat_natCast]
  rw [if_neg (by omega)]
theorem rgt_at {q : Nat} (hq : q < g.rules.length) : rgtR g q = g.rules[q].right := by unfold rgtR; rw [List.getD_eq_getElem?_getD, List.getElem?_eq_getElem hq]; rfl
set_option maxRecDepth 100000 in
set_option maxHeartbeats 1000000 in
theorem rules1_any (hG : CkG g W V) (hE : ∀ v : Int, hasB E v = true ↔ Nul g.rules v) {v : Int} {i j q b0 b1 b2 b3 : Nat} (hij : i ≤ j) (hj : j ≤ W.length) (hq : q < g.rules.length) (w : World) (hc : ChS w cb tb rb g W V E vR vW) (hp : FoP w fb cb g W.length vg)
    (x0 : w.cell? ⟨b0, 0, none⟩ = some (.pointer (some ⟨fb, 0, none⟩))) (x1 : w.cell? ⟨b1, 0, none⟩ = some (.int .i64 v)) (x2 : w.cell? ⟨b2, 0, none⟩ = some (.int .i64 i)) (x3 : w.cell? ⟨b3, 0, none⟩ = some (.int .i64 j)) :
    Calls Try.prog 98 #[.int .i64 q, .pointer (some ⟨b0, 0, none⟩), .pointer (some ⟨b1, 0, none⟩), .pointer (some ⟨b2, 0, none⟩), .pointer (some ⟨b3, 0, none⟩)] w (ChR w cb tb rb g W V E vR vW (cM (rlN g.rules W V v i j q))) := by
  obtain ⟨aR, cR, rfl⟩ := hp.r.slice
  obtain ⟨bR, oR, rfl, d0, _⟩ := hp.r.all.at_ hq
  have p0 := hp.p
  have p4 := hp.v
  have hrl := hp.r.1
  have hrn := rlN_at (R := g.rules) (W := W) (V := V) (v := v) (i := i) (j := j) hq
  by_cases hl : g.rules[q].left = v
  · have RU := fun z : Wk cb tb rb g W V E vR vW w => Rule_any hG hE q i j z.u z.s
    rw [ruZ_nat hq hij hj, rgt_at hq] at RU
    rw [if_pos hl] at hrn
    rw [← hrn] at RU
    have NE := Wk.ne hc
    rw [hl] at d0
    have e0 := fun z : Wk cb tb rb g W V E vR vW w => z.cell hc x0
    have e2 := fun z : Wk cb tb rb g W V E vR vW w => z.cell hc x2
    have e3 := fun z : Wk cb tb rb g W V E vR vW w => z.cell hc x3
    have ep := fun z : Wk cb tb rb g W V E vR vW w => z.cell hc p0
    clear hrn hl hp
    generalize cM (rlN g.rules W V v i j q) = n at *
    go_enter Try.func98, Try.ntmps98
    go_wp2_with fail
    go_quiet (fail)
    go_wp2_with fail
    refine region_quiet_lit (C := fun w' => ∃ z : Wk cb tb rb g W V E vR vW w, w' = z.u) (by kernel_rfl) (by kernel_rfl) (Wk.below hc ⟨rfl, rfl, rfl, Nat.le_refl _, fun _ _ => rfl⟩) ?_
    iterate 7 (go_big_quiet_step (fail))
    go_big_quiet_step (exact calls_wk (RU _))
    go_big_quiet_step (fail)
    refine wpQuiet_nil ?_
    intro _ hw'
    obtain ⟨z, hw''⟩ := hw'
    subst hw''
    go_wp2_with fail
    go_ret
    exact ⟨rfl, z.s, z.k⟩
  · rw [hrn, if_neg hl, cM_zero]
    have hb : (g.rules[q].left != v) = true := by simpa using hl
    clear hrn hl hp
    generalize g.rules[q].left = x at *
    go_enter Try.func98, Try.ntmps98
    go_wp2_with fail
    go_quiet (fail)
    go_wp2_with fail
    go_ret
    have hb' : Below w.heap.size w (w.drewN nq) := ⟨rfl, rfl, rfl, Nat.le_refl _, fun _ _ => rfl⟩
    exact ⟨rfl, hc.lw hb', Kt.of_below hb'⟩
set_option maxRecDepth 100000 in
set_option maxHeartbeats 1000000 in
theorem splits1_any (hG : CkG g W V) (hE : ∀ v : Int, hasB E v = true ↔ Nul g.rules v) {r k i m j b0 b1 b2 b3 b4 : Nat} (him : i ≤ m) (hmj : m ≤ j) (hj : j ≤ W.length) (hr : r < g.rules.length) (hk : k < (rgtR g r).length) (w : World) (hc : ChS w cb tb rb g W V E vR vW) (hp : FoP w fb cb g W.length vg)
    (x0 : w.cell? ⟨b0, 0, none⟩ = some (.pointer (some ⟨fb, 0, none⟩))) (x1 : w.cell? ⟨b1, 0, none⟩ = some (.int .i64 r)) (x2 : w.cell? ⟨b2, 0, none⟩ = some (.int .i64 k)) (x3 : w.cell? ⟨b3, 0, none⟩ = some (.int .i64 i)) (x4 : w.cell? ⟨b4, 0, none⟩ = some (.int .i64 j)) :
    Calls Try.prog 99 #[.int .i64 m, .pointer (some ⟨b0, 0, none⟩), .pointer (some ⟨b1, 0, none⟩), .pointer (some ⟨b2, 0, none⟩), .pointer (some ⟨b3, 0, none⟩), .pointer (some ⟨b4, 0, none⟩)] w (ChR w cb tb rb g W V E vR vW (cM (spN g.rules W V (rgtR g r) k i m j))) := by
  have p0 := hp.p
  have SP := fun z : Wk cb tb rb g W V E vR vW w => Split_any hG hE r k i m j z.u z.s
  rw [splZ_nat r k i m j hr hk him hmj hj] at SP
  have NE := Wk.ne hc
  have e0 := fun z : Wk cb tb rb g W V E vR vW w => z.cell hc x0
  have e1 := fun z : Wk cb tb rb g W V E vR vW w => z.cell hc x1
  have e2 := fun z : Wk cb tb rb g W V E vR vW w => z.cell hc x2
  have e3 := fun z : Wk cb tb rb g W V E vR vW w => z.cell hc x3
  have e4 := fun z : Wk cb tb rb g W V E vR vW w => z.cell hc x4
  have ep := fun z : Wk cb tb rb g W V E vR vW w => z.cell hc p0
  clear hp
  generalize cM (spN g.rules W V (rgtR g r) k i m j) = n at *
  go_enter Try.func99, Try.ntmps99
  go_wp2_with fail
  refine region_quiet_lit (C := fun w' => ∃ z : Wk cb tb rb g W V E vR vW w, w' = z.u) (by kernel_rfl) (by kernel_rfl) (Wk.below hc ⟨rfl, rfl, rfl, Nat.le_refl _, fun _ _ => rfl⟩) ?_
  iterate 9 (go_big_quiet_step (fail))
  go_big_quiet_step (exact calls_wk (SP _))
  go_big_quiet_step (fail)
  refine wpQuiet_nil ?_
  intro _ hw'
  obtain ⟨z, hw''⟩ := hw'
  subst hw''
  go_wp2_with fail
  go_ret
  exact ⟨rfl, z.s, z.k⟩
theorem FoP.kt (h : FoP w fb cb g W.length vg) (hc : ChS w cb tb rb g W V E vR vW) (hk : Kt tb rb w w') : FoP w' fb cb g W.length vg := h.stay fun _ _ _ x => hc.keep hk x
/-- How a look comes. -/
def WyR (cb tb rb : Nat) (g : Gm) (W : List Int) (V : Nat) (E : BitVec 64) (vR vW : Value) (w : World) (F : Nat → Nat) (x m : Nat) (e : Ending) (w' : World) : Prop := ∃ vf, e = .returned vf ∧ Wys cb tb rb g W V E vR vW w' vf F x m ∧ Below w.heap.size w w'
set_option maxRecDepth 100000 in
set_option maxHeartbeats 1000000 in
theorem rules_any (hG : CkG g W V) (hE : ∀ v : Int, hasB E v = true ↔ Nul g.rules v) {v : Int} {i j m : Nat} (hij : i ≤ j) (hj : j ≤ W.length) (hm : m < g.rules.length) (w : World) (hc : ChS w cb tb rb g W V E vR vW) (hp : FoP w fb cb g W.length vg) :
    Calls Try.prog 83 #[.pointer (some ⟨fb, 0, none⟩), .int .i64 v, .int .i64 i, .int .i64 j] w (WyR cb tb rb g W V E vR vW w (rlN g.rules W V v i j) 0 m) := by
  obtain ⟨Y, hY⟩ : ∃ Y, Y = (((w.alloc (.cells #[.pointer (some ⟨fb, 0, none⟩)] 77)).alloc (.cells #[.int .i64 v] 3)).alloc (.cells #[.int .i64 i] 3)).alloc (.cells #[.int .i64 j] 3) := ⟨_, rfl⟩
  have hb : Below w.heap.size w Y := by rw [hY]; exact al4 _ _ _ _ _
  have x0 : Y.cell? ⟨w.heap.size, 0, none⟩ = some (.pointer (some ⟨fb, 0, none⟩)) := by rw [hY]; simp [go_sem]
  have x1 : Y.cell? ⟨w.heap.size + 1, 0, none⟩ = some (.int .i64 v) := by rw [hY]; simp [go_sem]
  have x2 : Y.cell? ⟨w.heap.size + 1 + 1, 0, none⟩ = some (.int .i64 i) := by rw [hY]; simp [go_sem]
  have x3 : Y.cell? ⟨w.heap.size + 1 + 1 + 1, 0, none⟩ = some (.int .i64 j) := by rw [hY]; simp [go_sem]
  have hcY := hc.lw hb
  have hpY := hp.stay fun _ _ _ x => bkeep hb x
  have HW : Wys cb tb rb g W V E vR vW Y (.func (.func 98) #[] #[.pointer (some ⟨w.heap.size, 0, none⟩), .pointer (some ⟨w.heap.size + 1, 0, none⟩), .pointer (some ⟨w.heap.size + 1 + 1, 0, none⟩), .pointer (some ⟨w.heap.size + 1 + 1 + 1, 0, none⟩)]) (rlN g.rules W V v i j) 0 m :=
    ⟨_, _, _, rfl, cal_rules1, fun y _ hy u hu hk => rules1_any hG hE hij hj (by omega) u hu (hpY.kt hcY hk) (hcY.keep hk x0) (hcY.keep hk x1) (hcY.keep hk x2) (hcY.keep hk x3)⟩
  clear hc hp x0 x1 x2 x3 hcY hpY
  go_enter Try.func83, Try.ntmps83
  go_wp2_with fail
  go_ret
  rw [← hY]
  exact ⟨_, rfl, HW, hb⟩
set_option maxRecDepth 100000 in
set_option maxHeartbeats 1000000 in
theorem splits_any (hG : CkG g W V) (hE : ∀ v : Int, hasB E v = true ↔ Nul g.rules v) {r k i j : Nat} (hj : j ≤ W.length) (hr : r < g.rules.length) (hk : k < (rgtR g r).length) (w : World) (hc : ChS w cb tb rb g W V E vR vW) (hp : FoP w fb cb g W.length vg) :
    Calls Try.prog 85 #[.pointer (some ⟨fb, 0, none⟩), .int .i64 r, .int .i64 k, .int .i64 i, .int .i64 j] w (WyR cb tb rb g W V E vR vW w (fun m => spN g.rules W V (rgtR g r) k i m j) i j) := by
  obtain ⟨Y, hY⟩ : ∃ Y, Y = ((((w.alloc (.cells #[.pointer (some ⟨fb, 0, none⟩)] 77)).alloc (.cells #[.int .i64 r] 3)).alloc (.cells #[.int .i64 k] 3)).alloc (.cells #[.int .i64 i] 3)).alloc (.cells #[.int .i64 j] 3) := ⟨_, rfl⟩
  have hb : Below w.heap.size w Y := by rw [hY]; exact al5 _ _ _ _ _ _
  have x0 : Y.cell? ⟨w.heap.size, 0, none⟩ = some (.pointer (some ⟨fb, 0, none⟩)) := by rw [hY]; simp [go_sem]
  have x1 : Y.cell? ⟨w.heap.size + 1, 0, none⟩ = some (.int .i64 r) := by rw [hY]; simp [go_sem]
  have x2 : Y.cell? ⟨w.heap.size + 1 + 1, 0, none⟩ = some (.int .i64 k) := by rw [hY]; simp [go_sem]
  have x3 : Y.cell? ⟨w.heap.size + 1 + 1 + 1, 0, none⟩ = some (.int .i64 i) := by rw [hY]; simp [go_sem]
  have x4 : Y.cell? ⟨w.heap.size + 1 + 1 + 1 + 1, 0, none⟩ = some (.int .i64 j) := by rw [hY]; simp [go_sem]
  have hcY := hc.lw hb
  have hpY := hp.stay fun _ _ _ x => bkeep hb x
  have HW : Wys cb tb rb g W V E vR vW Y (.func (.func 99) #[] #[.pointer (some ⟨w.heap.size, 0, none⟩), .pointer (some ⟨w.heap.size + 1, 0, none⟩), .pointer (some ⟨w.heap.size + 1 + 1, 0, none⟩), .pointer (some ⟨w.heap.size + 1 + 1 + 1, 0, none⟩), .pointer (some ⟨w.heap.size + 1 + 1 + 1 + 1, 0, none⟩)]) (fun m => spN g.rules W V (rgtR g r) k i m j) i j :=
    ⟨_, _, _, rfl, cal_splits1, fun y hy1 hy2 u hu hk' => splits1_any hG hE hy1 hy2 hj hr hk u hu (hpY.kt hcY hk') (hcY.keep hk' x0) (hcY.keep hk' x1) (hcY.keep hk' x2) (hcY.keep hk' x3) (hcY.keep hk' x4)⟩
  clear hc hp x0 x1 x2 x3 x4 hcY hpY
  go_enter Try.func85, Try.ntmps85
  go_wp2_with fail
  go_ret
  rw [← hY]
  exact ⟨_, rfl, HW, hb⟩
theorem be_div {a b : Nat} (ha : 0 < a) (h : a * b < 4611686018427387904) : wrap64 (Int.tdiv (cM (a * b)) (cM a)) = (b : Int) ∧ cM a ≠ 0 := by
  have h1 : a ≤ a * b ∨ b = 0 := by
    rcases Nat.eq_zero_or_pos b with h | h
    · exact .inr h
    · exact .inl (Nat.le_mul_of_pos_right a h)
  have h2 : b ≤ a * b := Nat.le_mul_of_pos_left b ha
  rcases h1 with h1 | h1
  · rw [cM_lt h, cM_lt (show a < 4611686018427387904 by omega)]
    refine ⟨?_, by omega⟩
    rw [show ((a * b : Nat) : Int) = (a : Int) * b by simp, Int.mul_tdiv_cancel_left _ (by omega)]
    exact w64_in (by omega)
  · subst h1
    rw [Nat.mul_zero, cM_zero]
    refine ⟨by simp [wrap64], ?_⟩
    have := cM_gt (n := 0) (a := a) (by omega)
    have := this.2 ha
    omega
set_option maxRecDepth 100000 in
set_option maxHeartbeats 1000000 in
theorem behind_any (hG : CkG g W V) (hE : ∀ v : Int, hasB E v = true ↔ Nul g.rules v) {r k i m j a b : Nat} (him : i ≤ m) (hmj : m ≤ j) (hj : j ≤ W.length) (hr : r < g.rules.length) (hk : k < (rgtR g r).length) (hs : 0 ≤ (rgtR g r)[k]) (ha : nN g.rules W V (rgtR g r)[k].toNat i m = a) (hb : chN (nN g.rules W V) W ((rgtR g r).drop (k + 1)) m j = b) (ha0 : 0 < a) (hab : a * b < 4611686018427387904)
    (w : World) (hc : ChS w cb tb rb g W V E vR vW) (hp : FoP w fb cb g W.length vg) :
    Calls Try.prog 86 #[.pointer (some ⟨fb, 0, none⟩), .int .i64 r, .int .i64 k, .int .i64 i, .int .i64 m, .int .i64 j] w (ChR w cb tb rb g W V E vR vW (b : Nat)) := by
  have SP := fun z : Wk cb tb rb g W V E vR vW w => Split_any hG hE r k i m j z.u z.s
  rw [splZ_nat r k i m j hr hk him hmj hj, spN_pos hk hs, ha, hb] at SP
  have hsV := (hG.sym hr _ (List.getElem_mem hk)).1
  have OF := fun z : Wk cb tb rb g W V E vR vW w => Of_any hG hE (rgtR g r)[k] i m z.u z.s
  have hof : ofZ g W V (rgtR g r)[k] i m = cM a := by
    rw [← ha]
    have := ofZ_nat (g := g) (W := W) (V := V) (v := (rgtR g r)[k].toNat) (i := i) (j := m) (by omega) him (by omega)
    rwa [Int.toNat_of_nonneg hs] at this
  rw [hof] at OF
  obtain ⟨hdiv, hne⟩ := be_div ha0 hab
  obtain ⟨aR, cR, rfl⟩ := hp.r.slice
  obtain ⟨bR, oR, rfl, d0, au, cu, d1, hu⟩ := hp.r.all.at_ hr
  have hrl := hp.r.1
  have hkr : k < g.rules[r].right.length := by rw [← rgt_at hr]; exact hk
  obtain ⟨bu, ou, rfl, d2⟩ := hu.at_ hkr
  have hul := hu.1
  have he : g.rules[r].right[k] = (rgtR g r)[k] := by congr 1; exact (rgt_at hr).symm
  rw [he] at d2
  have hlen : (g.rules[r]'hr).right.length = (rgtR g r).length := by rw [rgt_at hr]
  rw [hlen] at d1 hul
  have NE := Wk.ne hc
  have ep := fun z : Wk cb tb rb g W V E vR vW w => z.cell hc hp.p
  have ev := fun z : Wk cb tb rb g W V E vR vW w => z.cell hc hp.v
  have e1 := fun z : Wk cb tb rb g W V E vR vW w => z.cell hc d1
  have e2 := fun z : Wk cb tb rb g W V E vR vW w => z.cell hc d2
  clear hp hu d0 d1 d2 hof ha hb he hlen hsV hkr
  generalize (rgtR g r)[k] = s at *
  generalize (rgtR g r).length = L at *
  have HD := hd hdiv
  clear hdiv
  generalize cM (a * b) = X at *
  generalize cM a = Y at *
  have hneb : (Y == 0) = false := by simpa using hne
  go_enter Try.func86, Try.ntmps86
  go_wp2_with fail
  refine region_quiet_lit (C := fun w' => ∃ z : Wk cb tb rb g W V E vR vW w, w' = z.u) (by kernel_rfl) (by kernel_rfl) (Wk.below hc ⟨rfl, rfl, rfl, Nat.le_refl _, fun _ _ => rfl⟩) ?_
  iterate 9 (go_big_quiet_step (fail))
  go_big_quiet_step (exact calls_wk (SP _))
  iterate 18 (go_big_quiet_step (fail))
  go_big_quiet_step (exact calls_wk (OF _))
  iterate 2 (go_big_quiet_step (fail))
  refine wpQuiet_nil ?_
  intro _ hw'
  obtain ⟨z, hw''⟩ := hw'
  subst hw''
  go_wp2_with fail
  go_ret
  exact ⟨ret_int HD.out, z.s, z.k⟩
end
end Go.Proofs.Ytlhdppkllmnmkae.G

/- Trees in memory of their own: the program's copy, the document's copy. -/
namespace Go.Proofs.Ytlhdppkllmnmkae.G
open Go.RowKit
theorem Try.infoTree : (Try.prog.info? 44).map (fun i => (i.zero, i.size, i.bytes)) = some (some (.agg #[.int .i64 0, .slice none 0 0]), 2, 32) := by kernel_rfl
/-! The document's. -/
end Go.Proofs.Ytlhdppkllmnmkae.G

/- The tree of a number, as the program makes it. -/
namespace Go.Proofs.Ytlhdppkllmnmkae.G
open Go.RowKit Go.Maps
theorem drp_cons : ∀ {f : Tf} {a : Nat} {r : Int} {k rest : Tf}, f.drp a = .cons r k rest → a < f.len ∧ f.at_ a = ⟨r, k⟩ ∧ f.drp (a + 1) = rest := fun {f a r k rest} h => by
  have hl : a < f.len := by
    rcases Nat.lt_or_ge a f.len with h' | h'
    · exact h'
    · rw [Tf.drp_end h'] at h; cases h
  rw [Tf.drp_at hl] at h
  injection h with h1 h2 h3
  refine ⟨hl, ?_, h3⟩
  rw [← h1, ← h2]
theorem drp_nil : ∀ {f : Tf} {a : Nat}, f.drp a = .nil → f.len ≤ a := fun {f a} h => by
  rcases Nat.lt_or_ge a f.len with h' | h'
  · rw [Tf.drp_at h'] at h; cases h
  · exact h'
theorem owns_kf {w w' : World} {base : Nat} {e : TypeId} {n s : Nat} {v : Value} {xs : List Value} {p q f : Nat} (h : w.ownsRow base e s v n xs) (hk : Kf p q f w w') (hp : p < base) (hq : q < base) (hf : f < base) : w'.ownsRow base e s v n xs := by
  obtain ⟨h1, h2 | ⟨g, cap, cur, e1, e2, e3, e4, e5⟩⟩ := h
  · exact ⟨h1, .inl h2⟩
  · have hg : g < w.heap.size := (Array.getElem?_eq_some_iff.1 e3).1
    exact ⟨h1, .inr ⟨g, cap, cur, e1, e2, (hk.block g hg (by omega) (by omega) (by omega)).trans e3, e4, e5⟩⟩
/-- How a tree comes. -/
def OutT (fb cb tb rb : Nat) (g : Gm) (W : List Int) (V : Nat) (E : BitVec 64) (vR vW vg : Value) (t : Tr) (room : Nat) (w : World) (e : Ending) (w' : World) : Prop :=
  if t.sz ≤ room then ∃ v, e = .returned v ∧ TrV w' (fun k => w.heap.size ≤ k) v t ∧ FoS w' fb cb tb rb g W V E vR vW vg (room - t.sz) ∧ Kf tb rb fb w w' else FPan tb rb fb 6 w e w'
/-- How a row of trees comes. -/
def OutF (fb cb tb rb : Nat) (g : Gm) (W : List Int) (V : Nat) (E : BitVec 64) (vR vW vg : Value) (f : Tf) (room : Nat) (w : World) (e : Ending) (w' : World) : Prop :=
  if f.sz ≤ room then ∃ v, e = .returned v ∧ TfV w' (fun k => w.heap.size ≤ k) v f ∧ FoS w' fb cb tb rb g W V E vR vW vg (room - f.sz) ∧ Kf tb rb fb w w' else FPan tb rb fb 6 w e w'
section
variable {fb cb tb rb : Nat} {g : Gm} {W : List Int} {V : Nat} {E : BitVec 64} {vR vW vg : Value}
theorem FoS.lt {w : World} {room : Nat} (h : FoS w fb cb tb rb g W V E vR vW vg room) : fb < w.heap.size ∧ tb < w.heap.size ∧ rb < w.heap.size := ⟨lt_of_cell h.rm, h.ch.t.lt, h.ch.o.lt⟩
/-- What is a forest stays one where all it lies in stays. -/
theorem FoS.ahead {w w' u : World} {room0 room : Nat} (h0 : FoS w fb cb tb rb g W V E vR vW vg room0) (hk : Kf tb rb fb w w') (h1 : FoS u fb cb tb rb g W V E vR vW vg room) (ht : w'.heap[tb]? = u.heap[tb]?) (hr : w'.heap[rb]? = u.heap[rb]?) (hf : w'.heap[fb]? = u.heap[fb]?) : FoS w' fb cb tb rb g W V E vR vW vg room := by
  have hc : ∀ b o v, (fun k => k ≠ fb) b → w.cell? ⟨b, o, none⟩ = some v → (fun k => k ≠ fb) b ∧ w'.cell? ⟨b, o, none⟩ = some v := fun b o v hb h => ⟨hb, hk.cell h (memo_ne h0.ch.t h) (memo_ne h0.ch.o h) hb⟩
  have hcf : ∀ i v, u.cell? ⟨fb, i, none⟩ = some v → w'.cell? ⟨fb, i, none⟩ = some v := fun i v h => by rw [World.cell?_of_block (w := u) (a := ⟨fb, i, none⟩) hf]; exact h
  have cb' := Ne.symm h0.nb
  have r' := h0.cr.mono hc
  have x' := h0.cx.mono hc
  have c0 := h0.ch
  exact ⟨⟨(hc _ _ _ cb' c0.c0).2, (hc _ _ _ cb' c0.c1).2, (hc _ _ _ cb' c0.c2).2, (hc _ _ _ cb' c0.c3).2, (hc _ _ _ cb' c0.c4).2, (hc _ _ _ cb' c0.c5).2, (hc _ _ _ cb' c0.c6).2, (hc _ _ _ cb' c0.c7).2, r'.all, x'.all, h1.ch.t.of ht, h1.ch.o.of hr, c0.ne⟩,
    ⟨hcf _ _ h1.fp.p, hcf _ _ h1.fp.s, hcf _ _ h1.fp.v, hcf _ _ h1.fp.l, h0.fp.r.mono hc⟩, hcf _ _ h1.rm, hcf _ _ h1.f0, hcf _ _ h1.f1, fun i => by rw [World.frozen?_of_block (w := u) (a := ⟨fb, i, none⟩) hf]; exact h1.fz i, r', x', h0.nb⟩
theorem FoS.kc {w w' : World} {room0 : Nat} (h0 : FoS w fb cb tb rb g W V E vR vW vg room0) (hk : Kf tb rb fb w w') : ∀ b o v, (fun k => k ≠ fb) b → w.cell? ⟨b, o, none⟩ = some v → (fun k => k ≠ fb) b ∧ w'.cell? ⟨b, o, none⟩ = some v := fun _b _o _v hb h => ⟨hb, hk.cell h (memo_ne h0.ch.t h) (memo_ne h0.ch.o h) hb⟩
theorem Wys.sub {w : World} {f : Value} {F : Nat → Nat} {x m j : Nat} (h : Wys cb tb rb g W V E vR vW w f F x j) (hm : m ≤ j) : Wys cb tb rb g W V E vR vW w f F x m :=
  let ⟨id, rc, cs, e, hc, h⟩ := h
  ⟨id, rc, cs, e, hc, fun y h1 h2 => h y h1 (Nat.le_trans h2 hm)⟩
/-- Behind what grew in a block of one's own. -/
theorem FoS.grown {w w' u : World} {room0 room : Nat} {row : Option Nat} (h0 : FoS w fb cb tb rb g W V E vR vW vg room0) (hk : Kf tb rb fb w w') (h1 : FoS u fb cb tb rb g W V E vR vW vg room) (hg : u.grownBy w' row) (hr : ∀ k, row = some k → w.heap.size ≤ k) : FoS w' fb cb tb rb g W V E vR vW vg room := by
  obtain ⟨l1, l2, l3⟩ := h0.lt
  obtain ⟨m1, m2, m3⟩ := h1.lt
  exact h0.ahead hk h1 (hg.block tb m2 (fun e => by have := hr tb e.symm; omega)) (hg.block rb m3 (fun e => by have := hr rb e.symm; omega)) (hg.block fb m1 (fun e => by have := hr fb e.symm; omega))
theorem chN_neg {R : List Ru} {W : List Int} {V : Nat} {l : List Int} {k i j : Nat} (hk : k < l.length) (hs : l[k] < 0) (hj : j ≤ W.length) (h1 : i + 1 ≤ j) (h2 : W[i]? = some (-1 - l[k])) : chN (nN R W V) W (l.drop k) i j = chN (nN R W V) W (l.drop (k + 1)) (i + 1) j := by
  rw [← rwT_len, ← rwT_len, List.drop_eq_getElem_cons hk, rwT_neg hs hj, if_pos ⟨h1, h2⟩]
variable (fb cb tb rb g W V E vR vW vg)
def TrROK (room : Nat) : Prop := ∀ (v i j n : Nat) (t : Tr) (w : World), v < V → i ≤ j → j ≤ W.length → (Trs g.rules W V (v : Int) i j)[n]? = some t → nN g.rules W V v i j < 4611686018427387904 → FoS w fb cb tb rb g W V E vR vW vg room →
  Calls Try.prog 78 #[.pointer (some ⟨fb, 0, none⟩), .int .i64 v, .int .i64 i, .int .i64 j, .int .i64 n] w (OutT fb cb tb rb g W V E vR vW vg t room w)
def KdROK (room : Nat) : Prop := ∀ (r i j n : Nat) (f : Tf) (w : World), r < g.rules.length → i ≤ j → j ≤ W.length → (rwT g.rules W V (rgtR g r) i j)[n]? = some f → chN (nN g.rules W V) W (rgtR g r) i j < 4611686018427387904 → FoS w fb cb tb rb g W V E vR vW vg room →
  Calls Try.prog 97 #[.pointer (some ⟨fb, 0, none⟩), .int .i64 r, .int .i64 i, .int .i64 j, .int .i64 n] w (OutF fb cb tb rb g W V E vR vW vg f room w)
variable {fb cb tb rb g W V E vR vW vg}
theorem qr_facts {left b : Nat} (hb : 0 < b) (hl : left < 4611686018427387904) : wrap64 (Int.tdiv (left : Int) (b : Int)) = ((left / b : Nat) : Int) ∧ Int.tmod (left : Int) (b : Int) = ((left % b : Nat) : Int) ∧ ((b : Int) == 0) = false ∧ ¬ ((b : Int) = 0) := by
  have h1 : left / b ≤ left := Nat.div_le_self _ _
  refine ⟨?_, ?_, by simp; omega, by omega⟩
  · rw [Int.tdiv_eq_ediv_of_nonneg (by omega), ← Int.natCast_ediv]
    generalize left / b = q at *
    exact w64_in (by omega)
  · rw [Int.tmod_eq_emod_of_nonneg (by omega), ← Int.natCast_emod]
theorem kd_bound {a b s x : Nat} (h : s + a * b ≤ x) (hx : x < 4611686018427387904) (ha : 0 < a) (hb : 0 < b) : a * b < 4611686018427387904 ∧ a < 4611686018427387904 ∧ b < 4611686018427387904 := by
  have h1 : a ≤ a * b := Nat.le_mul_of_pos_right a hb
  have h2 : b ≤ a * b := Nat.le_mul_of_pos_left b ha
  omega
set_option maxRecDepth 100000 in
set_option maxHeartbeats 1000000 in
theorem kids_from (hG : CkG g W V) (hE : ∀ v : Int, hasB E v = true ↔ Nul g.rules v) (room : Nat) (ih : ∀ r, r ≤ room → TrROK fb cb tb rb g W V E vR vW vg r) (hroom : room ≤ 1000) : KdROK fb cb tb rb g W V E vR vW vg room := by
  intro r i j n f w hr hij hj hrow hM hF
  obtain ⟨i0, hi, iz0, iz1, iz2⟩ := info_parts Try.infoTree
  obtain ⟨aR, cR, rfl⟩ := hF.fp.r.slice
  have hW12 := hG.wl
  have hlt3 := hF.lt
  have hrl := hF.fp.r.1
  obtain ⟨bR, oR, rfl, d0, au, cu, d1, hu⟩ := hF.fp.r.at_ hr
  have hlen : (g.rules[r]'hr).right.length = (rgtR g r).length := by rw [rgt_at hr]
  have hul := hu.1
  have hu' : IsV w (fun k => k ≠ fb) (.slice au (rgtR g r).length cu) (rgtR g r) := by rw [← hlen]; rw [rgt_at hr]; exact hu
  rw [hlen] at d1 hul
  have p4 := hF.fp.v
  have hFr0 := hF
  have hsh := hG.short hr
  clear hu d0 hlen
  go_enter Try.func97, Try.ntmps97
  go_wp2_with fail
  go_loopw [2, 4, 11, 27] (fun ii nn vv kk wr => ∃ (k x c rc : Nat) (acc : Tf) (xs : List Value) (v : Value), v = vv ∧ k ≤ (rgtR g r).length ∧ kk = .int .i64 k ∧ ii = .int .i64 x ∧ nn = .int .i64 c ∧ i ≤ x ∧ x ≤ j ∧ rc ≤ room ∧ Hid ((rwT g.rules W V ((rgtR g r).drop k) x j)[c]? = some (f.drp acc.len)) ∧ Hid (chN (nN g.rules W V) W ((rgtR g r).drop k) x j < 4611686018427387904) ∧ acc.len ≤ k ∧ Hid (acc.len ≤ f.len ∧ ∀ q, q < acc.len → acc.at_ q = f.at_ q) ∧ Hid ((f.drp acc.len).sz + room = f.sz + rc) ∧
    wr.ownsRow w.heap.size 44 2 v acc.len xs ∧ TC wr (fun q => w.heap.size ≤ q ∧ v.ownBlock ≠ some q) xs acc ∧ FoS wr fb cb tb rb g W V E vR vW (.slice (some ⟨bR, oR, none⟩) g.rules.length cR) rc ∧ Kf tb rb fb w wr) (fun _ _ _ kk _ => (rgtR g r).length - (intOf kk).toNat)
  case atStart => exact ⟨0, i, n, room, .nil, [], _, rfl, Nat.zero_le _, rfl, rfl, rfl, Nat.le_refl _, hij, Nat.le_refl _, hd (by rw [List.drop_zero, show Tf.len .nil = 0 from rfl, Tf.drp_zero]; exact hrow), hd (by rw [List.drop_zero]; exact hM), Nat.le_refl _, hd ⟨Nat.zero_le _, fun q h => absurd h (Nat.not_lt_zero _)⟩, hd (by rw [show Tf.len .nil = 0 from rfl, Tf.drp_zero]), World.ownsRow_nil _ _ _ _, trivial, hF, Kf.refl _ _ _ _⟩
  case round =>
    obtain ⟨k, x, c, rc, acc, xs, v, rfl, hk, rfl, rfl, rfl, hix, hxj, hrc, hrw, hMM, hal, hac, hsz, hown, hfc, hFr, hkf⟩ := hrel
    have hz := hkf.size
    by_cases hlt : k < (rgtR g r).length
    · obtain ⟨bu, ou, rfl, hc0⟩ := (hu'.mono (hFr0.kc hkf)).at_ hlt
      by_cases hs : (rgtR g r)[k] < 0
      · obtain ⟨e1, e2, e3⟩ := row_neg hlt hs hj hrw.out
        have HR := hd e3
        have HM' := hd (by rw [← chN_neg hlt hs hj e1 e2]; exact hMM.out : chN (nN g.rules W V) W ((rgtR g r).drop (k + 1)) (x + 1) j < 4611686018427387904)
        clear hrw hMM e2 e3
        generalize (rgtR g r)[k] = s at *
        go_wp2_with fail
        go_roundw
        case rel => exact ⟨k + 1, x + 1, c, rc, acc, xs, _, rfl, by omega, by go_num, by go_num, rfl, by omega, e1, hrc, HR, HM', by omega, hac, hsz, hown, hfc, hFr, hkf⟩
        case measure => simp [intOf]; omega
      · obtain ⟨m, left, t, f', h1, h2, h3, h4, h5, h6, h7, hb0, ha0⟩ := row_pos hlt (by omega) hxj hj hrw.out
        obtain ⟨q1, q2, q3⟩ := drp_cons h7
        have hle := spN_le (R := g.rules) (W := W) (V := V) hlt h1 h2 hj
        have hsp := spN_pos (R := g.rules) (W := W) (V := V) (l := rgtR g r) (k := k) (i := x) (m := m) (j := j) hlt (by omega)
        rw [hsp] at hle
        obtain ⟨bd1, bd2, bd3⟩ := kd_bound hle hMM.out ha0 hb0
        have hcM : c < 4611686018427387904 := by have := rwT_lt hrw.out; have := hMM.out; omega
        have hl62 : left < 4611686018427387904 := by rw [hsp] at h4; omega
        have hsV := (hG.sym hr _ (List.getElem_mem hlt)).1
        obtain ⟨s, hsn⟩ : ∃ s : Nat, (rgtR g r)[k] = s := ⟨(rgtR g r)[k].toNat, by omega⟩
        have SP := splits_any hG hE (i := x) hj hr hlt wr hFr.ch hFr.fp
        have FI := fun f' u (hw : Wys cb tb rb g W V E vR vW u f' (fun m => spN g.rules W V (rgtR g r) k x m j) x j) (hc : ChS u cb tb rb g W V E vR vW) => find_any (m := m) (left := left) (hw.sub h2) hc h1 (by omega) h3 h4 hcM
        have BE := fun u (hc : ChS u cb tb rb g W V E vR vW) (hp : FoP u fb cb g W.length (.slice (some ⟨bR, oR, none⟩) g.rules.length cR)) => behind_any hG hE h1 h2 hj hr hlt (by omega) rfl rfl ha0 bd1 u hc hp
        have QR := hd (qr_facts hb0 hl62)
        have hsk : (rgtR g r)[k].toNat = s := by omega
        rw [hsk] at bd2
        rw [hsn] at h5 hsV hs hc0
        have IH := fun rc' (hrc' : rc' ≤ room) u hf => ih rc' hrc' s x m _ t u (by omega) h1 (by omega) h5 bd2 hf
        have HB := hd bd3
        have H6 := hd h6
        have hts : (f.drp acc.len).sz = t.sz + f'.sz := by rw [h7]; simp only [Tf.sz, Tr.sz]
        have HS := hd hsz.out
        have hvl : ∀ q, v.ownBlock = some q → w.heap.size ≤ q ∧ q < wr.heap.size := fun q e => hown.lt q e
        obtain ⟨aov, capv, rfl⟩ := owns_slice hown
        have HQ1 := hd q1
        have HQ2 := hd q2
        have HQ3 := hd q3
        have HTS := hd hts
        clear hrw hMM h3 h4 h5 h6 h7 hle hsp bd1 bd2 bd3 hsk hts hsz q1 q2 q3 ha0
        generalize hbe : chN (nN g.rules W V) W ((rgtR g r).drop (k + 1)) m j = b at *
        have HBE := hd hbe
        clear hbe
        go_wp2_with fail
        refine SP.mono ?_
        rintro e w1 ⟨vf, rfl, hw1, hb1⟩
        have F1 := hFr.lw hb1
        go_wp2_with fail
        refine (FI _ _ hw1 F1.ch).mono ?_
        rintro e w2 ⟨rfl, hs2, kt2⟩
        have F2 := F1.kt hs2 kt2
        go_wp2_with fail
        refine (BE _ F2.ch F2.fp).mono ?_
        rintro e w3 ⟨rfl, hs3, kt3⟩
        have F3 := F2.kt hs3 kt3
        have kf3 : Kf tb rb fb wr w3 := (Kf.of_below hb1).trans ((Kf.of_kt kt2).trans (Kf.of_kt kt3))
        obtain ⟨X, hX⟩ : ∃ X : Nat, X = left / b := ⟨_, rfl⟩
        obtain ⟨C, hC⟩ : ∃ C : Nat, C = left % b := ⟨_, rfl⟩
        rw [← hX] at IH
        rw [← hC] at H6
        rw [← hX, ← hC] at QR
        have TA := IH rc hrc w3 F3
        have HTA := hd TA
        obtain ⟨lf, hlf⟩ : ∃ lf : Int, lf = left := ⟨_, rfl⟩
        obtain ⟨bf, hbf⟩ : ∃ bf : Int, bf = b := ⟨_, rfl⟩
        rw [← hlf, ← hbf] at QR ⊢
        clear hX hC hlf hbf IH TA SP FI BE hcM hl62 hb0
        obtain ⟨QA, QB, QC, QD⟩ := QR.out
        have HQB := hd QB
        clear QB QR
        go_wp2_with fail
        refine HTA.out.mono ?_
        intro e w4 hO
        unfold OutT at hO
        clear QA
        by_cases hroom4 : t.sz ≤ rc
        · rw [if_pos hroom4] at hO
          obtain ⟨vt, rfl, ⟨u2, rfl, hu2⟩, F4, kf4⟩ := hO
          have kf04 := kf3.trans kf4
          obtain ⟨l1, l2, l3⟩ := hlt3
          have hown4 := owns_kf hown kf04 l2 l3 l1
          have z4 := kf04.size
          obtain ⟨ao2, cap2, rfl, _⟩ := id hu2.slice
          have hk10 : acc.len + 1 ≤ 1000000 := by omega
          go_wp2_with (first | (at_builtin; go_must (refine wpList_append_own_at _ rfl _ _ 42 rfl w.heap.size 44 i0 (.agg #[.int .i64 0, .slice none 0 0]) 2 32 Try.underlying42 hi iz0 iz1 iz2 rfl (by decide) _ _ _ rfl (hown4.alloc _) ⟨w4.heap.size, 0, none⟩ 1 1 [.int .i64 t.rule, .slice ao2 t.kids.len cap2] rfl rfl (cell2_new _ _ _ _ (by simp)) (oneRule _ _ _ _) (by unfold maxLen; omega) (by omega) (by simp; omega) ?_)))
          intro v1 W1 own1 grow1 _ hat
          have fc1 : TC W1 (fun q => w.heap.size ≤ q ∧ v1.ownBlock ≠ some q) (xs ++ [.int .i64 t.rule, .slice ao2 t.kids.len cap2]) (acc.snoc t) := by
            refine TC_step (w1 := w4) (g := w4.heap.size + 1) (x := t) hfc (hu2.mono (keep_all (Below.refl _ _) fun q hq => ?_)) (by omega) (by omega) ?_ ?_ (fun q e => (hvl q e).2) (by omega) (by simpa using hat)
            · have : w3.heap.size ≤ q := hq
              have := kf3.size
              omega
            · have kk1 : Kp (fun q => w.heap.size ≤ q ∧ (Value.slice aov acc.len capv).ownBlock ≠ some q) wr w4 := ⟨kf04.size, fun q hq hs => kf04.block q hq (by omega) (by omega) (by omega)⟩
              exact (kk1.alloc _).grown grow1 (fun q e => .inl fun hs => hs.2 e)
            · exact ((Kp.refl _ w4).alloc _).grown grow1 (fun q e => .inl fun hs => by have := (hvl q e).2; omega)
          have kf5 : Kf tb rb fb w W1 := ((hkf.trans kf04).alloc _).grown grow1 (fun q e => (hvl q e).1)
          have F5 : FoS W1 fb cb tb rb g W V E vR vW (.slice (some ⟨bR, oR, none⟩) g.rules.length cR) (rc - t.sz) := hF.grown kf5 (F4.lw (al1 w4 _)) grow1 (fun q e => (hvl q e).1)
          clear hown hown4 hfc
          have QB := HQB.out
          go_wp2_with fail
          go_quiet (fail)
          have hbn := drwN W1 nq
          clear QB HQB
          go_wp2_with fail
          go_roundw
          case rel => exact ⟨k + 1, m, C, rc - t.sz, acc.snoc t, _, _, rfl, by omega, by go_num, by go_num, rfl, by omega, by omega, by omega, hd (by rw [Tf.len_snoc, HQ3.out]; exact H6.out), hd (by rw [HBE.out]; exact HB.out), by rw [Tf.len_snoc]; omega, hd (by
              rw [Tf.len_snoc]
              refine ⟨HQ1.out, fun q hq => ?_⟩
              by_cases e : q = acc.len
              · rw [e, Tf.snoc_last, HQ2.out]
              · rw [Tf.snoc_at _ _ _ (by omega)]; exact hac.out.2 q (by omega)), hd (by rw [Tf.len_snoc, HQ3.out]; have := HS.out; have := HTS.out; omega), by rw [Tf.len_snoc]; exact owns_below own1 hbn, fc1.mono (keep_all hbn fun _ h => h), F5.lw hbn, kf5.trans (Kf.of_below hbn)⟩
          case measure => simp [intOf]; omega
        · rw [if_neg hroom4] at hO
          have hno : ¬ f.sz ≤ room := by have := HS.out; have := HTS.out; omega
          obtain ⟨rfl, p7, p8, kf4⟩ := hO
          go_wp2_with fail
          refine ⟨rfl, ?_⟩
          unfold OutF
          rw [if_neg hno]
          exact ⟨rfl, p7, p8, hkf.trans (kf3.trans kf4)⟩
    · have hend := row_end (by omega) hrw.out
      have hfl := drp_nil hend.2.2
      have hfe : acc.len = f.len := Nat.le_antisymm hac.out.1 hfl
      have hacc : acc = f := Tf.ext_at _ _ hfe (fun q hq => hac.out.2 q hq)
      have hszf : f.sz + rc = room := by have := hsz.out; rw [hend.2.2] at this; simp only [Tf.sz] at this; omega
      have hfv := TfV_owned (T := fun q => w.heap.size ≤ q) hown hfc (fun _ h => h.1) (fun q h => (hown.lt q h).1) (by omega)
      rw [hacc] at hfv
      obtain ⟨aov, capv, rfl⟩ := owns_slice hown
      have HFV := hd hfv
      have hrcf : rc = room - f.sz := by omega
      clear hend hfl hfe hacc hown hfc hrw hMM hac hsz
      go_wp2_with fail
      go_ret
      unfold OutF
      rw [if_pos (by omega)]
      exact ⟨_, rfl, HFV.out, hrcf ▸ hFr, hkf⟩
end
end Go.Proofs.Ytlhdppkllmnmkae.G

/- The tree of a number, as the program makes it: the tree itself. -/
namespace Go.Proofs.Ytlhdppkllmnmkae.G
open Go.RowKit Go.Maps
section
variable {fb cb tb rb : Nat} {g : Gm} {W : List Int} {V : Nat} {E : BitVec 64} {vR vW vg : Value}
theorem setc_ne {w : World} {k b o : Nat} {u : Value} (h : k ≠ b) : (w.setCell ⟨b, o, none⟩ u).heap[k]? = w.heap[k]? := Below.heap_setCell _ _ _ _ h
theorem sz_pos (t : Tr) : 1 ≤ t.sz := by unfold Tr.sz; omega
set_option maxRecDepth 100000 in
set_option maxHeartbeats 1000000 in
theorem tree_zero (_hG : CkG g W V) : TrROK fb cb tb rb g W V E vR vW vg 0 := by
  intro v i j n t w _ _ _ _ _ hF
  have z := sz_pos t
  have hFa := hF.lw (al1 w (.cells #[.int .i64 0, .slice none 0 0] 44))
  have rm := hFa.rm
  have GA := fgive_any 6 hFa
  clear hF
  go_enter Try.func78, Try.ntmps78
  go_wp2_with fail
  refine GA.mono ?_
  rintro e w1 ⟨rfl, h1, h2, h3⟩
  go_wp2_with fail
  refine ⟨rfl, ?_⟩
  unfold OutT
  rw [if_neg (by omega)]
  exact ⟨rfl, h1, h2, (Kf.of_below (al1 w _)).trans h3⟩
set_option maxRecDepth 100000 in
set_option maxHeartbeats 1000000 in
theorem tree_from (hG : CkG g W V) (hE : ∀ v : Int, hasB E v = true ↔ Nul g.rules v) (room : Nat) (hk : KdROK fb cb tb rb g W V E vR vW vg room) (hroom : room ≤ 1000) : TrROK fb cb tb rb g W V E vR vW vg (room + 1) := by
  intro v i j n t w hv hij hj ht hM hF
  obtain ⟨p, left, hp, h1, h2, h3, h4, h5⟩ := tree_step hG.ac hG.hR hj ht
  have hle := rl_le (p := p) hG.ac hG.hR (v := v) (i := i) hj hp
  have hnM : n < 4611686018427387904 := by have := Trs_lt ht; omega
  have hch : chN (nN g.rules W V) W (rgtR g p) i j < 4611686018427387904 := by
    have := rlN_at (R := g.rules) (W := W) (V := V) (v := (v : Int)) (i := i) (j := j) hp
    rw [if_pos h4] at this
    rw [rgt_at hp, ← this]; omega
  have hrow : (rwT g.rules W V (rgtR g p) i j)[left]? = some t.kids := by rw [rgt_at hp]; exact h5
  have hpl := hG.rg.few
  have HF0 := hd hF
  have r6 := hF.rm
  have fz6 := hF.fz 6
  obtain ⟨l1, l2, l3⟩ := hF.lt
  obtain ⟨Y, hY⟩ : ∃ Y, Y = (w.setCell ⟨fb, 6, none⟩ (.int .i64 room)).alloc (.cells #[.int .i64 0, .slice none 0 0] 44) := ⟨_, rfl⟩
  have FY : FoS Y fb cb tb rb g W V E vR vW vg room := by rw [hY]; exact (hF.setRoom room).lw (al1 _ _)
  have kY : Kf tb rb fb w Y := by rw [hY]; exact ((Kf.refl tb rb fb w).setF _).alloc _
  have hsz0 : (w.setCell ⟨fb, 6, none⟩ (.int .i64 room)).heap.size = w.heap.size := by simp [World.setCell]
  have y0 : Y.cell? ⟨w.heap.size, 0, none⟩ = some (.int .i64 0) := by rw [hY]; generalize w.setCell ⟨fb, 6, none⟩ (.int .i64 room) = u at hsz0 ⊢; rw [← hsz0]; simp
  have y1 : Y.cell? ⟨w.heap.size, 1, none⟩ = some (.slice none 0 0) := by rw [hY]; generalize w.setCell ⟨fb, 6, none⟩ (.int .i64 room) = u at hsz0 ⊢; rw [← hsz0]; simp
  have yf : ∀ i, Y.frozen? ⟨w.heap.size, i, none⟩ = false := fun i => by rw [hY]; generalize w.setCell ⟨fb, 6, none⟩ (.int .i64 room) = u at hsz0 ⊢; rw [← hsz0]; simp [go_sem]
  clear hsz0
  have zY := lt_of_cell y0
  have tsz : t.sz = 1 + t.kids.sz := rfl
  have RU := rules_any hG hE (v := (v : Int)) hij hj hp Y FY.ch FY.fp
  have FI := fun f' u (hw : Wys cb tb rb g W V E vR vW u f' (rlN g.rules W V (v : Int) i j) 0 p) (hc : ChS u cb tb rb g W V E vR vW) => find_any (m := p) (left := left) hw hc (Nat.zero_le _) (by omega) (by simpa using h1) h2 hnM
  have KD := fun u hu => hk p i j left t.kids u hp hij hj hrow hch hu
  have HRU := hd RU
  have HFI := hd FI
  have HKD := hd KD
  have H3 := hd h3
  clear RU FI KD h1 h2 h3 h4 h5 hle hnM hch hrow hpl hF ht hM hk
  go_enter Try.func78, Try.ntmps78
  go_wp2_with fail
  rw [← hY]
  have HY := hd hY
  clear hY
  refine HRU.out.mono ?_
  rintro e w1 ⟨vf, rfl, hw1, hb1⟩
  have F1 := FY.lw hb1
  have FA := HFI.out _ _ hw1 F1.ch
  go_wp2_with fail
  refine FA.mono ?_
  rintro e w2 ⟨rfl, hs2, kt2⟩
  have F2 := F1.kt hs2 kt2
  have kf2 : Kf tb rb fb w w2 := kY.trans ((Kf.of_below hb1).trans (Kf.of_kt kt2))
  have kf2Y : Kf tb rb fb Y w2 := (Kf.of_below hb1).trans (Kf.of_kt kt2)
  have KA := HKD.out w2 F2
  go_wp2_with fail
  refine KA.mono ?_
  intro e w3 hO
  unfold OutF at hO
  by_cases hr3 : t.kids.sz ≤ room
  · rw [if_pos hr3] at hO
    obtain ⟨vk, rfl, hv3, F3, kf3⟩ := hO
    obtain ⟨ak, ck, rfl, _⟩ := id hv3.slice
    have kf3Y := kf2Y.trans kf3
    have q0 := kf3Y.cell y0 (by omega) (by omega) (by omega)
    have q1 := kf3Y.cell y1 (by omega) (by omega) (by omega)
    have qf : ∀ i, w3.frozen? ⟨w.heap.size, i, none⟩ = false := fun i => (World.frozen?_of_block (a := ⟨w.heap.size, i, none⟩) (kf3Y.block w.heap.size (by omega) (by omega) (by omega) (by omega))).trans (yf i)
    have z3 := kf2.size
    have z2 : w.heap.size < w2.heap.size := by have := kf2Y.size; omega
    have kf4 : Kf tb rb fb w ((w3.setCell ⟨w.heap.size, 0, none⟩ (.int .i64 (p : Int))).setCell ⟨w.heap.size, 1, none⟩ (.slice ak t.kids.len ck)) := ((kf2.trans kf3).setCell (x := ⟨w.heap.size, 0, none⟩) (Nat.le_refl _) _).setCell (x := ⟨w.heap.size, 1, none⟩) (Nat.le_refl _) _
    obtain ⟨m1, m2, m3⟩ := F3.lt
    have F4 : FoS ((w3.setCell ⟨w.heap.size, 0, none⟩ (.int .i64 (p : Int))).setCell ⟨w.heap.size, 1, none⟩ (.slice ak t.kids.len ck)) fb cb tb rb g W V E vR vW vg (room - t.kids.sz) := FoS.ahead (room0 := room + 1) HF0.out kf4 F3 ((setc_ne (by omega)).trans (setc_ne (by omega))) ((setc_ne (by omega)).trans (setc_ne (by omega))) ((setc_ne (by omega)).trans (setc_ne (by omega)))
    have hfv : TfV ((w3.setCell ⟨w.heap.size, 0, none⟩ (.int .i64 (p : Int))).setCell ⟨w.heap.size, 1, none⟩ (.slice ak t.kids.len ck)) (fun k => w.heap.size ≤ k) (.slice ak t.kids.len ck) t.kids := hv3.kp (((Kp.refl _ w3).setCell (.inl (by show ¬ (w2.heap.size ≤ w.heap.size); omega)) _).setCell (.inl (by show ¬ (w2.heap.size ≤ w.heap.size); omega)) _) (fun q _ h => by have : w2.heap.size ≤ q := h; omega)
    clear hv3
    go_wp2_with fail
    refine bodyPost_ret (v := .agg #[.int .i64 (p : Int), .slice ak t.kids.len ck]) (by simp [results, Try.results78, go_sem, q0, q1]) rfl ?_
    unfold OutT
    rw [if_pos (by omega), tsz]
    exact ⟨_, rfl, ⟨_, by rw [H3.out], hfv⟩, by rw [show room + 1 - (1 + t.kids.sz) = room - t.kids.sz by omega]; exact F4, kf4⟩
  · rw [if_neg hr3] at hO
    obtain ⟨rfl, p7, p8, kf3⟩ := hO
    go_wp2_with fail
    refine ⟨rfl, ?_⟩
    unfold OutT
    rw [if_neg (by omega)]
    exact ⟨rfl, p7, p8, kf2.trans kf3⟩
theorem trR_all (hG : CkG g W V) (hE : ∀ v : Int, hasB E v = true ↔ Nul g.rules v) : ∀ room, room ≤ 1000 → TrROK fb cb tb rb g W V E vR vW vg room
  | 0, _ => tree_zero hG
  | room + 1, h => tree_from hG hE room (kids_from hG hE room (fun r hr => trR_all hG hE r (by omega)) (by omega)) (by omega)
end
end Go.Proofs.Ytlhdppkllmnmkae.G

/- How many terminals a tree's word has. -/
namespace Go.Proofs.Ytlhdppkllmnmkae.G
open Go.RowKit Go.Maps
/-- The lengths of the words of a row of trees, summed. -/
def lnF (R : List Ru) : Tf → Nat
  | .nil => 0
  | .cons r k rest => (wdT R ⟨r, k⟩).length + lnF R rest
theorem wdR_ln {R : List Ru} : ∀ (l : List Int) (f : Tf), fitF R f (kidsL l) = true → (wdR l (wdF R f)).length + f.len = l.length + lnF R f
  | [], f, h => by
    have := fitF_len _ _ _ h
    rw [show kidsL [] = [] from rfl] at this
    have e : f = .nil := Tf.len_zero (by simpa using this)
    subst e; rfl
  | s :: ss, f, h => by
    by_cases hs : s < 0
    · rw [kidsL_ng (by omega)] at h
      have := wdR_ln ss f h
      rw [wdR, if_pos hs]
      simp only [List.length_cons]; omega
    · rw [kidsL_pos (by omega)] at h
      cases f with
      | nil => simp [fitF] at h
      | cons r k rest =>
        rw [fitF_cons, Bool.and_eq_true] at h
        have := wdR_ln ss rest h.2
        have e : wdR (s :: ss) (wdF R (.cons r k rest)) = wdT R ⟨r, k⟩ ++ wdR ss (wdF R rest) := by
          show wdR (s :: ss) (wdT R ⟨r, k⟩ :: wdF R rest) = _
          rw [wdR, if_neg hs]; rfl
        rw [e, List.length_append]
        simp only [Tf.len, lnF, List.length_cons]; omega
theorem lnF_at {R : List Ru} {f : Tf} {k : Nat} (h : k < f.len) : lnF R (f.drp k) = (wdT R (f.at_ k)).length + lnF R (f.drp (k + 1)) := by rw [Tf.drp_at h]; rfl
section
variable {fb cb : Nat} {g : Gm} {L : Nat} {vg : Value}
def TmOK (t : Tr) : Prop := ∀ (fb cb L : Nat) (g : Gm) (vg vt : Value) (v : Int) (w : World), FoP w fb cb g L vg → TrV w All vt t → fitT g.rules t v = true → (wdT g.rules t).length ≤ 1000 → g.rules.length ≤ 1000 → (∀ r ∈ g.rules, r.right.length ≤ 10) →
  Calls Try.prog 84 #[.pointer (some ⟨fb, 0, none⟩), vt] w fun e w' => e = .returned (.int .i64 ((wdT g.rules t).length : Nat)) ∧ Below w.heap.size w w'
set_option maxRecDepth 100000 in
set_option maxHeartbeats 1000000 in
theorem tm_head' (t : Tr) (ih : ∀ i, i < t.kids.len → TmOK (t.kids.at_ i)) : TmOK t := by
  intro fb cb L g vg vt v w hp ht hfit hlen hrl hr10
  obtain ⟨r, hr, hrule, _, hk, hw⟩ := fit_rule hfit
  obtain ⟨u, rfl, hx⟩ := ht
  obtain ⟨ao, cap, rfl, hcp⟩ := hx.slice
  have hsum := wdR_ln _ _ hk
  rw [← hw] at hsum
  have hkl := fitF_len _ _ _ hk
  have hk10 : t.kids.len ≤ 10 := by have := hr10 _ (List.getElem_mem hr); have := kidsL_len g.rules[r].right; omega
  obtain ⟨W, hW⟩ : ∃ W, W = w.alloc (.cells #[.int .i64 t.rule, .slice ao t.kids.len cap] 44) := ⟨_, rfl⟩
  have hWb : Below w.heap.size w W := by rw [hW]; exact al1 _ _
  have x0 : W.cell? ⟨w.heap.size, 0, none⟩ = some (.int .i64 t.rule) := by rw [hW]; simp
  have x1 : W.cell? ⟨w.heap.size, 1, none⟩ = some (.slice ao t.kids.len cap) := by rw [hW]; simp
  obtain ⟨aR, cR, rfl⟩ := hp.r.slice
  have hpW := hp.stay fun _ _ _ x => bkeep hWb x
  obtain ⟨bR, oR, rfl, d0, au, cu, d1, hu⟩ := hpW.r.all.at_ hr
  have hr10' := hr10 _ (List.getElem_mem hr)
  have p4 := hpW.v
  rw [hrule] at x0 hW ⊢
  obtain ⟨R, hR⟩ : ∃ R, R = (wdT g.rules t).length := ⟨_, rfl⟩
  rw [← hR] at hsum hlen ⊢
  have HS := hd hsum
  have HFK := hd hk
  have hkr : t.kids.len ≤ g.rules[r].right.length := by have := kidsL_len g.rules[r].right; omega
  clear hu d0 hp hw hkl hsum
  have hlR : (g.rules[r]'hr).right.length ≤ 10 := hr10'
  obtain ⟨RL, hRL⟩ : ∃ RL, RL = (g.rules[r]'hr).right.length := ⟨_, rfl⟩
  rw [← hRL] at d1 hlR HS hkr
  have hfit' : ∀ k, k < t.kids.len → ∃ v', fitT g.rules (t.kids.at_ k) v' = true := fun k hk' => by
    have h1 := HFK.out
    have hl := fitF_len _ _ _ h1
    have key : ∀ (f : Tf) (vs : List Int) (k : Nat), fitF g.rules f vs = true → k < f.len → ∃ v', fitT g.rules (f.at_ k) v' = true := fun f => by
      induction f with
      | nil => intro _ k _ h; simp [Tf.len] at h
      | cons r k rest _ ih =>
        intro vs q h hq
        cases vs with
        | nil => simp [fitF] at h
        | cons v vs =>
          rw [fitF_cons, Bool.and_eq_true] at h
          cases q with
          | zero => exact ⟨v, h.1⟩
          | succ q => exact ih vs q h.2 (by simpa [Tf.len] using hq)
    exact key _ _ _ h1 hk'
  clear hrule hr10' hRL HFK hfit
  go_enter Try.func84, Try.ntmps84
  go_wp2_with fail
  rw [← hW]
  have HW := hd hW
  clear hW
  go_quiet (fail)
  have hbn := drwN W nq
  have x1' := bkeep hbn x1
  go_wp2_with fail
  go_loopw [5, 26] (fun n i wr => ∃ (k q : Nat), k ≤ t.kids.len ∧ i = .int .i64 k ∧ n = .int .i64 ((RL : Int) - t.kids.len + q) ∧ q ≤ 1000 ∧ Hid (q + lnF g.rules (t.kids.drp k) = lnF g.rules t.kids) ∧ Below W.heap.size W wr) (fun _ i _ => t.kids.len - (intOf i).toNat)
  case atStart => exact ⟨0, 0, Nat.zero_le _, rfl, by congr 1; have := w64_in (n := (RL : Int) - t.kids.len) (by omega); simp [], Nat.zero_le _, hd (by rw [Tf.drp_zero, Nat.zero_add]), hbn⟩
  case round =>
    obtain ⟨k, q, hk, rfl, rfl, hq, hinv, hb⟩ := hrel
    have bel := bthen hWb hb
    by_cases hlt : k < t.kids.len
    · obtain ⟨b, o, rfl, _, c0, aq, cq, c1, hq'⟩ := (hx.lw bel).at_ hlt
      obtain ⟨v', hv'⟩ := hfit' k hlt
      have h1 := hinv.out
      rw [lnF_at hlt] at h1
      have h2 := HS.out
      have h3 : lnF g.rules t.kids ≤ 1000 := by omega
      have IH := fun w' hb' => ih k hlt fb cb L g _ (.agg #[.int .i64 (t.kids.at_ k).rule, .slice aq (t.kids.at_ k).kids.len cq]) v' w' (hpW.stay fun _ _ _ x => bkeep (bthen hb hb') x) (TrV_mk (hq'.lw hb')) hv' (by omega) hrl hr10
      have H1 := hd h1
      have hql : q + (wdT g.rules (t.kids.at_ k)).length ≤ 1000 := by omega
      clear hinv h1 hfit' h2 h3 hq'
      generalize (wdT g.rules (t.kids.at_ k)).length = z at *
      generalize t.kids.at_ k = x at *
      obtain ⟨Y, hY⟩ : ∃ Y, Y = wr.alloc (.cells #[.int .i64 x.rule, .slice aq x.kids.len cq] 44) := ⟨_, rfl⟩
      have hYb : Below wr.heap.size wr Y := by rw [hY]; exact al1 _ _
      have IA := IH Y hYb
      clear IH
      go_wp2_with fail
      rw [← hY]
      have HY := hd hY
      clear hY
      refine IA.mono ?_
      rintro e w1 ⟨rfl, hb1⟩
      go_wp2_with fail
      go_roundw
      case rel => exact ⟨k + 1, q + z, by omega, by go_num, congrArg _ (by omega), by omega, hd (by rw [← H1.out]; omega), bthen hb (bthen hYb hb1)⟩
      case measure => simp [intOf]; omega
    · have h1 := hinv.out
      rw [Tf.drp_end (by omega)] at h1
      have h2 := HS.out
      have h3 : (RL : Int) - t.kids.len + q = (R : Int) := by simp only [lnF] at h1; omega
      have H3 := hd h3
      clear hinv h1 h2 h3
      go_wp2_with fail
      go_ret
      exact ⟨ret_int H3.out, bel⟩
theorem tm_all' : ∀ (f : Tf) (i : Nat), i < f.len → TmOK (f.at_ i)
  | .nil, _, h => absurd h (Nat.not_lt_zero _)
  | .cons rule kids _, 0, _ => tm_head' ⟨rule, kids⟩ (tm_all' kids)
  | .cons _ _ rest, i + 1, h => tm_all' rest i (by simpa [Tf.len] using h)
theorem terminals_any (t : Tr) : TmOK t := tm_head' t (tm_all' t.kids)
end
end Go.Proofs.Ytlhdppkllmnmkae.G
