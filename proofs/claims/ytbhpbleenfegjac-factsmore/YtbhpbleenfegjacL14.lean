/- Proved: for every grammar and every rule FactsMore returns true (a rule more takes nothing away from Nullable, Productive, Reachable, Cyclic and Corners), and what came in reads as before. No condition. -/
import Derived.Test.YtbhpbleenfegjacL11
import Derived.Test.YtbhpbleenfegjacL12
import Derived.Test.YtbhpbleenfegjacL13
import Derived.Test.YtbhpbleenfegjacRows
import Derived.Deep.CutRange
import Derived.ProofKit
import Derived.OpenShut
import Derived.ShutString
import Derived.ChangeOld
namespace Go.Proofs.Ytbhpbleenfegjac.factsMore
open Go.Proofs.Ytbhpbleenfegjac Go.Proofs.Ytbhpbleenfegjac.G
open Go.ChangeShapes Go.WideShapes Go.ChangeAt Go.RowKit

theorem own : ownKnob Try.prog.godebug = none := by kernel_rfl
theorem laidOut : laidOutB Try.prog = true := by kernel_rfl
/-- A list, of a grammar that is right. -/
theorem lst_ok {f : Nat} {g : Gm} {p : Int → Prop} {va : Value} {w : World} (h0 : gFl g = (0, 0)) (h : Calls Try.prog f #[va] w fun e w' => LstR w w' g p e) :
    Calls Try.prog f #[va] w fun e w' => ∃ v l, e = .returned (.tuple #[v, .agg #[.int .i64 0, .int .i64 0]]) ∧ IsV w' All v l ∧ (∀ x, x ∈ l ↔ p x) ∧ Below w.heap.size w w' := by
  refine h.mono ?_
  rintro e w' ⟨v, l, rfl, own, hl, _, h2, hb⟩
  rw [h0] at h2 ⊢
  obtain ⟨r, rfl, hr⟩ := h2 rfl
  exact ⟨v, _, rfl, IsV_owned own (by omega) (fun _ _ => trivial), fun x => mem_listB.trans (hr x), hb⟩
theorem cn_ok {g : Gm} {V : Nat} {va : Value} {w : World} (h0 : gFl g = (0, 0)) (hV : Rgt g V) (h : Calls Try.prog 39 #[va] w fun e w' => CnR w w' g e) :
    Calls Try.prog 39 #[va] w fun e w' => ∃ v L, e = .returned (.tuple #[v, .agg #[.int .i64 0, .int .i64 0]]) ∧ LsV w' v L ∧ L.length = V ∧ (∀ k (h : k < L.length), ∀ x, x ∈ L[k] ↔ Led true (Gen false g.rules) g.rules k x) ∧ Below w.heap.size w w' := by
  refine h.mono ?_
  rintro e w' ⟨v, L, rfl, hL, _, h2, hb⟩
  rw [h0] at h2 ⊢
  obtain ⟨h3, h4⟩ := h2 rfl V hV
  refine ⟨v, L, rfl, hL, h3, fun k hk x => ?_, hb⟩
  obtain ⟨r, e, hr⟩ := h4 k hk
  rw [e]
  exact mem_listB.trans (hr x)
set_option maxRecDepth 100000 in
set_option maxHeartbeats 16000000 in
theorem walk (g : Gm) (r : Ru) (va ur : Value) (w : World) (hA : GV w All va g) (hU : IsV w All ur r.right) :
    Calls Try.prog 8 #[va, .agg #[.int .i64 r.left, ur]] w fun e w' => e = .returned (.bool true) ∧ Below w.heap.size w w' := by
  obtain ⟨i0, hi, iz0, iz1, iz2⟩ := info_parts Try.infoRule
  have hfi := fun a b w => field0 a b w
  obtain ⟨u, rfl, hr⟩ := hA
  obtain ⟨ao, cap, rfl⟩ := hr.slice
  obtain ⟨ru, cu, rfl⟩ := hU.slice
  have hl := hr.1
  have hlu := hU.1
  obtain ⟨W, hW⟩ : ∃ W, W = (w.alloc (.cells #[.int .i64 g.vars, .int .i64 g.terms, .int .i64 g.start, .slice ao g.rules.length cap] 24)).alloc (.cells #[.int .i64 r.left, .slice ru r.right.length cu] 37) := ⟨_, rfl⟩
  have hWb : Below w.heap.size w W := by rw [hW]; exact al2 _ _ _
  have hWz : W.heap.size = w.heap.size + 2 := by rw [hW]; simp
  have hW0 : W.cell? ⟨w.heap.size, 0, none⟩ = some (.int .i64 g.vars) := by rw [hW]; simp
  have hW1 : W.cell? ⟨w.heap.size, 1, none⟩ = some (.int .i64 g.terms) := by rw [hW]; simp
  have hW2 : W.cell? ⟨w.heap.size, 2, none⟩ = some (.int .i64 g.start) := by rw [hW]; simp
  have hW3 : W.cell? ⟨w.heap.size, 3, none⟩ = some (.slice ao g.rules.length cap) := by rw [hW]; simp
  have hR0 : W.cell? ⟨w.heap.size + 1, 0, none⟩ = some (.int .i64 r.left) := by rw [hW]; simp
  have hR1 : W.cell? ⟨w.heap.size + 1, 1, none⟩ = some (.slice ru r.right.length cu) := by rw [hW]; simp
  have gg : ∀ w', Below w.heap.size w w' → GV w' All (.agg #[.int .i64 g.vars, .int .i64 g.terms, .int .i64 g.start, .slice ao g.rules.length cap]) g := fun w' h => ⟨_, rfl, hr.lw h⟩
  go_enter Try.func8, Try.ntmps8
  go_wp2_with fail
  rw [← hW]
  clear hW
  refine (factsBegun_any W).mono ?_
  rintro e w1 ⟨rfl, k1⟩
  have b1 := bthen hWb k1
  have s0 := bkeep k1 hW0
  have s1 := bkeep k1 hW1
  have s2 := bkeep k1 hW2
  have s3 := bkeep k1 hW3
  go_wp2_with fail
  refine (great_any g _ w1 (gg w1 b1)).mono ?_
  rintro e w2 ⟨q, rfl, hq, k2⟩
  have k12 := bthen k1 k2
  have b2 := bthen b1 k2
  have HQ := hd hq
  clear hq s0 s1 s2 s3
  cases q with
  | true =>
    go_wp2_with fail
    go_ret
    exact ⟨rfl, b2⟩
  | false =>
  have hsm := HQ.out rfl
  have h400 := hsm.1
  have m1 := bkeep k12 hR1
  by_cases h100 : 100 < r.right.length
  · go_wp2_with fail
    go_ret
    exact ⟨rfl, b2⟩
  have s0 := bkeep k12 hW0
  have s1 := bkeep k12 hW1
  have s2 := bkeep k12 hW2
  have s3 := bkeep k12 hW3
  go_wp2_with fail
  refine (ownGram_own g _ w2 (gg w2 b2) hsm).mono ?_
  rintro e w3 ⟨vr, xs, rfl, own3, rc3, k3⟩
  obtain ⟨av, cv, rfl⟩ := owns_slice own3
  clear s0 s1 s2 s3 m1
  have k13 := bthen k12 k3
  obtain ⟨p5, hp5⟩ : ∃ p5, p5 = w3.heap.size := ⟨_, rfl⟩
  obtain ⟨w4, hw4⟩ : ∃ w4, w4 = w3.alloc (.cells #[.int .i64 g.vars, .int .i64 g.terms, .int .i64 g.start, .slice av g.rules.length cv] 24) := ⟨_, rfl⟩
  have k4 : Below w3.heap.size w3 w4 := by rw [hw4]; exact al1 _ _
  have k14 := bthen k13 k4
  have z4 : w4.heap.size = p5 + 1 := by rw [hw4, hp5]; simp
  have e0 : w4.cell? ⟨p5, 0, none⟩ = some (.int .i64 g.vars) := by rw [hw4, hp5]; simp
  have e1 : w4.cell? ⟨p5, 1, none⟩ = some (.int .i64 g.terms) := by rw [hw4, hp5]; simp
  have e2 : w4.cell? ⟨p5, 2, none⟩ = some (.int .i64 g.start) := by rw [hw4, hp5]; simp
  have e3 : w4.cell? ⟨p5, 3, none⟩ = some (.slice av g.rules.length cv) := by rw [hw4, hp5]; simp
  have ef : ∀ i, w4.frozen? ⟨p5, i, none⟩ = false := fun i => by rw [hw4, hp5]; simp [go_sem]
  have own4 := owns_below own3 k4
  have m0 := bkeep k14 hR0
  have m1 := bkeep k14 hR1
  have u0 := alcell (bkeep k13 hR0) (.cells #[.int .i64 g.vars, .int .i64 g.terms, .int .i64 g.start, .slice av g.rules.length cv] 24)
  have u1 := alcell (bkeep k13 hR1) (.cells #[.int .i64 g.vars, .int .i64 g.terms, .int .i64 g.start, .slice av g.rules.length cv] 24)
  have HP5 := hd hp5
  have h25 : w2.heap.size ≤ p5 := by have := k3.size; omega
  go_upto_region 6 with fail
  rw [← hw4, ← hp5]
  clear hw4 hp5 u0 u1
  obtain ⟨w5, hw5⟩ : ∃ w5, w5 = w4.alloc (.cells #[.int .i64 r.left, .slice ru r.right.length cu] 37) := ⟨_, rfl⟩
  have k5 : Below w4.heap.size w4 w5 := by rw [hw5]; exact al1 _ _
  have z5 : w5.heap.size = p5 + 2 := by rw [hw5]; simp; omega
  have own5 := owns_below own4 k5
  have n5 := cell2_new w4 (.int .i64 r.left) (.slice ru r.right.length cu) 37 (n := p5 + 1) (by omega)
  rw [← hw5] at n5
  go_wp2_with (first | (rw [← hw5]; at_builtin; go_must (refine wpList_append_own_at _ rfl _ _ 22 rfl w2.heap.size 37 i0 (.agg #[.int .i64 0, .slice none 0 0]) 2 32 Try.underlying22 hi iz0 iz1 iz2 rfl (by decide) _ _ _ rfl own5 ⟨p5 + 1, 0, none⟩ 1 1 [.int .i64 r.left, .slice ru r.right.length cu] rfl rfl n5 (oneRule _ _ _ _) (by unfold maxLen; omega) (by omega) (by omega) ?_)))
  intro v6 w6 own6 grow6 _ hat6
  rw [← hw5] at grow6
  obtain ⟨a6, c6, rfl⟩ := owns_slice own6
  have hvb : ∀ k, (Value.slice av g.rules.length cv).ownBlock = some k → w2.heap.size ≤ k ∧ k < p5 := fun k hk => by have h1 := own3.lt k hk; have h2 := HP5.out; omega
  have ne5 : some p5 ≠ (Value.slice av g.rules.length cv).ownBlock := fun e => by have := hvb p5 e.symm; omega
  have hs5 := grow6.size
  have f0 := grow6.cell (bkeep k5 e0) ne5
  have f1 := grow6.cell (bkeep k5 e1) ne5
  have f2 := grow6.cell (bkeep k5 e2) ne5
  have f3 := grow6.cell (bkeep k5 e3) ne5
  have ff : ∀ i, w6.frozen? ⟨p5, i, none⟩ = false := fun i => by
    rw [World.frozen?_of_block (w := w5) (a := ⟨p5, i, none⟩) (grow6.block p5 (by omega) ne5), World.frozen?_of_block (w := w4) (a := ⟨p5, i, none⟩) (k5.block p5 (by omega))]; exact ef i
  have b6 : Below W.heap.size W w6 := (bthen k14 k5).grown grow6 (bthen k14 k5).size (fun j hj => by have h1 := (hvb j hj).1; have h2 := k12.size; omega)
  have hv6 : ∀ k, (Value.slice a6 (g.rules.length + 1) c6).ownBlock = some k → k ≠ p5 := fun k hk => by
    rcases hat6 with h | h
    · have := hvb k (h ▸ hk); omega
    · rw [h] at hk; cases hk; omega
  have rc6 : RC w6 (fun q => q ≠ p5) xs g.rules := rc3.kp ((Kp.of_below (bthen k4 k5)).grown grow6 (fun k hk => .inl (fun h => h.2 hk))) (fun q hq _ => by have := HP5.out; omega)
  have u6 : IsV w6 (fun q => q ≠ p5) (.slice ru r.right.length cu) r.right := hU.kp (Kp.of_below (bthen hWb b6)) (fun k hk _ => by have h1 := b2.size; omega)
  have rs6 : RsV w6 (fun q => q ≠ p5) (.slice a6 (g.rules.length + 1) c6) (g.rules ++ [r]) := RsV_owned (l := g.rules ++ [r]) (by simpa using own6) (rc6.snoc u6) (fun _ h => h) hv6 (by simp; omega)
  obtain ⟨Y, hY⟩ : ∃ Y, Y = w6.setCell ⟨p5, 3, none⟩ (.slice a6 (g.rules.length + 1) c6) := ⟨_, rfl⟩
  have rsY : RsV Y All (.slice a6 (g.rules.length + 1) c6) (g.rules ++ [r]) := rs6.mono (fun b o v hb hc => ⟨trivial, by rw [hY, World.cell?_of_block (w := w6) (a := ⟨b, o, none⟩) (Below.heap_setCell _ _ _ _ hb)]; exact hc⟩)
  have bY : Below W.heap.size W Y := by rw [hY]; exact b6.setCell (p := ⟨p5, 3, none⟩) (by have h1 := k12.size; show W.heap.size ≤ p5; omega) _
  have c0 : Y.cell? ⟨p5, 0, none⟩ = some (.int .i64 g.vars) := by rw [hY, World.cell?_setCell_other _ _ _ _ (by simp)]; exact f0
  have c1 : Y.cell? ⟨p5, 1, none⟩ = some (.int .i64 g.terms) := by rw [hY, World.cell?_setCell_other _ _ _ _ (by simp)]; exact f1
  have c2 : Y.cell? ⟨p5, 2, none⟩ = some (.int .i64 g.start) := by rw [hY, World.cell?_setCell_other _ _ _ _ (by simp)]; exact f2
  have c3 : Y.cell? ⟨p5, 3, none⟩ = some (.slice a6 (g.rules.length + 1) c6) := by rw [hY]; exact World.cell?_setCell_same _ _ _ f3
  have d0 := bkeep bY hW0
  have d1 := bkeep bY hW1
  have d2 := bkeep bY hW2
  have d3 := bkeep bY hW3
  have bwY := bthen hWb bY
  obtain ⟨h, hh⟩ : ∃ h : Gm, h = ⟨g.vars, g.terms, g.start, g.rules ++ [r]⟩ := ⟨_, rfl⟩
  have gh : ∀ w', Below Y.heap.size Y w' → GV w' All (.agg #[.int .i64 g.vars, .int .i64 g.terms, .int .i64 g.start, .slice a6 (g.rules.length + 1) c6]) h := fun w' hb => by rw [hh]; exact ⟨_, rfl, rsY.lw hb⟩
  have hsub : ∀ x ∈ g.rules, x ∈ h.rules := fun x hx => by rw [hh]; exact List.mem_append_left _ hx
  have hvh : h.vars = g.vars ∧ h.start = g.start := by rw [hh]; exact ⟨rfl, rfl⟩
  have HSUB := hd hsub
  have HVH := hd hvh
  have HU1 := hd hU
  clear hh hsub hvh e0 e1 e2 e3 ef own3 own4 own5 own6 rc3 rc6 u6 rs6 grow6 hat6 hv6 hvb ne5 n5 m0 m1 hU hr
  have x0 := d0
  have w6s : w6.cell? ⟨w.heap.size, 0, none⟩ = some (.int .i64 g.vars) := bkeep b6 hW0
  have w6t : w6.cell? ⟨w.heap.size, 1, none⟩ = some (.int .i64 g.terms) := bkeep b6 hW1
  have w6u : w6.cell? ⟨w.heap.size, 2, none⟩ = some (.int .i64 g.start) := bkeep b6 hW2
  have w6v : w6.cell? ⟨w.heap.size, 3, none⟩ = some (.slice ao g.rules.length cap) := bkeep b6 hW3
  have hne : w.heap.size ≠ p5 := by have h1 := k12.size; omega
  go_upto_region 7 with fail
  rw [← hY]
  clear hY w6s w6t w6u w6v f0 f1 f2 f3 ff hw5 x0
  go_wp2_with fail
  refine (check_any g _ Y (gg Y bwY)).mono ?_
  rintro e x1 ⟨rfl, kx1⟩
  by_cases hg0 : (gFl g).1 = 0
  case neg =>
    generalize (gFl g).1 = c at *
    have hcb : (c != 0) = true := by simpa using hg0
    clear hg0
    go_wp2_with fail
    go_ret
    exact ⟨rfl, bthen bwY kx1⟩
  obtain ⟨g00, V, hgV⟩ := rgt_of hg0
  have c0' := bkeep kx1 c0
  have c1' := bkeep kx1 c1
  have c2' := bkeep kx1 c2
  have c3' := bkeep kx1 c3
  rw [g00]
  go_wp2_with fail
  refine (check_any h _ x1 (gh x1 kx1)).mono ?_
  rintro e Z ⟨rfl, kx2⟩
  by_cases hh0 : (gFl h).1 = 0
  case neg =>
    generalize (gFl h).1 = c at *
    have hcb : (c != 0) = true := by simpa using hh0
    clear hh0
    go_wp2_with fail
    go_ret
    exact ⟨rfl, bthen bwY (bthen kx1 kx2)⟩
  obtain ⟨h00, V', hhV'⟩ := rgt_of hh0
  have hVV : V' = V := by have h1 := hgV.gv; have h2 := hhV'.gv; have h3 := HVH.out.1; omega
  subst hVV
  rw [h00]
  have kYZ := bthen kx1 kx2
  have bZ := bthen bwY kYZ
  have a0 := bkeep kYZ d0
  have a1 := bkeep kYZ d1
  have a2 := bkeep kYZ d2
  have a3 := bkeep kYZ d3
  have b0 := bkeep kYZ c0
  have b1' := bkeep kYZ c1
  have b2' := bkeep kYZ c2
  have b3 := bkeep kYZ c3
  have gG := fun w' (hb : Below Z.heap.size Z w') => gg w' (bthen bZ hb)
  have gH := fun w' (hb : Below Z.heap.size Z w') => gh w' (bthen kYZ hb)
  have NG := fun w' hb => lst_ok g00 (nullableF_any g _ w' (gG w' hb))
  have NH := fun w' hb => lst_ok h00 (nullableF_any h _ w' (gH w' hb))
  have PG := fun w' hb => lst_ok g00 (productiveF_any g _ w' (gG w' hb))
  have PH := fun w' hb => lst_ok h00 (productiveF_any h _ w' (gH w' hb))
  have RG := fun w' hb => lst_ok g00 (reachableF_any g _ w' (gG w' hb))
  have RH := fun w' hb => lst_ok h00 (reachableF_any h _ w' (gH w' hb))
  have CG := fun w' hb => lst_ok g00 (cyclicF_any g _ w' (gG w' hb))
  have CH := fun w' hb => lst_ok h00 (cyclicF_any h _ w' (gH w' hb))
  have KG := fun w' hb => cn_ok g00 hgV (corners_any g _ w' (gG w' hb))
  have KH := fun w' hb => cn_ok h00 hhV' (corners_any h _ w' (gH w' hb))
  clear gg gh gG gH hg0 hh0 g00 h00 d0 d1 d2 d3 c0 c1 c2 c3 c0' c1' c2' c3' rsY hW0 hW1 hW2 hW3 hR0 hR1 kx1 kx2
  have kz0 : Below Z.heap.size Z Z := Below.refl _ _
  go_wp2_with fail
  refine (NG Z kz0).mono ?_
  rintro e y0 ⟨v0, l0, rfl, i0, h0, kb0⟩
  have H0 := hd h0
  clear h0
  obtain ⟨ao0, cap0, rfl⟩ := i0.slice
  have ky0 := bthen kz0 kb0
  obtain ⟨z1, hz1⟩ : ∃ z1, z1 = y0.alloc (.cells #[.int .i64 0, .int .i64 0] 29) := ⟨_, rfl⟩
  have ka0 : Below y0.heap.size y0 z1 := by rw [hz1]; exact al1 _ _
  have kz1 := bthen ky0 ka0
  have i0 := i0.lw ka0
  have x0 := alcell (bkeep ky0 b0) (.cells #[.int .i64 0, .int .i64 0] 29)
  have x1 := alcell (bkeep ky0 b1') (.cells #[.int .i64 0, .int .i64 0] 29)
  have x2 := alcell (bkeep ky0 b2') (.cells #[.int .i64 0, .int .i64 0] 29)
  have x3 := alcell (bkeep ky0 b3) (.cells #[.int .i64 0, .int .i64 0] 29)
  go_wp2_with fail
  rw [← hz1]
  clear hz1 x0 x1 x2 x3
  refine (NH z1 kz1).mono ?_
  rintro e y1 ⟨v1, l1, rfl, i1, h1, kb1⟩
  have H1 := hd h1
  clear h1
  obtain ⟨ao1, cap1, rfl⟩ := i1.slice
  have ky1 := bthen kz1 kb1
  obtain ⟨z2, hz2⟩ : ∃ z2, z2 = y1.alloc (.cells #[.int .i64 0, .int .i64 0] 29) := ⟨_, rfl⟩
  have ka1 : Below y1.heap.size y1 z2 := by rw [hz2]; exact al1 _ _
  have kz2 := bthen ky1 ka1
  have i0 := i0.lw (bthen kb1 ka1)
  have i1 := i1.lw ka1
  have x0 := alcell (bkeep ky1 a0) (.cells #[.int .i64 0, .int .i64 0] 29)
  have x1 := alcell (bkeep ky1 a1) (.cells #[.int .i64 0, .int .i64 0] 29)
  have x2 := alcell (bkeep ky1 a2) (.cells #[.int .i64 0, .int .i64 0] 29)
  have x3 := alcell (bkeep ky1 a3) (.cells #[.int .i64 0, .int .i64 0] 29)
  go_wp2_with fail
  rw [← hz2]
  clear hz2 x0 x1 x2 x3
  refine (PG z2 kz2).mono ?_
  rintro e y2 ⟨v2, l2, rfl, i2, h2, kb2⟩
  have H2 := hd h2
  clear h2
  obtain ⟨ao2, cap2, rfl⟩ := i2.slice
  have ky2 := bthen kz2 kb2
  obtain ⟨z3, hz3⟩ : ∃ z3, z3 = y2.alloc (.cells #[.int .i64 0, .int .i64 0] 29) := ⟨_, rfl⟩
  have ka2 : Below y2.heap.size y2 z3 := by rw [hz3]; exact al1 _ _
  have kz3 := bthen ky2 ka2
  have i0 := i0.lw (bthen kb2 ka2)
  have i1 := i1.lw (bthen kb2 ka2)
  have i2 := i2.lw ka2
  have x0 := alcell (bkeep ky2 b0) (.cells #[.int .i64 0, .int .i64 0] 29)
  have x1 := alcell (bkeep ky2 b1') (.cells #[.int .i64 0, .int .i64 0] 29)
  have x2 := alcell (bkeep ky2 b2') (.cells #[.int .i64 0, .int .i64 0] 29)
  have x3 := alcell (bkeep ky2 b3) (.cells #[.int .i64 0, .int .i64 0] 29)
  go_wp2_with fail
  rw [← hz3]
  clear hz3 x0 x1 x2 x3
  refine (PH z3 kz3).mono ?_
  rintro e y3 ⟨v3, l3, rfl, i3, h3, kb3⟩
  have H3 := hd h3
  clear h3
  obtain ⟨ao3, cap3, rfl⟩ := i3.slice
  have ky3 := bthen kz3 kb3
  obtain ⟨z4, hz4⟩ : ∃ z4, z4 = y3.alloc (.cells #[.int .i64 0, .int .i64 0] 29) := ⟨_, rfl⟩
  have ka3 : Below y3.heap.size y3 z4 := by rw [hz4]; exact al1 _ _
  have kz4 := bthen ky3 ka3
  have i0 := i0.lw (bthen kb3 ka3)
  have i1 := i1.lw (bthen kb3 ka3)
  have i2 := i2.lw (bthen kb3 ka3)
  have i3 := i3.lw ka3
  have x0 := alcell (bkeep ky3 a0) (.cells #[.int .i64 0, .int .i64 0] 29)
  have x1 := alcell (bkeep ky3 a1) (.cells #[.int .i64 0, .int .i64 0] 29)
  have x2 := alcell (bkeep ky3 a2) (.cells #[.int .i64 0, .int .i64 0] 29)
  have x3 := alcell (bkeep ky3 a3) (.cells #[.int .i64 0, .int .i64 0] 29)
  go_wp2_with fail
  rw [← hz4]
  clear hz4 x0 x1 x2 x3
  refine (RG z4 kz4).mono ?_
  rintro e y4 ⟨v4, l4, rfl, i4, h4, kb4⟩
  have H4 := hd h4
  clear h4
  obtain ⟨ao4, cap4, rfl⟩ := i4.slice
  have ky4 := bthen kz4 kb4
  obtain ⟨z5, hz5⟩ : ∃ z5, z5 = y4.alloc (.cells #[.int .i64 0, .int .i64 0] 29) := ⟨_, rfl⟩
  have ka4 : Below y4.heap.size y4 z5 := by rw [hz5]; exact al1 _ _
  have kz5 := bthen ky4 ka4
  have i0 := i0.lw (bthen kb4 ka4)
  have i1 := i1.lw (bthen kb4 ka4)
  have i2 := i2.lw (bthen kb4 ka4)
  have i3 := i3.lw (bthen kb4 ka4)
  have i4 := i4.lw ka4
  have x0 := alcell (bkeep ky4 b0) (.cells #[.int .i64 0, .int .i64 0] 29)
  have x1 := alcell (bkeep ky4 b1') (.cells #[.int .i64 0, .int .i64 0] 29)
  have x2 := alcell (bkeep ky4 b2') (.cells #[.int .i64 0, .int .i64 0] 29)
  have x3 := alcell (bkeep ky4 b3) (.cells #[.int .i64 0, .int .i64 0] 29)
  go_wp2_with fail
  rw [← hz5]
  clear hz5 x0 x1 x2 x3
  refine (RH z5 kz5).mono ?_
  rintro e y5 ⟨v5, l5, rfl, i5, h5, kb5⟩
  have H5 := hd h5
  clear h5
  obtain ⟨ao5, cap5, rfl⟩ := i5.slice
  have ky5 := bthen kz5 kb5
  obtain ⟨z6, hz6⟩ : ∃ z6, z6 = y5.alloc (.cells #[.int .i64 0, .int .i64 0] 29) := ⟨_, rfl⟩
  have ka5 : Below y5.heap.size y5 z6 := by rw [hz6]; exact al1 _ _
  have kz6 := bthen ky5 ka5
  have i0 := i0.lw (bthen kb5 ka5)
  have i1 := i1.lw (bthen kb5 ka5)
  have i2 := i2.lw (bthen kb5 ka5)
  have i3 := i3.lw (bthen kb5 ka5)
  have i4 := i4.lw (bthen kb5 ka5)
  have i5 := i5.lw ka5
  have x0 := alcell (bkeep ky5 a0) (.cells #[.int .i64 0, .int .i64 0] 29)
  have x1 := alcell (bkeep ky5 a1) (.cells #[.int .i64 0, .int .i64 0] 29)
  have x2 := alcell (bkeep ky5 a2) (.cells #[.int .i64 0, .int .i64 0] 29)
  have x3 := alcell (bkeep ky5 a3) (.cells #[.int .i64 0, .int .i64 0] 29)
  go_wp2_with fail
  rw [← hz6]
  clear hz6 x0 x1 x2 x3
  refine (CG z6 kz6).mono ?_
  rintro e y6 ⟨v6, l6, rfl, i6, h6, kb6⟩
  have H6 := hd h6
  clear h6
  obtain ⟨ao6, cap6, rfl⟩ := i6.slice
  have ky6 := bthen kz6 kb6
  obtain ⟨z7, hz7⟩ : ∃ z7, z7 = y6.alloc (.cells #[.int .i64 0, .int .i64 0] 29) := ⟨_, rfl⟩
  have ka6 : Below y6.heap.size y6 z7 := by rw [hz7]; exact al1 _ _
  have kz7 := bthen ky6 ka6
  have i0 := i0.lw (bthen kb6 ka6)
  have i1 := i1.lw (bthen kb6 ka6)
  have i2 := i2.lw (bthen kb6 ka6)
  have i3 := i3.lw (bthen kb6 ka6)
  have i4 := i4.lw (bthen kb6 ka6)
  have i5 := i5.lw (bthen kb6 ka6)
  have i6 := i6.lw ka6
  have x0 := alcell (bkeep ky6 b0) (.cells #[.int .i64 0, .int .i64 0] 29)
  have x1 := alcell (bkeep ky6 b1') (.cells #[.int .i64 0, .int .i64 0] 29)
  have x2 := alcell (bkeep ky6 b2') (.cells #[.int .i64 0, .int .i64 0] 29)
  have x3 := alcell (bkeep ky6 b3) (.cells #[.int .i64 0, .int .i64 0] 29)
  go_wp2_with fail
  rw [← hz7]
  clear hz7 x0 x1 x2 x3
  refine (CH z7 kz7).mono ?_
  rintro e y7 ⟨v7, l7, rfl, i7, h7, kb7⟩
  have H7 := hd h7
  clear h7
  obtain ⟨ao7, cap7, rfl⟩ := i7.slice
  have ky7 := bthen kz7 kb7
  obtain ⟨z8, hz8⟩ : ∃ z8, z8 = y7.alloc (.cells #[.int .i64 0, .int .i64 0] 29) := ⟨_, rfl⟩
  have ka7 : Below y7.heap.size y7 z8 := by rw [hz8]; exact al1 _ _
  have kz8 := bthen ky7 ka7
  have i0 := i0.lw (bthen kb7 ka7)
  have i1 := i1.lw (bthen kb7 ka7)
  have i2 := i2.lw (bthen kb7 ka7)
  have i3 := i3.lw (bthen kb7 ka7)
  have i4 := i4.lw (bthen kb7 ka7)
  have i5 := i5.lw (bthen kb7 ka7)
  have i6 := i6.lw (bthen kb7 ka7)
  have i7 := i7.lw ka7
  have x0 := alcell (bkeep ky7 a0) (.cells #[.int .i64 0, .int .i64 0] 29)
  have x1 := alcell (bkeep ky7 a1) (.cells #[.int .i64 0, .int .i64 0] 29)
  have x2 := alcell (bkeep ky7 a2) (.cells #[.int .i64 0, .int .i64 0] 29)
  have x3 := alcell (bkeep ky7 a3) (.cells #[.int .i64 0, .int .i64 0] 29)
  go_wp2_with fail
  rw [← hz8]
  clear hz8 x0 x1 x2 x3
  refine (KG z8 kz8).mono ?_
  rintro e y8 ⟨v8, L8, rfl, i8, h8, g8, kb8⟩
  have G8 := hd g8
  have HL8 := hd h8
  clear g8 h8
  obtain ⟨ao8, cap8, rfl⟩ := i8.slice
  have ky8 := bthen kz8 kb8
  obtain ⟨z9, hz9⟩ : ∃ z9, z9 = y8.alloc (.cells #[.int .i64 0, .int .i64 0] 29) := ⟨_, rfl⟩
  have ka8 : Below y8.heap.size y8 z9 := by rw [hz9]; exact al1 _ _
  have kz9 := bthen ky8 ka8
  have i0 := i0.lw (bthen kb8 ka8)
  have i1 := i1.lw (bthen kb8 ka8)
  have i2 := i2.lw (bthen kb8 ka8)
  have i3 := i3.lw (bthen kb8 ka8)
  have i4 := i4.lw (bthen kb8 ka8)
  have i5 := i5.lw (bthen kb8 ka8)
  have i6 := i6.lw (bthen kb8 ka8)
  have i7 := i7.lw (bthen kb8 ka8)
  have i8 := i8.lw ka8
  have x0 := alcell (bkeep ky8 b0) (.cells #[.int .i64 0, .int .i64 0] 29)
  have x1 := alcell (bkeep ky8 b1') (.cells #[.int .i64 0, .int .i64 0] 29)
  have x2 := alcell (bkeep ky8 b2') (.cells #[.int .i64 0, .int .i64 0] 29)
  have x3 := alcell (bkeep ky8 b3) (.cells #[.int .i64 0, .int .i64 0] 29)
  go_wp2_with fail
  rw [← hz9]
  clear hz9 x0 x1 x2 x3
  refine (KH z9 kz9).mono ?_
  rintro e y9 ⟨v9, L9, rfl, i9, h9, g9, kb9⟩
  have G9 := hd g9
  have HL9 := hd h9
  clear g9 h9
  obtain ⟨ao9, cap9, rfl⟩ := i9.slice
  have ky9 := bthen kz9 kb9
  obtain ⟨z10, hz10⟩ : ∃ z10, z10 = y9.alloc (.cells #[.int .i64 0, .int .i64 0] 29) := ⟨_, rfl⟩
  have ka9 : Below y9.heap.size y9 z10 := by rw [hz10]; exact al1 _ _
  have kz10 := bthen ky9 ka9
  have i0 := i0.lw (bthen kb9 ka9)
  have i1 := i1.lw (bthen kb9 ka9)
  have i2 := i2.lw (bthen kb9 ka9)
  have i3 := i3.lw (bthen kb9 ka9)
  have i4 := i4.lw (bthen kb9 ka9)
  have i5 := i5.lw (bthen kb9 ka9)
  have i6 := i6.lw (bthen kb9 ka9)
  have i7 := i7.lw (bthen kb9 ka9)
  have i8 := i8.lw (bthen kb9 ka9)
  have i9 := i9.lw ka9
  clear NG NH PG PH RG RH CG CH KG KH
  have kk : Below w.heap.size w z10 := bthen bZ kz10
  have M1 := lwithin_any l0 l1 _ _ z10 i0 i1 (fun x hx => (H1.out x).2 (((H0.out x).1 hx).mono HSUB.out))
  have M2 := lwithin_any l2 l3 _ _ z10 i2 i3 (fun x hx => (H3.out x).2 (((H2.out x).1 hx).mono HSUB.out))
  have M3 := lwithin_any l4 l5 _ _ z10 i4 i5 (fun x hx => (H5.out x).2 (by have h1 := ((H4.out x).1 hx).mono HSUB.out; rw [HVH.out.2]; exact h1))
  have M4 := lwithin_any l6 l7 _ _ z10 i6 i7 (fun x hx => (H7.out x).2 (((H6.out x).1 hx).mono (fun v hv => hv.mono HSUB.out) HSUB.out))
  have hb8 : ((L8.length : Int) == (L9.length : Int)) = true := by rw [HL8.out, HL9.out]; simp
  have hl8 : L8.length ≤ 64 := by rw [HL8.out]; exact hgV.vr.1
  clear i0 i1 i2 i3 i4 i5 i6 i7 H0 H1 H2 H3 H4 H5 H6 H7
  go_wp2_with fail
  rw [← hz10]
  clear hz10
  refine M1.mono ?_
  rintro e wx ⟨rfl, hwx⟩
  obtain rfl := hwx.symm
  go_wp2_with fail
  refine M2.mono ?_
  rintro e wx ⟨rfl, hwx⟩
  obtain rfl := hwx.symm
  go_wp2_with fail
  refine M3.mono ?_
  rintro e wx ⟨rfl, hwx⟩
  obtain rfl := hwx.symm
  go_wp2_with fail
  refine M4.mono ?_
  rintro e wx ⟨rfl, hwx⟩
  obtain rfl := hwx.symm
  go_wp2_with fail
  go_loopw [26, 27] (fun ok i wr => ∃ k : Nat, k ≤ L8.length ∧ ok = .bool true ∧ i = .int .i64 k ∧ Below z10.heap.size z10 wr) (fun _ i _ => L8.length - (intOf i).toNat)
  case atStart => exact ⟨0, Nat.zero_le _, rfl, rfl, Below.refl _ _⟩
  case round =>
    obtain ⟨k, hk, rfl, rfl, hb⟩ := hrel
    by_cases hlt : k < L8.length
    · have hlt' : k < L9.length := by have h1 := HL8.out; have h2 := HL9.out; omega
      obtain ⟨b, o, rfl, ar, cr, c1, hc⟩ := (i8.lw hb).at_ hlt
      obtain ⟨b', o', rfl, ar', cr', d1, hc'⟩ := (i9.lw hb).at_ hlt'
      have WI := fun z : Wd wr => lwithin_any L8[k] L9[k] (.slice ar L8[k].length cr) (.slice ar' L9[k].length cr') z.u (hc.lw z.h) (hc'.lw z.h) (fun x hx => (G9.out k hlt' x).2 (((G8.out k hlt x).1 hx).mono (fun v hv => hv.mono HSUB.out) HSUB.out))
      have WJ : ∀ z : Wd wr, Calls Try.prog 49 #[.slice ar L8[k].length cr, .slice ar' L9[k].length cr'] z.u fun e w' => e = .returned (.bool true) ∧ Below z.u.heap.size z.u w' := fun z => (WI z).mono (fun e w' h => ⟨h.1, by rw [h.2]; exact Below.refl _ _⟩)
      have e1 := fun z : Wd wr => z.cell c1
      have f1 := fun z : Wd wr => z.cell d1
      have wne : Nonempty (Wd wr) := Wd.ne _
      have hlt2 : (k : Int) < (L8.length : Int) := by omega
      have hlt3 : (k : Int) < (L9.length : Int) := by omega
      clear c1 d1 hc hc' WI
      generalize L8[k].length = n8 at *
      generalize L9[k].length = n9 at *
      go_wp2_with fail
      refine region_quiet_lit (C := fun w' => ∃ z : Wd wr, w' = z.u) (by kernel_rfl) (by kernel_rfl) (Wd.drawn _) ?_
      iterate 8 (go_big_quiet_step (fail))
      go_big_quiet_step (exact calls_wd (WJ _))
      go_big_quiet_step (fail)
      refine wpQuiet_nil ?_
      intro _ hw'
      obtain ⟨z, hw''⟩ := hw'
      subst hw''
      have bz := bthen hb z.h
      go_wp2_with fail
      go_roundw
      case rel => exact ⟨k + 1, by omega, rfl, by go_num, bz⟩
      case measure => simp [intOf]; omega
    · go_wp2_with fail
      go_ret
      exact ⟨rfl, bthen kk hb⟩
set_option maxRecDepth 100000 in
theorem open_rule_arg {H : Type} {enc : TypeId × Value → H} {w : World} {base : Nat} {spare : Nat → Bool} {held : Bool} {v : Value} {d : DataW H} {ps : List MemPlace} {b2 : Nat} (hv : Value.okWide Try.prog w .any b2 37 v) (h : DataW.Trod enc Try.prog w base spare held 37 v d ps) : ∃ (y : Ru) (u : Value), v = .agg #[.int .i64 y.left, u] ∧ IsV w All u y.right := by
  obtain ⟨vs, rfl, hvs⟩ := okWide_struct Try.underlying37 hv
  obtain ⟨fuel, h⟩ := h
  obtain ⟨y, u, e, hu⟩ := open_rule h
  refine ⟨y, u, ?_, hu⟩
  obtain ⟨l⟩ := vs
  have e' : l = [.int .i64 y.left, u] := e
  rw [e']
set_option maxRecDepth 100000 in
theorem lifted (os : Os) (started : os.Started) (H : Type) (enc : TypeId × Value → H) :
    ReturnsInHanded {} Try.checked os 8 .any (Rows.factsMoreSpec.pre6 enc Try.prog Try.f8 Rows.factsMoreRow.domain false) (Rows.factsMoreSpec.post enc Try.prog Try.f8 false true false false) := by
  refine returnsInHanded_of_change (C := Try.checked) own started (by kernel_rfl) Try.func8
    (ChangeSpec.witness6 (enc := enc) (C := Try.checked) false ⟨#[], #[.agg #[.int .i64 0, .int .i64 0, .int .i64 0, .slice none 0 0], .agg #[.int .i64 0, .slice none 0 0]], []⟩ 8 (by kernel_rfl) (by kernel_rfl) (by kernel_rfl) (by kernel_rfl)) ?_
  intro W base args ds gs before hval0 hW hcnd _
  have hval : ∀ (j : Nat) t v, Try.f8.params[j]? = some t → args[j]? = some v → Value.okWide Try.prog W .any base t v := hval0
  have hW' := hW
  obtain ⟨p, q, hA0, hV, rfl, hfz, hnd⟩ := hW
  have hA : DataW.TrodAll enc Try.prog W 0 (fun _ => true) true Try.f8.params.toList args.toList ds p := hA0
  rw [Try.params8] at hA hval
  obtain ⟨v0, vs0, d0, ds0, p0, q0, hargs, rfl, rfl, h0, r0⟩ := trodAll_cons hA
  obtain ⟨v1, vs1, d1, ds1, p1, q1, rfl, rfl, rfl, h1, r1⟩ := trodAll_cons r0
  obtain ⟨rfl, rfl, rfl⟩ := trodAll_nil r1
  obtain rfl : args = #[v0, v1] := by cases args; simp_all
  obtain ⟨rfl, rfl⟩ := trodVars_none hV
  have k0 := h0
  have k1 := h1
  have lt0 : ∀ x ∈ p0, x.block < W.heap.size := by obtain ⟨m, hm⟩ := k0; exact DataW.trod_lt m _ _ _ hm
  have lt1 : ∀ x ∈ p1, x.block < W.heap.size := by obtain ⟨m, hm⟩ := k1; exact DataW.trod_lt m _ _ _ hm
  obtain ⟨g, hg⟩ := open_gram (hval 0 24 v0 rfl rfl) h0
  obtain ⟨y, u, rfl, hu⟩ := open_rule_arg (hval 1 37 v1 rfl rfl) h1
  clear hA0 hval0
  refine (walk g y v0 u W hg hu).mono fun e W' ⟨he, bel⟩ => ?_
  subst he
  exact ⟨_, rfl, _, _, _, [], _, [], hW', trodAll_mk1 (shut_bool Try.underlying4 _), (trodAll_cons_mk (Below.trod laidOut (by kernel_rfl) (of_decide_eq_true (by kernel_rfl)) k0 bel lt0) (trodAll_cons_mk (Below.trod laidOut (by kernel_rfl) (of_decide_eq_true (by kernel_rfl)) k1 bel lt1) trodAll_mk0)), rfl, bel.frame _, fun h => by cases h⟩

theorem stands : Rows.factsMoreRow.holds Try.pinned (OpenSpec.ofChange Rows.factsMoreSpec) :=
  OpenClaim.holds_of_wide 8 Try.f8 rfl rfl rfl rfl rfl rfl rfl ⟨rfl, rfl, rfl, rfl, rfl⟩ rfl rfl rfl rfl rfl (by kernel_rfl) Try.func8 (by kernel_rfl)
    (of_decide_eq_true (by kernel_rfl)) (by unfold Func.isWrapper; first | (rw [if_pos (by decide +kernel)]; kernel_rfl) | (rw [if_neg (by decide +kernel)]; exact ⟨rfl, rfl⟩))
    (fun os started H enc _ => lifted os started H enc)

theorem proved : Rows.FactsMoreSaid := stands
#print axioms proved
end Go.Proofs.Ytbhpbleenfegjac.factsMore
