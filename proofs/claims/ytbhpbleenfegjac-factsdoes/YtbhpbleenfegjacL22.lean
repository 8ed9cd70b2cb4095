/- Proved: for every grammar FactsDoes returns true (Nullable, Productive, Reachable, Cyclic and Corners answer as the document's own functions do, and what they were handed stays), and what came in reads as before. No condition. -/
import Derived.Test.YtbhpbleenfegjacL18
import Derived.Test.YtbhpbleenfegjacL20
import Derived.Test.YtbhpbleenfegjacL21
import Derived.Test.YtbhpbleenfegjacRows
import Derived.Deep.CutRange
import Derived.ProofKit
import Derived.OpenShut
import Derived.ShutString
import Derived.ChangeOld
namespace Go.Proofs.Ytbhpbleenfegjac.factsDoes
open Go.Proofs.Ytbhpbleenfegjac Go.Proofs.Ytbhpbleenfegjac.G
open Go.ChangeShapes Go.WideShapes Go.ChangeAt Go.RowKit

theorem own : ownKnob Try.prog.godebug = none := by kernel_rfl
theorem laidOut : laidOutB Try.prog = true := by kernel_rfl
theorem upto_of {r : BitVec 64} {p : Int → Prop} {V : Nat} (h64 : V ≤ 64) (h : ∀ v, hasB r v = true ↔ p v) (hp : ∀ v, p v → 0 ≤ v ∧ v < (V : Int)) : listB r = upto V fun k => pB (p k) := by
  unfold listB
  refine upto_cut h64 (fun v hv => pB_of (h v)) fun v h1 h2 => ?_
  cases e : hasB r v with
  | true => have := hp _ ((h v).1 e); omega
  | false => rfl
theorem list_eq {is : List Bool} {p : Int → Prop} {V : Nat} (hl : is.length = V) (h : ∀ x, isAt is x = true ↔ p x) : (upto is.length fun k => is.getD k false) = upto V fun k => pB (p k) := by
  rw [hl]
  exact upto_congr fun x _ => pB_of (by rw [← isAt_nat]; exact h x)
/-- A list, as the document tells it. -/
theorem lst_any {f : Nat} {g : Gm} {p : Int → Prop} {va : Value} {w : World} (hp : ∀ V, Rgt g V → ∀ v, p v → 0 ≤ v ∧ v < (V : Int)) (h : Calls Try.prog f #[va] w fun e w' => LstR w w' g p e) :
    Calls Try.prog f #[va] w fun e w' => ∃ v l, e = .returned (.tuple #[v, .agg #[.int .i64 (gFl g).1, .int .i64 (gFl g).2]]) ∧ IsV w' All v l ∧ l.length ≤ 64 ∧ (((gFl g).1 ≠ 0 → l = []) ∧ ((gFl g).1 = 0 → ∀ V, Rgt g V → l = upto V fun k => pB (p k))) ∧ Below w.heap.size w w' := by
  refine h.mono ?_
  rintro e w' ⟨v, l, rfl, own, hl, h1, h2, hb⟩
  refine ⟨v, l, rfl, IsV_owned own (by omega) (fun _ _ => trivial), hl, ⟨h1, fun h0 V hV => ?_⟩, hb⟩
  obtain ⟨r, rfl, hr⟩ := h2 h0
  exact upto_of hV.vr.1 hr (hp V hV)
theorem cn_any {g : Gm} {va : Value} {w : World} (h : Calls Try.prog 39 #[va] w fun e w' => CnR w w' g e) :
    Calls Try.prog 39 #[va] w fun e w' => ∃ v L, e = .returned (.tuple #[v, .agg #[.int .i64 (gFl g).1, .int .i64 (gFl g).2]]) ∧ LsV w' v L ∧ (((gFl g).1 ≠ 0 → L = []) ∧ ((gFl g).1 = 0 → ∀ V, Rgt g V → L.length = V ∧ ∀ k (h : k < L.length), L[k] = upto V fun x => pB (Led true (Gen false g.rules) g.rules k x))) ∧ Below w.heap.size w w' := by
  refine h.mono ?_
  rintro e w' ⟨v, L, rfl, hL, h1, h2, hb⟩
  refine ⟨v, L, rfl, hL, ⟨h1, fun h0 V hV => ?_⟩, hb⟩
  obtain ⟨h3, h4⟩ := h2 h0 V hV
  refine ⟨h3, fun k hk => ?_⟩
  obtain ⟨r, e, hr⟩ := h4 k hk
  rw [e]
  exact upto_of (p := fun x => Led true (Gen false g.rules) g.rules k x) hV.vr.1 hr (fun x hx => hV.vr.led hx)
set_option maxRecDepth 100000 in
set_option maxHeartbeats 16000000 in
theorem walk (g : Gm) (va : Value) (w : World) (hA : GV w All va g) :
    Calls Try.prog 6 #[va] w fun e w' => e = .returned (.bool true) ∧ Below w.heap.size w w' := by
  obtain ⟨u, rfl, hr⟩ := hA
  obtain ⟨ao, cap, rfl⟩ := hr.slice
  have hl := hr.1
  obtain ⟨W, hW⟩ : ∃ W, W = w.alloc (.cells #[.int .i64 g.vars, .int .i64 g.terms, .int .i64 g.start, .slice ao g.rules.length cap] 24) := ⟨_, rfl⟩
  have hWb : Below w.heap.size w W := by rw [hW]; exact al1 _ _
  have hWz : W.heap.size = w.heap.size + 1 := by rw [hW]; simp
  have hW0 : W.cell? ⟨w.heap.size, 0, none⟩ = some (.int .i64 g.vars) := by rw [hW]; simp
  have hW1 : W.cell? ⟨w.heap.size, 1, none⟩ = some (.int .i64 g.terms) := by rw [hW]; simp
  have hW2 : W.cell? ⟨w.heap.size, 2, none⟩ = some (.int .i64 g.start) := by rw [hW]; simp
  have hW3 : W.cell? ⟨w.heap.size, 3, none⟩ = some (.slice ao g.rules.length cap) := by rw [hW]; simp
  have gg : ∀ w', Below w.heap.size w w' → GV w' All (.agg #[.int .i64 g.vars, .int .i64 g.terms, .int .i64 g.start, .slice ao g.rules.length cap]) g := fun w' h => ⟨_, rfl, hr.lw h⟩
  go_enter Try.func6, Try.ntmps6
  go_wp2_with fail
  rw [← hW]
  clear hW
  refine (factsBegun_any W).mono ?_
  rintro e w1 ⟨rfl, k1⟩
  have b1 := bthen hWb k1
  have s0 := bkeep k1 hW0
  have s1 := bkeep k1 hW1
  have s2 := bkeep k1 hW2
  have s3 := bkeep k1 hW3
  go_wp2_with fail
  refine (great_any g _ w1 (gg w1 b1)).mono ?_
  rintro e w2 ⟨q, rfl, hq, k2⟩
  have k12 := bthen k1 k2
  have b2 := bthen b1 k2
  have HQ := hd hq
  clear hq s0 s1 s2 s3
  cases q with
  | true =>
    go_wp2_with fail
    go_ret
    exact ⟨rfl, b2⟩
  | false =>
  have hsm := HQ.out rfl
  have s0 := bkeep k12 hW0
  have s1 := bkeep k12 hW1
  have s2 := bkeep k12 hW2
  have s3 := bkeep k12 hW3
  go_wp2_with fail
  refine (ownGram_any g _ w2 (gg w2 b2) hsm).mono ?_
  rintro e w3 ⟨vo, rfl, hvo, k3⟩
  obtain ⟨ur, rfl, hro⟩ := hvo
  obtain ⟨av, cv, rfl⟩ := hro.slice
  clear s0 s1 s2 s3
  have k13 := bthen k12 k3
  obtain ⟨Z, hZ⟩ : ∃ Z, Z = w3.alloc (.cells #[.int .i64 g.vars, .int .i64 g.terms, .int .i64 g.start, .slice av g.rules.length cv] 24) := ⟨_, rfl⟩
  have k4 : Below w3.heap.size w3 Z := by rw [hZ]; exact al1 _ _
  have kWZ := bthen k13 k4
  have bZ := bthen hWb kWZ
  have b0 : Z.cell? ⟨w3.heap.size, 0, none⟩ = some (.int .i64 g.vars) := by rw [hZ]; simp
  have b1' : Z.cell? ⟨w3.heap.size, 1, none⟩ = some (.int .i64 g.terms) := by rw [hZ]; simp
  have b2' : Z.cell? ⟨w3.heap.size, 2, none⟩ = some (.int .i64 g.start) := by rw [hZ]; simp
  have b3 : Z.cell? ⟨w3.heap.size, 3, none⟩ = some (.slice av g.rules.length cv) := by rw [hZ]; simp
  have a0 := bkeep kWZ hW0
  have a1 := bkeep kWZ hW1
  have a2 := bkeep kWZ hW2
  have a3 := bkeep kWZ hW3
  have gO : ∀ w', Below Z.heap.size Z w' → GV w' All (.agg #[.int .i64 g.vars, .int .i64 g.terms, .int .i64 g.start, .slice av g.rules.length cv]) g := fun w' h => ⟨_, rfl, (hro.lw (bthen k4 h)).all⟩
  have gG : ∀ w', Below Z.heap.size Z w' → GV w' All (.agg #[.int .i64 g.vars, .int .i64 g.terms, .int .i64 g.start, .slice ao g.rules.length cap]) g := fun w' h => gg w' (bthen bZ h)
  have C0 := fun w' hb => lst_any (fun V hV v hv => hV.vr.gen hv) (nullableF_any g _ w' (gO w' hb))
  have C1 := fun w' hb => lst_any (fun V hV v hv => hV.vr.gen hv) (productiveF_any g _ w' (gO w' hb))
  have C2 := fun w' hb => lst_any (fun V hV v hv => hV.vr.rch hV.st hv) (reachableF_any g _ w' (gO w' hb))
  have C3 := fun w' hb => lst_any (fun V hV v hv => hV.vr.led hv) (cyclicF_any g _ w' (gO w' hb))
  have C4 := fun w' hb => cn_any (corners_any g _ w' (gO w' hb))
  have FA := fun w' hb => gramFault_any g _ w' (gG w' hb)
  have SG := fun w' hb => sameGram_any g g _ _ w' (gO w' hb) (gG w' hb)
  rw [show decide (g = g) = true by simp] at SG
  have HRG : Hid ((gFl g).1 = 0 → ∃ V, Rgt g V) := hd (fun h => (rgt_of h).2)
  clear gO hro hW0 hW1 hW2 hW3 k1 k2 hsm HQ k12 gg
  generalize (gFl g).1 = c at *
  generalize (gFl g).2 = a at *
  go_wp2_with fail
  rw [← hZ]
  clear hZ
  have kz0 : Below Z.heap.size Z Z := Below.refl _ _
  refine (C0 Z kz0).mono ?_
  rintro e y0 ⟨v0, l0, rfl, i0, n0, h0, kb0⟩
  have H0 := hd h0
  clear h0
  obtain ⟨ao0, cap0, rfl⟩ := i0.slice
  have ky0 := bthen kz0 kb0
  obtain ⟨z1, hz1⟩ : ∃ z1, z1 = y0.alloc (.cells #[.int .i64 c, .int .i64 a] 29) := ⟨_, rfl⟩
  have ka0 : Below y0.heap.size y0 z1 := by rw [hz1]; exact al1 _ _
  have kz1 := bthen ky0 ka0
  have i0 := i0.lw ka0
  have e00 : z1.cell? ⟨y0.heap.size, 0, none⟩ = some (.int .i64 c) := by rw [hz1]; simp
  have e01 : z1.cell? ⟨y0.heap.size, 1, none⟩ = some (.int .i64 a) := by rw [hz1]; simp
  have x0 := alcell (bkeep ky0 b0) (.cells #[.int .i64 c, .int .i64 a] 29)
  have x1 := alcell (bkeep ky0 b1') (.cells #[.int .i64 c, .int .i64 a] 29)
  have x2 := alcell (bkeep ky0 b2') (.cells #[.int .i64 c, .int .i64 a] 29)
  have x3 := alcell (bkeep ky0 b3) (.cells #[.int .i64 c, .int .i64 a] 29)
  go_wp2_with fail
  rw [← hz1]
  clear hz1 x0 x1 x2 x3
  refine (C1 z1 kz1).mono ?_
  rintro e y1 ⟨v1, l1, rfl, i1, n1, h1, kb1⟩
  have H1 := hd h1
  clear h1
  obtain ⟨ao1, cap1, rfl⟩ := i1.slice
  have ky1 := bthen kz1 kb1
  obtain ⟨z2, hz2⟩ : ∃ z2, z2 = y1.alloc (.cells #[.int .i64 c, .int .i64 a] 29) := ⟨_, rfl⟩
  have ka1 : Below y1.heap.size y1 z2 := by rw [hz2]; exact al1 _ _
  have kz2 := bthen ky1 ka1
  have i0 := i0.lw (bthen kb1 ka1)
  have e00 := bkeep (bthen kb1 ka1) e00
  have e01 := bkeep (bthen kb1 ka1) e01
  have i1 := i1.lw ka1
  have e10 : z2.cell? ⟨y1.heap.size, 0, none⟩ = some (.int .i64 c) := by rw [hz2]; simp
  have e11 : z2.cell? ⟨y1.heap.size, 1, none⟩ = some (.int .i64 a) := by rw [hz2]; simp
  have x0 := alcell (bkeep ky1 b0) (.cells #[.int .i64 c, .int .i64 a] 29)
  have x1 := alcell (bkeep ky1 b1') (.cells #[.int .i64 c, .int .i64 a] 29)
  have x2 := alcell (bkeep ky1 b2') (.cells #[.int .i64 c, .int .i64 a] 29)
  have x3 := alcell (bkeep ky1 b3) (.cells #[.int .i64 c, .int .i64 a] 29)
  go_wp2_with fail
  rw [← hz2]
  clear hz2 x0 x1 x2 x3
  refine (C2 z2 kz2).mono ?_
  rintro e y2 ⟨v2, l2, rfl, i2, n2, h2, kb2⟩
  have H2 := hd h2
  clear h2
  obtain ⟨ao2, cap2, rfl⟩ := i2.slice
  have ky2 := bthen kz2 kb2
  obtain ⟨z3, hz3⟩ : ∃ z3, z3 = y2.alloc (.cells #[.int .i64 c, .int .i64 a] 29) := ⟨_, rfl⟩
  have ka2 : Below y2.heap.size y2 z3 := by rw [hz3]; exact al1 _ _
  have kz3 := bthen ky2 ka2
  have i0 := i0.lw (bthen kb2 ka2)
  have e00 := bkeep (bthen kb2 ka2) e00
  have e01 := bkeep (bthen kb2 ka2) e01
  have i1 := i1.lw (bthen kb2 ka2)
  have e10 := bkeep (bthen kb2 ka2) e10
  have e11 := bkeep (bthen kb2 ka2) e11
  have i2 := i2.lw ka2
  have e20 : z3.cell? ⟨y2.heap.size, 0, none⟩ = some (.int .i64 c) := by rw [hz3]; simp
  have e21 : z3.cell? ⟨y2.heap.size, 1, none⟩ = some (.int .i64 a) := by rw [hz3]; simp
  have x0 := alcell (bkeep ky2 b0) (.cells #[.int .i64 c, .int .i64 a] 29)
  have x1 := alcell (bkeep ky2 b1') (.cells #[.int .i64 c, .int .i64 a] 29)
  have x2 := alcell (bkeep ky2 b2') (.cells #[.int .i64 c, .int .i64 a] 29)
  have x3 := alcell (bkeep ky2 b3) (.cells #[.int .i64 c, .int .i64 a] 29)
  go_wp2_with fail
  rw [← hz3]
  clear hz3 x0 x1 x2 x3
  refine (C3 z3 kz3).mono ?_
  rintro e y3 ⟨v3, l3, rfl, i3, n3, h3, kb3⟩
  have H3 := hd h3
  clear h3
  obtain ⟨ao3, cap3, rfl⟩ := i3.slice
  have ky3 := bthen kz3 kb3
  obtain ⟨z4, hz4⟩ : ∃ z4, z4 = y3.alloc (.cells #[.int .i64 c, .int .i64 a] 29) := ⟨_, rfl⟩
  have ka3 : Below y3.heap.size y3 z4 := by rw [hz4]; exact al1 _ _
  have kz4 := bthen ky3 ka3
  have i0 := i0.lw (bthen kb3 ka3)
  have e00 := bkeep (bthen kb3 ka3) e00
  have e01 := bkeep (bthen kb3 ka3) e01
  have i1 := i1.lw (bthen kb3 ka3)
  have e10 := bkeep (bthen kb3 ka3) e10
  have e11 := bkeep (bthen kb3 ka3) e11
  have i2 := i2.lw (bthen kb3 ka3)
  have e20 := bkeep (bthen kb3 ka3) e20
  have e21 := bkeep (bthen kb3 ka3) e21
  have i3 := i3.lw ka3
  have e30 : z4.cell? ⟨y3.heap.size, 0, none⟩ = some (.int .i64 c) := by rw [hz4]; simp
  have e31 : z4.cell? ⟨y3.heap.size, 1, none⟩ = some (.int .i64 a) := by rw [hz4]; simp
  have x0 := alcell (bkeep ky3 b0) (.cells #[.int .i64 c, .int .i64 a] 29)
  have x1 := alcell (bkeep ky3 b1') (.cells #[.int .i64 c, .int .i64 a] 29)
  have x2 := alcell (bkeep ky3 b2') (.cells #[.int .i64 c, .int .i64 a] 29)
  have x3 := alcell (bkeep ky3 b3) (.cells #[.int .i64 c, .int .i64 a] 29)
  go_wp2_with fail
  rw [← hz4]
  clear hz4 x0 x1 x2 x3
  refine (C4 z4 kz4).mono ?_
  rintro e y4 ⟨v4, l4, rfl, i4, h4, kb4⟩
  have H4 := hd h4
  clear h4
  obtain ⟨ao4, cap4, rfl⟩ := i4.slice
  have ky4 := bthen kz4 kb4
  obtain ⟨z5, hz5⟩ : ∃ z5, z5 = y4.alloc (.cells #[.int .i64 c, .int .i64 a] 29) := ⟨_, rfl⟩
  have ka4 : Below y4.heap.size y4 z5 := by rw [hz5]; exact al1 _ _
  have kz5 := bthen ky4 ka4
  have i0 := i0.lw (bthen kb4 ka4)
  have e00 := bkeep (bthen kb4 ka4) e00
  have e01 := bkeep (bthen kb4 ka4) e01
  have i1 := i1.lw (bthen kb4 ka4)
  have e10 := bkeep (bthen kb4 ka4) e10
  have e11 := bkeep (bthen kb4 ka4) e11
  have i2 := i2.lw (bthen kb4 ka4)
  have e20 := bkeep (bthen kb4 ka4) e20
  have e21 := bkeep (bthen kb4 ka4) e21
  have i3 := i3.lw (bthen kb4 ka4)
  have e30 := bkeep (bthen kb4 ka4) e30
  have e31 := bkeep (bthen kb4 ka4) e31
  have i4 := i4.lw ka4
  have e40 : z5.cell? ⟨y4.heap.size, 0, none⟩ = some (.int .i64 c) := by rw [hz5]; simp
  have e41 : z5.cell? ⟨y4.heap.size, 1, none⟩ = some (.int .i64 a) := by rw [hz5]; simp
  have x0 := alcell (bkeep ky4 a0) (.cells #[.int .i64 c, .int .i64 a] 29)
  have x1 := alcell (bkeep ky4 a1) (.cells #[.int .i64 c, .int .i64 a] 29)
  have x2 := alcell (bkeep ky4 a2) (.cells #[.int .i64 c, .int .i64 a] 29)
  have x3 := alcell (bkeep ky4 a3) (.cells #[.int .i64 c, .int .i64 a] 29)
  clear C0 C1 C2 C3 C4
  go_wp2_with fail
  rw [← hz5]
  clear hz5 x0 x1 x2 x3
  refine (FA z5 kz5).mono ?_
  rintro e y5 ⟨rfl, kb5⟩
  have ky5 := bthen kz5 kb5
  obtain ⟨z6, hz6⟩ : ∃ z6, z6 = y5.alloc (.cells #[.int .i64 c, .int .i64 a] 29) := ⟨_, rfl⟩
  have ka5 : Below y5.heap.size y5 z6 := by rw [hz6]; exact al1 _ _
  have kz6 := bthen ky5 ka5
  have k56 := bthen kb5 ka5
  have e50 : z6.cell? ⟨y5.heap.size, 0, none⟩ = some (.int .i64 c) := by rw [hz6]; simp
  have e51 : z6.cell? ⟨y5.heap.size, 1, none⟩ = some (.int .i64 a) := by rw [hz6]; simp
  have i0 := i0.lw k56
  have e00 := bkeep k56 e00
  have e01 := bkeep k56 e01
  have i1 := i1.lw k56
  have e10 := bkeep k56 e10
  have e11 := bkeep k56 e11
  have i2 := i2.lw k56
  have e20 := bkeep k56 e20
  have e21 := bkeep k56 e21
  have i3 := i3.lw k56
  have e30 := bkeep k56 e30
  have e31 := bkeep k56 e31
  have i4 := i4.lw k56
  have e40 := bkeep k56 e40
  have e41 := bkeep k56 e41
  have p0 := bkeep kz6 b0
  have p1 := bkeep kz6 b1'
  have p2 := bkeep kz6 b2'
  have p3 := bkeep kz6 b3
  have r0 := bkeep kz6 a0
  have r1 := bkeep kz6 a1
  have r2 := bkeep kz6 a2
  have r3 := bkeep kz6 a3
  go_upto_region 12 with fail
  rw [← hz6]
  clear hz6
  go_wp2_with fail
  refine (SG z6 kz6).mono ?_
  rintro e w7 ⟨rfl, k7⟩
  have kz7 := bthen kz6 k7
  have bw7 := bthen bZ kz7
  have e50 := bkeep k7 e50
  have i0 := i0.lw k7
  have i1 := i1.lw k7
  have i2 := i2.lw k7
  have i3 := i3.lw k7
  have i4 := i4.lw k7
  have r0 := bkeep k7 r0
  have r1 := bkeep k7 r1
  have r2 := bkeep k7 r2
  have r3 := bkeep k7 r3
  clear p0 p1 p2 p3 e00 e01 e10 e11 e20 e21 e30 e31 e40 e41 e51 FA SG
  by_cases hc : c = 0
  case neg =>
    have hcb : (c != 0) = true := by simpa using hc
    obtain rfl := H0.out.1 hc
    obtain rfl := H1.out.1 hc
    obtain rfl := H2.out.1 hc
    obtain rfl := H3.out.1 hc
    obtain rfl := H4.out.1 hc
    clear hc
    go_wp2_with fail
    go_ret
    exact ⟨rfl, bw7⟩
  subst hc
  obtain ⟨V, hV⟩ := HRG.out rfl
  have hV64 := hV.vr.1
  have E0 := hd (H0.out.2 rfl V hV)
  have E1 := hd (H1.out.2 rfl V hV)
  have E2 := hd (H2.out.2 rfl V hV)
  have E3 := hd (H3.out.2 rfl V hV)
  have E4 := hd (H4.out.2 rfl V hV)
  clear H0 H1 H2 H3 H4 HRG
  go_wp2_with fail
  refine (cornersOf_any g V hV _ w7 (gG w7 kz7)).mono ?_
  rintro e w8 ⟨vm, Lm, rfl, im, hLm, hem, k8⟩
  obtain ⟨am, cm, rfl⟩ := im.slice
  have HLm := hd hLm
  have HEm := hd hem
  have hb4 : ((l4.length : Int) != (Lm.length : Int)) = false := by rw [hLm, E4.out.1]; simp
  have hl64 : Lm.length ≤ 64 := by omega
  clear hLm hem
  have kz8 := bthen kz7 k8
  have i0 := i0.lw k8
  have i1 := i1.lw k8
  have i2 := i2.lw k8
  have i3 := i3.lw k8
  have i4 := i4.lw k8
  have r0 := bkeep k8 r0
  have r1 := bkeep k8 r1
  have r2 := bkeep k8 r2
  have r3 := bkeep k8 r3
  go_wp2_with fail
  go_loopw [16] (fun i wr => ∃ k : Nat, k ≤ Lm.length ∧ i = .int .i64 k ∧ Below w8.heap.size w8 wr) (fun i _ => Lm.length - (intOf i).toNat)
  case atStart => exact ⟨0, Nat.zero_le _, rfl, Below.refl _ _⟩
  case round =>
    obtain ⟨k, hk, rfl, hb⟩ := hrel
    by_cases hlt : k < Lm.length
    · have hlt' : k < l4.length := by have h1 := HLm.out; have h2 := E4.out.1; omega
      obtain ⟨b, o, rfl, ar, cr, c1, hc⟩ := (im.lw hb).at_ hlt
      obtain ⟨b', o', rfl, ar', cr', d1, hc'⟩ := (i4.lw hb).at_ hlt'
      have SI := fun z : Wd wr => sameInts_any l4[k] Lm[k] (.slice ar' l4[k].length cr') (.slice ar Lm[k].length cr) z.u (hc'.lw z.h) (hc.lw z.h)
      rw [show decide (l4[k] = Lm[k]) = true by rw [E4.out.2 k hlt', HEm.out k hlt]; simp] at SI
      have f1 := fun z : Wd wr => z.cell c1
      have g1 := fun z : Wd wr => z.cell d1
      have wne : Nonempty (Wd wr) := Wd.ne _
      have hlt2 : (k : Int) < (Lm.length : Int) := by omega
      have hlt3 : (k : Int) < (l4.length : Int) := by omega
      clear c1 d1 hc hc'
      generalize l4[k].length = n8 at *
      generalize Lm[k].length = n9 at *
      go_wp2_with fail
      refine region_quiet_lit (C := fun w' => ∃ z : Wd wr, w' = z.u) (by kernel_rfl) (by kernel_rfl) (Wd.drawn _) ?_
      iterate 8 (go_big_quiet_step (fail))
      go_big_quiet_step (exact calls_wd (SI _))
      go_big_quiet_step (fail)
      refine wpQuiet_nil ?_
      intro _ hw'
      obtain ⟨z, hw''⟩ := hw'
      subst hw''
      have bz := bthen hb z.h
      go_wp2_with fail
      go_roundw
      case rel => exact ⟨k + 1, by omega, by go_num, bz⟩
      case measure => simp [intOf]; omega
    · have kz9 := bthen kz8 hb
      have i0 := i0.lw hb
      have i1 := i1.lw hb
      have i2 := i2.lw hb
      have i3 := i3.lw hb
      have r0 := bkeep hb r0
      have r1 := bkeep hb r1
      have r2 := bkeep hb r2
      have r3 := bkeep hb r3
      clear im i4 HEm HLm E4
      go_wp2_with fail
      refine (nullOf_any g V hV _ wr (gG wr kz9)).mono ?_
      rintro e wa0 ⟨gb0, rfl, ownb0, ka00⟩
      have OA0 := listOf_any (genN false g.rules V V) gb0 wa0 (BsV_owned ownb0 (genN_len _ _ _ _)) (by rw [genN_len]; exact hV64)
      rw [list_eq (genN_len _ _ _ _) (fun x => genN_right hV.lin x), ← E0.out, genN_len] at OA0
      clear ownb0
      go_wp2_with fail
      refine OA0.mono ?_
      rintro e wb0 ⟨vb0, rfl, ownl0, kb00⟩
      have kab0 := bthen ka00 kb00
      have ib0 : IsV wb0 All vb0 l0 := IsV_owned ownl0 (by omega) (fun _ _ => trivial)
      obtain ⟨ab0, cb0, rfl⟩ := ib0.slice
      have SS0 := sameInts_any l0 l0 _ _ wb0 (i0.lw kab0) ib0
      rw [show decide (l0 = l0) = true by simp] at SS0
      clear ownl0 OA0
      go_wp2_with fail
      refine SS0.mono ?_
      rintro e wc0 ⟨rfl, kc0⟩
      have kall0 := bthen kab0 kc0
      have kn0 := bthen kz9 kall0
      have r0 := bkeep kall0 r0
      have r1 := bkeep kall0 r1
      have r2 := bkeep kall0 r2
      have r3 := bkeep kall0 r3
      have i1 := i1.lw kall0
      have i2 := i2.lw kall0
      have i3 := i3.lw kall0
      go_wp2_with fail
      refine (goodOf_any g V hV _ wc0 (gG wc0 kn0)).mono ?_
      rintro e wa1 ⟨gb1, rfl, ownb1, ka10⟩
      have OA1 := listOf_any (genN true g.rules V V) gb1 wa1 (BsV_owned ownb1 (genN_len _ _ _ _)) (by rw [genN_len]; exact hV64)
      rw [list_eq (genN_len _ _ _ _) (fun x => genN_right hV.lin x), ← E1.out, genN_len] at OA1
      clear ownb1
      go_wp2_with fail
      refine OA1.mono ?_
      rintro e wb1 ⟨vb1, rfl, ownl1, kb10⟩
      have kab1 := bthen ka10 kb10
      have ib1 : IsV wb1 All vb1 l1 := IsV_owned ownl1 (by omega) (fun _ _ => trivial)
      obtain ⟨ab1, cb1, rfl⟩ := ib1.slice
      have SS1 := sameInts_any l1 l1 _ _ wb1 (i1.lw kab1) ib1
      rw [show decide (l1 = l1) = true by simp] at SS1
      clear ownl1 OA1
      go_wp2_with fail
      refine SS1.mono ?_
      rintro e wc1 ⟨rfl, kc1⟩
      have kall1 := bthen kab1 kc1
      have kn1 := bthen kn0 kall1
      have r0 := bkeep kall1 r0
      have r1 := bkeep kall1 r1
      have r2 := bkeep kall1 r2
      have r3 := bkeep kall1 r3
      have i2 := i2.lw kall1
      have i3 := i3.lw kall1
      go_wp2_with fail
      refine (reachedOf_any g V hV _ wc1 (gG wc1 kn1)).mono ?_
      rintro e wa2 ⟨gb2, is2, rfl, ownb2, hil2, hp2, ka20⟩
      have OA2 := listOf_any is2 gb2 wa2 (BsV_owned ownb2 hil2) (by rw [hil2]; exact hV64)
      rw [list_eq hil2 hp2, ← E2.out, hil2] at OA2
      clear ownb2
      go_wp2_with fail
      refine OA2.mono ?_
      rintro e wb2 ⟨vb2, rfl, ownl2, kb20⟩
      have kab2 := bthen ka20 kb20
      have ib2 : IsV wb2 All vb2 l2 := IsV_owned ownl2 (by omega) (fun _ _ => trivial)
      obtain ⟨ab2, cb2, rfl⟩ := ib2.slice
      have SS2 := sameInts_any l2 l2 _ _ wb2 (i2.lw kab2) ib2
      rw [show decide (l2 = l2) = true by simp] at SS2
      clear ownl2 OA2
      go_wp2_with fail
      refine SS2.mono ?_
      rintro e wc2 ⟨rfl, kc2⟩
      have kall2 := bthen kab2 kc2
      have kn2 := bthen kn1 kall2
      have r0 := bkeep kall2 r0
      have r1 := bkeep kall2 r1
      have r2 := bkeep kall2 r2
      have r3 := bkeep kall2 r3
      have i3 := i3.lw kall2
      go_wp2_with fail
      refine (cyclicOf_any g V hV _ wc2 (gG wc2 kn2)).mono ?_
      rintro e wa3 ⟨vb3, lb3, rfl, ownl3, hlb3, ka30⟩
      obtain rfl : lb3 = l3 := by rw [E3.out]; exact hlb3
      have ib3 : IsV wa3 All vb3 lb3 := IsV_owned ownl3 (by omega) (fun _ _ => trivial)
      obtain ⟨ab3, cb3, rfl⟩ := ib3.slice
      have SS3 := sameInts_any lb3 lb3 _ _ wa3 (i3.lw ka30) ib3
      rw [show decide (lb3 = lb3) = true by simp] at SS3
      clear ownl3 hlb3
      go_wp2_with fail
      refine SS3.mono ?_
      rintro e wd ⟨rfl, kc3⟩
      have kend := bthen bZ (bthen kn2 (bthen ka30 kc3))
      go_wp2_with fail
      go_ret
      exact ⟨rfl, kend⟩
set_option maxRecDepth 100000 in
theorem lifted (os : Os) (started : os.Started) (H : Type) (enc : TypeId × Value → H) :
    ReturnsInHanded {} Try.checked os 6 .any (Rows.factsDoesSpec.pre6 enc Try.prog Try.f6 Rows.factsDoesRow.domain false) (Rows.factsDoesSpec.post enc Try.prog Try.f6 false true false false) := by
  refine returnsInHanded_of_change (C := Try.checked) own started (by kernel_rfl) Try.func6
    (ChangeSpec.witness6 (enc := enc) (C := Try.checked) false ⟨#[], #[.agg #[.int .i64 0, .int .i64 0, .int .i64 0, .slice none 0 0]], []⟩ 8 (by kernel_rfl) (by kernel_rfl) (by kernel_rfl) (by kernel_rfl)) ?_
  intro W base args ds gs before hval0 hW hcnd _
  have hval : ∀ (j : Nat) t v, Try.f6.params[j]? = some t → args[j]? = some v → Value.okWide Try.prog W .any base t v := hval0
  have hW' := hW
  obtain ⟨p, q, hA0, hV, rfl, hfz, hnd⟩ := hW
  have hA : DataW.TrodAll enc Try.prog W 0 (fun _ => true) true Try.f6.params.toList args.toList ds p := hA0
  rw [Try.params6] at hA hval
  obtain ⟨v0, vs0, d0, ds0, p0, q0, hargs, rfl, rfl, h0, r0⟩ := trodAll_cons hA
  obtain ⟨rfl, rfl, rfl⟩ := trodAll_nil r0
  obtain rfl : args = #[v0] := by cases args; simp_all
  obtain ⟨rfl, rfl⟩ := trodVars_none hV
  have k0 := h0
  have lt0 : ∀ x ∈ p0, x.block < W.heap.size := by obtain ⟨m, hm⟩ := k0; exact DataW.trod_lt m _ _ _ hm
  obtain ⟨g, hg⟩ := open_gram (hval 0 24 v0 rfl rfl) h0
  clear hA0 hval0
  refine (walk g v0 W hg).mono fun e W' ⟨he, bel⟩ => ?_
  subst he
  exact ⟨_, rfl, _, _, _, [], _, [], hW', trodAll_mk1 (shut_bool Try.underlying4 _), (trodAll_cons_mk (Below.trod laidOut (by kernel_rfl) (of_decide_eq_true (by kernel_rfl)) k0 bel lt0) trodAll_mk0), rfl, bel.frame _, fun h => by cases h⟩

theorem stands : Rows.factsDoesRow.holds Try.pinned (OpenSpec.ofChange Rows.factsDoesSpec) :=
  OpenClaim.holds_of_wide 6 Try.f6 rfl rfl rfl rfl rfl rfl rfl ⟨rfl, rfl, rfl, rfl, rfl⟩ rfl rfl rfl rfl rfl (by kernel_rfl) Try.func6 (by kernel_rfl)
    (of_decide_eq_true (by kernel_rfl)) (by unfold Func.isWrapper; first | (rw [if_pos (by decide +kernel)]; kernel_rfl) | (rw [if_neg (by decide +kernel)]; exact ⟨rfl, rfl⟩))
    (fun os started H enc _ => lifted os started H enc)

theorem proved : Rows.FactsDoesSaid := stands
#print axioms proved
end Go.Proofs.Ytbhpbleenfegjac.factsDoes
