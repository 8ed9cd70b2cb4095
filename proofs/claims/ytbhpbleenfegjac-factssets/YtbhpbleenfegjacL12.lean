/- Texts laid together: Gl Fbg Gx. -/
import Derived.Test.YtbhpbleenfegjacL09
import Derived.Test.YtbhpbleenfegjacL11
import Derived.Test.YtbhpbleenfegjacL10
import Derived.Test.YtbhpbleenfegjacL03
import Derived.ChangeArms
import Derived.DataReads
import Derived.WideShapes
import Derived.OpenShut
/- The law's beginning: grammars that are written out. -/
namespace Go.Proofs.Ytbhpbleenfegjac.G
open Go.RowKit
def g1 : Gm := ⟨2, 1, 0, [⟨0, [1, -1, 1]⟩]⟩
def h1 : Gm := ⟨2, 1, 0, [⟨0, [1, -2, 1]⟩]⟩
theorem IsV_lit {w : World} {S : Nat → Prop} {b : Nat} {l : List Int} (hl : l.length ≤ 9223372036854775807) (hS : S b) (h : ∀ i (hi : i < l.length), w.cell? ⟨b, i, none⟩ = some (.int .i64 l[i])) : IsV w S (.slice (some ⟨b, 0, none⟩) l.length l.length) l :=
  ⟨hl, _, _, rfl, Nat.le_refl _, (fun h => by cases h), .inr ⟨b, 0, rfl, hS, fun i hi => by rw [Nat.zero_add]; exact h i hi⟩⟩
theorem RsV_lit {w : World} {S : Nat → Prop} {b : Nat} {r : Ru} {u : Value} (hS : S b) (c0 : w.cell? ⟨b, 0, none⟩ = some (.int .i64 r.left)) (c1 : w.cell? ⟨b, 1, none⟩ = some u) (hu : IsV w S u r.right) : RsV w S (.slice (some ⟨b, 0, none⟩) 1 1) [r] :=
  ⟨by simp, _, _, rfl, Nat.le_refl _, (fun h => by cases h), .inr ⟨b, 0, rfl, hS, fun i hi => by
    have h0 : i = 0 := by simpa using hi
    subst h0
    exact ⟨c0, u, c1, hu⟩⟩⟩
theorem field0 (a b : Int) (w : World) : (Instr.field 29 (.agg #[.int .i64 a, .int .i64 b]) 0).run Try.prog w = .ok (.int .i64 a) w := by kernel_rfl
theorem gFl_g1 : gFl g1 = (0, 0) := by decide
theorem gFl_h1 : gFl h1 = (9, 0) := by decide
set_option maxRecDepth 100000 in
set_option maxHeartbeats 8000000 in
theorem begun_any (w : World) :
    Calls Try.prog 9 #[] w fun e w' => e = .returned (.bool true) ∧ Below w.heap.size w w' := by
  have hfi := fun a b w => field0 a b w
  obtain ⟨V1, hV1⟩ : ∃ V1, V1 = w.alloc (.cells #[.int .i64 1, .int .i64 (-1), .int .i64 1] 3) := ⟨_, rfl⟩
  obtain ⟨V2, hV2⟩ : ∃ V2, V2 = V1.alloc (.cells #[.int .i64 0, .slice (some ⟨w.heap.size, 0, none⟩) 3 3] 37) := ⟨_, rfl⟩
  obtain ⟨V3, hV3⟩ : ∃ V3, V3 = V2.alloc (.cells #[.int .i64 2, .int .i64 1, .int .i64 0, .slice (some ⟨w.heap.size + 1, 0, none⟩) 1 1] 24) := ⟨_, rfl⟩
  obtain ⟨V4, hV4⟩ : ∃ V4, V4 = V3.alloc (.cells #[.int .i64 2, .int .i64 1, .int .i64 0, .slice (some ⟨w.heap.size + 1 + 1 + 1 + 1 + 1, 0, none⟩) 1 1] 24) := ⟨_, rfl⟩
  obtain ⟨V5, hV5⟩ : ∃ V5, V5 = V4.alloc (.cells #[.int .i64 1, .int .i64 (-2), .int .i64 1] 3) := ⟨_, rfl⟩
  obtain ⟨W, hW⟩ : ∃ W, W = V5.alloc (.cells #[.int .i64 0, .slice (some ⟨w.heap.size + 1 + 1 + 1 + 1, 0, none⟩) 3 3] 37) := ⟨_, rfl⟩
  have z1 : V1.heap.size = w.heap.size + 1 := by rw [hV1]; simp
  have z2 : V2.heap.size = w.heap.size + 1 + 1 := by rw [hV2]; simp; omega
  have z3 : V3.heap.size = w.heap.size + 1 + 1 + 1 := by rw [hV3]; simp; omega
  have z4 : V4.heap.size = w.heap.size + 1 + 1 + 1 + 1 := by rw [hV4]; simp; omega
  have z5 : V5.heap.size = w.heap.size + 1 + 1 + 1 + 1 + 1 := by rw [hV5]; simp; omega
  have k10 : Below w.heap.size w V1 := by rw [hV1]; exact al1 _ _
  have k21 : Below V1.heap.size V1 V2 := by rw [hV2]; exact al1 _ _
  have k32 : Below V2.heap.size V2 V3 := by rw [hV3]; exact al1 _ _
  have k43 : Below V3.heap.size V3 V4 := by rw [hV4]; exact al1 _ _
  have k54 : Below V4.heap.size V4 V5 := by rw [hV5]; exact al1 _ _
  have k65 : Below V5.heap.size V5 W := by rw [hW]; exact al1 _ _
  have j6 : Below W.heap.size W W := Below.refl _ _
  have j5 : Below V5.heap.size V5 W := bthen k65 j6
  have j4 : Below V4.heap.size V4 W := bthen k54 j5
  have j3 : Below V3.heap.size V3 W := bthen k43 j4
  have j2 : Below V2.heap.size V2 W := bthen k32 j3
  have j1 : Below V1.heap.size V1 W := bthen k21 j2
  have j0 : Below w.heap.size w W := bthen k10 j1
  have hWb : Below w.heap.size w W := j0
  have a0 : W.cell? ⟨w.heap.size, 0, none⟩ = some (.int .i64 1) := by exact bkeep j1 (by rw [hV1]; simp)
  have a1 : W.cell? ⟨w.heap.size, 1, none⟩ = some (.int .i64 (-1)) := by exact bkeep j1 (by rw [hV1]; simp)
  have a2 : W.cell? ⟨w.heap.size, 2, none⟩ = some (.int .i64 1) := by exact bkeep j1 (by rw [hV1]; simp)
  have b0 : W.cell? ⟨w.heap.size + 1, 0, none⟩ = some (.int .i64 0) := by rw [← z1]; exact bkeep j2 (by rw [hV2]; simp)
  have b1 : W.cell? ⟨w.heap.size + 1, 1, none⟩ = some (.slice (some ⟨w.heap.size, 0, none⟩) 3 3) := by rw [← z1]; exact bkeep j2 (by rw [hV2]; simp)
  have c0 : W.cell? ⟨w.heap.size + 1 + 1, 0, none⟩ = some (.int .i64 2) := by rw [← z2]; exact bkeep j3 (by rw [hV3]; simp)
  have c1 : W.cell? ⟨w.heap.size + 1 + 1, 1, none⟩ = some (.int .i64 1) := by rw [← z2]; exact bkeep j3 (by rw [hV3]; simp)
  have c2 : W.cell? ⟨w.heap.size + 1 + 1, 2, none⟩ = some (.int .i64 0) := by rw [← z2]; exact bkeep j3 (by rw [hV3]; simp)
  have c3 : W.cell? ⟨w.heap.size + 1 + 1, 3, none⟩ = some (.slice (some ⟨w.heap.size + 1, 0, none⟩) 1 1) := by rw [← z2]; exact bkeep j3 (by rw [hV3]; simp)
  have d0 : W.cell? ⟨w.heap.size + 1 + 1 + 1, 0, none⟩ = some (.int .i64 2) := by rw [← z3]; exact bkeep j4 (by rw [hV4]; simp)
  have d1 : W.cell? ⟨w.heap.size + 1 + 1 + 1, 1, none⟩ = some (.int .i64 1) := by rw [← z3]; exact bkeep j4 (by rw [hV4]; simp)
  have d2 : W.cell? ⟨w.heap.size + 1 + 1 + 1, 2, none⟩ = some (.int .i64 0) := by rw [← z3]; exact bkeep j4 (by rw [hV4]; simp)
  have d3 : W.cell? ⟨w.heap.size + 1 + 1 + 1, 3, none⟩ = some (.slice (some ⟨w.heap.size + 1 + 1 + 1 + 1 + 1, 0, none⟩) 1 1) := by rw [← z3]; exact bkeep j4 (by rw [hV4]; simp)
  have e0 : W.cell? ⟨w.heap.size + 1 + 1 + 1 + 1, 0, none⟩ = some (.int .i64 1) := by rw [← z4]; exact bkeep j5 (by rw [hV5]; simp)
  have e1 : W.cell? ⟨w.heap.size + 1 + 1 + 1 + 1, 1, none⟩ = some (.int .i64 (-2)) := by rw [← z4]; exact bkeep j5 (by rw [hV5]; simp)
  have e2 : W.cell? ⟨w.heap.size + 1 + 1 + 1 + 1, 2, none⟩ = some (.int .i64 1) := by rw [← z4]; exact bkeep j5 (by rw [hV5]; simp)
  have f0 : W.cell? ⟨w.heap.size + 1 + 1 + 1 + 1 + 1, 0, none⟩ = some (.int .i64 0) := by rw [← z5]; exact bkeep j6 (by rw [hW]; simp)
  have f1 : W.cell? ⟨w.heap.size + 1 + 1 + 1 + 1 + 1, 1, none⟩ = some (.slice (some ⟨w.heap.size + 1 + 1 + 1 + 1, 0, none⟩) 3 3) := by rw [← z5]; exact bkeep j6 (by rw [hW]; simp)
  have ia : IsV W All (.slice (some ⟨w.heap.size, 0, none⟩) 3 3) [1, -1, 1] := IsV_lit (l := [1, -1, 1]) (by simp) trivial fun i hi => by
    match i, hi with
    | 0, _ => exact a0
    | 1, _ => exact a1
    | 2, _ => exact a2
  have ie : IsV W All (.slice (some ⟨w.heap.size + 1 + 1 + 1 + 1, 0, none⟩) 3 3) [1, -2, 1] := IsV_lit (l := [1, -2, 1]) (by simp) trivial fun i hi => by
    match i, hi with
    | 0, _ => exact e0
    | 1, _ => exact e1
    | 2, _ => exact e2
  have GG : GV W All (.agg #[.int .i64 2, .int .i64 1, .int .i64 0, .slice (some ⟨w.heap.size + 1, 0, none⟩) 1 1]) g1 := ⟨_, rfl, RsV_lit (r := ⟨0, [1, -1, 1]⟩) trivial b0 b1 ia⟩
  have GH : GV W All (.agg #[.int .i64 2, .int .i64 1, .int .i64 0, .slice (some ⟨w.heap.size + 1 + 1 + 1 + 1 + 1, 0, none⟩) 1 1]) h1 := ⟨_, rfl, RsV_lit (r := ⟨0, [1, -2, 1]⟩) trivial f0 f1 ie⟩
  have CG := fun w' (h : Below W.heap.size W w') => check_any g1 _ w' (GG.lw h)
  have CH := fun w' (h : Below W.heap.size W w') => check_any h1 _ w' (GH.lw h)
  have SS := fun w' (h : Below W.heap.size W w') => same_any g1 h1 _ _ w' (GG.lw h) (GH.lw h)
  have KK := fun w' (h : Below W.heap.size W w') => kids_any ⟨0, [1, -1, 1]⟩ (some ⟨w.heap.size, 0, none⟩) 3 w' (ia.lw h) (by simp)
  rw [gFl_g1] at CG
  rw [gFl_h1] at CH
  rw [show decide (g1 = h1) = false by decide] at SS
  simp only [show kidsL [1, -1, 1] = [1, 1] by decide] at KK
  clear GG GH ia ie a0 a1 a2 e0 e1 e2 f0 f1
  go_enter Try.func9, Try.ntmps9
  go_wp2_with fail
  rw [← hV1, ← hV2, ← hV3, ← hV4, ← hV5, ← hW]
  clear hV1 hV2 hV3 hV4 hV5 hW j0 j1 j2 j3 j4 j5 j6 k10 k21 k32 k43 k54 k65 z1 z2 z3 z4 z5
  refine (CG _ (Below.refl _ _)).mono ?_
  rintro e w1 ⟨rfl, k1⟩
  have d10 := bkeep k1 d0
  have d11 := bkeep k1 d1
  have d12 := bkeep k1 d2
  have d13 := bkeep k1 d3
  go_wp2_with fail
  refine (CH _ k1).mono ?_
  rintro e w2 ⟨rfl, k2⟩
  have k2' := bthen k1 k2
  have d20 := bkeep k2' d0
  have d21 := bkeep k2' d1
  have d22 := bkeep k2' d2
  have d23 := bkeep k2' d3
  have c20 := bkeep k2' c0
  have c21 := bkeep k2' c1
  have c22 := bkeep k2' c2
  have c23 := bkeep k2' c3
  go_wp2_with fail
  refine (SS _ k2').mono ?_
  rintro e w3 ⟨rfl, k3⟩
  have k3' := bthen k2' k3
  have c33 := bkeep k3' c3
  have b30 := bkeep k3' b0
  have b31 := bkeep k3' b1
  go_wp2_with fail
  refine (KK _ k3').mono ?_
  rintro e w4 ⟨v4, rfl, own4, k4⟩
  have k4' := bthen k3' k4
  have i4 : IsV w4 All v4 [1, 1] := IsV_owned own4 (by simp) (fun _ _ => trivial)
  obtain ⟨ao4, cap4, rfl⟩ := i4.slice
  obtain ⟨w5, hw5⟩ : ∃ w5, w5 = w4.alloc (.cells #[.int .i64 1, .int .i64 1] 3) := ⟨_, rfl⟩
  have k5 : Below w4.heap.size w4 w5 := by rw [hw5]; exact al1 _ _
  have i5 : IsV w5 All (.slice (some ⟨w4.heap.size, 0, none⟩) 2 2) [1, 1] := IsV_lit (l := [1, 1]) (by simp) trivial fun i hi => by
    match i, hi with
    | 0, _ => rw [hw5]; simp
    | 1, _ => rw [hw5]; simp
  have SI := sameInts_any [1, 1] [1, 1] _ _ w5 (i4.lw k5) i5
  rw [show decide ([(1 : Int), 1] = [1, 1]) = true by decide] at SI
  clear CG CH SS KK own4 i4 i5
  go_wp2_with fail
  rw [← hw5]
  refine SI.mono ?_
  rintro e w6 ⟨rfl, k6⟩
  have k6' := bthen hWb (bthen k4' (bthen k5 k6))
  go_wp2_with fail
  go_ret
  exact ⟨rfl, k6'⟩
end Go.Proofs.Ytbhpbleenfegjac.G

/- What is begun. -/
namespace Go.Proofs.Ytbhpbleenfegjac.G
open Go.RowKit
def f0 : Gm := ⟨2, 0, 0, [⟨0, [0, 1]⟩, ⟨1, []⟩]⟩
theorem gFl_f0 : gFl f0 = (0, 0) := by decide
theorem gen_f0 (v : Int) : Gen false f0.rules v ↔ v = 1 := by
  constructor
  · intro h
    induction h with
    | mk r hr hs ih =>
      simp only [f0, List.mem_cons, List.not_mem_nil, or_false] at hr
      rcases hr with rfl | rfl
      · have := ih 0 (by simp) (by simp)
        omega
      · rfl
  · rintro rfl
    exact .mk ⟨1, []⟩ (by simp [f0]) (by simp)
theorem led_f0 (v : Int) : Led false (Gen false f0.rules) f0.rules v v ↔ v = 0 := by
  have step : ∀ a b, Lds false (Gen false f0.rules) f0.rules a b → a = 0 ∧ b = 0 := by
    rintro a b ⟨h0, r, hr, rfl, k, hk, h1, h2, h3⟩
    simp only [f0, List.mem_cons, List.not_mem_nil, or_false] at hr
    rcases hr with rfl | rfl
    · match k, hk with
      | 0, _ => exact ⟨rfl, h1.symm⟩
      | 1, _ =>
        have := (gen_f0 0).1 (h2 0 (by simp))
        omega
    · simp at hk
  constructor
  · intro h
    cases h with
    | one h => exact (step _ _ h).1
    | more _ h => exact (step _ _ h).2
  · rintro rfl
    refine .one ⟨by omega, ⟨0, [0, 1]⟩, by simp [f0], rfl, 0, by simp, rfl, by simp, .inr fun s hs => ?_⟩
    simp at hs
    subst hs
    exact (gen_f0 1).2 rfl
theorem listB_one {r : BitVec 64} {v : Nat} (hv : v < 64) (h : ∀ x, hasB r x = true ↔ x = (v : Int)) : listB r = [(v : Int)] := by
  unfold listB
  have e : (fun k : Nat => hasB r k) = fun k => decide (k = v) := by
    funext k
    rw [Bool.eq_iff_iff, h, decide_eq_true_eq]
    omega
  rw [e]
  have key : ∀ n, upto n (fun k => decide (k = v)) = if v < n then [(v : Int)] else [] := by
    intro n
    induction n with
    | zero => rfl
    | succ n ih =>
      by_cases hn : n = v
      · rw [upto_yes (by simpa using hn), ih]
        subst hn
        simp
      · rw [upto_no (by simpa using hn), ih]
        by_cases h1 : v < n
        · rw [if_pos h1, if_pos (by omega)]
        · rw [if_neg h1, if_neg (by omega)]
  rw [key, if_pos hv]
set_option maxRecDepth 100000 in
set_option maxHeartbeats 4000000 in
theorem factsBegun_any (w : World) : Calls Try.prog 34 #[] w fun e w' => e = .returned (.bool true) ∧ Below w.heap.size w w' := by
  obtain ⟨V1, hV1⟩ : ∃ V1, V1 = w.alloc (.cells #[.int .i64 0, .int .i64 1] 3) := ⟨_, rfl⟩
  obtain ⟨V2, hV2⟩ : ∃ V2, V2 = V1.alloc (.cells #[.int .i64 0, .slice (some ⟨w.heap.size, 0, none⟩) 2 2, .int .i64 1, .slice none 0 0] 37) := ⟨_, rfl⟩
  obtain ⟨W, hW⟩ : ∃ W, W = V2.alloc (.cells #[.int .i64 2, .int .i64 0, .int .i64 0, .slice (some ⟨w.heap.size + 1, 0, none⟩) 2 2] 24) := ⟨_, rfl⟩
  have z1 : V1.heap.size = w.heap.size + 1 := by rw [hV1]; simp
  have z2 : V2.heap.size = w.heap.size + 1 + 1 := by rw [hV2]; simp; omega
  have k10 : Below w.heap.size w V1 := by rw [hV1]; exact al1 _ _
  have k21 : Below V1.heap.size V1 V2 := by rw [hV2]; exact al1 _ _
  have k32 : Below V2.heap.size V2 W := by rw [hW]; exact al1 _ _
  have j1 : Below V1.heap.size V1 W := bthen k21 k32
  have hWb : Below w.heap.size w W := bthen k10 j1
  have a0 : W.cell? ⟨w.heap.size, 0, none⟩ = some (.int .i64 0) := by exact bkeep j1 (by rw [hV1]; simp)
  have a1 : W.cell? ⟨w.heap.size, 1, none⟩ = some (.int .i64 1) := by exact bkeep j1 (by rw [hV1]; simp)
  have b0 : W.cell? ⟨w.heap.size + 1, 0, none⟩ = some (.int .i64 0) := by rw [← z1]; exact bkeep k32 (by rw [hV2]; simp)
  have b1 : W.cell? ⟨w.heap.size + 1, 1, none⟩ = some (.slice (some ⟨w.heap.size, 0, none⟩) 2 2) := by rw [← z1]; exact bkeep k32 (by rw [hV2]; simp)
  have b2 : W.cell? ⟨w.heap.size + 1, 2, none⟩ = some (.int .i64 1) := by rw [← z1]; exact bkeep k32 (by rw [hV2]; simp)
  have b3 : W.cell? ⟨w.heap.size + 1, 3, none⟩ = some (.slice none 0 0) := by rw [← z1]; exact bkeep k32 (by rw [hV2]; simp)
  have c0 : W.cell? ⟨w.heap.size + 1 + 1, 0, none⟩ = some (.int .i64 2) := by rw [hW, ← z2]; simp
  have c1 : W.cell? ⟨w.heap.size + 1 + 1, 1, none⟩ = some (.int .i64 0) := by rw [hW, ← z2]; simp
  have c2 : W.cell? ⟨w.heap.size + 1 + 1, 2, none⟩ = some (.int .i64 0) := by rw [hW, ← z2]; simp
  have c3 : W.cell? ⟨w.heap.size + 1 + 1, 3, none⟩ = some (.slice (some ⟨w.heap.size + 1, 0, none⟩) 2 2) := by rw [hW, ← z2]; simp
  have ia : IsV W All (.slice (some ⟨w.heap.size, 0, none⟩) 2 2) [0, 1] := IsV_lit (l := [0, 1]) (by simp) trivial fun i hi => by
    match i, hi with
    | 0, _ => exact a0
    | 1, _ => exact a1
  have rs : RsV W All (.slice (some ⟨w.heap.size + 1, 0, none⟩) 2 2) f0.rules := ⟨by simp [f0], _, 2, rfl, by simp [f0], (fun h => by cases h), .inr ⟨_, 0, rfl, trivial, fun i hi => by
    match i, hi with
    | 0, _ => exact ⟨b0, _, b1, ia⟩
    | 1, _ => exact ⟨b2, _, b3, IsV_nil _ _⟩⟩⟩
  have GG : GV W All (.agg #[.int .i64 2, .int .i64 0, .int .i64 0, .slice (some ⟨w.heap.size + 1, 0, none⟩) 2 2]) f0 := ⟨_, rfl, rs⟩
  have CA := fun w' (h : Below W.heap.size W w') => cyclicF_any f0 _ w' (GG.lw h)
  have NA := fun w' (h : Below W.heap.size W w') => nullableF_any f0 _ w' (GG.lw h)
  unfold LstR at CA NA
  simp only [gFl_f0, led_f0, gen_f0] at CA NA
  clear GG rs ia a0 a1 b0 b1 b2 b3
  go_enter Try.func34, Try.ntmps34
  go_wp2_with fail
  rw [← hV1, ← hV2, ← hW]
  clear hV1 hV2 hW j1 k10 k21 k32 z1 z2
  refine (CA _ (Below.refl _ _)).mono ?_
  rintro e w1 ⟨v1, l1, rfl, own1, _, _, h1, k1⟩
  obtain ⟨r1, e1, e2⟩ := h1 trivial
  have hl1 := e1.trans (listB_one (v := 0) (by omega) (by simpa using e2))
  clear h1 e1 e2
  subst hl1
  have i1 : IsV w1 All v1 [0] := IsV_owned own1 (by simp) (fun _ _ => trivial)
  obtain ⟨ao1, cap1, rfl⟩ := i1.slice
  obtain ⟨w2, hw2⟩ : ∃ w2, w2 = w1.alloc (.cells #[.int .i64 0, .int .i64 0] 29) := ⟨_, rfl⟩
  have k2 : Below w1.heap.size w1 w2 := by rw [hw2]; exact al1 _ _
  have k2' := bthen k1 k2
  have f20 : w2.cell? ⟨w1.heap.size, 0, none⟩ = some (.int .i64 0) := by rw [hw2]; simp
  have x0 := alcell (bkeep k1 c0) (.cells #[.int .i64 0, .int .i64 0] 29)
  have x1 := alcell (bkeep k1 c1) (.cells #[.int .i64 0, .int .i64 0] 29)
  have x2 := alcell (bkeep k1 c2) (.cells #[.int .i64 0, .int .i64 0] 29)
  have x3 := alcell (bkeep k1 c3) (.cells #[.int .i64 0, .int .i64 0] 29)
  go_wp2_with fail
  rw [← hw2]
  clear hw2 x0 x1 x2 x3
  refine (NA _ k2').mono ?_
  rintro e w3 ⟨v3, l3, rfl, own3, _, _, h3, k3⟩
  obtain ⟨r3, e1, e2⟩ := h3 trivial
  have hl3 := e1.trans (listB_one (v := 1) (by omega) (by simpa using e2))
  clear h3 e1 e2
  subst hl3
  have i3 : IsV w3 All v3 [1] := IsV_owned own3 (by simp) (fun _ _ => trivial)
  obtain ⟨ao3, cap3, rfl⟩ := i3.slice
  obtain ⟨w4, hw4⟩ : ∃ w4, w4 = w3.alloc (.cells #[.int .i64 0, .int .i64 0] 29) := ⟨_, rfl⟩
  have k4 : Below w3.heap.size w3 w4 := by rw [hw4]; exact al1 _ _
  have k34 := bthen k3 k4
  have y0 := alcell (bkeep k3 f20) (.cells #[.int .i64 0, .int .i64 0] 29)
  obtain ⟨w5, hw5⟩ : ∃ w5, w5 = w4.alloc (.cells #[.int .i64 0] 3) := ⟨_, rfl⟩
  have k5 : Below w4.heap.size w4 w5 := by rw [hw5]; exact al1 _ _
  have i5 : IsV w5 All (.slice (some ⟨w4.heap.size, 0, none⟩) 1 1) [0] := IsV_lit (l := [0]) (by simp) trivial fun i hi => by
    match i, hi with
    | 0, _ => rw [hw5]; simp
  have S1 := sameInts_any [0] [0] _ _ w5 (i1.lw (bthen (bthen k2 k34) k5)) i5
  rw [show decide ([(0 : Int)] = [0]) = true by decide] at S1
  have z4 : w4.heap.size = w3.heap.size + 1 := by rw [hw4]; simp
  rw [z4] at S1
  clear own1 own3 CA NA i1 i5
  go_wp2_with fail
  rw [← hw4, ← hw5]
  clear hw4 hw5 y0
  refine S1.mono ?_
  rintro e w6 ⟨rfl, k6⟩
  obtain ⟨w7, hw7⟩ : ∃ w7, w7 = w6.alloc (.cells #[.int .i64 1] 3) := ⟨_, rfl⟩
  have k7 : Below w6.heap.size w6 w7 := by rw [hw7]; exact al1 _ _
  have i7 : IsV w7 All (.slice (some ⟨w6.heap.size, 0, none⟩) 1 1) [1] := IsV_lit (l := [1]) (by simp) trivial fun i hi => by
    match i, hi with
    | 0, _ => rw [hw7]; simp
  have S2 := sameInts_any [1] [1] _ _ w7 (i3.lw (bthen (bthen k4 k5) (bthen k6 k7))) i7
  rw [show decide ([(1 : Int)] = [1]) = true by decide] at S2
  clear i3 i7
  go_wp2_with fail
  rw [← hw7]
  clear hw7
  refine S2.mono ?_
  rintro e w8 ⟨rfl, k8⟩
  have kk := bthen hWb (bthen k2' (bthen k34 (bthen k5 (bthen k6 (bthen k7 k8)))))
  go_wp2_with fail
  go_ret
  exact ⟨rfl, kk⟩
end Go.Proofs.Ytbhpbleenfegjac.G

/- A grammar that comes in: what its reading says of its cells. -/
namespace Go.Proofs.Ytbhpbleenfegjac.G
open Go.RowKit Go.WideShapes
theorem pick_lt {α : Type} [Inhabited α] {n : Nat} {p : Nat → α → Prop} (h : ∀ i, i < n → ∃ x, p i x) : ∃ f : Nat → α, ∀ i, i < n → p i (f i) := by
  classical
  refine ⟨fun i => if hi : i < n then Classical.choose (h i hi) else default, fun i hi => ?_⟩
  simp only [dif_pos hi]
  exact Classical.choose_spec (h i hi)
section
variable {H : Type} {enc : TypeId × Value → H} {w : World} {base : Nat} {spare : Nat → Bool} {held : Bool}
theorem cellsInt : Try.prog.cellsOf 3 = 1 := by kernel_rfl
theorem cellsInts : Try.prog.cellsOf 33 = 1 := by kernel_rfl
theorem cellsRule : Try.prog.cellsOf 37 = 2 := by kernel_rfl
theorem cellsRules : Try.prog.cellsOf 22 = 1 := by kernel_rfl
theorem cellsGram : Try.prog.cellsOf 24 = 4 := by kernel_rfl
/-- An address of a cell that is there. -/
theorem plain_addr {a : Addr} {v : Value} (h : w.cell? (a.add 0) = some v) : ∃ b o, a = ⟨b, o, none⟩ := by
  obtain ⟨b, o, s⟩ := a
  have hs : s = none := by simpa [Addr.add] using World.cell?_spot h
  exact ⟨b, o, by rw [hs]⟩
set_option maxRecDepth 100000 in
theorem open_ints {fuel : Nat} {u : Value} {x : DataW H × List MemPlace} (h : DataW.trod enc Try.prog w base spare held fuel 33 [u] = some x) : ∃ l : List Int, IsV w All u l := by
  rcases DataW.trod_slice Try.underlying33 h with ⟨e2, _⟩ | ⟨ad, len, cap, elems, rest, m, rfl, e2, _, hb, hlc, hcm, hel, hall, _, _⟩
  · have e3 : u = .slice none 0 0 := by simpa using e2
    subst e3
    exact ⟨[], IsV_nil _ _⟩
  · have e3 : u = .slice (some ad) len cap := by simpa using e2
    subst e3
    rw [cellsInt] at hall
    have one : ∀ i, i < len → ∃ y : Int, w.cell? (ad.add (i * 1)) = some (.int .i64 y) := by
      intro i hi
      have h1 := hall i hi
      rw [List.getElem?_eq_getElem (by omega)] at h1
      obtain ⟨cs', h2, h3⟩ := Option.bind_eq_some_iff.1 h1
      obtain ⟨y, e0, _, _⟩ := DataW.trod_int Try.underlying3 h3
      obtain ⟨_, _, hc⟩ := World.cells?_some h2
      have c0 := hc 0 (by omega)
      subst e0
      refine ⟨y, ?_⟩
      have : (ad.add (i * 1)).add 0 = ad.add (i * 1) := by unfold Addr.add; simp
      rw [← this]; exact c0
    obtain ⟨f, hff⟩ := pick_lt one
    have hmx : cap ≤ 9223372036854775807 := by unfold maxLen at hcm; omega
    refine ⟨(List.range len).map f, by simp; omega, some ad, cap, by simp, by simpa using hlc, (fun h => by cases h), ?_⟩
    by_cases h0 : len = 0
    · exact .inl (by simpa using h0)
    · right
      have g0 := hff 0 (by omega)
      obtain ⟨b', o', rfl⟩ := plain_addr (w := w) (a := ad) (by simpa using g0)
      refine ⟨b', o', rfl, trivial, fun i hi => ?_⟩
      have g1 := hff i (by simpa using hi)
      rw [addr_add, Nat.mul_one] at g1
      simpa using g1
set_option maxRecDepth 100000 in
theorem open_rule {fuel : Nat} {cs : List Value} {x : DataW H × List MemPlace} (h : DataW.trod enc Try.prog w base spare held fuel 37 cs = some x) : ∃ (y : Ru) (u : Value), cs = [.int .i64 y.left, u] ∧ IsV w All u y.right := by
  obtain ⟨xs, n, rfl, rfl, hl, hlen, hf⟩ := DataW.trod_struct Try.underlying37 h
  rw [cellsRule] at hl
  match cs, hl with
  | [a, b], _ =>
  match xs, hlen with
  | [y0, y1], _ =>
  have f0 : DataW.trod enc Try.prog w base spare held n 3 (([a, b].drop 0).take (Try.prog.cellsOf 3)) = some y0 := hf 0 _ rfl
  have f1 : DataW.trod enc Try.prog w base spare held n 33 (([a, b].drop 1).take (Try.prog.cellsOf 33)) = some y1 := hf 1 _ rfl
  rw [cellsInt] at f0
  rw [cellsInts] at f1
  obtain ⟨op, e0, _, _⟩ := DataW.trod_int Try.underlying3 f0
  obtain ⟨l, hl⟩ := open_ints f1
  simp at e0
  subst e0
  exact ⟨⟨op, l⟩, b, rfl, hl⟩
set_option maxRecDepth 100000 in
theorem open_rules {fuel : Nat} {u : Value} {x : DataW H × List MemPlace} (h : DataW.trod enc Try.prog w base spare held fuel 22 [u] = some x) : ∃ l : List Ru, RsV w All u l := by
  rcases DataW.trod_slice Try.underlying22 h with ⟨e2, _⟩ | ⟨ad, len, cap, elems, rest, m, rfl, e2, _, hb, hlc, hcm, hel, hall, _, _⟩
  · have e3 : u = .slice none 0 0 := by simpa using e2
    subst e3
    exact ⟨[], RsV_nil _ _⟩
  · have e3 : u = .slice (some ad) len cap := by simpa using e2
    subst e3
    rw [cellsRule] at hall
    have one : ∀ i, i < len → ∃ y : Ru, ∃ u, w.cell? (ad.add (i * 2)) = some (.int .i64 y.left) ∧ w.cell? ((ad.add (i * 2)).add 1) = some u ∧ IsV w All u y.right := by
      intro i hi
      have h1 := hall i hi
      rw [List.getElem?_eq_getElem (by omega)] at h1
      obtain ⟨cs', h2, h3⟩ := Option.bind_eq_some_iff.1 h1
      obtain ⟨y, u, rfl, hy⟩ := open_rule h3
      obtain ⟨_, _, hc⟩ := World.cells?_some h2
      have c0 := hc 0 (by omega)
      refine ⟨y, u, ?_, hc 1 (by omega), hy⟩
      have : (ad.add (i * 2)).add 0 = ad.add (i * 2) := by unfold Addr.add; simp
      rw [← this]; exact c0
    obtain ⟨f, hff⟩ := pick_lt one
    have hmx : cap ≤ 9223372036854775807 := by unfold maxLen at hcm; omega
    refine ⟨(List.range len).map f, by simp; omega, some ad, cap, by simp, by simpa using hlc, (fun h => by cases h), ?_⟩
    by_cases h0 : len = 0
    · exact .inl (by simpa using h0)
    · right
      obtain ⟨u, g0, _⟩ := hff 0 (by omega)
      obtain ⟨b', o', rfl⟩ := plain_addr (w := w) (a := ad) (by simpa using g0)
      refine ⟨b', o', rfl, trivial, fun i hi => ?_⟩
      obtain ⟨u, g0, g1, g2⟩ := hff i (by simpa using hi)
      rw [addr_add] at g0 g1
      rw [addr_add] at g1
      have he : ((List.range len).map f)[i] = f i := by simp
      rw [he]
      exact ⟨g0, u, g1, g2⟩
set_option maxRecDepth 100000 in
theorem open_gram {v : Value} {d : DataW H} {ps : List MemPlace} {b2 : Nat} (hv : Value.okWide Try.prog w .any b2 24 v) (h : DataW.Trod enc Try.prog w base spare held 24 v d ps) : ∃ g : Gm, GV w All v g := by
  obtain ⟨vs, rfl, hvs⟩ := okWide_struct Try.underlying24 hv
  obtain ⟨fuel, h⟩ := h
  rw [cellsGram] at hvs
  obtain ⟨xs, n, rfl, hd, hl, hlen, hf⟩ := DataW.trod_struct Try.underlying24 h
  obtain ⟨a, b, c, u, rfl⟩ : ∃ a b c u, vs = #[a, b, c, u] := by
    obtain ⟨l⟩ := vs
    match l, hvs with
    | [a, b, c, u], _ => exact ⟨a, b, c, u, rfl⟩
  match xs, hlen with
  | [y0, y1, y2, y3], _ =>
  have f0 : DataW.trod enc Try.prog w base spare held n 3 (([a, b, c, u].drop 0).take (Try.prog.cellsOf 3)) = some y0 := hf 0 _ rfl
  have f1 : DataW.trod enc Try.prog w base spare held n 3 (([a, b, c, u].drop 1).take (Try.prog.cellsOf 3)) = some y1 := hf 1 _ rfl
  have f2 : DataW.trod enc Try.prog w base spare held n 3 (([a, b, c, u].drop 2).take (Try.prog.cellsOf 3)) = some y2 := hf 2 _ rfl
  have f3 : DataW.trod enc Try.prog w base spare held n 22 (([a, b, c, u].drop 3).take (Try.prog.cellsOf 22)) = some y3 := hf 3 _ rfl
  rw [cellsInt] at f0 f1 f2
  rw [cellsRules] at f3
  obtain ⟨n0, e0, _, _⟩ := DataW.trod_int Try.underlying3 f0
  obtain ⟨n1, e1, _, _⟩ := DataW.trod_int Try.underlying3 f1
  obtain ⟨n2, e2, _, _⟩ := DataW.trod_int Try.underlying3 f2
  obtain ⟨l, hrs⟩ := open_rules f3
  simp at e0 e1 e2
  subst e0 e1 e2
  exact ⟨⟨n0, n1, n2, l⟩, u, rfl, hrs⟩
end
end Go.Proofs.Ytbhpbleenfegjac.G
