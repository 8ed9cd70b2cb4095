/- The law's beginning: grammars that are written out. -/
import Derived.Test.YtokenfemloohaacGc
import Derived.Test.YtokenfemloohaacGq
namespace Go.Proofs.Ytokenfemloohaac.G
open Go.RowKit
def g1 : Gm := ⟨2, 1, 0, [⟨0, [1, -1, 1]⟩]⟩
def h1 : Gm := ⟨2, 1, 0, [⟨0, [1, -2, 1]⟩]⟩
theorem IsV_lit {w : World} {S : Nat → Prop} {b : Nat} {l : List Int} (hl : l.length ≤ 9223372036854775807) (hS : S b) (h : ∀ i (hi : i < l.length), w.cell? ⟨b, i, none⟩ = some (.int .i64 l[i])) : IsV w S (.slice (some ⟨b, 0, none⟩) l.length l.length) l :=
  ⟨hl, _, _, rfl, Nat.le_refl _, (fun h => by cases h), .inr ⟨b, 0, rfl, hS, fun i hi => by rw [Nat.zero_add]; exact h i hi⟩⟩
theorem RsV_lit {w : World} {S : Nat → Prop} {b : Nat} {r : Ru} {u : Value} (hS : S b) (c0 : w.cell? ⟨b, 0, none⟩ = some (.int .i64 r.left)) (c1 : w.cell? ⟨b, 1, none⟩ = some u) (hu : IsV w S u r.right) : RsV w S (.slice (some ⟨b, 0, none⟩) 1 1) [r] :=
  ⟨by simp, _, _, rfl, Nat.le_refl _, (fun h => by cases h), .inr ⟨b, 0, rfl, hS, fun i hi => by
    have h0 : i = 0 := by simpa using hi
    subst h0
    exact ⟨c0, u, c1, hu⟩⟩⟩
theorem field0 (a b : Int) (w : World) : (Instr.field 29 (.agg #[.int .i64 a, .int .i64 b]) 0).run Try.prog w = .ok (.int .i64 a) w := by kernel_rfl
theorem gFl_g1 : gFl g1 = (0, 0) := by decide
theorem gFl_h1 : gFl h1 = (9, 0) := by decide
set_option maxRecDepth 100000 in
set_option maxHeartbeats 8000000 in
theorem begun_any (w : World) :
    Calls Try.prog 4 #[] w fun e w' => e = .returned (.bool true) ∧ Below w.heap.size w w' := by
  have hfi := fun a b w => field0 a b w
  obtain ⟨V1, hV1⟩ : ∃ V1, V1 = w.alloc (.cells #[.int .i64 1, .int .i64 (-1), .int .i64 1] 3) := ⟨_, rfl⟩
  obtain ⟨V2, hV2⟩ : ∃ V2, V2 = V1.alloc (.cells #[.int .i64 0, .slice (some ⟨w.heap.size, 0, none⟩) 3 3] 37) := ⟨_, rfl⟩
  obtain ⟨V3, hV3⟩ : ∃ V3, V3 = V2.alloc (.cells #[.int .i64 2, .int .i64 1, .int .i64 0, .slice (some ⟨w.heap.size + 1, 0, none⟩) 1 1] 24) := ⟨_, rfl⟩
  obtain ⟨V4, hV4⟩ : ∃ V4, V4 = V3.alloc (.cells #[.int .i64 2, .int .i64 1, .int .i64 0, .slice (some ⟨w.heap.size + 1 + 1 + 1 + 1 + 1, 0, none⟩) 1 1] 24) := ⟨_, rfl⟩
  obtain ⟨V5, hV5⟩ : ∃ V5, V5 = V4.alloc (.cells #[.int .i64 1, .int .i64 (-2), .int .i64 1] 3) := ⟨_, rfl⟩
  obtain ⟨W, hW⟩ : ∃ W, W = V5.alloc (.cells #[.int .i64 0, .slice (some ⟨w.heap.size + 1 + 1 + 1 + 1, 0, none⟩) 3 3] 37) := ⟨_, rfl⟩
  have z1 : V1.heap.size = w.heap.size + 1 := by rw [hV1]; simp
  have z2 : V2.heap.size = w.heap.size + 1 + 1 := by rw [hV2]; simp; omega
  have z3 : V3.heap.size = w.heap.size + 1 + 1 + 1 := by rw [hV3]; simp; omega
  have z4 : V4.heap.size = w.heap.size + 1 + 1 + 1 + 1 := by rw [hV4]; simp; omega
  have z5 : V5.heap.size = w.heap.size + 1 + 1 + 1 + 1 + 1 := by rw [hV5]; simp; omega
  have k10 : Below w.heap.size w V1 := by rw [hV1]; exact al1 _ _
  have k21 : Below V1.heap.size V1 V2 := by rw [hV2]; exact al1 _ _
  have k32 : Below V2.heap.size V2 V3 := by rw [hV3]; exact al1 _ _
  have k43 : Below V3.heap.size V3 V4 := by rw [hV4]; exact al1 _ _
  have k54 : Below V4.heap.size V4 V5 := by rw [hV5]; exact al1 _ _
  have k65 : Below V5.heap.size V5 W := by rw [hW]; exact al1 _ _
  have j6 : Below W.heap.size W W := Below.refl _ _
  have j5 : Below V5.heap.size V5 W := bthen k65 j6
  have j4 : Below V4.heap.size V4 W := bthen k54 j5
  have j3 : Below V3.heap.size V3 W := bthen k43 j4
  have j2 : Below V2.heap.size V2 W := bthen k32 j3
  have j1 : Below V1.heap.size V1 W := bthen k21 j2
  have j0 : Below w.heap.size w W := bthen k10 j1
  have hWb : Below w.heap.size w W := j0
  have a0 : W.cell? ⟨w.heap.size, 0, none⟩ = some (.int .i64 1) := by exact bkeep j1 (by rw [hV1]; simp)
  have a1 : W.cell? ⟨w.heap.size, 1, none⟩ = some (.int .i64 (-1)) := by exact bkeep j1 (by rw [hV1]; simp)
  have a2 : W.cell? ⟨w.heap.size, 2, none⟩ = some (.int .i64 1) := by exact bkeep j1 (by rw [hV1]; simp)
  have b0 : W.cell? ⟨w.heap.size + 1, 0, none⟩ = some (.int .i64 0) := by rw [← z1]; exact bkeep j2 (by rw [hV2]; simp)
  have b1 : W.cell? ⟨w.heap.size + 1, 1, none⟩ = some (.slice (some ⟨w.heap.size, 0, none⟩) 3 3) := by rw [← z1]; exact bkeep j2 (by rw [hV2]; simp)
  have c0 : W.cell? ⟨w.heap.size + 1 + 1, 0, none⟩ = some (.int .i64 2) := by rw [← z2]; exact bkeep j3 (by rw [hV3]; simp)
  have c1 : W.cell? ⟨w.heap.size + 1 + 1, 1, none⟩ = some (.int .i64 1) := by rw [← z2]; exact bkeep j3 (by rw [hV3]; simp)
  have c2 : W.cell? ⟨w.heap.size + 1 + 1, 2, none⟩ = some (.int .i64 0) := by rw [← z2]; exact bkeep j3 (by rw [hV3]; simp)
  have c3 : W.cell? ⟨w.heap.size + 1 + 1, 3, none⟩ = some (.slice (some ⟨w.heap.size + 1, 0, none⟩) 1 1) := by rw [← z2]; exact bkeep j3 (by rw [hV3]; simp)
  have d0 : W.cell? ⟨w.heap.size + 1 + 1 + 1, 0, none⟩ = some (.int .i64 2) := by rw [← z3]; exact bkeep j4 (by rw [hV4]; simp)
  have d1 : W.cell? ⟨w.heap.size + 1 + 1 + 1, 1, none⟩ = some (.int .i64 1) := by rw [← z3]; exact bkeep j4 (by rw [hV4]; simp)
  have d2 : W.cell? ⟨w.heap.size + 1 + 1 + 1, 2, none⟩ = some (.int .i64 0) := by rw [← z3]; exact bkeep j4 (by rw [hV4]; simp)
  have d3 : W.cell? ⟨w.heap.size + 1 + 1 + 1, 3, none⟩ = some (.slice (some ⟨w.heap.size + 1 + 1 + 1 + 1 + 1, 0, none⟩) 1 1) := by rw [← z3]; exact bkeep j4 (by rw [hV4]; simp)
  have e0 : W.cell? ⟨w.heap.size + 1 + 1 + 1 + 1, 0, none⟩ = some (.int .i64 1) := by rw [← z4]; exact bkeep j5 (by rw [hV5]; simp)
  have e1 : W.cell? ⟨w.heap.size + 1 + 1 + 1 + 1, 1, none⟩ = some (.int .i64 (-2)) := by rw [← z4]; exact bkeep j5 (by rw [hV5]; simp)
  have e2 : W.cell? ⟨w.heap.size + 1 + 1 + 1 + 1, 2, none⟩ = some (.int .i64 1) := by rw [← z4]; exact bkeep j5 (by rw [hV5]; simp)
  have f0 : W.cell? ⟨w.heap.size + 1 + 1 + 1 + 1 + 1, 0, none⟩ = some (.int .i64 0) := by rw [← z5]; exact bkeep j6 (by rw [hW]; simp)
  have f1 : W.cell? ⟨w.heap.size + 1 + 1 + 1 + 1 + 1, 1, none⟩ = some (.slice (some ⟨w.heap.size + 1 + 1 + 1 + 1, 0, none⟩) 3 3) := by rw [← z5]; exact bkeep j6 (by rw [hW]; simp)
  have ia : IsV W All (.slice (some ⟨w.heap.size, 0, none⟩) 3 3) [1, -1, 1] := IsV_lit (l := [1, -1, 1]) (by simp) trivial fun i hi => by
    match i, hi with
    | 0, _ => exact a0
    | 1, _ => exact a1
    | 2, _ => exact a2
  have ie : IsV W All (.slice (some ⟨w.heap.size + 1 + 1 + 1 + 1, 0, none⟩) 3 3) [1, -2, 1] := IsV_lit (l := [1, -2, 1]) (by simp) trivial fun i hi => by
    match i, hi with
    | 0, _ => exact e0
    | 1, _ => exact e1
    | 2, _ => exact e2
  have GG : GV W All (.agg #[.int .i64 2, .int .i64 1, .int .i64 0, .slice (some ⟨w.heap.size + 1, 0, none⟩) 1 1]) g1 := ⟨_, rfl, RsV_lit (r := ⟨0, [1, -1, 1]⟩) trivial b0 b1 ia⟩
  have GH : GV W All (.agg #[.int .i64 2, .int .i64 1, .int .i64 0, .slice (some ⟨w.heap.size + 1 + 1 + 1 + 1 + 1, 0, none⟩) 1 1]) h1 := ⟨_, rfl, RsV_lit (r := ⟨0, [1, -2, 1]⟩) trivial f0 f1 ie⟩
  have CG := fun w' (h : Below W.heap.size W w') => check_any g1 _ w' (GG.lw h)
  have CH := fun w' (h : Below W.heap.size W w') => check_any h1 _ w' (GH.lw h)
  have SS := fun w' (h : Below W.heap.size W w') => same_any g1 h1 _ _ w' (GG.lw h) (GH.lw h)
  have KK := fun w' (h : Below W.heap.size W w') => kids_any ⟨0, [1, -1, 1]⟩ (some ⟨w.heap.size, 0, none⟩) 3 w' (ia.lw h) (by simp)
  rw [gFl_g1] at CG
  rw [gFl_h1] at CH
  rw [show decide (g1 = h1) = false by decide] at SS
  simp only [show kidsL [1, -1, 1] = [1, 1] by decide] at KK
  clear GG GH ia ie a0 a1 a2 e0 e1 e2 f0 f1
  go_enter Try.func4, Try.ntmps4
  go_wp2_with fail
  rw [← hV1, ← hV2, ← hV3, ← hV4, ← hV5, ← hW]
  clear hV1 hV2 hV3 hV4 hV5 hW j0 j1 j2 j3 j4 j5 j6 k10 k21 k32 k43 k54 k65 z1 z2 z3 z4 z5
  refine (CG _ (Below.refl _ _)).mono ?_
  rintro e w1 ⟨rfl, k1⟩
  have d10 := bkeep k1 d0
  have d11 := bkeep k1 d1
  have d12 := bkeep k1 d2
  have d13 := bkeep k1 d3
  go_wp2_with fail
  refine (CH _ k1).mono ?_
  rintro e w2 ⟨rfl, k2⟩
  have k2' := bthen k1 k2
  have d20 := bkeep k2' d0
  have d21 := bkeep k2' d1
  have d22 := bkeep k2' d2
  have d23 := bkeep k2' d3
  have c20 := bkeep k2' c0
  have c21 := bkeep k2' c1
  have c22 := bkeep k2' c2
  have c23 := bkeep k2' c3
  go_wp2_with fail
  refine (SS _ k2').mono ?_
  rintro e w3 ⟨rfl, k3⟩
  have k3' := bthen k2' k3
  have c33 := bkeep k3' c3
  have b30 := bkeep k3' b0
  have b31 := bkeep k3' b1
  go_wp2_with fail
  refine (KK _ k3').mono ?_
  rintro e w4 ⟨v4, rfl, own4, k4⟩
  have k4' := bthen k3' k4
  have i4 : IsV w4 All v4 [1, 1] := IsV_owned own4 (by simp) (fun _ _ => trivial)
  obtain ⟨ao4, cap4, rfl⟩ := i4.slice
  obtain ⟨w5, hw5⟩ : ∃ w5, w5 = w4.alloc (.cells #[.int .i64 1, .int .i64 1] 3) := ⟨_, rfl⟩
  have k5 : Below w4.heap.size w4 w5 := by rw [hw5]; exact al1 _ _
  have i5 : IsV w5 All (.slice (some ⟨w4.heap.size, 0, none⟩) 2 2) [1, 1] := IsV_lit (l := [1, 1]) (by simp) trivial fun i hi => by
    match i, hi with
    | 0, _ => rw [hw5]; simp
    | 1, _ => rw [hw5]; simp
  have SI := sameInts_any [1, 1] [1, 1] _ _ w5 (i4.lw k5) i5
  rw [show decide ([(1 : Int), 1] = [1, 1]) = true by decide] at SI
  clear CG CH SS KK own4 i4 i5
  go_wp2_with fail
  rw [← hw5]
  refine SI.mono ?_
  rintro e w6 ⟨rfl, k6⟩
  have k6' := bthen hWb (bthen k4' (bthen k5 k6))
  go_wp2_with fail
  go_ret
  exact ⟨rfl, k6'⟩
end Go.Proofs.Ytokenfemloohaac.G
