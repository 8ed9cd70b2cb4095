/- The laws' own beginning: a small text that is looked at. -/
import Derived.Test.YtdikjhfnmkejcabPh
namespace Go.Proofs.Ytdikjhfnmkejcab
open Go.RowKit
def dbD : List Df := [⟨⟨#[83]⟩, 0, ⟨3, ⟨#[]⟩, .cons 1 ⟨#[98]⟩ .nil (.cons 2 ⟨#[83]⟩ .nil (.cons 1 ⟨#[98]⟩ .nil .nil))⟩⟩]
theorem dfl_db : dfl dbD = (0, 0) := by kernel_rfl
theorem trms_db : trms dbD = [⟨#[98]⟩] := by kernel_rfl
theorem nms_db : nms dbD = [⟨#[83]⟩] := by kernel_rfl
theorem ok_db : ∀ d ∈ dbD, d.e.sz ≤ 3000 ∧ d.sh := by
  intro d hd
  simp only [dbD, List.mem_cons, List.not_mem_nil, or_false] at hd
  subst hd
  simp [Df.sh, Xp.sh, Fo.sh, Xp.sz, Fo.sz, ByteArray.size]
theorem SsV_one (w : World) (s : ByteArray) (t : TypeId) : SsV (w.alloc (.cells #[.string s] t)) (.slice (some ⟨w.heap.size, 0, none⟩) 1 1) [s] :=
  ⟨by simp, _, 1, rfl, Nat.le_refl _, .inr ⟨w.heap.size, 0, rfl, fun i hi => by
    obtain rfl : i = 0 := by simpa using hi
    simp⟩⟩
theorem field0 (a b : Int) (w : World) : (Instr.field 28 (.agg #[.int .i64 a, .int .i64 b]) 0).run Try.prog w = .ok (.int .i64 a) w := by kernel_rfl
set_option maxRecDepth 100000 in
set_option maxHeartbeats 4000000 in
theorem dbegun_any (w : World) : Calls Try.prog 17 #[] w fun e w' => e = .returned (.bool true) ∧ Below w.heap.size w w' := by
  have hfi := fun a b w => field0 a b w
  obtain ⟨V1, hV1⟩ : ∃ V1, V1 = w.alloc (.cells #[.int .i64 1, .string ⟨#[98]⟩, .slice none 0 0, .int .i64 2, .string ⟨#[83]⟩, .slice none 0 0, .int .i64 1, .string ⟨#[98]⟩, .slice none 0 0] 48) := ⟨_, rfl⟩
  obtain ⟨V2, hV2⟩ : ∃ V2, V2 = V1.alloc (.cells #[.string ⟨#[83]⟩, .int .i64 0, .int .i64 3, .string ⟨#[]⟩, .slice (some ⟨w.heap.size, 0, none⟩) 3 3] 50) := ⟨_, rfl⟩
  obtain ⟨W, hW⟩ : ∃ W, W = V2.alloc (.cells #[.slice (some ⟨w.heap.size + 1, 0, none⟩) 1 1] 24) := ⟨_, rfl⟩
  have z1 : V1.heap.size = w.heap.size + 1 := by rw [hV1]; simp
  have z2 : V2.heap.size = w.heap.size + 1 + 1 := by rw [hV2]; simp; omega
  have hWb : Below w.heap.size w W := by rw [hW, hV2, hV1]; exact (al2 w _ _).alloc (by simp <;> omega) _
  have h1W : Below V1.heap.size V1 W := by rw [hW, hV2]; exact al2 _ _ _
  have h2W : Below V2.heap.size V2 W := by rw [hW]; exact al1 _ _
  have hWc : W.cell? ⟨w.heap.size + 1 + 1, 0, none⟩ = some (.slice (some ⟨w.heap.size + 1, 0, none⟩) 1 1) := by rw [hW, ← z2]; simp
  have a1 : ∀ i v, (V1.cell? ⟨w.heap.size, i, none⟩ = some v) → W.cell? ⟨w.heap.size, i, none⟩ = some v := fun i v h => bkeep h1W h
  have a2 : ∀ i v, (V2.cell? ⟨V1.heap.size, i, none⟩ = some v) → W.cell? ⟨w.heap.size + 1, i, none⟩ = some v := fun i v h => by rw [← z1]; exact bkeep h2W h
  have hD : DsV W All (.slice (some ⟨w.heap.size + 1, 0, none⟩) 1 1) dbD := by
    refine ⟨by simp [dbD], _, 1, rfl, .inr ⟨_, _, rfl, ?_⟩⟩
    refine ⟨trivial, a2 0 _ (by rw [hV2]; simp), a2 1 _ (by rw [hV2]; simp), ⟨a2 2 _ (by rw [hV2]; simp), a2 3 _ (by rw [hV2]; simp), .slice (some ⟨w.heap.size, 0, none⟩) 3 3, a2 4 _ (by rw [hV2]; simp), ?_⟩, trivial⟩
    refine ⟨by simp [Fo.len], _, 3, rfl, .inr ⟨_, _, rfl, ?_⟩⟩
    refine ⟨trivial, a1 0 _ (by rw [hV1]; simp), a1 1 _ (by rw [hV1]; simp), ⟨by simp [Fo.len], none, 0, a1 2 _ (by rw [hV1]; simp [Fo.len]), .inl rfl⟩, ?_⟩
    refine ⟨trivial, a1 3 _ (by rw [hV1]; simp), a1 4 _ (by rw [hV1]; simp), ⟨by simp [Fo.len], none, 0, a1 5 _ (by rw [hV1]; simp [Fo.len]), .inl rfl⟩, ?_⟩
    exact ⟨trivial, a1 6 _ (by rw [hV1]; simp), a1 7 _ (by rw [hV1]; simp), ⟨by simp [Fo.len], none, 0, a1 8 _ (by rw [hV1]; simp [Fo.len]), .inl rfl⟩, trivial⟩
  have CA := fun w' (hb : Below W.heap.size W w') => dcheck_any dbD _ w' (hD.kp (Kp.of_below hb) (fun _ _ h => h)) (by simp [dbD]) ok_db
  have NA := fun w' (hb : Below W.heap.size W w') => names_any dbD _ w' (hD.kp (Kp.of_below hb) (fun _ _ h => h)) (by simp [dbD])
  have TA := fun w' (hb : Below W.heap.size W w') => terms_any dbD _ w' (hD.kp (Kp.of_below hb) (fun _ _ h => h)) (by simp [dbD]) ok_db
  rw [dfl_db] at CA
  rw [nms_db] at NA
  rw [trms_db] at TA
  clear hD
  go_enter Try.func17, Try.ntmps17
  go_wp2_with fail
  rw [← hV1, ← hV2, ← hW]
  refine (CA _ (Below.refl _ _)).mono ?_
  rintro e w1 ⟨rfl, hb1⟩
  have HW := hd hW
  clear hW CA hV1 hV2 a1 a2 h1W h2W
  have c1 := bkeep hb1 hWc
  go_wp2_with fail
  refine (TA _ hb1).mono ?_
  rintro e w2 ⟨v2, rfl, own2, hb2⟩
  have b2 : Below W.heap.size W w2 := hb1.trans (hb2.mono hb1.size)
  obtain ⟨ao2, cap2, rfl⟩ := owns_slice own2
  have S2 := sameStrings_any [⟨#[98]⟩] _ _ (w2.alloc (.cells #[.string ⟨#[98]⟩] 9)) (SsV_owned (own2.alloc _) (by simp)) (SsV_one _ _ _)
  have b2' : Below W.heap.size W (w2.alloc (.cells #[.string ⟨#[98]⟩] 9)) := b2.alloc b2.size _
  clear own2 TA
  go_wp2_with fail
  refine S2.mono ?_
  rintro e w3 ⟨rfl, hb3⟩
  have b3 : Below W.heap.size W w3 := b2'.trans (hb3.mono b2'.size)
  have c3 := bkeep b3 hWc
  go_wp2_with fail
  refine (NA _ b3).mono ?_
  rintro e w4 ⟨v4, rfl, own4, hb4⟩
  have b4 : Below W.heap.size W w4 := b3.trans (hb4.mono b3.size)
  obtain ⟨ao4, cap4, rfl⟩ := owns_slice own4
  have S4 := sameStrings_any [⟨#[83]⟩] _ _ (w4.alloc (.cells #[.string ⟨#[83]⟩] 9)) (SsV_owned (own4.alloc _) (by simp)) (SsV_one _ _ _)
  have b4' : Below W.heap.size W (w4.alloc (.cells #[.string ⟨#[83]⟩] 9)) := b4.alloc b4.size _
  clear own4 NA
  go_wp2_with fail
  refine S4.mono ?_
  rintro e w5 ⟨rfl, hb5⟩
  have b5 : Below W.heap.size W w5 := b4'.trans (hb5.mono b4'.size)
  go_wp2_with fail
  go_ret
  exact ⟨rfl, hWb.trans (b5.mono hWb.size)⟩
end Go.Proofs.Ytdikjhfnmkejcab
