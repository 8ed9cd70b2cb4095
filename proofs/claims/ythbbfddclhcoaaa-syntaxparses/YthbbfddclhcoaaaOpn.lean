/- The document's reader: does a bracket open here? -/
import Derived.Test.YthbbfddclhcoaaaRg
namespace Go.Proofs.Ythbbfddclhcoaaa
open Go.RowKit
section
variable {r : Nat} {ao : Option Addr} {cap : Nat} {l : List Tk} {en : Int} {n p o : Nat} {w : World} {c a : Int}
theorem isS_brk {l : List Tk} {n : Nat} {s : ByteArray} (h : isS l n s = true) (hs : (brk s).2 ≠ ⟨#[]⟩) : opn l n = true ∧ txt l n = s := by
  simp [isS] at h
  refine ⟨?_, h.2⟩
  simp [opn, h.1, h.2, hs]
theorem opn_no {l : List Tk} {n : Nat} (h0 : isS l n ⟨#[40]⟩ = false) (h1 : isS l n ⟨#[91]⟩ = false) (h2 : isS l n ⟨#[123]⟩ = false) (h3 : isS l n ⟨#[60]⟩ = false) : opn l n = false := by
  by_cases hk : knd l n = 3
  · simp [isS, hk] at h0 h1 h2 h3
    simp [opn, brk, h0, h1, h2, h3]
  · simp [opn, hk]
theorem ex0 : (⟨#[40, 91, 123, 60]⟩ : ByteArray).extract 0 1 = ⟨#[40]⟩ := by decide +kernel
theorem ex1 : (⟨#[40, 91, 123, 60]⟩ : ByteArray).extract 1 2 = ⟨#[91]⟩ := by decide +kernel
theorem ex2 : (⟨#[40, 91, 123, 60]⟩ : ByteArray).extract 2 3 = ⟨#[123]⟩ := by decide +kernel
theorem ex3 : (⟨#[40, 91, 123, 60]⟩ : ByteArray).extract 3 4 = ⟨#[60]⟩ := by decide +kernel
theorem ey0 : (⟨#[41, 93, 125, 62]⟩ : ByteArray).extract 0 1 = ⟨#[41]⟩ := by decide +kernel
theorem ey1 : (⟨#[41, 93, 125, 62]⟩ : ByteArray).extract 1 2 = ⟨#[93]⟩ := by decide +kernel
theorem ey2 : (⟨#[41, 93, 125, 62]⟩ : ByteArray).extract 2 3 = ⟨#[125]⟩ := by decide +kernel
theorem ey3 : (⟨#[41, 93, 125, 62]⟩ : ByteArray).extract 3 4 = ⟨#[62]⟩ := by decide +kernel
theorem four_new (w : World) (j : Nat) (hj : j < 4) : (w.alloc (.cells #[.int .i64 0, .int .i64 5, .int .i64 6, .int .i64 7] 3)).cell? ⟨w.heap.size, j, none⟩ = some (.int .i64 (if j = 0 then 0 else if j = 1 then 5 else if j = 2 then 6 else 7)) := by
  match j, hj with
  | 0, _ => simp
  | 1, _ => simp
  | 2, _ => simp
  | 3, _ => simp
set_option maxHeartbeats 4000000 in
theorem opened_0 (h : RgS w r ao cap l en n p o)  (hj : isS l n ⟨#[40]⟩ = true) :
    Calls Try.prog 71 #[.pointer (some ⟨r, 0, none⟩)] w fun e w' => e = .returned (.tuple #[.string ⟨#[41]⟩, .int .i64 0]) ∧ Below w.heap.size w w' := by
  have I := fun m s => is_any (h.drew_ m) s
  have new := fun m => four_new (w.drewN m) 0 (by decide)
  simp at new
  clear h
  go_enter Try.func71, Try.ntmps71
  go_wp2_with fail
  refine wp_loop_rounds 1 ?_
  rw [rounds_succ]
  go_wp2_with fail
  rw [ex0]
  refine (I 0 _).mono ?_
  rintro e w0 ⟨rfl, m0, rfl⟩
  rw [hj]
  go_wp2_with fail
  go_region
  all_goals
    go_wp2_with fail
    go_ret2
    simp only [ey0]
    exact ⟨rfl, (below_drewN0 (Below.refl _ _) _).alloc (by simp) _⟩
set_option maxHeartbeats 4000000 in
theorem opened_1 (h : RgS w r ao cap l en n p o) (h0 : isS l n ⟨#[40]⟩ = false) (hj : isS l n ⟨#[91]⟩ = true) :
    Calls Try.prog 71 #[.pointer (some ⟨r, 0, none⟩)] w fun e w' => e = .returned (.tuple #[.string ⟨#[93]⟩, .int .i64 5]) ∧ Below w.heap.size w w' := by
  have I := fun m s => is_any (h.drew_ m) s
  have new := fun m => four_new (w.drewN m) 1 (by decide)
  simp at new
  clear h
  go_enter Try.func71, Try.ntmps71
  go_wp2_with fail
  refine wp_loop_rounds 2 ?_
  rw [rounds_succ]
  go_wp2_with fail
  rw [ex0]
  refine (I 0 _).mono ?_
  rintro e w0 ⟨rfl, m0, rfl⟩
  rw [h0]
  go_wp2_with fail
  rw [rounds_succ]
  go_wp2_with fail
  rw [ex1]
  refine (I _ _).mono ?_
  rintro e w1 ⟨rfl, m1, rfl⟩
  rw [hj]
  go_wp2_with fail
  go_region
  all_goals
    go_wp2_with fail
    go_ret2
    simp only [ey1]
    exact ⟨rfl, (below_drewN0 (Below.refl _ _) _).alloc (by simp) _⟩
set_option maxHeartbeats 4000000 in
theorem opened_2 (h : RgS w r ao cap l en n p o) (h0 : isS l n ⟨#[40]⟩ = false) (h1 : isS l n ⟨#[91]⟩ = false) (hj : isS l n ⟨#[123]⟩ = true) :
    Calls Try.prog 71 #[.pointer (some ⟨r, 0, none⟩)] w fun e w' => e = .returned (.tuple #[.string ⟨#[125]⟩, .int .i64 6]) ∧ Below w.heap.size w w' := by
  have I := fun m s => is_any (h.drew_ m) s
  have new := fun m => four_new (w.drewN m) 2 (by decide)
  simp at new
  clear h
  go_enter Try.func71, Try.ntmps71
  go_wp2_with fail
  refine wp_loop_rounds 3 ?_
  rw [rounds_succ]
  go_wp2_with fail
  rw [ex0]
  refine (I 0 _).mono ?_
  rintro e w0 ⟨rfl, m0, rfl⟩
  rw [h0]
  go_wp2_with fail
  rw [rounds_succ]
  go_wp2_with fail
  rw [ex1]
  refine (I _ _).mono ?_
  rintro e w1 ⟨rfl, m1, rfl⟩
  rw [h1]
  go_wp2_with fail
  rw [rounds_succ]
  go_wp2_with fail
  rw [ex2]
  refine (I _ _).mono ?_
  rintro e w2 ⟨rfl, m2, rfl⟩
  rw [hj]
  go_wp2_with fail
  go_region
  all_goals
    go_wp2_with fail
    go_ret2
    simp only [ey2]
    exact ⟨rfl, (below_drewN0 (Below.refl _ _) _).alloc (by simp) _⟩
set_option maxHeartbeats 4000000 in
theorem opened_3 (h : RgS w r ao cap l en n p o) (h0 : isS l n ⟨#[40]⟩ = false) (h1 : isS l n ⟨#[91]⟩ = false) (h2 : isS l n ⟨#[123]⟩ = false) (hj : isS l n ⟨#[60]⟩ = true) :
    Calls Try.prog 71 #[.pointer (some ⟨r, 0, none⟩)] w fun e w' => e = .returned (.tuple #[.string ⟨#[62]⟩, .int .i64 7]) ∧ Below w.heap.size w w' := by
  have I := fun m s => is_any (h.drew_ m) s
  have new := fun m => four_new (w.drewN m) 3 (by decide)
  simp at new
  clear h
  go_enter Try.func71, Try.ntmps71
  go_wp2_with fail
  refine wp_loop_rounds 4 ?_
  rw [rounds_succ]
  go_wp2_with fail
  rw [ex0]
  refine (I 0 _).mono ?_
  rintro e w0 ⟨rfl, m0, rfl⟩
  rw [h0]
  go_wp2_with fail
  rw [rounds_succ]
  go_wp2_with fail
  rw [ex1]
  refine (I _ _).mono ?_
  rintro e w1 ⟨rfl, m1, rfl⟩
  rw [h1]
  go_wp2_with fail
  rw [rounds_succ]
  go_wp2_with fail
  rw [ex2]
  refine (I _ _).mono ?_
  rintro e w2 ⟨rfl, m2, rfl⟩
  rw [h2]
  go_wp2_with fail
  rw [rounds_succ]
  go_wp2_with fail
  rw [ex3]
  refine (I _ _).mono ?_
  rintro e w3 ⟨rfl, m3, rfl⟩
  rw [hj]
  go_wp2_with fail
  go_region
  all_goals
    go_wp2_with fail
    go_ret2
    simp only [ey3]
    exact ⟨rfl, (below_drewN0 (Below.refl _ _) _).alloc (by simp) _⟩
set_option maxHeartbeats 4000000 in
theorem opened_none (h : RgS w r ao cap l en n p o) (h0 : isS l n ⟨#[40]⟩ = false) (h1 : isS l n ⟨#[91]⟩ = false) (h2 : isS l n ⟨#[123]⟩ = false) (h3 : isS l n ⟨#[60]⟩ = false) :
    Calls Try.prog 71 #[.pointer (some ⟨r, 0, none⟩)] w fun e w' => e = .returned (.tuple #[.string ⟨#[]⟩, .int .i64 0]) ∧ Below w.heap.size w w' := by
  have I := fun m s => is_any (h.drew_ m) s
  clear h
  go_enter Try.func71, Try.ntmps71
  go_wp2_with fail
  refine wp_loop_rounds 5 ?_
  rw [rounds_succ]
  go_wp2_with fail
  rw [ex0]
  refine (I 0 _).mono ?_
  rintro e w0 ⟨rfl, m0, rfl⟩
  rw [h0]
  go_wp2_with fail
  rw [rounds_succ]
  go_wp2_with fail
  rw [ex1]
  refine (I _ _).mono ?_
  rintro e w1 ⟨rfl, m1, rfl⟩
  rw [h1]
  go_wp2_with fail
  rw [rounds_succ]
  go_wp2_with fail
  rw [ex2]
  refine (I _ _).mono ?_
  rintro e w2 ⟨rfl, m2, rfl⟩
  rw [h2]
  go_wp2_with fail
  rw [rounds_succ]
  go_wp2_with fail
  rw [ex3]
  refine (I _ _).mono ?_
  rintro e w3 ⟨rfl, m3, rfl⟩
  rw [h3]
  go_wp2_with fail
  rw [rounds_succ]
  go_wp2_with fail
  go_ret2
  exact ⟨rfl, below_drewN0 (Below.refl _ _) _⟩
theorem opened_yes (h : RgS w r ao cap l en n p o) (ho : opn l n = true) :
    Calls Try.prog 71 #[.pointer (some ⟨r, 0, none⟩)] w fun e w' => e = .returned (.tuple #[.string (brk (txt l n)).2, .int .i64 (brk (txt l n)).1]) ∧ Below w.heap.size w w' := by
  by_cases h0 : isS l n ⟨#[40]⟩ = true
  · rw [(isS_brk h0 (by decide)).2]; exact opened_0 h h0
  by_cases h1 : isS l n ⟨#[91]⟩ = true
  · rw [(isS_brk h1 (by decide)).2]; exact opened_1 h (by simpa using h0) h1
  by_cases h2 : isS l n ⟨#[123]⟩ = true
  · rw [(isS_brk h2 (by decide)).2]; exact opened_2 h (by simpa using h0) (by simpa using h1) h2
  by_cases h3 : isS l n ⟨#[60]⟩ = true
  · rw [(isS_brk h3 (by decide)).2]; exact opened_3 h (by simpa using h0) (by simpa using h1) (by simpa using h2) h3
  exact absurd ho (by rw [opn_no (by simpa using h0) (by simpa using h1) (by simpa using h2) (by simpa using h3)]; decide)
theorem opened_no (h : RgS w r ao cap l en n p o) (ho : opn l n = false) :
    Calls Try.prog 71 #[.pointer (some ⟨r, 0, none⟩)] w fun e w' => e = .returned (.tuple #[.string ⟨#[]⟩, .int .i64 0]) ∧ Below w.heap.size w w' := by
  have hf : ∀ s, (brk s).2 ≠ ⟨#[]⟩ → isS l n s = false := fun s hs => by
    by_cases h1 : isS l n s = true
    · have := (isS_brk h1 hs).1; rw [ho] at this; cases this
    · simpa using h1
  exact opened_none h (hf _ (by decide)) (hf _ (by decide)) (hf _ (by decide)) (hf _ (by decide))
end
end Go.Proofs.Ythbbfddclhcoaaa
