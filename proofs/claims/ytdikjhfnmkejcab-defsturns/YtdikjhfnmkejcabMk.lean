/- The small functions of package render: rounded, ownParts, formed, named, marks. -/
import Derived.Test.YtdikjhfnmkejcabRm
import Derived.Test.YtdikjhfnmkejcabRead
import Derived.Test.YtdikjhfnmkejcabProg
namespace Go.Proofs.Ytdikjhfnmkejcab
open Go.RowKit

theorem al2 (w : World) (o p : Obj) : Below w.heap.size w ((w.alloc o).alloc p) := ((Below.refl _ _).alloc (Nat.le_refl _) _).alloc (by simp) _
theorem al1 (w : World) (o : Obj) : Below w.heap.size w (w.alloc o) := (Below.refl _ _).alloc (Nat.le_refl _) _
set_option maxRecDepth 100000 in
set_option maxHeartbeats 4000000 in
theorem rounded_any (a b : Int) (s t : ByteArray) (p q : Option Addr) (m n c d : Nat) (w : World) :
    Calls Try.prog 73 #[.agg #[.int .i64 a, .string s, .slice p m c], .agg #[.int .i64 b, .string t, .slice q n d]] w fun e w' => e = .returned (.bool (rnd b a)) ∧ Below w.heap.size w w' := by
  by_cases h4 : a = 4
  · subst h4
    by_cases h3 : b = 3
    · subst h3
      go_enter Try.func73, Try.ntmps73
      go_wp2_with fail
      go_ret
      exact ⟨rfl, al2 _ _ _⟩
    · by_cases hb4 : b = 4
      · subst hb4
        go_enter Try.func73, Try.ntmps73
        go_wp2_with fail
        go_ret
        exact ⟨rfl, al2 _ _ _⟩
      · have r : rnd b 4 = false := by simp [rnd, h3, hb4]
        rw [r]
        go_enter Try.func73, Try.ntmps73
        go_wp2_with fail
        go_ret
        exact ⟨ret_bool (by simp [h3, hb4]), al2 _ _ _⟩
  · by_cases h3 : a = 3
    · subst h3
      by_cases hb : b = 3
      · subst hb
        go_enter Try.func73, Try.ntmps73
        go_wp2_with fail
        go_ret
        exact ⟨rfl, al2 _ _ _⟩
      · have r : rnd b 3 = false := by simp [rnd, hb]
        rw [r]
        go_enter Try.func73, Try.ntmps73
        go_wp2_with fail
        go_ret
        exact ⟨ret_bool (by simp [hb]), al2 _ _ _⟩
    · have r : rnd b a = false := by simp [rnd, h3, h4]
      rw [r]
      go_enter Try.func73, Try.ntmps73
      go_wp2_with fail
      go_ret
      exact ⟨rfl, al2 _ _ _⟩
set_option maxRecDepth 100000 in
set_option maxHeartbeats 4000000 in
theorem ownParts_any (a : Int) (s : ByteArray) (p : Option Addr) (m c : Nat) (w : World) (hm : m ≤ 9223372036854775807) :
    Calls Try.prog 88 #[.agg #[.int .i64 a, .string s, .slice p m c]] w fun e w' => e = .returned (.int .i64 ((own a m : Nat) : Int)) ∧ Below w.heap.size w w' := by
  by_cases h3 : a = 3
  · subst h3
    go_enter Try.func88, Try.ntmps88
    go_wp2_with fail
    go_ret
    exact ⟨rfl, al1 _ _⟩
  · by_cases h4 : a = 4
    · subst h4
      go_enter Try.func88, Try.ntmps88
      go_wp2_with fail
      go_ret
      exact ⟨ret_int (by simp only [own]; simp; omega), al1 _ _⟩
    · have r : own a m = 1 := by simp [own, h3, h4]
      rw [r]
      go_enter Try.func88, Try.ntmps88
      go_wp2_with fail
      go_ret
      exact ⟨rfl, al1 _ _⟩
theorem toList0 {s : ByteArray} (h : s.size = 0) : s.toList = [] := by
  rw [ByteArray.toList_eq]
  exact List.eq_nil_of_length_eq_zero (by simpa using h)
theorem toList1 {s : ByteArray} (h : ¬ s.size = 0) : ¬ s.toList = [] := by
  rw [ByteArray.toList_eq]
  intro e
  exact h (by have := congrArg List.length e; simpa using this)
set_option maxRecDepth 100000 in
set_option maxHeartbeats 4000000 in
theorem formed_any (a : Int) (s : ByteArray) (p : Option Addr) (m c : Nat) (w : World) (hm : m ≤ 9223372036854775807) :
    Calls Try.prog 89 #[.agg #[.int .i64 a, .string s, .slice p m c]] w fun e w' => e = .returned (.bool (formB a s m)) ∧ Below w.heap.size w w' := by
  by_cases h1 : a = 1
  · subst h1
    go_enter Try.func89, Try.ntmps89
    go_wp2_with fail
    go_ret
    exact ⟨ret_bool (by rw [Bool.eq_iff_iff]; simp [formB]; try omega), al1 _ _⟩
  by_cases h2 : a = 2
  · subst h2
    go_enter Try.func89, Try.ntmps89
    go_wp2_with fail
    go_ret
    exact ⟨ret_bool (by rw [Bool.eq_iff_iff]; simp [formB]; try omega), al1 _ _⟩
  by_cases h3 : a = 3
  · subst h3
    by_cases hs : s.size = 0
    · have e := toList0 hs
      go_enter Try.func89, Try.ntmps89
      go_wp2_with fail
      go_ret
      exact ⟨ret_bool (by rw [Bool.eq_iff_iff]; simp only [formB]; simp [hs]; try omega), al1 _ _⟩
    · have e := toList1 hs
      go_enter Try.func89, Try.ntmps89
      go_wp2_with fail
      go_ret
      exact ⟨ret_bool (by rw [Bool.eq_iff_iff]; simp only [formB]; simp [hs]; try omega), al1 _ _⟩
  by_cases h4 : a = 4
  · subst h4
    by_cases hs : s.size = 0
    · have e := toList0 hs
      go_enter Try.func89, Try.ntmps89
      go_wp2_with fail
      go_ret
      exact ⟨ret_bool (by rw [Bool.eq_iff_iff]; simp only [formB]; simp [hs]; try omega), al1 _ _⟩
    · have e := toList1 hs
      go_enter Try.func89, Try.ntmps89
      go_wp2_with fail
      go_ret
      exact ⟨ret_bool (by rw [Bool.eq_iff_iff]; simp only [formB]; simp [hs]; try omega), al1 _ _⟩
  by_cases h5 : a = 5
  · subst h5
    by_cases hs : s.size = 0
    · have e := toList0 hs
      go_enter Try.func89, Try.ntmps89
      go_wp2_with fail
      go_ret
      exact ⟨ret_bool (by rw [Bool.eq_iff_iff]; simp only [formB]; simp [hs]; try omega), al1 _ _⟩
    · have e := toList1 hs
      go_enter Try.func89, Try.ntmps89
      go_wp2_with fail
      go_ret
      exact ⟨ret_bool (by rw [Bool.eq_iff_iff]; simp only [formB]; simp [hs]; try omega), al1 _ _⟩
  by_cases h6 : a = 6
  · subst h6
    by_cases hs : s.size = 0
    · have e := toList0 hs
      go_enter Try.func89, Try.ntmps89
      go_wp2_with fail
      go_ret
      exact ⟨ret_bool (by rw [Bool.eq_iff_iff]; simp only [formB]; simp [hs]; try omega), al1 _ _⟩
    · have e := toList1 hs
      go_enter Try.func89, Try.ntmps89
      go_wp2_with fail
      go_ret
      exact ⟨ret_bool (by rw [Bool.eq_iff_iff]; simp only [formB]; simp [hs]; try omega), al1 _ _⟩
  by_cases h7 : a = 7
  · subst h7
    by_cases hs : s.size = 0
    · have e := toList0 hs
      go_enter Try.func89, Try.ntmps89
      go_wp2_with fail
      go_ret
      exact ⟨ret_bool (by rw [Bool.eq_iff_iff]; simp only [formB]; simp [hs]; try omega), al1 _ _⟩
    · have e := toList1 hs
      go_enter Try.func89, Try.ntmps89
      go_wp2_with fail
      go_ret
      exact ⟨ret_bool (by rw [Bool.eq_iff_iff]; simp only [formB]; simp [hs]; try omega), al1 _ _⟩
  have r : formB a s m = false := by simp [formB, h1, h2, h3, h4, h5, h6, h7]
  rw [r]
  go_enter Try.func89, Try.ntmps89
  go_wp2_with fail
  go_ret
  exact ⟨rfl, al1 _ _⟩
set_option maxRecDepth 100000 in
set_option maxHeartbeats 4000000 in
theorem named_any (a : Int) (s : ByteArray) (p : Option Addr) (m c : Nat) (w : World) (hs : s.size ≤ 5000) :
    Calls Try.prog 90 #[.agg #[.int .i64 a, .string s, .slice p m c]] w fun e w' => e = .returned (.bool (namB a s)) ∧ Below w.heap.size w w' := by
  have hx : s.size ≤ maxLen := by unfold maxLen; omega
  by_cases h1 : a = 1
  · subst h1
    have T := fun w => term_any s w hx
    have r : namB 1 s = isTermB s := rfl
    rw [r]
    generalize isTermB s = B at *
    go_enter Try.func90, Try.ntmps90
    go_wp2_with fail
    refine (T _).mono ?_
    rintro e w' ⟨rfl, rfl⟩
    go_wp2_with fail
    go_ret
    exact ⟨rfl, al1 _ _⟩
  by_cases h2 : a = 2
  · subst h2
    have T := fun w => name_any s w hx
    have r : namB 2 s = isNameB s := rfl
    rw [r]
    generalize isNameB s = B at *
    go_enter Try.func90, Try.ntmps90
    go_wp2_with fail
    refine (T _).mono ?_
    rintro e w' ⟨rfl, rfl⟩
    go_wp2_with fail
    go_ret
    exact ⟨rfl, al1 _ _⟩
  have r : namB a s = true := by simp [namB, h1, h2]
  rw [r]
  go_enter Try.func90, Try.ntmps90
  go_wp2_with fail
  go_ret
  exact ⟨rfl, al1 _ _⟩
set_option maxRecDepth 100000 in
set_option maxHeartbeats 4000000 in
theorem marks_any (a : Int) (w : World) :
    Calls Try.prog 72 #[.int .i64 a] w fun e w' => e = .returned (.tuple #[.string ⟨(bef a).toArray⟩, .string ⟨(btw a).toArray⟩, .string ⟨(beh a).toArray⟩]) ∧ w' = w := by
  by_cases h1 : a = 1
  · subst h1
    go_enter Try.func72, Try.ntmps72
    go_wp2_with fail
    exact bodyPost_ret (v := .tuple #[.string ⟨(bef 1).toArray⟩, .string ⟨(btw 1).toArray⟩, .string ⟨(beh 1).toArray⟩]) (by simp [results, Try.results72, go_sem, bef, btw, beh]) rfl ⟨rfl, rfl⟩
  by_cases h3 : a = 3
  · subst h3
    go_enter Try.func72, Try.ntmps72
    go_wp2_with fail
    exact bodyPost_ret (v := .tuple #[.string ⟨(bef 3).toArray⟩, .string ⟨(btw 3).toArray⟩, .string ⟨(beh 3).toArray⟩]) (by simp [results, Try.results72, go_sem, bef, btw, beh]) rfl ⟨rfl, rfl⟩
  by_cases h4 : a = 4
  · subst h4
    go_enter Try.func72, Try.ntmps72
    go_wp2_with fail
    exact bodyPost_ret (v := .tuple #[.string ⟨(bef 4).toArray⟩, .string ⟨(btw 4).toArray⟩, .string ⟨(beh 4).toArray⟩]) (by simp [results, Try.results72, go_sem, bef, btw, beh]) rfl ⟨rfl, rfl⟩
  by_cases h5 : a = 5
  · subst h5
    go_enter Try.func72, Try.ntmps72
    go_wp2_with fail
    exact bodyPost_ret (v := .tuple #[.string ⟨(bef 5).toArray⟩, .string ⟨(btw 5).toArray⟩, .string ⟨(beh 5).toArray⟩]) (by simp [results, Try.results72, go_sem, bef, btw, beh]) rfl ⟨rfl, rfl⟩
  by_cases h6 : a = 6
  · subst h6
    go_enter Try.func72, Try.ntmps72
    go_wp2_with fail
    exact bodyPost_ret (v := .tuple #[.string ⟨(bef 6).toArray⟩, .string ⟨(btw 6).toArray⟩, .string ⟨(beh 6).toArray⟩]) (by simp [results, Try.results72, go_sem, bef, btw, beh]) rfl ⟨rfl, rfl⟩
  by_cases h7 : a = 7
  · subst h7
    go_enter Try.func72, Try.ntmps72
    go_wp2_with fail
    exact bodyPost_ret (v := .tuple #[.string ⟨(bef 7).toArray⟩, .string ⟨(btw 7).toArray⟩, .string ⟨(beh 7).toArray⟩]) (by simp [results, Try.results72, go_sem, bef, btw, beh]) rfl ⟨rfl, rfl⟩
  have r1 : bef a = [] := by simp [bef, h1, h5, h6, h7]
  have r2 : btw a = [] := by simp [btw, h3, h4]
  have r3 : beh a = [] := by simp [beh, h1, h5, h6, h7]
  rw [r1, r2, r3]
  go_enter Try.func72, Try.ntmps72
  go_wp2_with fail
  exact bodyPost_ret (v := .tuple #[.string ⟨#[]⟩, .string ⟨#[]⟩, .string ⟨#[]⟩]) (by simp [results, Try.results72, go_sem]) rfl ⟨rfl, rfl⟩
end Go.Proofs.Ytdikjhfnmkejcab
