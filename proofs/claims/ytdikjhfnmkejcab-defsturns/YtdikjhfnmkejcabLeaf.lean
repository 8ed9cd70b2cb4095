/- The small functions, and the scan that goes on by a function that it is handed. -/
import Derived.Test.YtdikjhfnmkejcabProg
import Derived.Test.YtdikjhfnmkejcabShelf
import Derived.Test.YtdikjhfnmkejcabMath
import Derived.WalkKit
import Derived.WalkSpells
import Derived.WalkLawsBesides
namespace Go.Proofs.Ytdikjhfnmkejcab
open Go.RowKit

theorem ret_bool {a b : Bool} (h : a = b) : Ending.returned (.bool a) = .returned (.bool b) := by rw [h]
theorem ret_int {a b : Int} (h : a = b) : Ending.returned (.int .i64 a) = .returned (.int .i64 b) := by rw [h]

set_option maxRecDepth 100000 in
set_option maxHeartbeats 400000 in
theorem isLetter_any (c : Int) (w : World) :
    Calls Try.prog 77 #[.int .u8 c] w fun e w' => e = .returned (.bool (letB c)) ∧ w' = w := by
  go_enter Try.func77, Try.ntmps77
  go_wp2
  all_goals go_ret
  all_goals exact ⟨ret_bool (by rw [Bool.eq_iff_iff]; simp [letB]; try omega), rfl⟩
set_option maxRecDepth 100000 in
set_option maxHeartbeats 400000 in
theorem inName_any (c : Int) (w : World) :
    Calls Try.prog 87 #[.int .u8 c] w fun e w' => e = .returned (.bool (nameB c)) ∧ w' = w := by
  go_enter Try.func87, Try.ntmps87
  go_wp2_with (go_at_call 77; refine (isLetter_any _ _).mono ?_; rintro e w' ⟨rfl, rfl⟩)
  all_goals go_ret
  all_goals exact ⟨ret_bool (by rw [Bool.eq_iff_iff]; simp [nameB, digB, *]; try omega), rfl⟩
set_option maxRecDepth 100000 in
set_option maxHeartbeats 400000 in
theorem inTerm_any (c : Int) (w : World) :
    Calls Try.prog 95 #[.int .u8 c] w fun e w' => e = .returned (.bool (termB c)) ∧ w' = w := by
  go_enter Try.func95, Try.ntmps95
  go_wp2
  all_goals go_ret
  all_goals exact ⟨ret_bool (by rw [Bool.eq_iff_iff]; simp [termB, *]; try omega), rfl⟩
def fitsB (s : ByteArray) : Bool := decide (1 ≤ s.size) && decide (s.size ≤ 12)
set_option maxRecDepth 100000 in
set_option maxHeartbeats 400000 in
theorem fits_any (s : ByteArray) (w : World) (hs : s.size ≤ maxLen) :
    Calls Try.prog 86 #[.string s] w fun e w' => e = .returned (.bool (fitsB s)) ∧ w' = w := by
  unfold maxLen at hs
  go_enter Try.func86, Try.ntmps86
  go_wp2
  all_goals go_ret
  all_goals exact ⟨ret_bool (by rw [Bool.eq_iff_iff]; simp [fitsB]; try omega), rfl⟩
def memB (t : ByteArray) (c : Int) : Bool := decide (0 ≤ Lib.indexByte t.data.toList c.toNat.toUInt8)
set_option maxRecDepth 100000 in
set_option maxHeartbeats 400000 in
theorem oneOf1_any (c : Int) (t : ByteArray) (b : Nat) (w : World) (hc : w.cell? ⟨b, 0, none⟩ = some (.string t)) :
    Calls Try.prog 92 #[.int .u8 c, .pointer (some ⟨b, 0, none⟩)] w fun e w' => e = .returned (.bool (memB t c)) ∧ w' = w := by
  go_enter Try.func92, Try.ntmps92
  go_wp2_with (go_at_call 93; refine (Try.strings_IndexByte _ _ _).mono ?_; rintro e w' ⟨rfl, rfl⟩)
  all_goals go_ret
  all_goals exact ⟨ret_bool (by simp [memB]), rfl⟩
set_option maxRecDepth 100000 in
set_option maxHeartbeats 400000 in
theorem upTo1_any (c d : Int) (b : Nat) (w : World) (hc : w.cell? ⟨b, 0, none⟩ = some (.int .u8 d)) :
    Calls Try.prog 94 #[.int .u8 c, .pointer (some ⟨b, 0, none⟩)] w fun e w' => e = .returned (.bool (c != d)) ∧ w' = w := by
  go_enter Try.func94, Try.ntmps94
  go_wp2
  all_goals go_ret
  all_goals exact ⟨ret_bool (by first | rfl | (rw [Bool.eq_iff_iff]; simp)), rfl⟩
set_option maxRecDepth 100000 in
set_option maxHeartbeats 400000 in
theorem oneOf_any (t : ByteArray) (w : World) :
    Calls Try.prog 75 #[.string t] w fun e w' => e = .returned (.func (.func 92) #[] #[.pointer (some ⟨w.heap.size, 0, none⟩)]) ∧ w' = w.alloc (.cells #[.string t] 9) := by
  go_enter Try.func75, Try.ntmps75
  go_wp2
  go_ret
  exact ⟨rfl, rfl⟩
set_option maxRecDepth 100000 in
set_option maxHeartbeats 400000 in
theorem upTo_any (c : Int) (w : World) :
    Calls Try.prog 76 #[.int .u8 c] w fun e w' => e = .returned (.func (.func 94) #[] #[.pointer (some ⟨w.heap.size, 0, none⟩)]) ∧ w' = w.alloc (.cells #[.int .u8 c] 5) := by
  go_enter Try.func76, Try.ntmps76
  go_wp2
  go_ret
  exact ⟨rfl, rfl⟩

set_option maxRecDepth 100000 in
set_option maxHeartbeats 400000 in
theorem over_inName (s : ByteArray) (a : Int) (w : World) (hs : s.size ≤ maxLen) (h0 : 0 ≤ a) (ha : a ≤ s.size) :
    Calls Try.prog 74 #[.string s, .int .i64 a, .func (.func 87) #[] #[]] w fun e w' => e = .returned (.int .i64 (over nameB s a.toNat)) ∧ w' = w := by
  unfold maxLen at hs
  obtain ⟨n, rfl⟩ := Int.eq_ofNat_of_zero_le h0
  rw [Int.toNat_natCast]
  go_enter Try.func74, Try.ntmps74
  go_wp2
  go_loop [1] (fun i => ∃ k : Nat, k ≤ s.size ∧ i = .int .i64 k ∧ Hid (over nameB s k = over nameB s n)) (fun i => s.size - (intOf i).toNat)
  case atStart => exact ⟨n, by omega, rfl, hd rfl⟩
  case round =>
    obtain ⟨k, hk, rfl, ho⟩ := hrel
    by_cases hlt : k < s.size
    · go_wp2_with (go_at_call 87; refine (inName_any _ _).mono ?_; rintro e w' ⟨rfl, rfl⟩)
      · have hp : nameB (s[k].toNat : Int) = true := by assumption
        go_round
        case rel => exact ⟨k + 1, by omega, by go_num, hd ((over_yes hlt hp).trans ho.out)⟩
        case measure => simp [intOf]; omega
      · have hp : nameB (s[k].toNat : Int) = false := by assumption
        go_ret
        exact ⟨ret_int (by rw [← ho.out, over_no hlt hp]), rfl⟩
    · go_wp2
      go_ret
      exact ⟨ret_int (by rw [← ho.out, over_end (by omega)]), rfl⟩
set_option maxRecDepth 100000 in
set_option maxHeartbeats 400000 in
theorem over_inTerm (s : ByteArray) (a : Int) (w : World) (hs : s.size ≤ maxLen) (h0 : 0 ≤ a) (ha : a ≤ s.size) :
    Calls Try.prog 74 #[.string s, .int .i64 a, .func (.func 95) #[] #[]] w fun e w' => e = .returned (.int .i64 (over termB s a.toNat)) ∧ w' = w := by
  unfold maxLen at hs
  obtain ⟨n, rfl⟩ := Int.eq_ofNat_of_zero_le h0
  rw [Int.toNat_natCast]
  go_enter Try.func74, Try.ntmps74
  go_wp2
  go_loop [1] (fun i => ∃ k : Nat, k ≤ s.size ∧ i = .int .i64 k ∧ Hid (over termB s k = over termB s n)) (fun i => s.size - (intOf i).toNat)
  case atStart => exact ⟨n, by omega, rfl, hd rfl⟩
  case round =>
    obtain ⟨k, hk, rfl, ho⟩ := hrel
    by_cases hlt : k < s.size
    · go_wp2_with (go_at_call 95; refine (inTerm_any _ _).mono ?_; rintro e w' ⟨rfl, rfl⟩)
      · have hp : termB (s[k].toNat : Int) = true := by assumption
        go_round
        case rel => exact ⟨k + 1, by omega, by go_num, hd ((over_yes hlt hp).trans ho.out)⟩
        case measure => simp [intOf]; omega
      · have hp : termB (s[k].toNat : Int) = false := by assumption
        go_ret
        exact ⟨ret_int (by rw [← ho.out, over_no hlt hp]), rfl⟩
    · go_wp2
      go_ret
      exact ⟨ret_int (by rw [← ho.out, over_end (by omega)]), rfl⟩
set_option maxRecDepth 100000 in
set_option maxHeartbeats 400000 in
theorem over_oneOf (s t : ByteArray) (a : Int) (b : Nat) (w : World) (hs : s.size ≤ maxLen) (h0 : 0 ≤ a) (ha : a ≤ s.size) (hc : w.cell? ⟨b, 0, none⟩ = some (.string t)) :
    Calls Try.prog 74 #[.string s, .int .i64 a, .func (.func 92) #[] #[.pointer (some ⟨b, 0, none⟩)]] w fun e w' => e = .returned (.int .i64 (over (memB t) s a.toNat)) ∧ w' = w := by
  unfold maxLen at hs
  obtain ⟨n, rfl⟩ := Int.eq_ofNat_of_zero_le h0
  rw [Int.toNat_natCast]
  go_enter Try.func74, Try.ntmps74
  go_wp2
  go_loop [1] (fun i => ∃ k : Nat, k ≤ s.size ∧ i = .int .i64 k ∧ Hid (over (memB t) s k = over (memB t) s n)) (fun i => s.size - (intOf i).toNat)
  case atStart => exact ⟨n, by omega, rfl, hd rfl⟩
  case round =>
    obtain ⟨k, hk, rfl, ho⟩ := hrel
    by_cases hlt : k < s.size
    · go_wp2_with (go_at_call 92; refine (oneOf1_any _ _ _ _ hc).mono ?_; rintro e w' ⟨rfl, rfl⟩)
      · have hp : memB t (s[k].toNat : Int) = true := by assumption
        go_round
        case rel => exact ⟨k + 1, by omega, by go_num, hd ((over_yes hlt hp).trans ho.out)⟩
        case measure => simp [intOf]; omega
      · have hp : memB t (s[k].toNat : Int) = false := by assumption
        go_ret
        exact ⟨ret_int (by rw [← ho.out, over_no hlt hp]), rfl⟩
    · go_wp2
      go_ret
      exact ⟨ret_int (by rw [← ho.out, over_end (by omega)]), rfl⟩
set_option maxRecDepth 100000 in
set_option maxHeartbeats 400000 in
theorem over_upTo (s : ByteArray) (a d : Int) (b : Nat) (w : World) (hs : s.size ≤ maxLen) (h0 : 0 ≤ a) (ha : a ≤ s.size) (hc : w.cell? ⟨b, 0, none⟩ = some (.int .u8 d)) :
    Calls Try.prog 74 #[.string s, .int .i64 a, .func (.func 94) #[] #[.pointer (some ⟨b, 0, none⟩)]] w fun e w' => e = .returned (.int .i64 (over (fun c => c != d) s a.toNat)) ∧ w' = w := by
  unfold maxLen at hs
  obtain ⟨n, rfl⟩ := Int.eq_ofNat_of_zero_le h0
  rw [Int.toNat_natCast]
  go_enter Try.func74, Try.ntmps74
  go_wp2
  go_loop [1] (fun i => ∃ k : Nat, k ≤ s.size ∧ i = .int .i64 k ∧ Hid (over (fun c => c != d) s k = over (fun c => c != d) s n)) (fun i => s.size - (intOf i).toNat)
  case atStart => exact ⟨n, by omega, rfl, hd rfl⟩
  case round =>
    obtain ⟨k, hk, rfl, ho⟩ := hrel
    by_cases hlt : k < s.size
    · go_wp2_with (go_at_call 94; refine (upTo1_any _ _ _ _ hc).mono ?_; rintro e w' ⟨rfl, rfl⟩)
      · have hp : ((s[k].toNat : Int) != d) = true := by assumption
        go_round
        case rel => exact ⟨k + 1, by omega, by go_num, hd ((over_yes (p := fun c => c != d) hlt hp).trans ho.out)⟩
        case measure => simp [intOf]; omega
      · have hp : ((s[k].toNat : Int) != d) = false := by assumption
        go_ret
        exact ⟨ret_int (by rw [← ho.out, over_no (p := fun c => c != d) hlt hp]), rfl⟩
    · go_wp2
      go_ret
      exact ⟨ret_int (by rw [← ho.out, over_end (by omega)]), rfl⟩
theorem over_inNameN (s : ByteArray) (n : Nat) (w : World) (hs : s.size ≤ maxLen) (ha : n ≤ s.size) :
    Calls Try.prog 74 #[.string s, .int .i64 n, .func (.func 87) #[] #[]] w fun e w' => e = .returned (.int .i64 (over nameB s n)) ∧ w' = w := by
  have := over_inName s n w hs (by omega) (by omega); rwa [Int.toNat_natCast] at this
theorem over_inTermN (s : ByteArray) (n : Nat) (w : World) (hs : s.size ≤ maxLen) (ha : n ≤ s.size) :
    Calls Try.prog 74 #[.string s, .int .i64 n, .func (.func 95) #[] #[]] w fun e w' => e = .returned (.int .i64 (over termB s n)) ∧ w' = w := by
  have := over_inTerm s n w hs (by omega) (by omega); rwa [Int.toNat_natCast] at this
theorem over_oneOfN (s t : ByteArray) (n : Nat) (b : Nat) (w : World) (hs : s.size ≤ maxLen) (ha : n ≤ s.size) (hc : w.cell? ⟨b, 0, none⟩ = some (.string t)) :
    Calls Try.prog 74 #[.string s, .int .i64 n, .func (.func 92) #[] #[.pointer (some ⟨b, 0, none⟩)]] w fun e w' => e = .returned (.int .i64 (over (memB t) s n)) ∧ w' = w := by
  have := over_oneOf s t n b w hs (by omega) (by omega) hc; rwa [Int.toNat_natCast] at this
theorem over_upToN (s : ByteArray) (n : Nat) (d : Int) (b : Nat) (w : World) (hs : s.size ≤ maxLen) (ha : n ≤ s.size) (hc : w.cell? ⟨b, 0, none⟩ = some (.int .u8 d)) :
    Calls Try.prog 74 #[.string s, .int .i64 n, .func (.func 94) #[] #[.pointer (some ⟨b, 0, none⟩)]] w fun e w' => e = .returned (.int .i64 (over (fun c => c != d) s n)) ∧ w' = w := by
  have := over_upTo s n d b w hs (by omega) (by omega) hc; rwa [Int.toNat_natCast] at this
end Go.Proofs.Ytdikjhfnmkejcab
