/- What is skipped: token.skip and graftworkref.skipped come to one number. -/
import Derived.Test.YtdikjhfnmkejcabLeaf
namespace Go.Proofs.Ytdikjhfnmkejcab
open Go.RowKit

theorem over_congr {p q : Int → Bool} (h : ∀ c : UInt8, p c.toNat = q c.toNat) (s : ByteArray) (a : Nat) : over p s a = over q s a := by
  have e : (fun c : UInt8 => p c.toNat) = (fun c : UInt8 => q c.toNat) := funext h
  unfold over wh; rw [e]
theorem all_bytes {P : Nat → Bool} (h : (List.range 256).all P = true) (c : UInt8) : P c.toNat = true := by
  rw [List.all_eq_true] at h
  exact h _ (by simpa using c.toNat_lt)
theorem memB_blank (c : UInt8) : memB ⟨#[32, 9, 13, 10]⟩ c.toNat = blankB c.toNat := by
  have := all_bytes (P := fun n => memB ⟨#[32, 9, 13, 10]⟩ n == blankB n) (by decide +kernel) c
  simpa using this
theorem memB_sign (c : UInt8) : memB ⟨#[61, 59, 124, 40, 41, 91, 93, 123, 125, 60, 62]⟩ c.toNat = signB c.toNat := by
  have := all_bytes (P := fun n => memB ⟨#[61, 59, 124, 40, 41, 91, 93, 123, 125, 60, 62]⟩ n == signB n) (by decide +kernel) c
  simpa using this
theorem over_blanks (s : ByteArray) (a : Nat) : over (memB ⟨#[32, 9, 13, 10]⟩) s a = over blankB s a := over_congr memB_blank s a

theorem over_blank_not {s : ByteArray} {a : Nat} (ha : a ≤ s.size) (h : over blankB s a < s.size) : blankB (bt s (over blankB s a)) = false :=
  (over_spec blankB s a ha).2 h

set_option maxRecDepth 100000 in
set_option maxHeartbeats 1000000 in
theorem skip_any (s : ByteArray) (a : Int) (w : World) (hs : s.size ≤ maxLen) (h0 : 0 ≤ a) (ha : a ≤ s.size) :
    Calls Try.prog 58 #[.string s, .int .i64 a] w fun e w' => e = .returned (.int .i64 (skip s a.toNat)) ∧ Below w.heap.size w w' := by
  have hs' := hs
  unfold maxLen at hs'
  obtain ⟨n, rfl⟩ := Int.eq_ofNat_of_zero_le h0
  rw [Int.toNat_natCast]
  go_enter Try.func58, Try.ntmps58
  go_wp2_with fail
  refine (oneOf_any _ _).mono ?_
  rintro e w1 ⟨rfl, rfl⟩
  go_wp2_with fail
  refine (over_oneOfN s ⟨#[32, 9, 13, 10]⟩ _ _ _ hs (by omega) (by simp)).mono ?_
  rintro e w1 ⟨rfl, rfl⟩
  rw [over_blanks]
  go_wp2_with fail
  go_loopw [1] (fun i wr => ∃ k : Nat, k ≤ s.size ∧ i = .int .i64 k ∧ Hid (skip s k = skip s n) ∧ Hid (k < s.size → blankB (bt s k) = false) ∧ Below w.heap.size w wr) (fun i _ => s.size - (intOf i).toNat)
  case atStart => exact ⟨_, over_le _ _ _ (by omega), rfl, hd (skip_over (by omega)), hd (over_blank_not (by omega)), (Below.refl _ _).alloc (Nat.le_refl _) _⟩
  case round =>
    obtain ⟨k, hk, rfl, ho, hb, hw⟩ := hrel
    have hz := hw.size
    by_cases hlt : k < s.size
    · by_cases hh : ((s[k].toNat : Int) == 35) = true
      · have hn : nameB 35 = false := by decide
        go_wp2_with fail
        refine (upTo_any _ _).mono ?_
        rintro e w1 ⟨rfl, rfl⟩
        go_wp2_with fail
        refine (over_upToN s _ 10 _ _ hs (by omega) (by simp)).mono ?_
        rintro e w1 ⟨rfl, rfl⟩
        have ek : over (fun c => c != 10) s k = over lineB s k := rfl
        rw [ek]; clear ek
        have l1 := over_le lineB s k hk
        have g1 : k + 1 ≤ over lineB s k := by
          have := over_ge lineB s (k + 1)
          rwa [over_yes hlt (by simp only [beq_iff_eq] at hh; rw [hh]; decide)] at this
        have e1 := skip_hash hlt hh
        generalize over lineB s k = k1 at *
        have E1 := hd (e1.trans ho.out)
        clear e1 ho hb hn
        go_wp2_with fail
        refine (oneOf_any _ _).mono ?_
        rintro e w1 ⟨rfl, rfl⟩
        go_wp2_with fail
        refine (over_oneOfN s ⟨#[32, 9, 13, 10]⟩ _ _ _ hs (by omega) (by simp)).mono ?_
        rintro e w1 ⟨rfl, rfl⟩
        rw [over_blanks]
        have l2 := over_le blankB s k1 l1
        have g2 := over_ge blankB s k1
        have e2 := skip_over l1
        have b2 := over_blank_not l1
        generalize over blankB s k1 = k2 at *
        have E2 := hd (e2.trans E1.out)
        have B2 := hd b2
        clear e2 E1 b2
        go_wp2_with fail
        go_roundw
        case rel => exact ⟨k2, l2, rfl, E2, B2, ((hw.alloc hz _).alloc (by simp; omega) _)⟩
        case measure => simp [intOf]; omega
      · have hh' : ((s[k].toNat : Int) == 35) = false := by simpa using hh
        clear hh
        go_wp2_with fail
        go_ret
        exact ⟨ret_int (by rw [← ho.out, skip_stop hlt (by have := hb.out hlt; rwa [bt_lt hlt] at this) hh']), hw⟩
    · go_wp2_with fail
      go_ret
      exact ⟨ret_int (by rw [← ho.out, skip_end (by omega)]), hw⟩
end Go.Proofs.Ytdikjhfnmkejcab
