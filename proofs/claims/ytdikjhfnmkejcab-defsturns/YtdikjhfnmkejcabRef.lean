/- The small functions of the document's own answer, and Name and Term of package token. -/
import Derived.Test.YtdikjhfnmkejcabSkip
namespace Go.Proofs.Ytdikjhfnmkejcab
open Go.RowKit

set_option maxRecDepth 100000 in
set_option maxHeartbeats 400000 in
theorem rIsLetter_any (c : Int) (w : World) :
    Calls Try.prog 51 #[.int .u8 c] w fun e w' => e = .returned (.bool (letB c)) ∧ w' = w := by
  go_enter Try.func51, Try.ntmps51
  go_wp2
  all_goals go_ret
  all_goals exact ⟨ret_bool (by rw [Bool.eq_iff_iff]; simp [letB]; try omega), rfl⟩
set_option maxRecDepth 100000 in
set_option maxHeartbeats 400000 in
theorem rIsDigit_any (c : Int) (w : World) :
    Calls Try.prog 50 #[.int .u8 c] w fun e w' => e = .returned (.bool (digB c)) ∧ w' = w := by
  go_enter Try.func50, Try.ntmps50
  go_wp2
  all_goals go_ret
  all_goals exact ⟨ret_bool (by rw [Bool.eq_iff_iff]; simp [digB]; try omega), rfl⟩

def sgn : ByteArray := ⟨#[61, 59, 124, 40, 41, 91, 93, 123, 125, 60, 62]⟩
theorem sgn_size : sgn.size = 11 := rfl
theorem sgn_hit (k : Nat) (h : k < sgn.size) : signB (sgn[k].toNat : Int) = true := by
  match k, h with
  | 0, _ => rfl
  | 1, _ => rfl
  | 2, _ => rfl
  | 3, _ => rfl
  | 4, _ => rfl
  | 5, _ => rfl
  | 6, _ => rfl
  | 7, _ => rfl
  | 8, _ => rfl
  | 9, _ => rfl
  | 10, _ => rfl
  | k + 11, h => exact absurd h (by rw [sgn_size]; omega)
theorem sgn_none (c : Int) (h : ∀ j (hj : j < sgn.size), ((sgn[j].toNat : Int) == c) = false) : signB c = false := by
  have h0 := h 0 (by decide); have h1 := h 1 (by decide); have h2 := h 2 (by decide); have h3 := h 3 (by decide); have h4 := h 4 (by decide)
  have h5 := h 5 (by decide); have h6 := h 6 (by decide); have h7 := h 7 (by decide); have h8 := h 8 (by decide); have h9 := h 9 (by decide); have h10 := h 10 (by decide)
  simp only [sgn, beq_eq_false_iff_ne, ne_eq] at *
  simp only [signB, Bool.or_eq_false_iff, beq_eq_false_iff_ne, ne_eq]
  refine ⟨⟨⟨⟨⟨⟨⟨⟨⟨⟨?_, ?_⟩, ?_⟩, ?_⟩, ?_⟩, ?_⟩, ?_⟩, ?_⟩, ?_⟩, ?_⟩, ?_⟩
  · exact fun e => h0 e.symm
  · exact fun e => h1 e.symm
  · exact fun e => h2 e.symm
  · exact fun e => h3 e.symm
  · exact fun e => h4 e.symm
  · exact fun e => h5 e.symm
  · exact fun e => h6 e.symm
  · exact fun e => h7 e.symm
  · exact fun e => h8 e.symm
  · exact fun e => h9 e.symm
  · exact fun e => h10 e.symm

def isTermB (s : ByteArray) : Bool := fitsB s && (over termB s 0 == s.size)
def isNameB (s : ByteArray) : Bool := fitsB s && letB (bt s 0) && (over nameB s 0 == s.size)
set_option maxRecDepth 100000 in
set_option maxHeartbeats 400000 in
theorem rIsTerm_any (s : ByteArray) (w : World) (hs : s.size ≤ maxLen) :
    Calls Try.prog 53 #[.string s] w fun e w' => e = .returned (.bool (isTermB s)) ∧ w' = w := by
  unfold maxLen at hs
  by_cases hf : 1 ≤ s.size ∧ s.size ≤ 12
  · obtain ⟨hf1, hf2⟩ := hf
    have F : Hid (fitsB s = true) := hd (by simp [fitsB, hf1, hf2])
    have hc1 : decide ((s.size : Int) < 1) = false := by simp; omega
    have hc2 : decide (12 < (s.size : Int)) = false := by simp; omega
    go_enter Try.func53, Try.ntmps53
    go_wp2
    go_loop [3] (fun i => ∃ k : Nat, k ≤ s.size ∧ i = .int .i64 k ∧ Hid (over termB s k = over termB s 0)) (fun i => s.size - (intOf i).toNat)
    case atStart => exact ⟨0, Nat.zero_le _, rfl, hd rfl⟩
    case round =>
      obtain ⟨k, hk, rfl, ho⟩ := hrel
      by_cases hlt : k < s.size
      · by_cases hp : termB (s[k].toNat : Int) = true
        · have hp' := hp
          simp only [termB, Bool.and_eq_true, decide_eq_true_eq, bne_iff_ne, ne_eq] at hp'
          obtain ⟨⟨c1, c2⟩, c3⟩ := hp'
          have c4 : ((s[k].toNat : Int) == 34) = false := by simpa using c3
          have E := hd ((over_yes hlt hp).trans ho.out)
          clear hp ho c3
          go_wp2
          go_round
          case rel => exact ⟨k + 1, by omega, by go_num, E⟩
          case measure => simp [intOf]; omega
        · have hp' : termB (s[k].toNat : Int) = false := by simpa using hp
          have E : Hid (isTermB s = false) := hd (by have := ho.out; rw [over_no hlt hp'] at this; simp [isTermB, ← this]; omega)
          have hq : (s[k].toNat : Int) < 32 ∨ 126 < (s[k].toNat : Int) ∨ (32 ≤ (s[k].toNat : Int) ∧ (s[k].toNat : Int) ≤ 126 ∧ ((s[k].toNat : Int) == 34) = true) := by
            simp only [termB, Bool.and_eq_false_iff, decide_eq_false_iff_not, bne_eq_false_iff_eq] at hp'
            simp only [beq_iff_eq]; omega
          clear hp hp' ho
          rcases hq with c1 | c1 | ⟨c1, c2, c3⟩
          · go_wp2
            go_ret
            exact ⟨ret_bool (by rw [E.out]), rfl⟩
          · go_wp2
            go_ret
            exact ⟨ret_bool (by rw [E.out]), rfl⟩
          · go_wp2
            go_ret
            exact ⟨ret_bool (by rw [E.out]), rfl⟩
      · go_wp2
        go_ret
        exact ⟨ret_bool (by have := ho.out; rw [over_end (by omega)] at this; simp [isTermB, F.out, ← this]; omega), rfl⟩
  · have F : Hid (isTermB s = false) := hd (by
      have : fitsB s = false := by simp [fitsB]; omega
      simp [isTermB, this])
    go_enter Try.func53, Try.ntmps53
    go_wp2_with fail
    all_goals first
      | (go_ret; exact ⟨ret_bool (by rw [F.out]), rfl⟩)
      | (exfalso; omega)
theorem fits_true {s : ByteArray} (h : fitsB s = true) : 1 ≤ s.size ∧ s.size ≤ 12 := by simpa [fitsB] using h
theorem dig_let {c : Int} (h : digB c = true) : letB c = false := by
  simp only [digB, Bool.and_eq_true, decide_eq_true_eq] at h
  simp [letB]; omega
theorem name_let {c : Int} (h : nameB c = true) (hn : digB c = false) : letB c = true := by simpa [nameB, hn] using h
set_option maxRecDepth 100000 in
set_option maxHeartbeats 800000 in
theorem rIsName_any (s : ByteArray) (w : World) (hs : s.size ≤ maxLen) :
    Calls Try.prog 31 #[.string s] w fun e w' => e = .returned (.bool (isNameB s)) ∧ w' = w := by
  unfold maxLen at hs
  by_cases hf : fitsB s = true
  · obtain ⟨hf1, hf2⟩ := fits_true hf
    have F : Hid (fitsB s = true) := hf
    have hc1 : decide ((s.size : Int) < 1) = false := by simp; omega
    have hc2 : decide (12 < (s.size : Int)) = false := by simp; omega
    clear hf
    by_cases hdg : digB (s[0].toNat : Int) = true
    · have E : Hid (isNameB s = false) := hd (by simp [isNameB, bt_lt hf1, dig_let hdg])
      go_enter Try.func31, Try.ntmps31
      go_wp2_with (go_at_call 50; refine (rIsDigit_any _ _).mono ?_; rintro e w' ⟨rfl, rfl⟩)
      go_ret
      exact ⟨ret_bool (by rw [E.out]), rfl⟩
    · have hdg' : digB (s[0].toNat : Int) = false := by simpa using hdg
      clear hdg
      go_enter Try.func31, Try.ntmps31
      go_wp2_with (go_at_call 50; refine (rIsDigit_any _ _).mono ?_; rintro e w' ⟨rfl, rfl⟩)
      go_loop [3] (fun i => ∃ k : Nat, k ≤ s.size ∧ i = .int .i64 k ∧ Hid (over nameB s k = over nameB s 0)) (fun i => s.size - (intOf i).toNat)
      case atStart => exact ⟨0, Nat.zero_le _, rfl, hd rfl⟩
      case round =>
        obtain ⟨k, hk, rfl, ho⟩ := hrel
        by_cases hlt : k < s.size
        · by_cases hl : letB (s[k].toNat : Int) = true
          · have E := hd ((over_yes hlt (p := nameB) (by simp [nameB, hl])).trans ho.out)
            clear ho
            go_wp2_with (first | (go_at_call 50; refine (rIsDigit_any _ _).mono ?_; rintro e w' ⟨rfl, rfl⟩) | (go_at_call 51; refine (rIsLetter_any _ _).mono ?_; rintro e w' ⟨rfl, rfl⟩))
            go_round
            case rel => exact ⟨k + 1, by omega, by go_num, E⟩
            case measure => simp [intOf]; omega
          · have hl' : letB (s[k].toNat : Int) = false := by simpa using hl
            clear hl
            by_cases hdk : digB (s[k].toNat : Int) = true
            · have E := hd ((over_yes hlt (p := nameB) (by simp [nameB, hdk])).trans ho.out)
              clear ho
              go_wp2_with (first | (go_at_call 50; refine (rIsDigit_any _ _).mono ?_; rintro e w' ⟨rfl, rfl⟩) | (go_at_call 51; refine (rIsLetter_any _ _).mono ?_; rintro e w' ⟨rfl, rfl⟩))
              go_round
              case rel => exact ⟨k + 1, by omega, by go_num, E⟩
              case measure => simp [intOf]; omega
            · have hdk' : digB (s[k].toNat : Int) = false := by simpa using hdk
              have E : Hid (isNameB s = false) := hd (by have := ho.out; rw [over_no hlt (p := nameB) (by simp [nameB, hl', hdk'])] at this; simp [isNameB, ← this]; omega)
              clear hdk ho
              go_wp2_with (first | (go_at_call 50; refine (rIsDigit_any _ _).mono ?_; rintro e w' ⟨rfl, rfl⟩) | (go_at_call 51; refine (rIsLetter_any _ _).mono ?_; rintro e w' ⟨rfl, rfl⟩))
              go_ret
              exact ⟨ret_bool (by rw [E.out]), rfl⟩
        · have E : Hid (isNameB s = true) := hd (by
            have := ho.out; rw [over_end (by omega)] at this
            have hn := (over_spec nameB s 0 (by omega)).1 0 (by omega) (by omega)
            rw [bt_lt hf1] at hn
            simp [isNameB, F.out, ← this, bt_lt hf1, name_let hn hdg']; omega)
          clear ho
          go_wp2
          go_ret
          exact ⟨ret_bool (by rw [E.out]), rfl⟩
  · have hf' : fitsB s = false := by simpa using hf
    have F : Hid (isNameB s = false) := hd (by simp [isNameB, hf'])
    have hq : ¬ (1 ≤ s.size ∧ s.size ≤ 12) := fun h => hf (by simp [fitsB, h.1, h.2])
    clear hf hf'
    rcases Nat.lt_or_ge s.size 1 with h1 | h1
    · go_enter Try.func31, Try.ntmps31
      go_wp2_with fail
      go_ret
      exact ⟨ret_bool (by rw [F.out]), rfl⟩
    · have h2 : 12 < s.size := by omega
      clear hq
      go_enter Try.func31, Try.ntmps31
      go_wp2_with fail
      go_ret
      exact ⟨ret_bool (by rw [F.out]), rfl⟩
end Go.Proofs.Ytdikjhfnmkejcab
