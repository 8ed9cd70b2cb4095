/- What the document's own scan looks at is what 'rd' reads. -/
import Derived.Test.YtdikjhfnmkejcabScan
namespace Go.Proofs.Ytdikjhfnmkejcab
open Go.RowKit

theorem bt_extract (s : ByteArray) (b e j : Nat) (he : e ≤ s.size) (hj : b + j < e) : bt (s.extract b e) j = bt s (b + j) := by
  have h1 : j < (s.extract b e).size := by simp; omega
  rw [bt_lt h1, bt_lt (by omega : b + j < s.size)]
  simp [ByteArray.getElem_extract]
theorem all_extract (p : Int → Bool) (s : ByteArray) (b e : Nat) (hbe : b ≤ e) (he : e ≤ s.size) :
    (over p (s.extract b e) 0 == (s.extract b e).size) = true ↔ ∀ j, b ≤ j → j < e → p (bt s j) = true := by
  have hz : (s.extract b e).size = e - b := by simp; omega
  rw [beq_iff_eq]
  constructor
  · intro h j h1 h2
    have := (over_spec p (s.extract b e) 0 (by omega)).1 (j - b) (by omega) (by omega)
    rw [bt_extract s b e (j - b) he (by omega)] at this
    rwa [show b + (j - b) = j from by omega] at this
  · intro h
    apply over_unique p (s.extract b e) 0 _ (by omega) (Nat.le_refl _)
    · intro j _ h2
      rw [bt_extract s b e j he (by omega)]
      exact h _ (by omega) (by omega)
    · intro h'; omega
theorem term_quot {c : Int} (h : termB c = true) : quotB c = true := by
  simp only [termB, quotB, Bool.and_eq_true, decide_eq_true_eq, bne_iff_ne, ne_eq] at *; omega
theorem term_ok {s : ByteArray} {a : Nat} (_ha : a + 1 ≤ s.size) (h1 : over quotB s (a + 1) < s.size) (h2 : bt s (over quotB s (a + 1)) = 34)
    (h3 : isTermB (s.extract (a + 1) (over quotB s (a + 1))) = true) : over termB s (a + 1) = over quotB s (a + 1) ∧ termOk s a (over termB s (a + 1)) = true := by
  have g := over_ge quotB s (a + 1)
  simp only [isTermB, Bool.and_eq_true] at h3
  obtain ⟨f, al⟩ := h3
  rw [all_extract termB s _ _ g (by omega)] at al
  have e : over termB s (a + 1) = over quotB s (a + 1) := over_unique termB s _ _ g (by omega) al (fun _ => by rw [h2]; decide)
  refine ⟨e, ?_⟩
  rw [e]
  have := fits_true f
  have hz : (s.extract (a + 1) (over quotB s (a + 1))).size = over quotB s (a + 1) - (a + 1) := by simp; omega
  simp only [termOk, h2]; simp; omega
theorem term_ok' {s : ByteArray} {a : Nat} (ha : a + 1 ≤ s.size) (h : termOk s a (over termB s (a + 1)) = true) :
    over quotB s (a + 1) < s.size ∧ bt s (over quotB s (a + 1)) = 34 ∧ isTermB (s.extract (a + 1) (over quotB s (a + 1))) = true := by
  have g := over_ge termB s (a + 1)
  have l := over_le termB s (a + 1) ha
  simp only [termOk, Bool.and_eq_true, decide_eq_true_eq, beq_iff_eq] at h
  obtain ⟨⟨k1, k2⟩, k3⟩ := h
  have hlt : over termB s (a + 1) < s.size := by
    rcases Nat.lt_or_ge (over termB s (a + 1)) s.size with h' | h'
    · exact h'
    · rw [bt_ge h'] at k3; simp at k3
  have sp := (over_spec termB s (a + 1) ha).1
  have e : over quotB s (a + 1) = over termB s (a + 1) := over_unique quotB s _ _ g l (fun j h1 h2 => term_quot (sp j h1 h2)) (fun _ => by rw [k3]; decide)
  rw [e]
  refine ⟨hlt, k3, ?_⟩
  simp only [isTermB, Bool.and_eq_true]
  refine ⟨?_, (all_extract termB s _ _ g l).2 sp⟩
  have hz : (s.extract (a + 1) (over termB s (a + 1))).size = over termB s (a + 1) - (a + 1) := by simp; omega
  simp only [fitsB, hz]; simp; omega
theorem sign_let {c : Int} (h : signB c = true) : letB c = false ∧ (c == 34) = false := by
  simp only [signB, Bool.or_eq_true, beq_iff_eq] at h
  constructor
  · simp only [letB, Bool.or_eq_false_iff, Bool.and_eq_false_iff, decide_eq_false_iff_not, beq_eq_false_iff_ne]; omega
  · simp only [beq_eq_false_iff_ne]; omega
theorem let_sign {c : Int} (h : letB c = true) : signB c = false := by
  cases hs : signB c
  · rfl
  · have := (sign_let hs).1; rw [h] at this; simp at this
theorem let_quot {c : Int} (h : letB c = true) : (c == 34) = false := by
  simp only [letB, Bool.or_eq_true, Bool.and_eq_true, decide_eq_true_eq, beq_iff_eq] at h
  simp only [beq_eq_false_iff_ne]; omega
theorem quot_sign {c : Int} (h : (c == 34) = true) : signB c = false := by
  simp only [beq_iff_eq] at h; subst h; decide
theorem quot_let {c : Int} (h : (c == 34) = true) : letB c = false := by
  simp only [beq_iff_eq] at h; subst h; decide
theorem rd_sign {s : ByteArray} {a : Nat} (ha : a < s.size) (h : signB (s[a].toNat : Int) = true) : rd s a = (⟨3, a, s.extract a (a + 1)⟩, ((a + 1 : Nat) : Int), 0) := by
  obtain ⟨h1, h2⟩ := sign_let h
  unfold rd; rw [bt_lt ha, h1, h2, h]; rfl
theorem rd_name {s : ByteArray} {a : Nat} (ha : a < s.size) (h : letB (s[a].toNat : Int) = true) (h12 : over nameB s a - a ≤ 12) : rd s a = (⟨1, a, s.extract a (over nameB s a)⟩, ((over nameB s a : Nat) : Int), 0) := by
  unfold rd rdName; rw [bt_lt ha, if_pos h, if_pos h12]
theorem rd_name_bad {s : ByteArray} {a : Nat} (ha : a < s.size) (h : letB (s[a].toNat : Int) = true) (h12 : ¬ over nameB s a - a ≤ 12) : rd s a = (noTk, 0, 2) := by
  unfold rd rdName; rw [bt_lt ha, if_pos h, if_neg h12]
theorem rd_none {s : ByteArray} {a : Nat} (ha : a < s.size) (h1 : signB (s[a].toNat : Int) = false) (h2 : ((s[a].toNat : Int) == 34) = false) (h3 : letB (s[a].toNat : Int) = false) : rd s a = (noTk, 0, 1) := by
  unfold rd; rw [bt_lt ha, h1, h2, h3]; rfl
theorem rd_term {s : ByteArray} {a : Nat} (ha : a < s.size) (hq : ((s[a].toNat : Int) == 34) = true) (h1 : over quotB s (a + 1) < s.size) (h2 : bt s (over quotB s (a + 1)) = 34)
    (h3 : isTermB (s.extract (a + 1) (over quotB s (a + 1))) = true) : rd s a = (⟨2, a, s.extract (a + 1) (over quotB s (a + 1))⟩, ((over quotB s (a + 1) + 1 : Nat) : Int), 0) := by
  obtain ⟨e, ok⟩ := term_ok ha h1 h2 h3
  unfold rd rdTerm; rw [bt_lt ha, quot_let hq, hq, if_neg (by simp), if_pos rfl, if_pos ok, e]
theorem rd_term_bad {s : ByteArray} {a : Nat} (ha : a < s.size) (hq : ((s[a].toNat : Int) == 34) = true)
    (h : ¬ (over quotB s (a + 1) < s.size ∧ bt s (over quotB s (a + 1)) = 34 ∧ isTermB (s.extract (a + 1) (over quotB s (a + 1))) = true)) : rd s a = (noTk, 0, 1) := by
  unfold rd rdTerm; rw [bt_lt ha, quot_let hq, hq, if_neg (by simp), if_pos rfl, if_neg (fun ok => h (term_ok' ha ok))]
end Go.Proofs.Ytdikjhfnmkejcab
