/- token.Name, token.Term, and how token.read reads one token. -/
import Derived.Test.YtdikjhfnmkejcabRef
namespace Go.Proofs.Ytdikjhfnmkejcab
open Go.RowKit

set_option maxRecDepth 100000 in
set_option maxHeartbeats 400000 in
theorem term_any (s : ByteArray) (w : World) (hs : s.size ≤ maxLen) :
    Calls Try.prog 99 #[.string s] w fun e w' => e = .returned (.bool (isTermB s)) ∧ w' = w := by
  by_cases hf : fitsB s = true
  · go_enter Try.func99, Try.ntmps99
    go_wp2_with fail
    refine (fits_any s _ hs).mono ?_
    rintro e w' ⟨rfl, rfl⟩
    go_wp2_with fail
    refine (over_inTermN s 0 _ hs (by omega)).mono ?_
    rintro e w' ⟨rfl, rfl⟩
    go_wp2
    go_ret
    exact ⟨ret_bool (by rw [Bool.eq_iff_iff]; simp [isTermB, hf]; try omega), rfl⟩
  · have hf' : fitsB s = false := by simpa using hf
    clear hf
    go_enter Try.func99, Try.ntmps99
    go_wp2_with fail
    refine (fits_any s _ hs).mono ?_
    rintro e w' ⟨rfl, rfl⟩
    go_wp2
    go_ret
    exact ⟨ret_bool (by simp [isTermB, hf']), rfl⟩
set_option maxRecDepth 100000 in
set_option maxHeartbeats 400000 in
theorem name_any (s : ByteArray) (w : World) (hs : s.size ≤ maxLen) :
    Calls Try.prog 67 #[.string s] w fun e w' => e = .returned (.bool (isNameB s)) ∧ w' = w := by
  by_cases hf : fitsB s = true
  · have hf1 := (fits_true hf).1
    by_cases hl : letB (s[0].toNat : Int) = true
    · go_enter Try.func67, Try.ntmps67
      go_wp2_with fail
      refine (fits_any s _ hs).mono ?_
      rintro e w' ⟨rfl, rfl⟩
      go_wp2_with fail
      refine (isLetter_any _ _).mono ?_
      rintro e w' ⟨rfl, rfl⟩
      go_wp2_with fail
      refine (over_inNameN s 0 _ hs (by omega)).mono ?_
      rintro e w' ⟨rfl, rfl⟩
      go_wp2
      go_ret
      exact ⟨ret_bool (by rw [Bool.eq_iff_iff]; simp [isNameB, hf, bt_lt hf1, hl]; try omega), rfl⟩
    · have hl' : letB (s[0].toNat : Int) = false := by simpa using hl
      clear hl
      go_enter Try.func67, Try.ntmps67
      go_wp2_with fail
      refine (fits_any s _ hs).mono ?_
      rintro e w' ⟨rfl, rfl⟩
      go_wp2_with fail
      refine (isLetter_any _ _).mono ?_
      rintro e w' ⟨rfl, rfl⟩
      go_wp2
      go_ret
      exact ⟨ret_bool (by simp [isNameB, bt_lt hf1, hl']), rfl⟩
  · have hf' : fitsB s = false := by simpa using hf
    clear hf
    go_enter Try.func67, Try.ntmps67
    go_wp2_with fail
    refine (fits_any s _ hs).mono ?_
    rintro e w' ⟨rfl, rfl⟩
    go_wp2
    go_ret
    exact ⟨ret_bool (by simp [isNameB, hf']), rfl⟩
set_option maxRecDepth 100000 in
set_option maxHeartbeats 400000 in
theorem clone_any (s : ByteArray) (w : World) (hs : s.size ≤ 281474976710656) :
    Calls Try.prog 96 #[.string s] w fun e w' => e = .returned (.string s) ∧ Below w.heap.size w w' := by
  go_enter Try.func96, Try.ntmps96
  go_wp2_with fail
  refine (Try.stringslite_Clone s _ hs).mono ?_
  rintro e w' ⟨rfl, hb⟩
  go_wp2
  go_ret
  exact ⟨rfl, hb⟩

theorem bcell {W w1 : World} (hb : Below W.heap.size W w1) : (∀ b o, b < W.heap.size → w1.cell? ⟨b, o, none⟩ = W.cell? ⟨b, o, none⟩) ∧ (∀ b o, b < W.heap.size → w1.frozen? ⟨b, o, none⟩ = W.frozen? ⟨b, o, none⟩) :=
  ⟨fun b o h => hb.cell (p := ⟨b, o, none⟩) h, fun b o h => hb.frozen (p := ⟨b, o, none⟩) h⟩

set_option maxRecDepth 100000 in
set_option maxHeartbeats 400000 in
theorem made_any (k a : Int) (t : ByteArray) (w : World) (hs : t.size ≤ 281474976710656) :
    Calls Try.prog 80 #[.int .i64 k, .int .i64 a, .string t] w fun e w' => e = .returned (Tk.mk k a t).v ∧ Below w.heap.size w w' := by
  go_enter Try.func80, Try.ntmps80
  go_wp2_with fail
  refine (clone_any t _ hs).mono ?_
  rintro e w1 ⟨rfl, hb⟩
  obtain ⟨hc, hf⟩ := bcell hb
  have hz : w.heap.size + 1 ≤ w1.heap.size := by have := hb.size; simpa using this
  go_wp2_with fail
  refine bodyPost_ret (v := (Tk.mk k a t).v) (by simp [results, Try.results80, go_sem, hc, Tk.v]) rfl ⟨rfl, ?_⟩
  exact (((((Below.refl _ _).alloc (Nat.le_refl _) _).trans (hb.mono (by simp))).setCell (by simp) _).setCell (by simp) _).setCell (by simp) _
set_option maxRecDepth 100000 in
set_option maxHeartbeats 400000 in
theorem rF_any (c a : Int) (w : World) :
    Calls Try.prog 30 #[.int .i64 c, .int .i64 a] w fun e w' => e = .returned (.agg #[.int .i64 c, .int .i64 a]) ∧ Below w.heap.size w w' := by
  go_enter Try.func30, Try.ntmps30
  go_wp2_with fail
  exact bodyPost_ret (v := .agg #[.int .i64 c, .int .i64 a]) (by simp [results, Try.results30, go_sem]) rfl ⟨rfl, (Below.refl _ _).alloc (Nat.le_refl _) _⟩
set_option maxRecDepth 100000 in
set_option maxHeartbeats 400000 in
theorem readName_any (s : ByteArray) (n : Nat) (w : World) (hs : s.size ≤ 281474976710656) (hn : n < s.size) (hl : letB (s[n].toNat : Int) = true) :
    Calls Try.prog 78 #[.string s, .int .i64 n] w fun e w' => e = .returned (.tuple #[(rdName s n).1.v, .int .i64 (rdName s n).2.1, .int .i64 (rdName s n).2.2]) ∧ Below w.heap.size w w' := by
  have hm : s.size ≤ maxLen := by unfold maxLen; omega
  have g1 : n + 1 ≤ over nameB s n := by
    have := over_ge nameB s (n + 1)
    rwa [over_yes hn (by simp [nameB, hl])] at this
  have l1 := over_le nameB s n (by omega)
  have O := over_inNameN s n
  by_cases hf : over nameB s n - n ≤ 12
  · have R : Hid (rdName s n = (Tk.mk 1 n (s.extract n (over nameB s n)), ((over nameB s n : Nat) : Int), 0)) := hd (by unfold rdName; rw [if_pos hf])
    have hz : (s.extract n (over nameB s n)).size = over nameB s n - n := by simp; omega
    have hfit : fitsB (s.extract n (over nameB s n)) = true := by simp [fitsB, hz]; omega
    rw [R.out]
    clear R
    generalize over nameB s n = m at *
    go_enter Try.func78, Try.ntmps78
    go_wp2_with fail
    refine (O _ hm (by omega)).mono ?_
    rintro e w' ⟨rfl, rfl⟩
    clear O
    go_wp2_with fail
    refine (fits_any _ _ (by unfold maxLen; omega)).mono ?_
    rintro e w' ⟨rfl, rfl⟩
    go_wp2_with fail
    refine (made_any _ _ _ _ (by omega)).mono ?_
    rintro e w1 ⟨rfl, hb⟩
    obtain ⟨hc, hf⟩ := bcell hb
    have hz1 : w.heap.size + 1 ≤ w1.heap.size := by have := hb.size; simpa using this
    simp only [Tk.v]
    go_wp2_with fail
    refine bodyPost_ret (v := .tuple #[.agg #[.int .i64 1, .int .i64 n, .string (s.extract n m)], .int .i64 m, .int .i64 0]) (by simp [results, Try.results78, go_sem, hc]) rfl ⟨rfl, ?_⟩
    exact (((((Below.refl _ _).alloc (Nat.le_refl _) _).trans (hb.mono (by simp))).setCell (by simp) _).setCell (by simp) _).setCell (by simp) _
  · have R : Hid (rdName s n = (noTk, 0, 2)) := hd (by unfold rdName; rw [if_neg hf])
    have hfit : fitsB (s.extract n (over nameB s n)) = false := by simp [fitsB]; omega
    rw [R.out]
    clear R
    generalize over nameB s n = m at *
    go_enter Try.func78, Try.ntmps78
    go_wp2_with fail
    refine (O _ hm (by omega)).mono ?_
    rintro e w' ⟨rfl, rfl⟩
    clear O
    go_wp2_with fail
    refine (fits_any _ _ (by unfold maxLen; simp; omega)).mono ?_
    rintro e w' ⟨rfl, rfl⟩
    go_wp2_with fail
    exact bodyPost_ret (v := .tuple #[noTk.v, .int .i64 0, .int .i64 2]) (by simp [results, Try.results78, go_sem, noTk, Tk.v]) rfl ⟨rfl, (Below.refl _ _).alloc (Nat.le_refl _) _⟩
theorem term_not34 {c : Int} (h : termB c = true) : (c == 34) = false := by
  simp only [termB, Bool.and_eq_true, bne_iff_ne] at h; simpa using h.2
set_option maxRecDepth 100000 in
set_option maxHeartbeats 1000000 in
theorem readTerm_any (s : ByteArray) (n : Nat) (w : World) (hs : s.size ≤ 281474976710656) (hn : n < s.size) :
    Calls Try.prog 79 #[.string s, .int .i64 n] w fun e w' => e = .returned (.tuple #[(rdTerm s n).1.v, .int .i64 (rdTerm s n).2.1, .int .i64 (rdTerm s n).2.2]) ∧ Below w.heap.size w w' := by
  have hm : s.size ≤ maxLen := by unfold maxLen; omega
  have g1 := over_ge termB s (n + 1)
  have l1 := over_le termB s (n + 1) (by omega)
  have hz : (s.extract (n + 1) (over termB s (n + 1))).size = over termB s (n + 1) - (n + 1) := by simp; omega
  have O := over_inTermN s (n + 1)
  by_cases hk : termOk s n (over termB s (n + 1)) = true
  · have R : Hid (rdTerm s n = (Tk.mk 2 n (s.extract (n + 1) (over termB s (n + 1))), ((over termB s (n + 1) + 1 : Nat) : Int), 0)) := hd (by unfold rdTerm; rw [if_pos hk])
    rw [R.out]
    have hk' := hk
    simp only [termOk, Bool.and_eq_true, decide_eq_true_eq, beq_iff_eq] at hk'
    obtain ⟨⟨k1, k2⟩, k3⟩ := hk'
    have hlt : over termB s (n + 1) < s.size := by
      rcases Nat.lt_or_ge (over termB s (n + 1)) s.size with h' | h'
      · exact h'
      · rw [bt_ge h'] at k3; simp at k3
    rw [bt_lt hlt] at k3
    have hfit : fitsB (s.extract (n + 1) (over termB s (n + 1))) = true := by simp [fitsB, hz]; omega
    clear R hk
    have k4 : ((s[over termB s (n + 1)].toNat : Int) != 34) = false := by simp [k3]
    clear k3
    generalize over termB s (n + 1) = m at *
    have e1 : ((m : Int) == (s.size : Int)) = false := by simp; omega
    go_enter Try.func79, Try.ntmps79
    go_wp2_with fail
    rw [show ((n : Int) + 1) = ((n + 1 : Nat) : Int) from by omega]
    refine (O _ hm (by omega)).mono ?_
    rintro e w' ⟨rfl, rfl⟩
    clear O
    go_wp2_with fail
    refine (fits_any _ _ (by unfold maxLen; omega)).mono ?_
    rintro e w' ⟨rfl, rfl⟩
    go_wp2_with fail
    refine (made_any _ _ _ _ (by omega)).mono ?_
    rintro e w1 ⟨rfl, hb⟩
    obtain ⟨hc, hf⟩ := bcell hb
    have hz1 : w.heap.size + 1 ≤ w1.heap.size := by have := hb.size; simpa using this
    simp only [Tk.v]
    go_wp2_with fail
    refine bodyPost_ret (v := .tuple #[.agg #[.int .i64 2, .int .i64 n, .string (s.extract (n + 1) m)], .int .i64 (m + 1 : Nat), .int .i64 0]) (by simp [results, Try.results79, go_sem, hc]) rfl ⟨rfl, ?_⟩
    exact (((((Below.refl _ _).alloc (Nat.le_refl _) _).trans (hb.mono (by simp))).setCell (by simp) _).setCell (by simp) _).setCell (by simp) _
  · have R : Hid (rdTerm s n = (noTk, 0, 1)) := hd (by unfold rdTerm; rw [if_neg hk])
    rw [R.out]
    clear R
    by_cases hfit : fitsB (s.extract (n + 1) (over termB s (n + 1))) = true
    · have hf' := fits_true hfit
      rcases Nat.lt_or_ge (over termB s (n + 1)) s.size with hlt | hlt
      · have k4 : ((s[over termB s (n + 1)].toNat : Int) != 34) = true := by
          rw [bne_iff_ne]; intro h
          apply hk; rw [hz] at hf'
          simp [termOk, bt_lt hlt, h]; omega
        clear hk
        generalize over termB s (n + 1) = m at *
        have e1 : ((m : Int) == (s.size : Int)) = false := by simp; omega
        go_enter Try.func79, Try.ntmps79
        go_wp2_with fail
        rw [show ((n : Int) + 1) = ((n + 1 : Nat) : Int) from by omega]
        refine (O _ hm (by omega)).mono ?_
        rintro e w' ⟨rfl, rfl⟩
        clear O
        go_wp2_with fail
        refine (fits_any _ _ (by unfold maxLen; omega)).mono ?_
        rintro e w' ⟨rfl, rfl⟩
        go_wp2_with fail
        exact bodyPost_ret (v := .tuple #[noTk.v, .int .i64 0, .int .i64 1]) (by simp [results, Try.results79, go_sem, noTk, Tk.v]) rfl ⟨rfl, (Below.refl _ _).alloc (Nat.le_refl _) _⟩
      · have hs1 : over termB s (n + 1) = s.size := by omega
        have E1 := hd hs1
        clear hs1 hk
        generalize over termB s (n + 1) = m at *
        have e1 : ((m : Int) == (s.size : Int)) = true := by rw [E1.out]; simp
        go_enter Try.func79, Try.ntmps79
        go_wp2_with fail
        rw [show ((n : Int) + 1) = ((n + 1 : Nat) : Int) from by omega]
        refine (O _ hm (by omega)).mono ?_
        rintro e w' ⟨rfl, rfl⟩
        clear O
        go_wp2_with fail
        refine (fits_any _ _ (by unfold maxLen; omega)).mono ?_
        rintro e w' ⟨rfl, rfl⟩
        go_wp2_with fail
        exact bodyPost_ret (v := .tuple #[noTk.v, .int .i64 0, .int .i64 1]) (by simp [results, Try.results79, go_sem, noTk, Tk.v]) rfl ⟨rfl, (Below.refl _ _).alloc (Nat.le_refl _) _⟩
    · have hfit' : fitsB (s.extract (n + 1) (over termB s (n + 1))) = false := by simpa using hfit
      clear hfit hk
      generalize over termB s (n + 1) = m at *
      go_enter Try.func79, Try.ntmps79
      go_wp2_with fail
      rw [show ((n : Int) + 1) = ((n + 1 : Nat) : Int) from by omega]
      refine (O _ hm (by omega)).mono ?_
      rintro e w' ⟨rfl, rfl⟩
      clear O
      go_wp2_with fail
      refine (fits_any _ _ (by unfold maxLen; omega)).mono ?_
      rintro e w' ⟨rfl, rfl⟩
      go_wp2_with fail
      exact bodyPost_ret (v := .tuple #[noTk.v, .int .i64 0, .int .i64 1]) (by simp [results, Try.results79, go_sem, noTk, Tk.v]) rfl ⟨rfl, (Below.refl _ _).alloc (Nat.le_refl _) _⟩

theorem memB_signI (s : ByteArray) (n : Nat) (h : n < s.size) : memB ⟨#[61, 59, 124, 40, 41, 91, 93, 123, 125, 60, 62]⟩ (s[n].toNat : Int) = signB (s[n].toNat : Int) := memB_sign s[n]
theorem below3 {W w1 : World} {o p : Obj} {b : Nat} {v0 v1 v2 : Value} (hb : Below ((W.alloc o).alloc p).heap.size ((W.alloc o).alloc p) w1) (h : W.heap.size ≤ b) :
    Below W.heap.size W (((w1.setCell ⟨b, 0, none⟩ v0).setCell ⟨b, 1, none⟩ v1).setCell ⟨b, 2, none⟩ v2) :=
  ((((((Below.refl _ _).alloc (Nat.le_refl _) _).alloc (by simp) _).trans (hb.mono (by simp; omega))).setCell h _).setCell h _).setCell h _
set_option maxRecDepth 100000 in
set_option maxHeartbeats 1000000 in
theorem read_any (s : ByteArray) (n : Nat) (w : World) (hs : s.size ≤ 281474976710656) (hn : n < s.size) :
    Calls Try.prog 59 #[.string s, .int .i64 n] w fun e w' => e = .returned (.tuple #[(rd s n).1.v, .int .i64 (rd s n).2.1, .int .i64 (rd s n).2.2]) ∧ Below w.heap.size w w' := by
  have hbt := bt_lt hn
  by_cases hl : letB (s[n].toNat : Int) = true
  · have R : Hid (rd s n = rdName s n) := hd (by unfold rd; rw [hbt, if_pos hl])
    rw [R.out]
    clear R hbt
    have O := readName_any s n
    generalize rdName s n = r at *
    obtain ⟨⟨k, a, t⟩, nx, c⟩ := r
    simp only [Tk.v] at *
    go_enter Try.func59, Try.ntmps59
    go_wp2_with fail
    refine (oneOf_any _ _).mono ?_
    rintro e w' ⟨rfl, rfl⟩
    go_wp2_with fail
    refine (isLetter_any _ _).mono ?_
    rintro e w' ⟨rfl, rfl⟩
    go_wp2_with fail
    refine (O _ hs hn hl).mono ?_
    clear O
    rintro e w1 ⟨rfl, hb⟩
    obtain ⟨hc, hf⟩ := bcell hb
    have hz1 : w.heap.size + 2 ≤ w1.heap.size := by have := hb.size; simpa using this
    have c0 : w1.cell? ⟨w.heap.size, 0, none⟩ = some (.int .i64 0) := by rw [hc _ _ (by simp; omega)]; simp
    have c1 : w1.cell? ⟨w.heap.size, 1, none⟩ = some (.int .i64 0) := by rw [hc _ _ (by simp; omega)]; simp
    have c2 : w1.cell? ⟨w.heap.size, 2, none⟩ = some (.string ⟨#[]⟩) := by rw [hc _ _ (by simp; omega)]; simp
    go_wp2_with fail
    refine bodyPost_ret (v := .tuple #[.agg #[.int .i64 k, .int .i64 a, .string t], .int .i64 nx, .int .i64 c]) (by simp [results, Try.results59, go_sem, c0, c1, c2]) rfl ⟨rfl, ?_⟩
    exact below3 hb (Nat.le_refl _)
  · have hl' : letB (s[n].toNat : Int) = false := by simpa using hl
    by_cases hq : ((s[n].toNat : Int) == 34) = true
    · have R : Hid (rd s n = rdTerm s n) := hd (by unfold rd; rw [hbt, if_neg hl, if_pos hq])
      rw [R.out]
      clear R hbt hl
      have O := readTerm_any s n
      generalize rdTerm s n = r at *
      obtain ⟨⟨k, a, t⟩, nx, c⟩ := r
      simp only [Tk.v] at *
      go_enter Try.func59, Try.ntmps59
      go_wp2_with fail
      refine (oneOf_any _ _).mono ?_
      rintro e w' ⟨rfl, rfl⟩
      go_wp2_with fail
      refine (isLetter_any _ _).mono ?_
      rintro e w' ⟨rfl, rfl⟩
      go_wp2_with fail
      refine (O _ hs hn).mono ?_
      clear O
      rintro e w1 ⟨rfl, hb⟩
      obtain ⟨hc, hf⟩ := bcell hb
      have hz1 : w.heap.size + 2 ≤ w1.heap.size := by have := hb.size; simpa using this
      have c0 : w1.cell? ⟨w.heap.size, 0, none⟩ = some (.int .i64 0) := by rw [hc _ _ (by simp; omega)]; simp
      have c1 : w1.cell? ⟨w.heap.size, 1, none⟩ = some (.int .i64 0) := by rw [hc _ _ (by simp; omega)]; simp
      have c2 : w1.cell? ⟨w.heap.size, 2, none⟩ = some (.string ⟨#[]⟩) := by rw [hc _ _ (by simp; omega)]; simp
      go_wp2_with fail
      refine bodyPost_ret (v := .tuple #[.agg #[.int .i64 k, .int .i64 a, .string t], .int .i64 nx, .int .i64 c]) (by simp [results, Try.results59, go_sem, c0, c1, c2]) rfl ⟨rfl, ?_⟩
      exact below3 hb (Nat.le_refl _)
    · have hq' : ((s[n].toNat : Int) == 34) = false := by simpa using hq
      have hmb := memB_signI s n hn
      have hm : s.size ≤ maxLen := by unfold maxLen; omega
      by_cases hg : signB (s[n].toNat : Int) = true
      · have R : Hid (rd s n = (⟨3, n, s.extract n (n + 1)⟩, ((n + 1 : Nat) : Int), 0)) := hd (by unfold rd; rw [hbt, if_neg hl, if_neg hq, if_pos hg])
        rw [R.out]
        rw [hg] at hmb
        clear R hbt hl hq hg
        simp only [Tk.v]
        go_enter Try.func59, Try.ntmps59
        go_wp2_with fail
        refine (oneOf_any _ _).mono ?_
        rintro e w' ⟨rfl, rfl⟩
        go_wp2_with fail
        refine (isLetter_any _ _).mono ?_
        rintro e w' ⟨rfl, rfl⟩
        go_wp2_with fail
        refine (oneOf1_any _ ⟨#[61, 59, 124, 40, 41, 91, 93, 123, 125, 60, 62]⟩ _ _ (by simp)).mono ?_
        rintro e w' ⟨rfl, rfl⟩
        go_wp2_with fail
        refine (made_any _ _ _ _ (by simp; omega)).mono ?_
        rintro e w1 ⟨rfl, hb⟩
        obtain ⟨hc, hf⟩ := bcell hb
        have hz1 : w.heap.size + 2 ≤ w1.heap.size := by have := hb.size; simpa using this
        have c0 : w1.cell? ⟨w.heap.size, 0, none⟩ = some (.int .i64 0) := by rw [hc _ _ (by simp; omega)]; simp
        have c1 : w1.cell? ⟨w.heap.size, 1, none⟩ = some (.int .i64 0) := by rw [hc _ _ (by simp; omega)]; simp
        have c2 : w1.cell? ⟨w.heap.size, 2, none⟩ = some (.string ⟨#[]⟩) := by rw [hc _ _ (by simp; omega)]; simp
        simp only [Tk.v]
        go_wp2_with fail
        refine bodyPost_ret (v := .tuple #[.agg #[.int .i64 3, .int .i64 n, .string (s.extract n (n + 1))], .int .i64 (n + 1 : Nat), .int .i64 0]) (by simp [results, Try.results59, go_sem, c0, c1, c2]) rfl ⟨rfl, ?_⟩
        exact below3 hb (Nat.le_refl _)
      · have hg' : signB (s[n].toNat : Int) = false := by simpa using hg
        have R : Hid (rd s n = (noTk, 0, 1)) := hd (by unfold rd; rw [hbt, if_neg hl, if_neg hq, if_neg hg])
        rw [R.out]
        rw [hg'] at hmb
        clear R hbt hl hq hg
        go_enter Try.func59, Try.ntmps59
        go_wp2_with fail
        refine (oneOf_any _ _).mono ?_
        rintro e w' ⟨rfl, rfl⟩
        go_wp2_with fail
        refine (isLetter_any _ _).mono ?_
        rintro e w' ⟨rfl, rfl⟩
        go_wp2_with fail
        refine (oneOf1_any _ ⟨#[61, 59, 124, 40, 41, 91, 93, 123, 125, 60, 62]⟩ _ _ (by simp)).mono ?_
        rintro e w' ⟨rfl, rfl⟩
        go_wp2_with fail
        refine bodyPost_ret (v := .tuple #[noTk.v, .int .i64 0, .int .i64 1]) (by simp [results, Try.results59, go_sem, noTk, Tk.v]) rfl ⟨rfl, ?_⟩
        exact ((Below.refl _ _).alloc (Nat.le_refl _) _).alloc (by simp) _
end Go.Proofs.Ytdikjhfnmkejcab
