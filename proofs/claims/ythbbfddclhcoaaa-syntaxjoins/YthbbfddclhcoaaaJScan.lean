/- One text behind another, a line between: the tokens of both. -/
import Derived.Test.YthbbfddclhcoaaaBackMath
namespace Go.Proofs.Ythbbfddclhcoaaa

def Tk.sh (d : Nat) (x : Tk) : Tk := ⟨x.k, x.at_ + d, x.t⟩
theorem wh_nl (p : Int → Bool) (hp : p 10 = false) (x y : List UInt8) : wh p (x ++ 10 :: y) = wh p x := by
  induction x with
  | nil => rw [List.nil_append, wh_cons, if_neg (by simpa using hp)]; rfl
  | cons c x ih => rw [List.cons_append, wh_cons, wh_cons, ih]
theorem sk_nl (bl : Bool) (x y : List UInt8) : sk bl (x ++ 10 :: y) = if sk bl x < x.length then sk bl x else x.length + 1 + sk false y := by
  induction x generalizing bl with
  | nil => cases bl <;> simp [sk, blankB]
  | cons c x ih =>
    have i1 := ih true
    have i2 := ih false
    cases bl
    · simp only [List.cons_append, sk, List.length_cons]
      split
      · rw [i2]; split <;> split <;> omega
      · split
        · rw [i1]; split <;> split <;> omega
        · rw [if_pos (by omega)]
    · simp only [List.cons_append, sk, List.length_cons]
      split
      · rw [i2]; split <;> split <;> omega
      · rw [i1]; split <;> split <;> omega
/-- The whole text. -/
structure Jn (a b s : ByteArray) : Prop where
  h : bys s = bys a ++ 10 :: bys b
section
variable {a b s : ByteArray}
theorem Jn.size (j : Jn a b s) : s.size = a.size + 1 + b.size := by
  rw [← bys_length, j.h, List.length_append, List.length_cons, bys_length, bys_length]; omega
theorem Jn.drop1 (j : Jn a b s) {i : Nat} (hi : i ≤ a.size) : (bys s).drop i = (bys a).drop i ++ 10 :: bys b := by
  rw [j.h, List.drop_append_of_le_length (by rw [bys_length]; exact hi)]
theorem Jn.drop2 (j : Jn a b s) (i : Nat) : (bys s).drop (a.size + 1 + i) = (bys b).drop i := by
  rw [j.h, show bys a ++ 10 :: bys b = (bys a ++ [10]) ++ bys b by simp, List.drop_append, List.drop_eq_nil_of_le (by simp [bys_length])]
  simp only [List.nil_append]
  congr 1
  simp [bys_length]
theorem Jn.over1 (j : Jn a b s) {p : Int → Bool} (hp : p 10 = false) {i : Nat} (hi : i ≤ a.size) : over p s i = over p a i := by
  unfold over
  rw [show s.data.toList = bys s from rfl, j.drop1 hi, wh_nl p hp]; rfl
theorem Jn.over2 (j : Jn a b s) (p : Int → Bool) (i : Nat) : over p s (a.size + 1 + i) = a.size + 1 + over p b i := by
  unfold over
  rw [show s.data.toList = bys s from rfl, j.drop2 i]
  show a.size + 1 + i + wh p ((bys b).drop i) = a.size + 1 + (i + wh p ((bys b).drop i))
  omega
theorem Jn.skip1 (j : Jn a b s) {i : Nat} (hi : i ≤ a.size) : skip s i = if skip a i < a.size then skip a i else a.size + 1 + skip b 0 := by
  unfold skip
  rw [show s.data.toList = bys s from rfl, j.drop1 hi, sk_nl]
  have h1 : ((bys a).drop i).length = a.size - i := by rw [List.length_drop, bys_length]
  have h2 : a.data.toList.drop i = (bys a).drop i := rfl
  have h3 : b.data.toList.drop 0 = bys b := rfl
  rw [h2, h3, h1]
  split <;> split <;> omega
theorem Jn.skip2 (j : Jn a b s) (i : Nat) : skip s (a.size + 1 + i) = a.size + 1 + skip b i := by
  unfold skip
  rw [show s.data.toList = bys s from rfl, j.drop2 i]
  show a.size + 1 + i + sk false ((bys b).drop i) = a.size + 1 + (i + sk false ((bys b).drop i))
  omega
theorem bt_get (s : ByteArray) (i : Nat) : bt s i = match (bys s)[i]? with | some c => (c.toNat : Int) | none => -1 := by
  by_cases h : i < s.size
  · rw [bt_lt h]
    have : (bys s)[i]? = some s[i] := by
      rw [List.getElem?_eq_getElem (by rw [bys_length]; exact h)]; rfl
    rw [this]
  · rw [bt_ge (by omega), List.getElem?_eq_none (by rw [bys_length]; omega)]
theorem Jn.bt1 (j : Jn a b s) {i : Nat} (hi : i < a.size) : bt s i = bt a i := by
  rw [bt_get, bt_get, j.h, List.getElem?_append_left (by rw [bys_length]; exact hi)]
theorem Jn.btm (j : Jn a b s) : bt s a.size = 10 := by
  rw [bt_get, j.h, List.getElem?_append_right (by rw [bys_length]; omega), bys_length, Nat.sub_self]; rfl
theorem Jn.bt2 (j : Jn a b s) (i : Nat) : bt s (a.size + 1 + i) = bt b i := by
  rw [bt_get, bt_get, j.h, List.getElem?_append_right (by rw [bys_length]; omega), bys_length, show a.size + 1 + i - a.size = i + 1 by omega]; rfl
theorem Jn.ext1 (j : Jn a b s) {i e : Nat} (hi : i ≤ a.size) (he : e ≤ a.size) : s.extract i e = a.extract i e := by
  apply bys_inj
  rw [bys_extract, bys_extract, j.drop1 hi, List.take_append_of_le_length (by rw [List.length_drop, bys_length]; omega)]
theorem Jn.ext2 (j : Jn a b s) (i e : Nat) : s.extract (a.size + 1 + i) (a.size + 1 + e) = b.extract i e := by
  apply bys_inj
  rw [bys_extract, bys_extract, j.drop2 i, show a.size + 1 + e - (a.size + 1 + i) = e - i by omega]
theorem Jn.rd1 (j : Jn a b s) {i : Nat} (hi : i < a.size) : rd s i = rd a i := by
  have o1 : over nameB s i = over nameB a i := j.over1 (by decide) (by omega)
  have o2 : over termB s (i + 1) = over termB a (i + 1) := j.over1 (by decide) (by omega)
  have l1 := over_le nameB a i (by omega)
  have l2 := over_le termB a (i + 1) (by omega)
  have ht : termOk s i (over termB a (i + 1)) = termOk a i (over termB a (i + 1)) := by
    unfold termOk
    rcases Nat.lt_or_ge (over termB a (i + 1)) a.size with h | h
    · rw [j.bt1 h]
    · have e : over termB a (i + 1) = a.size := by omega
      rw [e, j.btm, bt_ge (Nat.le_refl _)]; simp
  unfold rd rdName rdTerm
  rw [j.bt1 hi, o1, o2, ht, j.ext1 (by omega) l1, j.ext1 (by omega) l2, j.ext1 (by omega) (by omega)]
theorem Jn.rd2 (j : Jn a b s) (i : Nat) : (rd s (a.size + 1 + i)).2.2 = (rd b i).2.2 ∧ ((rd b i).2.2 = 0 → (rd s (a.size + 1 + i)).1 = (rd b i).1.sh (a.size + 1) ∧ (rd s (a.size + 1 + i)).2.1 = (rd b i).2.1 + ((a.size + 1 : Nat) : Int)) := by
  have o1 : over nameB s (a.size + 1 + i) = a.size + 1 + over nameB b i := j.over2 _ _
  have o2 : over termB s (a.size + 1 + i + 1) = a.size + 1 + over termB b (i + 1) := by rw [show a.size + 1 + i + 1 = a.size + 1 + (i + 1) by omega]; exact j.over2 _ _
  have ht : termOk s (a.size + 1 + i) (a.size + 1 + over termB b (i + 1)) = termOk b i (over termB b (i + 1)) := by
    unfold termOk
    rw [j.bt2, show a.size + 1 + over termB b (i + 1) - (a.size + 1 + i + 1) = over termB b (i + 1) - (i + 1) by omega]
  have e1 := j.ext2 i (over nameB b i)
  have e2 : s.extract (a.size + 1 + i + 1) (a.size + 1 + over termB b (i + 1)) = b.extract (i + 1) (over termB b (i + 1)) := by
    rw [show a.size + 1 + i + 1 = a.size + 1 + (i + 1) by omega]; exact j.ext2 _ _
  have e3 : s.extract (a.size + 1 + i) (a.size + 1 + i + 1) = b.extract i (i + 1) := by
    rw [show a.size + 1 + i + 1 = a.size + 1 + (i + 1) by omega]; exact j.ext2 _ _
  unfold rd rdName rdTerm
  rw [j.bt2, o1, o2, ht, e1, e2, e3, show a.size + 1 + over nameB b i - (a.size + 1 + i) = over nameB b i - i by omega]
  split
  · split
    · refine ⟨rfl, fun _ => ⟨?_, ?_⟩⟩
      · simp [Tk.sh]; omega
      · simp; omega
    · exact ⟨rfl, fun h => by cases h⟩
  · split
    · split
      · refine ⟨rfl, fun _ => ⟨?_, ?_⟩⟩
        · simp [Tk.sh]; omega
        · simp; omega
      · exact ⟨rfl, fun h => by cases h⟩
    · split
      · refine ⟨rfl, fun _ => ⟨?_, ?_⟩⟩
        · simp [Tk.sh]; omega
        · simp; omega
      · exact ⟨rfl, fun h => by cases h⟩
theorem st_mono (a : ByteArray) (k : Nat) : (st a k).2 ≤ (st a (k + 1)).2 := by
  show (st a k).2 ≤ (stp a (st a k)).2
  unfold stp
  split
  · rename_i h
    have n := (rd_next h.1 h.2).1
    have g := skip_ge a (rd a (st a k).2).2.1.toNat
    show (st a k).2 ≤ skip a (rd a (st a k).2).2.1.toNat
    omega
  · exact Nat.le_refl _
theorem st_mono' (a : ByteArray) {k m : Nat} (h : k ≤ m) : (st a k).2 ≤ (st a m).2 := by
  induction m with
  | zero => rw [show k = 0 by omega]; exact Nat.le_refl _
  | succ m ih =>
    by_cases e : k = m + 1
    · rw [e]; exact Nat.le_refl _
    · exact Nat.le_trans (ih (by omega)) (st_mono a m)
/-- As far as the first text goes. -/
theorem Jn.st1 (j : Jn a b s) (k : Nat) : ((st a k).2 < a.size → st s k = st a k) ∧ ((st a k).2 = a.size → (∀ i, i < k → (st a i).2 < a.size) → st s k = ((st a k).1, a.size + 1 + skip b 0)) := by
  induction k with
  | zero =>
    have e := j.skip1 (i := 0) (by omega)
    refine ⟨fun h => ?_, fun h _ => ?_⟩
    · show ([], skip s 0) = ([], skip a 0)
      have h' : skip a 0 < a.size := h
      rw [e, if_pos h']
    · show ([], skip s 0) = ([], a.size + 1 + skip b 0)
      have h' : skip a 0 = a.size := h
      rw [e, if_neg (by omega)]
  | succ k ih =>
    have step : (st a k).2 < a.size → st s (k + 1) = if (rd a (st a k).2).2.2 = 0 then ((st a k).1 ++ [(rd a (st a k).2).1], skip s (rd a (st a k).2).2.1.toNat) else st a k := by
      intro h
      show stp s (st s k) = _
      rw [ih.1 h]
      unfold stp
      rw [j.rd1 h]
      have : (st a k).2 < s.size := by rw [j.size]; omega
      by_cases hc : (rd a (st a k).2).2.2 = 0
      · rw [if_pos ⟨this, hc⟩, if_pos hc]
      · rw [if_neg (fun h => hc h.2), if_neg hc]
    have stepa : (st a k).2 < a.size → st a (k + 1) = if (rd a (st a k).2).2.2 = 0 then ((st a k).1 ++ [(rd a (st a k).2).1], skip a (rd a (st a k).2).2.1.toNat) else st a k := by
      intro h
      show stp a (st a k) = _
      unfold stp
      by_cases hc : (rd a (st a k).2).2.2 = 0
      · rw [if_pos ⟨h, hc⟩, if_pos hc]
      · rw [if_neg (fun h => hc h.2), if_neg hc]
    refine ⟨fun h => ?_, fun h hall => ?_⟩
    · have hk : (st a k).2 < a.size := Nat.lt_of_le_of_lt (st_mono a k) h
      rw [step hk, stepa hk]
      rw [stepa hk] at h
      by_cases hc : (rd a (st a k).2).2.2 = 0
      · rw [if_pos hc] at h ⊢
        rw [if_pos hc]
        have e := j.skip1 (i := (rd a (st a k).2).2.1.toNat) (rd_next hk hc).2.1
        have h' : skip a (rd a (st a k).2).2.1.toNat < a.size := h
        rw [e, if_pos h']
      · rw [if_neg hc, if_neg hc]
    · have hk : (st a k).2 < a.size := hall k (by omega)
      rw [step hk, stepa hk]
      rw [stepa hk] at h
      by_cases hc : (rd a (st a k).2).2.2 = 0
      · rw [if_pos hc] at h ⊢
        rw [if_pos hc]
        have e := j.skip1 (i := (rd a (st a k).2).2.1.toNat) (rd_next hk hc).2.1
        have h' : skip a (rd a (st a k).2).2.1.toNat = a.size := h
        rw [e, if_neg (by omega)]
      · rw [if_neg hc] at h; omega
/-- .. and behind it. -/
theorem Jn.st2 (j : Jn a b s) {k : Nat} (h : st s k = ((st a k).1, a.size + 1 + skip b 0)) (i : Nat) : st s (k + i) = ((st a k).1 ++ (st b i).1.map (Tk.sh (a.size + 1)), a.size + 1 + (st b i).2) := by
  induction i with
  | zero => rw [Nat.add_zero, h]; simp [st]
  | succ i ih =>
    show stp s (st s (k + i)) = _
    rw [ih]
    show _ = ((st a k).1 ++ (stp b (st b i)).1.map (Tk.sh (a.size + 1)), a.size + 1 + (stp b (st b i)).2)
    unfold stp
    obtain ⟨r1, r2⟩ := j.rd2 (st b i).2
    have hz := j.size
    by_cases hc : (st b i).2 < b.size ∧ (rd b (st b i).2).2.2 = 0
    · obtain ⟨r3, r4⟩ := r2 hc.2
      rw [if_pos hc, if_pos ⟨by show a.size + 1 + (st b i).2 < s.size; omega, by rw [r1]; exact hc.2⟩]
      have n := rd_next hc.1 hc.2
      simp only [r3, r4]
      have : ((rd b (st b i).2).2.1 + ((a.size + 1 : Nat) : Int)).toNat = a.size + 1 + (rd b (st b i).2).2.1.toNat := by omega
      rw [this, j.skip2]
      simp
    · rw [if_neg hc, if_neg (fun h => hc ⟨by have h1 : a.size + 1 + (st b i).2 < s.size := h.1; omega, by rw [← r1]; exact h.2⟩)]
theorem st_end (b : ByteArray) : stp b (st b b.size) = st b b.size := by
  rcases st_grow b b.size with h | h
  · unfold stp; rw [if_neg (fun hh => by omega)]
  · exact h
/-- A fault of the first text's is the whole's. -/
theorem Jn.bad1 (j : Jn a b s) (h6 : s.size ≤ 6000) (hc : (scan a).2.1 ≠ 0) : scan s = scan a := by
  have hz := j.size
  have ha : scan a = fin a (st a a.size) := by unfold scan; rw [if_neg (by omega)]
  have hsn : scan s = fin s (st s s.size) := by unfold scan; rw [if_neg (by omega)]
  rw [ha] at hc
  have hlt : (st a a.size).2 < a.size := by
    rcases Nat.lt_or_ge (st a a.size).2 a.size with h | h
    · exact h
    · unfold fin at hc; rw [if_neg (by omega)] at hc; exact absurd rfl hc
  have e1 := (j.st1 a.size).1 hlt
  have hcc : (rd a (st a a.size).2).2.2 ≠ 0 := by unfold fin at hc; rw [if_pos hlt] at hc; exact hc
  have stuck : stp s (st s a.size) = st s a.size := by
    rw [e1]; unfold stp
    rw [if_neg]
    intro h
    rw [j.rd1 hlt] at h
    exact hcc h.2
  have e2 := st_fin stuck (by omega)
  rw [hsn, ha, e2, e1]
  unfold fin
  rw [if_pos hlt, if_pos (by omega), j.rd1 hlt]
theorem Jn.good1 (j : Jn a b s) (h6 : s.size ≤ 6000) (hc : (scan a).2.1 = 0) :
    ((scan b).2.1 = 0 → scan s = ((scan a).1 ++ (scan b).1.map (Tk.sh (a.size + 1)), 0, 0)) ∧ ((scan b).2.1 ≠ 0 → (scan s).2.1 = (scan b).2.1) := by
  have hz := j.size
  have ha : scan a = fin a (st a a.size) := by unfold scan; rw [if_neg (by omega)]
  have hb : scan b = fin b (st b b.size) := by unfold scan; rw [if_neg (by omega)]
  have hsn : scan s = fin s (st s s.size) := by unfold scan; rw [if_neg (by omega)]
  have hend : ¬ (st a a.size).2 < a.size := by
    intro hlt
    rw [ha] at hc
    unfold fin at hc
    rw [if_pos hlt] at hc
    rcases st_grow a a.size with h | h
    · omega
    · unfold stp at h
      rw [if_pos ⟨hlt, hc⟩] at h
      have h2 := congrArg (fun x => x.2) h
      have n := (rd_next hlt hc).1
      have g := skip_ge a (rd a (st a a.size).2).2.1.toNat
      have h3 : skip a (rd a (st a a.size).2).2.1.toNat = (st a a.size).2 := h2
      omega
  have ex : ∃ k, (st a k).2 = a.size ∧ (∀ i, i < k → (st a i).2 < a.size) ∧ k ≤ a.size := by
    have key : ∀ m, (∀ i, i < m → (st a i).2 < a.size) ∨ ∃ k, (st a k).2 = a.size ∧ (∀ i, i < k → (st a i).2 < a.size) ∧ k < m := by
      intro m
      induction m with
      | zero => left; intro i hi; omega
      | succ m ih =>
        rcases ih with ih | ⟨k, h1, h2, h3⟩
        · rcases Nat.lt_or_ge (st a m).2 a.size with h | h
          · left; intro i hi
            by_cases e : i = m
            · rw [e]; exact h
            · exact ih i (by omega)
          · right; exact ⟨m, by have := st_le a m; omega, ih, by omega⟩
        · right; exact ⟨k, h1, h2, by omega⟩
    rcases key (a.size + 1) with h | ⟨k, h1, h2, h3⟩
    · exact absurd (h a.size (by omega)) hend
    · exact ⟨k, h1, h2, by omega⟩
  obtain ⟨k, k1, k2, k3⟩ := ex
  have e1 := (j.st1 k).2 k1 k2
  have stuckA : st a a.size = st a k := by
    refine st_fin ?_ k3
    unfold stp; rw [if_neg (fun h => by omega)]
  have e2 := j.st2 e1 b.size
  have stuck : stp s (st s (k + b.size)) = st s (k + b.size) := by
    have := j.st2 e1 (b.size + 1)
    have h2 : st s (k + (b.size + 1)) = stp s (st s (k + b.size)) := rfl
    rw [← h2, this, e2]
    show ((st a k).1 ++ (stp b (st b b.size)).1.map (Tk.sh (a.size + 1)), a.size + 1 + (stp b (st b b.size)).2) = _
    rw [st_end]
  have e3 := st_fin stuck (by omega)
  rw [hsn, e3, e2, ha, stuckA, hb]
  unfold fin
  rw [if_neg (show ¬ (st a k).2 < a.size by omega)]
  obtain ⟨r1, _⟩ := j.rd2 (st b b.size).2
  refine ⟨fun h => ?_, fun h => ?_⟩
  · by_cases hlt : (st b b.size).2 < b.size
    · exfalso
      rw [if_pos hlt] at h
      have := st_end b
      unfold stp at this
      rw [if_pos ⟨hlt, h⟩] at this
      have h2 := congrArg (fun x => x.2) this
      have n := (rd_next hlt h).1
      have g := skip_ge b (rd b (st b b.size).2).2.1.toNat
      have h3 : skip b (rd b (st b b.size).2).2.1.toNat = (st b b.size).2 := h2
      omega
    · rw [if_neg hlt, if_neg (show ¬ a.size + 1 + (st b b.size).2 < s.size by omega)]
  · by_cases hlt : (st b b.size).2 < b.size
    · rw [if_pos hlt, if_pos (show a.size + 1 + (st b b.size).2 < s.size by omega)]
      exact r1
    · rw [if_neg hlt] at h; exact absurd rfl h
end
end Go.Proofs.Ythbbfddclhcoaaa
