/- There and back, in plain mathematics: the tokens of a text, laid one behind the other with a remark behind each, are read as they were. -/
import Derived.Test.YtdikjhfnmkejcabRMath
namespace Go.Proofs.Ytdikjhfnmkejcab

def bys (s : ByteArray) : List UInt8 := s.data.toList
theorem bys_length (s : ByteArray) : (bys s).length = s.size := by simp [bys]
theorem bys_mk (l : List UInt8) : bys ⟨l.toArray⟩ = l := by simp [bys]
theorem bys_inj {s t : ByteArray} (h : bys s = bys t) : s = t := by
  have : s.data = t.data := by simpa [bys] using h
  exact ByteArray.ext this
theorem bys_extract (s : ByteArray) (a e : Nat) : bys (s.extract a e) = ((bys s).drop a).take (e - a) := by
  simp only [bys, ByteArray.data_extract]
  simp [Array.toList_extract, List.extract_eq_take_drop]

/-- What may stand as a token's text, by its kind. -/
def Okk (k : Int) (l : List UInt8) : Prop :=
  (k = 1 ∧ (∃ c r, l = c :: r ∧ letB c.toNat = true) ∧ (∀ d ∈ l, nameB d.toNat = true) ∧ l.length ≤ 12) ∨
  (k = 2 ∧ 1 ≤ l.length ∧ l.length ≤ 12 ∧ ∀ d ∈ l, termB d.toNat = true) ∨
  (k = 3 ∧ ∃ c, l = [c] ∧ signB c.toNat = true)

/-- A token's bytes, and what is laid behind them. -/
def tb (x : Tk) : List UInt8 := if x.k = 2 then 34 :: (bys x.t ++ [34]) else bys x.t
def tl5 : List UInt8 := [32, 35, 32, 120, 10]
def enc (x : Tk) : List UInt8 := tb x ++ tl5
def re : Nat → List Tk → List Tk
  | _, [] => []
  | p, x :: r => ⟨x.k, p, x.t⟩ :: re (p + (enc x).length) r
theorem re_snoc (p : Nat) (l : List Tk) (x : Tk) : re p (l ++ [x]) = re p l ++ [⟨x.k, ((p + (l.flatMap enc).length : Nat) : Int), x.t⟩] := by
  induction l generalizing p with
  | nil => simp [re]
  | cons y l ih => simp [re, ih, Nat.add_assoc]
theorem re_length (p : Nat) (l : List Tk) : (re p l).length = l.length := by
  induction l generalizing p with
  | nil => rfl
  | cons x l ih => simp [re, ih]
theorem re_get (p : Nat) (l : List Tk) (i : Nat) (h : i < l.length) (h' : i < (re p l).length) : (re p l)[i].k = l[i].k ∧ (re p l)[i].t = l[i].t := by
  induction l generalizing p i with
  | nil => simp at h
  | cons x l ih =>
    cases i with
    | zero => simp [re]
    | succ i => simpa [re] using ih (p + (enc x).length) i (by simpa using h) (by simpa [re] using h')

theorem wh_all (p : Int → Bool) (l : List UInt8) (c : UInt8) (r : List UInt8) (h : ∀ d ∈ l, p d.toNat = true) (hc : p c.toNat = false) : wh p (l ++ c :: r) = l.length := by
  induction l with
  | nil => simp [wh_cons, hc]
  | cons d l ih =>
    rw [List.cons_append, wh_cons, if_pos (h d (by simp)), ih (fun e he => h e (by simp [he]))]
    simp
theorem lt_of_drop {s : ByteArray} {p : Nat} {c : UInt8} {r : List UInt8} (h : (bys s).drop p = c :: r) : p < s.size := by
  rcases Nat.lt_or_ge p s.size with h' | h'
  · exact h'
  · rw [bys, drop_end s p h'] at h; simp at h
theorem bt_drop {s : ByteArray} {p : Nat} {c : UInt8} {r : List UInt8} (h : (bys s).drop p = c :: r) : bt s p = c.toNat := by
  have hl := lt_of_drop h
  rw [bys, drop_at s p hl] at h
  rw [bt_lt hl]
  injection h with h1 h2
  rw [h1]
theorem drop_more {s : ByteArray} {p : Nat} {a r : List UInt8} (h : (bys s).drop p = a ++ r) : (bys s).drop (p + a.length) = r := by
  rw [← List.drop_drop, h]; simp

theorem tb_len (x : Tk) : (tb x).length = (bys x.t).length + if x.k = 2 then 2 else 0 := by
  unfold tb; split <;> simp
theorem rd_enc {s : ByteArray} {p : Nat} {x : Tk} {r : List UInt8} (hx : Okk x.k (bys x.t)) (h : (bys s).drop p = enc x ++ r) :
    rd s p = (⟨x.k, p, x.t⟩, ((p + (tb x).length : Nat) : Int), 0) := by
  rcases hx with ⟨hk, ⟨c, q, hl, hc⟩, hall, hlen⟩ | ⟨hk, h1, h12, hall⟩ | ⟨hk, c, hl, hc⟩
  · have e : tb x = bys x.t := by unfold tb; rw [if_neg (by omega)]
    rw [enc, e, List.append_assoc] at h
    have h2 : (bys s).drop p = c :: (q ++ (tl5 ++ r)) := by rw [h, hl]; rfl
    have hov : over nameB s p = p + (bys x.t).length := by
      unfold over; rw [show s.data.toList = bys s from rfl, h]
      rw [show tl5 ++ r = 32 :: ([35, 32, 120, 10] ++ r) from rfl, wh_all _ _ _ _ hall (by decide)]
    have ht : s.extract p (p + (bys x.t).length) = x.t := by
      apply bys_inj; rw [bys_extract, h]; simp
    unfold rd rdName
    rw [bt_drop h2, if_pos hc, hov, if_pos (by omega), ht, e, hk]
  · have e : tb x = 34 :: (bys x.t ++ [34]) := by unfold tb; rw [if_pos hk]
    rw [enc, e] at h
    have h2 : (bys s).drop p = 34 :: (bys x.t ++ 34 :: (tl5 ++ r)) := by rw [h]; simp
    have h3 : (bys s).drop (p + 1) = bys x.t ++ 34 :: (tl5 ++ r) := by
      have := drop_more (a := [34]) (r := bys x.t ++ 34 :: (tl5 ++ r)) (by rw [h2]; rfl)
      simpa using this
    have h4 : (bys s).drop (p + 1 + (bys x.t).length) = 34 :: (tl5 ++ r) := drop_more h3
    have hov : over termB s (p + 1) = p + 1 + (bys x.t).length := by
      unfold over; rw [show s.data.toList = bys s from rfl, h3]
      rw [wh_all _ _ _ _ hall (by decide)]
    have ht : s.extract (p + 1) (p + 1 + (bys x.t).length) = x.t := by
      apply bys_inj; rw [bys_extract, h3]; simp
    have hb := bt_drop h2
    have hok : termOk s p (p + 1 + (bys x.t).length) = true := by
      simp only [termOk, bt_drop h4]; simp; omega
    unfold rd rdTerm
    rw [hb, if_neg (by decide), if_pos (by decide), hov, hok, if_pos rfl, ht, e, hk]
    simp; omega
  · have e : tb x = [c] := by unfold tb; rw [if_neg (by omega), hl]
    rw [enc, e] at h
    have h2 : (bys s).drop p = c :: (tl5 ++ r) := by rw [h]; rfl
    have ht : s.extract p (p + 1) = x.t := by
      apply bys_inj; rw [bys_extract, h2, hl]; simp
    obtain ⟨hs1, hs2⟩ := sign_let hc
    unfold rd
    rw [bt_drop h2, hs1, if_neg (by simp), hs2, if_neg (by simp), hc, if_pos rfl, ht, e, hk]
    rfl

/-- A rest that begins with a token, or is none: nothing of it is skipped. -/
theorem sk_enc (l : List Tk) (h : ∀ x ∈ l, Okk x.k (bys x.t)) : sk false (l.flatMap enc) = 0 := by
  cases l with
  | nil => rfl
  | cons x l =>
    have hx := h x (by simp)
    have hd : ∃ c r, enc x = c :: r ∧ blankB c.toNat = false ∧ ((c.toNat : Int) == 35) = false := by
      rcases hx with ⟨hk, ⟨c, q, hl, hc⟩, _⟩ | ⟨hk, _⟩ | ⟨hk, c, hl, hc⟩
      · refine ⟨c, q ++ tl5, ?_, ?_⟩
        · unfold enc tb; rw [if_neg (by omega), hl]; rfl
        · simp only [letB, Bool.or_eq_true, Bool.and_eq_true, decide_eq_true_eq, beq_iff_eq] at hc
          simp only [blankB, Bool.or_eq_false_iff, beq_eq_false_iff_ne, ne_eq]; omega
      · refine ⟨34, bys x.t ++ [34] ++ tl5, ?_, by decide, by decide⟩
        unfold enc tb; rw [if_pos hk]; rfl
      · refine ⟨c, tl5, ?_, ?_⟩
        · unfold enc tb; rw [if_neg (by omega), hl]; rfl
        · simp only [signB, Bool.or_eq_true, beq_iff_eq] at hc
          simp only [blankB, Bool.or_eq_false_iff, beq_eq_false_iff_ne, ne_eq]; omega
    obtain ⟨c, r, e, h1, h2⟩ := hd
    rw [List.flatMap_cons, e, List.cons_append]
    simp [sk, h1, h2]
theorem sk_tail (r : List UInt8) : sk false (tl5 ++ r) = 5 + sk false r := by
  simp [tl5, sk, blankB]; omega

theorem flat_split (l : List Tk) (i : Nat) (hi : i < l.length) : (l.flatMap enc).drop ((l.take i).flatMap enc).length = enc l[i] ++ (l.drop (i + 1)).flatMap enc := by
  have e : l.flatMap enc = (l.take i).flatMap enc ++ (l.drop i).flatMap enc := by rw [← List.flatMap_append, List.take_append_drop]
  have e2 : (l.drop i).flatMap enc = enc l[i] ++ (l.drop (i + 1)).flatMap enc := by rw [List.drop_eq_getElem_cons hi, List.flatMap_cons]
  rw [e, List.drop_append_of_le_length (Nat.le_refl _), List.drop_of_length_le (Nat.le_refl _), List.nil_append, e2]
theorem st_enc (l : List Tk) (h : ∀ x ∈ l, Okk x.k (bys x.t)) (s : ByteArray) (hs : bys s = l.flatMap enc) (i : Nat) (hi : i ≤ l.length) :
    st s i = (re 0 (l.take i), ((l.take i).flatMap enc).length) := by
  induction i with
  | zero =>
    show ([], skip s 0) = _
    unfold skip; rw [show s.data.toList = bys s from rfl, List.drop_zero, hs, sk_enc l h]; simp [re]
  | succ i ih =>
    have hi' : i < l.length := by omega
    have hd := flat_split l i hi'
    rw [← hs] at hd
    have hx := h l[i] (List.getElem_mem hi')
    have er := rd_enc hx hd
    have hlt : ((l.take i).flatMap enc).length < s.size := by
      rw [← bys_length, hs]
      have := congrArg List.length (flat_split l i hi')
      have ht := tb_len l[i]
      simp only [List.length_drop, List.length_append, enc, tl5, List.length_cons, List.length_nil] at this
      omega
    rw [st_next (ih (by omega)) hlt er rfl]
    rw [List.take_succ_eq_append_getElem hi', re_snoc]
    rw [Int.toNat_natCast]
    congr 1
    · simp
    · unfold skip
      have h2 : (bys s).drop (((l.take i).flatMap enc).length + (tb l[i]).length) = tl5 ++ (l.drop (i + 1)).flatMap enc := by
        apply drop_more; rw [hd, enc, List.append_assoc]
      rw [show s.data.toList = bys s from rfl, h2, sk_tail, sk_enc _ (fun x hx => h x (List.mem_of_mem_drop hx))]
      have h5 : tl5.length = 5 := rfl
      rw [List.flatMap_append, List.length_append]
      simp only [List.flatMap_cons, List.flatMap_nil, List.append_nil, enc, List.length_append]
      omega
theorem enc_pos (x : Tk) : 5 ≤ (enc x).length := by simp [enc, tl5]
theorem flat_ge (l : List Tk) : l.length ≤ (l.flatMap enc).length := by
  induction l with
  | nil => simp
  | cons x l ih => have := enc_pos x; rw [List.flatMap_cons, List.length_append, List.length_cons]; omega
theorem scan_enc (l : List Tk) (h : ∀ x ∈ l, Okk x.k (bys x.t)) (s : ByteArray) (hs : bys s = l.flatMap enc) (h6 : s.size ≤ 6000) : scan s = (re 0 l, 0, 0) := by
  have e := st_enc l h s hs l.length (Nat.le_refl _)
  rw [List.take_length] at e
  have hz : (l.flatMap enc).length = s.size := by rw [← hs, bys_length]
  have hg := flat_ge l
  exact scan_good e hg (by omega) (by omega) h6

/-- What holds of all tokens that a scan has come to. -/
structure Good (s : ByteArray) (l : List Tk) (a : Nat) : Prop where
  ok : ∀ x ∈ l, Okk x.k (bys x.t)
  at_ : ∀ x ∈ l, 0 ≤ x.at_ ∧ x.at_ < a
  up : l.Pairwise (fun x y => x.at_ < y.at_)
theorem all_bys {p : Int → Bool} {s : ByteArray} {a e : Nat} (he : e ≤ s.size) (h : ∀ j, a ≤ j → j < e → p (bt s j) = true) : ∀ d ∈ bys (s.extract a e), p d.toNat = true := by
  intro d hd
  rw [bys_extract] at hd
  obtain ⟨i, hi, e1⟩ := List.getElem_of_mem hd
  simp only [List.length_take, List.length_drop, bys_length] at hi
  have := h (a + i) (by omega) (by omega)
  rw [bt_lt (by omega)] at this
  rw [← e1]
  simp only [List.getElem_take, List.getElem_drop]
  exact this
theorem rd_ok {s : ByteArray} {a : Nat} (ha : a < s.size) (hc : (rd s a).2.2 = 0) : Okk (rd s a).1.k (bys (rd s a).1.t) ∧ (rd s a).1.at_ = a := by
  unfold rd at *
  split at hc
  · rename_i hl
    simp only [hl, if_true]
    unfold rdName at *
    split at hc
    · rename_i h12
      simp only [h12, if_true]
      refine ⟨.inl ⟨rfl, ?_, all_bys (over_le nameB s a (by omega)) (over_spec nameB s a (by omega)).1, ?_⟩, trivial⟩
      · have g : a + 1 ≤ over nameB s a := by
          have := over_ge nameB s (a + 1)
          rwa [over_yes ha (by rw [bt_lt ha] at hl; simp [nameB, hl])] at this
        refine ⟨s[a], ((bys s).drop (a + 1)).take (over nameB s a - a - 1), ?_, by rw [bt_lt ha] at hl; exact hl⟩
        rw [bys_extract, bys, drop_at s a ha, show over nameB s a - a = (over nameB s a - a - 1) + 1 from by omega, List.take_succ_cons]; rfl
      · rw [bys_extract]; simp; omega
    · simp at hc
  · rename_i hl
    simp only [if_neg hl]
    split at hc
    · rename_i hq
      simp only [hq, if_true]
      unfold rdTerm at *
      split at hc
      · rename_i hk
        simp only [hk, if_true]
        have hk' := hk
        simp only [termOk, Bool.and_eq_true, decide_eq_true_eq, beq_iff_eq] at hk'
        have l1 := over_le termB s (a + 1) ha
        have hz : (bys (s.extract (a + 1) (over termB s (a + 1)))).length = over termB s (a + 1) - (a + 1) := by rw [bys_length]; simp; omega
        exact ⟨.inr (.inl ⟨rfl, by omega, by omega, all_bys l1 (over_spec termB s (a + 1) ha).1⟩), trivial⟩
      · simp at hc
    · rename_i hq
      simp only [if_neg hq]
      split at hc
      · rename_i hs
        simp only [hs, if_true]
        refine ⟨.inr (.inr ⟨rfl, s[a], ?_, by rw [bt_lt ha] at hs; exact hs⟩), trivial⟩
        rw [bys_extract, bys, drop_at s a ha]; simp
      · simp at hc
theorem st_ok (s : ByteArray) (k : Nat) : Good s (st s k).1 (st s k).2 := by
  induction k with
  | zero => exact ⟨by simp [st], by simp [st], by simp [st]⟩
  | succ k ih =>
    show Good s (stp s (st s k)).1 (stp s (st s k)).2
    unfold stp
    split
    · rename_i h
      obtain ⟨o1, o2⟩ := rd_ok h.1 h.2
      have n1 := (rd_next h.1 h.2).1
      have g := skip_ge s (rd s (st s k).2).2.1.toNat
      refine ⟨?_, ?_, ?_⟩
      · intro x hx
        rcases List.mem_append.1 hx with hx | hx
        · exact ih.ok x hx
        · simp at hx; subst hx; exact o1
      · intro x hx
        show 0 ≤ x.at_ ∧ x.at_ < ((skip s (rd s (st s k).2).2.1.toNat : Nat) : Int)
        rcases List.mem_append.1 hx with hx | hx
        · have := ih.at_ x hx; omega
        · simp at hx; subst hx; omega
      · show ((st s k).1 ++ [(rd s (st s k).2).1]).Pairwise _
        rw [List.pairwise_append]
        refine ⟨ih.up, by simp, ?_⟩
        intro x hx y hy
        simp at hy; subst hy
        have := ih.at_ x hx; omega
    · exact ih
theorem scan_ok (s : ByteArray) : Good s (scan s).1 s.size := by
  unfold scan
  split
  · exact ⟨by simp, by simp, by simp⟩
  · unfold fin
    split
    · exact ⟨by simp, by simp, by simp⟩
    · have o := st_ok s s.size
      have := st_le s s.size
      exact ⟨o.ok, fun x hx => by have := o.at_ x hx; omega, o.up⟩
theorem up_get {l : List Tk} (h : l.Pairwise (fun x y => x.at_ < y.at_)) (i : Nat) (hi : i + 1 < l.length) : l[i].at_ < l[i + 1].at_ :=
  List.pairwise_iff_getElem.1 h i (i + 1) (by omega) hi (by omega)
theorem scan_code (s : ByteArray) (h : (scan s).2.1 ≠ 0) : (scan s).1 = [] := by
  unfold scan at *
  split
  · rfl
  · rename_i h6
    rw [if_neg h6] at h
    unfold fin at *
    split
    · rfl
    · rename_i h7; rw [if_neg h7] at h; simp at h
end Go.Proofs.Ytdikjhfnmkejcab
