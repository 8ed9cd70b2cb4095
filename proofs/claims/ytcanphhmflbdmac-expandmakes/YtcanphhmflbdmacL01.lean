/- Plain mathematics of tokens: what is skipped, what a token is, what a scan comes to. No program is named here. -/
import Derived.WalkKit
namespace Go.Proofs.Ytcanphhmflbdmac

theorem hd {p : Prop} (h : p) : Go.RowKit.Hid p := h

def letB (c : Int) : Bool := (decide (97 ≤ c) && decide (c ≤ 122)) || (decide (65 ≤ c) && decide (c ≤ 90)) || (c == 95)
def digB (c : Int) : Bool := decide (48 ≤ c) && decide (c ≤ 57)
def nameB (c : Int) : Bool := letB c || digB c
def termB (c : Int) : Bool := decide (32 ≤ c) && decide (c ≤ 126) && (c != 34)
def blankB (c : Int) : Bool := c == 32 || c == 9 || c == 13 || c == 10
def signB (c : Int) : Bool := c == 61 || c == 59 || c == 124 || c == 40 || c == 41 || c == 91 || c == 93 || c == 123 || c == 125 || c == 60 || c == 62
def lineB (c : Int) : Bool := c != 10
def quotB (c : Int) : Bool := c != 34 && c != 10

/-- The byte at a place, or -1 behind the end. -/
def bt (s : ByteArray) (k : Nat) : Int := if h : k < s.size then (s[k].toNat : Int) else -1
theorem bt_lt {s : ByteArray} {k : Nat} (h : k < s.size) : bt s k = (s[k].toNat : Int) := dif_pos h
theorem bt_ge {s : ByteArray} {k : Nat} (h : s.size ≤ k) : bt s k = -1 := dif_neg (by omega)

def wh (p : Int → Bool) (l : List UInt8) : Nat := (l.takeWhile fun c => p c.toNat).length
theorem wh_nil (p : Int → Bool) : wh p [] = 0 := rfl
theorem wh_cons (p : Int → Bool) (c : UInt8) (l : List UInt8) : wh p (c :: l) = if p c.toNat then wh p l + 1 else 0 := by
  unfold wh; rw [List.takeWhile_cons]; split <;> simp
theorem wh_le (p : Int → Bool) (l : List UInt8) : wh p l ≤ l.length := by
  induction l with
  | nil => simp [wh_nil]
  | cons c l ih => rw [wh_cons]; split <;> simp <;> omega

theorem drop_at (s : ByteArray) (k : Nat) (h : k < s.size) : s.data.toList.drop k = s[k] :: s.data.toList.drop (k + 1) := by
  rw [List.drop_eq_getElem_cons (by simpa using h)]; rfl
theorem drop_end (s : ByteArray) (k : Nat) (h : s.size ≤ k) : s.data.toList.drop k = [] :=
  List.drop_of_length_le (by simpa using h)

def over (p : Int → Bool) (s : ByteArray) (a : Nat) : Nat := a + wh p (s.data.toList.drop a)
theorem over_yes {p : Int → Bool} {s : ByteArray} {k : Nat} (h : k < s.size) (hp : p (s[k].toNat : Int) = true) : over p s (k + 1) = over p s k := by
  unfold over; rw [drop_at s k h, wh_cons, if_pos hp]; omega
theorem over_no {p : Int → Bool} {s : ByteArray} {k : Nat} (h : k < s.size) (hp : p (s[k].toNat : Int) = false) : over p s k = k := by
  unfold over; rw [drop_at s k h, wh_cons, if_neg (by simp [hp])]; omega
theorem over_end {p : Int → Bool} {s : ByteArray} {k : Nat} (h : s.size ≤ k) : over p s k = k := by
  unfold over; rw [drop_end s k h, wh_nil]; omega
theorem over_ge (p : Int → Bool) (s : ByteArray) (k : Nat) : k ≤ over p s k := by unfold over; omega
theorem over_le (p : Int → Bool) (s : ByteArray) (k : Nat) (h : k ≤ s.size) : over p s k ≤ s.size := by
  unfold over
  have := wh_le p (s.data.toList.drop k)
  simp at this; omega
/-- What holds of the place that a scan stops at, and of all ahead of it. -/
theorem over_spec (p : Int → Bool) (s : ByteArray) (a : Nat) (h : a ≤ s.size) :
    (∀ j, a ≤ j → j < over p s a → p (bt s j) = true) ∧ (over p s a < s.size → p (bt s (over p s a)) = false) := by
  have key : ∀ n a, s.size - a = n → a ≤ s.size → (∀ j, a ≤ j → j < over p s a → p (bt s j) = true) ∧ (over p s a < s.size → p (bt s (over p s a)) = false) := by
    intro n
    induction n with
    | zero =>
      intro a hn ha
      rw [over_end (by omega)]
      exact ⟨fun j h1 h2 => by omega, fun h => by omega⟩
    | succ n ih =>
      intro a hn ha
      have hl : a < s.size := by omega
      by_cases hp : p (s[a].toNat : Int) = true
      · obtain ⟨i1, i2⟩ := ih (a + 1) (by omega) (by omega)
        rw [over_yes hl hp] at i1 i2
        refine ⟨fun j h1 h2 => ?_, i2⟩
        by_cases e : j = a
        · subst e; rw [bt_lt hl]; exact hp
        · exact i1 j (by omega) h2
      · have hp' : p (s[a].toNat : Int) = false := by simpa using hp
        rw [over_no hl hp']
        exact ⟨fun j h1 h2 => by omega, fun _ => by rw [bt_lt hl]; exact hp'⟩
  exact key _ a rfl h
theorem over_unique (p : Int → Bool) (s : ByteArray) (a e : Nat) (ha : a ≤ e) (he : e ≤ s.size) (h1 : ∀ j, a ≤ j → j < e → p (bt s j) = true)
    (h2 : e < s.size → p (bt s e) = false) : over p s a = e := by
  obtain ⟨o1, o2⟩ := over_spec p s a (by omega)
  have l1 := over_le p s a (by omega)
  have g1 := over_ge p s a
  rcases Nat.lt_trichotomy (over p s a) e with h | h | h
  · have := h1 _ g1 h; rw [o2 (by omega)] at this; simp at this
  · exact h
  · have := o1 e ha h; rw [h2 (by omega)] at this; simp at this

/-- How many bytes are skipped; the tag: within a remark. -/
def sk : Bool → List UInt8 → Nat
  | _, [] => 0
  | true, c :: r => if (c.toNat : Int) == 10 then 1 + sk false r else 1 + sk true r
  | false, c :: r => if blankB c.toNat then 1 + sk false r else if (c.toNat : Int) == 35 then 1 + sk true r else 0
def skip (s : ByteArray) (a : Nat) : Nat := a + sk false (s.data.toList.drop a)

theorem sk_le (b : Bool) (l : List UInt8) : sk b l ≤ l.length := by
  induction l generalizing b with
  | nil => simp [sk]
  | cons c l ih =>
    have h1 := ih true; have h2 := ih false
    cases b <;> simp only [sk, List.length_cons] <;> (repeat' split) <;> omega
theorem skip_ge (s : ByteArray) (a : Nat) : a ≤ skip s a := by unfold skip; omega
theorem skip_le (s : ByteArray) (a : Nat) (h : a ≤ s.size) : skip s a ≤ s.size := by
  unfold skip
  have := sk_le false (s.data.toList.drop a)
  simp at this; omega
theorem skip_end {s : ByteArray} {k : Nat} (h : s.size ≤ k) : skip s k = k := by
  unfold skip; rw [drop_end s k h]; simp [sk]
theorem skip_blank {s : ByteArray} {k : Nat} (h : k < s.size) (hb : blankB (s[k].toNat : Int) = true) : skip s (k + 1) = skip s k := by
  unfold skip; rw [drop_at s k h]; simp only [sk, hb, if_true]; omega
theorem skip_stop {s : ByteArray} {k : Nat} (h : k < s.size) (hb : blankB (s[k].toNat : Int) = false) (hh : ((s[k].toNat : Int) == 35) = false) : skip s k = k := by
  unfold skip; rw [drop_at s k h]; simp [sk, hb, hh]
theorem sk_line (l : List UInt8) : sk true l = wh lineB l + sk false (l.drop (wh lineB l)) := by
  induction l with
  | nil => simp [sk, wh_nil]
  | cons c l ih =>
    rw [wh_cons]
    by_cases h : ((c.toNat : Int) == 10) = true
    · have hl : lineB c.toNat = false := by simp [lineB] at *; exact h
      have hb : blankB c.toNat = true := by simp [blankB] at *; simp [h]
      simp [sk, h, hl, hb]
    · have h' : ((c.toNat : Int) == 10) = false := by simpa using h
      have hl : lineB c.toNat = true := by simp [lineB] at *; exact h
      simp only [sk, h', hl, if_true]
      rw [ih]; simp; omega
theorem skip_hash {s : ByteArray} {k : Nat} (h : k < s.size) (hh : ((s[k].toNat : Int) == 35) = true) : skip s (over lineB s k) = skip s k := by
  have e : (s[k].toNat : Int) = 35 := by simpa using hh
  unfold skip over
  rw [← List.drop_drop, drop_at s k h, wh_cons, if_pos (by rw [e]; decide)]
  have hb : blankB (s[k].toNat : Int) = false := by rw [e]; decide
  simp only [sk, hb, hh, if_true, List.drop_succ_cons]
  rw [sk_line]; simp; omega
theorem skip_over {s : ByteArray} {a : Nat} (h : a ≤ s.size) : skip s (over blankB s a) = skip s a := by
  have key : ∀ n a, s.size - a = n → a ≤ s.size → skip s (over blankB s a) = skip s a := by
    intro n
    induction n with
    | zero => intro a hn ha; rw [over_end (by omega)]
    | succ n ih =>
      intro a hn ha
      have hl : a < s.size := by omega
      by_cases hp : blankB (s[a].toNat : Int) = true
      · rw [← over_yes hl hp, ih (a + 1) (by omega) (by omega), skip_blank hl hp]
      · rw [over_no hl (by simpa using hp)]
  exact key _ a rfl h

/-- A token: its kind, its place, its text. -/
structure Tk where
  k : Int
  at_ : Int
  t : ByteArray
def noTk : Tk := ⟨0, 0, ⟨#[]⟩⟩
/-- The token that begins at a place, the place behind it, and the code of what is wrong. -/
def termOk (s : ByteArray) (a e : Nat) : Bool := decide (1 ≤ e - (a + 1)) && decide (e - (a + 1) ≤ 12) && (bt s e == 34)
def rdName (s : ByteArray) (a : Nat) : Tk × Int × Int :=
  if over nameB s a - a ≤ 12 then (⟨1, a, s.extract a (over nameB s a)⟩, (over nameB s a : Nat), 0) else (noTk, 0, 2)
def rdTerm (s : ByteArray) (a : Nat) : Tk × Int × Int :=
  if termOk s a (over termB s (a + 1)) then (⟨2, a, s.extract (a + 1) (over termB s (a + 1))⟩, ((over termB s (a + 1) + 1 : Nat) : Int), 0) else (noTk, 0, 1)
def rd (s : ByteArray) (a : Nat) : Tk × Int × Int :=
  if letB (bt s a) then rdName s a
  else if bt s a == 34 then rdTerm s a
  else if signB (bt s a) then (⟨3, a, s.extract a (a + 1)⟩, ((a + 1 : Nat) : Int), 0) else (noTk, 0, 1)

/-- Where a scan stands behind some rounds: the tokens so far, and the place. -/
def stp (s : ByteArray) (x : List Tk × Nat) : List Tk × Nat :=
  if x.2 < s.size ∧ (rd s x.2).2.2 = 0 then (x.1 ++ [(rd s x.2).1], skip s (rd s x.2).2.1.toNat) else x
def st (s : ByteArray) : Nat → List Tk × Nat
  | 0 => ([], skip s 0)
  | k + 1 => stp s (st s k)
/-- What a scan answers: tokens, code and place. -/
def fin (s : ByteArray) (x : List Tk × Nat) : List Tk × Int × Int :=
  if x.2 < s.size then ([], (rd s x.2).2.2, x.2) else (x.1, 0, 0)
def scan (s : ByteArray) : List Tk × Int × Int := if 6000 < s.size then ([], 6, 6000) else fin s (st s s.size)

theorem rd_next {s : ByteArray} {a : Nat} (h : a < s.size) (hc : (rd s a).2.2 = 0) : a + 1 ≤ (rd s a).2.1.toNat ∧ (rd s a).2.1.toNat ≤ s.size ∧ ((rd s a).2.1.toNat : Int) = (rd s a).2.1 := by
  unfold rd at *
  split at hc
  · rename_i hl
    simp only [hl, if_true]
    unfold rdName at *
    split at hc
    · rename_i h12
      simp only [h12, if_true]
      have hn : nameB (s[a].toNat : Int) = true := by rw [bt_lt h] at hl; simp [nameB, hl]
      have g := over_ge nameB s (a + 1)
      rw [over_yes h hn] at g
      have l := over_le nameB s a (by omega)
      simp; omega
    · simp at hc
  · rename_i hl
    simp only [if_neg hl]
    split at hc
    · rename_i hq
      simp only [hq, if_true]
      unfold rdTerm at *
      split at hc
      · rename_i hk
        simp only [hk, if_true]
        have g := over_ge termB s (a + 1)
        have hlt : over termB s (a + 1) < s.size := by
          rcases Nat.lt_or_ge (over termB s (a + 1)) s.size with h' | h'
          · exact h'
          · simp [termOk, bt_ge h'] at hk
        simp; omega
      · simp at hc
    · rename_i hq
      simp only [if_neg hq]
      split at hc
      · rename_i hs
        simp only [hs, if_true]
        simp; omega
      · simp at hc

theorem st_le (s : ByteArray) (k : Nat) : (st s k).2 ≤ s.size := by
  induction k with
  | zero => exact skip_le s 0 (by omega)
  | succ k ih =>
    unfold st stp
    split
    · rename_i h
      exact skip_le s _ (rd_next h.1 h.2).2.1
    · exact ih
theorem st_stuck {s : ByteArray} {k : Nat} (h : stp s (st s k) = st s k) (n : Nat) : st s (k + n) = st s k := by
  induction n with
  | zero => rfl
  | succ n ih => show stp s (st s (k + n)) = st s k; rw [ih, h]
theorem st_grow (s : ByteArray) (k : Nat) : (k ≤ (st s k).2) ∨ stp s (st s k) = st s k := by
  induction k with
  | zero => left; omega
  | succ k ih =>
    show (k + 1 ≤ (stp s (st s k)).2) ∨ stp s (stp s (st s k)) = stp s (st s k)
    rcases ih with ih | ih
    · by_cases h : (st s k).2 < s.size ∧ (rd s (st s k).2).2.2 = 0
      · left
        unfold stp; rw [if_pos h]
        have n := (rd_next h.1 h.2).1
        have g := skip_ge s (rd s (st s k).2).2.1.toNat
        show k + 1 ≤ skip s (rd s (st s k).2).2.1.toNat
        omega
      · right
        have e : stp s (st s k) = st s k := by unfold stp; rw [if_neg h]
        rw [e, e]
    · right; rw [ih, ih]
/-- Once a round does nothing more, the scan stands at its end. -/
theorem st_fin {s : ByteArray} {k : Nat} (h : stp s (st s k) = st s k) (hk : k ≤ s.size) : st s s.size = st s k := by
  have := st_stuck h (s.size - k)
  rwa [Nat.add_sub_cancel' hk] at this
theorem st_len (s : ByteArray) (k : Nat) : (st s k).1.length ≤ k := by
  induction k with
  | zero => simp [st]
  | succ k ih =>
    unfold st stp
    split
    · simp; omega
    · omega

/-- A token as a value; its cells. -/
def Tk.v (x : Tk) : Value := .agg #[.int .i64 x.k, .int .i64 x.at_, .string x.t]
def Tk.cs (x : Tk) : List Value := [.int .i64 x.k, .int .i64 x.at_, .string x.t]
def cellsOf (l : List Tk) : List Value := l.flatMap Tk.cs
theorem cellsOf_snoc (l : List Tk) (x : Tk) : cellsOf (l ++ [x]) = cellsOf l ++ x.cs := by simp [cellsOf]
theorem cellsOf_length (l : List Tk) : (cellsOf l).length = l.length * 3 := by
  induction l with
  | nil => rfl
  | cons x l ih => simp only [cellsOf, List.flatMap_cons, List.length_append, List.length_cons] at *; rw [ih]; simp [Tk.cs]; omega
end Go.Proofs.Ytcanphhmflbdmac
