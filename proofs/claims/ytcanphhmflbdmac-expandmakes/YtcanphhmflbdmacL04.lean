/- Printing, as plain mathematics: parts, brackets, faults, texts of expressions and definitions. -/
import Derived.Test.YtcanphhmflbdmacL03
namespace Go.Proofs.Ytcanphhmflbdmac
open Go.RowKit

def rnd (p c : Int) : Bool := (c == 4 && (p == 3 || p == 4)) || (c == 3 && p == 3)
def rn1 (p c : Int) : Nat := if rnd p c = true then 1 else 0
def own (op : Int) (n : Nat) : Nat := if op = 3 then 0 else if op = 4 then n - 1 else 1
def Fo.pts (p : Int) : Fo → Nat
  | .nil => 0
  | .cons op _ kids rest => (own op kids.len + kids.pts op + rn1 p op) + rest.pts p
def Xp.pts (x : Xp) : Nat := own x.op x.kids.len + x.kids.pts x.op
def br1 (p c : Int) : Nat := if 5 ≤ p ∨ rnd p c = true then 1 else 0
def Fo.dp (p : Int) : Fo → Nat
  | .nil => 0
  | .cons op _ kids rest => max (kids.dp op + br1 p op) (rest.dp p)
def Xp.dp (x : Xp) : Nat := x.kids.dp x.op
def formB (op : Int) (nm : ByteArray) (n : Nat) : Bool :=
  if op = 1 ∨ op = 2 then decide (n = 0) else if op = 3 then decide (nm.size = 0) && decide (n ≠ 1) else if op = 4 then decide (nm.size = 0) && decide (2 ≤ n)
  else if op = 5 ∨ op = 6 ∨ op = 7 then decide (nm.size = 0) && decide (n = 1) else false
def namB (op : Int) (nm : ByteArray) : Bool := if op = 1 then isTermB nm else if op = 2 then isNameB nm else true
def code (op : Int) (nm : ByteArray) (n : Nat) : Int := if formB op nm n = true then (if namB op nm = true then 0 else 2) else 3
def Fo.bad : Fo → Int
  | .nil => 0
  | .cons op nm kids rest => if code op nm kids.len ≠ 0 then code op nm kids.len else if kids.bad ≠ 0 then kids.bad else rest.bad
def Xp.bad (x : Xp) : Int := if code x.op x.nm x.kids.len ≠ 0 then code x.op x.nm x.kids.len else x.kids.bad
def bef (op : Int) : List UInt8 := if op = 1 then [34] else if op = 5 then [91] else if op = 6 then [123] else if op = 7 then [60] else []
def btw (op : Int) : List UInt8 := if op = 3 then [32] else if op = 4 then [32, 124, 32] else []
def beh (op : Int) : List UInt8 := if op = 1 then [34] else if op = 5 then [93] else if op = 6 then [125] else if op = 7 then [62] else []
def lp (p c : Int) : List UInt8 := if rnd p c = true then [40] else []
def rp (p c : Int) : List UInt8 := if rnd p c = true then [41] else []
def Fo.tx (p : Int) (first : Bool) : Fo → List UInt8
  | .nil => []
  | .cons op nm kids rest => (if first = true then [] else btw p) ++ (lp p op ++ (bef op ++ bys nm ++ kids.tx op true ++ beh op) ++ rp p op) ++ rest.tx p false
def Xp.tx (x : Xp) : List UInt8 := bef x.op ++ bys x.nm ++ x.kids.tx x.op true ++ beh x.op
def Df.tx (d : Df) : List UInt8 := bys d.nm ++ [32, 61, 32] ++ d.e.tx ++ [59, 10]
def tex (ds : List Df) : List UInt8 := ds.flatMap Df.tx
def Df.code (d : Df) : Int := if isNameB d.nm = true then (if 60 < d.e.pts then 6 else if 40 < d.e.dp then 5 else d.e.bad) else 2
def dflt : Nat → List Df → Int × Int
  | _, [] => (0, 0)
  | i, d :: r => if d.code ≠ 0 then (d.code, (i : Int)) else dflt (i + 1) r
def cflt (ds : List Df) : Int × Int := if ds.length = 0 then (8, -1) else if 16 < ds.length then (6, -1) else dflt 0 ds
def rflt (ds : List Df) : Int × Int := if (cflt ds).1 ≠ 0 then cflt ds else if 6000 < (tex ds).length then (6, -1) else (0, 0)
/-- How many expressions. -/
def Fo.sz : Fo → Nat
  | .nil => 0
  | .cons _ _ kids rest => (1 + kids.sz) + rest.sz
def Xp.sz (x : Xp) : Nat := 1 + x.kids.sz
/-- No name is long. -/
def Fo.sh : Fo → Prop
  | .nil => True
  | .cons _ nm kids rest => (nm.size ≤ 5000 ∧ kids.sh) ∧ rest.sh
def Xp.sh (x : Xp) : Prop := x.nm.size ≤ 5000 ∧ x.kids.sh
/-- All expressions of a list. -/
def Fo.All (P : Xp → Prop) : Fo → Prop
  | .nil => True
  | .cons op nm kids rest => P ⟨op, nm, kids⟩ ∧ rest.All P
theorem Fo.All.at_ {P : Xp → Prop} : ∀ {f : Fo} {i : Nat}, f.All P → i < f.len → P (f.at_ i)
  | .nil, _, _, h => absurd h (Nat.not_lt_zero _)
  | .cons .., 0, h, _ => h.1
  | .cons _ _ _ r, i + 1, h, hi => Fo.All.at_ (f := r) (i := i) h.2 (by simpa [Fo.len] using hi)
theorem Fo.sh.at_ : ∀ {f : Fo} {i : Nat}, f.sh → i < f.len → (f.at_ i).sh
  | .nil, _, _, h => absurd h (Nat.not_lt_zero _)
  | .cons .., 0, h, _ => h.1
  | .cons _ _ _ r, i + 1, h, hi => Fo.sh.at_ (f := r) (i := i) h.2 (by simpa [Fo.len] using hi)
/-- What comes behind some of a list. -/
def Fo.drp : Nat → Fo → Fo
  | 0, f => f
  | _ + 1, .nil => .nil
  | i + 1, .cons _ _ _ r => r.drp i
theorem Fo.drp_at : ∀ {f : Fo} {i : Nat}, i < f.len → f.drp i = .cons (f.at_ i).op (f.at_ i).nm (f.at_ i).kids (f.drp (i + 1))
  | .nil, _, h => absurd h (Nat.not_lt_zero _)
  | .cons _ _ _ r, 0, _ => by cases r <;> rfl
  | .cons _ _ _ r, i + 1, h => Fo.drp_at (f := r) (i := i) (by simpa [Fo.len] using h)
theorem Fo.drp_end : ∀ {f : Fo} {i : Nat}, f.len ≤ i → f.drp i = .nil
  | .nil, 0, _ => rfl
  | .nil, _ + 1, _ => rfl
  | .cons .., 0, h => by simp [Fo.len] at h
  | .cons _ _ _ r, i + 1, h => Fo.drp_end (f := r) (i := i) (by simpa [Fo.len] using h)
theorem Fo.drp_zero (f : Fo) : f.drp 0 = f := by cases f <;> rfl
section
variable {f : Fo} {i : Nat} (p : Int) (h : i < f.len)
include h
theorem Fo.pts_at : (f.drp i).pts p = ((f.at_ i).pts + rn1 p (f.at_ i).op) + (f.drp (i + 1)).pts p := by rw [Fo.drp_at h]; rfl
theorem Fo.dp_at : (f.drp i).dp p = max ((f.at_ i).dp + br1 p (f.at_ i).op) ((f.drp (i + 1)).dp p) := by rw [Fo.drp_at h]; rfl
omit p in
theorem Fo.bad_at : (f.drp i).bad = if (f.at_ i).bad ≠ 0 then (f.at_ i).bad else (f.drp (i + 1)).bad := by
  rw [Fo.drp_at h, Fo.bad]; unfold Xp.bad; split <;> simp_all
omit p in
theorem Fo.sz_at : (f.drp i).sz = (f.at_ i).sz + (f.drp (i + 1)).sz := by rw [Fo.drp_at h]; rfl
theorem Fo.tx_at (first : Bool) : (f.drp i).tx p first = (if first = true then [] else btw p) ++ (lp p (f.at_ i).op ++ (f.at_ i).tx ++ rp p (f.at_ i).op) ++ (f.drp (i + 1)).tx p false := by rw [Fo.drp_at h]; rfl
end
theorem code_nn (op : Int) (nm : ByteArray) (n : Nat) : code op nm n = 0 ∨ code op nm n = 2 ∨ code op nm n = 3 := by unfold code; (repeat' split) <;> simp
theorem Fo.bad_nn : ∀ f : Fo, f.bad = 0 ∨ f.bad = 2 ∨ f.bad = 3
  | .nil => .inl rfl
  | .cons op nm kids rest => by
    have h1 := code_nn op nm kids.len
    have h2 := Fo.bad_nn kids
    have h3 := Fo.bad_nn rest
    unfold Fo.bad; (repeat' split) <;> assumption
theorem Xp.bad_nn (x : Xp) : x.bad = 0 ∨ x.bad = 2 ∨ x.bad = 3 := by
  have h1 := code_nn x.op x.nm x.kids.len
  have h2 := Fo.bad_nn x.kids
  unfold Xp.bad; split <;> assumption
theorem Fo.bad_cons {op : Int} {nm : ByteArray} {kids rest : Fo} (h : (Fo.cons op nm kids rest).bad = 0) : code op nm kids.len = 0 ∧ kids.bad = 0 ∧ rest.bad = 0 := by
  unfold Fo.bad at h
  split at h
  · exact absurd h (by assumption)
  · split at h
    · exact absurd h (by assumption)
    · rename_i h1 h2; exact ⟨by simpa using h1, by simpa using h2, h⟩
theorem Xp.bad_zero {x : Xp} (h : x.bad = 0) : code x.op x.nm x.kids.len = 0 ∧ x.kids.bad = 0 := by
  unfold Xp.bad at h
  split at h
  · exact absurd h (by assumption)
  · rename_i h1; exact ⟨by simpa using h1, h⟩
theorem code_zero {op : Int} {nm : ByteArray} {n : Nat} (h : code op nm n = 0) : formB op nm n = true ∧ namB op nm = true := by
  unfold code at h
  split at h
  · split at h
    · exact ⟨by assumption, by assumption⟩
    · cases h
  · cases h
/-- The kinds that may be. -/
theorem form_kinds {op : Int} {nm : ByteArray} {n : Nat} (h : formB op nm n = true) :
    ((op = 1 ∨ op = 2) ∧ n = 0) ∨ (op = 3 ∧ nm = ⟨#[]⟩ ∧ n ≠ 1) ∨ (op = 4 ∧ nm = ⟨#[]⟩ ∧ 2 ≤ n) ∨ ((op = 5 ∨ op = 6 ∨ op = 7) ∧ nm = ⟨#[]⟩ ∧ n = 1) := by
  have hz : ∀ s : ByteArray, s.size = 0 → s = ⟨#[]⟩ := fun s hs => bys_inj (by
    have : (bys s).length = 0 := by rw [bys_length]; exact hs
    rw [List.eq_nil_of_length_eq_zero this]; rfl)
  unfold formB at h
  split at h
  · rename_i h1; exact .inl ⟨h1, by simpa using h⟩
  · split at h
    · rename_i h1; simp only [Bool.and_eq_true, decide_eq_true_eq] at h; exact .inr (.inl ⟨h1, hz _ h.1, h.2⟩)
    · split at h
      · rename_i h1; simp only [Bool.and_eq_true, decide_eq_true_eq] at h; exact .inr (.inr (.inl ⟨h1, hz _ h.1, h.2⟩))
      · split at h
        · rename_i h1; simp only [Bool.and_eq_true, decide_eq_true_eq] at h; exact .inr (.inr (.inr ⟨h1, hz _ h.1, h.2⟩))
        · cases h
theorem isName_le {s : ByteArray} (h : isNameB s = true) : s.size ≤ 12 := by
  unfold isNameB fitsB at h; simp at h; omega
theorem isTerm_le {s : ByteArray} (h : isTermB s = true) : s.size ≤ 12 := by
  unfold isTermB fitsB at h; simp at h; omega
/-- As many brackets at most as parts. -/
theorem Fo.dp_pts : ∀ (p : Int) (f : Fo), f.dp p ≤ (if 5 ≤ p then 1 else 0) + f.pts p
  | _, .nil => by simp [Fo.dp]
  | p, .cons op nm kids rest => by
    have h1 := Fo.dp_pts op kids
    have h2 := Fo.dp_pts p rest
    have h3 : br1 p op ≤ (if 5 ≤ p then 1 else 0) + rn1 p op := by unfold br1 rn1; (repeat' split) <;> simp_all
    have h4 : (if 5 ≤ op then 1 else 0) ≤ own op kids.len := by unfold own; (repeat' split) <;> omega
    simp only [Fo.dp, Fo.pts]
    omega
theorem Xp.dp_pts (x : Xp) : x.dp ≤ x.pts := by
  have h1 := Fo.dp_pts x.op x.kids
  have h4 : (if 5 ≤ x.op then 1 else 0) ≤ own x.op x.kids.len := by unfold own; (repeat' split) <;> omega
  unfold Xp.dp Xp.pts; omega
theorem Fo.len_sz : ∀ f : Fo, f.len ≤ f.sz
  | .nil => Nat.le_refl _
  | .cons _ _ kids rest => by have := Fo.len_sz rest; simp only [Fo.len, Fo.sz]; omega
theorem Fo.pts_sz : ∀ (p : Int) (f : Fo), f.pts p ≤ 3 * f.sz
  | _, .nil => Nat.zero_le _
  | p, .cons op nm kids rest => by
    have key : ∀ g : Fo, ∀ q, g.pts q + g.len ≤ 3 * g.sz ∧ g.len ≤ g.sz := by
      intro g
      induction g with
      | nil => intro q; simp [Fo.pts, Fo.len]
      | cons a b c d ih1 ih2 =>
        intro q
        have i1 := ih1 a
        have i2 := ih2 q
        have h3 : rn1 q a ≤ 1 := by unfold rn1; split <;> omega
        have h4 : own a c.len ≤ 1 + c.len := by unfold own; (repeat' split) <;> omega
        simp only [Fo.pts, Fo.len, Fo.sz]
        omega
    have := (key (.cons op nm kids rest) p).1
    omega
theorem Xp.pts_sz (x : Xp) : x.pts ≤ 3 * x.sz := by
  have h1 := Fo.pts_sz x.op x.kids
  have h2 := Fo.len_sz x.kids
  have h3 : own x.op x.kids.len ≤ 1 + x.kids.len := by unfold own; (repeat' split) <;> omega
  have h4 : x.kids.pts x.op + x.kids.len ≤ 3 * x.kids.sz := by
    have key : ∀ g : Fo, ∀ q, g.pts q + g.len ≤ 3 * g.sz := by
      intro g
      induction g with
      | nil => intro q; simp [Fo.pts, Fo.len]
      | cons a b c d ih1 ih2 =>
        intro q
        have i1 := ih1 a
        have i2 := ih2 q
        have h3 : rn1 q a ≤ 1 := by unfold rn1; split <;> omega
        have h4 : own a c.len ≤ 1 + c.len := by unfold own; (repeat' split) <;> omega
        simp only [Fo.pts, Fo.len, Fo.sz]
        omega
    exact key _ _
  unfold Xp.pts Xp.sz; omega
/-- A text has few bytes, if it has few parts. -/
theorem Fo.tx_len : ∀ (p : Int) (first : Bool) (f : Fo), f.bad = 0 → (p = 3 ∨ p = 4 ∨ f.len ≤ 1) → (f.tx p first).length ≤ 16 * f.pts p + (if p = 4 then 3 * (if first = true then f.len - 1 else f.len) else 0)
  | _, _, .nil, _, _ => by simp [Fo.tx]
  | p, first, .cons op nm kids rest, hb, hp => by
    obtain ⟨hc, hk, hr⟩ := Fo.bad_cons hb
    obtain ⟨hf, hn⟩ := code_zero hc
    have i2 := Fo.tx_len p false rest hr (by rcases hp with h | h | h; exact .inl h; exact .inr (.inl h); exact .inr (.inr (by simp [Fo.len] at h; omega)))
    simp only [Bool.false_eq_true, if_false] at i2
    have hkl : op = 3 ∨ op = 4 ∨ kids.len ≤ 1 := by rcases form_kinds hf with h | h | h | h <;> omega
    have i1 := Fo.tx_len op true kids hk hkl
    simp only [if_true] at i1
    have own_tx : (bef op ++ bys nm ++ kids.tx op true ++ beh op).length + (if op = 3 ∨ op = 4 then 0 else 1) ≤ 16 * (own op kids.len + kids.pts op) := by
      have hz0 : (⟨#[]⟩ : ByteArray).size = 0 := rfl
      simp only [List.length_append, bys_length]
      rcases form_kinds hf with ⟨h, h0⟩ | ⟨h, h0, h1⟩ | ⟨h, h0, h1⟩ | ⟨h, h0, h1⟩
      · have hk0 := Fo.len_zero h0
        subst hk0
        have hs : nm.size ≤ 12 := by
          unfold namB at hn
          rcases h with h | h <;> subst h
          · exact isTerm_le (by simpa using hn)
          · exact isName_le (by simpa using hn)
        rcases h with h | h <;> subst h <;> simp [bef, beh, own, Fo.tx, Fo.pts] <;> omega
      · subst h; subst h0; simp [bef, beh, own] at i1 ⊢; omega
      · subst h; subst h0; simp [bef, beh, own] at i1 ⊢; omega
      · subst h0
        rcases h with h | h | h <;> subst h <;> simp [bef, beh, own] at i1 ⊢ <;> omega
    have hl1 : (lp p op).length = rn1 p op := by unfold lp rn1; split <;> rfl
    have hl2 : (rp p op).length = rn1 p op := by unfold rp rn1; split <;> rfl
    have hrn : p = 3 → (op = 3 ∨ op = 4) → rn1 p op = 1 := by
      intro h1 h2; subst h1; rcases h2 with h | h <;> subst h <;> rfl
    have hbw : (btw p).length = if p = 3 then 1 else if p = 4 then 3 else 0 := by unfold btw; (repeat' split) <;> rfl
    have hfi : (if first = true then ([] : List UInt8) else btw p).length = if first = true then 0 else (btw p).length := by split <;> rfl
    simp only [Fo.tx, Fo.pts, Fo.len, List.length_append] at *
    rw [hfi, hbw, hl1, hl2]
    by_cases h3 : p = 3
    · subst h3
      simp at i2 ⊢
      by_cases ho : op = 3 ∨ op = 4
      · have := hrn rfl ho
        simp [ho] at own_tx
        cases first <;> simp <;> omega
      · simp [ho] at own_tx
        cases first <;> simp <;> omega
    · by_cases h4 : p = 4
      · subst h4
        simp at i2 ⊢
        cases first <;> (try simp) <;> split at own_tx <;> omega
      · simp [h3, h4] at i2 ⊢
        cases first <;> (try simp) <;> split at own_tx <;> omega
theorem Xp.tx_len {x : Xp} (h : x.bad = 0) : x.tx.length ≤ 16 * x.pts := by
  obtain ⟨hc, hk⟩ := Xp.bad_zero h
  have := Fo.tx_len 5 true (.cons x.op x.nm x.kids .nil) (by unfold Fo.bad; simp [hc, hk, Fo.bad]) (.inr (.inr (by simp [Fo.len])))
  have hrn : rnd 5 x.op = false := by unfold rnd; simp
  simp [Fo.tx, Fo.pts, lp, rp, rn1, hrn] at this
  unfold Xp.tx Xp.pts
  simp only [List.length_append]
  omega
theorem Df.code_zero {d : Df} (h : d.code = 0) : isNameB d.nm = true ∧ d.e.pts ≤ 60 ∧ d.e.dp ≤ 40 ∧ d.e.bad = 0 := by
  unfold Df.code at h
  split at h
  · split at h
    · cases h
    · split at h
      · cases h
      · exact ⟨by assumption, by omega, by omega, h⟩
  · cases h
theorem Df.tx_len {d : Df} (h : d.code = 0) : d.tx.length ≤ 977 := by
  obtain ⟨h1, h2, _, h4⟩ := Df.code_zero h
  have := Xp.tx_len h4
  have := isName_le h1
  unfold Df.tx
  simp only [List.length_append, bys_length, List.length_cons, List.length_nil]
  omega
theorem tex_len {ds : List Df} (h : ∀ d ∈ ds, d.code = 0) : (tex ds).length ≤ 977 * ds.length := by
  induction ds with
  | nil => simp [tex]
  | cons d r ih =>
    have h1 := Df.tx_len (h d (by simp))
    have h2 := ih fun e he => h e (by simp [he])
    simp only [tex, List.flatMap_cons, List.length_append, List.length_cons] at *
    omega
theorem dflt_zero : ∀ {i : Nat} {ds : List Df}, (dflt i ds).1 = 0 → (∀ d ∈ ds, d.code = 0) ∧ dflt i ds = (0, 0)
  | _, [], _ => ⟨fun _ h => (by cases h), rfl⟩
  | i, d :: r, h => by
    unfold dflt at h ⊢
    split at h
    · exact absurd h (by assumption)
    · rename_i h1
      have h1 : d.code = 0 := by simpa using h1
      obtain ⟨h2, h3⟩ := dflt_zero h
      rw [if_neg (by simpa using h1)]
      exact ⟨fun e he => by rcases List.mem_cons.1 he with h | h; exact h ▸ h1; exact h2 e h, h3⟩
theorem dflt_of : ∀ {i : Nat} {ds : List Df}, (∀ d ∈ ds, d.code = 0) → dflt i ds = (0, 0)
  | _, [], _ => rfl
  | i, d :: r, h => by
    unfold dflt
    rw [if_neg (by simpa using h d (by simp))]
    exact dflt_of fun e he => h e (by simp [he])
/-- What may be printed. -/
structure Fine (ds : List Df) : Prop where
  pos : 0 < ds.length
  few : ds.length ≤ 16
  all : ∀ d ∈ ds, d.code = 0
  len : (tex ds).length ≤ 6000
theorem rflt_zero {ds : List Df} (h : (rflt ds).1 = 0) : Fine ds ∧ rflt ds = (0, 0) := by
  unfold rflt at h ⊢
  split at h
  · exact absurd h (by assumption)
  · rename_i h1
    have h1 : (cflt ds).1 = 0 := by simpa using h1
    split at h
    · cases h
    · rename_i h2
      rw [if_neg (by simpa using h1), if_neg h2]
      unfold cflt at h1
      split at h1
      · cases h1
      · split at h1
        · cases h1
        · exact ⟨⟨by omega, by omega, (dflt_zero h1).1, by omega⟩, rfl⟩
theorem rflt_of {ds : List Df} (h : Fine ds) : rflt ds = (0, 0) := by
  have h1 : cflt ds = (0, 0) := by
    unfold cflt
    rw [if_neg (by have := h.pos; omega), if_neg (by have := h.few; omega), dflt_of h.all]
  unfold rflt
  rw [h1, if_neg (by simp), if_neg (by have := h.len; omega)]
end Go.Proofs.Ytcanphhmflbdmac
