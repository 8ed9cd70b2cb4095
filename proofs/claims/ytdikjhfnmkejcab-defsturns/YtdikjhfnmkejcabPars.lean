/- The reading of definitions out of tokens, as plain mathematics. -/
import Derived.Test.YtdikjhfnmkejcabMath
import Derived.Test.YtdikjhfnmkejcabEx
namespace Go.Proofs.Ytdikjhfnmkejcab
open Go.RowKit

def knd (l : List Tk) (n : Nat) : Int := match l[n]? with | some t => t.k | none => 0
def txt (l : List Tk) (n : Nat) : ByteArray := match l[n]? with | some t => t.t | none => ⟨#[]⟩
def at0 (l : List Tk) (n : Nat) : Int := match l[n]? with | some t => t.at_ | none => 0
def plc (l : List Tk) (en : Int) (n : Nat) : Int := match l[n]? with | some t => t.at_ | none => en
def fm (l : List Tk) (n : Nat) : Int := if n < l.length then 3 else 4
def isS (l : List Tk) (n : Nat) (s : ByteArray) : Bool := decide (knd l n = 3) && decide (txt l n = s)
def brk (s : ByteArray) : Int × ByteArray :=
  if s = ⟨#[40]⟩ then (0, ⟨#[41]⟩) else if s = ⟨#[91]⟩ then (5, ⟨#[93]⟩) else if s = ⟨#[123]⟩ then (6, ⟨#[125]⟩) else if s = ⟨#[60]⟩ then (7, ⟨#[62]⟩) else (0, ⟨#[]⟩)
def opn (l : List Tk) (n : Nat) : Bool := decide (knd l n = 3) && decide ((brk (txt l n)).2 ≠ ⟨#[]⟩)
theorem knd_lt {l : List Tk} {n : Nat} (h : n < l.length) : knd l n = l[n].k := by simp [knd, h]
theorem txt_lt {l : List Tk} {n : Nat} (h : n < l.length) : txt l n = l[n].t := by simp [txt, h]
theorem at0_lt {l : List Tk} {n : Nat} (h : n < l.length) : at0 l n = l[n].at_ := by simp [at0, h]
theorem plc_lt {l : List Tk} {en : Int} {n : Nat} (h : n < l.length) : plc l en n = l[n].at_ := by simp [plc, h]
theorem knd_ge {l : List Tk} {n : Nat} (h : ¬ n < l.length) : knd l n = 0 := by simp [knd, List.getElem?_eq_none (Nat.le_of_not_lt h)]
theorem txt_ge {l : List Tk} {n : Nat} (h : ¬ n < l.length) : txt l n = ⟨#[]⟩ := by simp [txt, List.getElem?_eq_none (Nat.le_of_not_lt h)]
theorem at0_ge {l : List Tk} {n : Nat} (h : ¬ n < l.length) : at0 l n = 0 := by simp [at0, List.getElem?_eq_none (Nat.le_of_not_lt h)]
theorem plc_ge {l : List Tk} {en : Int} {n : Nat} (h : ¬ n < l.length) : plc l en n = en := by simp [plc, List.getElem?_eq_none (Nat.le_of_not_lt h)]
theorem lt_of_knd {l : List Tk} {n : Nat} {c : Int} (h : knd l n = c) (hc : c ≠ 0) : n < l.length := by
  by_cases hn : n < l.length
  · exact hn
  · rw [knd_ge hn] at h; exact absurd h.symm hc
theorem lt_of_isS {l : List Tk} {n : Nat} {s : ByteArray} (h : isS l n s = true) : n < l.length :=
  lt_of_knd (c := 3) (by simp [isS] at h; exact h.1) (by decide)
theorem lt_of_opn {l : List Tk} {n : Nat} (h : opn l n = true) : n < l.length :=
  lt_of_knd (c := 3) (by simp [opn] at h; exact h.1) (by decide)

inductive Res (α : Type) where
  | ok (x : α) (n p : Nat)
  | err (c a : Int)
  | out
def mk (op : Int) (f : Fo) : Xp := if f.len = 1 then f.at_ 0 else ⟨op, ⟨#[]⟩, f⟩
def wrap (op : Int) (x : Xp) : Xp := if op = 0 then x else ⟨op, ⟨#[]⟩, Fo.nil.snoc x⟩
mutual
def item (l : List Tk) (en : Int) : Nat → Nat → Nat → Nat → Res (Option Xp)
  | 0, _, _, _ => .out
  | k + 1, n, p, o =>
    if knd l n = 1 then (if p = 60 then .err 6 (plc l en n) else .ok (some ⟨2, txt l n, .nil⟩) (n + 1) (p + 1))
    else if knd l n = 2 then (if p = 60 then .err 6 (plc l en n) else .ok (some ⟨1, txt l n, .nil⟩) (n + 1) (p + 1))
    else if opn l n = true then
      if o = 40 then .err 5 (plc l en n)
      else if p = 60 then .err 6 (plc l en n)
      else match alt l en k (n + 1) (p + 1) (o + 1) with
        | .ok x n' p' => if isS l n' (brk (txt l n)).2 = true then .ok (some (wrap (brk (txt l n)).1 x)) (n' + 1) p' else .err (fm l n') (plc l en n')
        | .err c a => .err c a
        | .out => .out
    else .ok none n p
def rowL (l : List Tk) (en : Int) : Nat → Nat → Nat → Nat → Fo → Res Xp
  | 0, _, _, _, _ => .out
  | k + 1, n, p, o, acc =>
    match item l en k n p o with
    | .ok none n' p' => .ok (mk 3 acc) n' p'
    | .ok (some x) n' p' => rowL l en k n' p' o (acc.snoc x)
    | .err c a => .err c a
    | .out => .out
def altL (l : List Tk) (en : Int) : Nat → Nat → Nat → Nat → Fo → Res Xp
  | 0, _, _, _, _ => .out
  | k + 1, n, p, o, acc =>
    if isS l n ⟨#[124]⟩ = true then
      if p = 60 then .err 6 (plc l en n)
      else match rowL l en k (n + 1) (p + 1) o .nil with
        | .ok x n' p' => altL l en k n' p' o (acc.snoc x)
        | .err c a => .err c a
        | .out => .out
    else .ok (mk 4 acc) n p
def alt (l : List Tk) (en : Int) : Nat → Nat → Nat → Nat → Res Xp
  | 0, _, _, _ => .out
  | k + 1, n, p, o =>
    match rowL l en k n p o .nil with
    | .ok x n' p' => altL l en k n' p' o (Fo.nil.snoc x)
    | .err c a => .err c a
    | .out => .out
end

/-- How far a reading goes. -/
structure Far (l : List Tk) (en : Int) (k : Nat) : Prop where
  item : ∀ n p o x n' p', p ≤ 60 → item l en k n p o = .ok x n' p' → (x = none → n' = n ∧ p' = p) ∧ (x ≠ none → n < n' ∧ n' ≤ l.length ∧ p < p' ∧ p' ≤ 60)
  row : ∀ n p o acc x n' p', p ≤ 60 → n ≤ l.length → rowL l en k n p o acc = .ok x n' p' → n ≤ n' ∧ n' ≤ l.length ∧ p ≤ p' ∧ p' ≤ 60
  altL : ∀ n p o acc x n' p', p ≤ 60 → n ≤ l.length → altL l en k n p o acc = .ok x n' p' → n ≤ n' ∧ n' ≤ l.length ∧ p ≤ p' ∧ p' ≤ 60
  alt : ∀ n p o x n' p', p ≤ 60 → n ≤ l.length → alt l en k n p o = .ok x n' p' → n ≤ n' ∧ n' ≤ l.length ∧ p ≤ p' ∧ p' ≤ 60
theorem far (l : List Tk) (en : Int) (k : Nat) : Far l en k := by
  induction k with
  | zero => exact ⟨fun _ _ _ _ _ _ _ h => by simp [Go.Proofs.Ytdikjhfnmkejcab.item] at h, fun _ _ _ _ _ _ _ _ _ h => by simp [Go.Proofs.Ytdikjhfnmkejcab.rowL] at h, fun _ _ _ _ _ _ _ _ _ h => by simp [Go.Proofs.Ytdikjhfnmkejcab.altL] at h, fun _ _ _ _ _ _ _ _ h => by simp [Go.Proofs.Ytdikjhfnmkejcab.alt] at h⟩
  | succ k ih =>
    refine ⟨?_, ?_, ?_, ?_⟩
    · intro n p o x n' p' hp h
      rw [Go.Proofs.Ytdikjhfnmkejcab.item] at h
      split at h
      · rename_i h1
        split at h
        · cases h
        · have := lt_of_knd h1 (by decide); cases h; exact ⟨fun e => (by cases e), fun _ => by omega⟩
      · split at h
        · rename_i h1
          split at h
          · cases h
          · have := lt_of_knd h1 (by decide); cases h; exact ⟨fun e => (by cases e), fun _ => by omega⟩
        · split at h
          · rename_i h1
            have h1 := lt_of_opn h1
            split at h
            · cases h
            · split at h
              · cases h
              · split at h
                · rename_i h2
                  have := ih.alt _ _ _ _ _ _ (by omega) (by omega) h2
                  split at h
                  · rename_i h3; have := lt_of_isS h3; cases h; exact ⟨fun e => (by cases e), fun _ => by omega⟩
                  · cases h
                · cases h
                · cases h
          · cases h; exact ⟨fun _ => ⟨rfl, rfl⟩, fun e => absurd rfl e⟩
    · intro n p o acc x n' p' hp hn h
      rw [Go.Proofs.Ytdikjhfnmkejcab.rowL] at h
      split at h
      · rename_i h1
        have := (ih.item _ _ _ _ _ _ hp h1).1 rfl
        cases h; omega
      · rename_i h1
        have h2 := (ih.item _ _ _ _ _ _ hp h1).2 (by simp)
        have := ih.row _ _ _ _ _ _ _ (by omega) (by omega) h
        omega
      · cases h
      · cases h
    · intro n p o acc x n' p' hp hn h
      rw [Go.Proofs.Ytdikjhfnmkejcab.altL] at h
      split at h
      · rename_i h0
        have h0 := lt_of_isS h0
        split at h
        · cases h
        · split at h
          · rename_i h1
            have h2 := ih.row _ _ _ _ _ _ _ (by omega) (by omega) h1
            have := ih.altL _ _ _ _ _ _ _ (by omega) (by omega) h
            omega
          · cases h
          · cases h
      · cases h; omega
    · intro n p o x n' p' hp hn h
      rw [Go.Proofs.Ytdikjhfnmkejcab.alt] at h
      split at h
      · rename_i h1
        have h2 := ih.row _ _ _ _ _ _ _ hp hn h1
        have := ih.altL _ _ _ _ _ _ _ (by omega) (by omega) h
        omega
      · cases h
      · cases h
/-- A definition: its name, its place, its expression. -/
structure Df where
  nm : ByteArray
  at_ : Int
  e : Xp
  deriving DecidableEq
def fuel (l : List Tk) : Nat := 4 * l.length + 3
def defn (l : List Tk) (en : Int) (n : Nat) : Res Df :=
  if knd l n = 1 then
    if isS l (n + 1) ⟨#[61]⟩ = true then
      match alt l en (fuel l) (n + 2) 0 0 with
      | .ok x n' p' => if isS l n' ⟨#[59]⟩ = true then .ok ⟨txt l n, at0 l n, x⟩ (n' + 1) p' else .err (fm l n') (plc l en n')
      | .err c a => .err c a
      | .out => .out
    else .err (fm l (n + 1)) (plc l en (n + 1))
  else .err (fm l n) (plc l en n)
theorem defn_far {l : List Tk} {en : Int} {n : Nat} {d : Df} {n' p' : Nat} (h : defn l en n = .ok d n' p') : n < n' ∧ n' ≤ l.length ∧ p' ≤ 60 := by
  unfold defn at h
  split at h
  · split at h
    · rename_i h0
      have h0 := lt_of_isS h0
      split at h
      · rename_i h1
        have h2 := (far l en _).alt _ _ _ _ _ _ (by omega) (by omega) h1
        split at h
        · rename_i h3; have := lt_of_isS h3; cases h; omega
        · cases h
      · cases h
      · cases h
    · cases h
  · cases h
/-- The definitions from a token on, behind some others. -/
def textL (l : List Tk) (en : Int) : Nat → Nat → List Df → Res (List Df)
  | 0, _, _ => .out
  | k + 1, n, acc =>
    if n < l.length ∨ acc = [] then
      if acc.length = 16 then .err 6 (plc l en n)
      else match defn l en n with
        | .ok d n' _ => textL l en k n' (acc ++ [d])
        | .err c a => .err c a
        | .out => .out
    else .ok acc n 0
def text (l : List Tk) (en : Int) : Res (List Df) := textL l en (l.length + 2) 0 []
end Go.Proofs.Ytdikjhfnmkejcab
