/- Texts laid together: Math Ex Pars Shelf Leaf Skip Ref Read Scan RMath BackMath Rm. -/
import Derived.WalkKit
import Derived.Below
import Derived.Maps.AppendAt
import Derived.Deep.Draws
import Derived.Shelf.Strings.Builder1
import Derived.Shelf.Strings.BuilderF
import Derived.Shelf.Strings.BuilderK
import Derived.Test.YtghplmldnkcpnacProg
import Derived.Lib.Bytealg
import Derived.WalkSpells
import Derived.WalkLawsBesides
/- Plain mathematics of tokens: what is skipped, what a token is, what a scan comes to. No program is named here. -/
namespace Go.Proofs.Ytghplmldnkcpnac

theorem hd {p : Prop} (h : p) : Go.RowKit.Hid p := h

def letB (c : Int) : Bool := (decide (97 ≤ c) && decide (c ≤ 122)) || (decide (65 ≤ c) && decide (c ≤ 90)) || (c == 95)
def digB (c : Int) : Bool := decide (48 ≤ c) && decide (c ≤ 57)
def nameB (c : Int) : Bool := letB c || digB c
def termB (c : Int) : Bool := decide (32 ≤ c) && decide (c ≤ 126) && (c != 34)
def blankB (c : Int) : Bool := c == 32 || c == 9 || c == 13 || c == 10
def signB (c : Int) : Bool := c == 61 || c == 59 || c == 124 || c == 40 || c == 41 || c == 91 || c == 93 || c == 123 || c == 125 || c == 60 || c == 62
/-- The byte at a place, or -1 behind the end. -/
def bt (s : ByteArray) (k : Nat) : Int := if h : k < s.size then (s[k].toNat : Int) else -1
theorem bt_lt {s : ByteArray} {k : Nat} (h : k < s.size) : bt s k = (s[k].toNat : Int) := dif_pos h
def wh (p : Int → Bool) (l : List UInt8) : Nat := (l.takeWhile fun c => p c.toNat).length
theorem wh_nil (p : Int → Bool) : wh p [] = 0 := rfl
theorem wh_cons (p : Int → Bool) (c : UInt8) (l : List UInt8) : wh p (c :: l) = if p c.toNat then wh p l + 1 else 0 := by
  unfold wh; rw [List.takeWhile_cons]; split <;> simp
theorem drop_at (s : ByteArray) (k : Nat) (h : k < s.size) : s.data.toList.drop k = s[k] :: s.data.toList.drop (k + 1) := by
  rw [List.drop_eq_getElem_cons (by simpa using h)]; rfl
theorem drop_end (s : ByteArray) (k : Nat) (h : s.size ≤ k) : s.data.toList.drop k = [] :=
  List.drop_of_length_le (by simpa using h)

def over (p : Int → Bool) (s : ByteArray) (a : Nat) : Nat := a + wh p (s.data.toList.drop a)
theorem over_yes {p : Int → Bool} {s : ByteArray} {k : Nat} (h : k < s.size) (hp : p (s[k].toNat : Int) = true) : over p s (k + 1) = over p s k := by
  unfold over; rw [drop_at s k h, wh_cons, if_pos hp]; omega
theorem over_no {p : Int → Bool} {s : ByteArray} {k : Nat} (h : k < s.size) (hp : p (s[k].toNat : Int) = false) : over p s k = k := by
  unfold over; rw [drop_at s k h, wh_cons, if_neg (by simp [hp])]; omega
theorem over_end {p : Int → Bool} {s : ByteArray} {k : Nat} (h : s.size ≤ k) : over p s k = k := by
  unfold over; rw [drop_end s k h, wh_nil]; omega
/-- How many bytes are skipped; the tag: within a remark. -/
def sk : Bool → List UInt8 → Nat
  | _, [] => 0
  | true, c :: r => if (c.toNat : Int) == 10 then 1 + sk false r else 1 + sk true r
  | false, c :: r => if blankB c.toNat then 1 + sk false r else if (c.toNat : Int) == 35 then 1 + sk true r else 0
def skip (s : ByteArray) (a : Nat) : Nat := a + sk false (s.data.toList.drop a)

/-- A token: its kind, its place, its text. -/
structure Tk where
  k : Int
  at_ : Int
  t : ByteArray
def noTk : Tk := ⟨0, 0, ⟨#[]⟩⟩
/-- The token that begins at a place, the place behind it, and the code of what is wrong. -/
def termOk (s : ByteArray) (a e : Nat) : Bool := decide (1 ≤ e - (a + 1)) && decide (e - (a + 1) ≤ 12) && (bt s e == 34)
def rdName (s : ByteArray) (a : Nat) : Tk × Int × Int :=
  if over nameB s a - a ≤ 12 then (⟨1, a, s.extract a (over nameB s a)⟩, (over nameB s a : Nat), 0) else (noTk, 0, 2)
def rdTerm (s : ByteArray) (a : Nat) : Tk × Int × Int :=
  if termOk s a (over termB s (a + 1)) then (⟨2, a, s.extract (a + 1) (over termB s (a + 1))⟩, ((over termB s (a + 1) + 1 : Nat) : Int), 0) else (noTk, 0, 1)
def rd (s : ByteArray) (a : Nat) : Tk × Int × Int :=
  if letB (bt s a) then rdName s a
  else if bt s a == 34 then rdTerm s a
  else if signB (bt s a) then (⟨3, a, s.extract a (a + 1)⟩, ((a + 1 : Nat) : Int), 0) else (noTk, 0, 1)

/-- Where a scan stands behind some rounds: the tokens so far, and the place. -/
def stp (s : ByteArray) (x : List Tk × Nat) : List Tk × Nat :=
  if x.2 < s.size ∧ (rd s x.2).2.2 = 0 then (x.1 ++ [(rd s x.2).1], skip s (rd s x.2).2.1.toNat) else x
def st (s : ByteArray) : Nat → List Tk × Nat
  | 0 => ([], skip s 0)
  | k + 1 => stp s (st s k)
/-- What a scan answers: tokens, code and place. -/
def fin (s : ByteArray) (x : List Tk × Nat) : List Tk × Int × Int :=
  if x.2 < s.size then ([], (rd s x.2).2.2, x.2) else (x.1, 0, 0)
def scan (s : ByteArray) : List Tk × Int × Int := if 6000 < s.size then ([], 6, 6000) else fin s (st s s.size)

/-- A token as a value; its cells. -/
def Tk.v (x : Tk) : Value := .agg #[.int .i64 x.k, .int .i64 x.at_, .string x.t]
def Tk.cs (x : Tk) : List Value := [.int .i64 x.k, .int .i64 x.at_, .string x.t]
def cellsOf (l : List Tk) : List Value := l.flatMap Tk.cs
end Go.Proofs.Ytghplmldnkcpnac

/- Expressions: as plain data, and as they lie in memory. -/
namespace Go.Proofs.Ytghplmldnkcpnac
open Go.RowKit

/-- A list of expressions: the first one's kind, name and parts; the others. -/
inductive Fo where
  | nil
  | cons (op : Int) (nm : ByteArray) (kids rest : Fo)
  deriving DecidableEq
structure Xp where
  op : Int
  nm : ByteArray
  kids : Fo
  deriving DecidableEq
def Fo.len : Fo → Nat
  | .nil => 0
  | .cons _ _ _ r => r.len + 1
def Fo.snoc : Fo → Xp → Fo
  | .nil, x => .cons x.op x.nm x.kids .nil
  | .cons a b c r, x => .cons a b c (r.snoc x)
def Fo.at_ : Fo → Nat → Xp
  | .nil, _ => ⟨0, ⟨#[]⟩, .nil⟩
  | .cons a b c _, 0 => ⟨a, b, c⟩
  | .cons _ _ _ r, i + 1 => r.at_ i
theorem Fo.len_zero {f : Fo} (h : f.len = 0) : f = .nil := by
  cases f with
  | nil => rfl
  | cons => simp [Fo.len] at h
/-- A list of expressions lies in a block from a place on; all blocks that it goes through are of the class S. -/
def Fo.In (w : World) (S : Nat → Prop) : Fo → Nat → Nat → Prop
  | .nil, _, _ => True
  | .cons op nm kids rest, b, o => S b ∧ w.cell? ⟨b, o, none⟩ = some (.int .i64 op) ∧ w.cell? ⟨b, o + 1, none⟩ = some (.string nm) ∧
      (kids.len ≤ 9223372036854775807 ∧ ∃ ao cap, w.cell? ⟨b, o + 2, none⟩ = some (.slice ao kids.len cap) ∧ (kids.len = 0 ∨ ∃ b' o', ao = some ⟨b', o', none⟩ ∧ kids.In w S b' o')) ∧ rest.In w S b (o + 3)
/-- A slice's value. -/
def FoV (w : World) (S : Nat → Prop) (v : Value) (f : Fo) : Prop :=
  f.len ≤ 9223372036854775807 ∧ ∃ ao cap, v = .slice ao f.len cap ∧ (f.len = 0 ∨ ∃ b o, ao = some ⟨b, o, none⟩ ∧ f.In w S b o)
/-- An expression's value. -/
def XV (w : World) (S : Nat → Prop) (v : Value) (x : Xp) : Prop := ∃ u, v = .agg #[.int .i64 x.op, .string x.nm, u] ∧ FoV w S u x.kids
/-- An expression's cells. -/
def XIn (w : World) (S : Nat → Prop) (x : Xp) (b o : Nat) : Prop :=
  w.cell? ⟨b, o, none⟩ = some (.int .i64 x.op) ∧ w.cell? ⟨b, o + 1, none⟩ = some (.string x.nm) ∧ ∃ u, w.cell? ⟨b, o + 2, none⟩ = some u ∧ FoV w S u x.kids

theorem lt_of_cell {w : World} {b o : Nat} {v : Value} (h : w.cell? ⟨b, o, none⟩ = some v) : b < w.heap.size := by
  rcases Nat.lt_or_ge b w.heap.size with h' | h'
  · exact h'
  · exfalso
    have h2 : w.heap[b]? = none := by simp; omega
    have h1 := World.cell?_of_block (w := { w with heap := #[] }) (w' := w) (a := ⟨b, o, none⟩) (by rw [h2]; simp)
    rw [h] at h1
    simp [World.cell?] at h1
theorem Fo.In.at_ {w : World} {S : Nat → Prop} : ∀ {f : Fo} {b o : Nat}, f.In w S b o → ∀ i, i < f.len → XIn w S (f.at_ i) b (o + i * 3)
  | .nil, _, _, _, i, hi => by simp [Fo.len] at hi
  | .cons op nm kids rest, b, o, h, 0, _ => by
    obtain ⟨h0, h1, h2, ⟨h3, ao, cap, h4, h5⟩, _⟩ := h
    exact ⟨by simpa [Fo.at_] using h1, by simpa [Fo.at_] using h2, _, by simpa [Fo.at_] using h4, h3, ao, cap, rfl, h5⟩
  | .cons op nm kids rest, b, o, h, i + 1, hi => by
    have := Fo.In.at_ (f := rest) h.2.2.2.2 i (by simpa [Fo.len] using hi)
    rw [show o + 3 + i * 3 = o + (i + 1) * 3 by omega] at this
    exact this
theorem Fo.In.mono {w w' : World} {S T : Nat → Prop} (hc : ∀ b o v, S b → w.cell? ⟨b, o, none⟩ = some v → T b ∧ w'.cell? ⟨b, o, none⟩ = some v) :
    ∀ {f : Fo} {b o : Nat}, f.In w S b o → f.In w' T b o
  | .nil, _, _, _ => trivial
  | .cons _ _ _ _, _, _, ⟨h0, h1, h2, ⟨h3, ao, cap, h4, h5⟩, h6⟩ =>
    ⟨(hc _ _ _ h0 h1).1, (hc _ _ _ h0 h1).2, (hc _ _ _ h0 h2).2, ⟨h3, ao, cap, (hc _ _ _ h0 h4).2, h5.imp id fun ⟨b', o', e, h⟩ => ⟨b', o', e, Fo.In.mono hc h⟩⟩, Fo.In.mono hc h6⟩
theorem FoV.mono {w w' : World} {S T : Nat → Prop} (hc : ∀ b o v, S b → w.cell? ⟨b, o, none⟩ = some v → T b ∧ w'.cell? ⟨b, o, none⟩ = some v) {v : Value} {f : Fo} (h : FoV w S v f) : FoV w' T v f :=
  let ⟨h1, ao, cap, h2, h3⟩ := h
  ⟨h1, ao, cap, h2, h3.imp id fun ⟨b, o, e, h⟩ => ⟨b, o, e, Fo.In.mono hc h⟩⟩
theorem XV.mono {w w' : World} {S T : Nat → Prop} (hc : ∀ b o v, S b → w.cell? ⟨b, o, none⟩ = some v → T b ∧ w'.cell? ⟨b, o, none⟩ = some v) {v : Value} {x : Xp} (h : XV w S v x) : XV w' T v x :=
  let ⟨u, h1, h2⟩ := h
  ⟨u, h1, FoV.mono hc h2⟩
/-- What holds of a world holds of one in which all blocks of the class are as they were. -/
theorem keep_cell {w w' : World} {S T : Nat → Prop} (hT : ∀ k, k < w.heap.size → S k → T k) (hk : ∀ k, k < w.heap.size → S k → w'.heap[k]? = w.heap[k]?) :
    ∀ b o v, S b → w.cell? ⟨b, o, none⟩ = some v → T b ∧ w'.cell? ⟨b, o, none⟩ = some v := fun b o v hs h =>
  ⟨hT b (lt_of_cell h) hs, by rw [World.cell?_of_block (w := w) (a := ⟨b, o, none⟩) (hk b (lt_of_cell h) hs)]; exact h⟩

/-- The cells of a list of expressions. -/
def FoC (w : World) (S : Nat → Prop) : List Value → Fo → Prop
  | [], .nil => True
  | a :: b :: c :: xs, .cons op nm kids rest => a = .int .i64 op ∧ b = .string nm ∧ FoV w S c kids ∧ FoC w S xs rest
  | _, _ => False
theorem FoC.mono {w w' : World} {S T : Nat → Prop} (hc : ∀ b o v, S b → w.cell? ⟨b, o, none⟩ = some v → T b ∧ w'.cell? ⟨b, o, none⟩ = some v) :
    ∀ {xs : List Value} {f : Fo}, FoC w S xs f → FoC w' T xs f
  | [], .nil, _ => trivial
  | a :: b :: c :: xs, .cons op nm kids rest, ⟨h1, h2, h3, h4⟩ => ⟨h1, h2, FoV.mono hc h3, FoC.mono hc h4⟩
  | [], .cons .., h => by simp [FoC] at h
  | [_], _, h => by simp [FoC] at h
  | [_, _], _, h => by simp [FoC] at h
  | _ :: _ :: _ :: _, .nil, h => by simp [FoC] at h
theorem FoC.snoc {w : World} {S : Nat → Prop} {x : Xp} {u : Value} (hu : FoV w S u x.kids) :
    ∀ {xs : List Value} {f : Fo}, FoC w S xs f → FoC w S (xs ++ [.int .i64 x.op, .string x.nm, u]) (f.snoc x)
  | [], .nil, _ => ⟨rfl, rfl, hu, trivial⟩
  | a :: b :: c :: xs, .cons op nm kids rest, ⟨h1, h2, h3, h4⟩ => ⟨h1, h2, h3, FoC.snoc hu h4⟩
  | [], .cons .., h => by simp [FoC] at h
  | [_], _, h => by simp [FoC] at h
  | [_, _], _, h => by simp [FoC] at h
  | _ :: _ :: _ :: _, .nil, h => by simp [FoC] at h
theorem FoC.in_ {w : World} {S T : Nat → Prop} {b : Nat} (hb : T b) (hST : ∀ k, S k → T k) :
    ∀ {xs : List Value} {f : Fo} {o : Nat}, FoC w S xs f → (∀ f' : Fo, f'.len ≤ f.len → f'.len ≤ 9223372036854775807) → (∀ j v, xs[j]? = some v → w.cell? ⟨b, o + j, none⟩ = some v) → f.In w T b o
  | [], .nil, _, _, _, _ => trivial
  | a :: x :: c :: xs, .cons op nm kids rest, o, ⟨h1, h2, h3, h4⟩, hl, hx => by
    obtain ⟨h5, ao, cap, rfl, h6⟩ := h3
    refine ⟨hb, by have := hx 0 a rfl; rw [h1] at this; simpa using this, by have := hx 1 x rfl; rw [h2] at this; simpa using this, ⟨h5, ao, cap, hx 2 _ rfl, h6.imp id fun ⟨b', o', e, h⟩ => ⟨b', o', e, h.mono fun _ _ _ hs h => ⟨hST _ hs, h⟩⟩⟩, ?_⟩
    refine FoC.in_ hb hST h4 (fun f' hf => hl f' (by simp [Fo.len]; omega)) fun j v hj => ?_
    have := hx (j + 3) v (by simpa using hj)
    rwa [show o + (j + 3) = o + 3 + j by omega] at this
  | [], .cons .., _, h, _, _ => by simp [FoC] at h
  | [_], _, _, h, _, _ => by simp [FoC] at h
  | [_, _], _, _, h, _, _ => by simp [FoC] at h
  | _ :: _ :: _ :: _, .nil, _, h, _, _ => by simp [FoC] at h
theorem XV.fov {W : World} {T : Nat → Prop} {a b u : Value} {x : Xp} (h : XV W T (.agg #[a, b, u]) x) : FoV W T u x.kids := by
  obtain ⟨u', e, h⟩ := h
  simp at e
  rw [e.2.2]; exact h
/-- All blocks but one are as they were. -/
structure But (r : Nat) (w w' : World) : Prop where
  os : w'.os = w.os
  tape : w'.tape = w.tape
  output : w'.output = w.output
  size : w.heap.size ≤ w'.heap.size
  block : ∀ k, k < w.heap.size → k ≠ r → w'.heap[k]? = w.heap[k]?
theorem But.refl (r : Nat) (w : World) : But r w w := ⟨rfl, rfl, rfl, Nat.le_refl _, fun _ _ _ => rfl⟩
theorem But.trans {r : Nat} {a b c : World} (h : But r a b) (k : But r b c) : But r a c :=
  ⟨k.os.trans h.os, k.tape.trans h.tape, k.output.trans h.output, Nat.le_trans h.size k.size, fun i hi hr => (k.block i (Nat.lt_of_lt_of_le hi h.size) hr).trans (h.block i hi hr)⟩
theorem But.of_below {r : Nat} {w w' : World} (h : Below w.heap.size w w') : But r w w' := ⟨h.os, h.tape, h.output, h.size, fun k hk _ => h.block k hk⟩
theorem But.below {r B : Nat} {w w' : World} (h : But r w w') (hr : B ≤ r) (hB : B ≤ w.heap.size) : Below B w w' := ⟨h.os, h.tape, h.output, h.size, fun k hk => h.block k (by omega) (by omega)⟩
theorem But.alloc {r : Nat} {a w : World} (h : But r a w) (o : Obj) : But r a (w.alloc o) :=
  h.trans (But.of_below ((Below.refl _ _).alloc (Nat.le_refl _) _))
theorem But.drewN {r : Nat} {a w : World} (h : But r a w) (n : Nat) : But r a (w.drewN n) := ⟨h.os, h.tape, h.output, h.size, h.block⟩
theorem But.drew {r : Nat} {a w : World} (h : But r a w) : But r a w.drew := ⟨h.os, h.tape, h.output, h.size, h.block⟩
theorem But.setCell {r : Nat} {a w : World} (h : But r a w) {p : Addr} (hp : p.block = r ∨ a.heap.size ≤ p.block) (u : Value) : But r a (w.setCell p u) :=
  ⟨h.os, h.tape, h.output, by simpa [World.setCell] using h.size, fun k hk hr => by rw [Below.heap_setCell _ _ _ _ (by omega)]; exact h.block k hk hr⟩
theorem But.grown {r : Nat} {a w w' : World} {row : Option Nat} (h : But r a w) (hg : w.grownBy w' row) (hr : ∀ k, row = some k → a.heap.size ≤ k) : But r a w' :=
  ⟨hg.os.trans h.os, hg.tape.trans h.tape, hg.output.trans h.output, Nat.le_trans h.size hg.size, fun k hk hk' => by rw [hg.block k (Nat.lt_of_lt_of_le hk h.size) (fun e => by have := hr k e.symm; omega)]; exact h.block k hk hk'⟩
theorem But.cell {r : Nat} {w w' : World} (h : But r w w') {b o : Nat} (hb : b < w.heap.size) (hr : b ≠ r) : w'.cell? ⟨b, o, none⟩ = w.cell? ⟨b, o, none⟩ :=
  World.cell?_of_block (w := w) (a := ⟨b, o, none⟩) (h.block b hb hr)
theorem But.frozen {r : Nat} {w w' : World} (h : But r w w') {b o : Nat} (hb : b < w.heap.size) (hr : b ≠ r) : w'.frozen? ⟨b, o, none⟩ = w.frozen? ⟨b, o, none⟩ :=
  World.frozen?_of_block (w := w) (a := ⟨b, o, none⟩) (h.block b hb hr)
/-- All blocks of a class are as they were. -/
structure Kp (S : Nat → Prop) (w w' : World) : Prop where
  size : w.heap.size ≤ w'.heap.size
  block : ∀ k, k < w.heap.size → S k → w'.heap[k]? = w.heap[k]?
theorem Kp.refl (S : Nat → Prop) (w : World) : Kp S w w := ⟨Nat.le_refl _, fun _ _ _ => rfl⟩
theorem Kp.trans {S : Nat → Prop} {a b c : World} (h : Kp S a b) (k : Kp S b c) : Kp S a c := ⟨Nat.le_trans h.size k.size, fun i hi hs => (k.block i (Nat.lt_of_lt_of_le hi h.size) hs).trans (h.block i hi hs)⟩
theorem Kp.of_but {S : Nat → Prop} {r : Nat} {a b : World} (h : But r a b) (hr : ¬ S r) : Kp S a b := ⟨h.size, fun k hk hs => h.block k hk fun e => hr (e ▸ hs)⟩
theorem Kp.of_below {S : Nat → Prop} {a b : World} (h : Below a.heap.size a b) : Kp S a b := ⟨h.size, fun k hk _ => h.block k hk⟩
theorem Kp.alloc {S : Nat → Prop} {a w : World} (h : Kp S a w) (o : Obj) : Kp S a (w.alloc o) := h.trans (Kp.of_below ((Below.refl _ _).alloc (Nat.le_refl _) _))
theorem Kp.drewN {S : Nat → Prop} {a w : World} (h : Kp S a w) (n : Nat) : Kp S a (w.drewN n) := ⟨h.size, h.block⟩
theorem Kp.setCell {S : Nat → Prop} {a w : World} (h : Kp S a w) {p : Addr} (hp : ¬ S p.block ∨ a.heap.size ≤ p.block) (u : Value) : Kp S a (w.setCell p u) :=
  ⟨by simpa [World.setCell] using h.size, fun k hk hs => by rw [Below.heap_setCell _ _ _ _ (fun e => by subst e; rcases hp with hp | hp; exact hp hs; omega)]; exact h.block k hk hs⟩
theorem Kp.grown {S : Nat → Prop} {a w w' : World} {row : Option Nat} (h : Kp S a w) (hg : w.grownBy w' row) (hr : ∀ k, row = some k → ¬ S k ∨ a.heap.size ≤ k) : Kp S a w' :=
  ⟨Nat.le_trans h.size hg.size, fun k hk hs => by rw [hg.block k (Nat.lt_of_lt_of_le hk h.size) (fun e => by rcases hr k e.symm with hp | hp; exact hp hs; omega)]; exact h.block k hk hs⟩
theorem XV.kp {w w' : World} {S T : Nat → Prop} {v : Value} {x : Xp} (h : XV w S v x) (hk : Kp S w w') (hT : ∀ k, k < w.heap.size → S k → T k) : XV w' T v x := h.mono (keep_cell hT hk.block)
theorem FoV.kp {w w' : World} {S T : Nat → Prop} {v : Value} {x : Fo} (h : FoV w S v x) (hk : Kp S w w') (hT : ∀ k, k < w.heap.size → S k → T k) : FoV w' T v x := h.mono (keep_cell hT hk.block)
theorem FoC.kp {w w' : World} {S T : Nat → Prop} {v : List Value} {x : Fo} (h : FoC w S v x) (hk : Kp S w w') (hT : ∀ k, k < w.heap.size → S k → T k) : FoC w' T v x := h.mono (keep_cell hT hk.block)
end Go.Proofs.Ytghplmldnkcpnac

/- The reading of definitions out of tokens, as plain mathematics. -/
namespace Go.Proofs.Ytghplmldnkcpnac
open Go.RowKit

def knd (l : List Tk) (n : Nat) : Int := match l[n]? with | some t => t.k | none => 0
def txt (l : List Tk) (n : Nat) : ByteArray := match l[n]? with | some t => t.t | none => ⟨#[]⟩
def at0 (l : List Tk) (n : Nat) : Int := match l[n]? with | some t => t.at_ | none => 0
def plc (l : List Tk) (en : Int) (n : Nat) : Int := match l[n]? with | some t => t.at_ | none => en
def fm (l : List Tk) (n : Nat) : Int := if n < l.length then 3 else 4
def isS (l : List Tk) (n : Nat) (s : ByteArray) : Bool := decide (knd l n = 3) && decide (txt l n = s)
def brk (s : ByteArray) : Int × ByteArray :=
  if s = ⟨#[40]⟩ then (0, ⟨#[41]⟩) else if s = ⟨#[91]⟩ then (5, ⟨#[93]⟩) else if s = ⟨#[123]⟩ then (6, ⟨#[125]⟩) else if s = ⟨#[60]⟩ then (7, ⟨#[62]⟩) else (0, ⟨#[]⟩)
def opn (l : List Tk) (n : Nat) : Bool := decide (knd l n = 3) && decide ((brk (txt l n)).2 ≠ ⟨#[]⟩)
theorem knd_ge {l : List Tk} {n : Nat} (h : ¬ n < l.length) : knd l n = 0 := by simp [knd, List.getElem?_eq_none (Nat.le_of_not_lt h)]
theorem lt_of_knd {l : List Tk} {n : Nat} {c : Int} (h : knd l n = c) (hc : c ≠ 0) : n < l.length := by
  by_cases hn : n < l.length
  · exact hn
  · rw [knd_ge hn] at h; exact absurd h.symm hc
theorem lt_of_isS {l : List Tk} {n : Nat} {s : ByteArray} (h : isS l n s = true) : n < l.length :=
  lt_of_knd (c := 3) (by simp [isS] at h; exact h.1) (by decide)
theorem lt_of_opn {l : List Tk} {n : Nat} (h : opn l n = true) : n < l.length :=
  lt_of_knd (c := 3) (by simp [opn] at h; exact h.1) (by decide)

inductive Res (α : Type) where
  | ok (x : α) (n p : Nat)
  | err (c a : Int)
  | out
def mk (op : Int) (f : Fo) : Xp := if f.len = 1 then f.at_ 0 else ⟨op, ⟨#[]⟩, f⟩
def wrap (op : Int) (x : Xp) : Xp := if op = 0 then x else ⟨op, ⟨#[]⟩, Fo.nil.snoc x⟩
mutual
def item (l : List Tk) (en : Int) : Nat → Nat → Nat → Nat → Res (Option Xp)
  | 0, _, _, _ => .out
  | k + 1, n, p, o =>
    if knd l n = 1 then (if p = 60 then .err 6 (plc l en n) else .ok (some ⟨2, txt l n, .nil⟩) (n + 1) (p + 1))
    else if knd l n = 2 then (if p = 60 then .err 6 (plc l en n) else .ok (some ⟨1, txt l n, .nil⟩) (n + 1) (p + 1))
    else if opn l n = true then
      if o = 40 then .err 5 (plc l en n)
      else if p = 60 then .err 6 (plc l en n)
      else match alt l en k (n + 1) (p + 1) (o + 1) with
        | .ok x n' p' => if isS l n' (brk (txt l n)).2 = true then .ok (some (wrap (brk (txt l n)).1 x)) (n' + 1) p' else .err (fm l n') (plc l en n')
        | .err c a => .err c a
        | .out => .out
    else .ok none n p
def rowL (l : List Tk) (en : Int) : Nat → Nat → Nat → Nat → Fo → Res Xp
  | 0, _, _, _, _ => .out
  | k + 1, n, p, o, acc =>
    match item l en k n p o with
    | .ok none n' p' => .ok (mk 3 acc) n' p'
    | .ok (some x) n' p' => rowL l en k n' p' o (acc.snoc x)
    | .err c a => .err c a
    | .out => .out
def altL (l : List Tk) (en : Int) : Nat → Nat → Nat → Nat → Fo → Res Xp
  | 0, _, _, _, _ => .out
  | k + 1, n, p, o, acc =>
    if isS l n ⟨#[124]⟩ = true then
      if p = 60 then .err 6 (plc l en n)
      else match rowL l en k (n + 1) (p + 1) o .nil with
        | .ok x n' p' => altL l en k n' p' o (acc.snoc x)
        | .err c a => .err c a
        | .out => .out
    else .ok (mk 4 acc) n p
def alt (l : List Tk) (en : Int) : Nat → Nat → Nat → Nat → Res Xp
  | 0, _, _, _ => .out
  | k + 1, n, p, o =>
    match rowL l en k n p o .nil with
    | .ok x n' p' => altL l en k n' p' o (Fo.nil.snoc x)
    | .err c a => .err c a
    | .out => .out
end

/-- How far a reading goes. -/
structure Far (l : List Tk) (en : Int) (k : Nat) : Prop where
  item : ∀ n p o x n' p', p ≤ 60 → item l en k n p o = .ok x n' p' → (x = none → n' = n ∧ p' = p) ∧ (x ≠ none → n < n' ∧ n' ≤ l.length ∧ p < p' ∧ p' ≤ 60)
  row : ∀ n p o acc x n' p', p ≤ 60 → n ≤ l.length → rowL l en k n p o acc = .ok x n' p' → n ≤ n' ∧ n' ≤ l.length ∧ p ≤ p' ∧ p' ≤ 60
  altL : ∀ n p o acc x n' p', p ≤ 60 → n ≤ l.length → altL l en k n p o acc = .ok x n' p' → n ≤ n' ∧ n' ≤ l.length ∧ p ≤ p' ∧ p' ≤ 60
  alt : ∀ n p o x n' p', p ≤ 60 → n ≤ l.length → alt l en k n p o = .ok x n' p' → n ≤ n' ∧ n' ≤ l.length ∧ p ≤ p' ∧ p' ≤ 60
theorem far (l : List Tk) (en : Int) (k : Nat) : Far l en k := by
  induction k with
  | zero => exact ⟨fun _ _ _ _ _ _ _ h => by simp [Go.Proofs.Ytghplmldnkcpnac.item] at h, fun _ _ _ _ _ _ _ _ _ h => by simp [Go.Proofs.Ytghplmldnkcpnac.rowL] at h, fun _ _ _ _ _ _ _ _ _ h => by simp [Go.Proofs.Ytghplmldnkcpnac.altL] at h, fun _ _ _ _ _ _ _ _ h => by simp [Go.Proofs.Ytghplmldnkcpnac.alt] at h⟩
  | succ k ih =>
    refine ⟨?_, ?_, ?_, ?_⟩
    · intro n p o x n' p' hp h
      rw [Go.Proofs.Ytghplmldnkcpnac.item] at h
      split at h
      · rename_i h1
        split at h
        · cases h
        · have := lt_of_knd h1 (by decide); cases h; exact ⟨fun e => (by cases e), fun _ => by omega⟩
      · split at h
        · rename_i h1
          split at h
          · cases h
          · have := lt_of_knd h1 (by decide); cases h; exact ⟨fun e => (by cases e), fun _ => by omega⟩
        · split at h
          · rename_i h1
            have h1 := lt_of_opn h1
            split at h
            · cases h
            · split at h
              · cases h
              · split at h
                · rename_i h2
                  have := ih.alt _ _ _ _ _ _ (by omega) (by omega) h2
                  split at h
                  · rename_i h3; have := lt_of_isS h3; cases h; exact ⟨fun e => (by cases e), fun _ => by omega⟩
                  · cases h
                · cases h
                · cases h
          · cases h; exact ⟨fun _ => ⟨rfl, rfl⟩, fun e => absurd rfl e⟩
    · intro n p o acc x n' p' hp hn h
      rw [Go.Proofs.Ytghplmldnkcpnac.rowL] at h
      split at h
      · rename_i h1
        have := (ih.item _ _ _ _ _ _ hp h1).1 rfl
        cases h; omega
      · rename_i h1
        have h2 := (ih.item _ _ _ _ _ _ hp h1).2 (by simp)
        have := ih.row _ _ _ _ _ _ _ (by omega) (by omega) h
        omega
      · cases h
      · cases h
    · intro n p o acc x n' p' hp hn h
      rw [Go.Proofs.Ytghplmldnkcpnac.altL] at h
      split at h
      · rename_i h0
        have h0 := lt_of_isS h0
        split at h
        · cases h
        · split at h
          · rename_i h1
            have h2 := ih.row _ _ _ _ _ _ _ (by omega) (by omega) h1
            have := ih.altL _ _ _ _ _ _ _ (by omega) (by omega) h
            omega
          · cases h
          · cases h
      · cases h; omega
    · intro n p o x n' p' hp hn h
      rw [Go.Proofs.Ytghplmldnkcpnac.alt] at h
      split at h
      · rename_i h1
        have h2 := ih.row _ _ _ _ _ _ _ hp hn h1
        have := ih.altL _ _ _ _ _ _ _ (by omega) (by omega) h
        omega
      · cases h
      · cases h
/-- A definition: its name, its place, its expression. -/
structure Df where
  nm : ByteArray
  at_ : Int
  e : Xp
  deriving DecidableEq
def fuel (l : List Tk) : Nat := 4 * l.length + 3
def defn (l : List Tk) (en : Int) (n : Nat) : Res Df :=
  if knd l n = 1 then
    if isS l (n + 1) ⟨#[61]⟩ = true then
      match alt l en (fuel l) (n + 2) 0 0 with
      | .ok x n' p' => if isS l n' ⟨#[59]⟩ = true then .ok ⟨txt l n, at0 l n, x⟩ (n' + 1) p' else .err (fm l n') (plc l en n')
      | .err c a => .err c a
      | .out => .out
    else .err (fm l (n + 1)) (plc l en (n + 1))
  else .err (fm l n) (plc l en n)
/-- The definitions from a token on, behind some others. -/
def textL (l : List Tk) (en : Int) : Nat → Nat → List Df → Res (List Df)
  | 0, _, _ => .out
  | k + 1, n, acc =>
    if n < l.length ∨ acc = [] then
      if acc.length = 16 then .err 6 (plc l en n)
      else match defn l en n with
        | .ok d n' _ => textL l en k n' (acc ++ [d])
        | .err c a => .err c a
        | .out => .out
    else .ok acc n 0
def text (l : List Tk) (en : Int) : Res (List Df) := textL l en (l.length + 2) 0 []
end Go.Proofs.Ytghplmldnkcpnac

/- Contracts of the library's functions, laid at this dump. -/
namespace Go.Proofs
open Go.Shelf
def Try.lays169_ren : Go.Shelf.Ren := ⟨fun | 169 => 139 | n => n, fun | 70 => 150 | 9 => 9 | 0 => 0 | 72 => 153 | 37 => 151 | 127 => 162 | 3 => 3 | 5 => 5 | n => n, fun | n => n⟩
theorem Try.lays169 : Go.Proofs.Lays.n169 Try.prog Try.lays169_ren := {
  mixed := by kernel_rfl
  f169 := Try.func139.trans (congrArg some (by kernel_rfl))
  t0 := Try.underlying0
  a0 := Try.isAgg0
  z0 := Try.sizeOf0
  v0 := Try.zeroValue0
  t3 := Try.underlying3
  a3 := Try.isAgg3
  z3 := Try.sizeOf3
  v3 := Try.zeroValue3
  t9 := Try.underlying9
  a9 := Try.isAgg9
  z9 := Try.sizeOf9
  v9 := Try.zeroValue9
  t37 := Try.underlying151
  a37 := Try.isAgg151
  z37 := Try.sizeOf151
  v37 := Try.zeroValue151
  t70 := Try.underlying150
  a70 := Try.isAgg150
  z70 := Try.sizeOf150
  v70 := Try.zeroValue150
  t72 := Try.underlying153
  a72 := Try.isAgg153
  z72 := Try.sizeOf153
  v72 := Try.zeroValue153
  t127 := Try.underlying162
  a127 := Try.isAgg162
  z127 := Try.sizeOf162
  v127 := Try.zeroValue162 }
theorem Try.Builder_Extra_169 : Builder.Extra Try.prog Try.lays169_ren := {
  sizeBuilder := by kernel_rfl
  liesBuilder := by kernel_rfl
  t5 := Try.underlying5
  a5 := Try.isAgg5
  z5 := Try.sizeOf5
  v5 := Try.zeroValue5
  infoByte := by kernel_rfl
  cellsByte := by kernel_rfl
  sizeByte := by kernel_rfl
  neB5 := by decide }
open Go.RowKit in
open Go.RowKit in
open Go.RowKit in
open Go.RowKit in
open Go.RowKit in
open Go.RowKit in
open Go.RowKit in
open Go.RowKit in
open Go.RowKit in
theorem Try.Builder_String_any_k (B b : Nat) (l : List UInt8) (w : World) (h : Lib.IsBuilderF 153 5 B b (Lib.byteCells l) w) (hBw : B ≤ w.heap.size) :
    Calls Try.prog 139 #[.pointer (some ⟨b, 0, none⟩)] w fun e w' => e = .returned (.string ⟨l.toArray⟩) ∧ (Lib.IsBuilderF 153 5 B b (Lib.byteCells l) w' ∧ Below B w w' ∧ Lib.OthersKept 5 (some b) w w') := Any.Builder_String_any_k Try.lays169 Try.Builder_Extra_169 B b l w h hBw
end Go.Proofs

/- The small functions, and the scan that goes on by a function that it is handed. -/
namespace Go.Proofs.Ytghplmldnkcpnac
open Go.RowKit

theorem ret_bool {a b : Bool} (h : a = b) : Ending.returned (.bool a) = .returned (.bool b) := by rw [h]
theorem ret_int {a b : Int} (h : a = b) : Ending.returned (.int .i64 a) = .returned (.int .i64 b) := by rw [h]

set_option maxRecDepth 100000 in
set_option maxHeartbeats 400000 in
theorem isLetter_any (c : Int) (w : World) :
    Calls Try.prog 148 #[.int .u8 c] w fun e w' => e = .returned (.bool (letB c)) ∧ w' = w := by
  go_enter Try.func148, Try.ntmps148
  go_wp2
  all_goals go_ret
  all_goals exact ⟨ret_bool (by rw [Bool.eq_iff_iff]; simp [letB]; try omega), rfl⟩
set_option maxRecDepth 100000 in
set_option maxHeartbeats 400000 in
theorem inName_any (c : Int) (w : World) :
    Calls Try.prog 150 #[.int .u8 c] w fun e w' => e = .returned (.bool (nameB c)) ∧ w' = w := by
  go_enter Try.func150, Try.ntmps150
  go_wp2_with (go_at_call 148; refine (isLetter_any _ _).mono ?_; rintro e w' ⟨rfl, rfl⟩)
  all_goals go_ret
  all_goals exact ⟨ret_bool (by rw [Bool.eq_iff_iff]; simp [nameB, digB, *]; try omega), rfl⟩
set_option maxRecDepth 100000 in
set_option maxHeartbeats 400000 in
theorem inTerm_any (c : Int) (w : World) :
    Calls Try.prog 156 #[.int .u8 c] w fun e w' => e = .returned (.bool (termB c)) ∧ w' = w := by
  go_enter Try.func156, Try.ntmps156
  go_wp2
  all_goals go_ret
  all_goals exact ⟨ret_bool (by rw [Bool.eq_iff_iff]; simp [termB, *]; try omega), rfl⟩
def fitsB (s : ByteArray) : Bool := decide (1 ≤ s.size) && decide (s.size ≤ 12)
set_option maxRecDepth 100000 in
set_option maxHeartbeats 400000 in
theorem fits_any (s : ByteArray) (w : World) (hs : s.size ≤ maxLen) :
    Calls Try.prog 147 #[.string s] w fun e w' => e = .returned (.bool (fitsB s)) ∧ w' = w := by
  unfold maxLen at hs
  go_enter Try.func147, Try.ntmps147
  go_wp2
  all_goals go_ret
  all_goals exact ⟨ret_bool (by rw [Bool.eq_iff_iff]; simp [fitsB]; try omega), rfl⟩
set_option maxRecDepth 100000 in
set_option maxHeartbeats 400000 in
theorem over_inName (s : ByteArray) (a : Int) (w : World) (hs : s.size ≤ maxLen) (h0 : 0 ≤ a) (ha : a ≤ s.size) :
    Calls Try.prog 149 #[.string s, .int .i64 a, .func (.func 150) #[] #[]] w fun e w' => e = .returned (.int .i64 (over nameB s a.toNat)) ∧ w' = w := by
  unfold maxLen at hs
  obtain ⟨n, rfl⟩ := Int.eq_ofNat_of_zero_le h0
  rw [Int.toNat_natCast]
  go_enter Try.func149, Try.ntmps149
  go_wp2
  go_loop [1] (fun i => ∃ k : Nat, k ≤ s.size ∧ i = .int .i64 k ∧ Hid (over nameB s k = over nameB s n)) (fun i => s.size - (intOf i).toNat)
  case atStart => exact ⟨n, by omega, rfl, hd rfl⟩
  case round =>
    obtain ⟨k, hk, rfl, ho⟩ := hrel
    by_cases hlt : k < s.size
    · go_wp2_with (go_at_call 150; refine (inName_any _ _).mono ?_; rintro e w' ⟨rfl, rfl⟩)
      · have hp : nameB (s[k].toNat : Int) = true := by assumption
        go_round
        case rel => exact ⟨k + 1, by omega, by go_num, hd ((over_yes hlt hp).trans ho.out)⟩
        case measure => simp [intOf]; omega
      · have hp : nameB (s[k].toNat : Int) = false := by assumption
        go_ret
        exact ⟨ret_int (by rw [← ho.out, over_no hlt hp]), rfl⟩
    · go_wp2
      go_ret
      exact ⟨ret_int (by rw [← ho.out, over_end (by omega)]), rfl⟩
set_option maxRecDepth 100000 in
set_option maxHeartbeats 400000 in
theorem over_inTerm (s : ByteArray) (a : Int) (w : World) (hs : s.size ≤ maxLen) (h0 : 0 ≤ a) (ha : a ≤ s.size) :
    Calls Try.prog 149 #[.string s, .int .i64 a, .func (.func 156) #[] #[]] w fun e w' => e = .returned (.int .i64 (over termB s a.toNat)) ∧ w' = w := by
  unfold maxLen at hs
  obtain ⟨n, rfl⟩ := Int.eq_ofNat_of_zero_le h0
  rw [Int.toNat_natCast]
  go_enter Try.func149, Try.ntmps149
  go_wp2
  go_loop [1] (fun i => ∃ k : Nat, k ≤ s.size ∧ i = .int .i64 k ∧ Hid (over termB s k = over termB s n)) (fun i => s.size - (intOf i).toNat)
  case atStart => exact ⟨n, by omega, rfl, hd rfl⟩
  case round =>
    obtain ⟨k, hk, rfl, ho⟩ := hrel
    by_cases hlt : k < s.size
    · go_wp2_with (go_at_call 156; refine (inTerm_any _ _).mono ?_; rintro e w' ⟨rfl, rfl⟩)
      · have hp : termB (s[k].toNat : Int) = true := by assumption
        go_round
        case rel => exact ⟨k + 1, by omega, by go_num, hd ((over_yes hlt hp).trans ho.out)⟩
        case measure => simp [intOf]; omega
      · have hp : termB (s[k].toNat : Int) = false := by assumption
        go_ret
        exact ⟨ret_int (by rw [← ho.out, over_no hlt hp]), rfl⟩
    · go_wp2
      go_ret
      exact ⟨ret_int (by rw [← ho.out, over_end (by omega)]), rfl⟩
theorem over_inNameN (s : ByteArray) (n : Nat) (w : World) (hs : s.size ≤ maxLen) (ha : n ≤ s.size) :
    Calls Try.prog 149 #[.string s, .int .i64 n, .func (.func 150) #[] #[]] w fun e w' => e = .returned (.int .i64 (over nameB s n)) ∧ w' = w := by
  have := over_inName s n w hs (by omega) (by omega); rwa [Int.toNat_natCast] at this
theorem over_inTermN (s : ByteArray) (n : Nat) (w : World) (hs : s.size ≤ maxLen) (ha : n ≤ s.size) :
    Calls Try.prog 149 #[.string s, .int .i64 n, .func (.func 156) #[] #[]] w fun e w' => e = .returned (.int .i64 (over termB s n)) ∧ w' = w := by
  have := over_inTerm s n w hs (by omega) (by omega); rwa [Int.toNat_natCast] at this
end Go.Proofs.Ytghplmldnkcpnac

/- What is skipped: token.skip and graftworkref.skipped come to one number. -/
namespace Go.Proofs.Ytghplmldnkcpnac
open Go.RowKit

end Go.Proofs.Ytghplmldnkcpnac

/- The small functions of the document's own answer, and Name and Term of package token. -/
namespace Go.Proofs.Ytghplmldnkcpnac
open Go.RowKit

def isTermB (s : ByteArray) : Bool := fitsB s && (over termB s 0 == s.size)
def isNameB (s : ByteArray) : Bool := fitsB s && letB (bt s 0) && (over nameB s 0 == s.size)
theorem fits_true {s : ByteArray} (h : fitsB s = true) : 1 ≤ s.size ∧ s.size ≤ 12 := by simpa [fitsB] using h
end Go.Proofs.Ytghplmldnkcpnac

/- token.Name, token.Term, and how token.read reads one token. -/
namespace Go.Proofs.Ytghplmldnkcpnac
open Go.RowKit

set_option maxRecDepth 100000 in
set_option maxHeartbeats 400000 in
theorem term_any (s : ByteArray) (w : World) (hs : s.size ≤ maxLen) :
    Calls Try.prog 155 #[.string s] w fun e w' => e = .returned (.bool (isTermB s)) ∧ w' = w := by
  by_cases hf : fitsB s = true
  · go_enter Try.func155, Try.ntmps155
    go_wp2_with fail
    refine (fits_any s _ hs).mono ?_
    rintro e w' ⟨rfl, rfl⟩
    go_wp2_with fail
    refine (over_inTermN s 0 _ hs (by omega)).mono ?_
    rintro e w' ⟨rfl, rfl⟩
    go_wp2
    go_ret
    exact ⟨ret_bool (by rw [Bool.eq_iff_iff]; simp [isTermB, hf]; try omega), rfl⟩
  · have hf' : fitsB s = false := by simpa using hf
    clear hf
    go_enter Try.func155, Try.ntmps155
    go_wp2_with fail
    refine (fits_any s _ hs).mono ?_
    rintro e w' ⟨rfl, rfl⟩
    go_wp2
    go_ret
    exact ⟨ret_bool (by simp [isTermB, hf']), rfl⟩
set_option maxRecDepth 100000 in
set_option maxHeartbeats 400000 in
theorem name_any (s : ByteArray) (w : World) (hs : s.size ≤ maxLen) :
    Calls Try.prog 140 #[.string s] w fun e w' => e = .returned (.bool (isNameB s)) ∧ w' = w := by
  by_cases hf : fitsB s = true
  · have hf1 := (fits_true hf).1
    by_cases hl : letB (s[0].toNat : Int) = true
    · go_enter Try.func140, Try.ntmps140
      go_wp2_with fail
      refine (fits_any s _ hs).mono ?_
      rintro e w' ⟨rfl, rfl⟩
      go_wp2_with fail
      refine (isLetter_any _ _).mono ?_
      rintro e w' ⟨rfl, rfl⟩
      go_wp2_with fail
      refine (over_inNameN s 0 _ hs (by omega)).mono ?_
      rintro e w' ⟨rfl, rfl⟩
      go_wp2
      go_ret
      exact ⟨ret_bool (by rw [Bool.eq_iff_iff]; simp [isNameB, hf, bt_lt hf1, hl]; try omega), rfl⟩
    · have hl' : letB (s[0].toNat : Int) = false := by simpa using hl
      clear hl
      go_enter Try.func140, Try.ntmps140
      go_wp2_with fail
      refine (fits_any s _ hs).mono ?_
      rintro e w' ⟨rfl, rfl⟩
      go_wp2_with fail
      refine (isLetter_any _ _).mono ?_
      rintro e w' ⟨rfl, rfl⟩
      go_wp2
      go_ret
      exact ⟨ret_bool (by simp [isNameB, bt_lt hf1, hl']), rfl⟩
  · have hf' : fitsB s = false := by simpa using hf
    clear hf
    go_enter Try.func140, Try.ntmps140
    go_wp2_with fail
    refine (fits_any s _ hs).mono ?_
    rintro e w' ⟨rfl, rfl⟩
    go_wp2
    go_ret
    exact ⟨ret_bool (by simp [isNameB, hf']), rfl⟩
end Go.Proofs.Ytghplmldnkcpnac

/- token.Scan comes to what 'scan' reckons. -/
namespace Go.Proofs.Ytghplmldnkcpnac
open Go.RowKit

theorem owns_below {w w' : World} {base : Nat} {e : TypeId} {size : Nat} {v : Value} {n : Nat} {xs : List Value} (h : w.ownsRow base e size v n xs) (hb : Below w.heap.size w w') : w'.ownsRow base e size v n xs :=
  h.kept (row := none) ⟨hb.os, hb.tape, hb.output, hb.size, fun k hk _ => hb.block k hk⟩ (by cases v.ownBlock <;> simp)
theorem owns_mono {w : World} {base b2 : Nat} {e : TypeId} {size : Nat} {v : Value} {n : Nat} {xs : List Value} (h : w.ownsRow base e size v n xs) (hb : b2 ≤ base) : w.ownsRow b2 e size v n xs := by
  obtain ⟨h1, h2⟩ := h
  refine ⟨h1, ?_⟩
  rcases h2 with h2 | ⟨g, cap, cur, e1, e2, e3⟩
  · exact .inl h2
  · exact .inr ⟨g, cap, cur, e1, Nat.le_trans hb e2, e3⟩
theorem owns_setCell {w : World} {base : Nat} {e : TypeId} {size : Nat} {v u : Value} {n : Nat} {xs : List Value} {a : Addr} (h : w.ownsRow base e size v n xs) (ha : a.block < base) : (w.setCell a u).ownsRow base e size v n xs := by
  obtain ⟨h1, h2⟩ := h
  refine ⟨h1, ?_⟩
  rcases h2 with h2 | ⟨g, cap, cur, e1, e2, e3, e4⟩
  · exact .inl h2
  · exact .inr ⟨g, cap, cur, e1, e2, by rw [Below.heap_setCell _ _ _ _ (by omega)]; exact e3, e4⟩

end Go.Proofs.Ytghplmldnkcpnac

/- What the document's own scan looks at is what 'rd' reads. -/
namespace Go.Proofs.Ytghplmldnkcpnac
open Go.RowKit

end Go.Proofs.Ytghplmldnkcpnac

/- There and back, in plain mathematics: the tokens of a text, laid one behind the other with a remark behind each, are read as they were. -/
namespace Go.Proofs.Ytghplmldnkcpnac

def bys (s : ByteArray) : List UInt8 := s.data.toList
theorem bys_length (s : ByteArray) : (bys s).length = s.size := by simp [bys]
theorem bys_inj {s t : ByteArray} (h : bys s = bys t) : s = t := by
  have : s.data = t.data := by simpa [bys] using h
  exact ByteArray.ext this
/-- What may stand as a token's text, by its kind. -/
def Okk (k : Int) (l : List UInt8) : Prop :=
  (k = 1 ∧ (∃ c r, l = c :: r ∧ letB c.toNat = true) ∧ (∀ d ∈ l, nameB d.toNat = true) ∧ l.length ≤ 12) ∨
  (k = 2 ∧ 1 ≤ l.length ∧ l.length ≤ 12 ∧ ∀ d ∈ l, termB d.toNat = true) ∨
  (k = 3 ∧ ∃ c, l = [c] ∧ signB c.toNat = true)

/-- A token's bytes, and what is laid behind them. -/
def tb (x : Tk) : List UInt8 := if x.k = 2 then 34 :: (bys x.t ++ [34]) else bys x.t
def tl5 : List UInt8 := [32, 35, 32, 120, 10]
def enc (x : Tk) : List UInt8 := tb x ++ tl5
/-- What holds of all tokens that a scan has come to. -/
structure Good (s : ByteArray) (l : List Tk) (a : Nat) : Prop where
  ok : ∀ x ∈ l, Okk x.k (bys x.t)
  at_ : ∀ x ∈ l, 0 ≤ x.at_ ∧ x.at_ < a
  up : l.Pairwise (fun x y => x.at_ < y.at_)
end Go.Proofs.Ytghplmldnkcpnac

/- Printing, as plain mathematics: parts, brackets, faults, texts of expressions and definitions. -/
namespace Go.Proofs.Ytghplmldnkcpnac
open Go.RowKit

def rnd (p c : Int) : Bool := (c == 4 && (p == 3 || p == 4)) || (c == 3 && p == 3)
def rn1 (p c : Int) : Nat := if rnd p c = true then 1 else 0
def own (op : Int) (n : Nat) : Nat := if op = 3 then 0 else if op = 4 then n - 1 else 1
def Fo.pts (p : Int) : Fo → Nat
  | .nil => 0
  | .cons op _ kids rest => (own op kids.len + kids.pts op + rn1 p op) + rest.pts p
def Xp.pts (x : Xp) : Nat := own x.op x.kids.len + x.kids.pts x.op
def br1 (p c : Int) : Nat := if 5 ≤ p ∨ rnd p c = true then 1 else 0
def Fo.dp (p : Int) : Fo → Nat
  | .nil => 0
  | .cons op _ kids rest => max (kids.dp op + br1 p op) (rest.dp p)
def Xp.dp (x : Xp) : Nat := x.kids.dp x.op
def formB (op : Int) (nm : ByteArray) (n : Nat) : Bool :=
  if op = 1 ∨ op = 2 then decide (n = 0) else if op = 3 then decide (nm.size = 0) && decide (n ≠ 1) else if op = 4 then decide (nm.size = 0) && decide (2 ≤ n)
  else if op = 5 ∨ op = 6 ∨ op = 7 then decide (nm.size = 0) && decide (n = 1) else false
def namB (op : Int) (nm : ByteArray) : Bool := if op = 1 then isTermB nm else if op = 2 then isNameB nm else true
def code (op : Int) (nm : ByteArray) (n : Nat) : Int := if formB op nm n = true then (if namB op nm = true then 0 else 2) else 3
def Fo.bad : Fo → Int
  | .nil => 0
  | .cons op nm kids rest => if code op nm kids.len ≠ 0 then code op nm kids.len else if kids.bad ≠ 0 then kids.bad else rest.bad
def Xp.bad (x : Xp) : Int := if code x.op x.nm x.kids.len ≠ 0 then code x.op x.nm x.kids.len else x.kids.bad
def bef (op : Int) : List UInt8 := if op = 1 then [34] else if op = 5 then [91] else if op = 6 then [123] else if op = 7 then [60] else []
def btw (op : Int) : List UInt8 := if op = 3 then [32] else if op = 4 then [32, 124, 32] else []
def beh (op : Int) : List UInt8 := if op = 1 then [34] else if op = 5 then [93] else if op = 6 then [125] else if op = 7 then [62] else []
def lp (p c : Int) : List UInt8 := if rnd p c = true then [40] else []
def rp (p c : Int) : List UInt8 := if rnd p c = true then [41] else []
def Fo.tx (p : Int) (first : Bool) : Fo → List UInt8
  | .nil => []
  | .cons op nm kids rest => (if first = true then [] else btw p) ++ (lp p op ++ (bef op ++ bys nm ++ kids.tx op true ++ beh op) ++ rp p op) ++ rest.tx p false
def Xp.tx (x : Xp) : List UInt8 := bef x.op ++ bys x.nm ++ x.kids.tx x.op true ++ beh x.op
def Df.tx (d : Df) : List UInt8 := bys d.nm ++ [32, 61, 32] ++ d.e.tx ++ [59, 10]
def tex (ds : List Df) : List UInt8 := ds.flatMap Df.tx
def Df.code (d : Df) : Int := if isNameB d.nm = true then (if 60 < d.e.pts then 6 else if 40 < d.e.dp then 5 else d.e.bad) else 2
def dflt : Nat → List Df → Int × Int
  | _, [] => (0, 0)
  | i, d :: r => if d.code ≠ 0 then (d.code, (i : Int)) else dflt (i + 1) r
def cflt (ds : List Df) : Int × Int := if ds.length = 0 then (8, -1) else if 16 < ds.length then (6, -1) else dflt 0 ds
def rflt (ds : List Df) : Int × Int := if (cflt ds).1 ≠ 0 then cflt ds else if 6000 < (tex ds).length then (6, -1) else (0, 0)
/-- How many expressions. -/
def Fo.sz : Fo → Nat
  | .nil => 0
  | .cons _ _ kids rest => (1 + kids.sz) + rest.sz
def Xp.sz (x : Xp) : Nat := 1 + x.kids.sz
/-- No name is long. -/
def Fo.sh : Fo → Prop
  | .nil => True
  | .cons _ nm kids rest => (nm.size ≤ 5000 ∧ kids.sh) ∧ rest.sh
def Xp.sh (x : Xp) : Prop := x.nm.size ≤ 5000 ∧ x.kids.sh
/-- All expressions of a list. -/
def Fo.All (P : Xp → Prop) : Fo → Prop
  | .nil => True
  | .cons op nm kids rest => P ⟨op, nm, kids⟩ ∧ rest.All P
theorem Fo.All.at_ {P : Xp → Prop} : ∀ {f : Fo} {i : Nat}, f.All P → i < f.len → P (f.at_ i)
  | .nil, _, _, h => absurd h (Nat.not_lt_zero _)
  | .cons .., 0, h, _ => h.1
  | .cons _ _ _ r, i + 1, h, hi => Fo.All.at_ (f := r) (i := i) h.2 (by simpa [Fo.len] using hi)
theorem Fo.sh.at_ : ∀ {f : Fo} {i : Nat}, f.sh → i < f.len → (f.at_ i).sh
  | .nil, _, _, h => absurd h (Nat.not_lt_zero _)
  | .cons .., 0, h, _ => h.1
  | .cons _ _ _ r, i + 1, h, hi => Fo.sh.at_ (f := r) (i := i) h.2 (by simpa [Fo.len] using hi)
/-- What comes behind some of a list. -/
def Fo.drp : Nat → Fo → Fo
  | 0, f => f
  | _ + 1, .nil => .nil
  | i + 1, .cons _ _ _ r => r.drp i
theorem Fo.drp_at : ∀ {f : Fo} {i : Nat}, i < f.len → f.drp i = .cons (f.at_ i).op (f.at_ i).nm (f.at_ i).kids (f.drp (i + 1))
  | .nil, _, h => absurd h (Nat.not_lt_zero _)
  | .cons _ _ _ r, 0, _ => by cases r <;> rfl
  | .cons _ _ _ r, i + 1, h => Fo.drp_at (f := r) (i := i) (by simpa [Fo.len] using h)
theorem Fo.drp_end : ∀ {f : Fo} {i : Nat}, f.len ≤ i → f.drp i = .nil
  | .nil, 0, _ => rfl
  | .nil, _ + 1, _ => rfl
  | .cons .., 0, h => by simp [Fo.len] at h
  | .cons _ _ _ r, i + 1, h => Fo.drp_end (f := r) (i := i) (by simpa [Fo.len] using h)
theorem Fo.drp_zero (f : Fo) : f.drp 0 = f := by cases f <;> rfl
section
variable {f : Fo} {i : Nat} (p : Int) (h : i < f.len)
include h
theorem Fo.pts_at : (f.drp i).pts p = ((f.at_ i).pts + rn1 p (f.at_ i).op) + (f.drp (i + 1)).pts p := by rw [Fo.drp_at h]; rfl
theorem Fo.dp_at : (f.drp i).dp p = max ((f.at_ i).dp + br1 p (f.at_ i).op) ((f.drp (i + 1)).dp p) := by rw [Fo.drp_at h]; rfl
omit p in
theorem Fo.bad_at : (f.drp i).bad = if (f.at_ i).bad ≠ 0 then (f.at_ i).bad else (f.drp (i + 1)).bad := by
  rw [Fo.drp_at h, Fo.bad]; unfold Xp.bad; split <;> simp_all
omit p in
theorem Fo.sz_at : (f.drp i).sz = (f.at_ i).sz + (f.drp (i + 1)).sz := by rw [Fo.drp_at h]; rfl
theorem Fo.tx_at (first : Bool) : (f.drp i).tx p first = (if first = true then [] else btw p) ++ (lp p (f.at_ i).op ++ (f.at_ i).tx ++ rp p (f.at_ i).op) ++ (f.drp (i + 1)).tx p false := by rw [Fo.drp_at h]; rfl
end
theorem Fo.bad_cons {op : Int} {nm : ByteArray} {kids rest : Fo} (h : (Fo.cons op nm kids rest).bad = 0) : code op nm kids.len = 0 ∧ kids.bad = 0 ∧ rest.bad = 0 := by
  unfold Fo.bad at h
  split at h
  · exact absurd h (by assumption)
  · split at h
    · exact absurd h (by assumption)
    · rename_i h1 h2; exact ⟨by simpa using h1, by simpa using h2, h⟩
theorem Xp.bad_zero {x : Xp} (h : x.bad = 0) : code x.op x.nm x.kids.len = 0 ∧ x.kids.bad = 0 := by
  unfold Xp.bad at h
  split at h
  · exact absurd h (by assumption)
  · rename_i h1; exact ⟨by simpa using h1, h⟩
theorem code_zero {op : Int} {nm : ByteArray} {n : Nat} (h : code op nm n = 0) : formB op nm n = true ∧ namB op nm = true := by
  unfold code at h
  split at h
  · split at h
    · exact ⟨by assumption, by assumption⟩
    · cases h
  · cases h
/-- The kinds that may be. -/
theorem form_kinds {op : Int} {nm : ByteArray} {n : Nat} (h : formB op nm n = true) :
    ((op = 1 ∨ op = 2) ∧ n = 0) ∨ (op = 3 ∧ nm = ⟨#[]⟩ ∧ n ≠ 1) ∨ (op = 4 ∧ nm = ⟨#[]⟩ ∧ 2 ≤ n) ∨ ((op = 5 ∨ op = 6 ∨ op = 7) ∧ nm = ⟨#[]⟩ ∧ n = 1) := by
  have hz : ∀ s : ByteArray, s.size = 0 → s = ⟨#[]⟩ := fun s hs => bys_inj (by
    have : (bys s).length = 0 := by rw [bys_length]; exact hs
    rw [List.eq_nil_of_length_eq_zero this]; rfl)
  unfold formB at h
  split at h
  · rename_i h1; exact .inl ⟨h1, by simpa using h⟩
  · split at h
    · rename_i h1; simp only [Bool.and_eq_true, decide_eq_true_eq] at h; exact .inr (.inl ⟨h1, hz _ h.1, h.2⟩)
    · split at h
      · rename_i h1; simp only [Bool.and_eq_true, decide_eq_true_eq] at h; exact .inr (.inr (.inl ⟨h1, hz _ h.1, h.2⟩))
      · split at h
        · rename_i h1; simp only [Bool.and_eq_true, decide_eq_true_eq] at h; exact .inr (.inr (.inr ⟨h1, hz _ h.1, h.2⟩))
        · cases h
theorem isName_le {s : ByteArray} (h : isNameB s = true) : s.size ≤ 12 := by
  unfold isNameB fitsB at h; simp at h; omega
theorem isTerm_le {s : ByteArray} (h : isTermB s = true) : s.size ≤ 12 := by
  unfold isTermB fitsB at h; simp at h; omega
/-- As many brackets at most as parts. -/
theorem Fo.dp_pts : ∀ (p : Int) (f : Fo), f.dp p ≤ (if 5 ≤ p then 1 else 0) + f.pts p
  | _, .nil => by simp [Fo.dp]
  | p, .cons op nm kids rest => by
    have h1 := Fo.dp_pts op kids
    have h2 := Fo.dp_pts p rest
    have h3 : br1 p op ≤ (if 5 ≤ p then 1 else 0) + rn1 p op := by unfold br1 rn1; (repeat' split) <;> simp_all
    have h4 : (if 5 ≤ op then 1 else 0) ≤ own op kids.len := by unfold own; (repeat' split) <;> omega
    simp only [Fo.dp, Fo.pts]
    omega
theorem Xp.dp_pts (x : Xp) : x.dp ≤ x.pts := by
  have h1 := Fo.dp_pts x.op x.kids
  have h4 : (if 5 ≤ x.op then 1 else 0) ≤ own x.op x.kids.len := by unfold own; (repeat' split) <;> omega
  unfold Xp.dp Xp.pts; omega
/-- A text has few bytes, if it has few parts. -/
theorem Fo.tx_len : ∀ (p : Int) (first : Bool) (f : Fo), f.bad = 0 → (p = 3 ∨ p = 4 ∨ f.len ≤ 1) → (f.tx p first).length ≤ 16 * f.pts p + (if p = 4 then 3 * (if first = true then f.len - 1 else f.len) else 0)
  | _, _, .nil, _, _ => by simp [Fo.tx]
  | p, first, .cons op nm kids rest, hb, hp => by
    obtain ⟨hc, hk, hr⟩ := Fo.bad_cons hb
    obtain ⟨hf, hn⟩ := code_zero hc
    have i2 := Fo.tx_len p false rest hr (by rcases hp with h | h | h; exact .inl h; exact .inr (.inl h); exact .inr (.inr (by simp [Fo.len] at h; omega)))
    simp only [Bool.false_eq_true, if_false] at i2
    have hkl : op = 3 ∨ op = 4 ∨ kids.len ≤ 1 := by rcases form_kinds hf with h | h | h | h <;> omega
    have i1 := Fo.tx_len op true kids hk hkl
    simp only [if_true] at i1
    have own_tx : (bef op ++ bys nm ++ kids.tx op true ++ beh op).length + (if op = 3 ∨ op = 4 then 0 else 1) ≤ 16 * (own op kids.len + kids.pts op) := by
      have hz0 : (⟨#[]⟩ : ByteArray).size = 0 := rfl
      simp only [List.length_append, bys_length]
      rcases form_kinds hf with ⟨h, h0⟩ | ⟨h, h0, h1⟩ | ⟨h, h0, h1⟩ | ⟨h, h0, h1⟩
      · have hk0 := Fo.len_zero h0
        subst hk0
        have hs : nm.size ≤ 12 := by
          unfold namB at hn
          rcases h with h | h <;> subst h
          · exact isTerm_le (by simpa using hn)
          · exact isName_le (by simpa using hn)
        rcases h with h | h <;> subst h <;> simp [bef, beh, own, Fo.tx, Fo.pts] <;> omega
      · subst h; subst h0; simp [bef, beh, own] at i1 ⊢; omega
      · subst h; subst h0; simp [bef, beh, own] at i1 ⊢; omega
      · subst h0
        rcases h with h | h | h <;> subst h <;> simp [bef, beh, own] at i1 ⊢ <;> omega
    have hl1 : (lp p op).length = rn1 p op := by unfold lp rn1; split <;> rfl
    have hl2 : (rp p op).length = rn1 p op := by unfold rp rn1; split <;> rfl
    have hrn : p = 3 → (op = 3 ∨ op = 4) → rn1 p op = 1 := by
      intro h1 h2; subst h1; rcases h2 with h | h <;> subst h <;> rfl
    have hbw : (btw p).length = if p = 3 then 1 else if p = 4 then 3 else 0 := by unfold btw; (repeat' split) <;> rfl
    have hfi : (if first = true then ([] : List UInt8) else btw p).length = if first = true then 0 else (btw p).length := by split <;> rfl
    simp only [Fo.tx, Fo.pts, Fo.len, List.length_append] at *
    rw [hfi, hbw, hl1, hl2]
    by_cases h3 : p = 3
    · subst h3
      simp at i2 ⊢
      by_cases ho : op = 3 ∨ op = 4
      · have := hrn rfl ho
        simp [ho] at own_tx
        cases first <;> simp <;> omega
      · simp [ho] at own_tx
        cases first <;> simp <;> omega
    · by_cases h4 : p = 4
      · subst h4
        simp at i2 ⊢
        cases first <;> (try simp) <;> split at own_tx <;> omega
      · simp [h3, h4] at i2 ⊢
        cases first <;> (try simp) <;> split at own_tx <;> omega
theorem Xp.tx_len {x : Xp} (h : x.bad = 0) : x.tx.length ≤ 16 * x.pts := by
  obtain ⟨hc, hk⟩ := Xp.bad_zero h
  have := Fo.tx_len 5 true (.cons x.op x.nm x.kids .nil) (by unfold Fo.bad; simp [hc, hk, Fo.bad]) (.inr (.inr (by simp [Fo.len])))
  have hrn : rnd 5 x.op = false := by unfold rnd; simp
  simp [Fo.tx, Fo.pts, lp, rp, rn1, hrn] at this
  unfold Xp.tx Xp.pts
  simp only [List.length_append]
  omega
theorem Df.code_zero {d : Df} (h : d.code = 0) : isNameB d.nm = true ∧ d.e.pts ≤ 60 ∧ d.e.dp ≤ 40 ∧ d.e.bad = 0 := by
  unfold Df.code at h
  split at h
  · split at h
    · cases h
    · split at h
      · cases h
      · exact ⟨by assumption, by omega, by omega, h⟩
  · cases h
theorem Df.tx_len {d : Df} (h : d.code = 0) : d.tx.length ≤ 977 := by
  obtain ⟨h1, h2, _, h4⟩ := Df.code_zero h
  have := Xp.tx_len h4
  have := isName_le h1
  unfold Df.tx
  simp only [List.length_append, bys_length, List.length_cons, List.length_nil]
  omega
theorem tex_len {ds : List Df} (h : ∀ d ∈ ds, d.code = 0) : (tex ds).length ≤ 977 * ds.length := by
  induction ds with
  | nil => simp [tex]
  | cons d r ih =>
    have h1 := Df.tx_len (h d (by simp))
    have h2 := ih fun e he => h e (by simp [he])
    simp only [tex, List.flatMap_cons, List.length_append, List.length_cons] at *
    omega
theorem dflt_zero : ∀ {i : Nat} {ds : List Df}, (dflt i ds).1 = 0 → (∀ d ∈ ds, d.code = 0) ∧ dflt i ds = (0, 0)
  | _, [], _ => ⟨fun _ h => (by cases h), rfl⟩
  | i, d :: r, h => by
    unfold dflt at h ⊢
    split at h
    · exact absurd h (by assumption)
    · rename_i h1
      have h1 : d.code = 0 := by simpa using h1
      obtain ⟨h2, h3⟩ := dflt_zero h
      rw [if_neg (by simpa using h1)]
      exact ⟨fun e he => by rcases List.mem_cons.1 he with h | h; exact h ▸ h1; exact h2 e h, h3⟩
/-- What may be printed. -/
structure Fine (ds : List Df) : Prop where
  pos : 0 < ds.length
  few : ds.length ≤ 16
  all : ∀ d ∈ ds, d.code = 0
  len : (tex ds).length ≤ 6000
theorem rflt_zero {ds : List Df} (h : (rflt ds).1 = 0) : Fine ds ∧ rflt ds = (0, 0) := by
  unfold rflt at h ⊢
  split at h
  · exact absurd h (by assumption)
  · rename_i h1
    have h1 : (cflt ds).1 = 0 := by simpa using h1
    split at h
    · cases h
    · rename_i h2
      rw [if_neg (by simpa using h1), if_neg h2]
      unfold cflt at h1
      split at h1
      · cases h1
      · split at h1
        · cases h1
        · exact ⟨⟨by omega, by omega, (dflt_zero h1).1, by omega⟩, rfl⟩
end Go.Proofs.Ytghplmldnkcpnac
