/- Expressions: as plain data, and as they lie in memory. -/
import Derived.Below
import Derived.Maps.AppendAt
import Derived.Deep.Draws
import Derived.WalkKit
namespace Go.Proofs.Ytcanphhmflbdmac
open Go.RowKit

/-- A list of expressions: the first one's kind, name and parts; the others. -/
inductive Fo where
  | nil
  | cons (op : Int) (nm : ByteArray) (kids rest : Fo)
  deriving DecidableEq
structure Xp where
  op : Int
  nm : ByteArray
  kids : Fo
  deriving DecidableEq
def Fo.len : Fo → Nat
  | .nil => 0
  | .cons _ _ _ r => r.len + 1
def Fo.snoc : Fo → Xp → Fo
  | .nil, x => .cons x.op x.nm x.kids .nil
  | .cons a b c r, x => .cons a b c (r.snoc x)
def Fo.at_ : Fo → Nat → Xp
  | .nil, _ => ⟨0, ⟨#[]⟩, .nil⟩
  | .cons a b c _, 0 => ⟨a, b, c⟩
  | .cons _ _ _ r, i + 1 => r.at_ i
theorem Fo.len_snoc (f : Fo) (x : Xp) : (f.snoc x).len = f.len + 1 := by
  induction f with
  | nil => rfl
  | cons a b c r _ ih => simp [Fo.snoc, Fo.len, ih]
theorem Fo.len_zero {f : Fo} (h : f.len = 0) : f = .nil := by
  cases f with
  | nil => rfl
  | cons => simp [Fo.len] at h
theorem Fo.ext_at : ∀ (f g : Fo), f.len = g.len → (∀ i, i < f.len → f.at_ i = g.at_ i) → f = g
  | .nil, .nil, _, _ => rfl
  | .nil, .cons .., h, _ => by simp [Fo.len] at h
  | .cons .., .nil, h, _ => by simp [Fo.len] at h
  | .cons a b c r, .cons a' b' c' r', h, hh => by
    have h0 := hh 0 (by simp [Fo.len])
    simp [Fo.at_] at h0
    obtain ⟨rfl, rfl, rfl⟩ := h0
    congr 1
    exact Fo.ext_at r r' (by simpa [Fo.len] using h) fun i hi => by simpa [Fo.at_] using hh (i + 1) (by simpa [Fo.len] using hi)

/-- A list of expressions lies in a block from a place on; all blocks that it goes through are of the class S. -/
def Fo.In (w : World) (S : Nat → Prop) : Fo → Nat → Nat → Prop
  | .nil, _, _ => True
  | .cons op nm kids rest, b, o => S b ∧ w.cell? ⟨b, o, none⟩ = some (.int .i64 op) ∧ w.cell? ⟨b, o + 1, none⟩ = some (.string nm) ∧
      (kids.len ≤ 9223372036854775807 ∧ ∃ ao cap, w.cell? ⟨b, o + 2, none⟩ = some (.slice ao kids.len cap) ∧ (kids.len = 0 ∨ ∃ b' o', ao = some ⟨b', o', none⟩ ∧ kids.In w S b' o')) ∧ rest.In w S b (o + 3)
/-- A slice's value. -/
def FoV (w : World) (S : Nat → Prop) (v : Value) (f : Fo) : Prop :=
  f.len ≤ 9223372036854775807 ∧ ∃ ao cap, v = .slice ao f.len cap ∧ (f.len = 0 ∨ ∃ b o, ao = some ⟨b, o, none⟩ ∧ f.In w S b o)
/-- An expression's value. -/
def XV (w : World) (S : Nat → Prop) (v : Value) (x : Xp) : Prop := ∃ u, v = .agg #[.int .i64 x.op, .string x.nm, u] ∧ FoV w S u x.kids
/-- An expression's cells. -/
def XIn (w : World) (S : Nat → Prop) (x : Xp) (b o : Nat) : Prop :=
  w.cell? ⟨b, o, none⟩ = some (.int .i64 x.op) ∧ w.cell? ⟨b, o + 1, none⟩ = some (.string x.nm) ∧ ∃ u, w.cell? ⟨b, o + 2, none⟩ = some u ∧ FoV w S u x.kids

theorem lt_of_cell {w : World} {b o : Nat} {v : Value} (h : w.cell? ⟨b, o, none⟩ = some v) : b < w.heap.size := by
  rcases Nat.lt_or_ge b w.heap.size with h' | h'
  · exact h'
  · exfalso
    have h2 : w.heap[b]? = none := by simp; omega
    have h1 := World.cell?_of_block (w := { w with heap := #[] }) (w' := w) (a := ⟨b, o, none⟩) (by rw [h2]; simp)
    rw [h] at h1
    simp [World.cell?] at h1
theorem Fo.In.at_ {w : World} {S : Nat → Prop} : ∀ {f : Fo} {b o : Nat}, f.In w S b o → ∀ i, i < f.len → XIn w S (f.at_ i) b (o + i * 3)
  | .nil, _, _, _, i, hi => by simp [Fo.len] at hi
  | .cons op nm kids rest, b, o, h, 0, _ => by
    obtain ⟨h0, h1, h2, ⟨h3, ao, cap, h4, h5⟩, _⟩ := h
    exact ⟨by simpa [Fo.at_] using h1, by simpa [Fo.at_] using h2, _, by simpa [Fo.at_] using h4, h3, ao, cap, rfl, h5⟩
  | .cons op nm kids rest, b, o, h, i + 1, hi => by
    have := Fo.In.at_ (f := rest) h.2.2.2.2 i (by simpa [Fo.len] using hi)
    rw [show o + 3 + i * 3 = o + (i + 1) * 3 by omega] at this
    exact this
theorem Fo.In.mono {w w' : World} {S T : Nat → Prop} (hc : ∀ b o v, S b → w.cell? ⟨b, o, none⟩ = some v → T b ∧ w'.cell? ⟨b, o, none⟩ = some v) :
    ∀ {f : Fo} {b o : Nat}, f.In w S b o → f.In w' T b o
  | .nil, _, _, _ => trivial
  | .cons _ _ _ _, _, _, ⟨h0, h1, h2, ⟨h3, ao, cap, h4, h5⟩, h6⟩ =>
    ⟨(hc _ _ _ h0 h1).1, (hc _ _ _ h0 h1).2, (hc _ _ _ h0 h2).2, ⟨h3, ao, cap, (hc _ _ _ h0 h4).2, h5.imp id fun ⟨b', o', e, h⟩ => ⟨b', o', e, Fo.In.mono hc h⟩⟩, Fo.In.mono hc h6⟩
theorem FoV.mono {w w' : World} {S T : Nat → Prop} (hc : ∀ b o v, S b → w.cell? ⟨b, o, none⟩ = some v → T b ∧ w'.cell? ⟨b, o, none⟩ = some v) {v : Value} {f : Fo} (h : FoV w S v f) : FoV w' T v f :=
  let ⟨h1, ao, cap, h2, h3⟩ := h
  ⟨h1, ao, cap, h2, h3.imp id fun ⟨b, o, e, h⟩ => ⟨b, o, e, Fo.In.mono hc h⟩⟩
theorem XV.mono {w w' : World} {S T : Nat → Prop} (hc : ∀ b o v, S b → w.cell? ⟨b, o, none⟩ = some v → T b ∧ w'.cell? ⟨b, o, none⟩ = some v) {v : Value} {x : Xp} (h : XV w S v x) : XV w' T v x :=
  let ⟨u, h1, h2⟩ := h
  ⟨u, h1, FoV.mono hc h2⟩
theorem FoV_nil (w : World) (S : Nat → Prop) : FoV w S (.slice none 0 0) .nil := ⟨by simp [Fo.len], none, 0, rfl, .inl rfl⟩
/-- What holds of a world holds of one in which all blocks of the class are as they were. -/
theorem keep_cell {w w' : World} {S T : Nat → Prop} (hT : ∀ k, k < w.heap.size → S k → T k) (hk : ∀ k, k < w.heap.size → S k → w'.heap[k]? = w.heap[k]?) :
    ∀ b o v, S b → w.cell? ⟨b, o, none⟩ = some v → T b ∧ w'.cell? ⟨b, o, none⟩ = some v := fun b o v hs h =>
  ⟨hT b (lt_of_cell h) hs, by rw [World.cell?_of_block (w := w) (a := ⟨b, o, none⟩) (hk b (lt_of_cell h) hs)]; exact h⟩

/-- The cells of a list of expressions. -/
def FoC (w : World) (S : Nat → Prop) : List Value → Fo → Prop
  | [], .nil => True
  | a :: b :: c :: xs, .cons op nm kids rest => a = .int .i64 op ∧ b = .string nm ∧ FoV w S c kids ∧ FoC w S xs rest
  | _, _ => False
theorem FoC.mono {w w' : World} {S T : Nat → Prop} (hc : ∀ b o v, S b → w.cell? ⟨b, o, none⟩ = some v → T b ∧ w'.cell? ⟨b, o, none⟩ = some v) :
    ∀ {xs : List Value} {f : Fo}, FoC w S xs f → FoC w' T xs f
  | [], .nil, _ => trivial
  | a :: b :: c :: xs, .cons op nm kids rest, ⟨h1, h2, h3, h4⟩ => ⟨h1, h2, FoV.mono hc h3, FoC.mono hc h4⟩
  | [], .cons .., h => by simp [FoC] at h
  | [_], _, h => by simp [FoC] at h
  | [_, _], _, h => by simp [FoC] at h
  | _ :: _ :: _ :: _, .nil, h => by simp [FoC] at h
theorem FoC.snoc {w : World} {S : Nat → Prop} {x : Xp} {u : Value} (hu : FoV w S u x.kids) :
    ∀ {xs : List Value} {f : Fo}, FoC w S xs f → FoC w S (xs ++ [.int .i64 x.op, .string x.nm, u]) (f.snoc x)
  | [], .nil, _ => ⟨rfl, rfl, hu, trivial⟩
  | a :: b :: c :: xs, .cons op nm kids rest, ⟨h1, h2, h3, h4⟩ => ⟨h1, h2, h3, FoC.snoc hu h4⟩
  | [], .cons .., h => by simp [FoC] at h
  | [_], _, h => by simp [FoC] at h
  | [_, _], _, h => by simp [FoC] at h
  | _ :: _ :: _ :: _, .nil, h => by simp [FoC] at h
theorem FoC.in_ {w : World} {S T : Nat → Prop} {b : Nat} (hb : T b) (hST : ∀ k, S k → T k) :
    ∀ {xs : List Value} {f : Fo} {o : Nat}, FoC w S xs f → (∀ f' : Fo, f'.len ≤ f.len → f'.len ≤ 9223372036854775807) → (∀ j v, xs[j]? = some v → w.cell? ⟨b, o + j, none⟩ = some v) → f.In w T b o
  | [], .nil, _, _, _, _ => trivial
  | a :: x :: c :: xs, .cons op nm kids rest, o, ⟨h1, h2, h3, h4⟩, hl, hx => by
    obtain ⟨h5, ao, cap, rfl, h6⟩ := h3
    refine ⟨hb, by have := hx 0 a rfl; rw [h1] at this; simpa using this, by have := hx 1 x rfl; rw [h2] at this; simpa using this, ⟨h5, ao, cap, hx 2 _ rfl, h6.imp id fun ⟨b', o', e, h⟩ => ⟨b', o', e, h.mono fun _ _ _ hs h => ⟨hST _ hs, h⟩⟩⟩, ?_⟩
    refine FoC.in_ hb hST h4 (fun f' hf => hl f' (by simp [Fo.len]; omega)) fun j v hj => ?_
    have := hx (j + 3) v (by simpa using hj)
    rwa [show o + (j + 3) = o + 3 + j by omega] at this
  | [], .cons .., _, h, _, _ => by simp [FoC] at h
  | [_], _, _, h, _, _ => by simp [FoC] at h
  | [_, _], _, _, h, _, _ => by simp [FoC] at h
  | _ :: _ :: _ :: _, .nil, _, h, _, _ => by simp [FoC] at h
/-- A slice of expressions that the call has built, as a value. -/
theorem FoV_owned {w : World} {S T : Nat → Prop} {base : Nat} {e : TypeId} {v : Value} {xs : List Value} {f : Fo} (hown : w.ownsRow base e 3 v f.len xs) (hc : FoC w S xs f) (hST : ∀ k, S k → T k) (hT : ∀ k, base ≤ k → T k) (hl : f.len ≤ 9223372036854775807) : FoV w T v f := by
  have h0 := hown
  obtain ⟨h1, h2 | ⟨g, cap, cur, e1, e2, e3, e4⟩⟩ := hown
  · exact ⟨hl, none, 0, by rw [h2.1, h2.2], .inl h2.2⟩
  · refine ⟨hl, some ⟨g, 0, none⟩, cap, e1, .inr ⟨g, 0, rfl, FoC.in_ (hT g e2) hST hc (fun f' hf => by omega) fun j u hj => ?_⟩⟩
    subst e1
    have hj' : j < xs.length := by
      rcases Nat.lt_or_ge j xs.length with h | h
      · exact h
      · rw [List.getElem?_eq_none h] at hj; cases hj
    have := World.ownsRow.cellAt h0 j (by omega)
    rw [show 0 + j = j by omega, this]; exact hj

theorem XV.fov {W : World} {T : Nat → Prop} {a b u : Value} {x : Xp} (h : XV W T (.agg #[a, b, u]) x) : FoV W T u x.kids := by
  obtain ⟨u', e, h⟩ := h
  simp at e
  rw [e.2.2]; exact h
theorem FoV_one {W : World} {T : Nat → Prop} {x : Xp} {u : Value} {b cap : Nat} (hT : T b) (c0 : W.cell? ⟨b, 0, none⟩ = some (.int .i64 x.op)) (c1 : W.cell? ⟨b, 1, none⟩ = some (.string x.nm)) (c2 : W.cell? ⟨b, 2, none⟩ = some u) (hu : FoV W T u x.kids) :
    FoV W T (.slice (some ⟨b, 0, none⟩) 1 cap) (Fo.nil.snoc x) := by
  obtain ⟨hl, ao, c, rfl, hin⟩ := hu
  exact ⟨by simp [Fo.snoc, Fo.len], _, cap, rfl, .inr ⟨b, 0, rfl, hT, c0, c1, ⟨hl, ao, c, c2, hin⟩, trivial⟩⟩
/-- All blocks but one are as they were. -/
structure But (r : Nat) (w w' : World) : Prop where
  os : w'.os = w.os
  tape : w'.tape = w.tape
  output : w'.output = w.output
  size : w.heap.size ≤ w'.heap.size
  block : ∀ k, k < w.heap.size → k ≠ r → w'.heap[k]? = w.heap[k]?
theorem But.refl (r : Nat) (w : World) : But r w w := ⟨rfl, rfl, rfl, Nat.le_refl _, fun _ _ _ => rfl⟩
theorem But.trans {r : Nat} {a b c : World} (h : But r a b) (k : But r b c) : But r a c :=
  ⟨k.os.trans h.os, k.tape.trans h.tape, k.output.trans h.output, Nat.le_trans h.size k.size, fun i hi hr => (k.block i (Nat.lt_of_lt_of_le hi h.size) hr).trans (h.block i hi hr)⟩
theorem But.of_below {r : Nat} {w w' : World} (h : Below w.heap.size w w') : But r w w' := ⟨h.os, h.tape, h.output, h.size, fun k hk _ => h.block k hk⟩
theorem But.below {r B : Nat} {w w' : World} (h : But r w w') (hr : B ≤ r) (hB : B ≤ w.heap.size) : Below B w w' := ⟨h.os, h.tape, h.output, h.size, fun k hk => h.block k (by omega) (by omega)⟩
theorem But.alloc {r : Nat} {a w : World} (h : But r a w) (o : Obj) : But r a (w.alloc o) :=
  h.trans (But.of_below ((Below.refl _ _).alloc (Nat.le_refl _) _))
theorem But.drewN {r : Nat} {a w : World} (h : But r a w) (n : Nat) : But r a (w.drewN n) := ⟨h.os, h.tape, h.output, h.size, h.block⟩
theorem But.drew {r : Nat} {a w : World} (h : But r a w) : But r a w.drew := ⟨h.os, h.tape, h.output, h.size, h.block⟩
theorem But.setCell {r : Nat} {a w : World} (h : But r a w) {p : Addr} (hp : p.block = r ∨ a.heap.size ≤ p.block) (u : Value) : But r a (w.setCell p u) :=
  ⟨h.os, h.tape, h.output, by simpa [World.setCell] using h.size, fun k hk hr => by rw [Below.heap_setCell _ _ _ _ (by omega)]; exact h.block k hk hr⟩
theorem But.grown {r : Nat} {a w w' : World} {row : Option Nat} (h : But r a w) (hg : w.grownBy w' row) (hr : ∀ k, row = some k → a.heap.size ≤ k) : But r a w' :=
  ⟨hg.os.trans h.os, hg.tape.trans h.tape, hg.output.trans h.output, Nat.le_trans h.size hg.size, fun k hk hk' => by rw [hg.block k (Nat.lt_of_lt_of_le hk h.size) (fun e => by have := hr k e.symm; omega)]; exact h.block k hk hk'⟩
theorem But.cell {r : Nat} {w w' : World} (h : But r w w') {b o : Nat} (hb : b < w.heap.size) (hr : b ≠ r) : w'.cell? ⟨b, o, none⟩ = w.cell? ⟨b, o, none⟩ :=
  World.cell?_of_block (w := w) (a := ⟨b, o, none⟩) (h.block b hb hr)
theorem But.frozen {r : Nat} {w w' : World} (h : But r w w') {b o : Nat} (hb : b < w.heap.size) (hr : b ≠ r) : w'.frozen? ⟨b, o, none⟩ = w.frozen? ⟨b, o, none⟩ :=
  World.frozen?_of_block (w := w) (a := ⟨b, o, none⟩) (h.block b hb hr)
/-- All blocks of a class are as they were. -/
structure Kp (S : Nat → Prop) (w w' : World) : Prop where
  size : w.heap.size ≤ w'.heap.size
  block : ∀ k, k < w.heap.size → S k → w'.heap[k]? = w.heap[k]?
theorem Kp.refl (S : Nat → Prop) (w : World) : Kp S w w := ⟨Nat.le_refl _, fun _ _ _ => rfl⟩
theorem Kp.trans {S : Nat → Prop} {a b c : World} (h : Kp S a b) (k : Kp S b c) : Kp S a c := ⟨Nat.le_trans h.size k.size, fun i hi hs => (k.block i (Nat.lt_of_lt_of_le hi h.size) hs).trans (h.block i hi hs)⟩
theorem Kp.of_but {S : Nat → Prop} {r : Nat} {a b : World} (h : But r a b) (hr : ¬ S r) : Kp S a b := ⟨h.size, fun k hk hs => h.block k hk fun e => hr (e ▸ hs)⟩
theorem Kp.of_below {S : Nat → Prop} {a b : World} (h : Below a.heap.size a b) : Kp S a b := ⟨h.size, fun k hk _ => h.block k hk⟩
theorem Kp.alloc {S : Nat → Prop} {a w : World} (h : Kp S a w) (o : Obj) : Kp S a (w.alloc o) := h.trans (Kp.of_below ((Below.refl _ _).alloc (Nat.le_refl _) _))
theorem Kp.drewN {S : Nat → Prop} {a w : World} (h : Kp S a w) (n : Nat) : Kp S a (w.drewN n) := ⟨h.size, h.block⟩
theorem Kp.setCell {S : Nat → Prop} {a w : World} (h : Kp S a w) {p : Addr} (hp : ¬ S p.block ∨ a.heap.size ≤ p.block) (u : Value) : Kp S a (w.setCell p u) :=
  ⟨by simpa [World.setCell] using h.size, fun k hk hs => by rw [Below.heap_setCell _ _ _ _ (fun e => by subst e; rcases hp with hp | hp; exact hp hs; omega)]; exact h.block k hk hs⟩
theorem Kp.grown {S : Nat → Prop} {a w w' : World} {row : Option Nat} (h : Kp S a w) (hg : w.grownBy w' row) (hr : ∀ k, row = some k → ¬ S k ∨ a.heap.size ≤ k) : Kp S a w' :=
  ⟨Nat.le_trans h.size hg.size, fun k hk hs => by rw [hg.block k (Nat.lt_of_lt_of_le hk h.size) (fun e => by rcases hr k e.symm with hp | hp; exact hp hs; omega)]; exact h.block k hk hs⟩
theorem XV.kp {w w' : World} {S T : Nat → Prop} {v : Value} {x : Xp} (h : XV w S v x) (hk : Kp S w w') (hT : ∀ k, k < w.heap.size → S k → T k) : XV w' T v x := h.mono (keep_cell hT hk.block)
theorem FoV.kp {w w' : World} {S T : Nat → Prop} {v : Value} {x : Fo} (h : FoV w S v x) (hk : Kp S w w') (hT : ∀ k, k < w.heap.size → S k → T k) : FoV w' T v x := h.mono (keep_cell hT hk.block)
theorem FoC.kp {w w' : World} {S T : Nat → Prop} {v : List Value} {x : Fo} (h : FoC w S v x) (hk : Kp S w w') (hT : ∀ k, k < w.heap.size → S k → T k) : FoC w' T v x := h.mono (keep_cell hT hk.block)
theorem owns_but {r : Nat} {w w' : World} {base : Nat} {e : TypeId} {size : Nat} {v : Value} {n : Nat} {xs : List Value} (h : w.ownsRow base e size v n xs) (hb : But r w w') (hr : r < base) : w'.ownsRow base e size v n xs := by
  obtain ⟨h1, h2⟩ := h
  refine ⟨h1, ?_⟩
  rcases h2 with h2 | ⟨g, cap, cur, hv, hg, hh, rest⟩
  · exact Or.inl h2
  · refine Or.inr ⟨g, cap, cur, hv, hg, ?_, rest⟩
    have hlt : g < w.heap.size := by
      rcases Nat.lt_or_ge g w.heap.size with h' | h'
      · exact h'
      · rw [Array.getElem?_eq_none h'] at hh; cases hh
    rw [hb.block g hlt (by omega)]; exact hh
end Go.Proofs.Ytcanphhmflbdmac
