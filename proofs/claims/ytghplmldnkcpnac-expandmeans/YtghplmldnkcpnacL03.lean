/- Texts laid together: Gb Gd Ge Em Gk. -/
import Derived.Below
import Derived.Maps.AppendAt
import Derived.Laws.AppendOwnNone
import Derived.Deep.Draws
import Derived.Deep.Quiet
import Derived.BigQuiet
import Derived.Deep.RegionLaw
import Derived.Deep.RegionHeld3
import Derived.WalkKit
import Derived.WalkSpells
import Derived.WalkLawsBesides
import Derived.Test.YtghplmldnkcpnacProg
import Derived.Test.YtghplmldnkcpnacL02
/- Numbers, rules and grammars: as plain data, and as they lie in memory. -/
namespace Go.Proofs.Ytghplmldnkcpnac.G
open Go.RowKit

theorem hd {p : Prop} (h : p) : Hid p := h
theorem ret_bool {a b : Bool} (h : a = b) : Ending.returned (.bool a) = .returned (.bool b) := by rw [h]
theorem ret_int {a b : Int} (h : a = b) : Ending.returned (.int .i64 a) = .returned (.int .i64 b) := by rw [h]
def All : Nat → Prop := fun _ => True
theorem lt_of_cell {w : World} {b o : Nat} {v : Value} (h : w.cell? ⟨b, o, none⟩ = some v) : b < w.heap.size := by
  rcases Nat.lt_or_ge b w.heap.size with h' | h'
  · exact h'
  · exfalso
    have h2 : w.heap[b]? = none := by simp; omega
    have h1 := World.cell?_of_block (w := { w with heap := #[] }) (w' := w) (a := ⟨b, o, none⟩) (by rw [h2]; simp)
    rw [h] at h1
    simp [World.cell?] at h1
theorem al1 (w : World) (o : Obj) : Below w.heap.size w (w.alloc o) := (Below.refl _ _).alloc (Nat.le_refl _) _
theorem al2 (w : World) (o p : Obj) : Below w.heap.size w ((w.alloc o).alloc p) := ((Below.refl _ _).alloc (Nat.le_refl _) _).alloc (by simp) _
theorem drw1 (w : World) : Below w.heap.size w w.drew := ⟨rfl, rfl, rfl, Nat.le_refl _, fun _ _ => rfl⟩
theorem drwN (w : World) (n : Nat) : Below w.heap.size w (w.drewN n) := ⟨rfl, rfl, rfl, Nat.le_refl _, fun _ _ => rfl⟩
theorem bkeep {w w' : World} (h : Below w.heap.size w w') {b o : Nat} {v : Value} (hc : w.cell? ⟨b, o, none⟩ = some v) : w'.cell? ⟨b, o, none⟩ = some v := by
  rw [h.cell (p := ⟨b, o, none⟩) (lt_of_cell hc)]; exact hc
theorem alcell {wr : World} {b o : Nat} {v : Value} (h : wr.cell? ⟨b, o, none⟩ = some v) (ob : Obj) : (wr.alloc ob).cell? ⟨b, o, none⟩ = some v := bkeep (al1 wr ob) h
theorem bthen {a b c : World} (h : Below a.heap.size a b) (k : Below b.heap.size b c) : Below a.heap.size a c := h.trans (k.mono h.size)
theorem addr_add (b o i : Nat) : (⟨b, o, none⟩ : Addr).add i = ⟨b, o + i, none⟩ := by
  unfold Addr.add
  by_cases h : i = 0 <;> simp [h]
/-- What holds of a world holds of one in which all blocks of the class are as they were. -/
theorem keep_cell {w w' : World} {S T : Nat → Prop} (hT : ∀ k, k < w.heap.size → S k → T k) (hk : ∀ k, k < w.heap.size → S k → w'.heap[k]? = w.heap[k]?) :
    ∀ b o v, S b → w.cell? ⟨b, o, none⟩ = some v → T b ∧ w'.cell? ⟨b, o, none⟩ = some v := fun b o v hs h =>
  ⟨hT b (lt_of_cell h) hs, by rw [World.cell?_of_block (w := w) (a := ⟨b, o, none⟩) (hk b (lt_of_cell h) hs)]; exact h⟩
theorem keep_all {w w' : World} (h : Below w.heap.size w w') {S T : Nat → Prop} (hT : ∀ k, S k → T k) : ∀ b o v, S b → w.cell? ⟨b, o, none⟩ = some v → T b ∧ w'.cell? ⟨b, o, none⟩ = some v :=
  fun b _ _ hs hc => ⟨hT b hs, bkeep h hc⟩

/-! Slices of one's own. -/
theorem owns_below {w w' : World} {base : Nat} {e : TypeId} {size : Nat} {v : Value} {n : Nat} {xs : List Value} (h : w.ownsRow base e size v n xs) (hb : Below w.heap.size w w') : w'.ownsRow base e size v n xs :=
  h.kept (row := none) ⟨hb.os, hb.tape, hb.output, hb.size, fun k hk _ => hb.block k hk⟩ (by cases v.ownBlock <;> simp)
theorem owns_mono {w : World} {base b2 : Nat} {e : TypeId} {size : Nat} {v : Value} {n : Nat} {xs : List Value} (h : w.ownsRow base e size v n xs) (hb : b2 ≤ base) : w.ownsRow b2 e size v n xs := by
  obtain ⟨h1, h2⟩ := h
  refine ⟨h1, ?_⟩
  rcases h2 with h2 | ⟨g, cap, cur, e1, e2, e3⟩
  · exact .inl h2
  · exact .inr ⟨g, cap, cur, e1, Nat.le_trans hb e2, e3⟩
theorem owns_setCell {w : World} {base : Nat} {e : TypeId} {size : Nat} {v u : Value} {n : Nat} {xs : List Value} {a : Addr} (h : w.ownsRow base e size v n xs) (ha : a.block < base) : (w.setCell a u).ownsRow base e size v n xs := by
  obtain ⟨h1, h2⟩ := h
  refine ⟨h1, ?_⟩
  rcases h2 with h2 | ⟨g, cap, cur, e1, e2, e3, e4⟩
  · exact .inl h2
  · exact .inr ⟨g, cap, cur, e1, e2, by rw [Below.heap_setCell _ _ _ _ (by omega)]; exact e3, e4⟩
theorem owns_slice {w : World} {base : Nat} {e : TypeId} {size : Nat} {v : Value} {n : Nat} {xs : List Value} (h : w.ownsRow base e size v n xs) : ∃ ao cap, v = .slice ao n cap := by
  rcases h.2 with ⟨rfl, rfl⟩ | ⟨g, cap, cur, rfl, _⟩
  · exact ⟨_, _, rfl⟩
  · exact ⟨_, _, rfl⟩

/-! Numbers. -/
def ints (l : List Int) : List Value := l.map (.int .i64)
theorem ints_len (l : List Int) : (ints l).length = l.length := by simp [ints]
theorem ints_app (l m : List Int) : ints (l ++ m) = ints l ++ ints m := by simp [ints]
theorem oneInts (l : List Int) : ∀ u ∈ ints l, u.oneCell' = true := by
  intro u hu
  obtain ⟨s, _, rfl⟩ := List.mem_map.1 hu
  rfl
/-- A slice of numbers; the block it lies in is of the class S. -/
def IsV (w : World) (S : Nat → Prop) (v : Value) (l : List Int) : Prop :=
  l.length ≤ 9223372036854775807 ∧ ∃ ao cap, v = .slice ao l.length cap ∧ l.length ≤ cap ∧ (ao = none → cap = 0) ∧ (l.length = 0 ∨ ∃ b o, ao = some ⟨b, o, none⟩ ∧ S b ∧ ∀ i (h : i < l.length), w.cell? ⟨b, o + i, none⟩ = some (.int .i64 l[i]))
theorem IsV.slice {w : World} {S : Nat → Prop} {v : Value} {l : List Int} (h : IsV w S v l) : ∃ ao cap, v = .slice ao l.length cap := let ⟨_, ao, cap, e, _⟩ := h; ⟨ao, cap, e⟩
theorem IsV.mono {w w' : World} {S T : Nat → Prop} (hc : ∀ b o v, S b → w.cell? ⟨b, o, none⟩ = some v → T b ∧ w'.cell? ⟨b, o, none⟩ = some v) {v : Value} {l : List Int} (h : IsV w S v l) : IsV w' T v l := by
  obtain ⟨h1, ao, cap, h2, h3, h4, h5⟩ := h
  refine ⟨h1, ao, cap, h2, h3, h4, ?_⟩
  rcases h5 with h5 | ⟨b, o, e, hs, hx⟩
  · exact .inl h5
  · by_cases h0 : l.length = 0
    · exact .inl h0
    · exact .inr ⟨b, o, e, (hc b _ _ hs (hx 0 (by omega))).1, fun i hi => (hc b _ _ hs (hx i hi)).2⟩
theorem IsV.lw {w w' : World} {S : Nat → Prop} {v : Value} {l : List Int} (h : IsV w S v l) (hb : Below w.heap.size w w') : IsV w' S v l := h.mono (keep_all hb fun _ h => h)
theorem IsV.all {w : World} {S : Nat → Prop} {v : Value} {l : List Int} (h : IsV w S v l) : IsV w All v l := h.mono (keep_all (Below.refl _ _) fun _ _ => trivial)
theorem IsV_nil (w : World) (S : Nat → Prop) : IsV w S (.slice none 0 0) [] := ⟨by simp, none, 0, rfl, Nat.zero_le _, fun _ => rfl, .inl rfl⟩
theorem IsV.at_ {w : World} {S : Nat → Prop} {ao : Option Addr} {n cap : Nat} {l : List Int} (h : IsV w S (.slice ao n cap) l) {k : Nat} (hk : k < l.length) : ∃ b o, ao = some ⟨b, o, none⟩ ∧ w.cell? ⟨b, o + k, none⟩ = some (.int .i64 l[k]) := by
  obtain ⟨_, ao', cap', e, _, _, h5⟩ := h
  simp at e
  obtain ⟨rfl, rfl, rfl⟩ := e
  rcases h5 with h5 | ⟨b, o, rfl, _, hx⟩
  · omega
  · exact ⟨b, o, rfl, hx k hk⟩
theorem IsV_owned {w : World} {S : Nat → Prop} {base : Nat} {e : TypeId} {v : Value} {l : List Int} (h : w.ownsRow base e 1 v l.length (ints l)) (hl : l.length ≤ 9223372036854775807) (hS : ∀ k, v.ownBlock = some k → S k) : IsV w S v l := by
  have h0 := h
  obtain ⟨h1, h2 | ⟨g, cap, cur, e1, e2, e3, e4, e5⟩⟩ := h
  · have : l = [] := List.eq_nil_of_length_eq_zero h2.2
    subst this
    rw [h2.1]; exact IsV_nil _ _
  · refine ⟨hl, _, cap, e1, e4, (fun h => by cases h), .inr ⟨g, 0, rfl, hS g (by rw [e1]; rfl), fun i hi => ?_⟩⟩
    subst e1
    have := World.ownsRow.cellAt h0 i (by simpa using hi)
    rw [show 0 + i = i by omega, this]
    simp [ints, hi]
/-- The cells of a slice of numbers, for an append. -/
theorem IsV.cells {w : World} {S : Nat → Prop} {a : Addr} {n cap : Nat} {l : List Int} (h : IsV w S (.slice (some a) n cap) l) : ∀ j u, (ints l)[j]? = some u → w.cell? (a.add j) = some u := by
  intro j u hj
  have hj' : j < l.length := by
    rcases Nat.lt_or_ge j l.length with h | h
    · exact h
    · rw [List.getElem?_eq_none (by rw [ints_len]; exact h)] at hj; cases hj
  obtain ⟨b, o, e, hc⟩ := h.at_ hj'
  simp at e
  subst e
  rw [addr_add, hc, ← hj]
  simp [ints, hj']

/-! Rules. -/
structure Ru where
  left : Int
  right : List Int
  deriving DecidableEq
instance : Inhabited Ru := ⟨⟨0, []⟩⟩
/-- A slice of rules; all blocks that it goes through are of the class S. -/
def RsV (w : World) (S : Nat → Prop) (v : Value) (l : List Ru) : Prop :=
  l.length ≤ 9223372036854775807 ∧ ∃ ao cap, v = .slice ao l.length cap ∧ l.length ≤ cap ∧ (ao = none → cap = 0) ∧
    (l.length = 0 ∨ ∃ b o, ao = some ⟨b, o, none⟩ ∧ S b ∧ ∀ i (h : i < l.length), w.cell? ⟨b, o + i * 2, none⟩ = some (.int .i64 l[i].left) ∧ ∃ u, w.cell? ⟨b, o + i * 2 + 1, none⟩ = some u ∧ IsV w S u l[i].right)
theorem RsV.slice {w : World} {S : Nat → Prop} {v : Value} {l : List Ru} (h : RsV w S v l) : ∃ ao cap, v = .slice ao l.length cap := let ⟨_, ao, cap, e, _⟩ := h; ⟨ao, cap, e⟩
theorem RsV.mono {w w' : World} {S T : Nat → Prop} (hc : ∀ b o v, S b → w.cell? ⟨b, o, none⟩ = some v → T b ∧ w'.cell? ⟨b, o, none⟩ = some v) {v : Value} {l : List Ru} (h : RsV w S v l) : RsV w' T v l := by
  obtain ⟨h1, ao, cap, h2, h3, h4, h5⟩ := h
  refine ⟨h1, ao, cap, h2, h3, h4, ?_⟩
  rcases h5 with h5 | ⟨b, o, e, hs, hx⟩
  · exact .inl h5
  · by_cases h0 : l.length = 0
    · exact .inl h0
    · refine .inr ⟨b, o, e, (hc b _ _ hs (hx 0 (by omega)).1).1, fun i hi => ?_⟩
      obtain ⟨g1, u, g2, g3⟩ := hx i hi
      exact ⟨(hc b _ _ hs g1).2, u, (hc b _ _ hs g2).2, g3.mono hc⟩
theorem RsV.lw {w w' : World} {S : Nat → Prop} {v : Value} {l : List Ru} (h : RsV w S v l) (hb : Below w.heap.size w w') : RsV w' S v l := h.mono (keep_all hb fun _ h => h)
theorem RsV.all {w : World} {S : Nat → Prop} {v : Value} {l : List Ru} (h : RsV w S v l) : RsV w All v l := h.mono (keep_all (Below.refl _ _) fun _ _ => trivial)
theorem RsV_nil (w : World) (S : Nat → Prop) : RsV w S (.slice none 0 0) [] := ⟨by simp, none, 0, rfl, Nat.zero_le _, fun _ => rfl, .inl rfl⟩
theorem RsV.at_ {w : World} {S : Nat → Prop} {ao : Option Addr} {n cap : Nat} {l : List Ru} (h : RsV w S (.slice ao n cap) l) {k : Nat} (hk : k < l.length) :
    ∃ b o, ao = some ⟨b, o, none⟩ ∧ w.cell? ⟨b, o + k * 2, none⟩ = some (.int .i64 l[k].left) ∧ ∃ ar cr, w.cell? ⟨b, o + k * 2 + 1, none⟩ = some (.slice ar l[k].right.length cr) ∧ IsV w S (.slice ar l[k].right.length cr) l[k].right := by
  obtain ⟨_, ao', cap', e, _, _, h5⟩ := h
  simp at e
  obtain ⟨rfl, rfl, rfl⟩ := e
  rcases h5 with h5 | ⟨b, o, rfl, _, hx⟩
  · omega
  · obtain ⟨g1, u, g2, g3⟩ := hx k hk
    obtain ⟨ar, cr, rfl⟩ := g3.slice
    exact ⟨b, o, rfl, g1, ar, cr, g2, g3⟩
/-- The cells of rules. -/
def RC (w : World) (S : Nat → Prop) : List Value → List Ru → Prop
  | [], [] => True
  | a :: c :: xs, r :: l => a = .int .i64 r.left ∧ IsV w S c r.right ∧ RC w S xs l
  | _, _ => False
theorem RC.mono {w w' : World} {S T : Nat → Prop} (hc : ∀ b o v, S b → w.cell? ⟨b, o, none⟩ = some v → T b ∧ w'.cell? ⟨b, o, none⟩ = some v) :
    ∀ {xs : List Value} {l : List Ru}, RC w S xs l → RC w' T xs l
  | [], [], _ => trivial
  | _ :: _ :: _, _ :: _, ⟨h1, h2, h3⟩ => ⟨h1, h2.mono hc, RC.mono hc h3⟩
  | [], _ :: _, h => by simp [RC] at h
  | [_], _, h => by simp [RC] at h
  | _ :: _ :: _, [], h => by simp [RC] at h
theorem RC.snoc {w : World} {S : Nat → Prop} {r : Ru} {u : Value} (hu : IsV w S u r.right) :
    ∀ {xs : List Value} {l : List Ru}, RC w S xs l → RC w S (xs ++ [.int .i64 r.left, u]) (l ++ [r])
  | [], [], _ => ⟨rfl, hu, trivial⟩
  | _ :: _ :: _, _ :: _, ⟨h1, h2, h3⟩ => ⟨h1, h2, RC.snoc hu h3⟩
  | [], _ :: _, h => by simp [RC] at h
  | [_], _, h => by simp [RC] at h
  | _ :: _ :: _, [], h => by simp [RC] at h
theorem RC.at_ {w : World} {S : Nat → Prop} : ∀ {xs : List Value} {l : List Ru}, RC w S xs l → ∀ i (h : i < l.length), xs[i * 2]? = some (.int .i64 l[i].left) ∧ ∃ u, xs[i * 2 + 1]? = some u ∧ IsV w S u l[i].right
  | _ :: c :: _, _ :: _, ⟨h1, h2, _⟩, 0, _ => ⟨by simp [h1], c, rfl, h2⟩
  | _ :: _ :: _, _ :: _, ⟨_, _, h3⟩, i + 1, hi => by
    obtain ⟨g1, u, g2, g3⟩ := RC.at_ h3 i (by simpa using hi)
    exact ⟨by rw [show (i + 1) * 2 = i * 2 + 2 by omega]; simpa using g1, u, by rw [show (i + 1) * 2 + 1 = i * 2 + 1 + 2 by omega]; simpa using g2, by simpa using g3⟩
  | [], [], _, i, hi => by simp at hi
  | [], _ :: _, h, _, _ => by simp [RC] at h
  | [_], _, h, _, _ => by simp [RC] at h
  | _ :: _ :: _, [], h, _, _ => by simp [RC] at h
theorem RsV_owned {w : World} {S T : Nat → Prop} {base : Nat} {e : TypeId} {v : Value} {xs : List Value} {l : List Ru} (h : w.ownsRow base e 2 v l.length xs) (hc : RC w S xs l) (hST : ∀ k, S k → T k) (hT : ∀ k, v.ownBlock = some k → T k) (hl : l.length ≤ 9223372036854775807) : RsV w T v l := by
  have h0 := h
  obtain ⟨h1, h2 | ⟨g, cap, cur, e1, e2, e3, e4, e5⟩⟩ := h
  · have : l = [] := List.eq_nil_of_length_eq_zero h2.2
    subst this
    rw [h2.1]; exact RsV_nil _ _
  · refine ⟨hl, _, cap, e1, e4, (fun h => by cases h), .inr ⟨g, 0, rfl, hT g (by rw [e1]; rfl), fun i hi => ?_⟩⟩
    subst e1
    obtain ⟨g1, u, g2, g3⟩ := hc.at_ i hi
    have c0 := World.ownsRow.cellAt h0 (i * 2) (by omega)
    have c1 := World.ownsRow.cellAt h0 (i * 2 + 1) (by omega)
    refine ⟨by rw [show 0 + i * 2 = i * 2 by omega, c0, g1], u, by rw [show 0 + i * 2 + 1 = i * 2 + 1 by omega, c1, g2], g3.mono (keep_all (Below.refl _ _) hST)⟩

/-! Grammars. -/
structure Gm where
  vars : Int
  terms : Int
  start : Int
  rules : List Ru
  deriving DecidableEq
def GV (w : World) (S : Nat → Prop) (v : Value) (g : Gm) : Prop := ∃ u, v = .agg #[.int .i64 g.vars, .int .i64 g.terms, .int .i64 g.start, u] ∧ RsV w S u g.rules
theorem GV.mono {w w' : World} {S T : Nat → Prop} (hc : ∀ b o v, S b → w.cell? ⟨b, o, none⟩ = some v → T b ∧ w'.cell? ⟨b, o, none⟩ = some v) {v : Value} {g : Gm} (h : GV w S v g) : GV w' T v g := let ⟨u, e, h⟩ := h; ⟨u, e, h.mono hc⟩
theorem GV.lw {w w' : World} {S : Nat → Prop} {v : Value} {g : Gm} (h : GV w S v g) (hb : Below w.heap.size w w') : GV w' S v g := h.mono (keep_all hb fun _ h => h)
theorem GV.all {w : World} {S : Nat → Prop} {v : Value} {g : Gm} (h : GV w S v g) : GV w All v g := h.mono (keep_all (Below.refl _ _) fun _ _ => trivial)

/-! Regions that draw their order. -/
/-- A world in which all is as it was, and some is new. -/
structure Wd (w : World) where
  u : World
  h : Below w.heap.size w u
theorem Wd.ne (w : World) : Nonempty (Wd w) := ⟨⟨w, Below.refl _ _⟩⟩
theorem Wd.cell {w : World} (x : Wd w) {b o : Nat} {v : Value} (h : w.cell? ⟨b, o, none⟩ = some v) : x.u.cell? ⟨b, o, none⟩ = some v := bkeep x.h h
/-- A box of two numbers that may be written. -/
structure RB (w : World) (p : Nat) : Prop where
  c0 : w.cell? ⟨p, 0, none⟩ = some (.int .i64 0)
  c1 : w.cell? ⟨p, 1, none⟩ = some (.int .i64 0)
  fz : ∀ i, w.frozen? ⟨p, i, none⟩ = false
theorem RB.below {w w' : World} {p : Nat} (h : RB w p) (hb : Below w.heap.size w w') : RB w' p :=
  ⟨bkeep hb h.c0, bkeep hb h.c1, fun i => (World.frozen?_of_block (a := ⟨p, i, none⟩) (hb.block p (lt_of_cell h.c0))).trans (h.fz i)⟩
theorem np_panic {Q : Exit → Act → World → Prop} {c : List PanicEntry} {a a' : Act} {w : World} (h : NoPanic Q (.panic c) a w) : NoPanic Q (.panic c) a' w := (h : False).elim
/-- One step: an append. -/
theorem step_own {P : Program} {ops : Array Oper} {o : Oper} {a : Act} {w : World} {K : Act → World → Prop} {Q : Exit → Act → World → Prop} {E : Prop}
    (hg : o.guard = none) (s x : Operand) (t : TypeId) (hop : o.op = Op.call { callee := Callee.builtin Builtin.append, args := #[s, x], argTypes := #[t, t] })
    (base : Nat) (e : TypeId) (i : TypeInfo) (z : Value) (size bytes : Nat) (h1 : P.underlying t = some (.slice e)) (h2 : P.info? e = some i) (h3 : i.zero = some z) (h4 : i.size = size) (h5 : i.bytes = bytes) (h6 : z.cells.size = size) (h7 : 0 < size)
    (v : Value) (n : Nat) (xs : List Value) (hs : a.eval s = v) (hown : w.ownsRow base e size v n xs)
    (ad : Addr) (m c : Nat) (news : List Value) (hx : a.eval x = .slice (some ad) m c) (hn : news.length = m * size) (hc : ∀ j u, news[j]? = some u → w.cell? (ad.add j) = some u) (h1c : ∀ u ∈ news, u.oneCell' = true)
    (b1 : n + m ≤ maxLen) (b2 : (n + m) * bytes ≤ 140737488355328) (hbase : base ≤ w.heap.size)
    (hK : ∀ v' w', w'.ownsRow base e size v' (n + m) (xs ++ news) → w.grownBy w' v.ownBlock → (v'.ownBlock = v.ownBlock ∨ v'.ownBlock = some w.heap.size) → K (a.put o.dst v') w') :
    if Region.wanted o (yielded ops a.tmps) = true then Oper.wp P o a w K Q else E := by
  have hw : Region.wanted o (yielded ops a.tmps) = true := by simp [Region.wanted, hg]
  rw [if_pos hw]
  obtain ⟨v', w', hrun, r1, r2, _, r4⟩ := run_append_own_at (P := P) w base t o.type e i z size bytes h1 h2 h3 h4 h5 h6 h7 v n xs hown ad m c news hn hc h1c b1 b2 hbase
  unfold Oper.wp
  simp [execOp, hop, resolve, invoke, builtin, hs, hx, hrun, Result.andThen]
  exact hK v' w' r1 r2 r4
end Go.Proofs.Ytghplmldnkcpnac.G

/- Grammars, in the document's way: lists of numbers that are the same, great grammars, kids, the rules of a nonterminal. -/
namespace Go.Proofs.Ytghplmldnkcpnac.G
open Go.RowKit

theorem Try.infoInt : (Try.prog.info? 3).map (fun i => (i.zero, i.size, i.bytes)) = some (some (.int .i64 0), 1, 8) := by kernel_rfl
theorem cell_one_at (w : World) (x : Value) (t : TypeId) {n : Nat} (hn : n = w.heap.size) : ∀ j u, [x][j]? = some u → (w.alloc (.cells #[x] t)).cell? ((⟨n, 0, none⟩ : Addr).add j) = some u := by
  subst hn
  intro j u hj
  match j, hj with
  | 0, hj => simp at hj; subst hj; simp [Addr.add]
  | n + 1, hj => simp at hj
theorem ne_at {l m : List Int} {k : Nat} (h1 : k < l.length) (h2 : k < m.length) (h : ¬ l[k] = m[k]) : ¬ l = m := fun e => h (by subst e; rfl)
theorem eq_of_at {α : Type} {l m : List α} (h1 : l.length = m.length) (h : ∀ j, j < l.length → l[j]? = m[j]?) : l = m := by
  apply List.ext_getElem? 
  intro i
  rcases Nat.lt_or_ge i l.length with h' | h'
  · exact h i h'
  · rw [List.getElem?_eq_none h', List.getElem?_eq_none (by omega)]
set_option maxRecDepth 100000 in
set_option maxHeartbeats 4000000 in
theorem sameInts_any (l m : List Int) (va vb : Value) (w : World) (ha : IsV w All va l) (hb : IsV w All vb m) :
    Calls Try.prog 17 #[va, vb] w fun e w' => e = .returned (.bool (decide (l = m))) ∧ Below w.heap.size w w' := by
  obtain ⟨ao, cap, rfl⟩ := ha.slice
  obtain ⟨ao', cap', rfl⟩ := hb.slice
  have hl := ha.1
  have hm := hb.1
  by_cases hlm : l.length = m.length
  · go_enter Try.func17, Try.ntmps17
    rw [← hlm]
    have HLM := hd hlm
    clear hlm
    go_wp2_with fail
    go_loopw [5] (fun i wr => ∃ k : Nat, k ≤ l.length ∧ i = .int .i64 k ∧ Hid (∀ j, j < k → l[j]? = m[j]?) ∧ Below w.heap.size w wr) (fun i _ => l.length - (intOf i).toNat)
    case atStart => exact ⟨0, Nat.zero_le _, rfl, hd (fun j hj => absurd hj (Nat.not_lt_zero _)), Below.refl _ _⟩
    case round =>
      obtain ⟨k, hk, rfl, hall, bel⟩ := hrel
      by_cases hlt : k < l.length
      · have hlt' : k < m.length := by have := HLM.out; omega
        obtain ⟨b, o, rfl, c0⟩ := (ha.lw bel).at_ hlt
        obtain ⟨b', o', rfl, c1⟩ := (hb.lw bel).at_ hlt'
        have HN := hd (ne_at hlt hlt')
        have HE : Hid (l[k] = m[k] → l[k]? = m[k]?) := hd (fun e => by rw [List.getElem?_eq_getElem hlt, List.getElem?_eq_getElem hlt', e])
        generalize l[k] = x at *
        generalize m[k] = y at *
        clear hlt'
        by_cases hxy : x = y
        · have HE' := hd (HE.out hxy)
          subst hxy
          go_wp2_with fail
          go_region
          all_goals
            go_wp2_with fail
            go_roundw
            case rel => exact ⟨k + 1, by omega, by go_num, hd (fun j hj => by
              by_cases e : j = k
              · subst e; exact HE'.out
              · exact hall.out j (by omega)), bel.drew⟩
            case measure => simp [intOf]; omega
        · have HN' := hd (HN.out hxy)
          have hb' : (x != y) = true := by simpa using hxy
          clear hxy
          go_wp2_with fail
          go_region
          all_goals
            go_wp2_with fail
            go_ret
            exact ⟨ret_bool (by simpa using HN'.out), bel.drew⟩
      · have he : l = m := eq_of_at HLM.out fun j hj => hall.out j (by omega)
        have HE := hd he
        clear he
        go_wp2_with fail
        go_ret
        exact ⟨ret_bool (by simpa using HE.out), bel⟩
  · have hne : ¬ l = m := fun e => hlm (by rw [e])
    have HNE := hd hne
    clear hne
    have hb' : ((l.length : Int) != (m.length : Int)) = true := by simp; omega
    go_enter Try.func17, Try.ntmps17
    go_wp2_with fail
    go_ret
    exact ⟨ret_bool (by simpa using HNE.out), Below.refl _ _⟩

end Go.Proofs.Ytghplmldnkcpnac.G

/- Grammars, in the document's way: two that are the same; what is wrong with one. -/
namespace Go.Proofs.Ytghplmldnkcpnac.G
open Go.RowKit

/-- Vars, Terms and Start are as they should be. -/
def szB (g : Gm) : Bool := decide (1 ≤ g.vars ∧ g.vars ≤ 64 ∧ 0 ≤ g.terms ∧ g.terms ≤ 16 ∧ 0 ≤ g.start ∧ g.start < g.vars)
/-- A symbol. -/
def syB (g : Gm) (s : Int) : Bool := decide (-g.terms ≤ s ∧ s < g.vars)
def ruF (g : Gm) (r : Ru) : Int := if 10 < r.right.length then 6 else if (0 ≤ r.left ∧ r.left < g.vars) ∧ r.right.all (syB g) = true then 0 else 9
def rsF (g : Gm) : List Ru → Nat → Int × Int
  | [], _ => (0, 0)
  | r :: l, k => if ruF g r = 0 then rsF g l (k + 1) else (ruF g r, (k : Int))
/-- What is wrong with a grammar. -/
def gFl (g : Gm) : Int × Int := if szB g then if 160 < g.rules.length then (6, -1) else rsF g g.rules 0 else (9, -1)
theorem rsF_at {g : Gm} {l : List Ru} {k : Nat} (h : k < l.length) : rsF g (l.drop k) k = if ruF g l[k] = 0 then rsF g (l.drop (k + 1)) (k + 1) else (ruF g l[k], (k : Int)) := by
  rw [List.drop_eq_getElem_cons h]; rfl
theorem rsF_end {g : Gm} {l : List Ru} {k : Nat} (h : l.length ≤ k) : rsF g (l.drop k) k = (0, 0) := by
  rw [List.drop_of_length_le h]; rfl
end Go.Proofs.Ytghplmldnkcpnac.G

/- Definitions as grammars, as plain mathematics. -/
namespace Go.Proofs.Ytghplmldnkcpnac
open Go.RowKit G

/-- On the way to a grammar: how many nonterminals, the rules so far, was there too much. -/
structure Sp where
  vars : Nat
  rules : List Ru
  bad : Bool
def Sp.rule (s : Sp) (v : Int) (r : List Int) : Sp :=
  if s.bad = true ∨ 160 ≤ s.rules.length ∨ 10 < r.length then { s with bad := true } else { s with rules := s.rules ++ [⟨v, r⟩] }
def Sp.more (s : Sp) : Sp := { s with vars := s.vars + 1 }
def Sp.gone (s : Sp) : Sp := { s with bad := true }
inductive Md where
  | row
  | ways (v : Int) (p a : Bool)
  | part (v : Int) (p a : Bool)
/-- The rules of one way: plain, and with the nonterminal itself behind. -/
def wayA (v : Int) (a : Bool) (l : List Int) (s : Sp) : Sp := if a = true then s.rule v (l ++ [v]) else s
def wayP (v : Int) (p : Bool) (l : List Int) (s : Sp) : Sp := if p = true then s.rule v l else s
def wayR (v : Int) (p a : Bool) (x : List Int × Sp) : Sp := wayA v a x.1 (wayP v p x.1 x.2)
def symS (N T : List ByteArray) (g : Md → Sp → List Int × Sp) (op : Int) (nm : ByteArray) (s : Sp) : List Int × Sp :=
  if s.bad = true then ([], s) else if op = 1 then ([-1 - whr T nm], s) else if op = 2 then ([whr N nm], s) else if op = 3 then g .row s
  else if 64 ≤ s.vars then ([], s.gone)
  else if op = 4 then ([(s.vars : Int)], (g (.ways s.vars true false) s.more).2)
  else ([(s.vars : Int)], (g (.part s.vars (decide (op ≠ 6)) (decide (op ≠ 5))) (if op = 7 then s.more else s.more.rule s.vars [])).2)
def Fo.go (N T : List ByteArray) : Fo → Md → Sp → List Int × Sp
  | .nil, _, s => ([], s)
  | .cons op nm kids rest, .row, s => ((symS N T (kids.go N T) op nm s).1 ++ (rest.go N T .row (symS N T (kids.go N T) op nm s).2).1, (rest.go N T .row (symS N T (kids.go N T) op nm s).2).2)
  | .cons op nm kids rest, .ways v p a, s => if s.bad = true then ([], s) else rest.go N T (.ways v p a) (wayR v p a (symS N T (kids.go N T) op nm s))
  | .cons op nm kids _, .part v p a, s => if s.bad = true then ([], s) else if op = 4 then kids.go N T (.ways v p a) s else ([], wayR v p a (symS N T (kids.go N T) op nm s))
/-- The symbols of an expression. -/
def Xp.sy (N T : List ByteArray) (x : Xp) (s : Sp) : List Int × Sp := symS N T (x.kids.go N T) x.op x.nm s
/-- The ways of an expression. -/
def Xp.ways (x : Xp) : Fo := if x.op = 4 then x.kids else .cons x.op x.nm x.kids .nil
/-- The rules of a nonterminal, of an expression. -/
def Xp.put (N T : List ByteArray) (x : Xp) (v : Int) (p a : Bool) (s : Sp) : Sp := (x.ways.go N T (.ways v p a) s).2
section
variable {N T : List ByteArray}
theorem gone_of {s : Sp} (h : s.bad = true) : s.gone = s := by cases s; cases h; rfl
theorem rule_bad {s : Sp} (h : s.bad = true) (v : Int) (r : List Int) : s.rule v r = s := by
  unfold Sp.rule; rw [if_pos (.inl h)]; exact gone_of h
theorem rule_no {s : Sp} {v : Int} {r : List Int} (h : 160 ≤ s.rules.length ∨ 10 < r.length) : s.rule v r = s.gone := by
  unfold Sp.rule; rw [if_pos (.inr h)]; rfl
theorem rule_yes {s : Sp} {v : Int} {r : List Int} (h0 : s.bad = false) (h1 : ¬ 160 ≤ s.rules.length) (h2 : ¬ 10 < r.length) : s.rule v r = { s with rules := s.rules ++ [⟨v, r⟩] } := by
  unfold Sp.rule; rw [if_neg (by simp [h0]; omega)]
theorem wayA_bad {s : Sp} (h : s.bad = true) (v : Int) (a : Bool) (r : List Int) : wayA v a r s = s := by unfold wayA; split; exact rule_bad h _ _; rfl
theorem wayP_bad {s : Sp} (h : s.bad = true) (v : Int) (a : Bool) (r : List Int) : wayP v a r s = s := by unfold wayP; split; exact rule_bad h _ _; rfl
theorem wayR_bad {x : List Int × Sp} (h : x.2.bad = true) (v : Int) (p a : Bool) : wayR v p a x = x.2 := by unfold wayR; rw [wayP_bad h, wayA_bad h]
theorem symS_bad {g : Md → Sp → List Int × Sp} {s : Sp} (h : s.bad = true) (op : Int) (nm : ByteArray) : symS N T g op nm s = ([], s) := if_pos h
theorem Fo.go_bad {s : Sp} (h : s.bad = true) : ∀ (f : Fo) (m : Md), f.go N T m s = ([], s)
  | .nil, _ => by unfold Fo.go; rfl
  | .cons op nm kids rest, .row => by
    unfold Fo.go
    rw [symS_bad h]
    simp only [Fo.go_bad h rest, List.append_nil]
  | .cons op nm kids rest, .ways v p a => by unfold Fo.go; exact if_pos h
  | .cons op nm kids rest, .part v p a => by unfold Fo.go; exact if_pos h
theorem Xp.put_bad {s : Sp} (h : s.bad = true) (x : Xp) (v : Int) (p a : Bool) : x.put N T v p a s = s := by unfold Xp.put; rw [Fo.go_bad h]
theorem Fo.go_part {s : Sp} (op : Int) (nm : ByteArray) (kids rest : Fo) (v : Int) (p a : Bool) : ((Fo.cons op nm kids rest).go N T (.part v p a) s).2 = Xp.put N T ⟨op, nm, kids⟩ v p a s := by
  unfold Xp.put Xp.ways
  by_cases hb : s.bad = true
  · rw [Fo.go_bad hb, Fo.go_bad hb]
  · by_cases h4 : op = 4
    · rw [if_pos h4, Fo.go, if_neg hb, if_pos h4]
    · rw [if_neg h4]
      simp only [Fo.go]
      rw [if_neg hb, if_neg h4, if_neg hb]
theorem Fo.go_part_at {s : Sp} {f : Fo} (h : 0 < f.len) (v : Int) (p a : Bool) : (f.go N T (.part v p a) s).2 = (f.at_ 0).put N T v p a s := by
  cases f with
  | nil => simp [Fo.len] at h
  | cons op nm kids rest => exact Fo.go_part op nm kids rest v p a
theorem Fo.row_at {f : Fo} {i : Nat} (h : i < f.len) (s : Sp) : (f.drp i).go N T .row s = (((f.at_ i).sy N T s).1 ++ ((f.drp (i + 1)).go N T .row ((f.at_ i).sy N T s).2).1, ((f.drp (i + 1)).go N T .row ((f.at_ i).sy N T s).2).2) := by
  rw [Fo.drp_at h, Fo.go]; rfl
theorem Fo.row_end {f : Fo} {i : Nat} (h : f.len ≤ i) (s : Sp) : (f.drp i).go N T .row s = ([], s) := by rw [Fo.drp_end h, Fo.go]
theorem Fo.ways_at {f : Fo} {i : Nat} (h : i < f.len) {s : Sp} (hb : s.bad = false) (v : Int) (p a : Bool) : (f.drp i).go N T (.ways v p a) s = (f.drp (i + 1)).go N T (.ways v p a) (wayR v p a ((f.at_ i).sy N T s)) := by
  rw [Fo.drp_at h, Fo.go, if_neg (by simp [hb])]; rfl
theorem Fo.ways_end {f : Fo} {i : Nat} (h : f.len ≤ i) (s : Sp) (v : Int) (p a : Bool) : (f.drp i).go N T (.ways v p a) s = ([], s) := by rw [Fo.drp_end h, Fo.go]
theorem sy_term {s : Sp} {x : Xp} (hb : s.bad = false) (h : x.op = 1) : x.sy N T s = ([-1 - whr T x.nm], s) := by unfold Xp.sy symS; rw [if_neg (by simp [hb]), if_pos h]
theorem sy_name {s : Sp} {x : Xp} (hb : s.bad = false) (h : x.op = 2) : x.sy N T s = ([whr N x.nm], s) := by unfold Xp.sy symS; rw [if_neg (by simp [hb]), if_neg (by omega), if_pos h]
theorem sy_row {s : Sp} {x : Xp} (hb : s.bad = false) (h : x.op = 3) : x.sy N T s = x.kids.go N T .row s := by unfold Xp.sy symS; rw [if_neg (by simp [hb]), if_neg (by omega), if_neg (by omega), if_pos h]
theorem sy_full {s : Sp} {x : Xp} (hb : s.bad = false) (h1 : x.op ≠ 1) (h2 : x.op ≠ 2) (h3 : x.op ≠ 3) (h : 64 ≤ s.vars) : x.sy N T s = ([], s.gone) := by
  unfold Xp.sy symS; rw [if_neg (by simp [hb]), if_neg h1, if_neg h2, if_neg h3, if_pos h]
theorem sy_alt {s : Sp} {x : Xp} (hb : s.bad = false) (h : x.op = 4) (hv : ¬ 64 ≤ s.vars) : x.sy N T s = ([(s.vars : Int)], x.put N T s.vars true false s.more) := by
  unfold Xp.sy symS; rw [if_neg (by simp [hb]), if_neg (by omega), if_neg (by omega), if_neg (by omega), if_neg hv, if_pos h]
  unfold Xp.put Xp.ways; rw [if_pos h]
theorem sy_opt {s : Sp} {x : Xp} (hb : s.bad = false) (h : x.op = 5) (hl : 0 < x.kids.len) (hv : ¬ 64 ≤ s.vars) : x.sy N T s = ([(s.vars : Int)], (x.kids.at_ 0).put N T s.vars true false (s.more.rule s.vars [])) := by
  unfold Xp.sy symS; rw [if_neg (by simp [hb]), if_neg (by omega), if_neg (by omega), if_neg (by omega), if_neg hv, if_neg (by omega), if_neg (by omega), Fo.go_part_at hl, h]
  rfl
theorem sy_star {s : Sp} {x : Xp} (hb : s.bad = false) (h : x.op = 6) (hl : 0 < x.kids.len) (hv : ¬ 64 ≤ s.vars) : x.sy N T s = ([(s.vars : Int)], (x.kids.at_ 0).put N T s.vars false true (s.more.rule s.vars [])) := by
  unfold Xp.sy symS; rw [if_neg (by simp [hb]), if_neg (by omega), if_neg (by omega), if_neg (by omega), if_neg hv, if_neg (by omega), if_neg (by omega), Fo.go_part_at hl, h]
  rfl
theorem sy_plus {s : Sp} {x : Xp} (hb : s.bad = false) (h : x.op = 7) (hl : 0 < x.kids.len) (hv : ¬ 64 ≤ s.vars) : x.sy N T s = ([(s.vars : Int)], (x.kids.at_ 0).put N T s.vars true true s.more) := by
  unfold Xp.sy symS; rw [if_neg (by simp [hb]), if_neg (by omega), if_neg (by omega), if_neg (by omega), if_neg hv, if_neg (by omega), if_pos h, Fo.go_part_at hl, h]
  rfl

/-! What stays. -/
theorem symS_len (g : Md → Sp → List Int × Sp) (op : Int) (nm : ByteArray) (n : Nat) (hg : ∀ s, (g .row s).1.length ≤ n) (s : Sp) : (symS N T g op nm s).1.length ≤ 1 + n := by
  have := hg s
  unfold symS
  (repeat' split) <;> simp <;> omega
theorem Fo.go_len : ∀ (f : Fo) (s : Sp), (f.go N T .row s).1.length ≤ f.sz
  | .nil, s => by unfold Fo.go; exact Nat.le_refl _
  | .cons op nm kids rest, s => by
    have h1 := symS_len (N := N) (T := T) (kids.go N T) op nm kids.sz (Fo.go_len kids) s
    have h2 := Fo.go_len rest (symS N T (kids.go N T) op nm s).2
    unfold Fo.go Fo.sz
    rw [List.length_append]
    omega
theorem Xp.sy_len (x : Xp) (s : Sp) : (x.sy N T s).1.length ≤ x.sz := symS_len _ _ _ _ (Fo.go_len _) s
/-- A rule that may be. -/
def RuOk (t v : Nat) (r : Ru) : Prop := 0 ≤ r.left ∧ r.left < v ∧ r.right.length ≤ 10 ∧ ∀ y ∈ r.right, -(t : Int) ≤ y ∧ y < v
structure SpOk (t : Nat) (s : Sp) : Prop where
  few : s.vars ≤ 64
  rl : s.rules.length ≤ 160
  all : ∀ r ∈ s.rules, RuOk t s.vars r
theorem RuOk.mono {t v v' : Nat} {r : Ru} (h : RuOk t v r) (hv : v ≤ v') : RuOk t v' r := ⟨h.1, by have := h.2.1; omega, h.2.2.1, fun y hy => by have := h.2.2.2 y hy; omega⟩
/-- From one state to a later one. -/
structure Led (t : Nat) (s s' : Sp) : Prop where
  ok : SpOk t s'
  le : s.vars ≤ s'.vars
theorem Led.trans {t : Nat} {a b c : Sp} (h : Led t a b) (k : Led t b c) : Led t a c := ⟨k.ok, Nat.le_trans h.le k.le⟩
theorem Led.refl {t : Nat} {a : Sp} (h : SpOk t a) : Led t a a := ⟨h, Nat.le_refl _⟩
theorem Led.rule {t : Nat} {s : Sp} (h : SpOk t s) {v : Int} {l : List Int} (hv : 0 ≤ v ∧ v < s.vars) (hl : ∀ y ∈ l, -(t : Int) ≤ y ∧ y < s.vars) : Led t s (s.rule v l) := by
  unfold Sp.rule
  split
  · exact ⟨⟨h.few, h.rl, h.all⟩, Nat.le_refl _⟩
  · rename_i hn
    refine ⟨⟨h.few, by simp; omega, fun r hr => ?_⟩, Nat.le_refl _⟩
    rcases List.mem_append.1 hr with hr | hr
    · exact h.all r hr
    · simp at hr; subst hr; exact ⟨hv.1, hv.2, by simp; omega, hl⟩
theorem Led.gone {t : Nat} {s : Sp} (h : SpOk t s) : Led t s s.gone := ⟨⟨h.few, h.rl, h.all⟩, Nat.le_refl _⟩
theorem Led.more {t : Nat} {s : Sp} (h : SpOk t s) (hv : ¬ 64 ≤ s.vars) : Led t s s.more := ⟨⟨by show s.vars + 1 ≤ 64; omega, h.rl, fun r hr => (h.all r hr).mono (Nat.le_succ _)⟩, Nat.le_succ _⟩
theorem Led.way {t : Nat} {x : List Int × Sp} (h : SpOk t x.2) {v : Int} (p a : Bool) (hv : 0 ≤ v ∧ v < x.2.vars) (hl : ∀ y ∈ x.1, -(t : Int) ≤ y ∧ y < x.2.vars) : Led t x.2 (wayR v p a x) := by
  have h1 : Led t x.2 (wayP v p x.1 x.2) := by
    unfold wayP; split
    · exact Led.rule h hv hl
    · exact Led.refl h
  refine h1.trans ?_
  unfold wayR wayA; split
  · refine Led.rule h1.ok ⟨hv.1, by have := h1.le; omega⟩ fun y hy => ?_
    have hle := h1.le
    rcases List.mem_append.1 hy with hy | hy
    · have := hl y hy; omega
    · simp at hy; subst hy; omega
  · exact Led.refl h1.ok
/-- The nonterminals that a mode speaks of. -/
def Md.ok : Md → Nat → Prop
  | .row, _ => True
  | .ways v _ _, n => 0 ≤ v ∧ v < n
  | .part v _ _, n => 0 ≤ v ∧ v < n
theorem Md.ok.mono {m : Md} {a b : Nat} (h : m.ok a) (hab : a ≤ b) : m.ok b := by
  cases m <;> simp only [Md.ok] at h ⊢ <;> omega
def Fits (N T : List ByteArray) (f : Fo) : Prop := (∀ n ∈ f.nmd 2, n ∈ N) ∧ (∀ n ∈ f.nmd 1, n ∈ T)
theorem whr_lt (l : List ByteArray) (s : ByteArray) : whr l s < l.length ∨ l.length = 0 := by
  unfold whr
  rcases fstI_spec (fun i => decide (l[i]? = some s)) l.length with ⟨h1, h2⟩ | ⟨k, h1, h2, h3, _⟩
  · rw [h1]; omega
  · rw [h2]; omega
theorem whr_in {l : List ByteArray} {s : ByteArray} (h : s ∈ l) : 0 ≤ whr l s ∧ whr l s < l.length := by
  have h1 := (whr_mem l s).2 h
  have h2 : 0 < l.length := List.length_pos_of_mem h
  rcases whr_lt l s with h3 | h3
  · exact ⟨h1, h3⟩
  · omega
theorem symS_led {g : Md → Sp → List Int × Sp} {op : Int} {nm : ByteArray} {s : Sp} (hs : SpOk T.length s) (hN : N.length ≤ s.vars)
    (hg : ∀ (m : Md) (s : Sp), SpOk T.length s → N.length ≤ s.vars → m.ok s.vars → Led T.length s (g m s).2 ∧ ∀ y ∈ (g m s).1, -(T.length : Int) ≤ y ∧ y < (g m s).2.vars)
    (h2 : op = 2 → nm ∈ N) (h1 : op = 1 → nm ∈ T) : Led T.length s (symS N T g op nm s).2 ∧ ∀ y ∈ (symS N T g op nm s).1, -(T.length : Int) ≤ y ∧ y < (symS N T g op nm s).2.vars := by
  unfold symS
  split
  · exact ⟨Led.refl hs, by simp⟩
  split
  · rename_i h
    refine ⟨Led.refl hs, fun y hy => ?_⟩
    simp at hy; subst hy
    have := whr_in (h1 h)
    simp only
    omega
  split
  · rename_i h
    refine ⟨Led.refl hs, fun y hy => ?_⟩
    simp at hy; subst hy
    have := whr_in (h2 h)
    simp only
    omega
  split
  · exact hg .row s hs hN trivial
  split
  · exact ⟨Led.gone hs, by simp⟩
  rename_i hv
  have hm := Led.more hs hv
  have hml : s.more.vars = s.vars + 1 := rfl
  split
  · have := (hg (.ways s.vars true false) s.more hm.ok (by omega) (by simp only [Md.ok]; omega)).1
    have hle := this.le
    exact ⟨hm.trans this, fun y hy => by simp at hy; subst hy; dsimp only; omega⟩
  · have k : Led T.length s.more (if op = 7 then s.more else s.more.rule s.vars []) := by
      split
      · exact Led.refl hm.ok
      · exact Led.rule hm.ok (by omega) (by simp)
    have hk := k.le
    have := (hg (.part s.vars (decide (op ≠ 6)) (decide (op ≠ 5))) _ k.ok (by omega) (by simp only [Md.ok]; omega)).1
    have hle := this.le
    exact ⟨(hm.trans k).trans this, fun y hy => by simp at hy; subst hy; dsimp only; omega⟩
theorem Fits.cons {op : Int} {nm : ByteArray} {kids rest : Fo} (h : Fits N T (.cons op nm kids rest)) : (op = 2 → nm ∈ N) ∧ (op = 1 → nm ∈ T) ∧ Fits N T kids ∧ Fits N T rest := by
  obtain ⟨h1, h2⟩ := h
  simp only [Fo.nmd, List.mem_append] at h1 h2
  exact ⟨fun e => h1 _ (.inl (.inl (by simp [e]))), fun e => h2 _ (.inl (.inl (by simp [e]))), ⟨fun n hn => h1 n (.inl (.inr hn)), fun n hn => h2 n (.inl (.inr hn))⟩, ⟨fun n hn => h1 n (.inr hn), fun n hn => h2 n (.inr hn)⟩⟩
theorem Fo.go_led : ∀ (f : Fo), Fits N T f → ∀ (m : Md) (s : Sp), SpOk T.length s → N.length ≤ s.vars → m.ok s.vars → Led T.length s (f.go N T m s).2 ∧ ∀ y ∈ (f.go N T m s).1, -(T.length : Int) ≤ y ∧ y < (f.go N T m s).2.vars
  | .nil, _, m, s, hs, _, _ => by unfold Fo.go; exact ⟨Led.refl hs, by simp⟩
  | .cons op nm kids rest, hf, .row, s, hs, hN, _ => by
    obtain ⟨f2, f1, fk, fr⟩ := hf.cons
    obtain ⟨a1, a2⟩ := symS_led (op := op) (nm := nm) hs hN (Fo.go_led kids fk) f2 f1
    obtain ⟨b1, b2⟩ := Fo.go_led rest fr .row _ a1.ok (Nat.le_trans hN a1.le) trivial
    unfold Fo.go
    refine ⟨a1.trans b1, fun y hy => ?_⟩
    rcases List.mem_append.1 hy with hy | hy
    · have := a2 y hy; have := b1.le; simp only; omega
    · exact b2 y hy
  | .cons op nm kids rest, hf, .ways v p a, s, hs, hN, hm => by
    obtain ⟨f2, f1, fk, fr⟩ := hf.cons
    obtain ⟨a1, a2⟩ := symS_led (op := op) (nm := nm) hs hN (Fo.go_led kids fk) f2 f1
    unfold Fo.go
    split
    · exact ⟨Led.refl hs, by simp⟩
    · simp only [Md.ok] at hm
      have hl := a1.le
      have w1 := Led.way a1.ok p a (v := v) (by omega) a2
      have hl1 := w1.le
      obtain ⟨b1, b2⟩ := Fo.go_led rest fr (.ways v p a) _ w1.ok (by omega) (by simp only [Md.ok]; omega)
      exact ⟨(a1.trans w1).trans b1, b2⟩
  | .cons op nm kids rest, hf, .part v p a, s, hs, hN, hm => by
    obtain ⟨f2, f1, fk, fr⟩ := hf.cons
    obtain ⟨a1, a2⟩ := symS_led (op := op) (nm := nm) hs hN (Fo.go_led kids fk) f2 f1
    unfold Fo.go
    split
    · exact ⟨Led.refl hs, by simp⟩
    split
    · exact Fo.go_led kids fk (.ways v p a) s hs hN hm
    · simp only [Md.ok] at hm
      have hl := a1.le
      exact ⟨a1.trans (Led.way a1.ok p a (by omega) a2), by simp⟩
theorem Xp.ways_fits {x : Xp} (h2 : ∀ n ∈ x.nmd 2, n ∈ N) (h1 : ∀ n ∈ x.nmd 1, n ∈ T) : Fits N T x.ways := by
  simp only [Xp.nmd, List.mem_append] at h1 h2
  unfold Xp.ways
  split
  · exact ⟨fun n hn => h2 n (.inr hn), fun n hn => h1 n (.inr hn)⟩
  · refine ⟨fun n hn => ?_, fun n hn => ?_⟩
    · simp only [Fo.nmd, List.append_nil, List.mem_append] at hn; exact h2 n hn
    · simp only [Fo.nmd, List.append_nil, List.mem_append] at hn; exact h1 n hn
end

/-! Definitions, one behind the other. -/
def exG (N T : List ByteArray) : List Df → Nat → Sp → Sp × Int
  | [], _, s => (s, -1)
  | d :: ds, i, s => if (d.e.put N T i true false s).bad = true then (d.e.put N T i true false s, i) else exG N T ds (i + 1) (d.e.put N T i true false s)
def sp0 (ds : List Df) : Sp := ⟨ds.length, [], false⟩
def exA (ds : List Df) : Sp × Int := exG (nms ds) (trms ds) ds 0 (sp0 ds)
def exGm (ds : List Df) : Gm := if (dfl ds).1 ≠ 0 then ⟨0, 0, 0, []⟩ else if (exA ds).1.bad = true then ⟨0, 0, 0, []⟩ else ⟨(exA ds).1.vars, (trms ds).length, 0, (exA ds).1.rules⟩
def exF (ds : List Df) : Int × Int := if (dfl ds).1 ≠ 0 then dfl ds else if (exA ds).1.bad = true then (6, (exA ds).2) else (0, 0)
section
variable {N T : List ByteArray}
theorem exG_at {ds : List Df} {k : Nat} (h : k < ds.length) (s : Sp) : exG N T (ds.drop k) k s = if (ds[k].e.put N T k true false s).bad = true then (ds[k].e.put N T k true false s, (k : Int)) else exG N T (ds.drop (k + 1)) (k + 1) (ds[k].e.put N T k true false s) := by
  rw [List.drop_eq_getElem_cons h, exG]
theorem exG_end {ds : List Df} {k : Nat} (h : ds.length ≤ k) (s : Sp) : exG N T (ds.drop k) k s = (s, -1) := by rw [List.drop_of_length_le h, exG]
theorem exG_led : ∀ (ds : List Df) (i : Nat) (s : Sp), (∀ d ∈ ds, (∀ n ∈ d.e.nmd 2, n ∈ N) ∧ ∀ n ∈ d.e.nmd 1, n ∈ T) → SpOk T.length s → N.length ≤ s.vars → i + ds.length ≤ s.vars → Led T.length s (exG N T ds i s).1
  | [], i, s, _, hs, _, _ => Led.refl hs
  | d :: ds, i, s, hf, hs, hN, hi => by
    have f := hf d (by simp)
    have h1 : Led T.length s (d.e.put N T i true false s) := (Fo.go_led d.e.ways (Xp.ways_fits f.1 f.2) (.ways i true false) s hs hN (by simp only [Md.ok, List.length_cons] at *; omega)).1
    unfold exG
    split
    · exact h1
    · refine h1.trans (exG_led ds (i + 1) _ (fun e he => hf e (by simp [he])) h1.ok (Nat.le_trans hN h1.le) ?_)
      have := h1.le
      simp only [List.length_cons] at hi
      omega
theorem rsF_zero {g : Gm} : ∀ (l : List Ru) (i : Nat), (∀ r ∈ l, ruF g r = 0) → rsF g l i = (0, 0)
  | [], _, _ => rfl
  | r :: l, i, h => by
    rw [rsF, if_pos (h r (by simp))]
    exact rsF_zero l (i + 1) fun x hx => h x (by simp [hx])
/-- What comes of definitions that are right is a grammar that is right. -/
theorem dfl_zero {ds : List Df} (h : (dfl ds).1 = 0) : Fine ds ∧ (∀ d ∈ ds, (∀ n ∈ d.e.nmd 2, n ∈ nms ds) ∧ ∀ n ∈ d.e.nmd 1, n ∈ trms ds) ∧ (trms ds).length ≤ 16 ∧ (nms ds).Nodup := by
  unfold dfl at h
  split at h
  · exact absurd h (by assumption)
  rename_i hr
  split at h
  · cases h
  rename_i ht
  split at h
  · cases h
  rename_i ho
  split at h
  · cases h
  rename_i h16
  have ho' := (op_neg ds).1 ho
  exact ⟨(rflt_zero (by simpa using hr)).1, fun d hd => ⟨ho' d hd, fun n hn => trms_mem.2 ⟨d, hd, hn⟩⟩, by omega, (tw_neg ds).1 ht⟩
theorem exA_ok {ds : List Df} (h : (dfl ds).1 = 0) : SpOk (trms ds).length (exA ds).1 ∧ ds.length ≤ (exA ds).1.vars := by
  obtain ⟨hf, ha, _⟩ := dfl_zero h
  have := exG_led ds 0 (sp0 ds) ha ⟨by have := hf.few; simp [sp0]; omega, by simp [sp0], by simp [sp0]⟩ (by rw [nms_len]; simp [sp0]) (by simp [sp0])
  exact ⟨this.ok, this.le⟩
theorem exGm_right {ds : List Df} (h : (dfl ds).1 = 0) (hb : (exA ds).1.bad = false) : (gFl (exGm ds)).1 = 0 := by
  obtain ⟨ok, hv⟩ := exA_ok h
  obtain ⟨hf, _, ht, _⟩ := dfl_zero h
  have hp := hf.pos
  have hfew := ok.few
  unfold exGm
  rw [if_neg (by simpa using h), if_neg (by simp [hb])]
  unfold gFl szB
  rw [if_pos (by simp; omega), if_neg (by have := ok.rl; simp only; omega)]
  rw [rsF_zero]
  intro r hr
  obtain ⟨r1, r2, r3, r4⟩ := ok.all r hr
  unfold ruF
  refine (if_neg (by omega)).trans (if_pos ⟨⟨r1, by simpa using r2⟩, ?_⟩)
  rw [List.all_eq_true]
  intro y hy
  have := r4 y hy
  simp only [syB, decide_eq_true_eq]
  omega
end
end Go.Proofs.Ytghplmldnkcpnac

/- What stays as it was; numbers behind a slice of one's own. -/
namespace Go.Proofs.Ytghplmldnkcpnac.G
open Go.RowKit
theorem Try.infoRule : (Try.prog.info? 37).map (fun i => (i.zero, i.size, i.bytes)) = some (some (.agg #[.int .i64 0, .slice none 0 0]), 2, 32) := by kernel_rfl
/-- All blocks but one are as they were. -/
structure But (r : Nat) (w w' : World) : Prop where
  os : w'.os = w.os
  tape : w'.tape = w.tape
  output : w'.output = w.output
  size : w.heap.size ≤ w'.heap.size
  block : ∀ k, k < w.heap.size → k ≠ r → w'.heap[k]? = w.heap[k]?
theorem But.refl (r : Nat) (w : World) : But r w w := ⟨rfl, rfl, rfl, Nat.le_refl _, fun _ _ _ => rfl⟩
theorem But.trans {r : Nat} {a b c : World} (h : But r a b) (k : But r b c) : But r a c :=
  ⟨k.os.trans h.os, k.tape.trans h.tape, k.output.trans h.output, Nat.le_trans h.size k.size, fun i hi hr => (k.block i (Nat.lt_of_lt_of_le hi h.size) hr).trans (h.block i hi hr)⟩
theorem But.of_below {r : Nat} {w w' : World} (h : Below w.heap.size w w') : But r w w' := ⟨h.os, h.tape, h.output, h.size, fun k hk _ => h.block k hk⟩
theorem But.below {r B : Nat} {w w' : World} (h : But r w w') (hr : B ≤ r) (hB : B ≤ w.heap.size) : Below B w w' := ⟨h.os, h.tape, h.output, h.size, fun k hk => h.block k (by omega) (by omega)⟩
theorem But.setCell {r : Nat} {a w : World} (h : But r a w) {p : Addr} (hp : p.block = r ∨ a.heap.size ≤ p.block) (u : Value) : But r a (w.setCell p u) :=
  ⟨h.os, h.tape, h.output, by simpa [World.setCell] using h.size, fun k hk hr => by rw [Below.heap_setCell _ _ _ _ (by omega)]; exact h.block k hk hr⟩
theorem But.grown {r : Nat} {a w w' : World} {row : Option Nat} (h : But r a w) (hg : w.grownBy w' row) (hr : ∀ k, row = some k → a.heap.size ≤ k) : But r a w' :=
  ⟨hg.os.trans h.os, hg.tape.trans h.tape, hg.output.trans h.output, Nat.le_trans h.size hg.size, fun k hk hk' => by rw [hg.block k (Nat.lt_of_lt_of_le hk h.size) (fun e => by have := hr k e.symm; omega)]; exact h.block k hk hk'⟩
theorem But.cell {r : Nat} {w w' : World} (h : But r w w') {b o : Nat} (hb : b < w.heap.size) (hr : b ≠ r) : w'.cell? ⟨b, o, none⟩ = w.cell? ⟨b, o, none⟩ :=
  World.cell?_of_block (w := w) (a := ⟨b, o, none⟩) (h.block b hb hr)
theorem But.frozen {r : Nat} {w w' : World} (h : But r w w') {b o : Nat} (hb : b < w.heap.size) (hr : b ≠ r) : w'.frozen? ⟨b, o, none⟩ = w.frozen? ⟨b, o, none⟩ :=
  World.frozen?_of_block (w := w) (a := ⟨b, o, none⟩) (h.block b hb hr)
/-- All blocks of a class are as they were. -/
structure Kp (S : Nat → Prop) (w w' : World) : Prop where
  size : w.heap.size ≤ w'.heap.size
  block : ∀ k, k < w.heap.size → S k → w'.heap[k]? = w.heap[k]?
theorem Kp.refl (S : Nat → Prop) (w : World) : Kp S w w := ⟨Nat.le_refl _, fun _ _ _ => rfl⟩
theorem Kp.trans {S : Nat → Prop} {a b c : World} (h : Kp S a b) (k : Kp S b c) : Kp S a c := ⟨Nat.le_trans h.size k.size, fun i hi hs => (k.block i (Nat.lt_of_lt_of_le hi h.size) hs).trans (h.block i hi hs)⟩
theorem Kp.of_below {S : Nat → Prop} {a b : World} (h : Below a.heap.size a b) : Kp S a b := ⟨h.size, fun k hk _ => h.block k hk⟩
theorem Kp.alloc {S : Nat → Prop} {a w : World} (h : Kp S a w) (o : Obj) : Kp S a (w.alloc o) := h.trans (Kp.of_below (al1 _ _))
theorem Kp.setCell {S : Nat → Prop} {a w : World} (h : Kp S a w) {p : Addr} (hp : ¬ S p.block ∨ a.heap.size ≤ p.block) (u : Value) : Kp S a (w.setCell p u) :=
  ⟨by simpa [World.setCell] using h.size, fun k hk hs => by rw [Below.heap_setCell _ _ _ _ (fun e => by subst e; rcases hp with hp | hp; exact hp hs; omega)]; exact h.block k hk hs⟩
theorem Kp.grown {S : Nat → Prop} {a w w' : World} {row : Option Nat} (h : Kp S a w) (hg : w.grownBy w' row) (hr : ∀ k, row = some k → ¬ S k ∨ a.heap.size ≤ k) : Kp S a w' :=
  ⟨Nat.le_trans h.size hg.size, fun k hk hs => by rw [hg.block k (Nat.lt_of_lt_of_le hk h.size) (fun e => by rcases hr k e.symm with hp | hp; exact hp hs; omega)]; exact h.block k hk hs⟩
theorem IsV.kp {w w' : World} {S T : Nat → Prop} {v : Value} {x : List Int} (h : IsV w S v x) (hk : Kp S w w') (hT : ∀ k, k < w.heap.size → S k → T k) : IsV w' T v x := h.mono (keep_cell hT hk.block)
theorem RsV.kp {w w' : World} {S T : Nat → Prop} {v : Value} {x : List Ru} (h : RsV w S v x) (hk : Kp S w w') (hT : ∀ k, k < w.heap.size → S k → T k) : RsV w' T v x := h.mono (keep_cell hT hk.block)
theorem RC.kp {w w' : World} {S T : Nat → Prop} {v : List Value} {x : List Ru} (h : RC w S v x) (hk : Kp S w w') (hT : ∀ k, k < w.heap.size → S k → T k) : RC w' T v x := h.mono (keep_cell hT hk.block)
theorem grown_below {w w' : World} (h : w.grownBy w' none) : Below w.heap.size w w' := ⟨h.os, h.tape, h.output, h.size, fun k hk => h.block k hk (by simp)⟩
/-- One step of a region that draws its order: numbers that lie in memory, behind a slice of one's own. -/
theorem step_ints {P : Program} {ops : Array Oper} {o : Oper} {a : Act} {w : World} {K : Act → World → Prop} {Q : Exit → Act → World → Prop} {E : Prop}
    (hg : o.guard = none) (s x : Operand) (t : TypeId) (hop : o.op = Op.call { callee := Callee.builtin Builtin.append, args := #[s, x], argTypes := #[t, t] })
    (base : Nat) (e : TypeId) (i : TypeInfo) (h1 : P.underlying t = some (.slice e)) (h2 : P.info? e = some i) (h3 : i.zero = some (.int .i64 0)) (h4 : i.size = 1) (h5 : i.bytes = 8)
    (v : Value) (n : Nat) (xs : List Value) (hs : a.eval s = v) (hown : w.ownsRow base e 1 v n xs)
    (S : Nat → Prop) (u : Value) (l : List Int) (hx : a.eval x = u) (hu : IsV w S u l) (b1 : n + l.length ≤ 1000000) (hbase : base ≤ w.heap.size)
    (hK : ∀ v' w', w'.ownsRow base e 1 v' (n + l.length) (xs ++ ints l) → w.grownBy w' v.ownBlock → (v'.ownBlock = v.ownBlock ∨ v'.ownBlock = some w.heap.size) → K (a.put o.dst v') w') :
    if Region.wanted o (yielded ops a.tmps) = true then Oper.wp P o a w K Q else E := by
  obtain ⟨ao, cap, rfl⟩ := hu.slice
  cases ao with
  | some ad => exact step_own hg s x t hop base e i (.int .i64 0) 1 8 h1 h2 h3 h4 h5 rfl (by decide) v n xs hs hown ad l.length cap (ints l) hx (by rw [ints_len]; omega) hu.cells (oneInts l) (by unfold maxLen; omega) (by omega) hbase hK
  | none =>
    obtain ⟨_, ao', cap', e', _, h0, hl⟩ := hu
    simp at e'
    obtain ⟨rfl, rfl⟩ := e'
    have hc := h0 rfl
    subst hc
    have hl0 : l = [] := by
      rcases hl with hl | ⟨b, o, e, _⟩
      · exact List.eq_nil_of_length_eq_zero hl
      · cases e
    subst hl0
    have hw : Region.wanted o (yielded ops a.tmps) = true := by simp [Region.wanted, hg]
    rw [if_pos hw]
    have hrun := run_append_owned_none (P := P) (w := w) base t o.type e i 1 h1 h2 v n xs hown
    have hx' : a.eval x = .slice none 0 0 := hx
    unfold Oper.wp
    simp [execOp, hop, resolve, invoke, builtin, hs, hx', hrun, Result.andThen]
    exact hK v w (by simpa [ints] using hown) ⟨rfl, rfl, rfl, Nat.le_refl _, fun _ _ _ => rfl⟩ (.inl rfl)
theorem oneRule (a : Int) (ao : Option Addr) (n c : Nat) : ∀ u ∈ [Value.int .i64 a, Value.slice ao n c], u.oneCell' = true := by
  intro u hu; simp at hu; rcases hu with rfl | rfl <;> rfl
theorem cell2_new (w : World) (v0 v1 : Value) (t : TypeId) {n : Nat} (hn : n = w.heap.size) : ∀ j u, [v0, v1][j]? = some u → (w.alloc (.cells #[v0, v1] t)).cell? ((⟨n, 0, none⟩ : Addr).add j) = some u := by
  subst hn
  intro j u hj
  match j, hj with
  | 0, hj => simp at hj; subst hj; simp [Addr.add]
  | 1, hj => simp at hj; subst hj; simp [Addr.add]
  | n + 2, hj => simp at hj
end Go.Proofs.Ytghplmldnkcpnac.G
