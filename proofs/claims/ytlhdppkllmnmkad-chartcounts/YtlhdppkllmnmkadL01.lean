/- Numbers, rules and grammars: as plain data, and as they lie in memory. -/
import Derived.Below
import Derived.Maps.AppendAt
import Derived.Laws.AppendOwnNone
import Derived.Deep.Draws
import Derived.Deep.Quiet
import Derived.BigQuiet
import Derived.Deep.RegionLaw
import Derived.Deep.RegionHeld3
import Derived.WalkKit
import Derived.WalkSpells
import Derived.WalkLawsBesides
namespace Go.Proofs.Ytlhdppkllmnmkad.G
open Go.RowKit

theorem hd {p : Prop} (h : p) : Hid p := h
theorem ret_bool {a b : Bool} (h : a = b) : Ending.returned (.bool a) = .returned (.bool b) := by rw [h]
theorem ret_int {a b : Int} (h : a = b) : Ending.returned (.int .i64 a) = .returned (.int .i64 b) := by rw [h]
def All : Nat → Prop := fun _ => True
theorem lt_of_cell {w : World} {b o : Nat} {v : Value} (h : w.cell? ⟨b, o, none⟩ = some v) : b < w.heap.size := by
  rcases Nat.lt_or_ge b w.heap.size with h' | h'
  · exact h'
  · exfalso
    have h2 : w.heap[b]? = none := by simp; omega
    have h1 := World.cell?_of_block (w := { w with heap := #[] }) (w' := w) (a := ⟨b, o, none⟩) (by rw [h2]; simp)
    rw [h] at h1
    simp [World.cell?] at h1
theorem al1 (w : World) (o : Obj) : Below w.heap.size w (w.alloc o) := (Below.refl _ _).alloc (Nat.le_refl _) _
theorem al2 (w : World) (o p : Obj) : Below w.heap.size w ((w.alloc o).alloc p) := ((Below.refl _ _).alloc (Nat.le_refl _) _).alloc (by simp) _
theorem drw1 (w : World) : Below w.heap.size w w.drew := ⟨rfl, rfl, rfl, Nat.le_refl _, fun _ _ => rfl⟩
theorem drwN (w : World) (n : Nat) : Below w.heap.size w (w.drewN n) := ⟨rfl, rfl, rfl, Nat.le_refl _, fun _ _ => rfl⟩
theorem bkeep {w w' : World} (h : Below w.heap.size w w') {b o : Nat} {v : Value} (hc : w.cell? ⟨b, o, none⟩ = some v) : w'.cell? ⟨b, o, none⟩ = some v := by
  rw [h.cell (p := ⟨b, o, none⟩) (lt_of_cell hc)]; exact hc
theorem alcell {wr : World} {b o : Nat} {v : Value} (h : wr.cell? ⟨b, o, none⟩ = some v) (ob : Obj) : (wr.alloc ob).cell? ⟨b, o, none⟩ = some v := bkeep (al1 wr ob) h
theorem bthen {a b c : World} (h : Below a.heap.size a b) (k : Below b.heap.size b c) : Below a.heap.size a c := h.trans (k.mono h.size)
theorem addr_add (b o i : Nat) : (⟨b, o, none⟩ : Addr).add i = ⟨b, o + i, none⟩ := by
  unfold Addr.add
  by_cases h : i = 0 <;> simp [h]
/-- What holds of a world holds of one in which all blocks of the class are as they were. -/
theorem keep_cell {w w' : World} {S T : Nat → Prop} (hT : ∀ k, k < w.heap.size → S k → T k) (hk : ∀ k, k < w.heap.size → S k → w'.heap[k]? = w.heap[k]?) :
    ∀ b o v, S b → w.cell? ⟨b, o, none⟩ = some v → T b ∧ w'.cell? ⟨b, o, none⟩ = some v := fun b o v hs h =>
  ⟨hT b (lt_of_cell h) hs, by rw [World.cell?_of_block (w := w) (a := ⟨b, o, none⟩) (hk b (lt_of_cell h) hs)]; exact h⟩
theorem keep_all {w w' : World} (h : Below w.heap.size w w') {S T : Nat → Prop} (hT : ∀ k, S k → T k) : ∀ b o v, S b → w.cell? ⟨b, o, none⟩ = some v → T b ∧ w'.cell? ⟨b, o, none⟩ = some v :=
  fun b _ _ hs hc => ⟨hT b hs, bkeep h hc⟩

/-! Slices of one's own. -/
theorem owns_below {w w' : World} {base : Nat} {e : TypeId} {size : Nat} {v : Value} {n : Nat} {xs : List Value} (h : w.ownsRow base e size v n xs) (hb : Below w.heap.size w w') : w'.ownsRow base e size v n xs :=
  h.kept (row := none) ⟨hb.os, hb.tape, hb.output, hb.size, fun k hk _ => hb.block k hk⟩ (by cases v.ownBlock <;> simp)
theorem owns_mono {w : World} {base b2 : Nat} {e : TypeId} {size : Nat} {v : Value} {n : Nat} {xs : List Value} (h : w.ownsRow base e size v n xs) (hb : b2 ≤ base) : w.ownsRow b2 e size v n xs := by
  obtain ⟨h1, h2⟩ := h
  refine ⟨h1, ?_⟩
  rcases h2 with h2 | ⟨g, cap, cur, e1, e2, e3⟩
  · exact .inl h2
  · exact .inr ⟨g, cap, cur, e1, Nat.le_trans hb e2, e3⟩
theorem owns_setCell {w : World} {base : Nat} {e : TypeId} {size : Nat} {v u : Value} {n : Nat} {xs : List Value} {a : Addr} (h : w.ownsRow base e size v n xs) (ha : a.block < base) : (w.setCell a u).ownsRow base e size v n xs := by
  obtain ⟨h1, h2⟩ := h
  refine ⟨h1, ?_⟩
  rcases h2 with h2 | ⟨g, cap, cur, e1, e2, e3, e4⟩
  · exact .inl h2
  · exact .inr ⟨g, cap, cur, e1, e2, by rw [Below.heap_setCell _ _ _ _ (by omega)]; exact e3, e4⟩
theorem owns_slice {w : World} {base : Nat} {e : TypeId} {size : Nat} {v : Value} {n : Nat} {xs : List Value} (h : w.ownsRow base e size v n xs) : ∃ ao cap, v = .slice ao n cap := by
  rcases h.2 with ⟨rfl, rfl⟩ | ⟨g, cap, cur, rfl, _⟩
  · exact ⟨_, _, rfl⟩
  · exact ⟨_, _, rfl⟩

/-! Numbers. -/
def ints (l : List Int) : List Value := l.map (.int .i64)
theorem ints_len (l : List Int) : (ints l).length = l.length := by simp [ints]
theorem ints_app (l m : List Int) : ints (l ++ m) = ints l ++ ints m := by simp [ints]
theorem oneInts (l : List Int) : ∀ u ∈ ints l, u.oneCell' = true := by
  intro u hu
  obtain ⟨s, _, rfl⟩ := List.mem_map.1 hu
  rfl
/-- A slice of numbers; the block it lies in is of the class S. -/
def IsV (w : World) (S : Nat → Prop) (v : Value) (l : List Int) : Prop :=
  l.length ≤ 9223372036854775807 ∧ ∃ ao cap, v = .slice ao l.length cap ∧ l.length ≤ cap ∧ (ao = none → cap = 0) ∧ (l.length = 0 ∨ ∃ b o, ao = some ⟨b, o, none⟩ ∧ S b ∧ ∀ i (h : i < l.length), w.cell? ⟨b, o + i, none⟩ = some (.int .i64 l[i]))
theorem IsV.slice {w : World} {S : Nat → Prop} {v : Value} {l : List Int} (h : IsV w S v l) : ∃ ao cap, v = .slice ao l.length cap := let ⟨_, ao, cap, e, _⟩ := h; ⟨ao, cap, e⟩
theorem IsV.mono {w w' : World} {S T : Nat → Prop} (hc : ∀ b o v, S b → w.cell? ⟨b, o, none⟩ = some v → T b ∧ w'.cell? ⟨b, o, none⟩ = some v) {v : Value} {l : List Int} (h : IsV w S v l) : IsV w' T v l := by
  obtain ⟨h1, ao, cap, h2, h3, h4, h5⟩ := h
  refine ⟨h1, ao, cap, h2, h3, h4, ?_⟩
  rcases h5 with h5 | ⟨b, o, e, hs, hx⟩
  · exact .inl h5
  · by_cases h0 : l.length = 0
    · exact .inl h0
    · exact .inr ⟨b, o, e, (hc b _ _ hs (hx 0 (by omega))).1, fun i hi => (hc b _ _ hs (hx i hi)).2⟩
theorem IsV.lw {w w' : World} {S : Nat → Prop} {v : Value} {l : List Int} (h : IsV w S v l) (hb : Below w.heap.size w w') : IsV w' S v l := h.mono (keep_all hb fun _ h => h)
theorem IsV.all {w : World} {S : Nat → Prop} {v : Value} {l : List Int} (h : IsV w S v l) : IsV w All v l := h.mono (keep_all (Below.refl _ _) fun _ _ => trivial)
theorem IsV_nil (w : World) (S : Nat → Prop) : IsV w S (.slice none 0 0) [] := ⟨by simp, none, 0, rfl, Nat.zero_le _, fun _ => rfl, .inl rfl⟩
theorem IsV.at_ {w : World} {S : Nat → Prop} {ao : Option Addr} {n cap : Nat} {l : List Int} (h : IsV w S (.slice ao n cap) l) {k : Nat} (hk : k < l.length) : ∃ b o, ao = some ⟨b, o, none⟩ ∧ w.cell? ⟨b, o + k, none⟩ = some (.int .i64 l[k]) := by
  obtain ⟨_, ao', cap', e, _, _, h5⟩ := h
  simp at e
  obtain ⟨rfl, rfl, rfl⟩ := e
  rcases h5 with h5 | ⟨b, o, rfl, _, hx⟩
  · omega
  · exact ⟨b, o, rfl, hx k hk⟩
theorem IsV_owned {w : World} {S : Nat → Prop} {base : Nat} {e : TypeId} {v : Value} {l : List Int} (h : w.ownsRow base e 1 v l.length (ints l)) (hl : l.length ≤ 9223372036854775807) (hS : ∀ k, v.ownBlock = some k → S k) : IsV w S v l := by
  have h0 := h
  obtain ⟨h1, h2 | ⟨g, cap, cur, e1, e2, e3, e4, e5⟩⟩ := h
  · have : l = [] := List.eq_nil_of_length_eq_zero h2.2
    subst this
    rw [h2.1]; exact IsV_nil _ _
  · refine ⟨hl, _, cap, e1, e4, (fun h => by cases h), .inr ⟨g, 0, rfl, hS g (by rw [e1]; rfl), fun i hi => ?_⟩⟩
    subst e1
    have := World.ownsRow.cellAt h0 i (by simpa using hi)
    rw [show 0 + i = i by omega, this]
    simp [ints, hi]
/-- The cells of a slice of numbers, for an append. -/
theorem IsV.cells {w : World} {S : Nat → Prop} {a : Addr} {n cap : Nat} {l : List Int} (h : IsV w S (.slice (some a) n cap) l) : ∀ j u, (ints l)[j]? = some u → w.cell? (a.add j) = some u := by
  intro j u hj
  have hj' : j < l.length := by
    rcases Nat.lt_or_ge j l.length with h | h
    · exact h
    · rw [List.getElem?_eq_none (by rw [ints_len]; exact h)] at hj; cases hj
  obtain ⟨b, o, e, hc⟩ := h.at_ hj'
  simp at e
  subst e
  rw [addr_add, hc, ← hj]
  simp [ints, hj']

/-! Rules. -/
structure Ru where
  left : Int
  right : List Int
  deriving DecidableEq
instance : Inhabited Ru := ⟨⟨0, []⟩⟩
/-- A slice of rules; all blocks that it goes through are of the class S. -/
def RsV (w : World) (S : Nat → Prop) (v : Value) (l : List Ru) : Prop :=
  l.length ≤ 9223372036854775807 ∧ ∃ ao cap, v = .slice ao l.length cap ∧ l.length ≤ cap ∧ (ao = none → cap = 0) ∧
    (l.length = 0 ∨ ∃ b o, ao = some ⟨b, o, none⟩ ∧ S b ∧ ∀ i (h : i < l.length), w.cell? ⟨b, o + i * 2, none⟩ = some (.int .i64 l[i].left) ∧ ∃ u, w.cell? ⟨b, o + i * 2 + 1, none⟩ = some u ∧ IsV w S u l[i].right)
theorem RsV.slice {w : World} {S : Nat → Prop} {v : Value} {l : List Ru} (h : RsV w S v l) : ∃ ao cap, v = .slice ao l.length cap := let ⟨_, ao, cap, e, _⟩ := h; ⟨ao, cap, e⟩
theorem RsV.mono {w w' : World} {S T : Nat → Prop} (hc : ∀ b o v, S b → w.cell? ⟨b, o, none⟩ = some v → T b ∧ w'.cell? ⟨b, o, none⟩ = some v) {v : Value} {l : List Ru} (h : RsV w S v l) : RsV w' T v l := by
  obtain ⟨h1, ao, cap, h2, h3, h4, h5⟩ := h
  refine ⟨h1, ao, cap, h2, h3, h4, ?_⟩
  rcases h5 with h5 | ⟨b, o, e, hs, hx⟩
  · exact .inl h5
  · by_cases h0 : l.length = 0
    · exact .inl h0
    · refine .inr ⟨b, o, e, (hc b _ _ hs (hx 0 (by omega)).1).1, fun i hi => ?_⟩
      obtain ⟨g1, u, g2, g3⟩ := hx i hi
      exact ⟨(hc b _ _ hs g1).2, u, (hc b _ _ hs g2).2, g3.mono hc⟩
theorem RsV.lw {w w' : World} {S : Nat → Prop} {v : Value} {l : List Ru} (h : RsV w S v l) (hb : Below w.heap.size w w') : RsV w' S v l := h.mono (keep_all hb fun _ h => h)
theorem RsV.all {w : World} {S : Nat → Prop} {v : Value} {l : List Ru} (h : RsV w S v l) : RsV w All v l := h.mono (keep_all (Below.refl _ _) fun _ _ => trivial)
theorem RsV_nil (w : World) (S : Nat → Prop) : RsV w S (.slice none 0 0) [] := ⟨by simp, none, 0, rfl, Nat.zero_le _, fun _ => rfl, .inl rfl⟩
theorem RsV.at_ {w : World} {S : Nat → Prop} {ao : Option Addr} {n cap : Nat} {l : List Ru} (h : RsV w S (.slice ao n cap) l) {k : Nat} (hk : k < l.length) :
    ∃ b o, ao = some ⟨b, o, none⟩ ∧ w.cell? ⟨b, o + k * 2, none⟩ = some (.int .i64 l[k].left) ∧ ∃ ar cr, w.cell? ⟨b, o + k * 2 + 1, none⟩ = some (.slice ar l[k].right.length cr) ∧ IsV w S (.slice ar l[k].right.length cr) l[k].right := by
  obtain ⟨_, ao', cap', e, _, _, h5⟩ := h
  simp at e
  obtain ⟨rfl, rfl, rfl⟩ := e
  rcases h5 with h5 | ⟨b, o, rfl, _, hx⟩
  · omega
  · obtain ⟨g1, u, g2, g3⟩ := hx k hk
    obtain ⟨ar, cr, rfl⟩ := g3.slice
    exact ⟨b, o, rfl, g1, ar, cr, g2, g3⟩
/-- The cells of rules. -/
def RC (w : World) (S : Nat → Prop) : List Value → List Ru → Prop
  | [], [] => True
  | a :: c :: xs, r :: l => a = .int .i64 r.left ∧ IsV w S c r.right ∧ RC w S xs l
  | _, _ => False
theorem RC.mono {w w' : World} {S T : Nat → Prop} (hc : ∀ b o v, S b → w.cell? ⟨b, o, none⟩ = some v → T b ∧ w'.cell? ⟨b, o, none⟩ = some v) :
    ∀ {xs : List Value} {l : List Ru}, RC w S xs l → RC w' T xs l
  | [], [], _ => trivial
  | _ :: _ :: _, _ :: _, ⟨h1, h2, h3⟩ => ⟨h1, h2.mono hc, RC.mono hc h3⟩
  | [], _ :: _, h => by simp [RC] at h
  | [_], _, h => by simp [RC] at h
  | _ :: _ :: _, [], h => by simp [RC] at h
theorem RC.snoc {w : World} {S : Nat → Prop} {r : Ru} {u : Value} (hu : IsV w S u r.right) :
    ∀ {xs : List Value} {l : List Ru}, RC w S xs l → RC w S (xs ++ [.int .i64 r.left, u]) (l ++ [r])
  | [], [], _ => ⟨rfl, hu, trivial⟩
  | _ :: _ :: _, _ :: _, ⟨h1, h2, h3⟩ => ⟨h1, h2, RC.snoc hu h3⟩
  | [], _ :: _, h => by simp [RC] at h
  | [_], _, h => by simp [RC] at h
  | _ :: _ :: _, [], h => by simp [RC] at h
theorem RC.at_ {w : World} {S : Nat → Prop} : ∀ {xs : List Value} {l : List Ru}, RC w S xs l → ∀ i (h : i < l.length), xs[i * 2]? = some (.int .i64 l[i].left) ∧ ∃ u, xs[i * 2 + 1]? = some u ∧ IsV w S u l[i].right
  | _ :: c :: _, _ :: _, ⟨h1, h2, _⟩, 0, _ => ⟨by simp [h1], c, rfl, h2⟩
  | _ :: _ :: _, _ :: _, ⟨_, _, h3⟩, i + 1, hi => by
    obtain ⟨g1, u, g2, g3⟩ := RC.at_ h3 i (by simpa using hi)
    exact ⟨by rw [show (i + 1) * 2 = i * 2 + 2 by omega]; simpa using g1, u, by rw [show (i + 1) * 2 + 1 = i * 2 + 1 + 2 by omega]; simpa using g2, by simpa using g3⟩
  | [], [], _, i, hi => by simp at hi
  | [], _ :: _, h, _, _ => by simp [RC] at h
  | [_], _, h, _, _ => by simp [RC] at h
  | _ :: _ :: _, [], h, _, _ => by simp [RC] at h
theorem RsV_owned {w : World} {S T : Nat → Prop} {base : Nat} {e : TypeId} {v : Value} {xs : List Value} {l : List Ru} (h : w.ownsRow base e 2 v l.length xs) (hc : RC w S xs l) (hST : ∀ k, S k → T k) (hT : ∀ k, v.ownBlock = some k → T k) (hl : l.length ≤ 9223372036854775807) : RsV w T v l := by
  have h0 := h
  obtain ⟨h1, h2 | ⟨g, cap, cur, e1, e2, e3, e4, e5⟩⟩ := h
  · have : l = [] := List.eq_nil_of_length_eq_zero h2.2
    subst this
    rw [h2.1]; exact RsV_nil _ _
  · refine ⟨hl, _, cap, e1, e4, (fun h => by cases h), .inr ⟨g, 0, rfl, hT g (by rw [e1]; rfl), fun i hi => ?_⟩⟩
    subst e1
    obtain ⟨g1, u, g2, g3⟩ := hc.at_ i hi
    have c0 := World.ownsRow.cellAt h0 (i * 2) (by omega)
    have c1 := World.ownsRow.cellAt h0 (i * 2 + 1) (by omega)
    refine ⟨by rw [show 0 + i * 2 = i * 2 by omega, c0, g1], u, by rw [show 0 + i * 2 + 1 = i * 2 + 1 by omega, c1, g2], g3.mono (keep_all (Below.refl _ _) hST)⟩

/-! Grammars. -/
structure Gm where
  vars : Int
  terms : Int
  start : Int
  rules : List Ru
  deriving DecidableEq
def GV (w : World) (S : Nat → Prop) (v : Value) (g : Gm) : Prop := ∃ u, v = .agg #[.int .i64 g.vars, .int .i64 g.terms, .int .i64 g.start, u] ∧ RsV w S u g.rules
theorem GV.mono {w w' : World} {S T : Nat → Prop} (hc : ∀ b o v, S b → w.cell? ⟨b, o, none⟩ = some v → T b ∧ w'.cell? ⟨b, o, none⟩ = some v) {v : Value} {g : Gm} (h : GV w S v g) : GV w' T v g := let ⟨u, e, h⟩ := h; ⟨u, e, h.mono hc⟩
theorem GV.lw {w w' : World} {S : Nat → Prop} {v : Value} {g : Gm} (h : GV w S v g) (hb : Below w.heap.size w w') : GV w' S v g := h.mono (keep_all hb fun _ h => h)
theorem GV.all {w : World} {S : Nat → Prop} {v : Value} {g : Gm} (h : GV w S v g) : GV w All v g := h.mono (keep_all (Below.refl _ _) fun _ _ => trivial)

/-! Regions that draw their order. -/
/-- A region whose operations read and whose calls make memory of their own alone. -/
theorem region_quiet_lit {P : Program} {id : Nat} {Q : Exit → Act → World → Prop} {a : Act} {w : World} {l : List Oper} {C : World → Prop} (hm : P.follows .mixedOrders = true) (hB : Region.lexB .any l.toArray = true) (hC : C { w with drawn := w.drawn + 1 })
    (h : wpQuiet P l.toArray C (fun a' => ∀ w', C w' → Q .normal a' w') l a) : (Code.region id l.toArray true).wp P Q a w :=
  wp_region_quiet hm hB hC (by simpa using h)
/-- A world in which all is as it was, and some is new. -/
structure Wd (w : World) where
  u : World
  h : Below w.heap.size w u
theorem Wd.drawn (w : World) : ∃ z : Wd w, { w with drawn := w.drawn + 1 } = z.u := ⟨⟨{ w with drawn := w.drawn + 1 }, ⟨rfl, rfl, rfl, Nat.le_refl _, fun _ _ => rfl⟩⟩, rfl⟩
theorem Wd.ne (w : World) : Nonempty (Wd w) := ⟨⟨w, Below.refl _ _⟩⟩
theorem Wd.cell {w : World} (x : Wd w) {b o : Nat} {v : Value} (h : w.cell? ⟨b, o, none⟩ = some v) : x.u.cell? ⟨b, o, none⟩ = some v := bkeep x.h h
theorem calls_wd {P : Program} {f : FuncId} {args : Array Value} {w : World} {x : Wd w} {v : Value} (h : Calls P f args x.u fun e w' => e = .returned v ∧ Below x.u.heap.size x.u w') :
    Calls P f args x.u fun e w'' => e = .returned v ∧ ∃ y : Wd w, w'' = y.u :=
  h.mono fun _ _ ⟨he, hb⟩ => ⟨he, ⟨_, bthen x.h hb⟩, rfl⟩
/-- A box of two numbers that may be written. -/
structure RB (w : World) (p : Nat) : Prop where
  c0 : w.cell? ⟨p, 0, none⟩ = some (.int .i64 0)
  c1 : w.cell? ⟨p, 1, none⟩ = some (.int .i64 0)
  fz : ∀ i, w.frozen? ⟨p, i, none⟩ = false
theorem RB.below {w w' : World} {p : Nat} (h : RB w p) (hb : Below w.heap.size w w') : RB w' p :=
  ⟨bkeep hb h.c0, bkeep hb h.c1, fun i => (World.frozen?_of_block (a := ⟨p, i, none⟩) (hb.block p (lt_of_cell h.c0))).trans (h.fz i)⟩
theorem np_panic {Q : Exit → Act → World → Prop} {c : List PanicEntry} {a a' : Act} {w : World} (h : NoPanic Q (.panic c) a w) : NoPanic Q (.panic c) a' w := (h : False).elim
/-- One step: an append. -/
theorem step_own {P : Program} {ops : Array Oper} {o : Oper} {a : Act} {w : World} {K : Act → World → Prop} {Q : Exit → Act → World → Prop} {E : Prop}
    (hg : o.guard = none) (s x : Operand) (t : TypeId) (hop : o.op = Op.call { callee := Callee.builtin Builtin.append, args := #[s, x], argTypes := #[t, t] })
    (base : Nat) (e : TypeId) (i : TypeInfo) (z : Value) (size bytes : Nat) (h1 : P.underlying t = some (.slice e)) (h2 : P.info? e = some i) (h3 : i.zero = some z) (h4 : i.size = size) (h5 : i.bytes = bytes) (h6 : z.cells.size = size) (h7 : 0 < size)
    (v : Value) (n : Nat) (xs : List Value) (hs : a.eval s = v) (hown : w.ownsRow base e size v n xs)
    (ad : Addr) (m c : Nat) (news : List Value) (hx : a.eval x = .slice (some ad) m c) (hn : news.length = m * size) (hc : ∀ j u, news[j]? = some u → w.cell? (ad.add j) = some u) (h1c : ∀ u ∈ news, u.oneCell' = true)
    (b1 : n + m ≤ maxLen) (b2 : (n + m) * bytes ≤ 140737488355328) (hbase : base ≤ w.heap.size)
    (hK : ∀ v' w', w'.ownsRow base e size v' (n + m) (xs ++ news) → w.grownBy w' v.ownBlock → (v'.ownBlock = v.ownBlock ∨ v'.ownBlock = some w.heap.size) → K (a.put o.dst v') w') :
    if Region.wanted o (yielded ops a.tmps) = true then Oper.wp P o a w K Q else E := by
  have hw : Region.wanted o (yielded ops a.tmps) = true := by simp [Region.wanted, hg]
  rw [if_pos hw]
  obtain ⟨v', w', hrun, r1, r2, _, r4⟩ := run_append_own_at (P := P) w base t o.type e i z size bytes h1 h2 h3 h4 h5 h6 h7 v n xs hown ad m c news hn hc h1c b1 b2 hbase
  unfold Oper.wp
  simp [execOp, hop, resolve, invoke, builtin, hs, hx, hrun, Result.andThen]
  exact hK v' w' r1 r2 r4
end Go.Proofs.Ytlhdppkllmnmkad.G
