/- Texts laid together: Gb Gd Gk Gx Ta Ge. -/
import Derived.Below
import Derived.Maps.AppendAt
import Derived.Laws.AppendOwnNone
import Derived.Deep.Draws
import Derived.Deep.Quiet
import Derived.BigQuiet
import Derived.Deep.RegionLaw
import Derived.Deep.RegionHeld3
import Derived.WalkKit
import Derived.WalkSpells
import Derived.WalkLawsBesides
import Derived.Test.YtlhdppkllmnmkaeProg
import Derived.ChangeArms
import Derived.DataReads
import Derived.WideShapes
import Derived.OpenShut
/- Numbers, rules and grammars: as plain data, and as they lie in memory. -/
namespace Go.Proofs.Ytlhdppkllmnmkae.G
open Go.RowKit

theorem hd {p : Prop} (h : p) : Hid p := h
theorem ret_bool {a b : Bool} (h : a = b) : Ending.returned (.bool a) = .returned (.bool b) := by rw [h]
theorem ret_int {a b : Int} (h : a = b) : Ending.returned (.int .i64 a) = .returned (.int .i64 b) := by rw [h]
def All : Nat → Prop := fun _ => True
theorem lt_of_cell {w : World} {b o : Nat} {v : Value} (h : w.cell? ⟨b, o, none⟩ = some v) : b < w.heap.size := by
  rcases Nat.lt_or_ge b w.heap.size with h' | h'
  · exact h'
  · exfalso
    have h2 : w.heap[b]? = none := by simp; omega
    have h1 := World.cell?_of_block (w := { w with heap := #[] }) (w' := w) (a := ⟨b, o, none⟩) (by rw [h2]; simp)
    rw [h] at h1
    simp [World.cell?] at h1
theorem al1 (w : World) (o : Obj) : Below w.heap.size w (w.alloc o) := (Below.refl _ _).alloc (Nat.le_refl _) _
theorem al2 (w : World) (o p : Obj) : Below w.heap.size w ((w.alloc o).alloc p) := ((Below.refl _ _).alloc (Nat.le_refl _) _).alloc (by simp) _
theorem drw1 (w : World) : Below w.heap.size w w.drew := ⟨rfl, rfl, rfl, Nat.le_refl _, fun _ _ => rfl⟩
theorem drwN (w : World) (n : Nat) : Below w.heap.size w (w.drewN n) := ⟨rfl, rfl, rfl, Nat.le_refl _, fun _ _ => rfl⟩
theorem bkeep {w w' : World} (h : Below w.heap.size w w') {b o : Nat} {v : Value} (hc : w.cell? ⟨b, o, none⟩ = some v) : w'.cell? ⟨b, o, none⟩ = some v := by
  rw [h.cell (p := ⟨b, o, none⟩) (lt_of_cell hc)]; exact hc
theorem alcell {wr : World} {b o : Nat} {v : Value} (h : wr.cell? ⟨b, o, none⟩ = some v) (ob : Obj) : (wr.alloc ob).cell? ⟨b, o, none⟩ = some v := bkeep (al1 wr ob) h
theorem bthen {a b c : World} (h : Below a.heap.size a b) (k : Below b.heap.size b c) : Below a.heap.size a c := h.trans (k.mono h.size)
theorem addr_add (b o i : Nat) : (⟨b, o, none⟩ : Addr).add i = ⟨b, o + i, none⟩ := by
  unfold Addr.add
  by_cases h : i = 0 <;> simp [h]
/-- What holds of a world holds of one in which all blocks of the class are as they were. -/
theorem keep_cell {w w' : World} {S T : Nat → Prop} (hT : ∀ k, k < w.heap.size → S k → T k) (hk : ∀ k, k < w.heap.size → S k → w'.heap[k]? = w.heap[k]?) :
    ∀ b o v, S b → w.cell? ⟨b, o, none⟩ = some v → T b ∧ w'.cell? ⟨b, o, none⟩ = some v := fun b o v hs h =>
  ⟨hT b (lt_of_cell h) hs, by rw [World.cell?_of_block (w := w) (a := ⟨b, o, none⟩) (hk b (lt_of_cell h) hs)]; exact h⟩
theorem keep_all {w w' : World} (h : Below w.heap.size w w') {S T : Nat → Prop} (hT : ∀ k, S k → T k) : ∀ b o v, S b → w.cell? ⟨b, o, none⟩ = some v → T b ∧ w'.cell? ⟨b, o, none⟩ = some v :=
  fun b _ _ hs hc => ⟨hT b hs, bkeep h hc⟩

/-! Slices of one's own. -/
theorem owns_below {w w' : World} {base : Nat} {e : TypeId} {size : Nat} {v : Value} {n : Nat} {xs : List Value} (h : w.ownsRow base e size v n xs) (hb : Below w.heap.size w w') : w'.ownsRow base e size v n xs :=
  h.kept (row := none) ⟨hb.os, hb.tape, hb.output, hb.size, fun k hk _ => hb.block k hk⟩ (by cases v.ownBlock <;> simp)
theorem owns_mono {w : World} {base b2 : Nat} {e : TypeId} {size : Nat} {v : Value} {n : Nat} {xs : List Value} (h : w.ownsRow base e size v n xs) (hb : b2 ≤ base) : w.ownsRow b2 e size v n xs := by
  obtain ⟨h1, h2⟩ := h
  refine ⟨h1, ?_⟩
  rcases h2 with h2 | ⟨g, cap, cur, e1, e2, e3⟩
  · exact .inl h2
  · exact .inr ⟨g, cap, cur, e1, Nat.le_trans hb e2, e3⟩
theorem owns_setCell {w : World} {base : Nat} {e : TypeId} {size : Nat} {v u : Value} {n : Nat} {xs : List Value} {a : Addr} (h : w.ownsRow base e size v n xs) (ha : a.block < base) : (w.setCell a u).ownsRow base e size v n xs := by
  obtain ⟨h1, h2⟩ := h
  refine ⟨h1, ?_⟩
  rcases h2 with h2 | ⟨g, cap, cur, e1, e2, e3, e4⟩
  · exact .inl h2
  · exact .inr ⟨g, cap, cur, e1, e2, by rw [Below.heap_setCell _ _ _ _ (by omega)]; exact e3, e4⟩
theorem owns_slice {w : World} {base : Nat} {e : TypeId} {size : Nat} {v : Value} {n : Nat} {xs : List Value} (h : w.ownsRow base e size v n xs) : ∃ ao cap, v = .slice ao n cap := by
  rcases h.2 with ⟨rfl, rfl⟩ | ⟨g, cap, cur, rfl, _⟩
  · exact ⟨_, _, rfl⟩
  · exact ⟨_, _, rfl⟩

/-! Numbers. -/
def ints (l : List Int) : List Value := l.map (.int .i64)
theorem ints_len (l : List Int) : (ints l).length = l.length := by simp [ints]
theorem ints_app (l m : List Int) : ints (l ++ m) = ints l ++ ints m := by simp [ints]
theorem oneInts (l : List Int) : ∀ u ∈ ints l, u.oneCell' = true := by
  intro u hu
  obtain ⟨s, _, rfl⟩ := List.mem_map.1 hu
  rfl
/-- A slice of numbers; the block it lies in is of the class S. -/
def IsV (w : World) (S : Nat → Prop) (v : Value) (l : List Int) : Prop :=
  l.length ≤ 9223372036854775807 ∧ ∃ ao cap, v = .slice ao l.length cap ∧ l.length ≤ cap ∧ (ao = none → cap = 0) ∧ (l.length = 0 ∨ ∃ b o, ao = some ⟨b, o, none⟩ ∧ S b ∧ ∀ i (h : i < l.length), w.cell? ⟨b, o + i, none⟩ = some (.int .i64 l[i]))
theorem IsV.slice {w : World} {S : Nat → Prop} {v : Value} {l : List Int} (h : IsV w S v l) : ∃ ao cap, v = .slice ao l.length cap := let ⟨_, ao, cap, e, _⟩ := h; ⟨ao, cap, e⟩
theorem IsV.mono {w w' : World} {S T : Nat → Prop} (hc : ∀ b o v, S b → w.cell? ⟨b, o, none⟩ = some v → T b ∧ w'.cell? ⟨b, o, none⟩ = some v) {v : Value} {l : List Int} (h : IsV w S v l) : IsV w' T v l := by
  obtain ⟨h1, ao, cap, h2, h3, h4, h5⟩ := h
  refine ⟨h1, ao, cap, h2, h3, h4, ?_⟩
  rcases h5 with h5 | ⟨b, o, e, hs, hx⟩
  · exact .inl h5
  · by_cases h0 : l.length = 0
    · exact .inl h0
    · exact .inr ⟨b, o, e, (hc b _ _ hs (hx 0 (by omega))).1, fun i hi => (hc b _ _ hs (hx i hi)).2⟩
theorem IsV.lw {w w' : World} {S : Nat → Prop} {v : Value} {l : List Int} (h : IsV w S v l) (hb : Below w.heap.size w w') : IsV w' S v l := h.mono (keep_all hb fun _ h => h)
theorem IsV.all {w : World} {S : Nat → Prop} {v : Value} {l : List Int} (h : IsV w S v l) : IsV w All v l := h.mono (keep_all (Below.refl _ _) fun _ _ => trivial)
theorem IsV_nil (w : World) (S : Nat → Prop) : IsV w S (.slice none 0 0) [] := ⟨by simp, none, 0, rfl, Nat.zero_le _, fun _ => rfl, .inl rfl⟩
theorem IsV.at_ {w : World} {S : Nat → Prop} {ao : Option Addr} {n cap : Nat} {l : List Int} (h : IsV w S (.slice ao n cap) l) {k : Nat} (hk : k < l.length) : ∃ b o, ao = some ⟨b, o, none⟩ ∧ w.cell? ⟨b, o + k, none⟩ = some (.int .i64 l[k]) := by
  obtain ⟨_, ao', cap', e, _, _, h5⟩ := h
  simp at e
  obtain ⟨rfl, rfl, rfl⟩ := e
  rcases h5 with h5 | ⟨b, o, rfl, _, hx⟩
  · omega
  · exact ⟨b, o, rfl, hx k hk⟩
theorem IsV_owned {w : World} {S : Nat → Prop} {base : Nat} {e : TypeId} {v : Value} {l : List Int} (h : w.ownsRow base e 1 v l.length (ints l)) (hl : l.length ≤ 9223372036854775807) (hS : ∀ k, v.ownBlock = some k → S k) : IsV w S v l := by
  have h0 := h
  obtain ⟨h1, h2 | ⟨g, cap, cur, e1, e2, e3, e4, e5⟩⟩ := h
  · have : l = [] := List.eq_nil_of_length_eq_zero h2.2
    subst this
    rw [h2.1]; exact IsV_nil _ _
  · refine ⟨hl, _, cap, e1, e4, (fun h => by cases h), .inr ⟨g, 0, rfl, hS g (by rw [e1]; rfl), fun i hi => ?_⟩⟩
    subst e1
    have := World.ownsRow.cellAt h0 i (by simpa using hi)
    rw [show 0 + i = i by omega, this]
    simp [ints, hi]
/-- The cells of a slice of numbers, for an append. -/
theorem IsV.cells {w : World} {S : Nat → Prop} {a : Addr} {n cap : Nat} {l : List Int} (h : IsV w S (.slice (some a) n cap) l) : ∀ j u, (ints l)[j]? = some u → w.cell? (a.add j) = some u := by
  intro j u hj
  have hj' : j < l.length := by
    rcases Nat.lt_or_ge j l.length with h | h
    · exact h
    · rw [List.getElem?_eq_none (by rw [ints_len]; exact h)] at hj; cases hj
  obtain ⟨b, o, e, hc⟩ := h.at_ hj'
  simp at e
  subst e
  rw [addr_add, hc, ← hj]
  simp [ints, hj']

/-! Rules. -/
structure Ru where
  left : Int
  right : List Int
  deriving DecidableEq
instance : Inhabited Ru := ⟨⟨0, []⟩⟩
/-- A slice of rules; all blocks that it goes through are of the class S. -/
def RsV (w : World) (S : Nat → Prop) (v : Value) (l : List Ru) : Prop :=
  l.length ≤ 9223372036854775807 ∧ ∃ ao cap, v = .slice ao l.length cap ∧ l.length ≤ cap ∧ (ao = none → cap = 0) ∧
    (l.length = 0 ∨ ∃ b o, ao = some ⟨b, o, none⟩ ∧ S b ∧ ∀ i (h : i < l.length), w.cell? ⟨b, o + i * 2, none⟩ = some (.int .i64 l[i].left) ∧ ∃ u, w.cell? ⟨b, o + i * 2 + 1, none⟩ = some u ∧ IsV w S u l[i].right)
theorem RsV.slice {w : World} {S : Nat → Prop} {v : Value} {l : List Ru} (h : RsV w S v l) : ∃ ao cap, v = .slice ao l.length cap := let ⟨_, ao, cap, e, _⟩ := h; ⟨ao, cap, e⟩
theorem RsV.mono {w w' : World} {S T : Nat → Prop} (hc : ∀ b o v, S b → w.cell? ⟨b, o, none⟩ = some v → T b ∧ w'.cell? ⟨b, o, none⟩ = some v) {v : Value} {l : List Ru} (h : RsV w S v l) : RsV w' T v l := by
  obtain ⟨h1, ao, cap, h2, h3, h4, h5⟩ := h
  refine ⟨h1, ao, cap, h2, h3, h4, ?_⟩
  rcases h5 with h5 | ⟨b, o, e, hs, hx⟩
  · exact .inl h5
  · by_cases h0 : l.length = 0
    · exact .inl h0
    · refine .inr ⟨b, o, e, (hc b _ _ hs (hx 0 (by omega)).1).1, fun i hi => ?_⟩
      obtain ⟨g1, u, g2, g3⟩ := hx i hi
      exact ⟨(hc b _ _ hs g1).2, u, (hc b _ _ hs g2).2, g3.mono hc⟩
theorem RsV.lw {w w' : World} {S : Nat → Prop} {v : Value} {l : List Ru} (h : RsV w S v l) (hb : Below w.heap.size w w') : RsV w' S v l := h.mono (keep_all hb fun _ h => h)
theorem RsV.all {w : World} {S : Nat → Prop} {v : Value} {l : List Ru} (h : RsV w S v l) : RsV w All v l := h.mono (keep_all (Below.refl _ _) fun _ _ => trivial)
theorem RsV_nil (w : World) (S : Nat → Prop) : RsV w S (.slice none 0 0) [] := ⟨by simp, none, 0, rfl, Nat.zero_le _, fun _ => rfl, .inl rfl⟩
theorem RsV.at_ {w : World} {S : Nat → Prop} {ao : Option Addr} {n cap : Nat} {l : List Ru} (h : RsV w S (.slice ao n cap) l) {k : Nat} (hk : k < l.length) :
    ∃ b o, ao = some ⟨b, o, none⟩ ∧ w.cell? ⟨b, o + k * 2, none⟩ = some (.int .i64 l[k].left) ∧ ∃ ar cr, w.cell? ⟨b, o + k * 2 + 1, none⟩ = some (.slice ar l[k].right.length cr) ∧ IsV w S (.slice ar l[k].right.length cr) l[k].right := by
  obtain ⟨_, ao', cap', e, _, _, h5⟩ := h
  simp at e
  obtain ⟨rfl, rfl, rfl⟩ := e
  rcases h5 with h5 | ⟨b, o, rfl, _, hx⟩
  · omega
  · obtain ⟨g1, u, g2, g3⟩ := hx k hk
    obtain ⟨ar, cr, rfl⟩ := g3.slice
    exact ⟨b, o, rfl, g1, ar, cr, g2, g3⟩
/-- The cells of rules. -/
def RC (w : World) (S : Nat → Prop) : List Value → List Ru → Prop
  | [], [] => True
  | a :: c :: xs, r :: l => a = .int .i64 r.left ∧ IsV w S c r.right ∧ RC w S xs l
  | _, _ => False
theorem RC.mono {w w' : World} {S T : Nat → Prop} (hc : ∀ b o v, S b → w.cell? ⟨b, o, none⟩ = some v → T b ∧ w'.cell? ⟨b, o, none⟩ = some v) :
    ∀ {xs : List Value} {l : List Ru}, RC w S xs l → RC w' T xs l
  | [], [], _ => trivial
  | _ :: _ :: _, _ :: _, ⟨h1, h2, h3⟩ => ⟨h1, h2.mono hc, RC.mono hc h3⟩
  | [], _ :: _, h => by simp [RC] at h
  | [_], _, h => by simp [RC] at h
  | _ :: _ :: _, [], h => by simp [RC] at h
theorem RC.snoc {w : World} {S : Nat → Prop} {r : Ru} {u : Value} (hu : IsV w S u r.right) :
    ∀ {xs : List Value} {l : List Ru}, RC w S xs l → RC w S (xs ++ [.int .i64 r.left, u]) (l ++ [r])
  | [], [], _ => ⟨rfl, hu, trivial⟩
  | _ :: _ :: _, _ :: _, ⟨h1, h2, h3⟩ => ⟨h1, h2, RC.snoc hu h3⟩
  | [], _ :: _, h => by simp [RC] at h
  | [_], _, h => by simp [RC] at h
  | _ :: _ :: _, [], h => by simp [RC] at h
theorem RC.at_ {w : World} {S : Nat → Prop} : ∀ {xs : List Value} {l : List Ru}, RC w S xs l → ∀ i (h : i < l.length), xs[i * 2]? = some (.int .i64 l[i].left) ∧ ∃ u, xs[i * 2 + 1]? = some u ∧ IsV w S u l[i].right
  | _ :: c :: _, _ :: _, ⟨h1, h2, _⟩, 0, _ => ⟨by simp [h1], c, rfl, h2⟩
  | _ :: _ :: _, _ :: _, ⟨_, _, h3⟩, i + 1, hi => by
    obtain ⟨g1, u, g2, g3⟩ := RC.at_ h3 i (by simpa using hi)
    exact ⟨by rw [show (i + 1) * 2 = i * 2 + 2 by omega]; simpa using g1, u, by rw [show (i + 1) * 2 + 1 = i * 2 + 1 + 2 by omega]; simpa using g2, by simpa using g3⟩
  | [], [], _, i, hi => by simp at hi
  | [], _ :: _, h, _, _ => by simp [RC] at h
  | [_], _, h, _, _ => by simp [RC] at h
  | _ :: _ :: _, [], h, _, _ => by simp [RC] at h
theorem RsV_owned {w : World} {S T : Nat → Prop} {base : Nat} {e : TypeId} {v : Value} {xs : List Value} {l : List Ru} (h : w.ownsRow base e 2 v l.length xs) (hc : RC w S xs l) (hST : ∀ k, S k → T k) (hT : ∀ k, v.ownBlock = some k → T k) (hl : l.length ≤ 9223372036854775807) : RsV w T v l := by
  have h0 := h
  obtain ⟨h1, h2 | ⟨g, cap, cur, e1, e2, e3, e4, e5⟩⟩ := h
  · have : l = [] := List.eq_nil_of_length_eq_zero h2.2
    subst this
    rw [h2.1]; exact RsV_nil _ _
  · refine ⟨hl, _, cap, e1, e4, (fun h => by cases h), .inr ⟨g, 0, rfl, hT g (by rw [e1]; rfl), fun i hi => ?_⟩⟩
    subst e1
    obtain ⟨g1, u, g2, g3⟩ := hc.at_ i hi
    have c0 := World.ownsRow.cellAt h0 (i * 2) (by omega)
    have c1 := World.ownsRow.cellAt h0 (i * 2 + 1) (by omega)
    refine ⟨by rw [show 0 + i * 2 = i * 2 by omega, c0, g1], u, by rw [show 0 + i * 2 + 1 = i * 2 + 1 by omega, c1, g2], g3.mono (keep_all (Below.refl _ _) hST)⟩

/-! Grammars. -/
structure Gm where
  vars : Int
  terms : Int
  start : Int
  rules : List Ru
  deriving DecidableEq
def GV (w : World) (S : Nat → Prop) (v : Value) (g : Gm) : Prop := ∃ u, v = .agg #[.int .i64 g.vars, .int .i64 g.terms, .int .i64 g.start, u] ∧ RsV w S u g.rules
theorem GV.mono {w w' : World} {S T : Nat → Prop} (hc : ∀ b o v, S b → w.cell? ⟨b, o, none⟩ = some v → T b ∧ w'.cell? ⟨b, o, none⟩ = some v) {v : Value} {g : Gm} (h : GV w S v g) : GV w' T v g := let ⟨u, e, h⟩ := h; ⟨u, e, h.mono hc⟩
theorem GV.lw {w w' : World} {S : Nat → Prop} {v : Value} {g : Gm} (h : GV w S v g) (hb : Below w.heap.size w w') : GV w' S v g := h.mono (keep_all hb fun _ h => h)
theorem GV.all {w : World} {S : Nat → Prop} {v : Value} {g : Gm} (h : GV w S v g) : GV w All v g := h.mono (keep_all (Below.refl _ _) fun _ _ => trivial)

/-! Regions that draw their order. -/
/-- A region whose operations read and whose calls make memory of their own alone. -/
theorem region_quiet_lit {P : Program} {id : Nat} {Q : Exit → Act → World → Prop} {a : Act} {w : World} {l : List Oper} {C : World → Prop} (hm : P.follows .mixedOrders = true) (hB : Region.lexB .any l.toArray = true) (hC : C { w with drawn := w.drawn + 1 })
    (h : wpQuiet P l.toArray C (fun a' => ∀ w', C w' → Q .normal a' w') l a) : (Code.region id l.toArray true).wp P Q a w :=
  wp_region_quiet hm hB hC (by simpa using h)
/-- A world in which all is as it was, and some is new. -/
structure Wd (w : World) where
  u : World
  h : Below w.heap.size w u
theorem Wd.drawn (w : World) : ∃ z : Wd w, { w with drawn := w.drawn + 1 } = z.u := ⟨⟨{ w with drawn := w.drawn + 1 }, ⟨rfl, rfl, rfl, Nat.le_refl _, fun _ _ => rfl⟩⟩, rfl⟩
theorem Wd.ne (w : World) : Nonempty (Wd w) := ⟨⟨w, Below.refl _ _⟩⟩
theorem Wd.cell {w : World} (x : Wd w) {b o : Nat} {v : Value} (h : w.cell? ⟨b, o, none⟩ = some v) : x.u.cell? ⟨b, o, none⟩ = some v := bkeep x.h h
theorem calls_wd {P : Program} {f : FuncId} {args : Array Value} {w : World} {x : Wd w} {v : Value} (h : Calls P f args x.u fun e w' => e = .returned v ∧ Below x.u.heap.size x.u w') :
    Calls P f args x.u fun e w'' => e = .returned v ∧ ∃ y : Wd w, w'' = y.u :=
  h.mono fun _ _ ⟨he, hb⟩ => ⟨he, ⟨_, bthen x.h hb⟩, rfl⟩
/-- A box of two numbers that may be written. -/
structure RB (w : World) (p : Nat) : Prop where
  c0 : w.cell? ⟨p, 0, none⟩ = some (.int .i64 0)
  c1 : w.cell? ⟨p, 1, none⟩ = some (.int .i64 0)
  fz : ∀ i, w.frozen? ⟨p, i, none⟩ = false
theorem RB.below {w w' : World} {p : Nat} (h : RB w p) (hb : Below w.heap.size w w') : RB w' p :=
  ⟨bkeep hb h.c0, bkeep hb h.c1, fun i => (World.frozen?_of_block (a := ⟨p, i, none⟩) (hb.block p (lt_of_cell h.c0))).trans (h.fz i)⟩
theorem np_panic {Q : Exit → Act → World → Prop} {c : List PanicEntry} {a a' : Act} {w : World} (h : NoPanic Q (.panic c) a w) : NoPanic Q (.panic c) a' w := (h : False).elim
/-- One step: an append. -/
theorem step_own {P : Program} {ops : Array Oper} {o : Oper} {a : Act} {w : World} {K : Act → World → Prop} {Q : Exit → Act → World → Prop} {E : Prop}
    (hg : o.guard = none) (s x : Operand) (t : TypeId) (hop : o.op = Op.call { callee := Callee.builtin Builtin.append, args := #[s, x], argTypes := #[t, t] })
    (base : Nat) (e : TypeId) (i : TypeInfo) (z : Value) (size bytes : Nat) (h1 : P.underlying t = some (.slice e)) (h2 : P.info? e = some i) (h3 : i.zero = some z) (h4 : i.size = size) (h5 : i.bytes = bytes) (h6 : z.cells.size = size) (h7 : 0 < size)
    (v : Value) (n : Nat) (xs : List Value) (hs : a.eval s = v) (hown : w.ownsRow base e size v n xs)
    (ad : Addr) (m c : Nat) (news : List Value) (hx : a.eval x = .slice (some ad) m c) (hn : news.length = m * size) (hc : ∀ j u, news[j]? = some u → w.cell? (ad.add j) = some u) (h1c : ∀ u ∈ news, u.oneCell' = true)
    (b1 : n + m ≤ maxLen) (b2 : (n + m) * bytes ≤ 140737488355328) (hbase : base ≤ w.heap.size)
    (hK : ∀ v' w', w'.ownsRow base e size v' (n + m) (xs ++ news) → w.grownBy w' v.ownBlock → (v'.ownBlock = v.ownBlock ∨ v'.ownBlock = some w.heap.size) → K (a.put o.dst v') w') :
    if Region.wanted o (yielded ops a.tmps) = true then Oper.wp P o a w K Q else E := by
  have hw : Region.wanted o (yielded ops a.tmps) = true := by simp [Region.wanted, hg]
  rw [if_pos hw]
  obtain ⟨v', w', hrun, r1, r2, _, r4⟩ := run_append_own_at (P := P) w base t o.type e i z size bytes h1 h2 h3 h4 h5 h6 h7 v n xs hown ad m c news hn hc h1c b1 b2 hbase
  unfold Oper.wp
  simp [execOp, hop, resolve, invoke, builtin, hs, hx, hrun, Result.andThen]
  exact hK v' w' r1 r2 r4
end Go.Proofs.Ytlhdppkllmnmkae.G

/- Grammars, in the document's way: lists of numbers that are the same, great grammars, kids, the rules of a nonterminal. -/
namespace Go.Proofs.Ytlhdppkllmnmkae.G
open Go.RowKit

theorem Try.infoInt : (Try.prog.info? 3).map (fun i => (i.zero, i.size, i.bytes)) = some (some (.int .i64 0), 1, 8) := by kernel_rfl
theorem cell_one_at (w : World) (x : Value) (t : TypeId) {n : Nat} (hn : n = w.heap.size) : ∀ j u, [x][j]? = some u → (w.alloc (.cells #[x] t)).cell? ((⟨n, 0, none⟩ : Addr).add j) = some u := by
  subst hn
  intro j u hj
  match j, hj with
  | 0, hj => simp at hj; subst hj; simp [Addr.add]
  | n + 1, hj => simp at hj
theorem ne_at {l m : List Int} {k : Nat} (h1 : k < l.length) (h2 : k < m.length) (h : ¬ l[k] = m[k]) : ¬ l = m := fun e => h (by subst e; rfl)
theorem eq_of_at {α : Type} {l m : List α} (h1 : l.length = m.length) (h : ∀ j, j < l.length → l[j]? = m[j]?) : l = m := by
  apply List.ext_getElem? 
  intro i
  rcases Nat.lt_or_ge i l.length with h' | h'
  · exact h i h'
  · rw [List.getElem?_eq_none h', List.getElem?_eq_none (by omega)]
set_option maxRecDepth 100000 in
set_option maxHeartbeats 4000000 in
theorem sameInts_any (l m : List Int) (va vb : Value) (w : World) (ha : IsV w All va l) (hb : IsV w All vb m) :
    Calls Try.prog 22 #[va, vb] w fun e w' => e = .returned (.bool (decide (l = m))) ∧ Below w.heap.size w w' := by
  obtain ⟨ao, cap, rfl⟩ := ha.slice
  obtain ⟨ao', cap', rfl⟩ := hb.slice
  have hl := ha.1
  have hm := hb.1
  by_cases hlm : l.length = m.length
  · go_enter Try.func22, Try.ntmps22
    rw [← hlm]
    have HLM := hd hlm
    clear hlm
    go_wp2_with fail
    go_loopw [5] (fun i wr => ∃ k : Nat, k ≤ l.length ∧ i = .int .i64 k ∧ Hid (∀ j, j < k → l[j]? = m[j]?) ∧ Below w.heap.size w wr) (fun i _ => l.length - (intOf i).toNat)
    case atStart => exact ⟨0, Nat.zero_le _, rfl, hd (fun j hj => absurd hj (Nat.not_lt_zero _)), Below.refl _ _⟩
    case round =>
      obtain ⟨k, hk, rfl, hall, bel⟩ := hrel
      by_cases hlt : k < l.length
      · have hlt' : k < m.length := by have := HLM.out; omega
        obtain ⟨b, o, rfl, c0⟩ := (ha.lw bel).at_ hlt
        obtain ⟨b', o', rfl, c1⟩ := (hb.lw bel).at_ hlt'
        have HN := hd (ne_at hlt hlt')
        have HE : Hid (l[k] = m[k] → l[k]? = m[k]?) := hd (fun e => by rw [List.getElem?_eq_getElem hlt, List.getElem?_eq_getElem hlt', e])
        generalize l[k] = x at *
        generalize m[k] = y at *
        clear hlt'
        by_cases hxy : x = y
        · have HE' := hd (HE.out hxy)
          subst hxy
          go_wp2_with fail
          go_region
          all_goals
            go_wp2_with fail
            go_roundw
            case rel => exact ⟨k + 1, by omega, by go_num, hd (fun j hj => by
              by_cases e : j = k
              · subst e; exact HE'.out
              · exact hall.out j (by omega)), bel.drew⟩
            case measure => simp [intOf]; omega
        · have HN' := hd (HN.out hxy)
          have hb' : (x != y) = true := by simpa using hxy
          clear hxy
          go_wp2_with fail
          go_region
          all_goals
            go_wp2_with fail
            go_ret
            exact ⟨ret_bool (by simpa using HN'.out), bel.drew⟩
      · have he : l = m := eq_of_at HLM.out fun j hj => hall.out j (by omega)
        have HE := hd he
        clear he
        go_wp2_with fail
        go_ret
        exact ⟨ret_bool (by simpa using HE.out), bel⟩
  · have hne : ¬ l = m := fun e => hlm (by rw [e])
    have HNE := hd hne
    clear hne
    have hb' : ((l.length : Int) != (m.length : Int)) = true := by simp; omega
    go_enter Try.func22, Try.ntmps22
    go_wp2_with fail
    go_ret
    exact ⟨ret_bool (by simpa using HNE.out), Below.refl _ _⟩

/-- Not great. -/
def Small (l : List Ru) : Prop := l.length ≤ 400 ∧ ∀ i (h : i < l.length), l[i].right.length ≤ 100
set_option maxRecDepth 100000 in
set_option maxHeartbeats 4000000 in
theorem great_any (g : Gm) (va : Value) (w : World) (ha : GV w All va g) :
    Calls Try.prog 26 #[va] w fun e w' => ∃ q : Bool, e = .returned (.bool q) ∧ (q = false → Small g.rules) ∧ Below w.heap.size w w' := by
  obtain ⟨u, rfl, hr⟩ := ha
  obtain ⟨ao, cap, rfl⟩ := hr.slice
  have hl := hr.1
  obtain ⟨W, hW⟩ : ∃ W, W = w.alloc (.cells #[.int .i64 g.vars, .int .i64 g.terms, .int .i64 g.start, .slice ao g.rules.length cap] 24) := ⟨_, rfl⟩
  have hWb : Below w.heap.size w W := by rw [hW]; exact al1 _ _
  have hW3 : W.cell? ⟨w.heap.size, 3, none⟩ = some (.slice ao g.rules.length cap) := by rw [hW]; simp
  by_cases h4 : g.rules.length ≤ 400
  · go_enter Try.func26, Try.ntmps26
    go_wp2_with fail
    rw [← hW]
    have HW := hd hW
    clear hW
    go_loopw [3] (fun i wr => ∃ k : Nat, k ≤ g.rules.length ∧ i = .int .i64 k ∧ Hid (∀ j (h : j < g.rules.length), j < k → g.rules[j].right.length ≤ 100) ∧ wr = W) (fun i _ => g.rules.length - (intOf i).toNat)
    case atStart => exact ⟨0, Nat.zero_le _, rfl, hd (fun j _ hj => absurd hj (Nat.not_lt_zero _)), rfl⟩
    case round =>
      obtain ⟨k, hk, rfl, hall, rfl⟩ := hrel
      by_cases hlt : k < g.rules.length
      · obtain ⟨b, o, rfl, c0, ar, cr, c1, hc⟩ := (hr.lw hWb).at_ hlt
        have hcl := hc.1
        have HA : Hid (g.rules[k].right.length ≤ 100 → ∀ j (h : j < g.rules.length), j < k + 1 → g.rules[j].right.length ≤ 100) := hd (fun e j h hj => by
          by_cases ej : j = k
          · subst ej; exact e
          · exact hall.out j h (by omega))
        clear hc
        generalize g.rules[k].right.length = n at *
        by_cases hn : n ≤ 100
        · go_wp2_with fail
          go_roundw
          case rel => exact ⟨k + 1, by omega, by go_num, hd (HA.out hn), trivial⟩
          case measure => simp [intOf]; omega
        · go_wp2_with fail
          go_ret
          exact ⟨true, rfl, (fun h => by cases h), hWb⟩
      · go_wp2_with fail
        go_ret
        exact ⟨false, rfl, fun _ => ⟨h4, fun i hi => hall.out i hi (by omega)⟩, hWb⟩
  · go_enter Try.func26, Try.ntmps26
    go_wp2_with fail
    go_ret
    exact ⟨true, rfl, (fun h => by cases h), al1 _ _⟩

/-- The nonterminals of a right side. -/
def kidsL (l : List Int) : List Int := l.filter (fun s => decide (0 ≤ s))
theorem kidsL_len (l : List Int) : (kidsL l).length ≤ l.length := List.length_filter_le _ _
theorem take_snoc {α : Type} (l : List α) {k : Nat} (h : k < l.length) : l.take (k + 1) = l.take k ++ [l[k]] := List.take_succ_eq_append_getElem h
theorem kidsL_yes {l : List Int} {k : Nat} (h : k < l.length) (hp : 0 ≤ l[k]) : kidsL (l.take (k + 1)) = kidsL (l.take k) ++ [l[k]] := by
  rw [take_snoc l h]; simp only [kidsL, List.filter_append, List.filter_cons, List.filter_nil, hp]; simp
theorem kidsL_no {l : List Int} {k : Nat} (h : k < l.length) (hp : ¬ 0 ≤ l[k]) : kidsL (l.take (k + 1)) = kidsL (l.take k) := by
  rw [take_snoc l h]; simp only [kidsL, List.filter_append, List.filter_cons, List.filter_nil, hp]; simp
/-- The numbers of the rules of v. -/
def byL (v : Int) : List Ru → Nat → List Int
  | [], _ => []
  | r :: l, k => if r.left = v then (k : Int) :: byL v l (k + 1) else byL v l (k + 1)
theorem byL_app (v : Int) : ∀ (l m : List Ru) (k : Nat), byL v (l ++ m) k = byL v l k ++ byL v m (k + l.length)
  | [], _, _ => by simp [byL]
  | r :: l, m, k => by
    have := byL_app v l m (k + 1)
    rw [show k + 1 + l.length = k + (l.length + 1) by omega] at this
    simp only [byL, List.cons_append, List.length_cons]
    split <;> simp [this]
theorem byL_len (v : Int) : ∀ (l : List Ru) (k : Nat), (byL v l k).length ≤ l.length
  | [], _ => by simp [byL]
  | r :: l, k => by
    have := byL_len v l (k + 1)
    simp only [byL]
    split <;> simp <;> omega
theorem byL_yes {v : Int} {l : List Ru} {k : Nat} (h : k < l.length) (hp : l[k].left = v) : byL v (l.take (k + 1)) 0 = byL v (l.take k) 0 ++ [(k : Int)] := by
  rw [take_snoc l h, byL_app]; simp only [byL, hp, if_true, List.length_take]; congr 2; omega
theorem byL_no {v : Int} {l : List Ru} {k : Nat} (h : k < l.length) (hp : ¬ l[k].left = v) : byL v (l.take (k + 1)) 0 = byL v (l.take k) 0 := by
  rw [take_snoc l h, byL_app]; simp only [byL, hp, if_false, List.append_nil]
end Go.Proofs.Ytlhdppkllmnmkae.G

/- What stays as it was; numbers behind a slice of one's own. -/
namespace Go.Proofs.Ytlhdppkllmnmkae.G
open Go.RowKit
theorem Try.infoRule : (Try.prog.info? 37).map (fun i => (i.zero, i.size, i.bytes)) = some (some (.agg #[.int .i64 0, .slice none 0 0]), 2, 32) := by kernel_rfl
/-- All blocks but one are as they were. -/
structure But (r : Nat) (w w' : World) : Prop where
  os : w'.os = w.os
  tape : w'.tape = w.tape
  output : w'.output = w.output
  size : w.heap.size ≤ w'.heap.size
  block : ∀ k, k < w.heap.size → k ≠ r → w'.heap[k]? = w.heap[k]?
theorem But.refl (r : Nat) (w : World) : But r w w := ⟨rfl, rfl, rfl, Nat.le_refl _, fun _ _ _ => rfl⟩
theorem But.trans {r : Nat} {a b c : World} (h : But r a b) (k : But r b c) : But r a c :=
  ⟨k.os.trans h.os, k.tape.trans h.tape, k.output.trans h.output, Nat.le_trans h.size k.size, fun i hi hr => (k.block i (Nat.lt_of_lt_of_le hi h.size) hr).trans (h.block i hi hr)⟩
theorem But.of_below {r : Nat} {w w' : World} (h : Below w.heap.size w w') : But r w w' := ⟨h.os, h.tape, h.output, h.size, fun k hk _ => h.block k hk⟩
theorem But.below {r B : Nat} {w w' : World} (h : But r w w') (hr : B ≤ r) (hB : B ≤ w.heap.size) : Below B w w' := ⟨h.os, h.tape, h.output, h.size, fun k hk => h.block k (by omega) (by omega)⟩
theorem But.setCell {r : Nat} {a w : World} (h : But r a w) {p : Addr} (hp : p.block = r ∨ a.heap.size ≤ p.block) (u : Value) : But r a (w.setCell p u) :=
  ⟨h.os, h.tape, h.output, by simpa [World.setCell] using h.size, fun k hk hr => by rw [Below.heap_setCell _ _ _ _ (by omega)]; exact h.block k hk hr⟩
theorem But.grown {r : Nat} {a w w' : World} {row : Option Nat} (h : But r a w) (hg : w.grownBy w' row) (hr : ∀ k, row = some k → a.heap.size ≤ k) : But r a w' :=
  ⟨hg.os.trans h.os, hg.tape.trans h.tape, hg.output.trans h.output, Nat.le_trans h.size hg.size, fun k hk hk' => by rw [hg.block k (Nat.lt_of_lt_of_le hk h.size) (fun e => by have := hr k e.symm; omega)]; exact h.block k hk hk'⟩
theorem But.cell {r : Nat} {w w' : World} (h : But r w w') {b o : Nat} (hb : b < w.heap.size) (hr : b ≠ r) : w'.cell? ⟨b, o, none⟩ = w.cell? ⟨b, o, none⟩ :=
  World.cell?_of_block (w := w) (a := ⟨b, o, none⟩) (h.block b hb hr)
theorem But.frozen {r : Nat} {w w' : World} (h : But r w w') {b o : Nat} (hb : b < w.heap.size) (hr : b ≠ r) : w'.frozen? ⟨b, o, none⟩ = w.frozen? ⟨b, o, none⟩ :=
  World.frozen?_of_block (w := w) (a := ⟨b, o, none⟩) (h.block b hb hr)
/-- All blocks of a class are as they were. -/
structure Kp (S : Nat → Prop) (w w' : World) : Prop where
  size : w.heap.size ≤ w'.heap.size
  block : ∀ k, k < w.heap.size → S k → w'.heap[k]? = w.heap[k]?
theorem Kp.refl (S : Nat → Prop) (w : World) : Kp S w w := ⟨Nat.le_refl _, fun _ _ _ => rfl⟩
theorem Kp.trans {S : Nat → Prop} {a b c : World} (h : Kp S a b) (k : Kp S b c) : Kp S a c := ⟨Nat.le_trans h.size k.size, fun i hi hs => (k.block i (Nat.lt_of_lt_of_le hi h.size) hs).trans (h.block i hi hs)⟩
theorem Kp.of_below {S : Nat → Prop} {a b : World} (h : Below a.heap.size a b) : Kp S a b := ⟨h.size, fun k hk _ => h.block k hk⟩
theorem Kp.alloc {S : Nat → Prop} {a w : World} (h : Kp S a w) (o : Obj) : Kp S a (w.alloc o) := h.trans (Kp.of_below (al1 _ _))
theorem Kp.setCell {S : Nat → Prop} {a w : World} (h : Kp S a w) {p : Addr} (hp : ¬ S p.block ∨ a.heap.size ≤ p.block) (u : Value) : Kp S a (w.setCell p u) :=
  ⟨by simpa [World.setCell] using h.size, fun k hk hs => by rw [Below.heap_setCell _ _ _ _ (fun e => by subst e; rcases hp with hp | hp; exact hp hs; omega)]; exact h.block k hk hs⟩
theorem Kp.grown {S : Nat → Prop} {a w w' : World} {row : Option Nat} (h : Kp S a w) (hg : w.grownBy w' row) (hr : ∀ k, row = some k → ¬ S k ∨ a.heap.size ≤ k) : Kp S a w' :=
  ⟨Nat.le_trans h.size hg.size, fun k hk hs => by rw [hg.block k (Nat.lt_of_lt_of_le hk h.size) (fun e => by rcases hr k e.symm with hp | hp; exact hp hs; omega)]; exact h.block k hk hs⟩
theorem IsV.kp {w w' : World} {S T : Nat → Prop} {v : Value} {x : List Int} (h : IsV w S v x) (hk : Kp S w w') (hT : ∀ k, k < w.heap.size → S k → T k) : IsV w' T v x := h.mono (keep_cell hT hk.block)
theorem RsV.kp {w w' : World} {S T : Nat → Prop} {v : Value} {x : List Ru} (h : RsV w S v x) (hk : Kp S w w') (hT : ∀ k, k < w.heap.size → S k → T k) : RsV w' T v x := h.mono (keep_cell hT hk.block)
theorem RC.kp {w w' : World} {S T : Nat → Prop} {v : List Value} {x : List Ru} (h : RC w S v x) (hk : Kp S w w') (hT : ∀ k, k < w.heap.size → S k → T k) : RC w' T v x := h.mono (keep_cell hT hk.block)
theorem grown_below {w w' : World} (h : w.grownBy w' none) : Below w.heap.size w w' := ⟨h.os, h.tape, h.output, h.size, fun k hk => h.block k hk (by simp)⟩
/-- One step of a region that draws its order: numbers that lie in memory, behind a slice of one's own. -/
theorem step_ints {P : Program} {ops : Array Oper} {o : Oper} {a : Act} {w : World} {K : Act → World → Prop} {Q : Exit → Act → World → Prop} {E : Prop}
    (hg : o.guard = none) (s x : Operand) (t : TypeId) (hop : o.op = Op.call { callee := Callee.builtin Builtin.append, args := #[s, x], argTypes := #[t, t] })
    (base : Nat) (e : TypeId) (i : TypeInfo) (h1 : P.underlying t = some (.slice e)) (h2 : P.info? e = some i) (h3 : i.zero = some (.int .i64 0)) (h4 : i.size = 1) (h5 : i.bytes = 8)
    (v : Value) (n : Nat) (xs : List Value) (hs : a.eval s = v) (hown : w.ownsRow base e 1 v n xs)
    (S : Nat → Prop) (u : Value) (l : List Int) (hx : a.eval x = u) (hu : IsV w S u l) (b1 : n + l.length ≤ 1000000) (hbase : base ≤ w.heap.size)
    (hK : ∀ v' w', w'.ownsRow base e 1 v' (n + l.length) (xs ++ ints l) → w.grownBy w' v.ownBlock → (v'.ownBlock = v.ownBlock ∨ v'.ownBlock = some w.heap.size) → K (a.put o.dst v') w') :
    if Region.wanted o (yielded ops a.tmps) = true then Oper.wp P o a w K Q else E := by
  obtain ⟨ao, cap, rfl⟩ := hu.slice
  cases ao with
  | some ad => exact step_own hg s x t hop base e i (.int .i64 0) 1 8 h1 h2 h3 h4 h5 rfl (by decide) v n xs hs hown ad l.length cap (ints l) hx (by rw [ints_len]; omega) hu.cells (oneInts l) (by unfold maxLen; omega) (by omega) hbase hK
  | none =>
    obtain ⟨_, ao', cap', e', _, h0, hl⟩ := hu
    simp at e'
    obtain ⟨rfl, rfl⟩ := e'
    have hc := h0 rfl
    subst hc
    have hl0 : l = [] := by
      rcases hl with hl | ⟨b, o, e, _⟩
      · exact List.eq_nil_of_length_eq_zero hl
      · cases e
    subst hl0
    have hw : Region.wanted o (yielded ops a.tmps) = true := by simp [Region.wanted, hg]
    rw [if_pos hw]
    have hrun := run_append_owned_none (P := P) (w := w) base t o.type e i 1 h1 h2 v n xs hown
    have hx' : a.eval x = .slice none 0 0 := hx
    unfold Oper.wp
    simp [execOp, hop, resolve, invoke, builtin, hs, hx', hrun, Result.andThen]
    exact hK v w (by simpa [ints] using hown) ⟨rfl, rfl, rfl, Nat.le_refl _, fun _ _ _ => rfl⟩ (.inl rfl)
theorem oneRule (a : Int) (ao : Option Addr) (n c : Nat) : ∀ u ∈ [Value.int .i64 a, Value.slice ao n c], u.oneCell' = true := by
  intro u hu; simp at hu; rcases hu with rfl | rfl <;> rfl
theorem cell2_new (w : World) (v0 v1 : Value) (t : TypeId) {n : Nat} (hn : n = w.heap.size) : ∀ j u, [v0, v1][j]? = some u → (w.alloc (.cells #[v0, v1] t)).cell? ((⟨n, 0, none⟩ : Addr).add j) = some u := by
  subst hn
  intro j u hj
  match j, hj with
  | 0, hj => simp at hj; subst hj; simp [Addr.add]
  | 1, hj => simp at hj; subst hj; simp [Addr.add]
  | n + 2, hj => simp at hj
theorem set2_take {xs : List Value} {k : Nat} {a b : Value} (h : k * 2 + 1 < xs.length) : ((xs.set (k * 2) a).set (k * 2 + 1) b).take ((k + 1) * 2) = xs.take (k * 2) ++ [a, b] := by
  apply List.ext_getElem?
  intro i
  rw [show (k + 1) * 2 = k * 2 + 2 by omega]
  rw [List.getElem?_take, List.getElem?_append, List.length_take]
  by_cases h1 : i < k * 2
  · rw [if_pos (by omega), if_pos (by omega), List.getElem?_take, if_pos h1, List.getElem?_set_ne (by omega), List.getElem?_set_ne (by omega)]
  · rw [if_neg (show ¬ i < min (k * 2) xs.length by omega), show min (k * 2) xs.length = k * 2 by omega]
    by_cases h2 : i = k * 2
    · subst h2
      rw [if_pos (by omega), List.getElem?_set_ne (by omega), List.getElem?_set_self (by omega)]
      simp
    · by_cases h3 : i = k * 2 + 1
      · subst h3
        rw [if_pos (by omega), List.getElem?_set_self (by simp; omega)]
        simp [show k * 2 + 1 - k * 2 = 1 by omega]
      · rw [if_neg (by omega)]
        rw [List.getElem?_eq_none]
        simp; omega
end Go.Proofs.Ytlhdppkllmnmkae.G

/- A grammar that comes in: what its reading says of its cells. -/
namespace Go.Proofs.Ytlhdppkllmnmkae.G
open Go.RowKit Go.WideShapes
theorem pick_lt {α : Type} [Inhabited α] {n : Nat} {p : Nat → α → Prop} (h : ∀ i, i < n → ∃ x, p i x) : ∃ f : Nat → α, ∀ i, i < n → p i (f i) := by
  classical
  refine ⟨fun i => if hi : i < n then Classical.choose (h i hi) else default, fun i hi => ?_⟩
  simp only [dif_pos hi]
  exact Classical.choose_spec (h i hi)
section
variable {H : Type} {enc : TypeId × Value → H} {w : World} {base : Nat} {spare : Nat → Bool} {held : Bool}
theorem cellsInt : Try.prog.cellsOf 3 = 1 := by kernel_rfl
theorem cellsInts : Try.prog.cellsOf 25 = 1 := by kernel_rfl
theorem cellsRule : Try.prog.cellsOf 37 = 2 := by kernel_rfl
theorem cellsRules : Try.prog.cellsOf 22 = 1 := by kernel_rfl
theorem cellsGram : Try.prog.cellsOf 24 = 4 := by kernel_rfl
/-- An address of a cell that is there. -/
theorem plain_addr {a : Addr} {v : Value} (h : w.cell? (a.add 0) = some v) : ∃ b o, a = ⟨b, o, none⟩ := by
  obtain ⟨b, o, s⟩ := a
  have hs : s = none := by simpa [Addr.add] using World.cell?_spot h
  exact ⟨b, o, by rw [hs]⟩
set_option maxRecDepth 100000 in
theorem open_ints {fuel : Nat} {u : Value} {x : DataW H × List MemPlace} (h : DataW.trod enc Try.prog w base spare held fuel 25 [u] = some x) : ∃ l : List Int, IsV w All u l := by
  rcases DataW.trod_slice Try.underlying25 h with ⟨e2, _⟩ | ⟨ad, len, cap, elems, rest, m, rfl, e2, _, hb, hlc, hcm, hel, hall, _, _⟩
  · have e3 : u = .slice none 0 0 := by simpa using e2
    subst e3
    exact ⟨[], IsV_nil _ _⟩
  · have e3 : u = .slice (some ad) len cap := by simpa using e2
    subst e3
    rw [cellsInt] at hall
    have one : ∀ i, i < len → ∃ y : Int, w.cell? (ad.add (i * 1)) = some (.int .i64 y) := by
      intro i hi
      have h1 := hall i hi
      rw [List.getElem?_eq_getElem (by omega)] at h1
      obtain ⟨cs', h2, h3⟩ := Option.bind_eq_some_iff.1 h1
      obtain ⟨y, e0, _, _⟩ := DataW.trod_int Try.underlying3 h3
      obtain ⟨_, _, hc⟩ := World.cells?_some h2
      have c0 := hc 0 (by omega)
      subst e0
      refine ⟨y, ?_⟩
      have : (ad.add (i * 1)).add 0 = ad.add (i * 1) := by unfold Addr.add; simp
      rw [← this]; exact c0
    obtain ⟨f, hff⟩ := pick_lt one
    have hmx : cap ≤ 9223372036854775807 := by unfold maxLen at hcm; omega
    refine ⟨(List.range len).map f, by simp; omega, some ad, cap, by simp, by simpa using hlc, (fun h => by cases h), ?_⟩
    by_cases h0 : len = 0
    · exact .inl (by simpa using h0)
    · right
      have g0 := hff 0 (by omega)
      obtain ⟨b', o', rfl⟩ := plain_addr (w := w) (a := ad) (by simpa using g0)
      refine ⟨b', o', rfl, trivial, fun i hi => ?_⟩
      have g1 := hff i (by simpa using hi)
      rw [addr_add, Nat.mul_one] at g1
      simpa using g1
set_option maxRecDepth 100000 in
theorem open_rule {fuel : Nat} {cs : List Value} {x : DataW H × List MemPlace} (h : DataW.trod enc Try.prog w base spare held fuel 37 cs = some x) : ∃ (y : Ru) (u : Value), cs = [.int .i64 y.left, u] ∧ IsV w All u y.right := by
  obtain ⟨xs, n, rfl, rfl, hl, hlen, hf⟩ := DataW.trod_struct Try.underlying37 h
  rw [cellsRule] at hl
  match cs, hl with
  | [a, b], _ =>
  match xs, hlen with
  | [y0, y1], _ =>
  have f0 : DataW.trod enc Try.prog w base spare held n 3 (([a, b].drop 0).take (Try.prog.cellsOf 3)) = some y0 := hf 0 _ rfl
  have f1 : DataW.trod enc Try.prog w base spare held n 25 (([a, b].drop 1).take (Try.prog.cellsOf 25)) = some y1 := hf 1 _ rfl
  rw [cellsInt] at f0
  rw [cellsInts] at f1
  obtain ⟨op, e0, _, _⟩ := DataW.trod_int Try.underlying3 f0
  obtain ⟨l, hl⟩ := open_ints f1
  simp at e0
  subst e0
  exact ⟨⟨op, l⟩, b, rfl, hl⟩
set_option maxRecDepth 100000 in
theorem open_rules {fuel : Nat} {u : Value} {x : DataW H × List MemPlace} (h : DataW.trod enc Try.prog w base spare held fuel 22 [u] = some x) : ∃ l : List Ru, RsV w All u l := by
  rcases DataW.trod_slice Try.underlying22 h with ⟨e2, _⟩ | ⟨ad, len, cap, elems, rest, m, rfl, e2, _, hb, hlc, hcm, hel, hall, _, _⟩
  · have e3 : u = .slice none 0 0 := by simpa using e2
    subst e3
    exact ⟨[], RsV_nil _ _⟩
  · have e3 : u = .slice (some ad) len cap := by simpa using e2
    subst e3
    rw [cellsRule] at hall
    have one : ∀ i, i < len → ∃ y : Ru, ∃ u, w.cell? (ad.add (i * 2)) = some (.int .i64 y.left) ∧ w.cell? ((ad.add (i * 2)).add 1) = some u ∧ IsV w All u y.right := by
      intro i hi
      have h1 := hall i hi
      rw [List.getElem?_eq_getElem (by omega)] at h1
      obtain ⟨cs', h2, h3⟩ := Option.bind_eq_some_iff.1 h1
      obtain ⟨y, u, rfl, hy⟩ := open_rule h3
      obtain ⟨_, _, hc⟩ := World.cells?_some h2
      have c0 := hc 0 (by omega)
      refine ⟨y, u, ?_, hc 1 (by omega), hy⟩
      have : (ad.add (i * 2)).add 0 = ad.add (i * 2) := by unfold Addr.add; simp
      rw [← this]; exact c0
    obtain ⟨f, hff⟩ := pick_lt one
    have hmx : cap ≤ 9223372036854775807 := by unfold maxLen at hcm; omega
    refine ⟨(List.range len).map f, by simp; omega, some ad, cap, by simp, by simpa using hlc, (fun h => by cases h), ?_⟩
    by_cases h0 : len = 0
    · exact .inl (by simpa using h0)
    · right
      obtain ⟨u, g0, _⟩ := hff 0 (by omega)
      obtain ⟨b', o', rfl⟩ := plain_addr (w := w) (a := ad) (by simpa using g0)
      refine ⟨b', o', rfl, trivial, fun i hi => ?_⟩
      obtain ⟨u, g0, g1, g2⟩ := hff i (by simpa using hi)
      rw [addr_add] at g0 g1
      rw [addr_add] at g1
      have he : ((List.range len).map f)[i] = f i := by simp
      rw [he]
      exact ⟨g0, u, g1, g2⟩
set_option maxRecDepth 100000 in
theorem open_gram {v : Value} {d : DataW H} {ps : List MemPlace} {b2 : Nat} (hv : Value.okWide Try.prog w .any b2 24 v) (h : DataW.Trod enc Try.prog w base spare held 24 v d ps) : ∃ g : Gm, GV w All v g := by
  obtain ⟨vs, rfl, hvs⟩ := okWide_struct Try.underlying24 hv
  obtain ⟨fuel, h⟩ := h
  rw [cellsGram] at hvs
  obtain ⟨xs, n, rfl, hd, hl, hlen, hf⟩ := DataW.trod_struct Try.underlying24 h
  obtain ⟨a, b, c, u, rfl⟩ : ∃ a b c u, vs = #[a, b, c, u] := by
    obtain ⟨l⟩ := vs
    match l, hvs with
    | [a, b, c, u], _ => exact ⟨a, b, c, u, rfl⟩
  match xs, hlen with
  | [y0, y1, y2, y3], _ =>
  have f0 : DataW.trod enc Try.prog w base spare held n 3 (([a, b, c, u].drop 0).take (Try.prog.cellsOf 3)) = some y0 := hf 0 _ rfl
  have f1 : DataW.trod enc Try.prog w base spare held n 3 (([a, b, c, u].drop 1).take (Try.prog.cellsOf 3)) = some y1 := hf 1 _ rfl
  have f2 : DataW.trod enc Try.prog w base spare held n 3 (([a, b, c, u].drop 2).take (Try.prog.cellsOf 3)) = some y2 := hf 2 _ rfl
  have f3 : DataW.trod enc Try.prog w base spare held n 22 (([a, b, c, u].drop 3).take (Try.prog.cellsOf 22)) = some y3 := hf 3 _ rfl
  rw [cellsInt] at f0 f1 f2
  rw [cellsRules] at f3
  obtain ⟨n0, e0, _, _⟩ := DataW.trod_int Try.underlying3 f0
  obtain ⟨n1, e1, _, _⟩ := DataW.trod_int Try.underlying3 f1
  obtain ⟨n2, e2, _, _⟩ := DataW.trod_int Try.underlying3 f2
  obtain ⟨l, hrs⟩ := open_rules f3
  simp at e0 e1 e2
  subst e0 e1 e2
  exact ⟨⟨n0, n1, n2, l⟩, u, rfl, hrs⟩
end
end Go.Proofs.Ytlhdppkllmnmkae.G

/- Trees: as plain data, and as they lie in memory. -/
namespace Go.Proofs.Ytlhdppkllmnmkae.G
open Go.RowKit Go.WideShapes

/-- A row of trees: the first one's rule and trees below it; the others. -/
inductive Tf where
  | nil
  | cons (rule : Int) (kids rest : Tf)
  deriving DecidableEq
structure Tr where
  rule : Int
  kids : Tf
  deriving DecidableEq
instance : Inhabited Tr := ⟨⟨0, .nil⟩⟩
def Tf.len : Tf → Nat
  | .nil => 0
  | .cons _ _ r => r.len + 1
def Tf.snoc : Tf → Tr → Tf
  | .nil, x => .cons x.rule x.kids .nil
  | .cons a c r, x => .cons a c (r.snoc x)
def Tf.at_ : Tf → Nat → Tr
  | .nil, _ => ⟨0, .nil⟩
  | .cons a c _, 0 => ⟨a, c⟩
  | .cons _ _ r, i + 1 => r.at_ i
/-- What comes behind the first k. -/
def Tf.drp : Tf → Nat → Tf
  | f, 0 => f
  | .nil, _ + 1 => .nil
  | .cons _ _ r, k + 1 => r.drp k
/-- How many trees there are in it, at any depth. -/
def Tf.sz : Tf → Nat
  | .nil => 0
  | .cons _ k r => 1 + k.sz + r.sz
def Tr.sz (t : Tr) : Nat := 1 + t.kids.sz
theorem Tf.len_snoc (f : Tf) (x : Tr) : (f.snoc x).len = f.len + 1 := by
  induction f with
  | nil => rfl
  | cons a c r _ ih => simp [Tf.snoc, Tf.len, ih]
theorem Tf.len_zero {f : Tf} (h : f.len = 0) : f = .nil := by
  cases f with
  | nil => rfl
  | cons => simp [Tf.len] at h
theorem Tf.ext_at : ∀ (f g : Tf), f.len = g.len → (∀ i, i < f.len → f.at_ i = g.at_ i) → f = g
  | .nil, .nil, _, _ => rfl
  | .nil, .cons .., h, _ => by simp [Tf.len] at h
  | .cons .., .nil, h, _ => by simp [Tf.len] at h
  | .cons a c r, .cons a' c' r', h, hh => by
    have h0 := hh 0 (by simp [Tf.len])
    simp [Tf.at_] at h0
    obtain ⟨rfl, rfl⟩ := h0
    congr 1
    exact Tf.ext_at r r' (by simpa [Tf.len] using h) fun i hi => by simpa [Tf.at_] using hh (i + 1) (by simpa [Tf.len] using hi)
theorem Tf.snoc_at : ∀ (f : Tf) (x : Tr) (i : Nat), i < f.len → (f.snoc x).at_ i = f.at_ i
  | .nil, _, _, h => absurd h (Nat.not_lt_zero _)
  | .cons .., _, 0, _ => rfl
  | .cons _ _ r, x, i + 1, h => Tf.snoc_at r x i (by simpa [Tf.len] using h)
theorem Tf.snoc_last : ∀ (f : Tf) (x : Tr), (f.snoc x).at_ f.len = x
  | .nil, _ => rfl
  | .cons _ _ r, x => Tf.snoc_last r x
theorem Tf.len_sz : ∀ f : Tf, f.len ≤ f.sz
  | .nil => Nat.le_refl _
  | .cons _ _ r => by have := Tf.len_sz r; simp only [Tf.len, Tf.sz]; omega
theorem Tf.sz_at : ∀ {f : Tf} {i : Nat}, i < f.len → (f.at_ i).sz ≤ f.sz
  | .nil, _, h => absurd h (Nat.not_lt_zero _)
  | .cons .., 0, _ => by simp only [Tf.at_, Tr.sz, Tf.sz]; omega
  | .cons _ _ r, i + 1, h => by have := Tf.sz_at (f := r) (i := i) (by simpa [Tf.len] using h); simp only [Tf.at_, Tf.sz]; omega
theorem Tf.drp_at : ∀ {f : Tf} {k : Nat}, k < f.len → f.drp k = .cons (f.at_ k).rule (f.at_ k).kids (f.drp (k + 1))
  | .nil, _, h => absurd h (Nat.not_lt_zero _)
  | .cons _ _ r, 0, _ => by cases r <;> rfl
  | .cons _ _ r, k + 1, h => by
    have := Tf.drp_at (f := r) (k := k) (by simpa [Tf.len] using h)
    simp only [Tf.drp, Tf.at_]
    rw [this]
theorem Tf.drp_end : ∀ {f : Tf} {k : Nat}, f.len ≤ k → f.drp k = .nil
  | .nil, 0, _ => rfl
  | .nil, _ + 1, _ => rfl
  | .cons .., 0, h => by simp [Tf.len] at h
  | .cons _ _ r, k + 1, h => Tf.drp_end (f := r) (by simpa [Tf.len] using h)
theorem Tf.drp_zero (f : Tf) : f.drp 0 = f := by cases f <;> rfl
theorem Tf.sz_drp {f : Tf} {k : Nat} (h : k < f.len) : (f.drp k).sz = (f.at_ k).sz + (f.drp (k + 1)).sz := by rw [Tf.drp_at h]; rfl

/-- A row of trees lies in a block from a place on; all blocks that it goes through are of the class S. -/
def Tf.In (w : World) (S : Nat → Prop) : Tf → Nat → Nat → Prop
  | .nil, _, _ => True
  | .cons rule kids rest, b, o => S b ∧ w.cell? ⟨b, o, none⟩ = some (.int .i64 rule) ∧
      (kids.len ≤ 9223372036854775807 ∧ ∃ ao cap, w.cell? ⟨b, o + 1, none⟩ = some (.slice ao kids.len cap) ∧ kids.len ≤ cap ∧ (ao = none → cap = 0) ∧ (kids.len = 0 ∨ ∃ b' o', ao = some ⟨b', o', none⟩ ∧ kids.In w S b' o')) ∧ rest.In w S b (o + 2)
/-- A slice's value. -/
def TfV (w : World) (S : Nat → Prop) (v : Value) (f : Tf) : Prop :=
  f.len ≤ 9223372036854775807 ∧ ∃ ao cap, v = .slice ao f.len cap ∧ f.len ≤ cap ∧ (ao = none → cap = 0) ∧ (f.len = 0 ∨ ∃ b o, ao = some ⟨b, o, none⟩ ∧ f.In w S b o)
/-- A tree's value. -/
def TrV (w : World) (S : Nat → Prop) (v : Value) (t : Tr) : Prop := ∃ u, v = .agg #[.int .i64 t.rule, u] ∧ TfV w S u t.kids
/-- A tree's cells. -/
def TrIn (w : World) (S : Nat → Prop) (t : Tr) (b o : Nat) : Prop :=
  w.cell? ⟨b, o, none⟩ = some (.int .i64 t.rule) ∧ ∃ u, w.cell? ⟨b, o + 1, none⟩ = some u ∧ TfV w S u t.kids
theorem Tf.In.at_ {w : World} {S : Nat → Prop} : ∀ {f : Tf} {b o : Nat}, f.In w S b o → ∀ i, i < f.len → TrIn w S (f.at_ i) b (o + i * 2)
  | .nil, _, _, _, i, hi => by simp [Tf.len] at hi
  | .cons rule kids rest, b, o, h, 0, _ => by
    obtain ⟨h0, h1, ⟨h3, ao, cap, h4, h5⟩, _⟩ := h
    exact ⟨by simpa [Tf.at_] using h1, _, by simpa [Tf.at_] using h4, h3, ao, cap, rfl, h5⟩
  | .cons rule kids rest, b, o, h, i + 1, hi => by
    have := Tf.In.at_ (f := rest) h.2.2.2 i (by simpa [Tf.len] using hi)
    rwa [show o + 2 + i * 2 = o + (i + 1) * 2 by omega] at this
theorem Tf.In.mono {w w' : World} {S T : Nat → Prop} (hc : ∀ b o v, S b → w.cell? ⟨b, o, none⟩ = some v → T b ∧ w'.cell? ⟨b, o, none⟩ = some v) :
    ∀ {f : Tf} {b o : Nat}, f.In w S b o → f.In w' T b o
  | .nil, _, _, _ => trivial
  | .cons _ _ _, _, _, ⟨h0, h1, ⟨h3, ao, cap, h4, h7, h8, h5⟩, h6⟩ =>
    ⟨(hc _ _ _ h0 h1).1, (hc _ _ _ h0 h1).2, ⟨h3, ao, cap, (hc _ _ _ h0 h4).2, h7, h8, h5.imp id fun ⟨b', o', e, h⟩ => ⟨b', o', e, Tf.In.mono hc h⟩⟩, Tf.In.mono hc h6⟩
theorem TfV.mono {w w' : World} {S T : Nat → Prop} (hc : ∀ b o v, S b → w.cell? ⟨b, o, none⟩ = some v → T b ∧ w'.cell? ⟨b, o, none⟩ = some v) {v : Value} {f : Tf} (h : TfV w S v f) : TfV w' T v f :=
  let ⟨h1, ao, cap, h2, h7, h8, h3⟩ := h
  ⟨h1, ao, cap, h2, h7, h8, h3.imp id fun ⟨b, o, e, h⟩ => ⟨b, o, e, Tf.In.mono hc h⟩⟩
theorem TrV.mono {w w' : World} {S T : Nat → Prop} (hc : ∀ b o v, S b → w.cell? ⟨b, o, none⟩ = some v → T b ∧ w'.cell? ⟨b, o, none⟩ = some v) {v : Value} {x : Tr} (h : TrV w S v x) : TrV w' T v x :=
  let ⟨u, h1, h2⟩ := h
  ⟨u, h1, TfV.mono hc h2⟩
theorem TfV.lw {w w' : World} {S : Nat → Prop} {v : Value} {f : Tf} (h : TfV w S v f) (hb : Below w.heap.size w w') : TfV w' S v f := h.mono (keep_all hb fun _ h => h)
theorem TrV.lw {w w' : World} {S : Nat → Prop} {v : Value} {t : Tr} (h : TrV w S v t) (hb : Below w.heap.size w w') : TrV w' S v t := h.mono (keep_all hb fun _ h => h)
theorem TfV.all {w : World} {S : Nat → Prop} {v : Value} {f : Tf} (h : TfV w S v f) : TfV w All v f := h.mono (keep_all (Below.refl _ _) fun _ _ => trivial)
theorem TrV.all {w : World} {S : Nat → Prop} {v : Value} {t : Tr} (h : TrV w S v t) : TrV w All v t := h.mono (keep_all (Below.refl _ _) fun _ _ => trivial)
theorem TfV.kp {w w' : World} {S T : Nat → Prop} {v : Value} {x : Tf} (h : TfV w S v x) (hk : Kp S w w') (hT : ∀ k, k < w.heap.size → S k → T k) : TfV w' T v x := h.mono (keep_cell hT hk.block)
theorem TrV.kp {w w' : World} {S T : Nat → Prop} {v : Value} {x : Tr} (h : TrV w S v x) (hk : Kp S w w') (hT : ∀ k, k < w.heap.size → S k → T k) : TrV w' T v x := h.mono (keep_cell hT hk.block)
theorem TfV_nil (w : World) (S : Nat → Prop) : TfV w S (.slice none 0 0) .nil := ⟨by simp [Tf.len], none, 0, rfl, Nat.zero_le _, fun _ => rfl, .inl rfl⟩
theorem TfV.slice {w : World} {S : Nat → Prop} {v : Value} {f : Tf} (h : TfV w S v f) : ∃ ao cap, v = .slice ao f.len cap ∧ f.len ≤ cap := let ⟨_, ao, cap, e, hc, _⟩ := h; ⟨ao, cap, e, hc⟩
theorem Tf.In.cls {w : World} {S : Nat → Prop} {f : Tf} {b o : Nat} (h : f.In w S b o) (h0 : f.len ≠ 0) : S b := by
  cases f with
  | nil => simp [Tf.len] at h0
  | cons => exact h.1
theorem TfV.at_ {w : World} {S : Nat → Prop} {ao : Option Addr} {n cap : Nat} {f : Tf} (h : TfV w S (.slice ao n cap) f) {k : Nat} (hk : k < f.len) :
    ∃ b o, ao = some ⟨b, o, none⟩ ∧ S b ∧ w.cell? ⟨b, o + k * 2, none⟩ = some (.int .i64 (f.at_ k).rule) ∧ ∃ aq cq, w.cell? ⟨b, o + k * 2 + 1, none⟩ = some (.slice aq (f.at_ k).kids.len cq) ∧ TfV w S (.slice aq (f.at_ k).kids.len cq) (f.at_ k).kids := by
  obtain ⟨_, ao', cap', e, _, _, h5⟩ := h
  simp at e
  obtain ⟨rfl, rfl, rfl⟩ := e
  rcases h5 with h5 | ⟨b, o, rfl, hin⟩
  · omega
  · obtain ⟨g1, u, g3, g4⟩ := hin.at_ k hk
    have hS : S b := hin.cls (by omega)
    have g4' := g4
    obtain ⟨aq, cq, rfl, _⟩ := g4'.slice
    exact ⟨b, o, rfl, hS, g1, aq, cq, g3, g4⟩
theorem TrV_mk {w : World} {S : Nat → Prop} {t : Tr} {v : Value} (h : TfV w S v t.kids) : TrV w S (.agg #[.int .i64 t.rule, v]) t := ⟨_, rfl, h⟩
theorem TfV.drop1 {w : World} {S : Nat → Prop} {ao : Option Addr} {n cap : Nat} {f : Tf} (h : TfV w S (.slice ao n cap) f) (hk : f.len ≠ 0) : TfV w S (sliced ao 1 n cap 2) (f.drp 1) := by
  obtain ⟨h1, ao', cap', e, hc, hno, h5⟩ := h
  simp at e
  obtain ⟨rfl, rfl, rfl⟩ := e
  cases f with
  | nil => simp [Tf.len] at hk
  | cons rule kids rest =>
    have hd : (Tf.cons rule kids rest).drp 1 = rest := by cases rest <;> rfl
    rw [hd]
    simp only [Tf.len] at h1 hc h5
    unfold sliced
    refine ⟨by omega, (if cap = 1 then ao else ao.map (·.add (1 * 2))), cap - 1, by simp [Tf.len], by omega, ?_, ?_⟩
    · intro h
      by_cases h1 : cap = 1
      · omega
      · rw [if_neg h1] at h
        have := hno (by cases ao <;> simp_all)
        omega
    rcases h5 with h5 | ⟨b, o, rfl, hin⟩
    · omega
    · by_cases h0 : rest.len = 0
      · exact .inl h0
      · have hne : ¬ cap = 1 := by omega
        exact .inr ⟨b, o + 2, by simp [hne, addr_add], hin.2.2.2⟩

/-- The cells of a row of trees. -/
def TC (w : World) (S : Nat → Prop) : List Value → Tf → Prop
  | [], .nil => True
  | a :: c :: xs, .cons rule kids rest => a = .int .i64 rule ∧ TfV w S c kids ∧ TC w S xs rest
  | _, _ => False
theorem TC.mono {w w' : World} {S T : Nat → Prop} (hc : ∀ b o v, S b → w.cell? ⟨b, o, none⟩ = some v → T b ∧ w'.cell? ⟨b, o, none⟩ = some v) :
    ∀ {xs : List Value} {f : Tf}, TC w S xs f → TC w' T xs f
  | [], .nil, _ => trivial
  | _ :: _ :: _, .cons .., ⟨h1, h3, h4⟩ => ⟨h1, TfV.mono hc h3, TC.mono hc h4⟩
  | [], .cons .., h => by simp [TC] at h
  | [_], _, h => by simp [TC] at h
  | _ :: _ :: _, .nil, h => by simp [TC] at h
theorem TC.kp {w w' : World} {S T : Nat → Prop} {v : List Value} {x : Tf} (h : TC w S v x) (hk : Kp S w w') (hT : ∀ k, k < w.heap.size → S k → T k) : TC w' T v x := h.mono (keep_cell hT hk.block)
theorem TC.snoc {w : World} {S : Nat → Prop} {x : Tr} {u : Value} (hu : TfV w S u x.kids) :
    ∀ {xs : List Value} {f : Tf}, TC w S xs f → TC w S (xs ++ [.int .i64 x.rule, u]) (f.snoc x)
  | [], .nil, _ => ⟨rfl, hu, trivial⟩
  | _ :: _ :: _, .cons .., ⟨h1, h3, h4⟩ => ⟨h1, h3, TC.snoc hu h4⟩
  | [], .cons .., h => by simp [TC] at h
  | [_], _, h => by simp [TC] at h
  | _ :: _ :: _, .nil, h => by simp [TC] at h
theorem TC.in_ {w : World} {S T : Nat → Prop} {b : Nat} (hb : T b) (hST : ∀ k, S k → T k) :
    ∀ {xs : List Value} {f : Tf} {o : Nat}, TC w S xs f → (∀ j v, xs[j]? = some v → w.cell? ⟨b, o + j, none⟩ = some v) → f.In w T b o
  | [], .nil, _, _, _ => trivial
  | a :: c :: xs, .cons rule kids rest, o, ⟨h1, h3, h4⟩, hx => by
    obtain ⟨h5, ao, cap, rfl, h7, h8, h6⟩ := h3
    refine ⟨hb, by have := hx 0 a rfl; rw [h1] at this; simpa using this, ⟨h5, ao, cap, hx 1 _ rfl, h7, h8, h6.imp id fun ⟨b', o', e, h⟩ => ⟨b', o', e, h.mono fun _ _ _ hs h => ⟨hST _ hs, h⟩⟩⟩, ?_⟩
    refine TC.in_ hb hST h4 fun j v hj => ?_
    have := hx (j + 2) v (by simpa using hj)
    rwa [show o + (j + 2) = o + 2 + j by omega] at this
  | [], .cons .., _, h, _ => by simp [TC] at h
  | [_], _, _, h, _ => by simp [TC] at h
  | _ :: _ :: _, .nil, _, h, _ => by simp [TC] at h
/-- A slice of trees that the call has built, as a value. -/
theorem TfV_owned {w : World} {S T : Nat → Prop} {base : Nat} {e : TypeId} {v : Value} {xs : List Value} {f : Tf} (hown : w.ownsRow base e 2 v f.len xs) (hc : TC w S xs f) (hST : ∀ k, S k → T k) (hT : ∀ k, v.ownBlock = some k → T k) (hl : f.len ≤ 9223372036854775807) : TfV w T v f := by
  have h0 := hown
  obtain ⟨h1, h2 | ⟨g, cap, cur, e1, e2, e3, e4, e5⟩⟩ := hown
  · have : f = .nil := Tf.len_zero h2.2
    subst this
    rw [h2.1]; exact TfV_nil _ _
  · refine ⟨hl, some ⟨g, 0, none⟩, cap, e1, e4, (fun h => by cases h), .inr ⟨g, 0, rfl, TC.in_ (hT g (by rw [e1]; rfl)) hST hc fun j u hj => ?_⟩⟩
    subst e1
    have hj' : j < xs.length := by
      rcases Nat.lt_or_ge j xs.length with h | h
      · exact h
      · rw [List.getElem?_eq_none h] at hj; cases hj
    have := World.ownsRow.cellAt h0 j (by omega)
    rw [show 0 + j = j by omega, this]; exact hj
/-- One tree more at the end of a row that the call owns. -/
theorem TC_step {wr w1 w3 : World} {base g : Nat} {v v' : Value} {xs : List Value} {acc : Tf} {x : Tr} {u : Value}
    (hc : TC wr (fun q => base ≤ q ∧ v.ownBlock ≠ some q) xs acc) (hu : TfV w1 (fun k => wr.heap.size ≤ k) u x.kids) (hbase : base ≤ wr.heap.size) (hz : w1.heap.size ≤ g)
    (k1 : Kp (fun q => base ≤ q ∧ v.ownBlock ≠ some q) wr w3) (k2 : Kp (fun k => wr.heap.size ≤ k) w1 w3) (hv : ∀ q, v.ownBlock = some q → q < wr.heap.size) (hzz : wr.heap.size ≤ w1.heap.size)
    (hat : v'.ownBlock = v.ownBlock ∨ v'.ownBlock = some g) : TC w3 (fun q => base ≤ q ∧ v'.ownBlock ≠ some q) (xs ++ [.int .i64 x.rule, u]) (acc.snoc x) := by
  refine TC.snoc ?_ ?_
  · refine hu.kp k2 fun q hq hs => ⟨by omega, fun e => ?_⟩
    rcases hat with h | h
    · have := hv q (h ▸ e); omega
    · rw [h] at e; cases e; omega
  · refine hc.kp k1 fun q hq hs => ⟨hs.1, fun e => ?_⟩
    rcases hat with h | h
    · exact hs.2 (h ▸ e)
    · rw [h] at e; cases e; omega

/-! Trees that come in. -/
def Tf.of (f : Nat → Tr) : Nat → Nat → Tf
  | _, 0 => .nil
  | s, n + 1 => .cons (f s).rule (f s).kids (Tf.of f (s + 1) n)
section
variable {H : Type} {enc : TypeId × Value → H} {w : World} {base : Nat} {spare : Nat → Bool} {held : Bool}
end
end Go.Proofs.Ytlhdppkllmnmkae.G

/- Grammars, in the document's way: two that are the same; what is wrong with one. -/
namespace Go.Proofs.Ytlhdppkllmnmkae.G
open Go.RowKit

/-- Vars, Terms and Start are as they should be. -/
def szB (g : Gm) : Bool := decide (1 ≤ g.vars ∧ g.vars ≤ 64 ∧ 0 ≤ g.terms ∧ g.terms ≤ 16 ∧ 0 ≤ g.start ∧ g.start < g.vars)
/-- A symbol. -/
def syB (g : Gm) (s : Int) : Bool := decide (-g.terms ≤ s ∧ s < g.vars)
def ruF (g : Gm) (r : Ru) : Int := if 10 < r.right.length then 6 else if (0 ≤ r.left ∧ r.left < g.vars) ∧ r.right.all (syB g) = true then 0 else 9
def rsF (g : Gm) : List Ru → Nat → Int × Int
  | [], _ => (0, 0)
  | r :: l, k => if ruF g r = 0 then rsF g l (k + 1) else (ruF g r, (k : Int))
/-- What is wrong with a grammar. -/
def gFl (g : Gm) : Int × Int := if szB g then if 160 < g.rules.length then (6, -1) else rsF g g.rules 0 else (9, -1)
theorem rsF_at {g : Gm} {l : List Ru} {k : Nat} (h : k < l.length) : rsF g (l.drop k) k = if ruF g l[k] = 0 then rsF g (l.drop (k + 1)) (k + 1) else (ruF g l[k], (k : Int)) := by
  rw [List.drop_eq_getElem_cons h]; rfl
theorem rsF_end {g : Gm} {l : List Ru} {k : Nat} (h : l.length ≤ k) : rsF g (l.drop k) k = (0, 0) := by
  rw [List.drop_of_length_le h]; rfl
end Go.Proofs.Ytlhdppkllmnmkae.G
