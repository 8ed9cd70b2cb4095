/- Texts laid together: Gb Gd Gk Gx Ta Td. -/
import Derived.Below
import Derived.Maps.AppendAt
import Derived.Laws.AppendOwnNone
import Derived.Deep.Draws
import Derived.Deep.Quiet
import Derived.BigQuiet
import Derived.Deep.RegionLaw
import Derived.Deep.RegionHeld3
import Derived.WalkKit
import Derived.WalkSpells
import Derived.WalkLawsBesides
import Derived.Test.YtghplmldnkcpnadProg
import Derived.ChangeArms
import Derived.DataReads
import Derived.WideShapes
import Derived.OpenShut
/- Numbers, rules and grammars: as plain data, and as they lie in memory. -/
namespace Go.Proofs.Ytghplmldnkcpnad.G
open Go.RowKit

theorem hd {p : Prop} (h : p) : Hid p := h
theorem ret_bool {a b : Bool} (h : a = b) : Ending.returned (.bool a) = .returned (.bool b) := by rw [h]
theorem ret_int {a b : Int} (h : a = b) : Ending.returned (.int .i64 a) = .returned (.int .i64 b) := by rw [h]
def All : Nat → Prop := fun _ => True
theorem lt_of_cell {w : World} {b o : Nat} {v : Value} (h : w.cell? ⟨b, o, none⟩ = some v) : b < w.heap.size := by
  rcases Nat.lt_or_ge b w.heap.size with h' | h'
  · exact h'
  · exfalso
    have h2 : w.heap[b]? = none := by simp; omega
    have h1 := World.cell?_of_block (w := { w with heap := #[] }) (w' := w) (a := ⟨b, o, none⟩) (by rw [h2]; simp)
    rw [h] at h1
    simp [World.cell?] at h1
theorem al1 (w : World) (o : Obj) : Below w.heap.size w (w.alloc o) := (Below.refl _ _).alloc (Nat.le_refl _) _
theorem al2 (w : World) (o p : Obj) : Below w.heap.size w ((w.alloc o).alloc p) := ((Below.refl _ _).alloc (Nat.le_refl _) _).alloc (by simp) _
theorem drw1 (w : World) : Below w.heap.size w w.drew := ⟨rfl, rfl, rfl, Nat.le_refl _, fun _ _ => rfl⟩
theorem bkeep {w w' : World} (h : Below w.heap.size w w') {b o : Nat} {v : Value} (hc : w.cell? ⟨b, o, none⟩ = some v) : w'.cell? ⟨b, o, none⟩ = some v := by
  rw [h.cell (p := ⟨b, o, none⟩) (lt_of_cell hc)]; exact hc
theorem alcell {wr : World} {b o : Nat} {v : Value} (h : wr.cell? ⟨b, o, none⟩ = some v) (ob : Obj) : (wr.alloc ob).cell? ⟨b, o, none⟩ = some v := bkeep (al1 wr ob) h
theorem bthen {a b c : World} (h : Below a.heap.size a b) (k : Below b.heap.size b c) : Below a.heap.size a c := h.trans (k.mono h.size)
theorem addr_add (b o i : Nat) : (⟨b, o, none⟩ : Addr).add i = ⟨b, o + i, none⟩ := by
  unfold Addr.add
  by_cases h : i = 0 <;> simp [h]
/-- What holds of a world holds of one in which all blocks of the class are as they were. -/
theorem keep_cell {w w' : World} {S T : Nat → Prop} (hT : ∀ k, k < w.heap.size → S k → T k) (hk : ∀ k, k < w.heap.size → S k → w'.heap[k]? = w.heap[k]?) :
    ∀ b o v, S b → w.cell? ⟨b, o, none⟩ = some v → T b ∧ w'.cell? ⟨b, o, none⟩ = some v := fun b o v hs h =>
  ⟨hT b (lt_of_cell h) hs, by rw [World.cell?_of_block (w := w) (a := ⟨b, o, none⟩) (hk b (lt_of_cell h) hs)]; exact h⟩
theorem keep_all {w w' : World} (h : Below w.heap.size w w') {S T : Nat → Prop} (hT : ∀ k, S k → T k) : ∀ b o v, S b → w.cell? ⟨b, o, none⟩ = some v → T b ∧ w'.cell? ⟨b, o, none⟩ = some v :=
  fun b _ _ hs hc => ⟨hT b hs, bkeep h hc⟩

/-! Slices of one's own. -/
theorem owns_below {w w' : World} {base : Nat} {e : TypeId} {size : Nat} {v : Value} {n : Nat} {xs : List Value} (h : w.ownsRow base e size v n xs) (hb : Below w.heap.size w w') : w'.ownsRow base e size v n xs :=
  h.kept (row := none) ⟨hb.os, hb.tape, hb.output, hb.size, fun k hk _ => hb.block k hk⟩ (by cases v.ownBlock <;> simp)
theorem owns_mono {w : World} {base b2 : Nat} {e : TypeId} {size : Nat} {v : Value} {n : Nat} {xs : List Value} (h : w.ownsRow base e size v n xs) (hb : b2 ≤ base) : w.ownsRow b2 e size v n xs := by
  obtain ⟨h1, h2⟩ := h
  refine ⟨h1, ?_⟩
  rcases h2 with h2 | ⟨g, cap, cur, e1, e2, e3⟩
  · exact .inl h2
  · exact .inr ⟨g, cap, cur, e1, Nat.le_trans hb e2, e3⟩
theorem owns_slice {w : World} {base : Nat} {e : TypeId} {size : Nat} {v : Value} {n : Nat} {xs : List Value} (h : w.ownsRow base e size v n xs) : ∃ ao cap, v = .slice ao n cap := by
  rcases h.2 with ⟨rfl, rfl⟩ | ⟨g, cap, cur, rfl, _⟩
  · exact ⟨_, _, rfl⟩
  · exact ⟨_, _, rfl⟩

/-! Numbers. -/
def ints (l : List Int) : List Value := l.map (.int .i64)
theorem ints_len (l : List Int) : (ints l).length = l.length := by simp [ints]
theorem oneInts (l : List Int) : ∀ u ∈ ints l, u.oneCell' = true := by
  intro u hu
  obtain ⟨s, _, rfl⟩ := List.mem_map.1 hu
  rfl
/-- A slice of numbers; the block it lies in is of the class S. -/
def IsV (w : World) (S : Nat → Prop) (v : Value) (l : List Int) : Prop :=
  l.length ≤ 9223372036854775807 ∧ ∃ ao cap, v = .slice ao l.length cap ∧ l.length ≤ cap ∧ (ao = none → cap = 0) ∧ (l.length = 0 ∨ ∃ b o, ao = some ⟨b, o, none⟩ ∧ S b ∧ ∀ i (h : i < l.length), w.cell? ⟨b, o + i, none⟩ = some (.int .i64 l[i]))
theorem IsV.slice {w : World} {S : Nat → Prop} {v : Value} {l : List Int} (h : IsV w S v l) : ∃ ao cap, v = .slice ao l.length cap := let ⟨_, ao, cap, e, _⟩ := h; ⟨ao, cap, e⟩
theorem IsV.mono {w w' : World} {S T : Nat → Prop} (hc : ∀ b o v, S b → w.cell? ⟨b, o, none⟩ = some v → T b ∧ w'.cell? ⟨b, o, none⟩ = some v) {v : Value} {l : List Int} (h : IsV w S v l) : IsV w' T v l := by
  obtain ⟨h1, ao, cap, h2, h3, h4, h5⟩ := h
  refine ⟨h1, ao, cap, h2, h3, h4, ?_⟩
  rcases h5 with h5 | ⟨b, o, e, hs, hx⟩
  · exact .inl h5
  · by_cases h0 : l.length = 0
    · exact .inl h0
    · exact .inr ⟨b, o, e, (hc b _ _ hs (hx 0 (by omega))).1, fun i hi => (hc b _ _ hs (hx i hi)).2⟩
theorem IsV.lw {w w' : World} {S : Nat → Prop} {v : Value} {l : List Int} (h : IsV w S v l) (hb : Below w.heap.size w w') : IsV w' S v l := h.mono (keep_all hb fun _ h => h)
theorem IsV.all {w : World} {S : Nat → Prop} {v : Value} {l : List Int} (h : IsV w S v l) : IsV w All v l := h.mono (keep_all (Below.refl _ _) fun _ _ => trivial)
theorem IsV_nil (w : World) (S : Nat → Prop) : IsV w S (.slice none 0 0) [] := ⟨by simp, none, 0, rfl, Nat.zero_le _, fun _ => rfl, .inl rfl⟩
theorem IsV.at_ {w : World} {S : Nat → Prop} {ao : Option Addr} {n cap : Nat} {l : List Int} (h : IsV w S (.slice ao n cap) l) {k : Nat} (hk : k < l.length) : ∃ b o, ao = some ⟨b, o, none⟩ ∧ w.cell? ⟨b, o + k, none⟩ = some (.int .i64 l[k]) := by
  obtain ⟨_, ao', cap', e, _, _, h5⟩ := h
  simp at e
  obtain ⟨rfl, rfl, rfl⟩ := e
  rcases h5 with h5 | ⟨b, o, rfl, _, hx⟩
  · omega
  · exact ⟨b, o, rfl, hx k hk⟩
theorem IsV_owned {w : World} {S : Nat → Prop} {base : Nat} {e : TypeId} {v : Value} {l : List Int} (h : w.ownsRow base e 1 v l.length (ints l)) (hl : l.length ≤ 9223372036854775807) (hS : ∀ k, v.ownBlock = some k → S k) : IsV w S v l := by
  have h0 := h
  obtain ⟨h1, h2 | ⟨g, cap, cur, e1, e2, e3, e4, e5⟩⟩ := h
  · have : l = [] := List.eq_nil_of_length_eq_zero h2.2
    subst this
    rw [h2.1]; exact IsV_nil _ _
  · refine ⟨hl, _, cap, e1, e4, (fun h => by cases h), .inr ⟨g, 0, rfl, hS g (by rw [e1]; rfl), fun i hi => ?_⟩⟩
    subst e1
    have := World.ownsRow.cellAt h0 i (by simpa using hi)
    rw [show 0 + i = i by omega, this]
    simp [ints, hi]
/-- The cells of a slice of numbers, for an append. -/
theorem IsV.cells {w : World} {S : Nat → Prop} {a : Addr} {n cap : Nat} {l : List Int} (h : IsV w S (.slice (some a) n cap) l) : ∀ j u, (ints l)[j]? = some u → w.cell? (a.add j) = some u := by
  intro j u hj
  have hj' : j < l.length := by
    rcases Nat.lt_or_ge j l.length with h | h
    · exact h
    · rw [List.getElem?_eq_none (by rw [ints_len]; exact h)] at hj; cases hj
  obtain ⟨b, o, e, hc⟩ := h.at_ hj'
  simp at e
  subst e
  rw [addr_add, hc, ← hj]
  simp [ints, hj']

/-! Rules. -/
structure Ru where
  left : Int
  right : List Int
  deriving DecidableEq
instance : Inhabited Ru := ⟨⟨0, []⟩⟩
/-- A slice of rules; all blocks that it goes through are of the class S. -/
def RsV (w : World) (S : Nat → Prop) (v : Value) (l : List Ru) : Prop :=
  l.length ≤ 9223372036854775807 ∧ ∃ ao cap, v = .slice ao l.length cap ∧ l.length ≤ cap ∧ (ao = none → cap = 0) ∧
    (l.length = 0 ∨ ∃ b o, ao = some ⟨b, o, none⟩ ∧ S b ∧ ∀ i (h : i < l.length), w.cell? ⟨b, o + i * 2, none⟩ = some (.int .i64 l[i].left) ∧ ∃ u, w.cell? ⟨b, o + i * 2 + 1, none⟩ = some u ∧ IsV w S u l[i].right)
theorem RsV.slice {w : World} {S : Nat → Prop} {v : Value} {l : List Ru} (h : RsV w S v l) : ∃ ao cap, v = .slice ao l.length cap := let ⟨_, ao, cap, e, _⟩ := h; ⟨ao, cap, e⟩
theorem RsV.mono {w w' : World} {S T : Nat → Prop} (hc : ∀ b o v, S b → w.cell? ⟨b, o, none⟩ = some v → T b ∧ w'.cell? ⟨b, o, none⟩ = some v) {v : Value} {l : List Ru} (h : RsV w S v l) : RsV w' T v l := by
  obtain ⟨h1, ao, cap, h2, h3, h4, h5⟩ := h
  refine ⟨h1, ao, cap, h2, h3, h4, ?_⟩
  rcases h5 with h5 | ⟨b, o, e, hs, hx⟩
  · exact .inl h5
  · by_cases h0 : l.length = 0
    · exact .inl h0
    · refine .inr ⟨b, o, e, (hc b _ _ hs (hx 0 (by omega)).1).1, fun i hi => ?_⟩
      obtain ⟨g1, u, g2, g3⟩ := hx i hi
      exact ⟨(hc b _ _ hs g1).2, u, (hc b _ _ hs g2).2, g3.mono hc⟩
theorem RsV.lw {w w' : World} {S : Nat → Prop} {v : Value} {l : List Ru} (h : RsV w S v l) (hb : Below w.heap.size w w') : RsV w' S v l := h.mono (keep_all hb fun _ h => h)
theorem RsV.all {w : World} {S : Nat → Prop} {v : Value} {l : List Ru} (h : RsV w S v l) : RsV w All v l := h.mono (keep_all (Below.refl _ _) fun _ _ => trivial)
theorem RsV.at_ {w : World} {S : Nat → Prop} {ao : Option Addr} {n cap : Nat} {l : List Ru} (h : RsV w S (.slice ao n cap) l) {k : Nat} (hk : k < l.length) :
    ∃ b o, ao = some ⟨b, o, none⟩ ∧ w.cell? ⟨b, o + k * 2, none⟩ = some (.int .i64 l[k].left) ∧ ∃ ar cr, w.cell? ⟨b, o + k * 2 + 1, none⟩ = some (.slice ar l[k].right.length cr) ∧ IsV w S (.slice ar l[k].right.length cr) l[k].right := by
  obtain ⟨_, ao', cap', e, _, _, h5⟩ := h
  simp at e
  obtain ⟨rfl, rfl, rfl⟩ := e
  rcases h5 with h5 | ⟨b, o, rfl, _, hx⟩
  · omega
  · obtain ⟨g1, u, g2, g3⟩ := hx k hk
    obtain ⟨ar, cr, rfl⟩ := g3.slice
    exact ⟨b, o, rfl, g1, ar, cr, g2, g3⟩
/-- The cells of rules. -/
def RC (w : World) (S : Nat → Prop) : List Value → List Ru → Prop
  | [], [] => True
  | a :: c :: xs, r :: l => a = .int .i64 r.left ∧ IsV w S c r.right ∧ RC w S xs l
  | _, _ => False
theorem RC.mono {w w' : World} {S T : Nat → Prop} (hc : ∀ b o v, S b → w.cell? ⟨b, o, none⟩ = some v → T b ∧ w'.cell? ⟨b, o, none⟩ = some v) :
    ∀ {xs : List Value} {l : List Ru}, RC w S xs l → RC w' T xs l
  | [], [], _ => trivial
  | _ :: _ :: _, _ :: _, ⟨h1, h2, h3⟩ => ⟨h1, h2.mono hc, RC.mono hc h3⟩
  | [], _ :: _, h => by simp [RC] at h
  | [_], _, h => by simp [RC] at h
  | _ :: _ :: _, [], h => by simp [RC] at h
theorem RC.at_ {w : World} {S : Nat → Prop} : ∀ {xs : List Value} {l : List Ru}, RC w S xs l → ∀ i (h : i < l.length), xs[i * 2]? = some (.int .i64 l[i].left) ∧ ∃ u, xs[i * 2 + 1]? = some u ∧ IsV w S u l[i].right
  | _ :: c :: _, _ :: _, ⟨h1, h2, _⟩, 0, _ => ⟨by simp [h1], c, rfl, h2⟩
  | _ :: _ :: _, _ :: _, ⟨_, _, h3⟩, i + 1, hi => by
    obtain ⟨g1, u, g2, g3⟩ := RC.at_ h3 i (by simpa using hi)
    exact ⟨by rw [show (i + 1) * 2 = i * 2 + 2 by omega]; simpa using g1, u, by rw [show (i + 1) * 2 + 1 = i * 2 + 1 + 2 by omega]; simpa using g2, by simpa using g3⟩
  | [], [], _, i, hi => by simp at hi
  | [], _ :: _, h, _, _ => by simp [RC] at h
  | [_], _, h, _, _ => by simp [RC] at h
  | _ :: _ :: _, [], h, _, _ => by simp [RC] at h
/-! Grammars. -/
structure Gm where
  vars : Int
  terms : Int
  start : Int
  rules : List Ru
  deriving DecidableEq
def GV (w : World) (S : Nat → Prop) (v : Value) (g : Gm) : Prop := ∃ u, v = .agg #[.int .i64 g.vars, .int .i64 g.terms, .int .i64 g.start, u] ∧ RsV w S u g.rules
theorem GV.mono {w w' : World} {S T : Nat → Prop} (hc : ∀ b o v, S b → w.cell? ⟨b, o, none⟩ = some v → T b ∧ w'.cell? ⟨b, o, none⟩ = some v) {v : Value} {g : Gm} (h : GV w S v g) : GV w' T v g := let ⟨u, e, h⟩ := h; ⟨u, e, h.mono hc⟩
theorem GV.lw {w w' : World} {S : Nat → Prop} {v : Value} {g : Gm} (h : GV w S v g) (hb : Below w.heap.size w w') : GV w' S v g := h.mono (keep_all hb fun _ h => h)
theorem GV.all {w : World} {S : Nat → Prop} {v : Value} {g : Gm} (h : GV w S v g) : GV w All v g := h.mono (keep_all (Below.refl _ _) fun _ _ => trivial)

/-! Regions that draw their order. -/
/-- A region whose operations read and whose calls make memory of their own alone. -/
theorem region_quiet_lit {P : Program} {id : Nat} {Q : Exit → Act → World → Prop} {a : Act} {w : World} {l : List Oper} {C : World → Prop} (hm : P.follows .mixedOrders = true) (hB : Region.lexB .any l.toArray = true) (hC : C { w with drawn := w.drawn + 1 })
    (h : wpQuiet P l.toArray C (fun a' => ∀ w', C w' → Q .normal a' w') l a) : (Code.region id l.toArray true).wp P Q a w :=
  wp_region_quiet hm hB hC (by simpa using h)
/-- A world in which all is as it was, and some is new. -/
structure Wd (w : World) where
  u : World
  h : Below w.heap.size w u
theorem Wd.drawn (w : World) : ∃ z : Wd w, { w with drawn := w.drawn + 1 } = z.u := ⟨⟨{ w with drawn := w.drawn + 1 }, ⟨rfl, rfl, rfl, Nat.le_refl _, fun _ _ => rfl⟩⟩, rfl⟩
theorem Wd.ne (w : World) : Nonempty (Wd w) := ⟨⟨w, Below.refl _ _⟩⟩
theorem Wd.cell {w : World} (x : Wd w) {b o : Nat} {v : Value} (h : w.cell? ⟨b, o, none⟩ = some v) : x.u.cell? ⟨b, o, none⟩ = some v := bkeep x.h h
theorem calls_wd {P : Program} {f : FuncId} {args : Array Value} {w : World} {x : Wd w} {v : Value} (h : Calls P f args x.u fun e w' => e = .returned v ∧ Below x.u.heap.size x.u w') :
    Calls P f args x.u fun e w'' => e = .returned v ∧ ∃ y : Wd w, w'' = y.u :=
  h.mono fun _ _ ⟨he, hb⟩ => ⟨he, ⟨_, bthen x.h hb⟩, rfl⟩
/-- A box of two numbers that may be written. -/
structure RB (w : World) (p : Nat) : Prop where
  c0 : w.cell? ⟨p, 0, none⟩ = some (.int .i64 0)
  c1 : w.cell? ⟨p, 1, none⟩ = some (.int .i64 0)
  fz : ∀ i, w.frozen? ⟨p, i, none⟩ = false
theorem RB.below {w w' : World} {p : Nat} (h : RB w p) (hb : Below w.heap.size w w') : RB w' p :=
  ⟨bkeep hb h.c0, bkeep hb h.c1, fun i => (World.frozen?_of_block (a := ⟨p, i, none⟩) (hb.block p (lt_of_cell h.c0))).trans (h.fz i)⟩
theorem np_panic {Q : Exit → Act → World → Prop} {c : List PanicEntry} {a a' : Act} {w : World} (h : NoPanic Q (.panic c) a w) : NoPanic Q (.panic c) a' w := (h : False).elim
end Go.Proofs.Ytghplmldnkcpnad.G

/- Grammars, in the document's way: lists of numbers that are the same, great grammars, kids, the rules of a nonterminal. -/
namespace Go.Proofs.Ytghplmldnkcpnad.G
open Go.RowKit

theorem Try.infoInt : (Try.prog.info? 3).map (fun i => (i.zero, i.size, i.bytes)) = some (some (.int .i64 0), 1, 8) := by kernel_rfl
theorem cell_one_at (w : World) (x : Value) (t : TypeId) {n : Nat} (hn : n = w.heap.size) : ∀ j u, [x][j]? = some u → (w.alloc (.cells #[x] t)).cell? ((⟨n, 0, none⟩ : Addr).add j) = some u := by
  subst hn
  intro j u hj
  match j, hj with
  | 0, hj => simp at hj; subst hj; simp [Addr.add]
  | n + 1, hj => simp at hj
theorem ne_at {l m : List Int} {k : Nat} (h1 : k < l.length) (h2 : k < m.length) (h : ¬ l[k] = m[k]) : ¬ l = m := fun e => h (by subst e; rfl)
theorem eq_of_at {α : Type} {l m : List α} (h1 : l.length = m.length) (h : ∀ j, j < l.length → l[j]? = m[j]?) : l = m := by
  apply List.ext_getElem? 
  intro i
  rcases Nat.lt_or_ge i l.length with h' | h'
  · exact h i h'
  · rw [List.getElem?_eq_none h', List.getElem?_eq_none (by omega)]
set_option maxRecDepth 100000 in
set_option maxHeartbeats 4000000 in
theorem sameInts_any (l m : List Int) (va vb : Value) (w : World) (ha : IsV w All va l) (hb : IsV w All vb m) :
    Calls Try.prog 11 #[va, vb] w fun e w' => e = .returned (.bool (decide (l = m))) ∧ Below w.heap.size w w' := by
  obtain ⟨ao, cap, rfl⟩ := ha.slice
  obtain ⟨ao', cap', rfl⟩ := hb.slice
  have hl := ha.1
  have hm := hb.1
  by_cases hlm : l.length = m.length
  · go_enter Try.func11, Try.ntmps11
    rw [← hlm]
    have HLM := hd hlm
    clear hlm
    go_wp2_with fail
    go_loopw [5] (fun i wr => ∃ k : Nat, k ≤ l.length ∧ i = .int .i64 k ∧ Hid (∀ j, j < k → l[j]? = m[j]?) ∧ Below w.heap.size w wr) (fun i _ => l.length - (intOf i).toNat)
    case atStart => exact ⟨0, Nat.zero_le _, rfl, hd (fun j hj => absurd hj (Nat.not_lt_zero _)), Below.refl _ _⟩
    case round =>
      obtain ⟨k, hk, rfl, hall, bel⟩ := hrel
      by_cases hlt : k < l.length
      · have hlt' : k < m.length := by have := HLM.out; omega
        obtain ⟨b, o, rfl, c0⟩ := (ha.lw bel).at_ hlt
        obtain ⟨b', o', rfl, c1⟩ := (hb.lw bel).at_ hlt'
        have HN := hd (ne_at hlt hlt')
        have HE : Hid (l[k] = m[k] → l[k]? = m[k]?) := hd (fun e => by rw [List.getElem?_eq_getElem hlt, List.getElem?_eq_getElem hlt', e])
        generalize l[k] = x at *
        generalize m[k] = y at *
        clear hlt'
        by_cases hxy : x = y
        · have HE' := hd (HE.out hxy)
          subst hxy
          go_wp2_with fail
          go_region
          all_goals
            go_wp2_with fail
            go_roundw
            case rel => exact ⟨k + 1, by omega, by go_num, hd (fun j hj => by
              by_cases e : j = k
              · subst e; exact HE'.out
              · exact hall.out j (by omega)), bel.drew⟩
            case measure => simp [intOf]; omega
        · have HN' := hd (HN.out hxy)
          have hb' : (x != y) = true := by simpa using hxy
          clear hxy
          go_wp2_with fail
          go_region
          all_goals
            go_wp2_with fail
            go_ret
            exact ⟨ret_bool (by simpa using HN'.out), bel.drew⟩
      · have he : l = m := eq_of_at HLM.out fun j hj => hall.out j (by omega)
        have HE := hd he
        clear he
        go_wp2_with fail
        go_ret
        exact ⟨ret_bool (by simpa using HE.out), bel⟩
  · have hne : ¬ l = m := fun e => hlm (by rw [e])
    have HNE := hd hne
    clear hne
    have hb' : ((l.length : Int) != (m.length : Int)) = true := by simp; omega
    go_enter Try.func11, Try.ntmps11
    go_wp2_with fail
    go_ret
    exact ⟨ret_bool (by simpa using HNE.out), Below.refl _ _⟩

/-- Not great. -/
def Small (l : List Ru) : Prop := l.length ≤ 400 ∧ ∀ i (h : i < l.length), l[i].right.length ≤ 100
/-- The nonterminals of a right side. -/
def kidsL (l : List Int) : List Int := l.filter (fun s => decide (0 ≤ s))
theorem kidsL_len (l : List Int) : (kidsL l).length ≤ l.length := List.length_filter_le _ _
theorem take_snoc {α : Type} (l : List α) {k : Nat} (h : k < l.length) : l.take (k + 1) = l.take k ++ [l[k]] := List.take_succ_eq_append_getElem h
theorem kidsL_yes {l : List Int} {k : Nat} (h : k < l.length) (hp : 0 ≤ l[k]) : kidsL (l.take (k + 1)) = kidsL (l.take k) ++ [l[k]] := by
  rw [take_snoc l h]; simp only [kidsL, List.filter_append, List.filter_cons, List.filter_nil, hp]; simp
theorem kidsL_no {l : List Int} {k : Nat} (h : k < l.length) (hp : ¬ 0 ≤ l[k]) : kidsL (l.take (k + 1)) = kidsL (l.take k) := by
  rw [take_snoc l h]; simp only [kidsL, List.filter_append, List.filter_cons, List.filter_nil, hp]; simp
end Go.Proofs.Ytghplmldnkcpnad.G

/- What stays as it was; numbers behind a slice of one's own. -/
namespace Go.Proofs.Ytghplmldnkcpnad.G
open Go.RowKit
/-- All blocks but one are as they were. -/
structure But (r : Nat) (w w' : World) : Prop where
  os : w'.os = w.os
  tape : w'.tape = w.tape
  output : w'.output = w.output
  size : w.heap.size ≤ w'.heap.size
  block : ∀ k, k < w.heap.size → k ≠ r → w'.heap[k]? = w.heap[k]?
theorem But.refl (r : Nat) (w : World) : But r w w := ⟨rfl, rfl, rfl, Nat.le_refl _, fun _ _ _ => rfl⟩
theorem But.trans {r : Nat} {a b c : World} (h : But r a b) (k : But r b c) : But r a c :=
  ⟨k.os.trans h.os, k.tape.trans h.tape, k.output.trans h.output, Nat.le_trans h.size k.size, fun i hi hr => (k.block i (Nat.lt_of_lt_of_le hi h.size) hr).trans (h.block i hi hr)⟩
theorem But.of_below {r : Nat} {w w' : World} (h : Below w.heap.size w w') : But r w w' := ⟨h.os, h.tape, h.output, h.size, fun k hk _ => h.block k hk⟩
theorem But.below {r B : Nat} {w w' : World} (h : But r w w') (hr : B ≤ r) (hB : B ≤ w.heap.size) : Below B w w' := ⟨h.os, h.tape, h.output, h.size, fun k hk => h.block k (by omega) (by omega)⟩
theorem But.setCell {r : Nat} {a w : World} (h : But r a w) {p : Addr} (hp : p.block = r ∨ a.heap.size ≤ p.block) (u : Value) : But r a (w.setCell p u) :=
  ⟨h.os, h.tape, h.output, by simpa [World.setCell] using h.size, fun k hk hr => by rw [Below.heap_setCell _ _ _ _ (by omega)]; exact h.block k hk hr⟩
theorem But.grown {r : Nat} {a w w' : World} {row : Option Nat} (h : But r a w) (hg : w.grownBy w' row) (hr : ∀ k, row = some k → a.heap.size ≤ k) : But r a w' :=
  ⟨hg.os.trans h.os, hg.tape.trans h.tape, hg.output.trans h.output, Nat.le_trans h.size hg.size, fun k hk hk' => by rw [hg.block k (Nat.lt_of_lt_of_le hk h.size) (fun e => by have := hr k e.symm; omega)]; exact h.block k hk hk'⟩
theorem But.cell {r : Nat} {w w' : World} (h : But r w w') {b o : Nat} (hb : b < w.heap.size) (hr : b ≠ r) : w'.cell? ⟨b, o, none⟩ = w.cell? ⟨b, o, none⟩ :=
  World.cell?_of_block (w := w) (a := ⟨b, o, none⟩) (h.block b hb hr)
/-- All blocks of a class are as they were. -/
structure Kp (S : Nat → Prop) (w w' : World) : Prop where
  size : w.heap.size ≤ w'.heap.size
  block : ∀ k, k < w.heap.size → S k → w'.heap[k]? = w.heap[k]?
theorem Kp.refl (S : Nat → Prop) (w : World) : Kp S w w := ⟨Nat.le_refl _, fun _ _ _ => rfl⟩
theorem Kp.trans {S : Nat → Prop} {a b c : World} (h : Kp S a b) (k : Kp S b c) : Kp S a c := ⟨Nat.le_trans h.size k.size, fun i hi hs => (k.block i (Nat.lt_of_lt_of_le hi h.size) hs).trans (h.block i hi hs)⟩
theorem Kp.of_below {S : Nat → Prop} {a b : World} (h : Below a.heap.size a b) : Kp S a b := ⟨h.size, fun k hk _ => h.block k hk⟩
theorem Kp.alloc {S : Nat → Prop} {a w : World} (h : Kp S a w) (o : Obj) : Kp S a (w.alloc o) := h.trans (Kp.of_below (al1 _ _))
theorem Kp.setCell {S : Nat → Prop} {a w : World} (h : Kp S a w) {p : Addr} (hp : ¬ S p.block ∨ a.heap.size ≤ p.block) (u : Value) : Kp S a (w.setCell p u) :=
  ⟨by simpa [World.setCell] using h.size, fun k hk hs => by rw [Below.heap_setCell _ _ _ _ (fun e => by subst e; rcases hp with hp | hp; exact hp hs; omega)]; exact h.block k hk hs⟩
theorem Kp.grown {S : Nat → Prop} {a w w' : World} {row : Option Nat} (h : Kp S a w) (hg : w.grownBy w' row) (hr : ∀ k, row = some k → ¬ S k ∨ a.heap.size ≤ k) : Kp S a w' :=
  ⟨Nat.le_trans h.size hg.size, fun k hk hs => by rw [hg.block k (Nat.lt_of_lt_of_le hk h.size) (fun e => by rcases hr k e.symm with hp | hp; exact hp hs; omega)]; exact h.block k hk hs⟩
theorem IsV.kp {w w' : World} {S T : Nat → Prop} {v : Value} {x : List Int} (h : IsV w S v x) (hk : Kp S w w') (hT : ∀ k, k < w.heap.size → S k → T k) : IsV w' T v x := h.mono (keep_cell hT hk.block)
theorem RsV.kp {w w' : World} {S T : Nat → Prop} {v : Value} {x : List Ru} (h : RsV w S v x) (hk : Kp S w w') (hT : ∀ k, k < w.heap.size → S k → T k) : RsV w' T v x := h.mono (keep_cell hT hk.block)
theorem RC.kp {w w' : World} {S T : Nat → Prop} {v : List Value} {x : List Ru} (h : RC w S v x) (hk : Kp S w w') (hT : ∀ k, k < w.heap.size → S k → T k) : RC w' T v x := h.mono (keep_cell hT hk.block)
theorem grown_below {w w' : World} (h : w.grownBy w' none) : Below w.heap.size w w' := ⟨h.os, h.tape, h.output, h.size, fun k hk => h.block k hk (by simp)⟩
end Go.Proofs.Ytghplmldnkcpnad.G

/- A grammar that comes in: what its reading says of its cells. -/
namespace Go.Proofs.Ytghplmldnkcpnad.G
open Go.RowKit Go.WideShapes
theorem pick_lt {α : Type} [Inhabited α] {n : Nat} {p : Nat → α → Prop} (h : ∀ i, i < n → ∃ x, p i x) : ∃ f : Nat → α, ∀ i, i < n → p i (f i) := by
  classical
  refine ⟨fun i => if hi : i < n then Classical.choose (h i hi) else default, fun i hi => ?_⟩
  simp only [dif_pos hi]
  exact Classical.choose_spec (h i hi)
section
variable {H : Type} {enc : TypeId × Value → H} {w : World} {base : Nat} {spare : Nat → Bool} {held : Bool}
theorem cellsInt : Try.prog.cellsOf 3 = 1 := by kernel_rfl
/-- An address of a cell that is there. -/
theorem plain_addr {a : Addr} {v : Value} (h : w.cell? (a.add 0) = some v) : ∃ b o, a = ⟨b, o, none⟩ := by
  obtain ⟨b, o, s⟩ := a
  have hs : s = none := by simpa [Addr.add] using World.cell?_spot h
  exact ⟨b, o, by rw [hs]⟩
end
end Go.Proofs.Ytghplmldnkcpnad.G

/- Trees: as plain data, and as they lie in memory. -/
namespace Go.Proofs.Ytghplmldnkcpnad.G
open Go.RowKit Go.WideShapes

/-- A row of trees: the first one's rule and trees below it; the others. -/
inductive Tf where
  | nil
  | cons (rule : Int) (kids rest : Tf)
  deriving DecidableEq
structure Tr where
  rule : Int
  kids : Tf
  deriving DecidableEq
instance : Inhabited Tr := ⟨⟨0, .nil⟩⟩
def Tf.len : Tf → Nat
  | .nil => 0
  | .cons _ _ r => r.len + 1
def Tf.at_ : Tf → Nat → Tr
  | .nil, _ => ⟨0, .nil⟩
  | .cons a c _, 0 => ⟨a, c⟩
  | .cons _ _ r, i + 1 => r.at_ i
/-- What comes behind the first k. -/
def Tf.drp : Tf → Nat → Tf
  | f, 0 => f
  | .nil, _ + 1 => .nil
  | .cons _ _ r, k + 1 => r.drp k
/-- How many trees there are in it, at any depth. -/
def Tf.sz : Tf → Nat
  | .nil => 0
  | .cons _ k r => 1 + k.sz + r.sz
def Tr.sz (t : Tr) : Nat := 1 + t.kids.sz
theorem Tf.drp_at : ∀ {f : Tf} {k : Nat}, k < f.len → f.drp k = .cons (f.at_ k).rule (f.at_ k).kids (f.drp (k + 1))
  | .nil, _, h => absurd h (Nat.not_lt_zero _)
  | .cons _ _ r, 0, _ => by cases r <;> rfl
  | .cons _ _ r, k + 1, h => by
    have := Tf.drp_at (f := r) (k := k) (by simpa [Tf.len] using h)
    simp only [Tf.drp, Tf.at_]
    rw [this]
theorem Tf.drp_end : ∀ {f : Tf} {k : Nat}, f.len ≤ k → f.drp k = .nil
  | .nil, 0, _ => rfl
  | .nil, _ + 1, _ => rfl
  | .cons .., 0, h => by simp [Tf.len] at h
  | .cons _ _ r, k + 1, h => Tf.drp_end (f := r) (by simpa [Tf.len] using h)
theorem Tf.drp_zero (f : Tf) : f.drp 0 = f := by cases f <;> rfl
theorem Tf.sz_drp {f : Tf} {k : Nat} (h : k < f.len) : (f.drp k).sz = (f.at_ k).sz + (f.drp (k + 1)).sz := by rw [Tf.drp_at h]; rfl

/-- A row of trees lies in a block from a place on; all blocks that it goes through are of the class S. -/
def Tf.In (w : World) (S : Nat → Prop) : Tf → Nat → Nat → Prop
  | .nil, _, _ => True
  | .cons rule kids rest, b, o => S b ∧ w.cell? ⟨b, o, none⟩ = some (.int .i64 rule) ∧
      (kids.len ≤ 9223372036854775807 ∧ ∃ ao cap, w.cell? ⟨b, o + 1, none⟩ = some (.slice ao kids.len cap) ∧ kids.len ≤ cap ∧ (ao = none → cap = 0) ∧ (kids.len = 0 ∨ ∃ b' o', ao = some ⟨b', o', none⟩ ∧ kids.In w S b' o')) ∧ rest.In w S b (o + 2)
/-- A slice's value. -/
def TfV (w : World) (S : Nat → Prop) (v : Value) (f : Tf) : Prop :=
  f.len ≤ 9223372036854775807 ∧ ∃ ao cap, v = .slice ao f.len cap ∧ f.len ≤ cap ∧ (ao = none → cap = 0) ∧ (f.len = 0 ∨ ∃ b o, ao = some ⟨b, o, none⟩ ∧ f.In w S b o)
/-- A tree's value. -/
def TrV (w : World) (S : Nat → Prop) (v : Value) (t : Tr) : Prop := ∃ u, v = .agg #[.int .i64 t.rule, u] ∧ TfV w S u t.kids
/-- A tree's cells. -/
def TrIn (w : World) (S : Nat → Prop) (t : Tr) (b o : Nat) : Prop :=
  w.cell? ⟨b, o, none⟩ = some (.int .i64 t.rule) ∧ ∃ u, w.cell? ⟨b, o + 1, none⟩ = some u ∧ TfV w S u t.kids
theorem Tf.In.at_ {w : World} {S : Nat → Prop} : ∀ {f : Tf} {b o : Nat}, f.In w S b o → ∀ i, i < f.len → TrIn w S (f.at_ i) b (o + i * 2)
  | .nil, _, _, _, i, hi => by simp [Tf.len] at hi
  | .cons rule kids rest, b, o, h, 0, _ => by
    obtain ⟨h0, h1, ⟨h3, ao, cap, h4, h5⟩, _⟩ := h
    exact ⟨by simpa [Tf.at_] using h1, _, by simpa [Tf.at_] using h4, h3, ao, cap, rfl, h5⟩
  | .cons rule kids rest, b, o, h, i + 1, hi => by
    have := Tf.In.at_ (f := rest) h.2.2.2 i (by simpa [Tf.len] using hi)
    rwa [show o + 2 + i * 2 = o + (i + 1) * 2 by omega] at this
theorem Tf.In.mono {w w' : World} {S T : Nat → Prop} (hc : ∀ b o v, S b → w.cell? ⟨b, o, none⟩ = some v → T b ∧ w'.cell? ⟨b, o, none⟩ = some v) :
    ∀ {f : Tf} {b o : Nat}, f.In w S b o → f.In w' T b o
  | .nil, _, _, _ => trivial
  | .cons _ _ _, _, _, ⟨h0, h1, ⟨h3, ao, cap, h4, h7, h8, h5⟩, h6⟩ =>
    ⟨(hc _ _ _ h0 h1).1, (hc _ _ _ h0 h1).2, ⟨h3, ao, cap, (hc _ _ _ h0 h4).2, h7, h8, h5.imp id fun ⟨b', o', e, h⟩ => ⟨b', o', e, Tf.In.mono hc h⟩⟩, Tf.In.mono hc h6⟩
theorem TfV.mono {w w' : World} {S T : Nat → Prop} (hc : ∀ b o v, S b → w.cell? ⟨b, o, none⟩ = some v → T b ∧ w'.cell? ⟨b, o, none⟩ = some v) {v : Value} {f : Tf} (h : TfV w S v f) : TfV w' T v f :=
  let ⟨h1, ao, cap, h2, h7, h8, h3⟩ := h
  ⟨h1, ao, cap, h2, h7, h8, h3.imp id fun ⟨b, o, e, h⟩ => ⟨b, o, e, Tf.In.mono hc h⟩⟩
theorem TrV.mono {w w' : World} {S T : Nat → Prop} (hc : ∀ b o v, S b → w.cell? ⟨b, o, none⟩ = some v → T b ∧ w'.cell? ⟨b, o, none⟩ = some v) {v : Value} {x : Tr} (h : TrV w S v x) : TrV w' T v x :=
  let ⟨u, h1, h2⟩ := h
  ⟨u, h1, TfV.mono hc h2⟩
theorem TfV.lw {w w' : World} {S : Nat → Prop} {v : Value} {f : Tf} (h : TfV w S v f) (hb : Below w.heap.size w w') : TfV w' S v f := h.mono (keep_all hb fun _ h => h)
theorem TrV.lw {w w' : World} {S : Nat → Prop} {v : Value} {t : Tr} (h : TrV w S v t) (hb : Below w.heap.size w w') : TrV w' S v t := h.mono (keep_all hb fun _ h => h)
theorem TfV.all {w : World} {S : Nat → Prop} {v : Value} {f : Tf} (h : TfV w S v f) : TfV w All v f := h.mono (keep_all (Below.refl _ _) fun _ _ => trivial)
theorem TrV.all {w : World} {S : Nat → Prop} {v : Value} {t : Tr} (h : TrV w S v t) : TrV w All v t := h.mono (keep_all (Below.refl _ _) fun _ _ => trivial)
theorem TfV.kp {w w' : World} {S T : Nat → Prop} {v : Value} {x : Tf} (h : TfV w S v x) (hk : Kp S w w') (hT : ∀ k, k < w.heap.size → S k → T k) : TfV w' T v x := h.mono (keep_cell hT hk.block)
theorem TrV.kp {w w' : World} {S T : Nat → Prop} {v : Value} {x : Tr} (h : TrV w S v x) (hk : Kp S w w') (hT : ∀ k, k < w.heap.size → S k → T k) : TrV w' T v x := h.mono (keep_cell hT hk.block)
theorem TfV_nil (w : World) (S : Nat → Prop) : TfV w S (.slice none 0 0) .nil := ⟨by simp [Tf.len], none, 0, rfl, Nat.zero_le _, fun _ => rfl, .inl rfl⟩
theorem TfV.slice {w : World} {S : Nat → Prop} {v : Value} {f : Tf} (h : TfV w S v f) : ∃ ao cap, v = .slice ao f.len cap ∧ f.len ≤ cap := let ⟨_, ao, cap, e, hc, _⟩ := h; ⟨ao, cap, e, hc⟩
theorem Tf.In.cls {w : World} {S : Nat → Prop} {f : Tf} {b o : Nat} (h : f.In w S b o) (h0 : f.len ≠ 0) : S b := by
  cases f with
  | nil => simp [Tf.len] at h0
  | cons => exact h.1
theorem TfV.at_ {w : World} {S : Nat → Prop} {ao : Option Addr} {n cap : Nat} {f : Tf} (h : TfV w S (.slice ao n cap) f) {k : Nat} (hk : k < f.len) :
    ∃ b o, ao = some ⟨b, o, none⟩ ∧ S b ∧ w.cell? ⟨b, o + k * 2, none⟩ = some (.int .i64 (f.at_ k).rule) ∧ ∃ aq cq, w.cell? ⟨b, o + k * 2 + 1, none⟩ = some (.slice aq (f.at_ k).kids.len cq) ∧ TfV w S (.slice aq (f.at_ k).kids.len cq) (f.at_ k).kids := by
  obtain ⟨_, ao', cap', e, _, _, h5⟩ := h
  simp at e
  obtain ⟨rfl, rfl, rfl⟩ := e
  rcases h5 with h5 | ⟨b, o, rfl, hin⟩
  · omega
  · obtain ⟨g1, u, g3, g4⟩ := hin.at_ k hk
    have hS : S b := hin.cls (by omega)
    have g4' := g4
    obtain ⟨aq, cq, rfl, _⟩ := g4'.slice
    exact ⟨b, o, rfl, hS, g1, aq, cq, g3, g4⟩
theorem TrV_mk {w : World} {S : Nat → Prop} {t : Tr} {v : Value} (h : TfV w S v t.kids) : TrV w S (.agg #[.int .i64 t.rule, v]) t := ⟨_, rfl, h⟩
theorem TfV.drop1 {w : World} {S : Nat → Prop} {ao : Option Addr} {n cap : Nat} {f : Tf} (h : TfV w S (.slice ao n cap) f) (hk : f.len ≠ 0) : TfV w S (sliced ao 1 n cap 2) (f.drp 1) := by
  obtain ⟨h1, ao', cap', e, hc, hno, h5⟩ := h
  simp at e
  obtain ⟨rfl, rfl, rfl⟩ := e
  cases f with
  | nil => simp [Tf.len] at hk
  | cons rule kids rest =>
    have hd : (Tf.cons rule kids rest).drp 1 = rest := by cases rest <;> rfl
    rw [hd]
    simp only [Tf.len] at h1 hc h5
    unfold sliced
    refine ⟨by omega, (if cap = 1 then ao else ao.map (·.add (1 * 2))), cap - 1, by simp [Tf.len], by omega, ?_, ?_⟩
    · intro h
      by_cases h1 : cap = 1
      · omega
      · rw [if_neg h1] at h
        have := hno (by cases ao <;> simp_all)
        omega
    rcases h5 with h5 | ⟨b, o, rfl, hin⟩
    · omega
    · by_cases h0 : rest.len = 0
      · exact .inl h0
      · have hne : ¬ cap = 1 := by omega
        exact .inr ⟨b, o + 2, by simp [hne, addr_add], hin.2.2.2⟩

/-- The cells of a row of trees. -/
def TC (w : World) (S : Nat → Prop) : List Value → Tf → Prop
  | [], .nil => True
  | a :: c :: xs, .cons rule kids rest => a = .int .i64 rule ∧ TfV w S c kids ∧ TC w S xs rest
  | _, _ => False
theorem TC.mono {w w' : World} {S T : Nat → Prop} (hc : ∀ b o v, S b → w.cell? ⟨b, o, none⟩ = some v → T b ∧ w'.cell? ⟨b, o, none⟩ = some v) :
    ∀ {xs : List Value} {f : Tf}, TC w S xs f → TC w' T xs f
  | [], .nil, _ => trivial
  | _ :: _ :: _, .cons .., ⟨h1, h3, h4⟩ => ⟨h1, TfV.mono hc h3, TC.mono hc h4⟩
  | [], .cons .., h => by simp [TC] at h
  | [_], _, h => by simp [TC] at h
  | _ :: _ :: _, .nil, h => by simp [TC] at h
theorem TC.kp {w w' : World} {S T : Nat → Prop} {v : List Value} {x : Tf} (h : TC w S v x) (hk : Kp S w w') (hT : ∀ k, k < w.heap.size → S k → T k) : TC w' T v x := h.mono (keep_cell hT hk.block)
/-! Trees that come in. -/
def Tf.of (f : Nat → Tr) : Nat → Nat → Tf
  | _, 0 => .nil
  | s, n + 1 => .cons (f s).rule (f s).kids (Tf.of f (s + 1) n)
theorem Tf.of_len (f : Nat → Tr) : ∀ s n, (Tf.of f s n).len = n
  | _, 0 => rfl
  | s, n + 1 => by simp [Tf.of, Tf.len, Tf.of_len f (s + 1) n]
theorem Tf.of_in {w : World} {f : Nat → Tr} {b o : Nat} : ∀ s n, (∀ i, s ≤ i → i < s + n → TrIn w All (f i) b (o + i * 2)) → (Tf.of f s n).In w All b (o + s * 2)
  | _, 0, _ => trivial
  | s, n + 1, h => by
    obtain ⟨h1, u, h3, hl, ao, cap, rfl, hcp, hno, hin⟩ := h s (Nat.le_refl _) (by omega)
    refine ⟨trivial, h1, ⟨hl, ao, cap, h3, hcp, hno, hin⟩, ?_⟩
    have := Tf.of_in (w := w) (f := f) (b := b) (o := o) (s + 1) n fun i h1 h2 => h i (by omega) (by omega)
    rwa [show o + (s + 1) * 2 = o + s * 2 + 2 by omega] at this
section
variable {H : Type} {enc : TypeId × Value → H} {w : World} {base : Nat} {spare : Nat → Bool} {held : Bool}
theorem cellsTree : Try.prog.cellsOf 27 = 2 := by kernel_rfl
theorem cellsTrees : Try.prog.cellsOf 25 = 1 := by kernel_rfl
set_option maxRecDepth 100000 in
theorem open_treeC : ∀ (fuel : Nat) (cs : List Value) (x : DataW H × List MemPlace), DataW.trod enc Try.prog w base spare held fuel 27 cs = some x → ∃ (y : Tr) (u : Value), cs = [.int .i64 y.rule, u] ∧ TfV w All u y.kids := by
  intro fuel
  induction fuel using Nat.strongRecOn with
  | _ fuel ih =>
    intro cs x h
    obtain ⟨xs, n, rfl, rfl, hl, hlen, hf⟩ := DataW.trod_struct Try.underlying27 h
    rw [cellsTree] at hl
    match cs, hl with
    | [a, b], _ =>
    match xs, hlen with
    | [y0, y1], _ =>
    have f0 : DataW.trod enc Try.prog w base spare held n 3 (([a, b].drop 0).take (Try.prog.cellsOf 3)) = some y0 := hf 0 _ rfl
    have f1 : DataW.trod enc Try.prog w base spare held n 25 (([a, b].drop 1).take (Try.prog.cellsOf 25)) = some y1 := hf 1 _ rfl
    rw [cellsInt] at f0
    rw [cellsTrees] at f1
    obtain ⟨op, e0, _, _⟩ := DataW.trod_int Try.underlying3 f0
    simp at e0
    subst e0
    rcases DataW.trod_slice Try.underlying25 f1 with ⟨e2, _⟩ | ⟨ad, len, cap, elems, rest, m, rfl, e2, _, hb, hlc, hcm, hel, hall, _, _⟩
    · simp at e2
      subst e2
      exact ⟨⟨op, .nil⟩, _, rfl, TfV_nil _ _⟩
    · simp at e2
      subst e2
      rw [cellsTree] at hall
      have one : ∀ i, i < len → ∃ y : Tr, ∃ u, w.cell? (ad.add (i * 2)) = some (.int .i64 y.rule) ∧ w.cell? ((ad.add (i * 2)).add 1) = some u ∧ TfV w All u y.kids := by
        intro i hi
        have h1 := hall i hi
        rw [List.getElem?_eq_getElem (by omega)] at h1
        obtain ⟨cs', h2, h3⟩ := Option.bind_eq_some_iff.1 h1
        obtain ⟨y, u, rfl, hy⟩ := ih m (by omega) cs' _ h3
        obtain ⟨_, _, hc⟩ := World.cells?_some h2
        have c0 := hc 0 (by omega)
        have c1 := hc 1 (by omega)
        refine ⟨y, u, ?_, c1, hy⟩
        have : (ad.add (i * 2)).add 0 = ad.add (i * 2) := by unfold Addr.add; simp
        rw [← this]; exact c0
      obtain ⟨f, hff⟩ := pick_lt one
      have hmx : cap ≤ 9223372036854775807 := by unfold maxLen at hcm; omega
      refine ⟨⟨op, Tf.of f 0 len⟩, _, rfl, by rw [Tf.of_len]; omega, some ad, cap, by rw [Tf.of_len], by rw [Tf.of_len]; exact hlc, (fun h => by cases h), ?_⟩
      rw [Tf.of_len]
      by_cases h0 : len = 0
      · exact .inl h0
      · right
        obtain ⟨u, g0, _⟩ := hff 0 (by omega)
        obtain ⟨b', o', rfl⟩ := plain_addr (w := w) (a := ad) (by simpa using g0)
        refine ⟨b', o', rfl, ?_⟩
        have := Tf.of_in (w := w) (f := f) (b := b') (o := o') 0 len fun i _ hi => by
          obtain ⟨u, g0, g1, g3⟩ := hff i (by omega)
          rw [addr_add] at g0 g1
          rw [addr_add] at g1
          exact ⟨g0, u, g1, g3⟩
        simpa using this
set_option maxRecDepth 100000 in
theorem open_tree {v : Value} {d : DataW H} {ps : List MemPlace} {b2 : Nat} (hv : Value.okWide Try.prog w .any b2 27 v) (h : DataW.Trod enc Try.prog w base spare held 27 v d ps) : ∃ t : Tr, TrV w All v t := by
  obtain ⟨vs, rfl, hvs⟩ := okWide_struct Try.underlying27 hv
  obtain ⟨fuel, h⟩ := h
  rw [cellsTree] at hvs
  obtain ⟨a, u, rfl⟩ : ∃ a u, vs = #[a, u] := by
    obtain ⟨l⟩ := vs
    match l, hvs with
    | [a, u], _ => exact ⟨a, u, rfl⟩
  obtain ⟨y, u', e, hy⟩ := open_treeC fuel [a, u] _ h
  simp only [List.cons.injEq, and_true] at e
  obtain ⟨rfl, rfl⟩ := e
  exact ⟨y, _, rfl, hy⟩
end
end Go.Proofs.Ytghplmldnkcpnad.G

/- Trees in memory of their own: the program's copy, the document's copy. -/
namespace Go.Proofs.Ytghplmldnkcpnad.G
open Go.RowKit
/-! The document's. -/
end Go.Proofs.Ytghplmldnkcpnad.G
