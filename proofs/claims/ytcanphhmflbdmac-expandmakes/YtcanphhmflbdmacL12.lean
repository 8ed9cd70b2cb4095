/- On the way to a grammar: the state in memory, and what stays. -/
import Derived.Test.YtcanphhmflbdmacL09
import Derived.Test.YtcanphhmflbdmacL10
import Derived.Test.YtcanphhmflbdmacL11
namespace Go.Proofs.Ytcanphhmflbdmac
open Go.RowKit G

/-- All blocks but one, and but the rules' own, are as they were. -/
structure Fm (r : Nat) (q : Option Nat) (w w' : World) : Prop where
  os : w'.os = w.os
  tape : w'.tape = w.tape
  output : w'.output = w.output
  size : w.heap.size ≤ w'.heap.size
  block : ∀ k, k < w.heap.size → k ≠ r → q ≠ some k → w'.heap[k]? = w.heap[k]?
/-- The rules' own block: the same one, or a new one. -/
def Own (w : World) (q q' : Option Nat) : Prop := q' = q ∨ ∃ g, q' = some g ∧ w.heap.size ≤ g
theorem Own.refl (w : World) (q : Option Nat) : Own w q q := .inl rfl
theorem Own.trans {a b : World} {p q s : Option Nat} (h : Own a p q) (k : Own b q s) (hab : a.heap.size ≤ b.heap.size) : Own a p s := by
  rcases k with rfl | ⟨g, e, hg⟩
  · exact h
  · exact .inr ⟨g, e, by omega⟩
theorem Own.ne {w : World} {q q' : Option Nat} (h : Own w q q') {k : Nat} (hk : k < w.heap.size) (hq : q ≠ some k) : q' ≠ some k := by
  rcases h with rfl | ⟨g, rfl, hg⟩
  · exact hq
  · intro e; simp at e; omega
theorem Fm.refl (r : Nat) (q : Option Nat) (w : World) : Fm r q w w := ⟨rfl, rfl, rfl, Nat.le_refl _, fun _ _ _ _ => rfl⟩
theorem Fm.trans {r : Nat} {q q' : Option Nat} {a b c : World} (h : Fm r q a b) (k : Fm r q' b c) (ho : Own a q q') : Fm r q a c :=
  ⟨k.os.trans h.os, k.tape.trans h.tape, k.output.trans h.output, Nat.le_trans h.size k.size, fun i hi hr hq => (k.block i (Nat.lt_of_lt_of_le hi h.size) hr (ho.ne hi hq)).trans (h.block i hi hr hq)⟩
theorem Fm.of_below {r : Nat} {q : Option Nat} {w w' : World} (h : Below w.heap.size w w') : Fm r q w w' := ⟨h.os, h.tape, h.output, h.size, fun k hk _ _ => h.block k hk⟩
theorem Fm.below {r : Nat} {q : Option Nat} {w w' : World} (h : Fm r q w w') {B : Nat} (hr : B ≤ r) (hq : ∀ k, q = some k → B ≤ k) (hB : B ≤ w.heap.size) : Below B w w' :=
  ⟨h.os, h.tape, h.output, h.size, fun k hk => h.block k (by omega) (by omega) (fun e => by have := hq k e; omega)⟩
theorem Fm.thenB {r : Nat} {q : Option Nat} {a b c : World} (h : Fm r q a b) (k : Below b.heap.size b c) : Fm r q a c := h.trans (Fm.of_below (q := q) k) (.inl rfl)
theorem Fm.setCell {r : Nat} {q : Option Nat} {a w : World} (h : Fm r q a w) {p : Addr} (hp : p.block = r ∨ a.heap.size ≤ p.block) (u : Value) : Fm r q a (w.setCell p u) :=
  ⟨h.os, h.tape, h.output, by simpa [World.setCell] using h.size, fun k hk hr hq => by rw [Below.heap_setCell _ _ _ _ (by omega)]; exact h.block k hk hr hq⟩
theorem Fm.grown {r : Nat} {q row : Option Nat} {a w w' : World} (h : Fm r q a w) (hg : w.grownBy w' row) (hr : row = q ∨ ∀ k, row = some k → a.heap.size ≤ k) : Fm r q a w' :=
  ⟨hg.os.trans h.os, hg.tape.trans h.tape, hg.output.trans h.output, Nat.le_trans h.size hg.size, fun k hk hk' hq => by
    rw [hg.block k (Nat.lt_of_lt_of_le hk h.size) (fun e => by
      rcases hr with hr | hr
      · exact hq (hr ▸ e.symm)
      · have := hr k e.symm; omega)]
    exact h.block k hk hk' hq⟩
theorem Fm.cell {r : Nat} {q : Option Nat} {w w' : World} (h : Fm r q w w') {b o : Nat} {v : Value} (hc : w.cell? ⟨b, o, none⟩ = some v) (hr : b ≠ r) (hq : q ≠ some b) : w'.cell? ⟨b, o, none⟩ = some v := by
  rw [World.cell?_of_block (w := w) (a := ⟨b, o, none⟩) (h.block b (lt_of_cell hc) hr hq)]; exact hc
theorem Fm.frozen {r : Nat} {q : Option Nat} {w w' : World} (h : Fm r q w w') {b o : Nat} (hb : b < w.heap.size) (hr : b ≠ r) (hq : q ≠ some b) : w'.frozen? ⟨b, o, none⟩ = w.frozen? ⟨b, o, none⟩ :=
  World.frozen?_of_block (w := w) (a := ⟨b, o, none⟩) (h.block b hb hr hq)
theorem owns_fr {r : Nat} {q : Option Nat} {w w' : World} {base : Nat} {e : TypeId} {size : Nat} {v : Value} {n : Nat} {xs : List Value} (h : w.ownsRow base e size v n xs) (hb : Fm r q w w') (hr : ∀ k, v.ownBlock = some k → k ≠ r ∧ q ≠ some k) : w'.ownsRow base e size v n xs := by
  obtain ⟨h1, h2⟩ := h
  refine ⟨h1, ?_⟩
  rcases h2 with h2 | ⟨g, cap, cur, hv, hg, hh, rest⟩
  · exact Or.inl h2
  · refine Or.inr ⟨g, cap, cur, hv, hg, ?_, rest⟩
    have hlt : g < w.heap.size := by
      rcases Nat.lt_or_ge g w.heap.size with h' | h'
      · exact h'
      · rw [Array.getElem?_eq_none h'] at hh; cases hh
    have := hr g (by rw [hv]; rfl)
    rw [hb.block g hlt this.1 this.2]; exact hh

/-- A slice of strings that lies ahead of a block. -/
def SsL (w : World) (r : Nat) (v : Value) (l : List ByteArray) : Prop := SsV w v l ∧ ∀ b o n c, v = .slice (some ⟨b, o, none⟩) n c → b < r
theorem SsL.below {w w' : World} {r : Nat} {v : Value} {l : List ByteArray} (h : SsL w r v l) (hb : Below r w w') : SsL w' r v l := by
  obtain ⟨⟨h1, ao, cap, h2, h3, h4⟩, h5⟩ := h
  refine ⟨⟨h1, ao, cap, h2, h3, h4.imp id fun ⟨b, o, e, hc⟩ => ⟨b, o, e, fun i hi => ?_⟩⟩, h5⟩
  rw [hb.cell (p := ⟨b, o + i, none⟩) (h5 b o _ _ (by rw [h2, e]))]; exact hc i hi
/-- The class of what the rules' right sides lie in. -/
def Rg1 (r : Nat) (q : Option Nat) (X : Nat → Prop) : Nat → Prop := fun k => r + 1 ≤ k ∧ q ≠ some k ∧ ¬ X k
/-- A slice more that is being written. -/
def op1 (X : Nat → Prop) (v : Value) : Nat → Prop := fun k => X k ∨ v.ownBlock = some k
/-- The state: names, terminals, how many nonterminals, the rules; X: blocks that are being written, of slices beside. -/
structure StB (w : World) (r : Nat) (vn vt : Value) (N T : List ByteArray) (s : Sp) (q : Option Nat) (X : Nat → Prop) : Prop where
  c0 : w.cell? ⟨r, 0, none⟩ = some vn
  c1 : w.cell? ⟨r, 1, none⟩ = some vt
  c2 : w.cell? ⟨r, 2, none⟩ = some (.int .i64 (s.vars : Int))
  c3 : ∃ vr xs, w.cell? ⟨r, 3, none⟩ = some vr ∧ w.ownsRow (r + 1) 37 2 vr s.rules.length xs ∧ RC w (Rg1 r q X) xs s.rules ∧ vr.ownBlock = q
  fz : ∀ i, w.frozen? ⟨r, i, none⟩ = false
  sz : r < w.heap.size
  nn : SsL w r vn N
  tt : SsL w r vt T
  rl : s.rules.length ≤ 160
  vl : s.vars ≤ 64
  xo : ∀ k, X k → r + 1 ≤ k ∧ k < w.heap.size ∧ q ≠ some k
section
variable {w w' : World} {r : Nat} {vn vt : Value} {N T : List ByteArray} {s : Sp} {q : Option Nat} {X : Nat → Prop}
theorem StB.own (h : StB w r vn vt N T s q X) : ∀ k, q = some k → r + 1 ≤ k ∧ k < w.heap.size := by
  obtain ⟨vr, xs, _, ho, _, e⟩ := h.c3
  intro k hk
  exact ho.lt k (e.trans hk)
theorem StB.low (h : StB w r vn vt N T s q X) (hf : Fm r q w w') : Below r w w' := hf.below (Nat.le_refl _) (fun k hk => by have := h.own k hk; omega) (by have := h.sz; omega)
theorem StB.lw (h : StB w r vn vt N T s q X) (hb : Below w.heap.size w w') : StB w' r vn vt N T s q X := by
  obtain ⟨c0, c1, c2, ⟨vr, xs, c3, ho, hc, e⟩, fz, sz, nn, tt, rl, vl, xo⟩ := h
  have hl : Below r w w' := hb.mono (by omega)
  exact ⟨bkeep hb c0, bkeep hb c1, bkeep hb c2, ⟨vr, xs, bkeep hb c3, G.owns_below ho hb, hc.mono fun b o v hs h => ⟨hs, bkeep hb h⟩, e⟩, fun i => by rw [hb.frozen (p := ⟨r, i, none⟩) sz]; exact fz i, Nat.lt_of_lt_of_le sz hb.size, nn.below hl, tt.below hl, rl, vl, fun k hk => by have := xo k hk; have := hb.size; exact ⟨(xo k hk).1, by omega, (xo k hk).2.2⟩⟩
/-- A new number of nonterminals. -/
theorem StB.setVars (h : StB w r vn vt N T s q X) {n : Nat} (hn : n ≤ 64) : StB (w.setCell ⟨r, 2, none⟩ (.int .i64 (n : Int))) r vn vt N T { s with vars := n } q X := by
  have hb : Below r w (w.setCell ⟨r, 2, none⟩ (.int .i64 (n : Int))) := (Below.refl _ _).setCell (p := ⟨r, 2, none⟩) (Nat.le_refl r) _
  obtain ⟨c0, c1, c2, ⟨vr, xs, c3, ho, hc, e⟩, fz, sz, nn, tt, rl, vl, xo⟩ := h
  refine ⟨by simp [go_sem, c0], by simp [go_sem, c1], by simp [go_sem, c2], ⟨vr, xs, by simp [go_sem, c3], owns_setCell ho (by simp), hc.mono fun b o v hs h => ⟨hs, ?_⟩, e⟩, by simp [go_sem, fz], by simpa [World.setCell] using sz, nn.below hb, tt.below hb, rl, hn, fun k hk => by simpa [World.setCell] using xo k hk⟩
  have : b ≠ r := by have := hs.1; omega
  rw [World.cell?_of_block (a := ⟨b, o, none⟩) (Below.heap_setCell _ _ _ _ this)]; exact h
theorem StB.setOther (h : StB w r vn vt N T s q X) {i : Nat} (hi : 4 ≤ i) (u : Value) : StB (w.setCell ⟨r, i, none⟩ u) r vn vt N T s q X := by
  have hb : Below r w (w.setCell ⟨r, i, none⟩ u) := (Below.refl _ _).setCell (p := ⟨r, i, none⟩) (Nat.le_refl r) _
  obtain ⟨c0, c1, c2, ⟨vr, xs, c3, ho, hc, e⟩, fz, sz, nn, tt, rl, vl, xo⟩ := h
  refine ⟨?_, ?_, ?_, ⟨vr, xs, ?_, owns_setCell ho (by simp), hc.mono fun b o v hs h => ⟨hs, ?_⟩, e⟩, by simp [go_sem, fz], by simpa [World.setCell] using sz, nn.below hb, tt.below hb, rl, vl, fun k hk => by simpa [World.setCell] using xo k hk⟩
  · rw [World.cell?_setCell_other _ _ _ _ (fun e => by injection e with _ e; omega)]; exact c0
  · rw [World.cell?_setCell_other _ _ _ _ (fun e => by injection e with _ e; omega)]; exact c1
  · rw [World.cell?_setCell_other _ _ _ _ (fun e => by injection e with _ e; omega)]; exact c2
  · rw [World.cell?_setCell_other _ _ _ _ (fun e => by injection e with _ e; omega)]; exact c3
  · have : b ≠ r := by have := hs.1; omega
    rw [World.cell?_of_block (a := ⟨b, o, none⟩) (Below.heap_setCell _ _ _ _ this)]; exact h
theorem StB.of_bad {b : Bool} (h : StB w r vn vt N T s q X) : StB w r vn vt N T { s with bad := b } q X := ⟨h.c0, h.c1, h.c2, h.c3, h.fz, h.sz, h.nn, h.tt, h.rl, h.vl, h.xo⟩
/-- One rule more: the rules are appended to, and kept. -/
theorem StB.put (h : StB w r vn vt N T s q X) {w1 w2 : World} {vr vr' u : Value} {xs : List Value} {v : Int} {l : List Int} (hb1 : Below w.heap.size w w1)
    (h3 : w.cell? ⟨r, 3, none⟩ = some vr) (_ho : w.ownsRow (r + 1) 37 2 vr s.rules.length xs) (hc : RC w (Rg1 r q X) xs s.rules) (he : vr.ownBlock = q)
    (hu : IsV w1 (Rg1 r q X) u l) (own2 : w2.ownsRow (r + 1) 37 2 vr' (s.rules.length + 1) (xs ++ [.int .i64 v, u])) (grow2 : w1.grownBy w2 vr.ownBlock) (hat : vr'.ownBlock = vr.ownBlock ∨ vr'.ownBlock = some w1.heap.size) (hl : s.rules.length < 160) :
    ∃ q', StB (w2.setCell ⟨r, 3, none⟩ vr') r vn vt N T { s with rules := s.rules ++ [⟨v, l⟩] } q' X ∧ Fm r q w (w2.setCell ⟨r, 3, none⟩ vr') ∧ Own w q q' := by
  have hown := h.own
  have hf1 : Fm r q w w1 := Fm.of_below hb1
  have hf2 : Fm r q w w2 := hf1.grown grow2 (.inl he)
  have hf3 : Fm r q w (w2.setCell ⟨r, 3, none⟩ vr') := hf2.setCell (.inl rfl) _
  have hOwn : Own w q vr'.ownBlock := by
    rcases hat with e | e
    · exact .inl (e.trans he)
    · exact .inr ⟨_, e, hb1.size⟩
  have hlow := h.low hf3
  have hsz := h.sz
  have z1 := hb1.size
  have z2 := grow2.size
  have keep1 : ∀ b, b < w1.heap.size → r + 1 ≤ b → q ≠ some b → (w2.setCell ⟨r, 3, none⟩ vr').heap[b]? = w1.heap[b]? := fun b h1 h2 h4 => by
    rw [Below.heap_setCell _ _ _ _ (by simp; omega), grow2.block b h1 (fun e => h4 (he ▸ e.symm))]
  have hr2 : ∀ i, w2.cell? ⟨r, i, none⟩ = w.cell? ⟨r, i, none⟩ := fun i => by
    rw [World.cell?_of_block (w := w1) (a := ⟨r, i, none⟩) (grow2.block r (by omega) (fun e => by have := hown r (he ▸ e.symm); omega)), hb1.cell (p := ⟨r, i, none⟩) hsz]
  have hrf : ∀ i, w2.frozen? ⟨r, i, none⟩ = w.frozen? ⟨r, i, none⟩ := fun i => by
    rw [World.frozen?_of_block (w := w1) (a := ⟨r, i, none⟩) (grow2.block r (by omega) (fun e => by have := hown r (he ▸ e.symm); omega)), hb1.frozen (p := ⟨r, i, none⟩) hsz]
  have c0 := h.c0
  have c1 := h.c1
  have c2 := h.c2
  rw [← hr2] at c0 c1 c2 h3
  have hnew : ∀ k, k < w1.heap.size → Rg1 r q X k → Rg1 r vr'.ownBlock X k := fun k hk hs => ⟨hs.1, fun e => by
    rcases hat with e' | e'
    · exact hs.2.1 (by rw [← he, ← e', e])
    · rw [e'] at e; simp at e; omega, hs.2.2⟩
  refine ⟨vr'.ownBlock, ⟨?_, ?_, ?_, ⟨vr', xs ++ [.int .i64 v, u], World.cell?_setCell_same _ _ _ h3, ?_, ?_, rfl⟩, ?_, ?_, h.nn.below hlow, h.tt.below hlow, ?_, h.vl, fun k hk => ?_⟩, hf3, hOwn⟩
  · rw [World.cell?_setCell_other _ _ _ _ (by simp)]; exact c0
  · rw [World.cell?_setCell_other _ _ _ _ (by simp)]; exact c1
  · rw [World.cell?_setCell_other _ _ _ _ (by simp)]; exact c2
  · rw [show (s.rules ++ [(⟨v, l⟩ : Ru)]).length = s.rules.length + 1 by simp]
    exact owns_setCell own2 (by simp)
  · refine RC.snoc (r := ⟨v, l⟩) ?_ ?_
    · exact hu.mono fun b o x hs hx => ⟨hnew b (lt_of_cell hx) hs, by rw [World.cell?_of_block (a := ⟨b, o, none⟩) (keep1 b (lt_of_cell hx) hs.1 hs.2.1)]; exact hx⟩
    · refine hc.mono fun b o x hs hx => ?_
      have hlt := lt_of_cell hx
      exact ⟨hnew b (by omega) hs, by rw [World.cell?_of_block (a := ⟨b, o, none⟩) (keep1 b (by omega) hs.1 hs.2.1), hb1.cell (p := ⟨b, o, none⟩) hlt]; exact hx⟩
  · intro i
    rw [show (w2.setCell ⟨r, 3, none⟩ vr').frozen? ⟨r, i, none⟩ = w2.frozen? ⟨r, i, none⟩ by simp [go_sem], hrf]; exact h.fz i
  · have : (w2.setCell ⟨r, 3, none⟩ vr').heap.size = w2.heap.size := by simp [World.setCell]
    omega
  · simp; omega
  · have := h.xo k hk
    have hz : (w2.setCell ⟨r, 3, none⟩ vr').heap.size = w2.heap.size := by simp [World.setCell]
    exact ⟨this.1, by omega, hOwn.ne this.2.1 this.2.2⟩
theorem StB.weak {Y : Nat → Prop} (h : StB w r vn vt N T s q X) (hY : ∀ k, Y k → X k) : StB w r vn vt N T s q Y := by
  obtain ⟨c0, c1, c2, ⟨vr, xs, c3, ho, hc, e⟩, fz, sz, nn, tt, rl, vl, xo⟩ := h
  exact ⟨c0, c1, c2, ⟨vr, xs, c3, ho, hc.mono fun b o v hs h => ⟨⟨hs.1, hs.2.1, fun hx => hs.2.2 (hY b hx)⟩, h⟩, e⟩, fz, sz, nn, tt, rl, vl, fun k hk => xo k (hY k hk)⟩
/-- A slice that is being written grows. -/
theorem StB.grow {v v' : Value} (h : StB w r vn vt N T s q (op1 X v)) (hg : w.grownBy w' v.ownBlock) (hat : v'.ownBlock = v.ownBlock ∨ v'.ownBlock = some w.heap.size) (hv' : ∀ k, v'.ownBlock = some k → k < w'.heap.size) : StB w' r vn vt N T s q (op1 X v') := by
  have hown := h.own
  obtain ⟨c0, c1, c2, ⟨vr, xs, c3, ho, hc, e⟩, fz, sz, nn, tt, rl, vl, xo⟩ := h
  have hz := hg.size
  have kp : ∀ b, b < w.heap.size → v.ownBlock ≠ some b → w'.heap[b]? = w.heap[b]? := fun b hb hn => hg.block b hb (fun e => hn e.symm)
  have nr : v.ownBlock ≠ some r := fun e => by have := (xo r (.inr e)).1; omega
  have hr : ∀ i u, w.cell? ⟨r, i, none⟩ = some u → w'.cell? ⟨r, i, none⟩ = some u := fun i u hu => by rw [World.cell?_of_block (w := w) (a := ⟨r, i, none⟩) (kp r sz nr)]; exact hu
  have hl : Below r w w' := ⟨hg.os, hg.tape, hg.output, hz, fun k hk => kp k (by omega) (fun e => by have := (xo k (.inr e)).1; omega)⟩
  have hc' : RC w' (Rg1 r q (op1 X v')) xs s.rules := by
    refine hc.mono fun b o u hs hu => ⟨⟨hs.1, hs.2.1, ?_⟩, ?_⟩
    · rw [World.cell?_of_block (w := w) (a := ⟨b, o, none⟩) (kp b (lt_of_cell hu) (fun e' => hs.2.2 (.inr e')))]; exact hu
    · intro hx
      rcases hx with hx | hx
      · exact hs.2.2 (.inl hx)
      · rcases hat with e' | e'
        · exact hs.2.2 (.inr (e' ▸ hx))
        · rw [e'] at hx; simp at hx; have := lt_of_cell hu; omega
  refine ⟨hr _ _ c0, hr _ _ c1, hr _ _ c2, ⟨vr, xs, hr _ _ c3, ?_, hc', e⟩, fun i => by rw [World.frozen?_of_block (w := w) (a := ⟨r, i, none⟩) (kp r sz nr)]; exact fz i, by omega, nn.below hl, tt.below hl, rl, vl, fun k hk => ?_⟩
  · obtain ⟨h1, h2⟩ := ho
    refine ⟨h1, ?_⟩
    rcases h2 with h2 | ⟨g, cap, cur, hv, hgb, hh, rest⟩
    · exact Or.inl h2
    · refine Or.inr ⟨g, cap, cur, hv, hgb, ?_, rest⟩
      have hq : q = some g := by rw [← e, hv]; rfl
      rw [kp g (hown g hq).2 (fun e' => (xo g (.inr e')).2.2 hq)]; exact hh
  · rcases hk with hk | hk
    · have := xo k (.inl hk); exact ⟨this.1, by omega, this.2.2⟩
    · rcases hat with e' | e'
      · have := xo k (.inr (e' ▸ hk)); exact ⟨this.1, by omega, this.2.2⟩
      · have h1 := hv' k hk
        rw [e'] at hk; simp at hk
        exact ⟨by omega, h1, fun hq => by have := (hown k hq).2; omega⟩
/-- A slice more that is being written: a new one. -/
theorem StB.open_ {v : Value} (h : StB w r vn vt N T s q X) (hb : Below w.heap.size w w') (hv : ∀ k, v.ownBlock = some k → w.heap.size ≤ k ∧ k < w'.heap.size) : StB w' r vn vt N T s q (op1 X v) := by
  have h' := h.lw hb
  have hown := h.own
  obtain ⟨vr, xs, c3, ho, hc, e⟩ := h.c3
  have hsz := h.sz
  have hc' : RC w' (Rg1 r q (op1 X v)) xs s.rules := by
    refine hc.mono fun b o u hs hu => ⟨⟨hs.1, hs.2.1, fun hx => ?_⟩, bkeep hb hu⟩
    rcases hx with hx | hx
    · exact hs.2.2 hx
    · have := (hv b hx).1; have := lt_of_cell hu; omega
  refine ⟨h'.c0, h'.c1, h'.c2, ⟨vr, xs, bkeep hb c3, G.owns_below ho hb, hc', e⟩, h'.fz, h'.sz, h'.nn, h'.tt, h'.rl, h'.vl, fun k hk => ?_⟩
  · rcases hk with hk | hk
    · exact h'.xo k hk
    · have := hv k hk
      exact ⟨by omega, this.2, fun hq => by have := (hown k hq).2; omega⟩
end
/-- The ways of an expression, in memory. -/
def WyV (w : World) (r : Nat) (S : Nat → Prop) (v : Value) (f : Fo) : Prop :=
  f.len ≤ 9223372036854775807 ∧ ∃ ao cap, v = .slice ao f.len cap ∧ (f.len = 0 ∨ ∃ b o, ao = some ⟨b, o, none⟩ ∧ S b ∧ ∀ i, i < f.len → XIn w (fun k => k < r) (f.at_ i) b (o + i * 3))
theorem WyV.slice {w : World} {r : Nat} {S : Nat → Prop} {v : Value} {f : Fo} (h : WyV w r S v f) : ∃ ao cap, v = .slice ao f.len cap := let ⟨_, ao, cap, e, _⟩ := h; ⟨ao, cap, e⟩
theorem XIn.mono2 {w w' : World} {S T : Nat → Prop} {x : Xp} {b o : Nat} (h : XIn w S x b o) (hb : ∀ o v, w.cell? ⟨b, o, none⟩ = some v → w'.cell? ⟨b, o, none⟩ = some v) (hc : ∀ b o v, S b → w.cell? ⟨b, o, none⟩ = some v → T b ∧ w'.cell? ⟨b, o, none⟩ = some v) : XIn w' T x b o := by
  obtain ⟨h1, h2, u, h3, h4⟩ := h
  exact ⟨hb _ _ h1, hb _ _ h2, u, hb _ _ h3, h4.mono hc⟩
theorem WyV_fov {w : World} {r : Nat} {S : Nat → Prop} {v : Value} {f : Fo} (h : FoV w (fun k => k < r) v f) (hS : ∀ k, k < r → S k) : WyV w r S v f := by
  obtain ⟨h1, ao, cap, h2, h3⟩ := h
  refine ⟨h1, ao, cap, h2, ?_⟩
  rcases h3 with h3 | ⟨b, o, e, h4⟩
  · exact .inl h3
  · by_cases h0 : f.len = 0
    · exact .inl h0
    · refine .inr ⟨b, o, e, hS b ?_, fun i hi => h4.at_ i hi⟩
      cases f with
      | nil => simp [Fo.len] at h0
      | cons => exact h4.1
theorem WyV.fr {w w' : World} {r : Nat} {q q' : Option Nat} {v : Value} {f : Fo} (h : WyV w r (fun k => k ≠ r ∧ q ≠ some k) v f) (hf : Fm r q w w') (hl : Below r w w') (ho : Own w q q') : WyV w' r (fun k => k ≠ r ∧ q' ≠ some k) v f := by
  obtain ⟨h1, ao, cap, h2, h3⟩ := h
  refine ⟨h1, ao, cap, h2, ?_⟩
  rcases h3 with h3 | ⟨b, o, e, hs, h4⟩
  · exact .inl h3
  · by_cases h0 : f.len = 0
    · exact .inl h0
    · refine .inr ⟨b, o, e, ⟨hs.1, ho.ne (lt_of_cell (h4 0 (by omega)).1) hs.2⟩, fun i hi => (h4 i hi).mono2 (fun o v hc => hf.cell hc hs.1 hs.2) fun b o v hb hc => ⟨hb, ?_⟩⟩
      rw [hl.cell (p := ⟨b, o, none⟩) hb]; exact hc
end Go.Proofs.Ytcanphhmflbdmac
