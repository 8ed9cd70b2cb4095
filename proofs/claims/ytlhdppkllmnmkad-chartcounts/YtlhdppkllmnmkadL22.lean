/- Numbers that are still to be done: a slice of one's own, cut at its beginning and grown at its end. -/
import Derived.Test.YtlhdppkllmnmkadL01
import Derived.ArgAppend
import Derived.Laws.OwnMore
namespace Go.Proofs.Ytlhdppkllmnmkad.G
open Go.RowKit
/-- A slice of numbers, anywhere in a block of one's own; up to its room the cells are there and may be written. -/
def Qu (w : World) (base : Nat) (v : Value) (l : List Int) : Prop :=
  ∃ ao cap, v = .slice ao l.length cap ∧ l.length ≤ cap ∧ cap ≤ 9223372036854775807 ∧ ((ao = none ∧ cap = 0) ∨
    ∃ g off, ao = some ⟨g, off, none⟩ ∧ base ≤ g ∧ g < w.heap.size ∧ (∀ j, j < cap → (w.cell? ⟨g, off + j, none⟩).isSome = true ∧ w.frozen? ⟨g, off + j, none⟩ = false) ∧ ∀ i (h : i < l.length), w.cell? ⟨g, off + i, none⟩ = some (.int .i64 l[i]))
theorem Qu.slice {w : World} {base : Nat} {v : Value} {l : List Int} (h : Qu w base v l) : ∃ ao cap, v = .slice ao l.length cap := let ⟨ao, cap, e, _⟩ := h; ⟨ao, cap, e⟩
theorem Qu.lt {w : World} {base : Nat} {v : Value} {l : List Int} (h : Qu w base v l) : ∀ k, v.ownBlock = some k → base ≤ k ∧ k < w.heap.size := by
  intro k hk
  obtain ⟨ao, cap, rfl, h1, h2, h3⟩ := h
  rcases h3 with ⟨rfl, _⟩ | ⟨g, off, rfl, hb, hg, _⟩
  · simp [Value.ownBlock] at hk
  · simp [Value.ownBlock] at hk
    subst hk
    exact ⟨hb, hg⟩
theorem Qu.kept {w w' : World} {base : Nat} {v : Value} {l : List Int} {row : Option Nat} (h : Qu w base v l) (hg : w.grownBy w' row) (hne : v.ownBlock = none ∨ v.ownBlock ≠ row) : Qu w' base v l := by
  obtain ⟨ao, cap, rfl, h1, h2, h3⟩ := h
  refine ⟨ao, cap, rfl, h1, h2, ?_⟩
  rcases h3 with h3 | ⟨g, off, rfl, hb, hz, h4, h5⟩
  · exact .inl h3
  · have hk : w'.heap[g]? = w.heap[g]? := hg.block g hz (by simpa [Value.ownBlock] using hne)
    refine .inr ⟨g, off, rfl, hb, Nat.lt_of_lt_of_le hz hg.size, fun j hj => ?_, fun i hi => ?_⟩
    · rw [World.cell?_of_block (a := ⟨g, off + j, none⟩) hk, World.frozen?_of_block (a := ⟨g, off + j, none⟩) hk]; exact h4 j hj
    · rw [World.cell?_of_block (a := ⟨g, off + i, none⟩) hk]; exact h5 i hi
theorem Qu.lw {w w' : World} {base : Nat} {v : Value} {l : List Int} (h : Qu w base v l) (hb : Below w.heap.size w w') : Qu w' base v l :=
  h.kept (row := none) ⟨hb.os, hb.tape, hb.output, hb.size, fun k hk _ => hb.block k hk⟩ (by cases v.ownBlock <;> simp)
theorem Qu_owned {w : World} {base : Nat} {e : TypeId} {v : Value} {l : List Int} (h : w.ownsRow base e 1 v l.length (ints l)) : Qu w base v l := by
  have h0 := h
  obtain ⟨h1, h2 | ⟨g, cap, cur, e1, e2, e3, e4, e5, e6, _⟩⟩ := h
  · exact ⟨none, 0, by rw [h2.1, h2.2], by omega, by omega, .inl ⟨rfl, rfl⟩⟩
  · subst e1
    refine ⟨_, cap, rfl, e4, by unfold maxLen at e5; omega, .inr ⟨g, 0, rfl, e2, (Array.getElem?_eq_some_iff.1 e3).1, fun j hj => ⟨?_, ?_⟩, fun i hi => ?_⟩⟩
    · rw [cell_of_row w g _ cur e (0, 0) e3, Array.getElem?_eq_getElem (by omega)]; rfl
    · simp [World.frozen?, e3]
    · have := World.ownsRow.cellAt h0 i (by simpa using hi)
      rw [show 0 + i = i by omega, this]
      simp [ints, hi]
theorem Qu.mono {w : World} {base b2 : Nat} {v : Value} {l : List Int} (h : Qu w base v l) (hb : b2 ≤ base) : Qu w b2 v l := by
  obtain ⟨ao, cap, rfl, h1, h2, h3⟩ := h
  exact ⟨ao, cap, rfl, h1, h2, h3.imp id fun ⟨g, off, e, h4, h5⟩ => ⟨g, off, e, by omega, h5⟩⟩
/-- Without the first one. -/
theorem Qu.tail {w : World} {base : Nat} {ao : Option Addr} {n cap : Nat} {x : Int} {l : List Int} (h : Qu w base (.slice ao n cap) (x :: l)) : Qu w base (sliced ao 1 n cap 1) l := by
  obtain ⟨ao', cap', e, h1, h2, h3⟩ := h
  simp only [Value.slice.injEq] at e
  obtain ⟨rfl, rfl, rfl⟩ := e
  simp only [List.length_cons] at h1
  rcases h3 with ⟨_, rfl⟩ | ⟨g, off, rfl, hb, hz, h4, h5⟩
  · omega
  · unfold sliced
    by_cases hc : cap = 1
    · subst hc
      refine ⟨some ⟨g, off, none⟩, 1 - 1, by simp, by omega, by omega, .inr ?_⟩
      refine ⟨g, off, rfl, hb, hz, fun j hj => by omega, fun i hi => by omega⟩
    · refine ⟨some ⟨g, off + 1, none⟩, cap - 1, by simp [hc, addr_add], by omega, by omega, .inr ?_⟩
      refine ⟨g, off + 1, rfl, hb, hz, fun j hj => ?_, fun i hi => ?_⟩
      · rw [show off + 1 + j = off + (j + 1) by omega]; exact h4 (j + 1) (by omega)
      · rw [show off + 1 + i = off + (i + 1) by omega]; exact h5 (i + 1) (by simpa using hi)
theorem setCells_grown (b : Nat) : ∀ (vs : List Value) (o : Nat) (w : World), w.grownBy (w.setCells b o vs) (some b)
  | [], _, _ => ⟨rfl, rfl, rfl, Nat.le_refl _, fun _ _ _ => rfl⟩
  | v :: r, o, w => by
    have h := setCells_grown b r (o + 1) (w.setCell ⟨b, o, none⟩ v)
    have hz : (w.setCell ⟨b, o, none⟩ v).heap.size = w.heap.size := by simp [World.setCell]
    refine ⟨h.os, h.tape, h.output, by rw [← hz]; exact h.size, fun k hk hne => ?_⟩
    have := h.block k (by rw [hz]; exact hk) hne
    rw [World.setCells, this]
    exact Below.heap_setCell _ _ _ _ (fun e => hne (by rw [e]))
/-- Numbers behind it. -/
theorem run_append_qu {P : Program} (w : World) (base : Nat) (t ty e : TypeId) (i : TypeInfo) (h1 : P.underlying t = some (.slice e)) (h2 : P.info? e = some i) (h3 : i.zero = some (.int .i64 0)) (h4 : i.size = 1) (h5 : i.bytes = 8)
    (v : Value) (l : List Int) (hv : Qu w base v l) (S : Nat → Prop) (u : Value) (m : List Int) (hu : IsV w S u m) (b1 : l.length + m.length ≤ 10000000) (hbase : base ≤ w.heap.size) :
    ∃ v' w', (Builtin.append_ #[t, t] ty #[v, u]).run P w = .ok v' w' ∧ Qu w' base v' (l ++ m) ∧ w.grownBy w' v.ownBlock ∧ (v'.ownBlock = v.ownBlock ∨ ∀ k, v'.ownBlock = some k → w.heap.size ≤ k) := by
  obtain ⟨au, cu, rfl⟩ := hu.slice
  cases au with
  | none =>
    obtain ⟨_, ao', cap', e', _, h0, hl⟩ := hu
    simp at e'
    obtain ⟨rfl, rfl⟩ := e'
    have hc := h0 rfl
    subst hc
    have hl0 : m = [] := by
      rcases hl with hl | ⟨b, o, e, _⟩
      · exact List.eq_nil_of_length_eq_zero hl
      · cases e
    subst hl0
    refine ⟨v, w, ?_, by simpa using hv, ⟨rfl, rfl, rfl, Nat.le_refl _, fun _ _ _ => rfl⟩, .inl rfl⟩
    obtain ⟨ao, cap, rfl, g1, g2, g3⟩ := hv
    rcases g3 with ⟨rfl, rfl⟩ | ⟨g, off, rfl, _⟩
    · have : l.length = 0 := by omega
      simp [Builtin.append_, run_underlying h1, sizeOf, typeInfo, h2, Builtin.lenOf, Builtin.firstCells, this]
    · simp [Builtin.append_, run_underlying h1, sizeOf, typeInfo, h2, Builtin.lenOf, Builtin.firstCells, g1, storeCells]
  | some ad =>
    have hn : (ints m).length = m.length * 1 := by rw [ints_len]; omega
    obtain ⟨ao, cap, rfl, g1, g2, g3⟩ := hv
    rcases g3 with ⟨rfl, rfl⟩ | ⟨g, off, rfl, hb, hz, g4, g5⟩
    · have hl : l = [] := List.eq_nil_of_length_eq_zero (by omega)
      subst hl
      obtain ⟨v', w', hrun, r1, r2, _, r4⟩ := run_append_own_at (P := P) w base t ty e i (.int .i64 0) 1 8 h1 h2 h3 h4 h5 rfl (by decide) (.slice none 0 0) 0 [] (World.ownsRow_nil w _ e 1) ad m.length cu (ints m) hn hu.cells (oneInts m) (by unfold maxLen; simp at b1; omega) (by simp at b1; omega) hbase
      exact ⟨v', w', hrun, by simpa using Qu_owned (l := m) (by simpa using r1), r2, r4.imp id fun e k hk => by rw [e] at hk; cases hk; exact Nat.le_refl _⟩
    · have hi1 : (ints l).length = l.length * 1 := by rw [ints_len]; omega
      have holds : ∀ j u, (ints l)[j]? = some u → w.cell? ((⟨g, off, none⟩ : Addr).add j) = some u := by
        intro j u hj
        have hj' : j < l.length := by
          rcases Nat.lt_or_ge j l.length with h | h
          · exact h
          · rw [List.getElem?_eq_none (by rw [ints_len]; exact h)] at hj; cases hj
        rw [addr_add, g5 j hj', ← hj]
        simp [ints, hj']
      by_cases hr : l.length + m.length ≤ cap
      · have hrun := run_append_room_cells (P := P) w t ty e i h1 h2 g off l.length cap ad m.length cu (ints m) (by rw [h4]; exact hn) hu.cells (oneInts m) hr (fun j hj => by rw [h4, show off + l.length * 1 + j = off + (l.length + j) by omega]; rw [ints_len] at hj; exact (g4 _ (by omega)).1) (fun j hj => by rw [h4, show off + l.length * 1 + j = off + (l.length + j) by omega]; rw [ints_len] at hj; exact (g4 _ (by omega)).2)
        rw [h4, show off + l.length * 1 = off + l.length by omega] at hrun
        have hgr := setCells_grown g (ints m) (off + l.length) w
        refine ⟨_, _, hrun, ⟨_, cap, by simp, by simpa using hr, g2, .inr ⟨g, off, rfl, hb, Nat.lt_of_lt_of_le hz hgr.size, fun j hj => ⟨?_, ?_⟩, fun k hk => ?_⟩⟩, hgr, .inl rfl⟩
        · by_cases hin : l.length ≤ j ∧ j < l.length + m.length
          · have := World.cell?_setCells_in g (ints m) (off + l.length) w (fun q hq => by rw [show off + l.length + q = off + (l.length + q) by omega]; rw [ints_len] at hq; exact (g4 _ (by omega)).1) (j - l.length) (by rw [ints_len]; omega)
            rw [show off + l.length + (j - l.length) = off + j by omega] at this
            rw [this]; rfl
          · rw [World.cell?_setCells_out g (ints m) (off + l.length) w _ (fun _ _ => by simp only [ints_len]; omega)]
            exact (g4 j hj).1
        · rw [World.frozen?_setCells]; exact (g4 j hj).2
        · rw [List.length_append] at hk
          by_cases hin : k < l.length
          · rw [World.cell?_setCells_out g (ints m) (off + l.length) w _ (fun _ _ => by simp only [ints_len]; omega), List.getElem_append_left hin]
            exact g5 k hin
          · have := World.cell?_setCells_in g (ints m) (off + l.length) w (fun q hq => by rw [show off + l.length + q = off + (l.length + q) by omega]; rw [ints_len] at hq; exact (g4 _ (by omega)).1) (k - l.length) (by rw [ints_len]; omega)
            rw [show off + l.length + (k - l.length) = off + k by omega] at this
            rw [this, List.getElem_append_right (by omega)]
            simp [ints]
      · obtain ⟨v', w', hrun, r1, r2⟩ := run_append_arg_grows (P := P) w t ty e i (.int .i64 0) 1 8 h1 h2 h3 h4 h5 rfl (by decide) ⟨g, off, none⟩ l.length cap (ints l) hi1 holds ad m.length cu (ints m) hn hu.cells (by omega) (by unfold maxLen; omega) (by omega)
        have hown : w'.ownsRow w.heap.size e 1 v' (l ++ m).length (ints (l ++ m)) := by rw [List.length_append, ints_app]; exact r1
        refine ⟨v', w', hrun, (Qu_owned hown).mono hbase, ⟨r2.os, r2.tape, r2.output, r2.size, fun k hk _ => r2.block k hk (by simp)⟩, ?_⟩
        exact .inr fun k hk => (hown.lt k hk).1
theorem wpList_append_qu {P : Program} (w : World) {ops : Array Oper} {rest : List Oper} {o : Oper} {a : Act} {Q : Exit → Act → World → Prop} (hgd : o.guard = none) (s x : Operand) (t : TypeId)
    (ho : o.op = .call { callee := .builtin .append, args := #[s, x], argTypes := #[t, t] })
    (base : Nat) (e : TypeId) (i : TypeInfo) (h1 : P.underlying t = some (.slice e)) (h2 : P.info? e = some i) (h3 : i.zero = some (.int .i64 0)) (h4 : i.size = 1) (h5 : i.bytes = 8)
    (v : Value) (l : List Int) (hs : a.eval s = v) (hv : Qu w base v l) (S : Nat → Prop) (u : Value) (m : List Int) (hx : a.eval x = u) (hu : IsV w S u m) (b1 : l.length + m.length ≤ 10000000) (hbase : base ≤ w.heap.size)
    (hK : ∀ v' w', Qu w' base v' (l ++ m) → w.grownBy w' v.ownBlock → (v'.ownBlock = v.ownBlock ∨ ∀ k, v'.ownBlock = some k → w.heap.size ≤ k) → wpList P ops Q rest (a.put o.dst v') w') : wpList P ops Q (o :: rest) a w := by
  refine wpList_plain hgd fun K hK' => ?_
  obtain ⟨v', w', hrun, r1, r2, r3⟩ := run_append_qu (P := P) w base t o.type e i h1 h2 h3 h4 h5 v l hv S u m hu b1 hbase
  unfold Oper.wp
  simp [execOp, ho, resolve, invoke, builtin, hs, hx, hrun, Result.andThen]
  exact hK' _ _ (hK v' w' r1 r2 r3)
end Go.Proofs.Ytlhdppkllmnmkad.G
