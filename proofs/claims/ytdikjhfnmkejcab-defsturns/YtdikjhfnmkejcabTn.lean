/- Definitions turned round, in memory. -/
import Derived.Test.YtdikjhfnmkejcabDb
import Derived.Test.YtdikjhfnmkejcabGrt
import Derived.Test.YtdikjhfnmkejcabOpen
namespace Go.Proofs.Ytdikjhfnmkejcab
open Go.RowKit
/-- A step: what was there is as it was. -/
structure Stp (a b : World) : Prop where
  h : Below a.heap.size a b
theorem stk {W a b : World} {p q : Nat} {u v : Value} (st : Stp a b) (h : Below W.heap.size W a ∧ a.cell? ⟨p, 0, none⟩ = some u ∧ a.cell? ⟨q, 0, none⟩ = some v) :
    Below W.heap.size W b ∧ b.cell? ⟨p, 0, none⟩ = some u ∧ b.cell? ⟨q, 0, none⟩ = some v := ⟨h.1.trans (st.h.mono h.1.size), bkeep st.h h.2.1, bkeep st.h h.2.2⟩
theorem DsIn.drop {w : World} {S : Nat → Prop} {b : Nat} : ∀ {ds : List Df} {o : Nat} (k : Nat), DsIn w S ds b o → DsIn w S (ds.drop k) b (o + k * 5)
  | _, _, 0, h => h
  | [], _, _ + 1, _ => trivial
  | _ :: l, o, k + 1, ⟨_, _, _, _, h⟩ => by
    have := DsIn.drop (ds := l) k h
    rw [show o + 5 + k * 5 = o + (k + 1) * 5 by omega] at this
    exact this
theorem DsIn.take {w : World} {S : Nat → Prop} {b : Nat} : ∀ {ds : List Df} {o : Nat} (k : Nat), DsIn w S ds b o → DsIn w S (ds.take k) b o
  | [], _, 0, _ => trivial
  | _ :: _, _, 0, _ => trivial
  | [], _, _ + 1, _ => trivial
  | _ :: l, _, k + 1, ⟨h1, h2, h3, h4, h⟩ => ⟨h1, h2, h3, h4, DsIn.take (ds := l) k h⟩
/-- The cells of what lies in memory. -/
theorem DsIn.cells {w : World} {S : Nat → Prop} {b : Nat} : ∀ {ds : List Df} {o : Nat}, DsIn w S ds b o → ∃ xs : List Value, xs.length = ds.length * 5 ∧ DC w S xs ds ∧ (∀ u ∈ xs, u.oneCell' = true) ∧ ∀ j u, xs[j]? = some u → w.cell? ⟨b, o + j, none⟩ = some u
  | [], _, _ => ⟨[], rfl, trivial, by simp, fun j u h => by simp at h⟩
  | d :: l, o, ⟨_, h2, h3, ⟨h4, h5, u, h6, h7⟩, h8⟩ => by
    obtain ⟨xs, e1, e2, e3, e4⟩ := DsIn.cells h8
    have h7' := h7
    obtain ⟨_, ao, cap, rfl, _⟩ := h7'
    refine ⟨.string d.nm :: .int .i64 d.at_ :: .int .i64 d.e.op :: .string d.e.nm :: .slice ao d.e.kids.len cap :: xs, by simp [e1]; omega, ⟨rfl, rfl, rfl, rfl, h7, e2⟩, ?_, ?_⟩
    · intro u hu
      simp only [List.mem_cons] at hu
      rcases hu with rfl | rfl | rfl | rfl | rfl | hu
      iterate 5 rfl
      exact e3 u hu
    · intro j v hj
      match j, hj with
      | 0, hj => simp at hj; subst hj; simpa using h2
      | 1, hj => simp at hj; subst hj; simpa using h3
      | 2, hj => simp at hj; subst hj; simpa using h4
      | 3, hj => simp at hj; subst hj; simpa using h5
      | 4, hj => simp at hj; subst hj; simpa using h6
      | j + 5, hj =>
        have := e4 j v (by simpa using hj)
        rwa [show o + 5 + j = o + (j + 5) by omega] at this
theorem DC.app {w : World} {S : Nat → Prop} : ∀ {xs ys : List Value} {ds es : List Df}, DC w S xs ds → DC w S ys es → DC w S (xs ++ ys) (ds ++ es)
  | [], _, [], _, _, h => h
  | a :: b :: c :: d :: e :: xs, _, x :: l, _, ⟨h1, h2, h3, h4, h5, h6⟩, h => ⟨h1, h2, h3, h4, h5, DC.app h6 h⟩
  | [], _, _ :: _, _, h, _ => by simp [DC] at h
  | [_], _, _, _, h, _ => by simp [DC] at h
  | [_, _], _, _, _, h, _ => by simp [DC] at h
  | [_, _, _], _, _, _, h, _ => by simp [DC] at h
  | [_, _, _, _], _, _, _, h, _ => by simp [DC] at h
  | _ :: _ :: _ :: _ :: _ :: _, _, [], _, h, _ => by simp [DC] at h
theorem turn_perm (ds : List Df) (k : Nat) : ds.Perm (ds.drop k ++ ds.take k) := by
  have h : (ds.take k ++ ds.drop k).Perm (ds.drop k ++ ds.take k) := List.perm_append_comm
  rwa [List.take_append_drop] at h
section
variable {H : Type} {enc : TypeId × Value → H} {w : World} {base : Nat} {spare : Nat → Bool} {held : Bool}
set_option maxRecDepth 100000 in
theorem open_cap {ao : Option Addr} {n cap : Nat} {d : DataW H} {ps : List MemPlace} (h : DataW.Trod enc Try.prog w base spare held 24 (.agg #[.slice ao n cap]) d ps) : n ≤ cap ∧ cap ≤ 9223372036854775807 := by
  obtain ⟨fuel, h⟩ := h
  obtain ⟨xs, m, rfl, hd, hl, hlen, hf⟩ := DataW.trod_struct Try.underlying24 h
  match xs, hlen with
  | [y0], _ =>
  have f0 : DataW.trod enc Try.prog w base spare held m 22 (([Value.slice ao n cap].drop 0).take (Try.prog.cellsOf 22)) = some y0 := hf 0 _ rfl
  rw [cellsDefs] at f0
  rcases DataW.trod_slice Try.underlying22 f0 with ⟨e2, _⟩ | ⟨ad, len, cap', elems, rest, m, rfl, e2, _, hb, hlc, hcm, _⟩
  · have e3 : Value.slice ao n cap = .slice none 0 0 := by simpa using e2
    simp at e3
    omega
  · have e3 : Value.slice ao n cap = .slice (some ad) len cap' := by simpa using e2
    simp at e3
    unfold maxLen at hcm
    omega
end
theorem turn_num (n : Int) {m : Nat} (h : ¬ m = 0) (h60 : m ≤ 60) : ∃ k : Nat, k < m ∧ wrap64 ((IntKind.u64.wrap n).tmod m) = (k : Int) := by
  have h1 : 0 ≤ IntKind.u64.wrap n := by
    have e : IntKind.u64.wrap n = n % 2 ^ 64 := rfl
    rw [e]; omega
  have h2 := Int.tmod_nonneg (m : Int) h1
  have h3 : (IntKind.u64.wrap n).tmod (m : Int) < m := Int.tmod_lt_of_pos _ (by omega)
  generalize (IntKind.u64.wrap n).tmod (m : Int) = x at *
  refine ⟨x.toNat, by omega, ?_⟩
  unfold wrap64
  omega
theorem grown_below {w w' : World} (h : w.grownBy w' none) : Below w.heap.size w w' := ⟨h.os, h.tape, h.output, h.size, fun k hk => h.block k hk (by simp)⟩
section
variable {W x z : World} {p p' q r : Nat} {u v : Value} {F1 F2 : Int}
theorem two_set (hr : RB x p) (hS : Below W.heap.size W x ∧ x.cell? ⟨q, 0, none⟩ = some u ∧ x.cell? ⟨r, 0, none⟩ = some v) (hl : W.heap.size ≤ p) (hq : q < W.heap.size) (hr' : r < W.heap.size)
    (hz : z = (x.setCell ⟨p, 0, none⟩ (.int .i64 F1)).setCell ⟨p, 1, none⟩ (.int .i64 F2)) :
    (Below W.heap.size W z ∧ z.cell? ⟨q, 0, none⟩ = some u ∧ z.cell? ⟨r, 0, none⟩ = some v) ∧ z.cell? ⟨p, 0, none⟩ = some (.int .i64 F1) ∧ z.cell? ⟨p, 1, none⟩ = some (.int .i64 F2) := by
  subst hz
  have far : ∀ b, b < W.heap.size → ((x.setCell ⟨p, 0, none⟩ (.int .i64 F1)).setCell ⟨p, 1, none⟩ (.int .i64 F2)).cell? ⟨b, 0, none⟩ = x.cell? ⟨b, 0, none⟩ := fun b hb => by
    rw [World.cell?_setCell_other _ _ _ _ (by simp <;> omega), World.cell?_setCell_other _ _ _ _ (by simp <;> omega)]
  refine ⟨⟨(hS.1.setCell (p := ⟨p, 0, none⟩) hl _).setCell (p := ⟨p, 1, none⟩) hl _, (far q hq).trans hS.2.1, (far r hr').trans hS.2.2⟩, ?_, ?_⟩
  · rw [World.cell?_setCell_other _ _ _ _ (by simp)]
    exact World.cell?_setCell_same _ _ _ hr.c0
  · exact World.cell?_setCell_same _ _ _ ((World.cell?_setCell_other _ _ _ _ (by simp)).trans hr.c1)
theorem two_set_other (hr : RB x p') (hne : p' ≠ p) (hz : z = (x.setCell ⟨p, 0, none⟩ (.int .i64 F1)).setCell ⟨p, 1, none⟩ (.int .i64 F2)) : RB z p' := by
  have hb : z.heap[p']? = x.heap[p']? := by
    rw [hz, Below.heap_setCell _ _ _ _ (by exact hne), Below.heap_setCell _ _ _ _ (by exact hne)]
  exact ⟨(World.cell?_of_block (a := ⟨p', 0, none⟩) hb).trans hr.c0, (World.cell?_of_block (a := ⟨p', 1, none⟩) hb).trans hr.c1, fun i => (World.frozen?_of_block (a := ⟨p', i, none⟩) hb).trans (hr.fz i)⟩
theorem two_set_keep {a b : Value} (h : x.cell? ⟨p', 0, none⟩ = some a ∧ x.cell? ⟨p', 1, none⟩ = some b) (hne : p' ≠ p) (hz : z = (x.setCell ⟨p, 0, none⟩ (.int .i64 F1)).setCell ⟨p, 1, none⟩ (.int .i64 F2)) : z.cell? ⟨p', 0, none⟩ = some a ∧ z.cell? ⟨p', 1, none⟩ = some b := by
  have hb : z.heap[p']? = x.heap[p']? := by
    rw [hz, Below.heap_setCell _ _ _ _ (by exact hne), Below.heap_setCell _ _ _ _ (by exact hne)]
  exact ⟨(World.cell?_of_block (a := ⟨p', 0, none⟩) hb).trans h.1, (World.cell?_of_block (a := ⟨p', 1, none⟩) hb).trans h.2⟩
end
/-- Behind a region: nothing but its normal end. -/
def CutQ (R : Act → World → Prop) : Exit → Act → World → Prop
  | .normal, a, w => R a w
  | _, _, _ => False
theorem region_cut {P : Program} {c : Code} {Q : Exit → Act → World → Prop} {a : Act} {w : World} (R : Act → Act → World → Prop) (h1 : c.wp P (CutQ (R a)) a w) (h2 : ∀ a' w', R a a' w' → Q .normal a' w') : c.wp P Q a w :=
  Code.wp_mono (fun e a' w' hr => by
    cases e
    case normal => exact h2 a' w' hr
    all_goals exact (hr : False).elim) h1
end Go.Proofs.Ytdikjhfnmkejcab
