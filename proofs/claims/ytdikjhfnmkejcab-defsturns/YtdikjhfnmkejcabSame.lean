/- Two lists of tokens that hold the same. -/
import Derived.Test.YtdikjhfnmkejcabRScan
import Derived.Deep.QuietTactic
import Derived.BigQuiet
namespace Go.Proofs.Ytdikjhfnmkejcab
open Go.RowKit

theorem cellsOf_get (l : List Tk) (k : Nat) (h : k < l.length) : (cellsOf l)[k * 3]? = some (.int .i64 l[k].k) ∧ (cellsOf l)[k * 3 + 1]? = some (.int .i64 l[k].at_) ∧ (cellsOf l)[k * 3 + 2]? = some (.string l[k].t) := by
  induction l generalizing k with
  | nil => simp at h
  | cons x l ih =>
    cases k with
    | zero => simp [cellsOf, Tk.cs]
    | succ k =>
      have := ih k (by simpa using h)
      have e : cellsOf (x :: l) = .int .i64 x.k :: .int .i64 x.at_ :: .string x.t :: cellsOf l := rfl
      rw [e, show (k + 1) * 3 = k * 3 + 1 + 1 + 1 from by omega]
      simpa using this
/-- A row of tokens, as a walk reads it. -/
structure Toks (w : World) (g : Nat) (l : List Tk) : Prop where
  c0 : ∀ k (h : k < l.length), w.cell? ⟨g, k * 3, none⟩ = some (.int .i64 l[k].k)
  c1 : ∀ k (h : k < l.length), w.cell? ⟨g, k * 3 + 1, none⟩ = some (.int .i64 l[k].at_)
  c2 : ∀ k (h : k < l.length), w.cell? ⟨g, k * 3 + 2, none⟩ = some (.string l[k].t)
theorem owns_shape {w : World} {base : Nat} {e : TypeId} {v : Value} {l : List Tk} (h : w.ownsRow base e 3 v l.length (cellsOf l)) :
    (∃ ao cap, v = .slice ao l.length cap ∧ l.length = 0) ∨ (∃ g cap, v = .slice (some ⟨g, 0, none⟩) l.length cap ∧ base ≤ g ∧ g < w.heap.size ∧ Toks w g l) := by
  have h0 := h
  obtain ⟨h1, h2 | ⟨g, cap, cur, e1, e2, e3, e4⟩⟩ := h
  · exact .inl ⟨none, 0, by rw [h2.1, h2.2], h2.2⟩
  · right
    subst e1
    refine ⟨g, cap, rfl, e2, (h0.lt g rfl).2, ?_⟩
    have hc := fun j hj => World.ownsRow.cellAt h0 j hj
    constructor
    · intro k hk; rw [hc _ (by omega)]; exact (cellsOf_get l k hk).1
    · intro k hk; rw [hc _ (by omega)]; exact (cellsOf_get l k hk).2.1
    · intro k hk; rw [hc _ (by omega)]; exact (cellsOf_get l k hk).2.2

theorem drewN_add (w : World) (m n : Nat) : (w.drewN m).drewN n = w.drewN (m + n) := by
  simp [World.drewN, Nat.add_assoc]
end Go.Proofs.Ytdikjhfnmkejcab
