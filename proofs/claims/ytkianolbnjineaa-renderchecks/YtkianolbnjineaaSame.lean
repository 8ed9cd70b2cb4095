/- Two lists of tokens that hold the same. -/
import Derived.Test.YtkianolbnjineaaRScan
import Derived.Deep.QuietTactic
import Derived.BigQuiet
namespace Go.Proofs.Ytkianolbnjineaa
open Go.RowKit

theorem cellsOf_get (l : List Tk) (k : Nat) (h : k < l.length) : (cellsOf l)[k * 3]? = some (.int .i64 l[k].k) ∧ (cellsOf l)[k * 3 + 1]? = some (.int .i64 l[k].at_) ∧ (cellsOf l)[k * 3 + 2]? = some (.string l[k].t) := by
  induction l generalizing k with
  | nil => simp at h
  | cons x l ih =>
    cases k with
    | zero => simp [cellsOf, Tk.cs]
    | succ k =>
      have := ih k (by simpa using h)
      have e : cellsOf (x :: l) = .int .i64 x.k :: .int .i64 x.at_ :: .string x.t :: cellsOf l := rfl
      rw [e, show (k + 1) * 3 = k * 3 + 1 + 1 + 1 from by omega]
      simpa using this
/-- A row of tokens, as a walk reads it. -/
structure Toks (w : World) (g : Nat) (l : List Tk) : Prop where
  c0 : ∀ k (h : k < l.length), w.cell? ⟨g, k * 3, none⟩ = some (.int .i64 l[k].k)
  c1 : ∀ k (h : k < l.length), w.cell? ⟨g, k * 3 + 1, none⟩ = some (.int .i64 l[k].at_)
  c2 : ∀ k (h : k < l.length), w.cell? ⟨g, k * 3 + 2, none⟩ = some (.string l[k].t)
theorem owns_shape {w : World} {base : Nat} {e : TypeId} {v : Value} {l : List Tk} (h : w.ownsRow base e 3 v l.length (cellsOf l)) :
    (∃ ao cap, v = .slice ao l.length cap ∧ l.length = 0) ∨ (∃ g cap, v = .slice (some ⟨g, 0, none⟩) l.length cap ∧ base ≤ g ∧ g < w.heap.size ∧ Toks w g l) := by
  have h0 := h
  obtain ⟨h1, h2 | ⟨g, cap, cur, e1, e2, e3, e4⟩⟩ := h
  · exact .inl ⟨none, 0, by rw [h2.1, h2.2], h2.2⟩
  · right
    subst e1
    refine ⟨g, cap, rfl, e2, (h0.lt g rfl).2, ?_⟩
    have hc := fun j hj => World.ownsRow.cellAt h0 j hj
    constructor
    · intro k hk; rw [hc _ (by omega)]; exact (cellsOf_get l k hk).1
    · intro k hk; rw [hc _ (by omega)]; exact (cellsOf_get l k hk).2.1
    · intro k hk; rw [hc _ (by omega)]; exact (cellsOf_get l k hk).2.2

theorem drewN_add (w : World) (m n : Nat) : (w.drewN m).drewN n = w.drewN (m + n) := by
  simp [World.drewN, Nat.add_assoc]
set_option maxRecDepth 100000 in
set_option maxHeartbeats 1000000 in
theorem same_nil (ao bo : Option Addr) (n ca cb : Nat) (w : World) (hn : n = 0) :
    Calls Try.prog 12 #[.slice ao n ca, .slice bo n cb] w fun e w' => e = .returned (.bool true) ∧ Below w.heap.size w w' := by
  subst hn
  go_enter Try.func12, Try.ntmps12
  go_wp2_with fail
  refine wp_loop_rounds 1 ?_
  rw [rounds_succ]
  go_wp2
  go_ret
  exact ⟨rfl, Below.refl _ _⟩
set_option maxRecDepth 100000 in
set_option maxHeartbeats 1000000 in
theorem same_some (g1 g2 ca cb : Nat) (l : List Tk) (w : World) (h1 : Toks w g1 l) (h2 : Toks w g2 l) (hn : l.length ≤ 6000) :
    Calls Try.prog 12 #[.slice (some ⟨g1, 0, none⟩) l.length ca, .slice (some ⟨g2, 0, none⟩) l.length cb] w fun e w' => e = .returned (.bool true) ∧ Below w.heap.size w w' := by
  go_enter Try.func12, Try.ntmps12
  go_wp2_with fail
  go_loopw [5] (fun i wr => ∃ k m : Nat, k ≤ l.length ∧ i = .int .i64 k ∧ wr = w.drewN m) (fun i _ => l.length - (intOf i).toNat)
  case atStart => exact ⟨0, 0, Nat.zero_le _, rfl, rfl⟩
  case round =>
    obtain ⟨k, m, hk, rfl, rfl⟩ := hrel
    by_cases hlt : k < l.length
    · have a0 := h1.c0 k hlt; have a1 := h1.c1 k hlt; have a2 := h1.c2 k hlt
      have b0 := h2.c0 k hlt; have b1 := h2.c1 k hlt; have b2 := h2.c2 k hlt
      go_wp2_with fail
      go_quiet (fail)
      go_wp2_with fail
      go_roundw
      case rel => exact ⟨k + 1, m + nq, by omega, by go_num, rfl⟩
      case measure => simp [intOf]; omega
    · go_wp2_with fail
      go_ret
      exact ⟨rfl, below_drewN (Below.refl _ _) _⟩
theorem same_any {b1 b2 : Nat} {e1 e2 : TypeId} {v1 v2 : Value} (l : List Tk) (w : World) (h1 : w.ownsRow b1 e1 3 v1 l.length (cellsOf l)) (h2 : w.ownsRow b2 e2 3 v2 l.length (cellsOf l)) (hn : l.length ≤ 6000) :
    Calls Try.prog 12 #[v1, v2] w fun e w' => e = .returned (.bool true) ∧ Below w.heap.size w w' := by
  rcases owns_shape h1 with ⟨ao, ca, rfl, hz⟩ | ⟨g1, ca, rfl, _, _, t1⟩
  · rcases owns_shape h2 with ⟨bo, cb, rfl, _⟩ | ⟨g2, cb, rfl, _, _, t2⟩
    · exact same_nil _ _ _ _ _ _ hz
    · exact same_nil _ _ _ _ _ _ hz
  · rcases owns_shape h2 with ⟨bo, cb, rfl, hz⟩ | ⟨g2, cb, rfl, _, _, t2⟩
    · exact same_nil _ _ _ _ _ _ hz
    · exact same_some g1 g2 ca cb l w t1 t2 hn
end Go.Proofs.Ytkianolbnjineaa
