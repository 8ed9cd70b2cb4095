/- The terminals of definitions: the program's way. -/
import Derived.Test.YtcanphhmflbdmacL24
import Derived.Maps.OwnSet
import Derived.WideLaws
namespace Go.Proofs.Ytcanphhmflbdmac
open Go.RowKit Go.Maps Go.WideMaps
def lits (acc : List ByteArray) : List Lit := acc.map fun s => .string s.data.toList
/-- The set of what has been seen. -/
def stD (acc : List ByteArray) : DataW Unit := setOf (.agg []) (lits acc)
theorem stD_nil : stD [] = .map [] := rfl
theorem stD_snoc (acc : List ByteArray) (s : ByteArray) : stD (acc ++ [s]) = (stD acc).put (.string s.data.toList) (.agg []) := by
  unfold stD lits
  rw [List.map_append, List.map_singleton, setOf_snoc]
theorem any_str (x : ByteArray) : ∀ l : List ByteArray, (lits l).any (fun y => y.sameKey (.string x.data.toList)) = inB x l
  | [] => rfl
  | a :: r => by
    have ih := any_str x r
    unfold lits at ih ⊢
    rw [List.map_cons, List.any_cons, ih, inB]
    congr 1
    rw [Bool.eq_iff_iff, WideAt.sameKey_iff (b := Lit.string x.data.toList) trivial, decide_eq_true_iff]
    constructor
    · intro h
      have h1 : a.data.toList = x.data.toList := by simpa using h
      have h2 : a.data = x.data := Array.ext' h1
      cases a; cases x; simp at h2; rw [h2]
    · intro h; rw [h]
theorem has_stD (acc : List ByteArray) (s : ByteArray) : Maps.has (stD acc) (.string s.data.toList) = inB s acc := by
  unfold stD
  rw [has_setOf _ _ _ (fun y hy => by obtain ⟨_, _, rfl⟩ := List.mem_map.1 hy; trivial)]
  exact any_str s acc
theorem lawS : Keyed Try.prog 9 := string_keyed Try.underlying9
theorem zeroU (w : World) : (zeroValue 100).run Try.prog w = .ok (.agg #[]) w := by kernel_rfl
/-- What the closure has at hand: the list, the set, their variables. -/
structure LkS (w : World) (B : Nat) (acc : List ByteArray) : Prop where
  sz : B + 3 ≤ w.heap.size
  cs : w.cell? ⟨B + 2, 0, none⟩ = some (.map (some (B + 1)))
  mp : w.ownsMap Try.prog 9 unitElem (B + 1) acc.length (stD acc)
  ct : ∃ v, w.cell? ⟨B, 0, none⟩ = some v ∧ w.ownsRow (B + 3) 9 1 v acc.length (acc.map .string)
  ft : w.frozen? ⟨B, 0, none⟩ = false
theorem grown_of_below {w w' : World} (hb : Below w.heap.size w w') : w.grownBy w' none := ⟨hb.os, hb.tape, hb.output, hb.size, fun k hk _ => hb.block k hk⟩
theorem LkS.below {w w' : World} {B : Nat} {acc : List ByteArray} (h : LkS w B acc) (hb : Below w.heap.size w w') : LkS w' B acc := by
  obtain ⟨v, h1, h2⟩ := h.ct
  exact ⟨Nat.le_trans h.sz hb.size, bkeep hb h.cs, h.mp.kept (grown_of_below hb) (by simp), ⟨v, bkeep hb h1, owns_below h2 hb⟩,
    (World.frozen?_of_block (w := w) (a := ⟨B, 0, none⟩) (hb.block B (lt_of_cell h1))).trans h.ft⟩
/-- All that is neither the list nor the set is as it was. -/
def Ls (B : Nat) (w w' : World) : Prop := ∀ k, k < w.heap.size → k ≠ B → k ≠ B + 1 → (∀ v, w.cell? ⟨B, 0, none⟩ = some v → v.ownBlock ≠ some k) → w'.heap[k]? = w.heap[k]?
set_option maxRecDepth 100000 in
set_option maxHeartbeats 8000000 in
theorem look_any (B : Nat) (acc : List ByteArray) (op : Int) (nm : ByteArray) (ao : Option Addr) (n cap : Nat) (w : World) (h : LkS w B acc) (hnm : nm.size ≤ 5000) (hal : acc.length ≤ 200000) :
    Calls Try.prog 62 #[.agg #[.int .i64 op, .string nm, .slice ao n cap], .pointer (some ⟨B + 2, 0, none⟩), .pointer (some ⟨B, 0, none⟩)] w fun e w' =>
      e = .returned (.bool true) ∧ LkS w' B (if op = 1 then addS acc nm else acc) ∧ Below B w w' ∧ Ls B w w' := by
  obtain ⟨i0, hi, iz0, iz1, iz2⟩ := info_parts Try.infoStr
  have hkey : keyOf Try.prog 9 (.string nm) = some (.string nm.data.toList) := keyOf_string_mk Try.underlying9 (by unfold maxLen; omega)
  have hhas := has_stD acc nm
  obtain ⟨v, ct, own⟩ := h.ct
  have hsz := h.sz
  obtain ⟨W1, hW1⟩ : ∃ W1, W1 = w.alloc (.cells #[.int .i64 op, .string nm, .slice ao n cap] 64) := ⟨_, rfl⟩
  have hb1 : Below w.heap.size w W1 := by rw [hW1]; exact al1 _ _
  have l1 := h.below hb1
  have cs1 := l1.cs
  have mp1 := l1.mp
  rw [hW1] at cs1 mp1
  have bel0 : Below B w w := Below.refl _ _
  have bel2 : Below w.heap.size w ((w.alloc (.cells #[.int .i64 op, .string nm, .slice ao n cap] 64)).alloc (.cells #[] 100)) := al2 _ _ _
  by_cases h1 : op = 1
  rotate_left
  · rw [if_neg h1]
    have hob : (op == 1) = false := by simpa using h1
    generalize inB nm acc = q at *
    go_enter Try.func62, Try.ntmps62
    go_wp2_with (at_lookup; go_must (refine wpList_lookup_own_unit _ rfl _ _ 99 rfl 9 100 lawS Try.underlying99 (zeroU _) (B + 1) acc.length _ rfl mp1 _ _ rfl hkey ?_))
    go_ret
    exact ⟨rfl, h.below bel2, bel2.mono (by omega), fun k hk _ _ _ => bel2.block k hk⟩
  subst h1
  rw [if_pos rfl, addS]
  cases hq : inB nm acc with
  | true =>
    rw [hq] at hhas
    rw [if_pos rfl]
    clear hq
    go_enter Try.func62, Try.ntmps62
    go_wp2_with (at_lookup; go_must (refine wpList_lookup_own_unit _ rfl _ _ 99 rfl 9 100 lawS Try.underlying99 (zeroU _) (B + 1) acc.length _ rfl mp1 _ _ rfl hkey ?_))
    go_ret
    exact ⟨rfl, h.below bel2, bel2.mono (by omega), fun k hk _ _ _ => bel2.block k hk⟩
  | false =>
    rw [hq] at hhas
    rw [if_neg (by simp)]
    clear hq
    have l2 := h.below bel2
    have cs2 := l2.cs
    have mp2 := l2.mp
    obtain ⟨ao1, cap1, rfl⟩ := owns_slice own
    go_enter Try.func62, Try.ntmps62
    go_wp2_with (first
      | (at_lookup; go_must (refine wpList_lookup_own_unit _ rfl _ _ 99 rfl 9 100 lawS Try.underlying99 (zeroU _) (B + 1) acc.length _ rfl mp1 _ _ rfl hkey ?_))
      | (at_mapUpdate; go_must (refine wpList_mapUpdate_own _ rfl _ _ _ 99 rfl 9 100 lawS Try.underlying99 (unitElem (H := Unit)) (B + 1) acc.length _ rfl mp2 (by unfold maxLen; omega) _ _ _ rfl rfl hkey _ [] unitElem_mk ?_)))
    intro w1 hown1 hgrow1
    obtain ⟨W2, hW2⟩ : ∃ W2, W2 = (w.alloc (.cells #[.int .i64 1, .string nm, .slice ao n cap] 64)).alloc (.cells #[] 100) := ⟨_, rfl⟩
    rw [← hW2] at hgrow1 bel2 l2
    have z2 : W2.heap.size = w.heap.size + 2 := by rw [hW2]; simp
    have ce : W2.cell? ⟨w.heap.size, 1, none⟩ = some (.string nm) := by rw [hW2]; exact alcell (by simp) _
    have z1 := hgrow1.size
    have kb : ∀ k, k < W2.heap.size → k ≠ B + 1 → w1.heap[k]? = W2.heap[k]? := fun k hk hne => hgrow1.block k hk (fun e => hne (Option.some.inj e))
    have ct1 : w1.cell? ⟨B, 0, none⟩ = some (.slice ao1 acc.length cap1) := (World.cell?_of_block (w := W2) (a := ⟨B, 0, none⟩) (kb B (by omega) (by omega))).trans (bkeep bel2 ct)
    have ft1 : w1.frozen? ⟨B, 0, none⟩ = false := (World.frozen?_of_block (w := W2) (a := ⟨B, 0, none⟩) (kb B (by omega) (by omega))).trans l2.ft
    have cs3 : w1.cell? ⟨B + 2, 0, none⟩ = some (.map (some (B + 1))) := (World.cell?_of_block (w := W2) (a := ⟨B + 2, 0, none⟩) (kb (B + 2) (by omega) (by omega))).trans l2.cs
    have ce1 : w1.cell? ⟨w.heap.size, 1, none⟩ = some (.string nm) := (World.cell?_of_block (w := W2) (a := ⟨w.heap.size, 1, none⟩) (kb w.heap.size (by omega) (by omega))).trans ce
    have own1 : w1.ownsRow (B + 3) 9 1 (.slice ao1 acc.length cap1) acc.length (acc.map .string) := (owns_below own bel2).kept hgrow1 (.inr (fun e => by have := (own.lt (B + 1) e).1; omega))
    have bel3 : Below B w w1 := (bel2.mono (by omega)).grown hgrow1 (by omega) (fun j hj => by cases hj; omega)
    have HW2 := hd hW2
    have HW1 := hd hW1
    clear hW2 hW1 cs1 mp1 cs2 mp2 l1 hb1
    go_wp2_with (at_builtin; go_must (refine wpList_append_own _ rfl _ _ 45 rfl (B + 3) 9 i0 (.string ⟨#[]⟩) 1 16 Try.underlying45 hi iz0 iz1 iz2 rfl (by decide) _ _ _ rfl (own1.alloc _) ⟨w1.heap.size, 0, none⟩ 1 1 [.string nm] rfl rfl (cell_one_at _ _ _ (by simp)) (oneSs [nm]) (by unfold maxLen; omega) (by omega) (by simp <;> omega) ?_))
    intro v' w2 own2 hgrow2 _
    obtain ⟨ao2, cap2, rfl⟩ := owns_slice own2
    have z3 := hgrow2.size
    have nrow : ∀ k, k < B + 3 → (Value.slice ao1 acc.length cap1).ownBlock ≠ some k := fun k hk e => by have := (own.lt k e).1; omega
    have kb2 : ∀ k, k < w1.heap.size → (Value.slice ao1 acc.length cap1).ownBlock ≠ some k → w2.heap[k]? = w1.heap[k]? := fun k hk hne => (hgrow2.block k (by simp <;> omega) (fun e => hne e.symm)).trans ((al1 w1 _).block k hk)
    have ct2 : w2.cell? ⟨B, 0, none⟩ = some (.slice ao1 acc.length cap1) := (World.cell?_of_block (w := w1) (a := ⟨B, 0, none⟩) (kb2 B (by omega) (nrow B (by omega)))).trans ct1
    have ft2 : w2.frozen? ⟨B, 0, none⟩ = false := (World.frozen?_of_block (w := w1) (a := ⟨B, 0, none⟩) (kb2 B (by omega) (nrow B (by omega)))).trans ft1
    have cs4 : w2.cell? ⟨B + 2, 0, none⟩ = some (.map (some (B + 1))) := (World.cell?_of_block (w := w1) (a := ⟨B + 2, 0, none⟩) (kb2 (B + 2) (by omega) (nrow (B + 2) (by omega)))).trans cs3
    have mp3 := (hown1.alloc (.cells #[.string nm] 9)).kept hgrow2 (fun e => nrow (B + 1) (by omega) e.symm)
    have bel4 : Below B w w2 := (bel3.alloc (by omega) _).grown hgrow2 (by simp <;> omega) (fun j hj => by have := (own.lt j hj).1; omega)
    have z4 : w1.heap.size + 1 ≤ w2.heap.size := by simpa using z3
    have lss : Ls B w w2 := fun k hk h1 h2 h3 => ((kb2 k (by omega) (h3 _ ct)).trans (kb k (by omega) h2)).trans (bel2.block k hk)
    clear hgrow1 hgrow2 own1 hown1 kb kb2 ce ce1 ct1 ft1 cs3
    go_wp2_with fail
    go_ret
    have own3 : w2.ownsRow (B + 3) 9 1 (.slice ao2 (acc.length + 1) cap2) (acc ++ [nm]).length ((acc ++ [nm]).map .string) := by simpa using own2
    refine ⟨rfl, ⟨by simpa [World.setCell] using (by omega : B + 3 ≤ w2.heap.size), ?_, ?_, ⟨_, World.cell?_setCell_same _ _ _ ct2, owns_setCell own3 (by show B < B + 3; omega)⟩, by simp [ft2]⟩, bel4.setCell (p := ⟨B, 0, none⟩) (Nat.le_refl _) _, fun k hk h1 h2 h3 => by rw [Below.heap_setCell _ _ _ _ (by exact h1)]; exact lss k hk h1 h2 h3⟩
    · rw [World.cell?_setCell_other _ _ _ _ (by simp)]; exact cs4
    · rw [stD_snoc, List.length_append]
      exact mp3.setCell (a := ⟨B, 0, none⟩) (by show B + 1 ≠ B; omega) _
end Go.Proofs.Ytcanphhmflbdmac
