/- Grammars, in the document's way: two that are the same; what is wrong with one. -/
import Derived.Test.YtbhpbleenfegjacL03
namespace Go.Proofs.Ytbhpbleenfegjac.G
open Go.RowKit

theorem rs_ne {l m : List Ru} {k : Nat} (h1 : k < l.length) (h2 : k < m.length) (h : ¬ (l[k].left = m[k].left ∧ l[k].right = m[k].right)) : ¬ l = m := fun e => h (by subst e; exact ⟨rfl, rfl⟩)
theorem rs_eq {l m : List Ru} {k : Nat} (h1 : k < l.length) (h2 : k < m.length) (h : l[k].left = m[k].left ∧ l[k].right = m[k].right) : l[k]? = m[k]? := by
  rw [List.getElem?_eq_getElem h1, List.getElem?_eq_getElem h2]
  generalize l[k] = a at *
  generalize m[k] = b at *
  obtain ⟨x, y⟩ := a
  obtain ⟨x', y'⟩ := b
  simp_all
set_option maxRecDepth 100000 in
set_option maxHeartbeats 8000000 in
theorem sameGram_any (g h : Gm) (va vb : Value) (w : World) (ha : GV w All va g) (hb : GV w All vb h) :
    Calls Try.prog 15 #[va, vb] w fun e w' => e = .returned (.bool (decide (g = h))) ∧ Below w.heap.size w w' := by
  obtain ⟨ua, rfl, ra⟩ := ha
  obtain ⟨ub, rfl, rb⟩ := hb
  obtain ⟨ao, cap, rfl⟩ := ra.slice
  obtain ⟨ao', cap', rfl⟩ := rb.slice
  have hl := ra.1
  have hm := rb.1
  obtain ⟨W, hW⟩ : ∃ W, W = (w.alloc (.cells #[.int .i64 g.vars, .int .i64 g.terms, .int .i64 g.start, .slice ao g.rules.length cap] 24)).alloc (.cells #[.int .i64 h.vars, .int .i64 h.terms, .int .i64 h.start, .slice ao' h.rules.length cap'] 24) := ⟨_, rfl⟩
  have hWb : Below w.heap.size w W := by rw [hW]; exact al2 _ _ _
  have hW3 : W.cell? ⟨w.heap.size, 3, none⟩ = some (.slice ao g.rules.length cap) := by rw [hW]; simp
  have hW4 : W.cell? ⟨w.heap.size + 1, 3, none⟩ = some (.slice ao' h.rules.length cap') := by rw [hW]; simp
  by_cases h1 : g.vars = h.vars
  rotate_left
  · have hne : Hid (¬ g = h) := hd (fun e => h1 (by rw [e]))
    have hb' : (g.vars != h.vars) = true := by simpa using h1
    go_enter Try.func15, Try.ntmps15
    go_wp2_with fail
    go_ret
    exact ⟨ret_bool (by simpa using hne.out), al2 _ _ _⟩
  by_cases h2 : g.terms = h.terms
  rotate_left
  · have hne : Hid (¬ g = h) := hd (fun e => h2 (by rw [e]))
    have hb1 : (g.vars != h.vars) = false := by simpa using h1
    have hb' : (g.terms != h.terms) = true := by simpa using h2
    clear h1 h2
    go_enter Try.func15, Try.ntmps15
    go_wp2_with fail
    go_ret
    exact ⟨ret_bool (by simpa using hne.out), al2 _ _ _⟩
  by_cases h3 : g.start = h.start
  rotate_left
  · have hne : Hid (¬ g = h) := hd (fun e => h3 (by rw [e]))
    have hb1 : (g.vars != h.vars) = false := by simpa using h1
    have hb2 : (g.terms != h.terms) = false := by simpa using h2
    have hb' : (g.start != h.start) = true := by simpa using h3
    clear h1 h2 h3
    go_enter Try.func15, Try.ntmps15
    go_wp2_with fail
    go_ret
    exact ⟨ret_bool (by simpa using hne.out), al2 _ _ _⟩
  by_cases h4 : g.rules.length = h.rules.length
  rotate_left
  · have hne : Hid (¬ g = h) := hd (fun e => h4 (by rw [e]))
    have hb1 : (g.vars != h.vars) = false := by simpa using h1
    have hb2 : (g.terms != h.terms) = false := by simpa using h2
    have hb3 : (g.start != h.start) = false := by simpa using h3
    have hb' : ((g.rules.length : Int) != (h.rules.length : Int)) = true := by simp; omega
    clear h1 h2 h3 h4
    go_enter Try.func15, Try.ntmps15
    go_wp2_with fail
    go_ret
    exact ⟨ret_bool (by simpa using hne.out), al2 _ _ _⟩
  have HGH : Hid (g = h ↔ g.rules = h.rules) := hd ⟨fun e => by rw [e], fun e => by
    obtain ⟨a, b, c, d⟩ := g
    obtain ⟨a', b', c', d'⟩ := h
    simp_all⟩
  have hb1 : (g.vars != h.vars) = false := by simpa using h1
  have hb2 : (g.terms != h.terms) = false := by simpa using h2
  have hb3 : (g.start != h.start) = false := by simpa using h3
  have hb4 : ((g.rules.length : Int) != (h.rules.length : Int)) = false := by simp; omega
  have HL := hd h4
  clear h1 h2 h3 h4
  go_enter Try.func15, Try.ntmps15
  go_wp2_with fail
  rw [← hW]
  have HW := hd hW
  clear hW hb1 hb2 hb3 hb4
  go_loopw [5] (fun i wr => ∃ k : Nat, k ≤ g.rules.length ∧ i = .int .i64 k ∧ Hid (∀ j, j < k → g.rules[j]? = h.rules[j]?) ∧ Below W.heap.size W wr) (fun i _ => g.rules.length - (intOf i).toNat)
  case atStart => exact ⟨0, Nat.zero_le _, rfl, hd (fun j hj => absurd hj (Nat.not_lt_zero _)), Below.refl _ _⟩
  case round =>
    obtain ⟨k, hk, rfl, hall, hb⟩ := hrel
    have bel : Below w.heap.size w wr := bthen hWb hb
    have s3 := bkeep hb hW3
    have s4 := bkeep hb hW4
    by_cases hlt : k < g.rules.length
    · have hlt' : k < h.rules.length := by have := HL.out; omega
      obtain ⟨b, o, rfl, c0, ar, cr, c1, hc⟩ := (ra.lw bel).at_ hlt
      obtain ⟨b', o', rfl, d0, ar', cr', d1, hc'⟩ := (rb.lw bel).at_ hlt'
      have HN := hd (rs_ne hlt hlt')
      have HE := hd (rs_eq hlt hlt')
      have SI := fun z : Wd wr => sameInts_any g.rules[k].right h.rules[k].right (.slice ar g.rules[k].right.length cr) (.slice ar' h.rules[k].right.length cr') z.u (hc.lw z.h) (hc'.lw z.h)
      have r3 := fun z : Wd wr => z.cell s3
      have r4 := fun z : Wd wr => z.cell s4
      have e0 := fun z : Wd wr => z.cell c0
      have e1 := fun z : Wd wr => z.cell c1
      have f0 := fun z : Wd wr => z.cell d0
      have f1 := fun z : Wd wr => z.cell d1
      have wne : Nonempty (Wd wr) := Wd.ne _
      clear c0 c1 d0 d1 hc hc'
      generalize g.rules[k] = x at *
      generalize h.rules[k] = y at *
      have HLT' := hd hlt'
      by_cases hx : x.left = y.left
      · have hxb : (x.left != y.left) = false := by simpa using hx
        by_cases hy : x.right = y.right
        · have HE' := hd (HE.out ⟨hx, hy⟩)
          have hyb : decide (x.right = y.right) = true := by simpa using hy
          rw [hyb] at SI
          clear hx hy
          go_wp2_with fail
          refine region_quiet_lit (C := fun w' => ∃ z : Wd wr, w' = z.u) (by kernel_rfl) (by kernel_rfl) (Wd.drawn _) ?_
          iterate 26 (go_big_quiet_step (fail))
          go_big_quiet_step (exact calls_wd (SI _))
          iterate 2 (go_big_quiet_step (fail))
          refine wpQuiet_nil ?_
          intro _ hw'
          obtain ⟨z, hw''⟩ := hw'
          subst hw''
          have bz := bthen hb z.h
          go_wp2_with fail
          go_roundw
          case rel => exact ⟨k + 1, by omega, by go_num, hd (fun j hj => by
            by_cases e : j = k
            · subst e; exact HE'.out
            · exact hall.out j (by omega)), bz⟩
          case measure => simp [intOf]; omega
        · have HN' : Hid (¬ g = h) := hd (fun e => HN.out (fun e => hy e.2) (HGH.out.1 e))
          have hyb : decide (x.right = y.right) = false := by simpa using hy
          rw [hyb] at SI
          clear hx hy
          go_wp2_with fail
          refine region_quiet_lit (C := fun w' => ∃ z : Wd wr, w' = z.u) (by kernel_rfl) (by kernel_rfl) (Wd.drawn _) ?_
          iterate 26 (go_big_quiet_step (fail))
          go_big_quiet_step (exact calls_wd (SI _))
          iterate 2 (go_big_quiet_step (fail))
          refine wpQuiet_nil ?_
          intro _ hw'
          obtain ⟨z, hw''⟩ := hw'
          subst hw''
          have bz := bthen bel z.h
          go_wp2_with fail
          go_ret
          exact ⟨ret_bool (by simpa using HN'.out), bz⟩
      · have HN' : Hid (¬ g = h) := hd (fun e => HN.out (fun e => hx e.1) (HGH.out.1 e))
        have hxb : (x.left != y.left) = true := by simpa using hx
        clear hx
        go_wp2_with fail
        refine region_quiet_lit (C := fun w' => ∃ z : Wd wr, w' = z.u) (by kernel_rfl) (by kernel_rfl) (Wd.drawn _) ?_
        iterate 29 (go_big_quiet_step (fail))
        refine wpQuiet_nil ?_
        intro _ hw'
        obtain ⟨z, hw''⟩ := hw'
        subst hw''
        have bz := bthen bel z.h
        go_wp2_with fail
        go_ret
        exact ⟨ret_bool (by simpa using HN'.out), bz⟩
    · have he : Hid (g = h) := hd (HGH.out.2 (eq_of_at HL.out fun j hj => hall.out j (by omega)))
      go_wp2_with fail
      go_ret
      exact ⟨ret_bool (by simpa using he.out), bel⟩

/-- Vars, Terms and Start are as they should be. -/
def szB (g : Gm) : Bool := decide (1 ≤ g.vars ∧ g.vars ≤ 64 ∧ 0 ≤ g.terms ∧ g.terms ≤ 16 ∧ 0 ≤ g.start ∧ g.start < g.vars)
/-- A symbol. -/
def syB (g : Gm) (s : Int) : Bool := decide (-g.terms ≤ s ∧ s < g.vars)
def ruF (g : Gm) (r : Ru) : Int := if 10 < r.right.length then 6 else if (0 ≤ r.left ∧ r.left < g.vars) ∧ r.right.all (syB g) = true then 0 else 9
def rsF (g : Gm) : List Ru → Nat → Int × Int
  | [], _ => (0, 0)
  | r :: l, k => if ruF g r = 0 then rsF g l (k + 1) else (ruF g r, (k : Int))
/-- What is wrong with a grammar. -/
def gFl (g : Gm) : Int × Int := if szB g then if 160 < g.rules.length then (6, -1) else rsF g g.rules 0 else (9, -1)
theorem rsF_at {g : Gm} {l : List Ru} {k : Nat} (h : k < l.length) : rsF g (l.drop k) k = if ruF g l[k] = 0 then rsF g (l.drop (k + 1)) (k + 1) else (ruF g l[k], (k : Int)) := by
  rw [List.drop_eq_getElem_cons h]; rfl
theorem rsF_end {g : Gm} {l : List Ru} {k : Nat} (h : l.length ≤ k) : rsF g (l.drop k) k = (0, 0) := by
  rw [List.drop_of_length_le h]; rfl
set_option maxRecDepth 100000 in
set_option maxHeartbeats 4000000 in
theorem rF_any (a b : Int) (w : World) :
    Calls Try.prog 53 #[.int .i64 a, .int .i64 b] w fun e w' => e = .returned (.agg #[.int .i64 a, .int .i64 b]) ∧ Below w.heap.size w w' := by
  go_enter Try.func53, Try.ntmps53
  go_wp2_with fail
  refine bodyPost_ret (v := .agg #[.int .i64 a, .int .i64 b]) (by simp [results, Try.results53, go_sem]) rfl ⟨rfl, al1 _ _⟩
end Go.Proofs.Ytbhpbleenfegjac.G
