/- Grammars, the program's way: two that are the same; kids; the rules of a nonterminal. -/
import Derived.Test.YtbhpbleenfegjacL08
namespace Go.Proofs.Ytbhpbleenfegjac.G
open Go.RowKit
set_option maxRecDepth 100000 in
set_option maxHeartbeats 4000000 in
theorem equal_any (l m : List Int) (va vb : Value) (w : World) (ha : IsV w All va l) (hb : IsV w All vb m) :
    Calls Try.prog 87 #[va, vb] w fun e w' => e = .returned (.bool (decide (l = m))) ∧ Below w.heap.size w w' := by
  obtain ⟨ao, cap, rfl⟩ := ha.slice
  obtain ⟨ao', cap', rfl⟩ := hb.slice
  have hl := ha.1
  have hm := hb.1
  by_cases hlm : l.length = m.length
  · go_enter Try.func87, Try.ntmps87
    rw [← hlm]
    have HLM := hd hlm
    clear hlm
    go_wp2_with fail
    go_loopw [13] (fun i wr => ∃ k : Nat, k ≤ l.length ∧ i = .int .i64 k ∧ Hid (∀ j, j < k → l[j]? = m[j]?) ∧ Below w.heap.size w wr) (fun i _ => l.length - (intOf i).toNat)
    case atStart => exact ⟨0, Nat.zero_le _, rfl, hd (fun j hj => absurd hj (Nat.not_lt_zero _)), Below.refl _ _⟩
    case round =>
      obtain ⟨k, hk, rfl, hall, bel⟩ := hrel
      by_cases hlt : k < l.length
      · have hlt' : k < m.length := by have := HLM.out; omega
        obtain ⟨b, o, rfl, c0⟩ := (ha.lw bel).at_ hlt
        obtain ⟨b', o', rfl, c1⟩ := (hb.lw bel).at_ hlt'
        have HN := hd (ne_at hlt hlt')
        have HE : Hid (l[k] = m[k] → l[k]? = m[k]?) := hd (fun e => by rw [List.getElem?_eq_getElem hlt, List.getElem?_eq_getElem hlt', e])
        generalize l[k] = x at *
        generalize m[k] = y at *
        clear hlt'
        by_cases hxy : x = y
        · have HE' := hd (HE.out hxy)
          subst hxy
          go_wp2_with fail
          go_region
          all_goals
            go_wp2_with fail
            go_roundw
            case rel => exact ⟨k + 1, by omega, by go_num, hd (fun j hj => by
              by_cases e : j = k
              · subst e; exact HE'.out
              · exact hall.out j (by omega)), bel.drew⟩
            case measure => simp [intOf]; omega
        · have HN' := hd (HN.out hxy)
          have hb' : (x != y) = true := by simpa using hxy
          clear hxy
          go_wp2_with fail
          go_region
          all_goals
            go_wp2_with fail
            go_ret
            exact ⟨ret_bool (by simpa using HN'.out), bel.drew⟩
      · have he : l = m := eq_of_at HLM.out fun j hj => hall.out j (by omega)
        have HE := hd he
        clear he
        go_wp2_with fail
        go_ret
        exact ⟨ret_bool (by simpa using HE.out), bel⟩
  · have hne : ¬ l = m := fun e => hlm (by rw [e])
    have HNE := hd hne
    clear hne
    have hb' : ((l.length : Int) != (m.length : Int)) = true := by simp; omega
    go_enter Try.func87, Try.ntmps87
    go_wp2_with fail
    go_ret
    exact ⟨ret_bool (by simpa using HNE.out), Below.refl _ _⟩
set_option maxRecDepth 100000 in
set_option maxHeartbeats 4000000 in
theorem sameRule_any (x y : Ru) (ar br : Option Addr) (cr dr : Nat) (w : World) (ha : IsV w All (.slice ar x.right.length cr) x.right) (hb : IsV w All (.slice br y.right.length dr) y.right) :
    Calls Try.prog 55 #[.agg #[.int .i64 x.left, .slice ar x.right.length cr], .agg #[.int .i64 y.left, .slice br y.right.length dr]] w fun e w' => e = .returned (.bool (decide (x = y))) ∧ Below w.heap.size w w' := by
  have hxy : Hid (x = y ↔ x.left = y.left ∧ x.right = y.right) := hd ⟨fun e => by subst e; exact ⟨rfl, rfl⟩, fun e => by
    obtain ⟨a, b⟩ := x
    obtain ⟨a', b'⟩ := y
    simp_all⟩
  obtain ⟨W, hW⟩ : ∃ W, W = (w.alloc (.cells #[.int .i64 x.left, .slice ar x.right.length cr] 37)).alloc (.cells #[.int .i64 y.left, .slice br y.right.length dr] 37) := ⟨_, rfl⟩
  have hWb : Below w.heap.size w W := by rw [hW]; exact al2 _ _ _
  have EQ := equal_any x.right y.right _ _ W (ha.lw hWb) (hb.lw hWb)
  by_cases h1 : x.left = y.left
  · have hb1 : (x.left == y.left) = true := by simpa using h1
    have hR : Hid (decide (x = y) = decide (x.right = y.right)) := hd (by rw [decide_eq_decide, hxy.out]; simp [h1])
    clear h1
    generalize decide (x.right = y.right) = q at *
    go_enter Try.func55, Try.ntmps55
    go_wp2_with fail
    rw [← hW]
    refine EQ.mono ?_
    rintro e w1 ⟨rfl, hb1⟩
    go_wp2_with fail
    go_ret
    exact ⟨ret_bool (by rw [hR.out]), bthen hWb hb1⟩
  · have hb1 : (x.left == y.left) = false := by simpa using h1
    have hR : Hid (decide (x = y) = false) := hd (by rw [decide_eq_false_iff_not, hxy.out]; exact fun e => h1 e.1)
    clear h1
    go_enter Try.func55, Try.ntmps55
    go_wp2_with fail
    go_ret
    exact ⟨ret_bool (by rw [hR.out]), al2 _ _ _⟩
theorem ru_ne {l m : List Ru} {k : Nat} (h1 : k < l.length) (h2 : k < m.length) (h : ¬ l[k] = m[k]) : ¬ l = m := fun e => h (by subst e; rfl)
set_option maxRecDepth 100000 in
set_option maxHeartbeats 8000000 in
theorem equalFunc_any (l m : List Ru) (va vb : Value) (w : World) (ha : RsV w All va l) (hb : RsV w All vb m) :
    Calls Try.prog 54 #[va, vb, .func (.func 55) #[] #[]] w fun e w' => e = .returned (.bool (decide (l = m))) ∧ Below w.heap.size w w' := by
  obtain ⟨ao, cap, rfl⟩ := ha.slice
  obtain ⟨ao', cap', rfl⟩ := hb.slice
  have hl := ha.1
  have hm := hb.1
  by_cases hlm : l.length = m.length
  · go_enter Try.func54, Try.ntmps54
    rw [← hlm]
    have HLM := hd hlm
    clear hlm
    go_wp2_with fail
    go_loopw [17] (fun i wr => ∃ k : Nat, k ≤ l.length ∧ i = .int .i64 k ∧ Hid (∀ j, j < k → l[j]? = m[j]?) ∧ Below w.heap.size w wr) (fun i _ => l.length - (intOf i).toNat)
    case atStart => exact ⟨0, Nat.zero_le _, rfl, hd (fun j hj => absurd hj (Nat.not_lt_zero _)), Below.refl _ _⟩
    case round =>
      obtain ⟨k, hk, rfl, hall, bel⟩ := hrel
      by_cases hlt : k < l.length
      · have hlt' : k < m.length := by have := HLM.out; omega
        obtain ⟨b, o, rfl, c0, ar, cr, c1, hc⟩ := (ha.lw bel).at_ hlt
        obtain ⟨b', o', rfl, d0, br, dr, d1, hc'⟩ := (hb.lw bel).at_ hlt'
        have HN := hd (ru_ne hlt hlt')
        have HE : Hid (l[k] = m[k] → l[k]? = m[k]?) := hd (fun e => by rw [List.getElem?_eq_getElem hlt, List.getElem?_eq_getElem hlt', e])
        generalize l[k] = x at *
        generalize m[k] = y at *
        clear hlt'
        obtain ⟨V, hV⟩ : ∃ V, V = (wr.alloc (.cells #[.int .i64 x.left, .slice ar x.right.length cr] 37)).alloc (.cells #[.int .i64 y.left, .slice br y.right.length dr] 37) := ⟨_, rfl⟩
        have hVb : Below wr.heap.size wr V := by rw [hV]; exact al2 _ _ _
        have SR := sameRule_any x y ar br cr dr V (hc.lw hVb) (hc'.lw hVb)
        have d0' := alcell d0 (.cells #[.int .i64 x.left, .slice ar x.right.length cr] 37)
        have d1' := alcell d1 (.cells #[.int .i64 x.left, .slice ar x.right.length cr] 37)
        by_cases hxy : x = y
        · have HE' := hd (HE.out hxy)
          have hq : decide (x = y) = true := by simpa using hxy
          rw [hq] at SR
          clear hxy hq
          go_wp2_with fail
          rw [← hV]
          refine SR.mono ?_
          rintro e w1 ⟨rfl, hb1⟩
          have HV := hd hV
          clear hV
          have bz := bthen bel (bthen hVb hb1)
          go_wp2_with fail
          go_roundw
          case rel => exact ⟨k + 1, by omega, by go_num, hd (fun j hj => by
            by_cases e : j = k
            · subst e; exact HE'.out
            · exact hall.out j (by omega)), bz⟩
          case measure => simp [intOf]; omega
        · have HN' := hd (HN.out hxy)
          have hq : decide (x = y) = false := by simpa using hxy
          rw [hq] at SR
          clear hxy hq
          go_wp2_with fail
          rw [← hV]
          refine SR.mono ?_
          rintro e w1 ⟨rfl, hb1⟩
          have HV := hd hV
          clear hV
          have bz := bthen bel (bthen hVb hb1)
          go_wp2_with fail
          go_ret
          exact ⟨ret_bool (by simpa using HN'.out), bz⟩
      · have he : l = m := eq_of_at HLM.out fun j hj => hall.out j (by omega)
        have HE := hd he
        clear he
        go_wp2_with fail
        go_ret
        exact ⟨ret_bool (by simpa using HE.out), bel⟩
  · have hne : ¬ l = m := fun e => hlm (by rw [e])
    have HNE := hd hne
    clear hne
    have hb' : ((l.length : Int) != (m.length : Int)) = true := by simp; omega
    go_enter Try.func54, Try.ntmps54
    go_wp2_with fail
    go_ret
    exact ⟨ret_bool (by simpa using HNE.out), Below.refl _ _⟩
set_option maxRecDepth 100000 in
set_option maxHeartbeats 8000000 in
theorem same_any (g h : Gm) (va vb : Value) (w : World) (ha : GV w All va g) (hb : GV w All vb h) :
    Calls Try.prog 14 #[va, vb] w fun e w' => e = .returned (.bool (decide (g = h))) ∧ Below w.heap.size w w' := by
  obtain ⟨ua, rfl, ra⟩ := ha
  obtain ⟨ub, rfl, rb⟩ := hb
  obtain ⟨ao, cap, rfl⟩ := ra.slice
  obtain ⟨ao', cap', rfl⟩ := rb.slice
  obtain ⟨W, hW⟩ : ∃ W, W = (w.alloc (.cells #[.int .i64 g.vars, .int .i64 g.terms, .int .i64 g.start, .slice ao g.rules.length cap] 24)).alloc (.cells #[.int .i64 h.vars, .int .i64 h.terms, .int .i64 h.start, .slice ao' h.rules.length cap'] 24) := ⟨_, rfl⟩
  have hWb : Below w.heap.size w W := by rw [hW]; exact al2 _ _ _
  have EF := equalFunc_any g.rules h.rules _ _ W (ra.lw hWb) (rb.lw hWb)
  clear ra rb
  by_cases h1 : g.vars = h.vars
  rotate_left
  · have hne : Hid (¬ g = h) := hd (fun e => h1 (by rw [e]))
    have hb' : (g.vars == h.vars) = false := by simpa using h1
    clear h1
    go_enter Try.func14, Try.ntmps14
    go_wp2_with fail
    go_ret
    exact ⟨ret_bool (by simpa using hne.out), al2 _ _ _⟩
  by_cases h2 : g.terms = h.terms
  rotate_left
  · have hne : Hid (¬ g = h) := hd (fun e => h2 (by rw [e]))
    have hb1 : (g.vars == h.vars) = true := by simpa using h1
    have hb' : (g.terms == h.terms) = false := by simpa using h2
    clear h1 h2
    go_enter Try.func14, Try.ntmps14
    go_wp2_with fail
    go_ret
    exact ⟨ret_bool (by simpa using hne.out), al2 _ _ _⟩
  by_cases h3 : g.start = h.start
  rotate_left
  · have hne : Hid (¬ g = h) := hd (fun e => h3 (by rw [e]))
    have hb1 : (g.vars == h.vars) = true := by simpa using h1
    have hb2 : (g.terms == h.terms) = true := by simpa using h2
    have hb' : (g.start == h.start) = false := by simpa using h3
    clear h1 h2 h3
    go_enter Try.func14, Try.ntmps14
    go_wp2_with fail
    go_ret
    exact ⟨ret_bool (by simpa using hne.out), al2 _ _ _⟩
  have HGH : Hid (decide (g = h) = decide (g.rules = h.rules)) := hd (by
    rw [decide_eq_decide]
    exact ⟨fun e => by rw [e], fun e => by
      obtain ⟨a, b, c, d⟩ := g
      obtain ⟨a', b', c', d'⟩ := h
      simp_all⟩)
  have hb1 : (g.vars == h.vars) = true := by simpa using h1
  have hb2 : (g.terms == h.terms) = true := by simpa using h2
  have hb3 : (g.start == h.start) = true := by simpa using h3
  clear h1 h2 h3
  generalize decide (g.rules = h.rules) = q at *
  go_enter Try.func14, Try.ntmps14
  go_wp2_with fail
  rw [← hW]
  refine EF.mono ?_
  rintro e w1 ⟨rfl, hb1⟩
  go_wp2_with fail
  go_ret
  exact ⟨ret_bool (by rw [HGH.out]), bthen hWb hb1⟩
set_option maxRecDepth 100000 in
set_option maxHeartbeats 4000000 in
theorem kids_any (x : Ru) (ar : Option Addr) (cr : Nat) (w : World) (ha : IsV w All (.slice ar x.right.length cr) x.right) (h6 : x.right.length ≤ 1000000) :
    Calls Try.prog 20 #[.agg #[.int .i64 x.left, .slice ar x.right.length cr]] w fun e w' => ∃ v, e = .returned v ∧ w'.ownsRow w.heap.size 3 1 v (kidsL x.right).length (ints (kidsL x.right)) ∧ Below w.heap.size w w' := by
  obtain ⟨i0, hi, iz0, iz1, iz2⟩ := info_parts Try.infoInt
  obtain ⟨W, hW⟩ : ∃ W, W = w.alloc (.cells #[.int .i64 x.left, .slice ar x.right.length cr] 37) := ⟨_, rfl⟩
  have hWz : W.heap.size = w.heap.size + 1 := by rw [hW]; simp
  have hWb : Below w.heap.size w W := by rw [hW]; exact al1 _ _
  generalize x.right = l at *
  go_enter Try.func20, Try.ntmps20
  go_wp2_with fail
  rw [← hW]
  have HW := hd hW
  clear hW
  go_loopw [3, 9] (fun v i wr => ∃ (k : Nat) (acc : List Int), k ≤ l.length ∧ i = .int .i64 k ∧ Hid (acc = kidsL (l.take k)) ∧ acc.length ≤ k ∧ wr.ownsRow (w.heap.size + 1) 3 1 v acc.length (ints acc) ∧ Below W.heap.size W wr) (fun _ i _ => l.length - (intOf i).toNat)
  case atStart => exact ⟨0, [], Nat.zero_le _, rfl, hd (by simp [kidsL]), Nat.le_refl _, World.ownsRow_nil _ _ _ _, Below.refl _ _⟩
  case round =>
    obtain ⟨k, acc, hk, rfl, hacc, hal, hown, hb⟩ := hrel
    have hz := hb.size
    have bel : Below w.heap.size w wr := bthen hWb hb
    by_cases hlt : k < l.length
    · obtain ⟨b, o, rfl, c0⟩ := (ha.lw bel).at_ hlt
      have HY : Hid (0 ≤ l[k] → acc ++ [l[k]] = kidsL (l.take (k + 1))) := hd (fun e => by rw [hacc.out, kidsL_yes hlt e])
      have HN : Hid (¬ 0 ≤ l[k] → acc = kidsL (l.take (k + 1))) := hd (fun e => by rw [hacc.out, kidsL_no hlt e])
      clear hacc
      generalize l[k] = x at *
      obtain ⟨aov, capv, rfl⟩ := owns_slice hown
      by_cases hx : 0 ≤ x
      · go_wp2_with (first | (at_builtin; go_must (refine wpList_append_own _ rfl _ _ 33 rfl (w.heap.size + 1) 3 i0 (.int .i64 0) 1 8 Try.underlying33 hi iz0 iz1 iz2 rfl (by decide) _ _ _ rfl (hown.alloc _) ⟨wr.heap.size, 0, none⟩ 1 1 [.int .i64 x] rfl rfl (cell_one_at _ _ _ (by simp)) (oneInts [x]) (by unfold maxLen; omega) (by omega) (by simp <;> omega) ?_)))
        intro v1 W1 own1 grow1 _
        go_wp2_with fail
        go_roundw
        case rel => exact ⟨k + 1, acc ++ [x], by omega, by go_num, hd (HY.out hx), by simp; omega, by simpa [ints] using own1, (hb.alloc hz _).grown grow1 (by simp <;> omega) (fun j hj => by have := (hown.lt j hj).1; omega)⟩
        case measure => simp [intOf]; omega
      · go_wp2_with fail
        go_roundw
        case rel => exact ⟨k + 1, acc, by omega, by go_num, hd (HN.out hx), by omega, hown, hb⟩
        case measure => simp [intOf]; omega
    · have he : acc = kidsL l := by rw [hacc.out, List.take_of_length_le (by omega)]
      rw [he] at hown
      clear hacc hal
      go_wp2_with fail
      go_ret
      exact ⟨_, rfl, owns_mono hown (by omega), bel⟩
set_option maxRecDepth 100000 in
set_option maxHeartbeats 4000000 in
theorem by_any (g : Gm) (v : Int) (va : Value) (w : World) (ha : GV w All va g) (h6 : g.rules.length ≤ 1000000) :
    Calls Try.prog 18 #[va, .int .i64 v] w fun e w' => ∃ u, e = .returned u ∧ w'.ownsRow w.heap.size 3 1 u (byL v g.rules 0).length (ints (byL v g.rules 0)) ∧ Below w.heap.size w w' := by
  obtain ⟨i0, hi, iz0, iz1, iz2⟩ := info_parts Try.infoInt
  obtain ⟨u, rfl, hr⟩ := ha
  obtain ⟨ao, cap, rfl⟩ := hr.slice
  have hl := hr.1
  obtain ⟨W, hW⟩ : ∃ W, W = w.alloc (.cells #[.int .i64 g.vars, .int .i64 g.terms, .int .i64 g.start, .slice ao g.rules.length cap] 24) := ⟨_, rfl⟩
  have hWz : W.heap.size = w.heap.size + 1 := by rw [hW]; simp
  have hWb : Below w.heap.size w W := by rw [hW]; exact al1 _ _
  go_enter Try.func18, Try.ntmps18
  go_wp2_with fail
  rw [← hW]
  have HW := hd hW
  clear hW
  go_loopw [5, 11] (fun u i wr => ∃ (k : Nat) (acc : List Int), k ≤ g.rules.length ∧ i = .int .i64 k ∧ Hid (acc = byL v (g.rules.take k) 0) ∧ acc.length ≤ k ∧ wr.ownsRow (w.heap.size + 1) 3 1 u acc.length (ints acc) ∧ Below W.heap.size W wr) (fun _ i _ => g.rules.length - (intOf i).toNat)
  case atStart => exact ⟨0, [], Nat.zero_le _, rfl, hd (by simp [byL]), Nat.le_refl _, World.ownsRow_nil _ _ _ _, Below.refl _ _⟩
  case round =>
    obtain ⟨k, acc, hk, rfl, hacc, hal, hown, hb⟩ := hrel
    have hz := hb.size
    have bel : Below w.heap.size w wr := bthen hWb hb
    by_cases hlt : k < g.rules.length
    · obtain ⟨b, o, rfl, c0, ar, cr, c1, _⟩ := (hr.lw bel).at_ hlt
      have HY : Hid (g.rules[k].left = v → acc ++ [(k : Int)] = byL v (g.rules.take (k + 1)) 0) := hd (fun e => by rw [hacc.out, byL_yes hlt e])
      have HN : Hid (¬ g.rules[k].left = v → acc = byL v (g.rules.take (k + 1)) 0) := hd (fun e => by rw [hacc.out, byL_no hlt e])
      clear hacc
      generalize g.rules[k] = y at *
      obtain ⟨aov, capv, rfl⟩ := owns_slice hown
      have hown' := hown.alloc (.cells #[.int .i64 y.left, .slice ar y.right.length cr] 37)
      have hb' := hb.alloc hz (.cells #[.int .i64 y.left, .slice ar y.right.length cr] 37)
      generalize y.left = x at *
      by_cases hx : x = v
      · have HY' := hd (HY.out hx)
        subst hx
        go_wp2_with (first | (at_builtin; go_must (refine wpList_append_own _ rfl _ _ 33 rfl (w.heap.size + 1) 3 i0 (.int .i64 0) 1 8 Try.underlying33 hi iz0 iz1 iz2 rfl (by decide) _ _ _ rfl (hown'.alloc _) ⟨wr.heap.size + 1, 0, none⟩ 1 1 [.int .i64 k] rfl rfl (cell_one_at _ _ _ (by simp)) (oneInts [(k : Int)]) (by unfold maxLen; omega) (by omega) (by simp <;> omega) ?_)))
        intro v1 W1 own1 grow1 _
        go_wp2_with fail
        go_roundw
        case rel => exact ⟨k + 1, acc ++ [(k : Int)], by omega, by go_num, HY', by simp; omega, by simpa [ints] using own1, (hb'.alloc (by simp; omega) _).grown grow1 (by simp <;> omega) (fun j hj => by have := (hown.lt j hj).1; omega)⟩
        case measure => simp [intOf]; omega
      · have HN' := hd (HN.out hx)
        have hxb : (x == v) = false := by simpa using hx
        clear hx
        go_wp2_with fail
        go_roundw
        case rel => exact ⟨k + 1, acc, by omega, by go_num, HN', by omega, hown', hb'⟩
        case measure => simp [intOf]; omega
    · have he : acc = byL v g.rules 0 := by rw [hacc.out, List.take_of_length_le (by omega)]
      rw [he] at hown
      clear hacc hal
      go_wp2_with fail
      go_ret
      exact ⟨_, rfl, owns_mono hown (by omega), bel⟩
end Go.Proofs.Ytbhpbleenfegjac.G
