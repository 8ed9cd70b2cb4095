/- Texts laid together: Gd Fs Fl Fn. -/
import Derived.Test.YtbhpbleenfegjacL01
import Derived.Test.YtbhpbleenfegjacProg
import Derived.Test.YtbhpbleenfegjacL02
/- Grammars, in the document's way: lists of numbers that are the same, great grammars, kids, the rules of a nonterminal. -/
namespace Go.Proofs.Ytbhpbleenfegjac.G
open Go.RowKit

theorem Try.infoInt : (Try.prog.info? 3).map (fun i => (i.zero, i.size, i.bytes)) = some (some (.int .i64 0), 1, 8) := by kernel_rfl
theorem cell_one_at (w : World) (x : Value) (t : TypeId) {n : Nat} (hn : n = w.heap.size) : ∀ j u, [x][j]? = some u → (w.alloc (.cells #[x] t)).cell? ((⟨n, 0, none⟩ : Addr).add j) = some u := by
  subst hn
  intro j u hj
  match j, hj with
  | 0, hj => simp at hj; subst hj; simp [Addr.add]
  | n + 1, hj => simp at hj
theorem ne_at {l m : List Int} {k : Nat} (h1 : k < l.length) (h2 : k < m.length) (h : ¬ l[k] = m[k]) : ¬ l = m := fun e => h (by subst e; rfl)
theorem eq_of_at {α : Type} {l m : List α} (h1 : l.length = m.length) (h : ∀ j, j < l.length → l[j]? = m[j]?) : l = m := by
  apply List.ext_getElem? 
  intro i
  rcases Nat.lt_or_ge i l.length with h' | h'
  · exact h i h'
  · rw [List.getElem?_eq_none h', List.getElem?_eq_none (by omega)]
set_option maxRecDepth 100000 in
set_option maxHeartbeats 4000000 in
theorem sameInts_any (l m : List Int) (va vb : Value) (w : World) (ha : IsV w All va l) (hb : IsV w All vb m) :
    Calls Try.prog 17 #[va, vb] w fun e w' => e = .returned (.bool (decide (l = m))) ∧ Below w.heap.size w w' := by
  obtain ⟨ao, cap, rfl⟩ := ha.slice
  obtain ⟨ao', cap', rfl⟩ := hb.slice
  have hl := ha.1
  have hm := hb.1
  by_cases hlm : l.length = m.length
  · go_enter Try.func17, Try.ntmps17
    rw [← hlm]
    have HLM := hd hlm
    clear hlm
    go_wp2_with fail
    go_loopw [5] (fun i wr => ∃ k : Nat, k ≤ l.length ∧ i = .int .i64 k ∧ Hid (∀ j, j < k → l[j]? = m[j]?) ∧ Below w.heap.size w wr) (fun i _ => l.length - (intOf i).toNat)
    case atStart => exact ⟨0, Nat.zero_le _, rfl, hd (fun j hj => absurd hj (Nat.not_lt_zero _)), Below.refl _ _⟩
    case round =>
      obtain ⟨k, hk, rfl, hall, bel⟩ := hrel
      by_cases hlt : k < l.length
      · have hlt' : k < m.length := by have := HLM.out; omega
        obtain ⟨b, o, rfl, c0⟩ := (ha.lw bel).at_ hlt
        obtain ⟨b', o', rfl, c1⟩ := (hb.lw bel).at_ hlt'
        have HN := hd (ne_at hlt hlt')
        have HE : Hid (l[k] = m[k] → l[k]? = m[k]?) := hd (fun e => by rw [List.getElem?_eq_getElem hlt, List.getElem?_eq_getElem hlt', e])
        generalize l[k] = x at *
        generalize m[k] = y at *
        clear hlt'
        by_cases hxy : x = y
        · have HE' := hd (HE.out hxy)
          subst hxy
          go_wp2_with fail
          go_region
          all_goals
            go_wp2_with fail
            go_roundw
            case rel => exact ⟨k + 1, by omega, by go_num, hd (fun j hj => by
              by_cases e : j = k
              · subst e; exact HE'.out
              · exact hall.out j (by omega)), bel.drew⟩
            case measure => simp [intOf]; omega
        · have HN' := hd (HN.out hxy)
          have hb' : (x != y) = true := by simpa using hxy
          clear hxy
          go_wp2_with fail
          go_region
          all_goals
            go_wp2_with fail
            go_ret
            exact ⟨ret_bool (by simpa using HN'.out), bel.drew⟩
      · have he : l = m := eq_of_at HLM.out fun j hj => hall.out j (by omega)
        have HE := hd he
        clear he
        go_wp2_with fail
        go_ret
        exact ⟨ret_bool (by simpa using HE.out), bel⟩
  · have hne : ¬ l = m := fun e => hlm (by rw [e])
    have HNE := hd hne
    clear hne
    have hb' : ((l.length : Int) != (m.length : Int)) = true := by simp; omega
    go_enter Try.func17, Try.ntmps17
    go_wp2_with fail
    go_ret
    exact ⟨ret_bool (by simpa using HNE.out), Below.refl _ _⟩

/-- Not great. -/
def Small (l : List Ru) : Prop := l.length ≤ 400 ∧ ∀ i (h : i < l.length), l[i].right.length ≤ 100
set_option maxRecDepth 100000 in
set_option maxHeartbeats 4000000 in
theorem great_any (g : Gm) (va : Value) (w : World) (ha : GV w All va g) :
    Calls Try.prog 10 #[va] w fun e w' => ∃ q : Bool, e = .returned (.bool q) ∧ (q = false → Small g.rules) ∧ Below w.heap.size w w' := by
  obtain ⟨u, rfl, hr⟩ := ha
  obtain ⟨ao, cap, rfl⟩ := hr.slice
  have hl := hr.1
  obtain ⟨W, hW⟩ : ∃ W, W = w.alloc (.cells #[.int .i64 g.vars, .int .i64 g.terms, .int .i64 g.start, .slice ao g.rules.length cap] 24) := ⟨_, rfl⟩
  have hWb : Below w.heap.size w W := by rw [hW]; exact al1 _ _
  have hW3 : W.cell? ⟨w.heap.size, 3, none⟩ = some (.slice ao g.rules.length cap) := by rw [hW]; simp
  by_cases h4 : g.rules.length ≤ 400
  · go_enter Try.func10, Try.ntmps10
    go_wp2_with fail
    rw [← hW]
    have HW := hd hW
    clear hW
    go_loopw [3] (fun i wr => ∃ k : Nat, k ≤ g.rules.length ∧ i = .int .i64 k ∧ Hid (∀ j (h : j < g.rules.length), j < k → g.rules[j].right.length ≤ 100) ∧ wr = W) (fun i _ => g.rules.length - (intOf i).toNat)
    case atStart => exact ⟨0, Nat.zero_le _, rfl, hd (fun j _ hj => absurd hj (Nat.not_lt_zero _)), rfl⟩
    case round =>
      obtain ⟨k, hk, rfl, hall, rfl⟩ := hrel
      by_cases hlt : k < g.rules.length
      · obtain ⟨b, o, rfl, c0, ar, cr, c1, hc⟩ := (hr.lw hWb).at_ hlt
        have hcl := hc.1
        have HA : Hid (g.rules[k].right.length ≤ 100 → ∀ j (h : j < g.rules.length), j < k + 1 → g.rules[j].right.length ≤ 100) := hd (fun e j h hj => by
          by_cases ej : j = k
          · subst ej; exact e
          · exact hall.out j h (by omega))
        clear hc
        generalize g.rules[k].right.length = n at *
        by_cases hn : n ≤ 100
        · go_wp2_with fail
          go_roundw
          case rel => exact ⟨k + 1, by omega, by go_num, hd (HA.out hn), trivial⟩
          case measure => simp [intOf]; omega
        · go_wp2_with fail
          go_ret
          exact ⟨true, rfl, (fun h => by cases h), hWb⟩
      · go_wp2_with fail
        go_ret
        exact ⟨false, rfl, fun _ => ⟨h4, fun i hi => hall.out i hi (by omega)⟩, hWb⟩
  · go_enter Try.func10, Try.ntmps10
    go_wp2_with fail
    go_ret
    exact ⟨true, rfl, (fun h => by cases h), al1 _ _⟩

/-- The nonterminals of a right side. -/
def kidsL (l : List Int) : List Int := l.filter (fun s => decide (0 ≤ s))
theorem kidsL_len (l : List Int) : (kidsL l).length ≤ l.length := List.length_filter_le _ _
theorem take_snoc {α : Type} (l : List α) {k : Nat} (h : k < l.length) : l.take (k + 1) = l.take k ++ [l[k]] := List.take_succ_eq_append_getElem h
theorem kidsL_yes {l : List Int} {k : Nat} (h : k < l.length) (hp : 0 ≤ l[k]) : kidsL (l.take (k + 1)) = kidsL (l.take k) ++ [l[k]] := by
  rw [take_snoc l h]; simp only [kidsL, List.filter_append, List.filter_cons, List.filter_nil, hp]; simp
theorem kidsL_no {l : List Int} {k : Nat} (h : k < l.length) (hp : ¬ 0 ≤ l[k]) : kidsL (l.take (k + 1)) = kidsL (l.take k) := by
  rw [take_snoc l h]; simp only [kidsL, List.filter_append, List.filter_cons, List.filter_nil, hp]; simp
theorem kidsL_take (l : List Int) (k : Nat) : (kidsL (l.take k)).length ≤ k := Nat.le_trans (kidsL_len _) (by simp; omega)
set_option maxRecDepth 100000 in
set_option maxHeartbeats 4000000 in
theorem kidsOf_any (l : List Int) (va : Value) (w : World) (ha : IsV w All va l) (h6 : l.length ≤ 1000000) :
    Calls Try.prog 21 #[va] w fun e w' => ∃ v, e = .returned v ∧ w'.ownsRow w.heap.size 3 1 v (kidsL l).length (ints (kidsL l)) ∧ Below w.heap.size w w' := by
  obtain ⟨i0, hi, iz0, iz1, iz2⟩ := info_parts Try.infoInt
  obtain ⟨ao, cap, rfl⟩ := ha.slice
  go_enter Try.func21, Try.ntmps21
  go_wp2_with fail
  go_loopw [3, 4] (fun v i wr => ∃ (k : Nat) (acc : List Int), k ≤ l.length ∧ i = .int .i64 k ∧ Hid (acc = kidsL (l.take k)) ∧ acc.length ≤ k ∧ wr.ownsRow w.heap.size 3 1 v acc.length (ints acc) ∧ Below w.heap.size w wr) (fun _ i _ => l.length - (intOf i).toNat)
  case atStart => exact ⟨0, [], Nat.zero_le _, rfl, hd (by simp [kidsL]), Nat.le_refl _, World.ownsRow_nil _ _ _ _, Below.refl _ _⟩
  case round =>
    obtain ⟨k, acc, hk, rfl, hacc, hal, hown, bel⟩ := hrel
    have hz := bel.size
    by_cases hlt : k < l.length
    · obtain ⟨b, o, rfl, c0⟩ := (ha.lw bel).at_ hlt
      have HY : Hid (0 ≤ l[k] → acc ++ [l[k]] = kidsL (l.take (k + 1))) := hd (fun e => by rw [hacc.out, kidsL_yes hlt e])
      have HN : Hid (¬ 0 ≤ l[k] → acc = kidsL (l.take (k + 1))) := hd (fun e => by rw [hacc.out, kidsL_no hlt e])
      clear hacc
      generalize l[k] = x at *
      obtain ⟨aov, capv, rfl⟩ := owns_slice hown
      by_cases hx : 0 ≤ x
      · go_wp2_with (first | (at_builtin; go_must (refine wpList_append_own _ rfl _ _ 33 rfl w.heap.size 3 i0 (.int .i64 0) 1 8 Try.underlying33 hi iz0 iz1 iz2 rfl (by decide) _ _ _ rfl (hown.alloc _) ⟨wr.heap.size, 0, none⟩ 1 1 [.int .i64 x] rfl rfl (cell_one_at _ _ _ (by simp)) (oneInts [x]) (by unfold maxLen; omega) (by omega) (by simp <;> omega) ?_)))
        intro v1 W1 own1 grow1 _
        go_wp2_with fail
        go_roundw
        case rel => exact ⟨k + 1, acc ++ [x], by omega, by go_num, hd (HY.out hx), by simp; omega, by simpa [ints] using own1, (bel.alloc hz _).grown grow1 (by simp <;> omega) (fun j hj => (hown.lt j hj).1)⟩
        case measure => simp [intOf]; omega
      · go_wp2_with fail
        go_roundw
        case rel => exact ⟨k + 1, acc, by omega, by go_num, hd (HN.out hx), by omega, hown, bel⟩
        case measure => simp [intOf]; omega
    · have he : acc = kidsL l := by rw [hacc.out, List.take_of_length_le (by omega)]
      rw [he] at hown
      clear hacc hal
      go_wp2_with fail
      go_ret
      exact ⟨_, rfl, hown, bel⟩

/-- The numbers of the rules of v. -/
def byL (v : Int) : List Ru → Nat → List Int
  | [], _ => []
  | r :: l, k => if r.left = v then (k : Int) :: byL v l (k + 1) else byL v l (k + 1)
theorem byL_app (v : Int) : ∀ (l m : List Ru) (k : Nat), byL v (l ++ m) k = byL v l k ++ byL v m (k + l.length)
  | [], _, _ => by simp [byL]
  | r :: l, m, k => by
    have := byL_app v l m (k + 1)
    rw [show k + 1 + l.length = k + (l.length + 1) by omega] at this
    simp only [byL, List.cons_append, List.length_cons]
    split <;> simp [this]
theorem byL_len (v : Int) : ∀ (l : List Ru) (k : Nat), (byL v l k).length ≤ l.length
  | [], _ => by simp [byL]
  | r :: l, k => by
    have := byL_len v l (k + 1)
    simp only [byL]
    split <;> simp <;> omega
theorem byL_yes {v : Int} {l : List Ru} {k : Nat} (h : k < l.length) (hp : l[k].left = v) : byL v (l.take (k + 1)) 0 = byL v (l.take k) 0 ++ [(k : Int)] := by
  rw [take_snoc l h, byL_app]; simp only [byL, hp, if_true, List.length_take]; congr 2; omega
theorem byL_no {v : Int} {l : List Ru} {k : Nat} (h : k < l.length) (hp : ¬ l[k].left = v) : byL v (l.take (k + 1)) 0 = byL v (l.take k) 0 := by
  rw [take_snoc l h, byL_app]; simp only [byL, hp, if_false, List.append_nil]
set_option maxRecDepth 100000 in
set_option maxHeartbeats 4000000 in
theorem rulesOf_any (g : Gm) (v : Int) (va : Value) (w : World) (ha : GV w All va g) (h6 : g.rules.length ≤ 1000000) :
    Calls Try.prog 19 #[va, .int .i64 v] w fun e w' => ∃ u, e = .returned u ∧ w'.ownsRow w.heap.size 3 1 u (byL v g.rules 0).length (ints (byL v g.rules 0)) ∧ Below w.heap.size w w' := by
  obtain ⟨i0, hi, iz0, iz1, iz2⟩ := info_parts Try.infoInt
  obtain ⟨u, rfl, hr⟩ := ha
  obtain ⟨ao, cap, rfl⟩ := hr.slice
  have hl := hr.1
  obtain ⟨W, hW⟩ : ∃ W, W = w.alloc (.cells #[.int .i64 g.vars, .int .i64 g.terms, .int .i64 g.start, .slice ao g.rules.length cap] 24) := ⟨_, rfl⟩
  have hWz : W.heap.size = w.heap.size + 1 := by rw [hW]; simp
  have hWb : Below w.heap.size w W := by rw [hW]; exact al1 _ _
  have hW3 : W.cell? ⟨w.heap.size, 3, none⟩ = some (.slice ao g.rules.length cap) := by rw [hW]; simp
  go_enter Try.func19, Try.ntmps19
  go_wp2_with fail
  rw [← hW]
  have HW := hd hW
  clear hW
  go_loopw [5, 6] (fun u i wr => ∃ (k : Nat) (acc : List Int), k ≤ g.rules.length ∧ i = .int .i64 k ∧ Hid (acc = byL v (g.rules.take k) 0) ∧ acc.length ≤ k ∧ wr.ownsRow (w.heap.size + 1) 3 1 u acc.length (ints acc) ∧ Below W.heap.size W wr) (fun _ i _ => g.rules.length - (intOf i).toNat)
  case atStart => exact ⟨0, [], Nat.zero_le _, rfl, hd (by simp [byL]), Nat.le_refl _, World.ownsRow_nil _ _ _ _, Below.refl _ _⟩
  case round =>
    obtain ⟨k, acc, hk, rfl, hacc, hal, hown, hb⟩ := hrel
    have hz := hb.size
    have bel : Below w.heap.size w wr := bthen hWb hb
    have s3 := bkeep hb hW3
    by_cases hlt : k < g.rules.length
    · obtain ⟨b, o, rfl, c0, _⟩ := (hr.lw bel).at_ hlt
      have HY : Hid (g.rules[k].left = v → acc ++ [(k : Int)] = byL v (g.rules.take (k + 1)) 0) := hd (fun e => by rw [hacc.out, byL_yes hlt e])
      have HN : Hid (¬ g.rules[k].left = v → acc = byL v (g.rules.take (k + 1)) 0) := hd (fun e => by rw [hacc.out, byL_no hlt e])
      clear hacc
      generalize g.rules[k].left = x at *
      obtain ⟨aov, capv, rfl⟩ := owns_slice hown
      by_cases hx : x = v
      · have HY' := hd (HY.out hx)
        subst hx
        go_wp2_with (first | (at_builtin; go_must (refine wpList_append_own _ rfl _ _ 33 rfl (w.heap.size + 1) 3 i0 (.int .i64 0) 1 8 Try.underlying33 hi iz0 iz1 iz2 rfl (by decide) _ _ _ rfl (hown.alloc _) ⟨wr.heap.size, 0, none⟩ 1 1 [.int .i64 k] rfl rfl (cell_one_at _ _ _ (by simp)) (oneInts [(k : Int)]) (by unfold maxLen; omega) (by omega) (by simp <;> omega) ?_)))
        intro v1 W1 own1 grow1 _
        go_wp2_with fail
        go_roundw
        case rel => exact ⟨k + 1, acc ++ [(k : Int)], by omega, by go_num, HY', by simp; omega, by simpa [ints] using own1, (hb.alloc hz _).grown grow1 (by simp <;> omega) (fun j hj => by have := (hown.lt j hj).1; omega)⟩
        case measure => simp [intOf]; omega
      · have HN' := hd (HN.out hx)
        have hxb : (x == v) = false := by simpa using hx
        clear hx
        go_wp2_with fail
        go_roundw
        case rel => exact ⟨k + 1, acc, by omega, by go_num, HN', by omega, hown, hb⟩
        case measure => simp [intOf]; omega
    · have he : acc = byL v g.rules 0 := by rw [hacc.out, List.take_of_length_le (by omega)]
      rw [he] at hown
      clear hacc hal
      go_wp2_with fail
      go_ret
      exact ⟨_, rfl, owns_mono hown (by omega), bel⟩
end Go.Proofs.Ytbhpbleenfegjac.G

/- Sets, the program's way: Has, With, List; numbers each of which is asked. -/
namespace Go.Proofs.Ytbhpbleenfegjac.G
open Go.RowKit
theorem ret_u {a b : Int} (h : a = b) : Ending.returned (.int .u64 a) = .returned (.int .u64 b) := by rw [h]
def mayB (v : Int) : Bool := decide (0 ≤ v) && decide (v < 64)
theorem mayB_iff {v : Int} : mayB v = true ↔ 0 ≤ v ∧ v < 64 := by simp [mayB]
set_option maxRecDepth 100000 in
set_option maxHeartbeats 4000000 in
theorem may_any (v : Int) (w : World) : Calls Try.prog 82 #[.int .i64 v] w fun e w' => e = .returned (.bool (mayB v)) ∧ w' = w := by
  by_cases h : 0 ≤ v
  · by_cases h' : v < 64
    · have hR : Hid (mayB v = true) := hd (mayB_iff.2 ⟨h, h'⟩)
      go_enter Try.func82, Try.ntmps82
      go_wp2_with fail
      go_ret
      exact ⟨ret_bool (by rw [hR.out]), rfl⟩
    · have hR : Hid (mayB v = false) := hd (by rw [← Bool.not_eq_true, mayB_iff]; omega)
      go_enter Try.func82, Try.ntmps82
      go_wp2_with fail
      go_ret
      exact ⟨ret_bool (by rw [hR.out]), rfl⟩
  · have hR : Hid (mayB v = false) := hd (by rw [← Bool.not_eq_true, mayB_iff]; omega)
    go_enter Try.func82, Try.ntmps82
    go_wp2_with fail
    go_ret
    exact ⟨ret_bool (by rw [hR.out]), rfl⟩
set_option maxRecDepth 100000 in
set_option maxHeartbeats 4000000 in
theorem has_any (s : BitVec 64) (v : Int) (w : World) : Calls Try.prog 47 #[.int .u64 (U s), .int .i64 v] w fun e w' => e = .returned (.bool (hasB s v)) ∧ w' = w := by
  have MA := may_any v w
  by_cases h : 0 ≤ v ∧ v < 64
  · obtain ⟨k, rfl⟩ : ∃ k : Nat, v = k := ⟨v.toNat, by omega⟩
    have hk : k < 64 := by omega
    rw [mayB_iff.2 h] at MA
    have hR : Hid (hasB s k = (bits .and .u64 (U s / 2 ^ k) 1 == 1)) := hd (by rw [U_has, has_nat s hk])
    clear h
    generalize hasB s k = R at *
    generalize U s = S at *
    go_enter Try.func47, Try.ntmps47
    go_wp2_with fail
    refine MA.mono ?_
    rintro e wx ⟨rfl, hwx⟩
    obtain rfl := hwx.symm
    go_wp2_with fail
    go_ret
    exact ⟨ret_bool (by rw [hR.out]), rfl⟩
  · have h0 : mayB v = false := by rw [← Bool.not_eq_true, mayB_iff]; exact h
    rw [h0] at MA
    have hR : Hid (hasB s v = false) := hd (by
      cases e : hasB s v with
      | true => exact absurd (has_in e) h
      | false => rfl)
    clear h h0
    generalize U s = S at *
    go_enter Try.func47, Try.ntmps47
    go_wp2_with fail
    refine MA.mono ?_
    rintro e wx ⟨rfl, hwx⟩
    obtain rfl := hwx.symm
    go_wp2_with fail
    go_ret
    exact ⟨ret_bool (by rw [hR.out]), rfl⟩
set_option maxRecDepth 100000 in
set_option maxHeartbeats 4000000 in
theorem with_any (s : BitVec 64) (v : Int) (w : World) : Calls Try.prog 46 #[.int .u64 (U s), .int .i64 v] w fun e w' => e = .returned (.int .u64 (U (withB s v))) ∧ w' = w := by
  have MA := may_any v w
  by_cases h : 0 ≤ v ∧ v < 64
  · obtain ⟨k, rfl⟩ : ∃ k : Nat, v = k := ⟨v.toNat, by omega⟩
    have hk : k < 64 := by omega
    rw [mayB_iff.2 h] at MA
    have hR : Hid (U (withB s k) = bits .or .u64 (U s) (IntKind.u64.wrap (1 * 2 ^ k))) := hd (by rw [U_bit k hk, U_or]; unfold withB; rw [if_pos h]; simp)
    clear h
    generalize U (withB s k) = R at *
    generalize U s = S at *
    go_enter Try.func46, Try.ntmps46
    go_wp2_with fail
    refine MA.mono ?_
    rintro e wx ⟨rfl, hwx⟩
    obtain rfl := hwx.symm
    go_wp2_with fail
    go_ret
    exact ⟨ret_u (by rw [hR.out]; simp), rfl⟩
  · have h0 : mayB v = false := by rw [← Bool.not_eq_true, mayB_iff]; exact h
    rw [h0] at MA
    have hR : Hid (U (withB s v) = U s) := hd (by unfold withB; rw [if_neg h])
    clear h h0
    generalize U (withB s v) = R at *
    generalize U s = S at *
    go_enter Try.func46, Try.ntmps46
    go_wp2_with fail
    refine MA.mono ?_
    rintro e wx ⟨rfl, hwx⟩
    obtain rfl := hwx.symm
    go_wp2_with fail
    go_ret
    exact ⟨ret_u hR.out.symm, rfl⟩
set_option maxRecDepth 100000 in
set_option maxHeartbeats 4000000 in
theorem list_any (s : BitVec 64) (w : World) : Calls Try.prog 48 #[.int .u64 (U s)] w fun e w' => ∃ v, e = .returned v ∧ w'.ownsRow w.heap.size 3 1 v (listB s).length (ints (listB s)) ∧ Below w.heap.size w w' := by
  obtain ⟨i0, hi, iz0, iz1, iz2⟩ := info_parts Try.infoInt
  go_enter Try.func48, Try.ntmps48
  go_wp2_with fail
  go_loopw [3, 5] (fun v i wr => ∃ (k : Nat) (acc : List Int), k ≤ 64 ∧ i = .int .i64 k ∧ Hid (acc = upto k fun j => hasB s j) ∧ acc.length ≤ k ∧ wr.ownsRow w.heap.size 3 1 v acc.length (ints acc) ∧ Below w.heap.size w wr) (fun _ i _ => 64 - (intOf i).toNat)
  case atStart => exact ⟨0, [], Nat.zero_le _, rfl, hd rfl, Nat.le_refl _, World.ownsRow_nil _ _ _ _, Below.refl _ _⟩
  case round =>
    obtain ⟨k, acc, hk, rfl, hacc, hal, hown, bel⟩ := hrel
    have hz := bel.size
    by_cases hlt : k < 64
    · have HA := has_any s k wr
      have HY : Hid (hasB s k = true → acc ++ [(k : Int)] = upto (k + 1) fun j => hasB s j) := hd (fun e => by rw [hacc.out, upto_yes (f := fun j : Nat => hasB s j) e])
      have HN : Hid (hasB s k = false → acc = upto (k + 1) fun j => hasB s j) := hd (fun e => by rw [hacc.out, upto_no (f := fun j : Nat => hasB s j) e])
      clear hacc
      generalize hasB s k = q at *
      obtain ⟨aov, capv, rfl⟩ := owns_slice hown
      cases q with
      | true =>
        have HY' := hd (HY.out rfl)
        clear HY HN
        go_wp2_with fail
        refine HA.mono ?_
        rintro e wx ⟨rfl, hwx⟩
        obtain rfl := hwx.symm
        go_wp2_with (first | (at_builtin; go_must (refine wpList_append_own _ rfl _ _ 33 rfl w.heap.size 3 i0 (.int .i64 0) 1 8 Try.underlying33 hi iz0 iz1 iz2 rfl (by decide) _ _ _ rfl (hown.alloc _) ⟨wr.heap.size, 0, none⟩ 1 1 [.int .i64 k] rfl rfl (cell_one_at _ _ _ (by simp)) (oneInts [(k : Int)]) (by unfold maxLen; omega) (by omega) (by simp <;> omega) ?_)))
        intro v1 W1 own1 grow1 _
        go_wp2_with fail
        go_roundw
        case rel => exact ⟨k + 1, acc ++ [(k : Int)], by omega, by go_num, HY', by simp; omega, by simpa [ints] using own1, (bel.alloc hz _).grown grow1 (by simp <;> omega) (fun j hj => (hown.lt j hj).1)⟩
        case measure => simp [intOf]; omega
      | false =>
        have HN' := hd (HN.out rfl)
        clear HY HN
        go_wp2_with fail
        refine HA.mono ?_
        rintro e wx ⟨rfl, hwx⟩
        obtain rfl := hwx.symm
        go_wp2_with fail
        go_roundw
        case rel => exact ⟨k + 1, acc, by omega, by go_num, HN', by omega, hown, bel⟩
        case measure => simp [intOf]; omega
    · have he : acc = listB s := by rw [hacc.out, show k = 64 by omega]; rfl
      rw [he] at hown
      clear hacc hal
      go_wp2_with fail
      go_ret
      exact ⟨_, rfl, hown, bel⟩

/-! Numbers each of which is asked. -/
/-- A function that is called as it is. -/
def Cal (id : Nat) : Prop := ∀ (args : Array Value) (w : World), (callFunc id args).run Try.prog w = .ok (.enter id args) w
theorem cal_has : Cal 47 := fun args w => by go_simp
/-- A look: a function value that answers p of a number, and leaves all as it is. -/
def Lk (W : World) (f : Value) (p : Int → Bool) : Prop := ∃ (id : Nat) (rc cs : Array Value), f = .func (.func id) rc cs ∧ Cal id ∧ ∀ (n : Int) (w : World), Below W.heap.size W w → Calls Try.prog id (rc.push (.int .i64 n) ++ cs) w fun e w' => e = .returned (.bool (p n)) ∧ w' = w
theorem Lk.lw {W W' : World} {f : Value} {p : Int → Bool} (h : Lk W f p) (hb : Below W.heap.size W W') : Lk W' f p :=
  let ⟨id, rc, cs, e, hc, h⟩ := h
  ⟨id, rc, cs, e, hc, fun n w hw => h n w (bthen hb hw)⟩
set_option maxRecDepth 100000 in
set_option maxHeartbeats 4000000 in
theorem fall1_any (n : Int) (bk : Nat) (p : Int → Bool) (f : Value) (w : World) (hf : Lk w f p) (hk : w.cell? ⟨bk, 0, none⟩ = some f) :
    Calls Try.prog 135 #[.int .i64 n, .pointer (some ⟨bk, 0, none⟩)] w fun e w' => e = .returned (.bool (!p n)) ∧ w' = w := by
  obtain ⟨id, rc, cs, rfl, hcf, hc⟩ := hf
  have WA := hc n w (Below.refl _ _)
  clear hc
  unfold Cal at hcf
  generalize p n = q at *
  go_enter Try.func135, Try.ntmps135
  go_wp2_with fail
  refine WA.mono ?_
  rintro e wx ⟨rfl, hwx⟩
  obtain rfl := hwx.symm
  go_wp2_with fail
  go_ret
  exact ⟨rfl, rfl⟩
end Go.Proofs.Ytbhpbleenfegjac.G

/- Numbers each of which is asked, the program's way; a set that grows till nothing more comes. -/
namespace Go.Proofs.Ytbhpbleenfegjac.G
open Go.RowKit
set_option maxRecDepth 100000 in
set_option maxHeartbeats 4000000 in
theorem findexFunc_any (p : Int → Bool) (f : Value) (l : List Int) (va : Value) (bk : Nat) (w : World) (ha : IsV w All va l) (hf : Lk w f p) (hk : w.cell? ⟨bk, 0, none⟩ = some f) :
    Calls Try.prog 110 #[va, .func (.func 135) #[] #[.pointer (some ⟨bk, 0, none⟩)]] w fun e w' => ∃ r : Int, e = .returned (.int .i64 r) ∧ decide (0 ≤ r) = !(l.all p) ∧ w' = w := by
  have AA := fun n => fall1_any n bk p f w hf hk
  obtain ⟨ao, cap, rfl⟩ := ha.slice
  have hl := ha.1
  clear hf hk
  go_enter Try.func110, Try.ntmps110
  go_wp2_with fail
  go_loopw [8] (fun i wr => ∃ k : Nat, k ≤ l.length ∧ i = .int .i64 k ∧ Hid (∀ j (h : j < l.length), j < k → p l[j] = true) ∧ wr = w) (fun i _ => l.length - (intOf i).toNat)
  case atStart => exact ⟨0, Nat.zero_le _, rfl, hd (fun j _ hj => absurd hj (Nat.not_lt_zero _)), rfl⟩
  case round =>
    obtain ⟨k, hk, rfl, hall, rfl⟩ := hrel
    by_cases hlt : k < l.length
    · obtain ⟨b, o, rfl, c0⟩ := ha.at_ hlt
      have AK := AA l[k]
      have HY : Hid (p l[k] = true → ∀ j (h : j < l.length), j < k + 1 → p l[j] = true) := hd (fun e j h hj => by
        by_cases ej : j = k
        · subst ej; exact e
        · exact hall.out j h (by omega))
      have HN : Hid (p l[k] = false → l.all p = false) := hd (fun e => by
        rw [List.all_eq_false]
        exact ⟨_, List.getElem_mem hlt, by simpa using e⟩)
      clear AA
      generalize p l[k] = q at *
      generalize l[k] = x at *
      cases q with
      | true =>
        go_wp2_with fail
        refine AK.mono ?_
        rintro e wx ⟨rfl, hwx⟩
        obtain rfl := hwx.symm
        go_wp2_with fail
        go_roundw
        case rel => exact ⟨k + 1, by omega, by go_num, hd (HY.out trivial), trivial⟩
        case measure => simp [intOf]; omega
      | false =>
        go_wp2_with fail
        refine AK.mono ?_
        rintro e wx ⟨rfl, hwx⟩
        obtain rfl := hwx.symm
        go_wp2_with fail
        go_ret
        exact ⟨(k : Int), rfl, by rw [HN.out trivial]; simp, rfl⟩
    · have hR : Hid (l.all p = true) := hd (by
        rw [List.all_eq_true]
        intro x hx
        obtain ⟨j, hj, rfl⟩ := List.mem_iff_getElem.1 hx
        exact hall.out j hj (by omega))
      go_wp2_with fail
      go_ret
      exact ⟨-1, rfl, by rw [hR.out]; rfl, rfl⟩
set_option maxRecDepth 100000 in
set_option maxHeartbeats 4000000 in
theorem fcontainsFunc_any (p : Int → Bool) (f : Value) (l : List Int) (va : Value) (bk : Nat) (w : World) (ha : IsV w All va l) (hf : Lk w f p) (hk : w.cell? ⟨bk, 0, none⟩ = some f) :
    Calls Try.prog 85 #[va, .func (.func 135) #[] #[.pointer (some ⟨bk, 0, none⟩)]] w fun e w' => e = .returned (.bool (!(l.all p))) ∧ w' = w := by
  have IA := findexFunc_any p f l va bk w ha hf hk
  obtain ⟨ao, cap, rfl⟩ := ha.slice
  clear hf hk ha
  generalize (!(l.all p)) = q at *
  go_enter Try.func85, Try.ntmps85
  go_wp2_with fail
  refine IA.mono ?_
  rintro e wx ⟨r, rfl, hr, hwx⟩
  obtain rfl := hwx.symm
  have HR := hd hr
  clear hr
  go_wp2_with fail
  go_ret
  exact ⟨ret_bool HR.out, rfl⟩
set_option maxRecDepth 100000 in
set_option maxHeartbeats 4000000 in
theorem fall_any (p : Int → Bool) (l : List Int) (va f : Value) (w : World) (ha : IsV w All va l) (hf : Lk w f p) :
    Calls Try.prog 125 #[va, f] w fun e w' => e = .returned (.bool (l.all p)) ∧ Below w.heap.size w w' := by
  obtain ⟨W, hW⟩ : ∃ W, W = w.alloc (.cells #[f] 82) := ⟨_, rfl⟩
  have hWb : Below w.heap.size w W := by rw [hW]; exact al1 _ _
  have CA := fcontainsFunc_any p f l va w.heap.size W (ha.lw hWb) (hf.lw hWb) (by rw [hW]; simp)
  obtain ⟨ao, cap, rfl⟩ := ha.slice
  obtain ⟨id, rc, cs, rfl, _⟩ := hf
  clear ha
  generalize l.all p = q at *
  go_enter Try.func125, Try.ntmps125
  go_wp2_with fail
  rw [← hW]
  refine CA.mono ?_
  rintro e wx ⟨rfl, hwx⟩
  obtain rfl := hwx.symm
  go_wp2_with fail
  go_ret
  exact ⟨ret_bool (by simp), al1 _ _⟩

/-! A set that grows. -/
set_option maxRecDepth 100000 in
set_option maxHeartbeats 4000000 in
theorem grow_any (F : BitVec 64 → BitVec 64) (I : BitVec 64 → Prop) (s : BitVec 64) (hI0 : I s) (hI : ∀ t, I t → I (t ||| F t)) (id : Nat) (cs : Array Value) (w : World) (hcf : Cal id)
    (hF : ∀ (t : BitVec 64) (w1 : World), I t → Below w.heap.size w w1 → Calls Try.prog id (#[.int .u64 (U t)] ++ cs) w1 fun e w' => e = .returned (.int .u64 (U (F t))) ∧ Below w1.heap.size w1 w') :
    Calls Try.prog 104 #[.int .u64 (U s), .func (.func id) #[] cs] w fun e w' => ∃ r, e = .returned (.int .u64 (U r)) ∧ Grows F s r ∧ r ||| F r = r ∧ Below w.heap.size w w' := by
  unfold Cal at hcf
  go_enter Try.func104, Try.ntmps104
  go_wp2_with fail
  go_loopw [0] (fun i wr => ∃ t : BitVec 64, i = .int .u64 (U t) ∧ Hid (Grows F s t) ∧ Hid (I t) ∧ Below w.heap.size w wr) (fun i _ => 18446744073709551616 - (intOf i).toNat)
  case atStart => exact ⟨s, rfl, hd .refl, hd hI0, Below.refl _ _⟩
  case round =>
    obtain ⟨t, rfl, hg, hit, bel⟩ := hrel
    have FA := hF t wr hit.out bel
    obtain ⟨T, hT⟩ : ∃ T, T = t ||| F t := ⟨_, rfl⟩
    have HO : bits .or .u64 (U t) (U (F t)) = U T := by rw [hT]; exact U_or ..
    have HT := hd hT
    clear hT
    have HF : Hid (T = t → t ||| F t = t) := hd (fun h => by rw [← HT.out, h])
    by_cases hq : T = t
    · have hb : (U T == U t) = true := by rw [hq]; simp
      have HQ := hd hq
      clear hq
      go_wp2_with fail
      refine FA.mono ?_
      rintro e wx ⟨rfl, kx⟩
      go_wp2_with fail
      go_ret
      exact ⟨t, rfl, hg.out, HF.out HQ.out, bthen bel kx⟩
    · have hb : (U T == U t) = false := by rw [U_beq]; simpa using hq
      have HM : Hid (t.toNat < T.toNat) := hd (by rw [HT.out]; exact or_more (by rw [← HT.out]; exact hq))
      clear hq
      go_wp2_with fail
      refine FA.mono ?_
      rintro e wx ⟨rfl, kx⟩
      go_wp2_with fail
      go_roundw
      case rel => exact ⟨T, rfl, hd (by rw [HT.out]; exact hg.out.more), hd (by rw [HT.out]; exact hI t hit.out), bthen bel kx⟩
      case measure =>
        have h1 := HM.out
        have h2 := T.isLt
        simp [intOf, U]; omega
end Go.Proofs.Ytbhpbleenfegjac.G

/- What is made, and what is reached, the program's way. -/
namespace Go.Proofs.Ytbhpbleenfegjac.G
open Go.RowKit
/-- A box that may be written. -/
def Bx (w : World) (p : Nat) (v : Value) : Prop := w.cell? ⟨p, 0, none⟩ = some v ∧ w.frozen? ⟨p, 0, none⟩ = false
theorem Bx.lw {w w' : World} {p : Nat} {v : Value} (h : Bx w p v) (hb : Below w.heap.size w w') : Bx w' p v :=
  ⟨bkeep hb h.1, (World.frozen?_of_block (a := ⟨p, 0, none⟩) (hb.block p (lt_of_cell h.1))).trans h.2⟩
theorem Bx.set {w : World} {p : Nat} {v u : Value} (h : Bx w p v) : Bx (w.setCell ⟨p, 0, none⟩ u) p u :=
  ⟨World.cell?_setCell_same _ _ _ h.1, by rw [World.frozen?_setCell]; exact h.2⟩
theorem Bx_new (w : World) (v : Value) (t : TypeId) {p : Nat} (hp : p = w.heap.size) : Bx (w.alloc (.cells #[v] t)) p v := by
  subst hp; exact ⟨by simp, by simp [go_sem]⟩
/-- A number is fit, as a set says. -/
def FitC (id : Nat) (t : Bool) : Prop := Cal id ∧ ∀ (s : BitVec 64) (n : Int) (w : World), Calls Try.prog id #[.int .u64 (U s), .int .i64 n] w fun e w' => e = .returned (.bool (fitB t s n)) ∧ w' = w
set_option maxRecDepth 100000 in
set_option maxHeartbeats 4000000 in
theorem fit_null : FitC 102 false := by
  refine ⟨fun args w => by go_simp, fun s n w => ?_⟩
  have HA := has_any s n w
  have HR : Hid (fitB false s n = hasB s n) := hd (by simp [fitB])
  generalize hasB s n = q at *
  generalize fitB false s n = r at *
  generalize U s = S at *
  go_enter Try.func102, Try.ntmps102
  go_wp2_with fail
  refine HA.mono ?_
  rintro e wx ⟨rfl, hwx⟩
  obtain rfl := hwx.symm
  go_wp2_with fail
  go_ret
  exact ⟨ret_bool HR.out.symm, rfl⟩
set_option maxRecDepth 100000 in
set_option maxHeartbeats 4000000 in
theorem fit_prod : FitC 103 true := by
  refine ⟨fun args w => by go_simp, fun s n w => ?_⟩
  have HA := has_any s n w
  have HR : Hid (fitB true s n = (decide (n < 0) || hasB s n)) := hd (by simp [fitB])
  generalize hasB s n = q at *
  generalize fitB true s n = r at *
  generalize U s = S at *
  by_cases h : n < 0
  · have hr : Hid (r = true) := hd (by rw [HR.out]; simp [h])
    clear HR HA
    go_enter Try.func103, Try.ntmps103
    go_wp2_with fail
    go_ret
    exact ⟨ret_bool hr.out.symm, rfl⟩
  · have hr : Hid (r = q) := hd (by rw [HR.out]; simp [h])
    clear HR
    go_enter Try.func103, Try.ntmps103
    go_wp2_with fail
    refine HA.mono ?_
    rintro e wx ⟨rfl, hwx⟩
    obtain rfl := hwx.symm
    go_wp2_with fail
    go_ret
    exact ⟨ret_bool hr.out.symm, rfl⟩
set_option maxRecDepth 100000 in
set_option maxHeartbeats 4000000 in
theorem made11_any (t : Bool) (fid : Nat) (hfc : FitC fid t) (s : BitVec 64) (n : Int) (bf bs : Nat) (w : World) (hb : w.cell? ⟨bf, 0, none⟩ = some (.func (.func fid) #[] #[])) (hs : w.cell? ⟨bs, 0, none⟩ = some (.int .u64 (U s))) :
    Calls Try.prog 126 #[.int .i64 n, .pointer (some ⟨bf, 0, none⟩), .pointer (some ⟨bs, 0, none⟩)] w fun e w' => e = .returned (.bool (fitB t s n)) ∧ w' = w := by
  obtain ⟨hcf, hc⟩ := hfc
  have HA := hc s n w
  clear hc
  unfold Cal at hcf
  generalize fitB t s n = q at *
  generalize U s = S at *
  go_enter Try.func126, Try.ntmps126
  go_wp2_with fail
  refine HA.mono ?_
  rintro e wx ⟨rfl, hwx⟩
  obtain rfl := hwx.symm
  go_wp2_with fail
  go_ret
  exact ⟨rfl, rfl⟩
theorem made_lk {t : Bool} {fid : Nat} (hfc : FitC fid t) {s : BitVec 64} {bf bs : Nat} {w : World} (hb : w.cell? ⟨bf, 0, none⟩ = some (.func (.func fid) #[] #[])) (hs : w.cell? ⟨bs, 0, none⟩ = some (.int .u64 (U s))) :
    Lk w (.func (.func 126) #[] #[.pointer (some ⟨bf, 0, none⟩), .pointer (some ⟨bs, 0, none⟩)]) (fitB t s) :=
  ⟨_, _, _, rfl, (fun args w => by go_simp), fun n w1 h1 => made11_any t fid hfc s n bf bs w1 (bkeep h1 hb) (bkeep h1 hs)⟩
theorem madeR_snoc (fit : BitVec 64 → Int → Bool) (R : List Ru) (s : BitVec 64) {k : Nat} (h : k < R.length) : madeR fit (R.take (k + 1)) s = if R[k].right.all (fit (madeR fit (R.take k) s)) then withB (madeR fit (R.take k) s) R[k].left else madeR fit (R.take k) s := by
  unfold madeR
  rw [take_snoc R h, List.foldl_append]
  rfl
set_option maxRecDepth 100000 in
set_option maxHeartbeats 4000000 in
theorem made1_any (t : Bool) (fid : Nat) (hfc : FitC fid t) (R : List Ru) (s : BitVec 64) (u : Value) (pg bf : Nat) (w : World) (h3 : w.cell? ⟨pg, 3, none⟩ = some u) (hr : RsV w All u R) (hb : w.cell? ⟨bf, 0, none⟩ = some (.func (.func fid) #[] #[])) :
    Calls Try.prog 124 #[.int .u64 (U s), .pointer (some ⟨pg, 0, none⟩), .pointer (some ⟨bf, 0, none⟩)] w fun e w' => e = .returned (.int .u64 (U (madeR (fitB t) R s))) ∧ Below w.heap.size w w' := by
  obtain ⟨ao, cap, rfl⟩ := hr.slice
  have hl := hr.1
  obtain ⟨W, hW⟩ : ∃ W, W = w.alloc (.cells #[.int .u64 (U s)] 80) := ⟨_, rfl⟩
  have hWb : Below w.heap.size w W := by rw [hW]; exact al1 _ _
  have hWx : Bx W w.heap.size (.int .u64 (U s)) := by rw [hW]; exact Bx_new _ _ _ rfl
  have hW3 := bkeep hWb h3
  have hA3 := alcell h3 (.cells #[.int .u64 (U s)] 80)
  go_enter Try.func124, Try.ntmps124
  go_wp2_with fail
  rw [← hW]
  have HW := hd hW
  clear hW hA3
  go_loopw [10] (fun i wr => ∃ (k : Nat) (acc : BitVec 64), k ≤ R.length ∧ i = .int .i64 k ∧ Hid (acc = madeR (fitB t) (R.take k) s) ∧ Bx wr w.heap.size (.int .u64 (U acc)) ∧ Below w.heap.size w wr) (fun i _ => R.length - (intOf i).toNat)
  case atStart => exact ⟨0, s, Nat.zero_le _, rfl, hd (by simp [madeR]), hWx, hWb⟩
  case round =>
    obtain ⟨k, acc, hk, rfl, hacc, hx, bel⟩ := hrel
    have hz := bel.size
    by_cases hlt : k < R.length
    · obtain ⟨b, o, rfl, c0, ar, cr, c1, hc⟩ := (hr.lw bel).at_ hlt
      have HY : Hid (R[k].right.all (fitB t acc) = true → withB acc R[k].left = madeR (fitB t) (R.take (k + 1)) s) := hd (fun e => by rw [madeR_snoc _ _ _ hlt, ← hacc.out, if_pos e])
      have HN : Hid (R[k].right.all (fitB t acc) = false → acc = madeR (fitB t) (R.take (k + 1)) s) := hd (fun e => by rw [madeR_snoc _ _ _ hlt, ← hacc.out, if_neg (by rw [e]; simp)])
      clear hacc
      generalize R[k] = x at *
      have hxl := hc.1
      obtain ⟨V, hV⟩ : ∃ V, V = wr.alloc (.cells #[.int .i64 x.left, .slice ar x.right.length cr] 37) := ⟨_, rfl⟩
      have hVb : Below wr.heap.size wr V := by rw [hV]; exact al1 _ _
      have hV1 : V.cell? ⟨wr.heap.size, 1, none⟩ = some (.slice ar x.right.length cr) := by rw [hV]; simp
      have hV0 : V.cell? ⟨wr.heap.size, 0, none⟩ = some (.int .i64 x.left) := by rw [hV]; simp
      have belV : Below w.heap.size w V := bthen bel hVb
      have xV := hx.lw hVb
      have FA := fall_any (fitB t acc) x.right _ _ V (hc.lw hVb) (made_lk hfc (bkeep belV hb) xV.1)
      clear hc
      generalize x.right.all (fitB t acc) = q at *
      cases q with
      | true =>
        have HY' := hd (HY.out rfl)
        clear HY HN
        go_wp2_with fail
        rw [← hV]
        clear hV
        go_wp2_with fail
        refine FA.mono ?_
        rintro e wx ⟨rfl, kx⟩
        have xx := xV.lw kx
        have x0 := xx.1
        have xf := xx.2
        have y0 := bkeep kx hV0
        go_wp2_with fail
        refine (with_any acc x.left wx).mono ?_
        rintro e wy ⟨rfl, hwy⟩
        obtain rfl := hwy.symm
        go_wp2_with fail
        go_roundw
        case rel => exact ⟨k + 1, _, by omega, by go_num, HY', xx.set, (bthen belV kx).setCell (p := ⟨w.heap.size, 0, none⟩) (Nat.le_refl _) _⟩
        case measure => simp [intOf]; omega
      | false =>
        have HN' := hd (HN.out rfl)
        clear HY HN
        go_wp2_with fail
        rw [← hV]
        clear hV
        go_wp2_with fail
        refine FA.mono ?_
        rintro e wx ⟨rfl, kx⟩
        go_wp2_with fail
        go_roundw
        case rel => exact ⟨k + 1, acc, by omega, by go_num, HN', xV.lw kx, bthen belV kx⟩
        case measure => simp [intOf]; omega
    · have he : Hid (acc = madeR (fitB t) R s) := hd (by rw [hacc.out, List.take_of_length_le (by omega)])
      have x0 := hx.1
      clear hacc
      go_wp2_with fail
      go_ret
      exact ⟨ret_u (by rw [he.out]), bel⟩
set_option maxRecDepth 100000 in
set_option maxHeartbeats 4000000 in
theorem made_any (t : Bool) (fid : Nat) (hfc : FitC fid t) (g : Gm) (va : Value) (w : World) (ha : GV w All va g) :
    Calls Try.prog 101 #[va, .func (.func fid) #[] #[]] w fun e w' => ∃ r, e = .returned (.int .u64 (U r)) ∧ Grows (madeR (fitB t) g.rules) 0#64 r ∧ r ||| madeR (fitB t) g.rules r = r ∧ Below w.heap.size w w' := by
  obtain ⟨u, rfl, hr⟩ := ha
  obtain ⟨ao, cap, rfl⟩ := hr.slice
  obtain ⟨V, hV⟩ : ∃ V, V = w.alloc (.cells #[.int .i64 g.vars, .int .i64 g.terms, .int .i64 g.start, .slice ao g.rules.length cap] 24) := ⟨_, rfl⟩
  have hVb : Below w.heap.size w V := by rw [hV]; exact al1 _ _
  have hVz : V.heap.size = w.heap.size + 1 := by rw [hV]; simp
  have hV3 : V.cell? ⟨w.heap.size, 3, none⟩ = some (.slice ao g.rules.length cap) := by rw [hV]; simp
  obtain ⟨W, hW⟩ : ∃ W, W = V.alloc (.cells #[.func (.func fid) #[] #[]] 130) := ⟨_, rfl⟩
  have hWb : Below V.heap.size V W := by rw [hW]; exact al1 _ _
  have hW0 : W.cell? ⟨w.heap.size + 1, 0, none⟩ = some (.func (.func fid) #[] #[]) := by rw [hW, ← hVz]; simp
  have hW3 := bkeep hWb hV3
  have kW := bthen hVb hWb
  have GA := grow_any (madeR (fitB t) g.rules) (fun _ => True) 0#64 trivial (fun _ _ => trivial) 124 #[.pointer (some ⟨w.heap.size, 0, none⟩), .pointer (some ⟨w.heap.size + 1, 0, none⟩)] W (fun args w => by go_simp)
    (fun s w1 _ h1 => made1_any t fid hfc g.rules s _ w.heap.size (w.heap.size + 1) w1 (bkeep h1 hW3) (hr.lw (bthen kW h1)) (bkeep h1 hW0))
  rw [← U_zero] at GA
  go_enter Try.func101, Try.ntmps101
  go_wp2_with fail
  rw [← hV, ← hW]
  refine GA.mono ?_
  rintro e wx ⟨r, rfl, h1, h2, kx⟩
  have HG := hd h1
  have HF := hd h2
  clear h1 h2 hV hW
  go_wp2_with fail
  go_ret
  exact ⟨r, rfl, HG.out, HF.out, bthen kW kx⟩
/-- What finds a set: it is called as it is, and answers those of which p is so. -/
def FndC (id : Nat) (g : Gm) (p : Int → Prop) : Prop := Cal id ∧ ∀ (va : Value) (w : World), GV w All va g → Calls Try.prog id #[va] w fun e w' => ∃ r, e = .returned (.int .u64 (U r)) ∧ (∀ v, hasB r v = true ↔ p v) ∧ Below w.heap.size w w'
set_option maxRecDepth 100000 in
set_option maxHeartbeats 4000000 in
theorem nullable_any (g : Gm) (hR : Lfs g.rules) : FndC 74 g (Gen false g.rules) := by
  refine ⟨fun args w => by go_simp, fun va w ha => ?_⟩
  obtain ⟨u, rfl, hr⟩ := ha
  obtain ⟨ao, cap, rfl⟩ := hr.slice
  obtain ⟨V, hV⟩ : ∃ V, V = w.alloc (.cells #[.int .i64 g.vars, .int .i64 g.terms, .int .i64 g.start, .slice ao g.rules.length cap] 24) := ⟨_, rfl⟩
  have hVb : Below w.heap.size w V := by rw [hV]; exact al1 _ _
  have MA := made_any false _ fit_null g _ V ⟨_, rfl, hr.lw hVb⟩
  go_enter Try.func74, Try.ntmps74
  go_wp2_with fail
  rw [← hV]
  refine MA.mono ?_
  rintro e wx ⟨r, rfl, h1, h2, kx⟩
  have HM := hd (made_right hR h1 h2)
  clear h1 h2 hV
  go_wp2_with fail
  go_ret
  exact ⟨r, rfl, HM.out, bthen hVb kx⟩
set_option maxRecDepth 100000 in
set_option maxHeartbeats 4000000 in
theorem productive_any (g : Gm) (hR : Lfs g.rules) : FndC 75 g (Gen true g.rules) := by
  refine ⟨fun args w => by go_simp, fun va w ha => ?_⟩
  obtain ⟨u, rfl, hr⟩ := ha
  obtain ⟨ao, cap, rfl⟩ := hr.slice
  obtain ⟨V, hV⟩ : ∃ V, V = w.alloc (.cells #[.int .i64 g.vars, .int .i64 g.terms, .int .i64 g.start, .slice ao g.rules.length cap] 24) := ⟨_, rfl⟩
  have hVb : Below w.heap.size w V := by rw [hV]; exact al1 _ _
  have MA := made_any true _ fit_prod g _ V ⟨_, rfl, hr.lw hVb⟩
  go_enter Try.func75, Try.ntmps75
  go_wp2_with fail
  rw [← hV]
  refine MA.mono ?_
  rintro e wx ⟨r, rfl, h1, h2, kx⟩
  have HM := hd (made_right hR h1 h2)
  clear h1 h2 hV
  go_wp2_with fail
  go_ret
  exact ⟨r, rfl, HM.out, bthen hVb kx⟩
set_option maxRecDepth 100000 in
set_option maxHeartbeats 4000000 in
theorem fwithin_any (l : List Int) (va : Value) (w : World) (ha : IsV w All va l) :
    Calls Try.prog 106 #[va] w fun e w' => e = .returned (.int .u64 (U (withinB l))) ∧ w' = w := by
  obtain ⟨ao, cap, rfl⟩ := ha.slice
  have hl := ha.1
  go_enter Try.func106, Try.ntmps106
  go_wp2_with fail
  go_loopw [3, 8] (fun v i wr => ∃ (k : Nat) (acc : BitVec 64), k ≤ l.length ∧ i = .int .i64 k ∧ v = .int .u64 (U acc) ∧ Hid (acc = (l.take k).foldl withB 0#64) ∧ wr = w) (fun _ i _ => l.length - (intOf i).toNat)
  case atStart => exact ⟨0, 0#64, Nat.zero_le _, rfl, rfl, hd (by simp), rfl⟩
  case round =>
    obtain ⟨k, acc, hk, rfl, rfl, hacc, rfl⟩ := hrel
    by_cases hlt : k < l.length
    · obtain ⟨b, o, rfl, c0⟩ := ha.at_ hlt
      have HA : Hid (withB acc l[k] = (l.take (k + 1)).foldl withB 0#64) := hd (by rw [take_snoc l hlt, List.foldl_append, ← hacc.out]; rfl)
      clear hacc
      generalize l[k] = x at *
      go_wp2_with fail
      refine (with_any acc x wr).mono ?_
      rintro e wy ⟨rfl, hwy⟩
      obtain rfl := hwy.symm
      go_wp2_with fail
      go_roundw
      case rel => exact ⟨k + 1, _, by omega, by go_num, rfl, HA, trivial⟩
      case measure => simp [intOf]; omega
    · have he : Hid (acc = withinB l) := hd (by rw [hacc.out, List.take_of_length_le (by omega)]; rfl)
      clear hacc
      go_wp2_with fail
      go_ret
      exact ⟨ret_u (by rw [he.out]), rfl⟩
theorem reachR_snoc (R : List Ru) (s : BitVec 64) {k : Nat} (h : k < R.length) : reachR (R.take (k + 1)) s = if hasB (reachR (R.take k) s) R[k].left then reachR (R.take k) s ||| withinB R[k].right else reachR (R.take k) s := by
  unfold reachR
  rw [take_snoc R h, List.foldl_append]
  rfl
set_option maxRecDepth 100000 in
set_option maxHeartbeats 4000000 in
theorem reachable1_any (R : List Ru) (s : BitVec 64) (u : Value) (pg : Nat) (w : World) (h3 : w.cell? ⟨pg, 3, none⟩ = some u) (hr : RsV w All u R) :
    Calls Try.prog 105 #[.int .u64 (U s), .pointer (some ⟨pg, 0, none⟩)] w fun e w' => e = .returned (.int .u64 (U (reachR R s))) ∧ Below w.heap.size w w' := by
  obtain ⟨ao, cap, rfl⟩ := hr.slice
  have hl := hr.1
  go_enter Try.func105, Try.ntmps105
  go_wp2_with fail
  go_loopw [0, 9] (fun v i wr => ∃ (k : Nat) (acc : BitVec 64), k ≤ R.length ∧ i = .int .i64 k ∧ v = .int .u64 (U acc) ∧ Hid (acc = reachR (R.take k) s) ∧ Below w.heap.size w wr) (fun _ i _ => R.length - (intOf i).toNat)
  case atStart => exact ⟨0, s, Nat.zero_le _, rfl, rfl, hd (by simp [reachR]), Below.refl _ _⟩
  case round =>
    obtain ⟨k, acc, hk, rfl, rfl, hacc, bel⟩ := hrel
    have hz := bel.size
    by_cases hlt : k < R.length
    · obtain ⟨b, o, rfl, c0, ar, cr, c1, hc⟩ := (hr.lw bel).at_ hlt
      have HY : Hid (hasB acc R[k].left = true → acc ||| withinB R[k].right = reachR (R.take (k + 1)) s) := hd (fun e => by rw [reachR_snoc _ _ hlt, ← hacc.out, if_pos e])
      have HN : Hid (hasB acc R[k].left = false → acc = reachR (R.take (k + 1)) s) := hd (fun e => by rw [reachR_snoc _ _ hlt, ← hacc.out, if_neg (by rw [e]; simp)])
      clear hacc
      generalize R[k] = x at *
      have hxl := hc.1
      obtain ⟨V, hV⟩ : ∃ V, V = wr.alloc (.cells #[.int .i64 x.left, .slice ar x.right.length cr] 37) := ⟨_, rfl⟩
      have hVb : Below wr.heap.size wr V := by rw [hV]; exact al1 _ _
      have hV1 : V.cell? ⟨wr.heap.size, 1, none⟩ = some (.slice ar x.right.length cr) := by rw [hV]; simp
      have hV0 : V.cell? ⟨wr.heap.size, 0, none⟩ = some (.int .i64 x.left) := by rw [hV]; simp
      have belV : Below w.heap.size w V := bthen bel hVb
      have HA := has_any acc x.left V
      have WA := fwithin_any x.right _ V (hc.lw hVb)
      clear hc
      generalize hasB acc x.left = q at *
      cases q with
      | true =>
        obtain ⟨T, hT⟩ : ∃ T, T = acc ||| withinB x.right := ⟨_, rfl⟩
        have HO : bits .or .u64 (U acc) (U (withinB x.right)) = U T := by rw [hT]; exact U_or ..
        have HY' : Hid (T = reachR (R.take (k + 1)) s) := hd (by rw [hT]; exact HY.out rfl)
        clear HY HN hT
        go_wp2_with fail
        rw [← hV]
        clear hV
        go_wp2_with fail
        refine HA.mono ?_
        rintro e wx ⟨rfl, hwx⟩
        obtain rfl := hwx.symm
        go_wp2_with fail
        refine WA.mono ?_
        rintro e wx ⟨rfl, hwx⟩
        obtain rfl := hwx.symm
        go_wp2_with fail
        go_roundw
        case rel => exact ⟨k + 1, T, by omega, by go_num, rfl, HY', belV⟩
        case measure => simp [intOf]; omega
      | false =>
        have HN' := hd (HN.out rfl)
        clear HY HN
        go_wp2_with fail
        rw [← hV]
        clear hV
        go_wp2_with fail
        refine HA.mono ?_
        rintro e wx ⟨rfl, hwx⟩
        obtain rfl := hwx.symm
        go_wp2_with fail
        go_roundw
        case rel => exact ⟨k + 1, acc, by omega, by go_num, rfl, HN', belV⟩
        case measure => simp [intOf]; omega
    · have he : Hid (acc = reachR R s) := hd (by rw [hacc.out, List.take_of_length_le (by omega)])
      clear hacc
      go_wp2_with fail
      go_ret
      exact ⟨ret_u (by rw [he.out]), bel⟩
set_option maxRecDepth 100000 in
set_option maxHeartbeats 4000000 in
theorem reachable_any (g : Gm) (h0 : 0 ≤ g.start) (h1 : g.start < 64) (hR : Rts g.rules) : FndC 76 g (Rch g.rules g.start) := by
  refine ⟨fun args w => by go_simp, fun va w ha => ?_⟩
  obtain ⟨u, rfl, hr⟩ := ha
  obtain ⟨ao, cap, rfl⟩ := hr.slice
  obtain ⟨V, hV⟩ : ∃ V, V = w.alloc (.cells #[.int .i64 g.vars, .int .i64 g.terms, .int .i64 g.start, .slice ao g.rules.length cap] 24) := ⟨_, rfl⟩
  have hVb : Below w.heap.size w V := by rw [hV]; exact al1 _ _
  have hV2 : V.cell? ⟨w.heap.size, 2, none⟩ = some (.int .i64 g.start) := by rw [hV]; simp
  have hV3 : V.cell? ⟨w.heap.size, 3, none⟩ = some (.slice ao g.rules.length cap) := by rw [hV]; simp
  have WA := with_any 0#64 g.start V
  rw [← U_zero] at WA
  have GA := grow_any (reachR g.rules) (fun _ => True) (withB 0#64 g.start) trivial (fun _ _ => trivial) 105 #[.pointer (some ⟨w.heap.size, 0, none⟩)] V (fun args w => by go_simp)
    (fun s w1 _ h1 => reachable1_any g.rules s _ w.heap.size w1 (bkeep h1 hV3) (hr.lw (bthen hVb h1)))
  have HR := hd (fun r => reach_right h0 h1 hR (r := r))
  clear h0 h1
  generalize withB 0#64 g.start = S at *
  go_enter Try.func76, Try.ntmps76
  go_wp2_with fail
  rw [← hV]
  clear hV
  go_wp2_with fail
  refine WA.mono ?_
  rintro e wx ⟨rfl, hwx⟩
  obtain rfl := hwx.symm
  go_wp2_with fail
  refine GA.mono ?_
  rintro e wx ⟨r, rfl, h1, h2, kx⟩
  have HM := hd (HR.out r h1 h2)
  clear h1 h2
  go_wp2_with fail
  go_ret
  exact ⟨r, rfl, HM.out, bthen hVb kx⟩
end Go.Proofs.Ytbhpbleenfegjac.G
