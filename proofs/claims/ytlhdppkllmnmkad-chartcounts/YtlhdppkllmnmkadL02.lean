/- Grammars, in the document's way: lists of numbers that are the same, great grammars, kids, the rules of a nonterminal. -/
import Derived.Test.YtlhdppkllmnmkadL01
import Derived.Test.YtlhdppkllmnmkadProg
namespace Go.Proofs.Ytlhdppkllmnmkad.G
open Go.RowKit

theorem Try.infoInt : (Try.prog.info? 3).map (fun i => (i.zero, i.size, i.bytes)) = some (some (.int .i64 0), 1, 8) := by kernel_rfl
theorem cell_one_at (w : World) (x : Value) (t : TypeId) {n : Nat} (hn : n = w.heap.size) : ∀ j u, [x][j]? = some u → (w.alloc (.cells #[x] t)).cell? ((⟨n, 0, none⟩ : Addr).add j) = some u := by
  subst hn
  intro j u hj
  match j, hj with
  | 0, hj => simp at hj; subst hj; simp [Addr.add]
  | n + 1, hj => simp at hj
theorem ne_at {l m : List Int} {k : Nat} (h1 : k < l.length) (h2 : k < m.length) (h : ¬ l[k] = m[k]) : ¬ l = m := fun e => h (by subst e; rfl)
theorem eq_of_at {α : Type} {l m : List α} (h1 : l.length = m.length) (h : ∀ j, j < l.length → l[j]? = m[j]?) : l = m := by
  apply List.ext_getElem? 
  intro i
  rcases Nat.lt_or_ge i l.length with h' | h'
  · exact h i h'
  · rw [List.getElem?_eq_none h', List.getElem?_eq_none (by omega)]
set_option maxRecDepth 100000 in
set_option maxHeartbeats 4000000 in
theorem sameInts_any (l m : List Int) (va vb : Value) (w : World) (ha : IsV w All va l) (hb : IsV w All vb m) :
    Calls Try.prog 15 #[va, vb] w fun e w' => e = .returned (.bool (decide (l = m))) ∧ Below w.heap.size w w' := by
  obtain ⟨ao, cap, rfl⟩ := ha.slice
  obtain ⟨ao', cap', rfl⟩ := hb.slice
  have hl := ha.1
  have hm := hb.1
  by_cases hlm : l.length = m.length
  · go_enter Try.func15, Try.ntmps15
    rw [← hlm]
    have HLM := hd hlm
    clear hlm
    go_wp2_with fail
    go_loopw [5] (fun i wr => ∃ k : Nat, k ≤ l.length ∧ i = .int .i64 k ∧ Hid (∀ j, j < k → l[j]? = m[j]?) ∧ Below w.heap.size w wr) (fun i _ => l.length - (intOf i).toNat)
    case atStart => exact ⟨0, Nat.zero_le _, rfl, hd (fun j hj => absurd hj (Nat.not_lt_zero _)), Below.refl _ _⟩
    case round =>
      obtain ⟨k, hk, rfl, hall, bel⟩ := hrel
      by_cases hlt : k < l.length
      · have hlt' : k < m.length := by have := HLM.out; omega
        obtain ⟨b, o, rfl, c0⟩ := (ha.lw bel).at_ hlt
        obtain ⟨b', o', rfl, c1⟩ := (hb.lw bel).at_ hlt'
        have HN := hd (ne_at hlt hlt')
        have HE : Hid (l[k] = m[k] → l[k]? = m[k]?) := hd (fun e => by rw [List.getElem?_eq_getElem hlt, List.getElem?_eq_getElem hlt', e])
        generalize l[k] = x at *
        generalize m[k] = y at *
        clear hlt'
        by_cases hxy : x = y
        · have HE' := hd (HE.out hxy)
          subst hxy
          go_wp2_with fail
          go_region
          all_goals
            go_wp2_with fail
            go_roundw
            case rel => exact ⟨k + 1, by omega, by go_num, hd (fun j hj => by
              by_cases e : j = k
              · subst e; exact HE'.out
              · exact hall.out j (by omega)), bel.drew⟩
            case measure => simp [intOf]; omega
        · have HN' := hd (HN.out hxy)
          have hb' : (x != y) = true := by simpa using hxy
          clear hxy
          go_wp2_with fail
          go_region
          all_goals
            go_wp2_with fail
            go_ret
            exact ⟨ret_bool (by simpa using HN'.out), bel.drew⟩
      · have he : l = m := eq_of_at HLM.out fun j hj => hall.out j (by omega)
        have HE := hd he
        clear he
        go_wp2_with fail
        go_ret
        exact ⟨ret_bool (by simpa using HE.out), bel⟩
  · have hne : ¬ l = m := fun e => hlm (by rw [e])
    have HNE := hd hne
    clear hne
    have hb' : ((l.length : Int) != (m.length : Int)) = true := by simp; omega
    go_enter Try.func15, Try.ntmps15
    go_wp2_with fail
    go_ret
    exact ⟨ret_bool (by simpa using HNE.out), Below.refl _ _⟩

/-- Not great. -/
def Small (l : List Ru) : Prop := l.length ≤ 400 ∧ ∀ i (h : i < l.length), l[i].right.length ≤ 100
set_option maxRecDepth 100000 in
set_option maxHeartbeats 4000000 in
theorem great_any (g : Gm) (va : Value) (w : World) (ha : GV w All va g) :
    Calls Try.prog 10 #[va] w fun e w' => ∃ q : Bool, e = .returned (.bool q) ∧ (q = false → Small g.rules) ∧ Below w.heap.size w w' := by
  obtain ⟨u, rfl, hr⟩ := ha
  obtain ⟨ao, cap, rfl⟩ := hr.slice
  have hl := hr.1
  obtain ⟨W, hW⟩ : ∃ W, W = w.alloc (.cells #[.int .i64 g.vars, .int .i64 g.terms, .int .i64 g.start, .slice ao g.rules.length cap] 24) := ⟨_, rfl⟩
  have hWb : Below w.heap.size w W := by rw [hW]; exact al1 _ _
  have hW3 : W.cell? ⟨w.heap.size, 3, none⟩ = some (.slice ao g.rules.length cap) := by rw [hW]; simp
  by_cases h4 : g.rules.length ≤ 400
  · go_enter Try.func10, Try.ntmps10
    go_wp2_with fail
    rw [← hW]
    have HW := hd hW
    clear hW
    go_loopw [3] (fun i wr => ∃ k : Nat, k ≤ g.rules.length ∧ i = .int .i64 k ∧ Hid (∀ j (h : j < g.rules.length), j < k → g.rules[j].right.length ≤ 100) ∧ wr = W) (fun i _ => g.rules.length - (intOf i).toNat)
    case atStart => exact ⟨0, Nat.zero_le _, rfl, hd (fun j _ hj => absurd hj (Nat.not_lt_zero _)), rfl⟩
    case round =>
      obtain ⟨k, hk, rfl, hall, rfl⟩ := hrel
      by_cases hlt : k < g.rules.length
      · obtain ⟨b, o, rfl, c0, ar, cr, c1, hc⟩ := (hr.lw hWb).at_ hlt
        have hcl := hc.1
        have HA : Hid (g.rules[k].right.length ≤ 100 → ∀ j (h : j < g.rules.length), j < k + 1 → g.rules[j].right.length ≤ 100) := hd (fun e j h hj => by
          by_cases ej : j = k
          · subst ej; exact e
          · exact hall.out j h (by omega))
        clear hc
        generalize g.rules[k].right.length = n at *
        by_cases hn : n ≤ 100
        · go_wp2_with fail
          go_roundw
          case rel => exact ⟨k + 1, by omega, by go_num, hd (HA.out hn), trivial⟩
          case measure => simp [intOf]; omega
        · go_wp2_with fail
          go_ret
          exact ⟨true, rfl, (fun h => by cases h), hWb⟩
      · go_wp2_with fail
        go_ret
        exact ⟨false, rfl, fun _ => ⟨h4, fun i hi => hall.out i hi (by omega)⟩, hWb⟩
  · go_enter Try.func10, Try.ntmps10
    go_wp2_with fail
    go_ret
    exact ⟨true, rfl, (fun h => by cases h), al1 _ _⟩

/-- The nonterminals of a right side. -/
def kidsL (l : List Int) : List Int := l.filter (fun s => decide (0 ≤ s))
theorem take_snoc {α : Type} (l : List α) {k : Nat} (h : k < l.length) : l.take (k + 1) = l.take k ++ [l[k]] := List.take_succ_eq_append_getElem h
/-- The numbers of the rules of v. -/
def byL (v : Int) : List Ru → Nat → List Int
  | [], _ => []
  | r :: l, k => if r.left = v then (k : Int) :: byL v l (k + 1) else byL v l (k + 1)
theorem byL_app (v : Int) : ∀ (l m : List Ru) (k : Nat), byL v (l ++ m) k = byL v l k ++ byL v m (k + l.length)
  | [], _, _ => by simp [byL]
  | r :: l, m, k => by
    have := byL_app v l m (k + 1)
    rw [show k + 1 + l.length = k + (l.length + 1) by omega] at this
    simp only [byL, List.cons_append, List.length_cons]
    split <;> simp [this]
theorem byL_len (v : Int) : ∀ (l : List Ru) (k : Nat), (byL v l k).length ≤ l.length
  | [], _ => by simp [byL]
  | r :: l, k => by
    have := byL_len v l (k + 1)
    simp only [byL]
    split <;> simp <;> omega
theorem byL_yes {v : Int} {l : List Ru} {k : Nat} (h : k < l.length) (hp : l[k].left = v) : byL v (l.take (k + 1)) 0 = byL v (l.take k) 0 ++ [(k : Int)] := by
  rw [take_snoc l h, byL_app]; simp only [byL, hp, if_true, List.length_take]; congr 2; omega
theorem byL_no {v : Int} {l : List Ru} {k : Nat} (h : k < l.length) (hp : ¬ l[k].left = v) : byL v (l.take (k + 1)) 0 = byL v (l.take k) 0 := by
  rw [take_snoc l h, byL_app]; simp only [byL, hp, if_false, List.append_nil]
set_option maxRecDepth 100000 in
set_option maxHeartbeats 4000000 in
theorem rulesOf_any (g : Gm) (v : Int) (va : Value) (w : World) (ha : GV w All va g) (h6 : g.rules.length ≤ 1000000) :
    Calls Try.prog 156 #[va, .int .i64 v] w fun e w' => ∃ u, e = .returned u ∧ w'.ownsRow w.heap.size 3 1 u (byL v g.rules 0).length (ints (byL v g.rules 0)) ∧ Below w.heap.size w w' := by
  obtain ⟨i0, hi, iz0, iz1, iz2⟩ := info_parts Try.infoInt
  obtain ⟨u, rfl, hr⟩ := ha
  obtain ⟨ao, cap, rfl⟩ := hr.slice
  have hl := hr.1
  obtain ⟨W, hW⟩ : ∃ W, W = w.alloc (.cells #[.int .i64 g.vars, .int .i64 g.terms, .int .i64 g.start, .slice ao g.rules.length cap] 24) := ⟨_, rfl⟩
  have hWz : W.heap.size = w.heap.size + 1 := by rw [hW]; simp
  have hWb : Below w.heap.size w W := by rw [hW]; exact al1 _ _
  have hW3 : W.cell? ⟨w.heap.size, 3, none⟩ = some (.slice ao g.rules.length cap) := by rw [hW]; simp
  go_enter Try.func156, Try.ntmps156
  go_wp2_with fail
  rw [← hW]
  have HW := hd hW
  clear hW
  go_loopw [5, 6] (fun u i wr => ∃ (k : Nat) (acc : List Int), k ≤ g.rules.length ∧ i = .int .i64 k ∧ Hid (acc = byL v (g.rules.take k) 0) ∧ acc.length ≤ k ∧ wr.ownsRow (w.heap.size + 1) 3 1 u acc.length (ints acc) ∧ Below W.heap.size W wr) (fun _ i _ => g.rules.length - (intOf i).toNat)
  case atStart => exact ⟨0, [], Nat.zero_le _, rfl, hd (by simp [byL]), Nat.le_refl _, World.ownsRow_nil _ _ _ _, Below.refl _ _⟩
  case round =>
    obtain ⟨k, acc, hk, rfl, hacc, hal, hown, hb⟩ := hrel
    have hz := hb.size
    have bel : Below w.heap.size w wr := bthen hWb hb
    have s3 := bkeep hb hW3
    by_cases hlt : k < g.rules.length
    · obtain ⟨b, o, rfl, c0, _⟩ := (hr.lw bel).at_ hlt
      have HY : Hid (g.rules[k].left = v → acc ++ [(k : Int)] = byL v (g.rules.take (k + 1)) 0) := hd (fun e => by rw [hacc.out, byL_yes hlt e])
      have HN : Hid (¬ g.rules[k].left = v → acc = byL v (g.rules.take (k + 1)) 0) := hd (fun e => by rw [hacc.out, byL_no hlt e])
      clear hacc
      generalize g.rules[k].left = x at *
      obtain ⟨aov, capv, rfl⟩ := owns_slice hown
      by_cases hx : x = v
      · have HY' := hd (HY.out hx)
        subst hx
        go_wp2_with (first | (at_builtin; go_must (refine wpList_append_own _ rfl _ _ 35 rfl (w.heap.size + 1) 3 i0 (.int .i64 0) 1 8 Try.underlying35 hi iz0 iz1 iz2 rfl (by decide) _ _ _ rfl (hown.alloc _) ⟨wr.heap.size, 0, none⟩ 1 1 [.int .i64 k] rfl rfl (cell_one_at _ _ _ (by simp)) (oneInts [(k : Int)]) (by unfold maxLen; omega) (by omega) (by simp <;> omega) ?_)))
        intro v1 W1 own1 grow1 _
        go_wp2_with fail
        go_roundw
        case rel => exact ⟨k + 1, acc ++ [(k : Int)], by omega, by go_num, HY', by simp; omega, by simpa [ints] using own1, (hb.alloc hz _).grown grow1 (by simp <;> omega) (fun j hj => by have := (hown.lt j hj).1; omega)⟩
        case measure => simp [intOf]; omega
      · have HN' := hd (HN.out hx)
        have hxb : (x == v) = false := by simpa using hx
        clear hx
        go_wp2_with fail
        go_roundw
        case rel => exact ⟨k + 1, acc, by omega, by go_num, HN', by omega, hown, hb⟩
        case measure => simp [intOf]; omega
    · have he : acc = byL v g.rules 0 := by rw [hacc.out, List.take_of_length_le (by omega)]
      rw [he] at hown
      clear hacc hal
      go_wp2_with fail
      go_ret
      exact ⟨_, rfl, owns_mono hown (by omega), bel⟩
end Go.Proofs.Ytlhdppkllmnmkad.G
