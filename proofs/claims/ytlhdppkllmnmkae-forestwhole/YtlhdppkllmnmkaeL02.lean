/- Texts laid together: Gq Gf Gp Gs. -/
import Derived.Test.YtlhdppkllmnmkaeL01
/- Grammars, the program's way: two that are the same; kids; the rules of a nonterminal. -/
namespace Go.Proofs.Ytlhdppkllmnmkae.G
open Go.RowKit
set_option maxRecDepth 100000 in
set_option maxHeartbeats 4000000 in
theorem kids_any (x : Ru) (ar : Option Addr) (cr : Nat) (w : World) (ha : IsV w All (.slice ar x.right.length cr) x.right) (h6 : x.right.length ≤ 1000000) :
    Calls Try.prog 80 #[.agg #[.int .i64 x.left, .slice ar x.right.length cr]] w fun e w' => ∃ v, e = .returned v ∧ w'.ownsRow w.heap.size 3 1 v (kidsL x.right).length (ints (kidsL x.right)) ∧ Below w.heap.size w w' := by
  obtain ⟨i0, hi, iz0, iz1, iz2⟩ := info_parts Try.infoInt
  obtain ⟨W, hW⟩ : ∃ W, W = w.alloc (.cells #[.int .i64 x.left, .slice ar x.right.length cr] 37) := ⟨_, rfl⟩
  have hWz : W.heap.size = w.heap.size + 1 := by rw [hW]; simp
  have hWb : Below w.heap.size w W := by rw [hW]; exact al1 _ _
  generalize x.right = l at *
  go_enter Try.func80, Try.ntmps80
  go_wp2_with fail
  rw [← hW]
  have HW := hd hW
  clear hW
  go_loopw [3, 9] (fun v i wr => ∃ (k : Nat) (acc : List Int), k ≤ l.length ∧ i = .int .i64 k ∧ Hid (acc = kidsL (l.take k)) ∧ acc.length ≤ k ∧ wr.ownsRow (w.heap.size + 1) 3 1 v acc.length (ints acc) ∧ Below W.heap.size W wr) (fun _ i _ => l.length - (intOf i).toNat)
  case atStart => exact ⟨0, [], Nat.zero_le _, rfl, hd (by simp [kidsL]), Nat.le_refl _, World.ownsRow_nil _ _ _ _, Below.refl _ _⟩
  case round =>
    obtain ⟨k, acc, hk, rfl, hacc, hal, hown, hb⟩ := hrel
    have hz := hb.size
    have bel : Below w.heap.size w wr := bthen hWb hb
    by_cases hlt : k < l.length
    · obtain ⟨b, o, rfl, c0⟩ := (ha.lw bel).at_ hlt
      have HY : Hid (0 ≤ l[k] → acc ++ [l[k]] = kidsL (l.take (k + 1))) := hd (fun e => by rw [hacc.out, kidsL_yes hlt e])
      have HN : Hid (¬ 0 ≤ l[k] → acc = kidsL (l.take (k + 1))) := hd (fun e => by rw [hacc.out, kidsL_no hlt e])
      clear hacc
      generalize l[k] = x at *
      obtain ⟨aov, capv, rfl⟩ := owns_slice hown
      by_cases hx : 0 ≤ x
      · go_wp2_with (first | (at_builtin; go_must (refine wpList_append_own _ rfl _ _ 25 rfl (w.heap.size + 1) 3 i0 (.int .i64 0) 1 8 Try.underlying25 hi iz0 iz1 iz2 rfl (by decide) _ _ _ rfl (hown.alloc _) ⟨wr.heap.size, 0, none⟩ 1 1 [.int .i64 x] rfl rfl (cell_one_at _ _ _ (by simp)) (oneInts [x]) (by unfold maxLen; omega) (by omega) (by simp <;> omega) ?_)))
        intro v1 W1 own1 grow1 _
        go_wp2_with fail
        go_roundw
        case rel => exact ⟨k + 1, acc ++ [x], by omega, by go_num, hd (HY.out hx), by simp; omega, by simpa [ints] using own1, (hb.alloc hz _).grown grow1 (by simp <;> omega) (fun j hj => by have := (hown.lt j hj).1; omega)⟩
        case measure => simp [intOf]; omega
      · go_wp2_with fail
        go_roundw
        case rel => exact ⟨k + 1, acc, by omega, by go_num, hd (HN.out hx), by omega, hown, hb⟩
        case measure => simp [intOf]; omega
    · have he : acc = kidsL l := by rw [hacc.out, List.take_of_length_le (by omega)]
      rw [he] at hown
      clear hacc hal
      go_wp2_with fail
      go_ret
      exact ⟨_, rfl, owns_mono hown (by omega), bel⟩
set_option maxRecDepth 100000 in
set_option maxHeartbeats 4000000 in
theorem by_any (g : Gm) (v : Int) (va : Value) (w : World) (ha : GV w All va g) (h6 : g.rules.length ≤ 1000000) :
    Calls Try.prog 38 #[va, .int .i64 v] w fun e w' => ∃ u, e = .returned u ∧ w'.ownsRow w.heap.size 3 1 u (byL v g.rules 0).length (ints (byL v g.rules 0)) ∧ Below w.heap.size w w' := by
  obtain ⟨i0, hi, iz0, iz1, iz2⟩ := info_parts Try.infoInt
  obtain ⟨u, rfl, hr⟩ := ha
  obtain ⟨ao, cap, rfl⟩ := hr.slice
  have hl := hr.1
  obtain ⟨W, hW⟩ : ∃ W, W = w.alloc (.cells #[.int .i64 g.vars, .int .i64 g.terms, .int .i64 g.start, .slice ao g.rules.length cap] 24) := ⟨_, rfl⟩
  have hWz : W.heap.size = w.heap.size + 1 := by rw [hW]; simp
  have hWb : Below w.heap.size w W := by rw [hW]; exact al1 _ _
  go_enter Try.func38, Try.ntmps38
  go_wp2_with fail
  rw [← hW]
  have HW := hd hW
  clear hW
  go_loopw [5, 11] (fun u i wr => ∃ (k : Nat) (acc : List Int), k ≤ g.rules.length ∧ i = .int .i64 k ∧ Hid (acc = byL v (g.rules.take k) 0) ∧ acc.length ≤ k ∧ wr.ownsRow (w.heap.size + 1) 3 1 u acc.length (ints acc) ∧ Below W.heap.size W wr) (fun _ i _ => g.rules.length - (intOf i).toNat)
  case atStart => exact ⟨0, [], Nat.zero_le _, rfl, hd (by simp [byL]), Nat.le_refl _, World.ownsRow_nil _ _ _ _, Below.refl _ _⟩
  case round =>
    obtain ⟨k, acc, hk, rfl, hacc, hal, hown, hb⟩ := hrel
    have hz := hb.size
    have bel : Below w.heap.size w wr := bthen hWb hb
    by_cases hlt : k < g.rules.length
    · obtain ⟨b, o, rfl, c0, ar, cr, c1, _⟩ := (hr.lw bel).at_ hlt
      have HY : Hid (g.rules[k].left = v → acc ++ [(k : Int)] = byL v (g.rules.take (k + 1)) 0) := hd (fun e => by rw [hacc.out, byL_yes hlt e])
      have HN : Hid (¬ g.rules[k].left = v → acc = byL v (g.rules.take (k + 1)) 0) := hd (fun e => by rw [hacc.out, byL_no hlt e])
      clear hacc
      generalize g.rules[k] = y at *
      obtain ⟨aov, capv, rfl⟩ := owns_slice hown
      have hown' := hown.alloc (.cells #[.int .i64 y.left, .slice ar y.right.length cr] 37)
      have hb' := hb.alloc hz (.cells #[.int .i64 y.left, .slice ar y.right.length cr] 37)
      generalize y.left = x at *
      by_cases hx : x = v
      · have HY' := hd (HY.out hx)
        subst hx
        go_wp2_with (first | (at_builtin; go_must (refine wpList_append_own _ rfl _ _ 25 rfl (w.heap.size + 1) 3 i0 (.int .i64 0) 1 8 Try.underlying25 hi iz0 iz1 iz2 rfl (by decide) _ _ _ rfl (hown'.alloc _) ⟨wr.heap.size + 1, 0, none⟩ 1 1 [.int .i64 k] rfl rfl (cell_one_at _ _ _ (by simp)) (oneInts [(k : Int)]) (by unfold maxLen; omega) (by omega) (by simp <;> omega) ?_)))
        intro v1 W1 own1 grow1 _
        go_wp2_with fail
        go_roundw
        case rel => exact ⟨k + 1, acc ++ [(k : Int)], by omega, by go_num, HY', by simp; omega, by simpa [ints] using own1, (hb'.alloc (by simp; omega) _).grown grow1 (by simp <;> omega) (fun j hj => by have := (hown.lt j hj).1; omega)⟩
        case measure => simp [intOf]; omega
      · have HN' := hd (HN.out hx)
        have hxb : (x == v) = false := by simpa using hx
        clear hx
        go_wp2_with fail
        go_roundw
        case rel => exact ⟨k + 1, acc, by omega, by go_num, HN', by omega, hown', hb'⟩
        case measure => simp [intOf]; omega
    · have he : acc = byL v g.rules 0 := by rw [hacc.out, List.take_of_length_le (by omega)]
      rw [he] at hown
      clear hacc hal
      go_wp2_with fail
      go_ret
      exact ⟨_, rfl, owns_mono hown (by omega), bel⟩
end Go.Proofs.Ytlhdppkllmnmkae.G

/- What is wrong with a grammar, in the document's way. -/
namespace Go.Proofs.Ytlhdppkllmnmkae.G
open Go.RowKit
theorem ruF_many {g : Gm} {r : Ru} (h : 10 < r.right.length) : ruF g r = 6 := if_pos h
end Go.Proofs.Ytlhdppkllmnmkae.G

/- What is wrong with a grammar, the program's way: looks that are asked of each number. -/
namespace Go.Proofs.Ytlhdppkllmnmkae.G
open Go.RowKit
def wb (lo hi n : Int) : Bool := decide (lo ≤ n) && decide (n ≤ hi)
theorem wb_iff {lo hi n : Int} : wb lo hi n = true ↔ lo ≤ n ∧ n ≤ hi := by simp [wb]
/-- A look: is a number from lo to hi? -/
def Wn (w : World) (f : Value) (lo hi : Int) : Prop := ∃ b1 b2, f = .func (.func 87) #[] #[.pointer (some ⟨b1, 0, none⟩), .pointer (some ⟨b2, 0, none⟩)] ∧ w.cell? ⟨b1, 0, none⟩ = some (.int .i64 lo) ∧ w.cell? ⟨b2, 0, none⟩ = some (.int .i64 hi)
theorem Wn.lw {w w' : World} {f : Value} {lo hi : Int} (h : Wn w f lo hi) (hb : Below w.heap.size w w') : Wn w' f lo hi := let ⟨b1, b2, e, h1, h2⟩ := h; ⟨b1, b2, e, bkeep hb h1, bkeep hb h2⟩
set_option maxRecDepth 100000 in
set_option maxHeartbeats 4000000 in
theorem within_any (lo hi : Int) (w : World) :
    Calls Try.prog 72 #[.int .i64 lo, .int .i64 hi] w fun e w' => ∃ b1 b2, e = .returned (.func (.func 87) #[] #[.pointer (some ⟨b1, 0, none⟩), .pointer (some ⟨b2, 0, none⟩)]) ∧ w'.cell? ⟨b1, 0, none⟩ = some (.int .i64 lo) ∧ w'.cell? ⟨b2, 0, none⟩ = some (.int .i64 hi) ∧ Below w.heap.size w w' := by
  go_enter Try.func72, Try.ntmps72
  go_wp2_with fail
  go_ret
  exact ⟨w.heap.size, w.heap.size + 1, rfl, by simp, by simp, al2 _ _ _⟩
set_option maxRecDepth 100000 in
set_option maxHeartbeats 4000000 in
theorem within1_any (lo hi n : Int) (b1 b2 : Nat) (w : World) (h1 : w.cell? ⟨b1, 0, none⟩ = some (.int .i64 lo)) (h2 : w.cell? ⟨b2, 0, none⟩ = some (.int .i64 hi)) :
    Calls Try.prog 87 #[.int .i64 n, .pointer (some ⟨b1, 0, none⟩), .pointer (some ⟨b2, 0, none⟩)] w fun e w' => e = .returned (.bool (wb lo hi n)) ∧ w' = w := by
  by_cases h : lo ≤ n
  · by_cases h' : n ≤ hi
    · have hR : Hid (wb lo hi n = true) := hd (wb_iff.2 ⟨h, h'⟩)
      go_enter Try.func87, Try.ntmps87
      go_wp2_with fail
      go_ret
      exact ⟨ret_bool (by rw [hR.out]), rfl⟩
    · have hR : Hid (wb lo hi n = false) := hd (by rw [← Bool.not_eq_true, wb_iff]; omega)
      go_enter Try.func87, Try.ntmps87
      go_wp2_with fail
      go_ret
      exact ⟨ret_bool (by rw [hR.out]), rfl⟩
  · have hR : Hid (wb lo hi n = false) := hd (by rw [← Bool.not_eq_true, wb_iff]; omega)
    go_enter Try.func87, Try.ntmps87
    go_wp2_with fail
    go_ret
    exact ⟨ret_bool (by rw [hR.out]), rfl⟩
set_option maxRecDepth 100000 in
set_option maxHeartbeats 4000000 in
theorem all1_any (lo hi n : Int) (b1 b2 bk : Nat) (w : World) (h1 : w.cell? ⟨b1, 0, none⟩ = some (.int .i64 lo)) (h2 : w.cell? ⟨b2, 0, none⟩ = some (.int .i64 hi)) (hk : w.cell? ⟨bk, 0, none⟩ = some (.func (.func 87) #[] #[.pointer (some ⟨b1, 0, none⟩), .pointer (some ⟨b2, 0, none⟩)])) :
    Calls Try.prog 89 #[.int .i64 n, .pointer (some ⟨bk, 0, none⟩)] w fun e w' => e = .returned (.bool (!wb lo hi n)) ∧ w' = w := by
  have WA := within1_any lo hi n b1 b2 w h1 h2
  clear h1 h2
  generalize wb lo hi n = q at *
  go_enter Try.func89, Try.ntmps89
  go_wp2_with fail
  refine WA.mono ?_
  rintro e wx ⟨rfl, hwx⟩
  obtain rfl := hwx.symm
  go_wp2_with fail
  go_ret
  exact ⟨rfl, rfl⟩
set_option maxRecDepth 100000 in
set_option maxHeartbeats 4000000 in
theorem indexFunc_any (lo hi : Int) (l : List Int) (va : Value) (b1 b2 bk : Nat) (w : World) (ha : IsV w All va l) (h1 : w.cell? ⟨b1, 0, none⟩ = some (.int .i64 lo)) (h2 : w.cell? ⟨b2, 0, none⟩ = some (.int .i64 hi)) (hk : w.cell? ⟨bk, 0, none⟩ = some (.func (.func 87) #[] #[.pointer (some ⟨b1, 0, none⟩), .pointer (some ⟨b2, 0, none⟩)])) :
    Calls Try.prog 52 #[va, .func (.func 89) #[] #[.pointer (some ⟨bk, 0, none⟩)]] w fun e w' => ∃ r : Int, e = .returned (.int .i64 r) ∧ decide (0 ≤ r) = !(l.all (wb lo hi)) ∧ w' = w := by
  have AA := fun n => all1_any lo hi n b1 b2 bk w h1 h2 hk
  obtain ⟨ao, cap, rfl⟩ := ha.slice
  have hl := ha.1
  clear h1 h2 hk
  go_enter Try.func52, Try.ntmps52
  go_wp2_with fail
  go_loopw [8] (fun i wr => ∃ k : Nat, k ≤ l.length ∧ i = .int .i64 k ∧ Hid (∀ j (h : j < l.length), j < k → wb lo hi l[j] = true) ∧ wr = w) (fun i _ => l.length - (intOf i).toNat)
  case atStart => exact ⟨0, Nat.zero_le _, rfl, hd (fun j _ hj => absurd hj (Nat.not_lt_zero _)), rfl⟩
  case round =>
    obtain ⟨k, hk, rfl, hall, rfl⟩ := hrel
    by_cases hlt : k < l.length
    · obtain ⟨b, o, rfl, c0⟩ := ha.at_ hlt
      have AK := AA l[k]
      have HY : Hid (wb lo hi l[k] = true → ∀ j (h : j < l.length), j < k + 1 → wb lo hi l[j] = true) := hd (fun e j h hj => by
        by_cases ej : j = k
        · subst ej; exact e
        · exact hall.out j h (by omega))
      have HN : Hid (wb lo hi l[k] = false → l.all (wb lo hi) = false) := hd (fun e => by
        rw [List.all_eq_false]
        exact ⟨_, List.getElem_mem hlt, by simpa using e⟩)
      clear AA
      generalize wb lo hi l[k] = q at *
      generalize l[k] = x at *
      cases q with
      | true =>
        go_wp2_with fail
        refine AK.mono ?_
        rintro e wx ⟨rfl, hwx⟩
        obtain rfl := hwx.symm
        go_wp2_with fail
        go_roundw
        case rel => exact ⟨k + 1, by omega, by go_num, hd (HY.out trivial), trivial⟩
        case measure => simp [intOf]; omega
      | false =>
        go_wp2_with fail
        refine AK.mono ?_
        rintro e wx ⟨rfl, hwx⟩
        obtain rfl := hwx.symm
        go_wp2_with fail
        go_ret
        exact ⟨(k : Int), rfl, by rw [HN.out trivial]; simp, rfl⟩
    · have hR : Hid (l.all (wb lo hi) = true) := hd (by
        rw [List.all_eq_true]
        intro x hx
        obtain ⟨j, hj, rfl⟩ := List.mem_iff_getElem.1 hx
        exact hall.out j hj (by omega))
      go_wp2_with fail
      go_ret
      exact ⟨-1, rfl, by rw [hR.out]; rfl, rfl⟩
set_option maxRecDepth 100000 in
set_option maxHeartbeats 4000000 in
theorem containsFunc_any (lo hi : Int) (l : List Int) (va : Value) (b1 b2 bk : Nat) (w : World) (ha : IsV w All va l) (h1 : w.cell? ⟨b1, 0, none⟩ = some (.int .i64 lo)) (h2 : w.cell? ⟨b2, 0, none⟩ = some (.int .i64 hi)) (hk : w.cell? ⟨bk, 0, none⟩ = some (.func (.func 87) #[] #[.pointer (some ⟨b1, 0, none⟩), .pointer (some ⟨b2, 0, none⟩)])) :
    Calls Try.prog 88 #[va, .func (.func 89) #[] #[.pointer (some ⟨bk, 0, none⟩)]] w fun e w' => e = .returned (.bool (!(l.all (wb lo hi)))) ∧ w' = w := by
  have IA := indexFunc_any lo hi l va b1 b2 bk w ha h1 h2 hk
  obtain ⟨ao, cap, rfl⟩ := ha.slice
  clear h1 h2 hk ha
  generalize (!(l.all (wb lo hi))) = q at *
  go_enter Try.func88, Try.ntmps88
  go_wp2_with fail
  refine IA.mono ?_
  rintro e wx ⟨r, rfl, hr, hwx⟩
  obtain rfl := hwx.symm
  have HR := hd hr
  clear hr
  go_wp2_with fail
  go_ret
  exact ⟨ret_bool HR.out, rfl⟩
set_option maxRecDepth 100000 in
set_option maxHeartbeats 4000000 in
theorem all_any (lo hi : Int) (l : List Int) (va f : Value) (w : World) (ha : IsV w All va l) (hf : Wn w f lo hi) :
    Calls Try.prog 73 #[va, f] w fun e w' => e = .returned (.bool (l.all (wb lo hi))) ∧ Below w.heap.size w w' := by
  obtain ⟨b1, b2, rfl, h1, h2⟩ := hf
  obtain ⟨W, hW⟩ : ∃ W, W = w.alloc (.cells #[.func (.func 87) #[] #[.pointer (some ⟨b1, 0, none⟩), .pointer (some ⟨b2, 0, none⟩)]] 68) := ⟨_, rfl⟩
  have hWb : Below w.heap.size w W := by rw [hW]; exact al1 _ _
  have CA := containsFunc_any lo hi l va b1 b2 w.heap.size W (ha.lw hWb) (bkeep hWb h1) (bkeep hWb h2) (by rw [hW]; simp)
  obtain ⟨ao, cap, rfl⟩ := ha.slice
  clear h1 h2 ha
  generalize l.all (wb lo hi) = q at *
  go_enter Try.func73, Try.ntmps73
  go_wp2_with fail
  rw [← hW]
  refine CA.mono ?_
  rintro e wx ⟨rfl, hwx⟩
  obtain rfl := hwx.symm
  go_wp2_with fail
  go_ret
  exact ⟨ret_bool (by simp), al1 _ _⟩
end Go.Proofs.Ytlhdppkllmnmkae.G

/- Whether a grammar has the sizes that it may have, the program's way. -/
namespace Go.Proofs.Ytlhdppkllmnmkae.G
open Go.RowKit
/-- A step: what was there is as it was. -/
structure Stp (a b : World) : Prop where
  h : Below a.heap.size a b
theorem stg {W a b : World} {p : Nat} {u v t : Value} (st : Stp a b) (h : Below W.heap.size W a ∧ a.cell? ⟨p, 0, none⟩ = some u ∧ a.cell? ⟨p, 1, none⟩ = some v ∧ a.cell? ⟨p, 2, none⟩ = some t) :
    Below W.heap.size W b ∧ b.cell? ⟨p, 0, none⟩ = some u ∧ b.cell? ⟨p, 1, none⟩ = some v ∧ b.cell? ⟨p, 2, none⟩ = some t := ⟨bthen h.1 st.h, bkeep st.h h.2.1, bkeep st.h h.2.2.1, bkeep st.h h.2.2.2⟩
theorem szB_eq (g : Gm) : szB g = (wb 1 64 g.vars && (wb 0 16 g.terms && wb 0 (g.vars - 1) g.start)) := by
  unfold szB wb
  rw [Bool.eq_iff_iff]
  simp
  omega
theorem wrap_id {n : Int} (h1 : -9223372036854775808 ≤ n) (h2 : n ≤ 9223372036854775807) : IntKind.i64.wrap n = n := by
  rw [IntKind.wrap_i64]; omega
theorem within1_q {lo hi n : Int} {q : Bool} (hq : wb lo hi n = q) {b1 b2 : Nat} {w : World} (h1 : w.cell? ⟨b1, 0, none⟩ = some (.int .i64 lo)) (h2 : w.cell? ⟨b2, 0, none⟩ = some (.int .i64 hi)) :
    Calls Try.prog 87 #[.int .i64 n, .pointer (some ⟨b1, 0, none⟩), .pointer (some ⟨b2, 0, none⟩)] w fun e w' => e = .returned (.bool q) ∧ Below w.heap.size w w' := by
  subst hq
  exact (within1_any lo hi n b1 b2 w h1 h2).mono fun _ _ ⟨h1, h2⟩ => ⟨h1, by rw [h2]; exact Below.refl _ _⟩
set_option maxRecDepth 100000 in
set_option maxHeartbeats 8000000 in
theorem sized_any (g : Gm) (ao : Option Addr) (n cap : Nat) (w : World) :
    Calls Try.prog 71 #[.agg #[.int .i64 g.vars, .int .i64 g.terms, .int .i64 g.start, .slice ao n cap]] w fun e w' => e = .returned (.bool (szB g)) ∧ Below w.heap.size w w' := by
  rw [szB_eq]
  obtain ⟨W, hW⟩ : ∃ W, W = w.alloc (.cells #[.int .i64 g.vars, .int .i64 g.terms, .int .i64 g.start, .slice ao n cap] 24) := ⟨_, rfl⟩
  have hWb : Below w.heap.size w W := by rw [hW]; exact al1 _ _
  have g0 : Below W.heap.size W W ∧ W.cell? ⟨w.heap.size, 0, none⟩ = some (.int .i64 g.vars) ∧ W.cell? ⟨w.heap.size, 1, none⟩ = some (.int .i64 g.terms) ∧ W.cell? ⟨w.heap.size, 2, none⟩ = some (.int .i64 g.start) := ⟨Below.refl _ _, by rw [hW]; simp, by rw [hW]; simp, by rw [hW]; simp⟩
  have st0 : Stp W W.drew := ⟨drw1 W⟩
  have e1 : ∃ q, wb 1 64 g.vars = q := ⟨_, rfl⟩
  obtain ⟨q1, e1⟩ := e1
  have e2 : ∃ q, wb 0 16 g.terms = q := ⟨_, rfl⟩
  obtain ⟨q2, e2⟩ := e2
  have e3 : ∃ q, wb 0 (g.vars - 1) g.start = q := ⟨_, rfl⟩
  obtain ⟨q3, e3⟩ := e3
  have hR : Hid ((wb 1 64 g.vars && (wb 0 16 g.terms && wb 0 (g.vars - 1) g.start)) = (q1 && (q2 && q3))) := hd (by rw [e1, e2, e3])
  generalize (wb 1 64 g.vars && (wb 0 16 g.terms && wb 0 (g.vars - 1) g.start)) = R at *
  have E1 := hd e1
  have E2 := hd e2
  have E3 := hd e3
  clear e1 e2 e3
  have HVS : Hid (q1 = true → 1 ≤ g.vars ∧ g.vars ≤ 64) := hd (fun e => wb_iff.1 (E1.out.trans e))
  cases q1 with
  | false =>
    have hr : R = false := by rw [hR.out]; rfl
    subst hr
    go_enter Try.func71, Try.ntmps71
    go_wp2_with fail
    rw [← hW]
    have HW := hd hW
    clear hW
    refine wp_region_noPanic ?_
    refine wp_region_held_drew (S := fun w' => Below W.heap.size W w' ∧ w'.cell? ⟨w.heap.size, 0, none⟩ = some (.int .i64 g.vars) ∧ w'.cell? ⟨w.heap.size, 1, none⟩ = some (.int .i64 g.terms) ∧ w'.cell? ⟨w.heap.size, 2, none⟩ = some (.int .i64 g.start)) (by kernel_rfl) (stg st0 g0) ?_
    intro hSw
    obtain ⟨y0, hy0⟩ : ∃ y0, y0 = W.drew := ⟨_, rfl⟩
    rw [← hy0] at hSw ⊢
    clear hy0
    refine wpAnyH_take (i := 1) (v := ?v1) rfl (by kernel_rfl) (by kernel_rfl) (by kernel_rfl) (fun _ _ _ h => np_panic h) (Or.inl ⟨by rfl, ?hy1⟩) (by assumption) ?_
    case hy1 => (intro w' hS'; (try dsimp only at hS'); go_simp; try with_reducible rfl)
    simp only [Act.put, List.setIfInBounds_toArray, List.set_cons_zero, List.set_cons_succ, List.getElem_toArray, List.getElem_cons_succ, List.getElem_cons_zero]
    refine wpAnyH_take (i := 2) (v := ?v2) rfl (by kernel_rfl) (by kernel_rfl) (by kernel_rfl) (fun _ _ _ h => np_panic h) (Or.inl ⟨by rfl, ?hy2⟩) (by assumption) ?_
    case hy2 => (intro w' hS'; (try dsimp only at hS'); go_simp; try with_reducible rfl)
    simp only [Act.put, List.setIfInBounds_toArray, List.set_cons_zero, List.set_cons_succ, List.getElem_toArray, List.getElem_cons_succ, List.getElem_cons_zero]
    refine wpAnyH_ready (rs := [0]) (by kernel_rfl) (by simp) ?_
    refine AllReadyH.cons rfl (fun K hK => ?_) AllReadyH.nil
    go_simp
    go_at_call 72
    refine (within_any _ _ _).mono ?_
    rintro e y1 ⟨b1y1, b2y1, rfl, p1y1, p2y1, hby1⟩
    have hSy1 := stg (Stp.mk hby1) hSw
    refine hK.out _ _ hSy1 ?_
    clear hK K
    intro hSw
    try simp only [Act.put, List.setIfInBounds_toArray, List.set_cons_zero, List.set_cons_succ]
    refine wpAnyH_ready (rs := [3]) (by kernel_rfl) (by simp) ?_
    refine AllReadyH.cons rfl (fun K hK => ?_) AllReadyH.nil
    go_simp
    go_at_call 87
    refine (within1_q E1.out p1y1 p2y1).mono ?_
    rintro e y2 ⟨rfl, hby2⟩
    have hSy2 := stg (Stp.mk hby2) hSw
    refine hK.out _ _ hSy2 ?_
    clear hK K
    intro hSw
    try simp only [Act.put, List.setIfInBounds_toArray, List.set_cons_zero, List.set_cons_succ]
    refine wpAnyH_take (i := 4) (v := ?v3) rfl (by kernel_rfl) (by kernel_rfl) (by kernel_rfl) (fun _ _ _ h => np_panic h) (Or.inl ⟨by rfl, ?hy3⟩) (by assumption) ?_
    case hy3 => (intro w' hS'; (try dsimp only at hS'); go_simp; try with_reducible rfl)
    simp only [Act.put, List.setIfInBounds_toArray, List.set_cons_zero, List.set_cons_succ, List.getElem_toArray, List.getElem_cons_succ, List.getElem_cons_zero]
    refine wpAnyH_take (i := 5) (v := undef) rfl (by kernel_rfl) (by kernel_rfl) (by kernel_rfl) (fun _ _ _ h => np_panic h) (Or.inr ⟨by rfl, rfl⟩) (by assumption) ?_
    simp only [Act.put, List.setIfInBounds_toArray, List.set_cons_zero, List.set_cons_succ, List.getElem_toArray, List.getElem_cons_succ, List.getElem_cons_zero]
    refine wpAnyH_take (i := 6) (v := undef) rfl (by kernel_rfl) (by kernel_rfl) (by kernel_rfl) (fun _ _ _ h => np_panic h) (Or.inr ⟨by rfl, rfl⟩) (by assumption) ?_
    simp only [Act.put, List.setIfInBounds_toArray, List.set_cons_zero, List.set_cons_succ, List.getElem_toArray, List.getElem_cons_succ, List.getElem_cons_zero]
    refine wpAnyH_take (i := 7) (v := undef) rfl (by kernel_rfl) (by kernel_rfl) (by kernel_rfl) (fun _ _ _ h => np_panic h) (Or.inr ⟨by rfl, rfl⟩) (by assumption) ?_
    simp only [Act.put, List.setIfInBounds_toArray, List.set_cons_zero, List.set_cons_succ, List.getElem_toArray, List.getElem_cons_succ, List.getElem_cons_zero]
    refine wpAnyH_take (i := 8) (v := undef) rfl (by kernel_rfl) (by kernel_rfl) (by kernel_rfl) (fun _ _ _ h => np_panic h) (Or.inr ⟨by rfl, rfl⟩) (by assumption) ?_
    simp only [Act.put, List.setIfInBounds_toArray, List.set_cons_zero, List.set_cons_succ, List.getElem_toArray, List.getElem_cons_succ, List.getElem_cons_zero]
    refine wpAnyH_take (i := 9) (v := ?v4) rfl (by kernel_rfl) (by kernel_rfl) (by kernel_rfl) (fun _ _ _ h => np_panic h) (Or.inl ⟨by rfl, ?hy4⟩) (by assumption) ?_
    case hy4 => (intro w' hS'; (try dsimp only at hS'); go_simp; try with_reducible rfl)
    simp only [Act.put, List.setIfInBounds_toArray, List.set_cons_zero, List.set_cons_succ, List.getElem_toArray, List.getElem_cons_succ, List.getElem_cons_zero]
    refine wpAnyH_take (i := 10) (v := ?v5) rfl (by kernel_rfl) (by kernel_rfl) (by kernel_rfl) (fun _ _ _ h => np_panic h) (Or.inl ⟨by rfl, ?hy5⟩) (by assumption) ?_
    case hy5 => (intro w' hS'; (try dsimp only at hS'); go_simp; try with_reducible rfl)
    simp only [Act.put, List.setIfInBounds_toArray, List.set_cons_zero, List.set_cons_succ, List.getElem_toArray, List.getElem_cons_succ, List.getElem_cons_zero]
    refine wpAnyH_take (i := 11) (v := undef) rfl (by kernel_rfl) (by kernel_rfl) (by kernel_rfl) (fun _ _ _ h => np_panic h) (Or.inr ⟨by rfl, rfl⟩) (by assumption) ?_
    simp only [Act.put, List.setIfInBounds_toArray, List.set_cons_zero, List.set_cons_succ, List.getElem_toArray, List.getElem_cons_succ, List.getElem_cons_zero]
    refine wpAnyH_take (i := 12) (v := undef) rfl (by kernel_rfl) (by kernel_rfl) (by kernel_rfl) (fun _ _ _ h => np_panic h) (Or.inr ⟨by rfl, rfl⟩) (by assumption) ?_
    simp only [Act.put, List.setIfInBounds_toArray, List.set_cons_zero, List.set_cons_succ, List.getElem_toArray, List.getElem_cons_succ, List.getElem_cons_zero]
    refine wpAnyH_take (i := 13) (v := undef) rfl (by kernel_rfl) (by kernel_rfl) (by kernel_rfl) (fun _ _ _ h => np_panic h) (Or.inr ⟨by rfl, rfl⟩) (by assumption) ?_
    simp only [Act.put, List.setIfInBounds_toArray, List.set_cons_zero, List.set_cons_succ, List.getElem_toArray, List.getElem_cons_succ, List.getElem_cons_zero]
    refine wpAnyH_take (i := 14) (v := undef) rfl (by kernel_rfl) (by kernel_rfl) (by kernel_rfl) (fun _ _ _ h => np_panic h) (Or.inr ⟨by rfl, rfl⟩) (by assumption) ?_
    simp only [Act.put, List.setIfInBounds_toArray, List.set_cons_zero, List.set_cons_succ, List.getElem_toArray, List.getElem_cons_succ, List.getElem_cons_zero]
    refine wpAnyH_take (i := 15) (v := undef) rfl (by kernel_rfl) (by kernel_rfl) (by kernel_rfl) (fun _ _ _ h => np_panic h) (Or.inr ⟨by rfl, rfl⟩) (by assumption) ?_
    simp only [Act.put, List.setIfInBounds_toArray, List.set_cons_zero, List.set_cons_succ, List.getElem_toArray, List.getElem_cons_succ, List.getElem_cons_zero]
    refine wpAnyH_take (i := 16) (v := undef) rfl (by kernel_rfl) (by kernel_rfl) (by kernel_rfl) (fun _ _ _ h => np_panic h) (Or.inr ⟨by rfl, rfl⟩) (by assumption) ?_
    simp only [Act.put, List.setIfInBounds_toArray, List.set_cons_zero, List.set_cons_succ, List.getElem_toArray, List.getElem_cons_succ, List.getElem_cons_zero]
    refine wpAnyH_take (i := 17) (v := undef) rfl (by kernel_rfl) (by kernel_rfl) (by kernel_rfl) (fun _ _ _ h => np_panic h) (Or.inr ⟨by rfl, rfl⟩) (by assumption) ?_
    simp only [Act.put, List.setIfInBounds_toArray, List.set_cons_zero, List.set_cons_succ, List.getElem_toArray, List.getElem_cons_succ, List.getElem_cons_zero]
    refine wpAnyH_take (i := 18) (v := ?v6) rfl (by kernel_rfl) (by kernel_rfl) (by kernel_rfl) (fun _ _ _ h => np_panic h) (Or.inl ⟨by rfl, ?hy6⟩) (by assumption) ?_
    case hy6 => (intro w' hS'; (try dsimp only at hS'); go_simp; try with_reducible rfl)
    simp only [Act.put, List.setIfInBounds_toArray, List.set_cons_zero, List.set_cons_succ, List.getElem_toArray, List.getElem_cons_succ, List.getElem_cons_zero]
    refine wpAnyH_take (i := 19) (v := ?v7) rfl (by kernel_rfl) (by kernel_rfl) (by kernel_rfl) (fun _ _ _ h => np_panic h) (Or.inl ⟨by rfl, ?hy7⟩) (by assumption) ?_
    case hy7 => (intro w' hS'; (try dsimp only at hS'); go_simp; try with_reducible rfl)
    simp only [Act.put, List.setIfInBounds_toArray, List.set_cons_zero, List.set_cons_succ, List.getElem_toArray, List.getElem_cons_succ, List.getElem_cons_zero]
    refine wpAnyH_done (by kernel_rfl) (NoPanic.normal ?_) _
    go_wp2_with fail
    go_ret
    exact ⟨rfl, bthen hWb hSw.1⟩
  | true =>
    obtain ⟨hv1, hv2⟩ := HVS.out rfl
    have hwr : IntKind.i64.wrap (g.vars - 1) = g.vars - 1 := wrap_id (by omega) (by omega)
    cases q2 with
    | false =>
      have hr : R = false := by rw [hR.out]; rfl
      subst hr
      go_enter Try.func71, Try.ntmps71
      go_wp2_with fail
      rw [← hW]
      have HW := hd hW
      clear hW
      refine wp_region_noPanic ?_
      refine wp_region_held_drew (S := fun w' => Below W.heap.size W w' ∧ w'.cell? ⟨w.heap.size, 0, none⟩ = some (.int .i64 g.vars) ∧ w'.cell? ⟨w.heap.size, 1, none⟩ = some (.int .i64 g.terms) ∧ w'.cell? ⟨w.heap.size, 2, none⟩ = some (.int .i64 g.start)) (by kernel_rfl) (stg st0 g0) ?_
      intro hSw
      obtain ⟨y0, hy0⟩ : ∃ y0, y0 = W.drew := ⟨_, rfl⟩
      rw [← hy0] at hSw ⊢
      clear hy0
      refine wpAnyH_take (i := 1) (v := ?v8) rfl (by kernel_rfl) (by kernel_rfl) (by kernel_rfl) (fun _ _ _ h => np_panic h) (Or.inl ⟨by rfl, ?hy8⟩) (by assumption) ?_
      case hy8 => (intro w' hS'; (try dsimp only at hS'); go_simp; try with_reducible rfl)
      simp only [Act.put, List.setIfInBounds_toArray, List.set_cons_zero, List.set_cons_succ, List.getElem_toArray, List.getElem_cons_succ, List.getElem_cons_zero]
      refine wpAnyH_take (i := 2) (v := ?v9) rfl (by kernel_rfl) (by kernel_rfl) (by kernel_rfl) (fun _ _ _ h => np_panic h) (Or.inl ⟨by rfl, ?hy9⟩) (by assumption) ?_
      case hy9 => (intro w' hS'; (try dsimp only at hS'); go_simp; try with_reducible rfl)
      simp only [Act.put, List.setIfInBounds_toArray, List.set_cons_zero, List.set_cons_succ, List.getElem_toArray, List.getElem_cons_succ, List.getElem_cons_zero]
      refine wpAnyH_ready (rs := [0]) (by kernel_rfl) (by simp) ?_
      refine AllReadyH.cons rfl (fun K hK => ?_) AllReadyH.nil
      go_simp
      go_at_call 72
      refine (within_any _ _ _).mono ?_
      rintro e y1 ⟨b1y1, b2y1, rfl, p1y1, p2y1, hby1⟩
      have hSy1 := stg (Stp.mk hby1) hSw
      refine hK.out _ _ hSy1 ?_
      clear hK K
      intro hSw
      try simp only [Act.put, List.setIfInBounds_toArray, List.set_cons_zero, List.set_cons_succ]
      refine wpAnyH_ready (rs := [3]) (by kernel_rfl) (by simp) ?_
      refine AllReadyH.cons rfl (fun K hK => ?_) AllReadyH.nil
      go_simp
      go_at_call 87
      refine (within1_q E1.out p1y1 p2y1).mono ?_
      rintro e y2 ⟨rfl, hby2⟩
      have hSy2 := stg (Stp.mk hby2) hSw
      refine hK.out _ _ hSy2 ?_
      clear hK K
      intro hSw
      try simp only [Act.put, List.setIfInBounds_toArray, List.set_cons_zero, List.set_cons_succ]
      refine wpAnyH_take (i := 4) (v := ?v10) rfl (by kernel_rfl) (by kernel_rfl) (by kernel_rfl) (fun _ _ _ h => np_panic h) (Or.inl ⟨by rfl, ?hy10⟩) (by assumption) ?_
      case hy10 => (intro w' hS'; (try dsimp only at hS'); go_simp; try with_reducible rfl)
      simp only [Act.put, List.setIfInBounds_toArray, List.set_cons_zero, List.set_cons_succ, List.getElem_toArray, List.getElem_cons_succ, List.getElem_cons_zero]
      refine wpAnyH_take (i := 6) (v := ?v11) rfl (by kernel_rfl) (by kernel_rfl) (by kernel_rfl) (fun _ _ _ h => np_panic h) (Or.inl ⟨by rfl, ?hy11⟩) (by assumption) ?_
      case hy11 => (intro w' hS'; (try dsimp only at hS'); go_simp; try with_reducible rfl)
      simp only [Act.put, List.setIfInBounds_toArray, List.set_cons_zero, List.set_cons_succ, List.getElem_toArray, List.getElem_cons_succ, List.getElem_cons_zero]
      refine wpAnyH_take (i := 7) (v := ?v12) rfl (by kernel_rfl) (by kernel_rfl) (by kernel_rfl) (fun _ _ _ h => np_panic h) (Or.inl ⟨by rfl, ?hy12⟩) (by assumption) ?_
      case hy12 => (intro w' hS'; (try dsimp only at hS'); go_simp; try with_reducible rfl)
      simp only [Act.put, List.setIfInBounds_toArray, List.set_cons_zero, List.set_cons_succ, List.getElem_toArray, List.getElem_cons_succ, List.getElem_cons_zero]
      refine wpAnyH_ready (rs := [5]) (by kernel_rfl) (by simp) ?_
      refine AllReadyH.cons rfl (fun K hK => ?_) AllReadyH.nil
      go_simp
      go_at_call 72
      refine (within_any _ _ _).mono ?_
      rintro e y3 ⟨b1y3, b2y3, rfl, p1y3, p2y3, hby3⟩
      have hSy3 := stg (Stp.mk hby3) hSw
      refine hK.out _ _ hSy3 ?_
      clear hK K
      intro hSw
      try simp only [Act.put, List.setIfInBounds_toArray, List.set_cons_zero, List.set_cons_succ]
      refine wpAnyH_ready (rs := [8]) (by kernel_rfl) (by simp) ?_
      refine AllReadyH.cons rfl (fun K hK => ?_) AllReadyH.nil
      go_simp
      go_at_call 87
      refine (within1_q E2.out p1y3 p2y3).mono ?_
      rintro e y4 ⟨rfl, hby4⟩
      have hSy4 := stg (Stp.mk hby4) hSw
      refine hK.out _ _ hSy4 ?_
      clear hK K
      intro hSw
      try simp only [Act.put, List.setIfInBounds_toArray, List.set_cons_zero, List.set_cons_succ]
      refine wpAnyH_take (i := 9) (v := ?v13) rfl (by kernel_rfl) (by kernel_rfl) (by kernel_rfl) (fun _ _ _ h => np_panic h) (Or.inl ⟨by rfl, ?hy13⟩) (by assumption) ?_
      case hy13 => (intro w' hS'; (try dsimp only at hS'); go_simp; try with_reducible rfl)
      simp only [Act.put, List.setIfInBounds_toArray, List.set_cons_zero, List.set_cons_succ, List.getElem_toArray, List.getElem_cons_succ, List.getElem_cons_zero]
      refine wpAnyH_take (i := 10) (v := ?v14) rfl (by kernel_rfl) (by kernel_rfl) (by kernel_rfl) (fun _ _ _ h => np_panic h) (Or.inl ⟨by rfl, ?hy14⟩) (by assumption) ?_
      case hy14 => (intro w' hS'; (try dsimp only at hS'); go_simp; try with_reducible rfl)
      simp only [Act.put, List.setIfInBounds_toArray, List.set_cons_zero, List.set_cons_succ, List.getElem_toArray, List.getElem_cons_succ, List.getElem_cons_zero]
      refine wpAnyH_take (i := 11) (v := undef) rfl (by kernel_rfl) (by kernel_rfl) (by kernel_rfl) (fun _ _ _ h => np_panic h) (Or.inr ⟨by rfl, rfl⟩) (by assumption) ?_
      simp only [Act.put, List.setIfInBounds_toArray, List.set_cons_zero, List.set_cons_succ, List.getElem_toArray, List.getElem_cons_succ, List.getElem_cons_zero]
      refine wpAnyH_take (i := 12) (v := undef) rfl (by kernel_rfl) (by kernel_rfl) (by kernel_rfl) (fun _ _ _ h => np_panic h) (Or.inr ⟨by rfl, rfl⟩) (by assumption) ?_
      simp only [Act.put, List.setIfInBounds_toArray, List.set_cons_zero, List.set_cons_succ, List.getElem_toArray, List.getElem_cons_succ, List.getElem_cons_zero]
      refine wpAnyH_take (i := 13) (v := undef) rfl (by kernel_rfl) (by kernel_rfl) (by kernel_rfl) (fun _ _ _ h => np_panic h) (Or.inr ⟨by rfl, rfl⟩) (by assumption) ?_
      simp only [Act.put, List.setIfInBounds_toArray, List.set_cons_zero, List.set_cons_succ, List.getElem_toArray, List.getElem_cons_succ, List.getElem_cons_zero]
      refine wpAnyH_take (i := 14) (v := undef) rfl (by kernel_rfl) (by kernel_rfl) (by kernel_rfl) (fun _ _ _ h => np_panic h) (Or.inr ⟨by rfl, rfl⟩) (by assumption) ?_
      simp only [Act.put, List.setIfInBounds_toArray, List.set_cons_zero, List.set_cons_succ, List.getElem_toArray, List.getElem_cons_succ, List.getElem_cons_zero]
      refine wpAnyH_take (i := 15) (v := undef) rfl (by kernel_rfl) (by kernel_rfl) (by kernel_rfl) (fun _ _ _ h => np_panic h) (Or.inr ⟨by rfl, rfl⟩) (by assumption) ?_
      simp only [Act.put, List.setIfInBounds_toArray, List.set_cons_zero, List.set_cons_succ, List.getElem_toArray, List.getElem_cons_succ, List.getElem_cons_zero]
      refine wpAnyH_take (i := 16) (v := undef) rfl (by kernel_rfl) (by kernel_rfl) (by kernel_rfl) (fun _ _ _ h => np_panic h) (Or.inr ⟨by rfl, rfl⟩) (by assumption) ?_
      simp only [Act.put, List.setIfInBounds_toArray, List.set_cons_zero, List.set_cons_succ, List.getElem_toArray, List.getElem_cons_succ, List.getElem_cons_zero]
      refine wpAnyH_take (i := 17) (v := undef) rfl (by kernel_rfl) (by kernel_rfl) (by kernel_rfl) (fun _ _ _ h => np_panic h) (Or.inr ⟨by rfl, rfl⟩) (by assumption) ?_
      simp only [Act.put, List.setIfInBounds_toArray, List.set_cons_zero, List.set_cons_succ, List.getElem_toArray, List.getElem_cons_succ, List.getElem_cons_zero]
      refine wpAnyH_take (i := 18) (v := ?v15) rfl (by kernel_rfl) (by kernel_rfl) (by kernel_rfl) (fun _ _ _ h => np_panic h) (Or.inl ⟨by rfl, ?hy15⟩) (by assumption) ?_
      case hy15 => (intro w' hS'; (try dsimp only at hS'); go_simp; try with_reducible rfl)
      simp only [Act.put, List.setIfInBounds_toArray, List.set_cons_zero, List.set_cons_succ, List.getElem_toArray, List.getElem_cons_succ, List.getElem_cons_zero]
      refine wpAnyH_take (i := 19) (v := ?v16) rfl (by kernel_rfl) (by kernel_rfl) (by kernel_rfl) (fun _ _ _ h => np_panic h) (Or.inl ⟨by rfl, ?hy16⟩) (by assumption) ?_
      case hy16 => (intro w' hS'; (try dsimp only at hS'); go_simp; try with_reducible rfl)
      simp only [Act.put, List.setIfInBounds_toArray, List.set_cons_zero, List.set_cons_succ, List.getElem_toArray, List.getElem_cons_succ, List.getElem_cons_zero]
      refine wpAnyH_done (by kernel_rfl) (NoPanic.normal ?_) _
      go_wp2_with fail
      go_ret
      exact ⟨rfl, bthen hWb hSw.1⟩
    | true =>
      have hr : R = q3 := by rw [hR.out]; rfl
      subst hr
      go_enter Try.func71, Try.ntmps71
      go_wp2_with fail
      rw [← hW]
      have HW := hd hW
      clear hW
      refine wp_region_noPanic ?_
      refine wp_region_held_drew (S := fun w' => Below W.heap.size W w' ∧ w'.cell? ⟨w.heap.size, 0, none⟩ = some (.int .i64 g.vars) ∧ w'.cell? ⟨w.heap.size, 1, none⟩ = some (.int .i64 g.terms) ∧ w'.cell? ⟨w.heap.size, 2, none⟩ = some (.int .i64 g.start)) (by kernel_rfl) (stg st0 g0) ?_
      intro hSw
      obtain ⟨y0, hy0⟩ : ∃ y0, y0 = W.drew := ⟨_, rfl⟩
      rw [← hy0] at hSw ⊢
      clear hy0
      refine wpAnyH_take (i := 1) (v := ?v17) rfl (by kernel_rfl) (by kernel_rfl) (by kernel_rfl) (fun _ _ _ h => np_panic h) (Or.inl ⟨by rfl, ?hy17⟩) (by assumption) ?_
      case hy17 => (intro w' hS'; (try dsimp only at hS'); go_simp; try with_reducible rfl)
      simp only [Act.put, List.setIfInBounds_toArray, List.set_cons_zero, List.set_cons_succ, List.getElem_toArray, List.getElem_cons_succ, List.getElem_cons_zero]
      refine wpAnyH_take (i := 2) (v := ?v18) rfl (by kernel_rfl) (by kernel_rfl) (by kernel_rfl) (fun _ _ _ h => np_panic h) (Or.inl ⟨by rfl, ?hy18⟩) (by assumption) ?_
      case hy18 => (intro w' hS'; (try dsimp only at hS'); go_simp; try with_reducible rfl)
      simp only [Act.put, List.setIfInBounds_toArray, List.set_cons_zero, List.set_cons_succ, List.getElem_toArray, List.getElem_cons_succ, List.getElem_cons_zero]
      refine wpAnyH_ready (rs := [0]) (by kernel_rfl) (by simp) ?_
      refine AllReadyH.cons rfl (fun K hK => ?_) AllReadyH.nil
      go_simp
      go_at_call 72
      refine (within_any _ _ _).mono ?_
      rintro e y1 ⟨b1y1, b2y1, rfl, p1y1, p2y1, hby1⟩
      have hSy1 := stg (Stp.mk hby1) hSw
      refine hK.out _ _ hSy1 ?_
      clear hK K
      intro hSw
      try simp only [Act.put, List.setIfInBounds_toArray, List.set_cons_zero, List.set_cons_succ]
      refine wpAnyH_ready (rs := [3]) (by kernel_rfl) (by simp) ?_
      refine AllReadyH.cons rfl (fun K hK => ?_) AllReadyH.nil
      go_simp
      go_at_call 87
      refine (within1_q E1.out p1y1 p2y1).mono ?_
      rintro e y2 ⟨rfl, hby2⟩
      have hSy2 := stg (Stp.mk hby2) hSw
      refine hK.out _ _ hSy2 ?_
      clear hK K
      intro hSw
      try simp only [Act.put, List.setIfInBounds_toArray, List.set_cons_zero, List.set_cons_succ]
      refine wpAnyH_take (i := 4) (v := ?v19) rfl (by kernel_rfl) (by kernel_rfl) (by kernel_rfl) (fun _ _ _ h => np_panic h) (Or.inl ⟨by rfl, ?hy19⟩) (by assumption) ?_
      case hy19 => (intro w' hS'; (try dsimp only at hS'); go_simp; try with_reducible rfl)
      simp only [Act.put, List.setIfInBounds_toArray, List.set_cons_zero, List.set_cons_succ, List.getElem_toArray, List.getElem_cons_succ, List.getElem_cons_zero]
      refine wpAnyH_take (i := 6) (v := ?v20) rfl (by kernel_rfl) (by kernel_rfl) (by kernel_rfl) (fun _ _ _ h => np_panic h) (Or.inl ⟨by rfl, ?hy20⟩) (by assumption) ?_
      case hy20 => (intro w' hS'; (try dsimp only at hS'); go_simp; try with_reducible rfl)
      simp only [Act.put, List.setIfInBounds_toArray, List.set_cons_zero, List.set_cons_succ, List.getElem_toArray, List.getElem_cons_succ, List.getElem_cons_zero]
      refine wpAnyH_take (i := 7) (v := ?v21) rfl (by kernel_rfl) (by kernel_rfl) (by kernel_rfl) (fun _ _ _ h => np_panic h) (Or.inl ⟨by rfl, ?hy21⟩) (by assumption) ?_
      case hy21 => (intro w' hS'; (try dsimp only at hS'); go_simp; try with_reducible rfl)
      simp only [Act.put, List.setIfInBounds_toArray, List.set_cons_zero, List.set_cons_succ, List.getElem_toArray, List.getElem_cons_succ, List.getElem_cons_zero]
      refine wpAnyH_ready (rs := [5]) (by kernel_rfl) (by simp) ?_
      refine AllReadyH.cons rfl (fun K hK => ?_) AllReadyH.nil
      go_simp
      go_at_call 72
      refine (within_any _ _ _).mono ?_
      rintro e y3 ⟨b1y3, b2y3, rfl, p1y3, p2y3, hby3⟩
      have hSy3 := stg (Stp.mk hby3) hSw
      refine hK.out _ _ hSy3 ?_
      clear hK K
      intro hSw
      try simp only [Act.put, List.setIfInBounds_toArray, List.set_cons_zero, List.set_cons_succ]
      refine wpAnyH_ready (rs := [8]) (by kernel_rfl) (by simp) ?_
      refine AllReadyH.cons rfl (fun K hK => ?_) AllReadyH.nil
      go_simp
      go_at_call 87
      refine (within1_q E2.out p1y3 p2y3).mono ?_
      rintro e y4 ⟨rfl, hby4⟩
      have hSy4 := stg (Stp.mk hby4) hSw
      refine hK.out _ _ hSy4 ?_
      clear hK K
      intro hSw
      try simp only [Act.put, List.setIfInBounds_toArray, List.set_cons_zero, List.set_cons_succ]
      refine wpAnyH_take (i := 9) (v := ?v22) rfl (by kernel_rfl) (by kernel_rfl) (by kernel_rfl) (fun _ _ _ h => np_panic h) (Or.inl ⟨by rfl, ?hy22⟩) (by assumption) ?_
      case hy22 => (intro w' hS'; (try dsimp only at hS'); go_simp; try with_reducible rfl)
      simp only [Act.put, List.setIfInBounds_toArray, List.set_cons_zero, List.set_cons_succ, List.getElem_toArray, List.getElem_cons_succ, List.getElem_cons_zero]
      refine wpAnyH_take (i := 10) (v := ?v23) rfl (by kernel_rfl) (by kernel_rfl) (by kernel_rfl) (fun _ _ _ h => np_panic h) (Or.inl ⟨by rfl, ?hy23⟩) (by assumption) ?_
      case hy23 => (intro w' hS'; (try dsimp only at hS'); go_simp; try with_reducible rfl)
      simp only [Act.put, List.setIfInBounds_toArray, List.set_cons_zero, List.set_cons_succ, List.getElem_toArray, List.getElem_cons_succ, List.getElem_cons_zero]
      refine wpAnyH_take (i := 11) (v := ?v24) rfl (by kernel_rfl) (by kernel_rfl) (by kernel_rfl) (fun _ _ _ h => np_panic h) (Or.inl ⟨by rfl, ?hy24⟩) (by assumption) ?_
      case hy24 => (intro w' hS'; (try dsimp only at hS'); go_simp; try with_reducible rfl)
      simp only [Act.put, List.setIfInBounds_toArray, List.set_cons_zero, List.set_cons_succ, List.getElem_toArray, List.getElem_cons_succ, List.getElem_cons_zero]
      refine wpAnyH_take (i := 12) (v := ?v25) rfl (by kernel_rfl) (by kernel_rfl) (by kernel_rfl) (fun _ _ _ h => np_panic h) (Or.inl ⟨by rfl, ?hy25⟩) (by assumption) ?_
      case hy25 => (intro w' hS'; (try dsimp only at hS'); go_simp; try with_reducible rfl)
      simp only [Act.put, List.setIfInBounds_toArray, List.set_cons_zero, List.set_cons_succ, List.getElem_toArray, List.getElem_cons_succ, List.getElem_cons_zero]
      refine wpAnyH_take (i := 13) (v := ?v26) rfl (by kernel_rfl) (by kernel_rfl) (by kernel_rfl) (fun _ _ _ h => np_panic h) (Or.inl ⟨by rfl, ?hy26⟩) (by assumption) ?_
      case hy26 => (intro w' hS'; (try dsimp only at hS'); go_simp; try with_reducible rfl)
      simp only [Act.put, List.setIfInBounds_toArray, List.set_cons_zero, List.set_cons_succ, List.getElem_toArray, List.getElem_cons_succ, List.getElem_cons_zero]
      refine wpAnyH_take (i := 15) (v := ?v27) rfl (by kernel_rfl) (by kernel_rfl) (by kernel_rfl) (fun _ _ _ h => np_panic h) (Or.inl ⟨by rfl, ?hy27⟩) (by assumption) ?_
      case hy27 => (intro w' hS'; (try dsimp only at hS'); go_simp; try with_reducible rfl)
      simp only [Act.put, List.setIfInBounds_toArray, List.set_cons_zero, List.set_cons_succ, List.getElem_toArray, List.getElem_cons_succ, List.getElem_cons_zero]
      refine wpAnyH_take (i := 16) (v := ?v28) rfl (by kernel_rfl) (by kernel_rfl) (by kernel_rfl) (fun _ _ _ h => np_panic h) (Or.inl ⟨by rfl, ?hy28⟩) (by assumption) ?_
      case hy28 => (intro w' hS'; (try dsimp only at hS'); go_simp; try with_reducible rfl)
      simp only [Act.put, List.setIfInBounds_toArray, List.set_cons_zero, List.set_cons_succ, List.getElem_toArray, List.getElem_cons_succ, List.getElem_cons_zero]
      refine wpAnyH_ready (rs := [14]) (by kernel_rfl) (by simp) ?_
      refine AllReadyH.cons rfl (fun K hK => ?_) AllReadyH.nil
      go_simp
      go_at_call 72
      refine (within_any _ _ _).mono ?_
      rintro e y5 ⟨b1y5, b2y5, rfl, p1y5, p2y5, hby5⟩
      have hSy5 := stg (Stp.mk hby5) hSw
      refine hK.out _ _ hSy5 ?_
      clear hK K
      intro hSw
      try simp only [Act.put, List.setIfInBounds_toArray, List.set_cons_zero, List.set_cons_succ]
      refine wpAnyH_ready (rs := [17]) (by kernel_rfl) (by simp) ?_
      refine AllReadyH.cons rfl (fun K hK => ?_) AllReadyH.nil
      go_simp
      go_at_call 87
      refine (within1_q E3.out p1y5 p2y5).mono ?_
      rintro e y6 ⟨rfl, hby6⟩
      have hSy6 := stg (Stp.mk hby6) hSw
      refine hK.out _ _ hSy6 ?_
      clear hK K
      intro hSw
      try simp only [Act.put, List.setIfInBounds_toArray, List.set_cons_zero, List.set_cons_succ]
      refine wpAnyH_take (i := 18) (v := ?v29) rfl (by kernel_rfl) (by kernel_rfl) (by kernel_rfl) (fun _ _ _ h => np_panic h) (Or.inl ⟨by rfl, ?hy29⟩) (by assumption) ?_
      case hy29 => (intro w' hS'; (try dsimp only at hS'); go_simp; try with_reducible rfl)
      simp only [Act.put, List.setIfInBounds_toArray, List.set_cons_zero, List.set_cons_succ, List.getElem_toArray, List.getElem_cons_succ, List.getElem_cons_zero]
      refine wpAnyH_take (i := 19) (v := ?v30) rfl (by kernel_rfl) (by kernel_rfl) (by kernel_rfl) (fun _ _ _ h => np_panic h) (Or.inl ⟨by rfl, ?hy30⟩) (by assumption) ?_
      case hy30 => (intro w' hS'; (try dsimp only at hS'); go_simp; try with_reducible rfl)
      simp only [Act.put, List.setIfInBounds_toArray, List.set_cons_zero, List.set_cons_succ, List.getElem_toArray, List.getElem_cons_succ, List.getElem_cons_zero]
      refine wpAnyH_done (by kernel_rfl) (NoPanic.normal ?_) _
      go_wp2_with fail
      go_ret
      exact ⟨rfl, bthen hWb hSw.1⟩
end Go.Proofs.Ytlhdppkllmnmkae.G
