/- What is wrong with a grammar, the program's way: looks that are asked of each number. -/
import Derived.Test.YtokenfemloohaacGf
namespace Go.Proofs.Ytokenfemloohaac.G
open Go.RowKit
def wb (lo hi n : Int) : Bool := decide (lo ≤ n) && decide (n ≤ hi)
theorem wb_iff {lo hi n : Int} : wb lo hi n = true ↔ lo ≤ n ∧ n ≤ hi := by simp [wb]
/-- A look: is a number from lo to hi? -/
def Wn (w : World) (f : Value) (lo hi : Int) : Prop := ∃ b1 b2, f = .func (.func 23) #[] #[.pointer (some ⟨b1, 0, none⟩), .pointer (some ⟨b2, 0, none⟩)] ∧ w.cell? ⟨b1, 0, none⟩ = some (.int .i64 lo) ∧ w.cell? ⟨b2, 0, none⟩ = some (.int .i64 hi)
theorem Wn.lw {w w' : World} {f : Value} {lo hi : Int} (h : Wn w f lo hi) (hb : Below w.heap.size w w') : Wn w' f lo hi := let ⟨b1, b2, e, h1, h2⟩ := h; ⟨b1, b2, e, bkeep hb h1, bkeep hb h2⟩
set_option maxRecDepth 100000 in
set_option maxHeartbeats 4000000 in
theorem within_any (lo hi : Int) (w : World) :
    Calls Try.prog 18 #[.int .i64 lo, .int .i64 hi] w fun e w' => ∃ b1 b2, e = .returned (.func (.func 23) #[] #[.pointer (some ⟨b1, 0, none⟩), .pointer (some ⟨b2, 0, none⟩)]) ∧ w'.cell? ⟨b1, 0, none⟩ = some (.int .i64 lo) ∧ w'.cell? ⟨b2, 0, none⟩ = some (.int .i64 hi) ∧ Below w.heap.size w w' := by
  go_enter Try.func18, Try.ntmps18
  go_wp2_with fail
  go_ret
  exact ⟨w.heap.size, w.heap.size + 1, rfl, by simp, by simp, al2 _ _ _⟩
set_option maxRecDepth 100000 in
set_option maxHeartbeats 4000000 in
theorem within1_any (lo hi n : Int) (b1 b2 : Nat) (w : World) (h1 : w.cell? ⟨b1, 0, none⟩ = some (.int .i64 lo)) (h2 : w.cell? ⟨b2, 0, none⟩ = some (.int .i64 hi)) :
    Calls Try.prog 23 #[.int .i64 n, .pointer (some ⟨b1, 0, none⟩), .pointer (some ⟨b2, 0, none⟩)] w fun e w' => e = .returned (.bool (wb lo hi n)) ∧ w' = w := by
  by_cases h : lo ≤ n
  · by_cases h' : n ≤ hi
    · have hR : Hid (wb lo hi n = true) := hd (wb_iff.2 ⟨h, h'⟩)
      go_enter Try.func23, Try.ntmps23
      go_wp2_with fail
      go_ret
      exact ⟨ret_bool (by rw [hR.out]), rfl⟩
    · have hR : Hid (wb lo hi n = false) := hd (by rw [← Bool.not_eq_true, wb_iff]; omega)
      go_enter Try.func23, Try.ntmps23
      go_wp2_with fail
      go_ret
      exact ⟨ret_bool (by rw [hR.out]), rfl⟩
  · have hR : Hid (wb lo hi n = false) := hd (by rw [← Bool.not_eq_true, wb_iff]; omega)
    go_enter Try.func23, Try.ntmps23
    go_wp2_with fail
    go_ret
    exact ⟨ret_bool (by rw [hR.out]), rfl⟩
set_option maxRecDepth 100000 in
set_option maxHeartbeats 4000000 in
theorem all1_any (lo hi n : Int) (b1 b2 bk : Nat) (w : World) (h1 : w.cell? ⟨b1, 0, none⟩ = some (.int .i64 lo)) (h2 : w.cell? ⟨b2, 0, none⟩ = some (.int .i64 hi)) (hk : w.cell? ⟨bk, 0, none⟩ = some (.func (.func 23) #[] #[.pointer (some ⟨b1, 0, none⟩), .pointer (some ⟨b2, 0, none⟩)])) :
    Calls Try.prog 25 #[.int .i64 n, .pointer (some ⟨bk, 0, none⟩)] w fun e w' => e = .returned (.bool (!wb lo hi n)) ∧ w' = w := by
  have WA := within1_any lo hi n b1 b2 w h1 h2
  clear h1 h2
  generalize wb lo hi n = q at *
  go_enter Try.func25, Try.ntmps25
  go_wp2_with fail
  refine WA.mono ?_
  rintro e wx ⟨rfl, hwx⟩
  obtain rfl := hwx.symm
  go_wp2_with fail
  go_ret
  exact ⟨rfl, rfl⟩
set_option maxRecDepth 100000 in
set_option maxHeartbeats 4000000 in
theorem indexFunc_any (lo hi : Int) (l : List Int) (va : Value) (b1 b2 bk : Nat) (w : World) (ha : IsV w All va l) (h1 : w.cell? ⟨b1, 0, none⟩ = some (.int .i64 lo)) (h2 : w.cell? ⟨b2, 0, none⟩ = some (.int .i64 hi)) (hk : w.cell? ⟨bk, 0, none⟩ = some (.func (.func 23) #[] #[.pointer (some ⟨b1, 0, none⟩), .pointer (some ⟨b2, 0, none⟩)])) :
    Calls Try.prog 27 #[va, .func (.func 25) #[] #[.pointer (some ⟨bk, 0, none⟩)]] w fun e w' => ∃ r : Int, e = .returned (.int .i64 r) ∧ decide (0 ≤ r) = !(l.all (wb lo hi)) ∧ w' = w := by
  have AA := fun n => all1_any lo hi n b1 b2 bk w h1 h2 hk
  obtain ⟨ao, cap, rfl⟩ := ha.slice
  have hl := ha.1
  clear h1 h2 hk
  go_enter Try.func27, Try.ntmps27
  go_wp2_with fail
  go_loopw [8] (fun i wr => ∃ k : Nat, k ≤ l.length ∧ i = .int .i64 k ∧ Hid (∀ j (h : j < l.length), j < k → wb lo hi l[j] = true) ∧ wr = w) (fun i _ => l.length - (intOf i).toNat)
  case atStart => exact ⟨0, Nat.zero_le _, rfl, hd (fun j _ hj => absurd hj (Nat.not_lt_zero _)), rfl⟩
  case round =>
    obtain ⟨k, hk, rfl, hall, rfl⟩ := hrel
    by_cases hlt : k < l.length
    · obtain ⟨b, o, rfl, c0⟩ := ha.at_ hlt
      have AK := AA l[k]
      have HY : Hid (wb lo hi l[k] = true → ∀ j (h : j < l.length), j < k + 1 → wb lo hi l[j] = true) := hd (fun e j h hj => by
        by_cases ej : j = k
        · subst ej; exact e
        · exact hall.out j h (by omega))
      have HN : Hid (wb lo hi l[k] = false → l.all (wb lo hi) = false) := hd (fun e => by
        rw [List.all_eq_false]
        exact ⟨_, List.getElem_mem hlt, by simpa using e⟩)
      clear AA
      generalize wb lo hi l[k] = q at *
      generalize l[k] = x at *
      cases q with
      | true =>
        go_wp2_with fail
        refine AK.mono ?_
        rintro e wx ⟨rfl, hwx⟩
        obtain rfl := hwx.symm
        go_wp2_with fail
        go_roundw
        case rel => exact ⟨k + 1, by omega, by go_num, hd (HY.out trivial), trivial⟩
        case measure => simp [intOf]; omega
      | false =>
        go_wp2_with fail
        refine AK.mono ?_
        rintro e wx ⟨rfl, hwx⟩
        obtain rfl := hwx.symm
        go_wp2_with fail
        go_ret
        exact ⟨(k : Int), rfl, by rw [HN.out trivial]; simp, rfl⟩
    · have hR : Hid (l.all (wb lo hi) = true) := hd (by
        rw [List.all_eq_true]
        intro x hx
        obtain ⟨j, hj, rfl⟩ := List.mem_iff_getElem.1 hx
        exact hall.out j hj (by omega))
      go_wp2_with fail
      go_ret
      exact ⟨-1, rfl, by rw [hR.out]; rfl, rfl⟩
set_option maxRecDepth 100000 in
set_option maxHeartbeats 4000000 in
theorem containsFunc_any (lo hi : Int) (l : List Int) (va : Value) (b1 b2 bk : Nat) (w : World) (ha : IsV w All va l) (h1 : w.cell? ⟨b1, 0, none⟩ = some (.int .i64 lo)) (h2 : w.cell? ⟨b2, 0, none⟩ = some (.int .i64 hi)) (hk : w.cell? ⟨bk, 0, none⟩ = some (.func (.func 23) #[] #[.pointer (some ⟨b1, 0, none⟩), .pointer (some ⟨b2, 0, none⟩)])) :
    Calls Try.prog 24 #[va, .func (.func 25) #[] #[.pointer (some ⟨bk, 0, none⟩)]] w fun e w' => e = .returned (.bool (!(l.all (wb lo hi)))) ∧ w' = w := by
  have IA := indexFunc_any lo hi l va b1 b2 bk w ha h1 h2 hk
  obtain ⟨ao, cap, rfl⟩ := ha.slice
  clear h1 h2 hk ha
  generalize (!(l.all (wb lo hi))) = q at *
  go_enter Try.func24, Try.ntmps24
  go_wp2_with fail
  refine IA.mono ?_
  rintro e wx ⟨r, rfl, hr, hwx⟩
  obtain rfl := hwx.symm
  have HR := hd hr
  clear hr
  go_wp2_with fail
  go_ret
  exact ⟨ret_bool HR.out, rfl⟩
set_option maxRecDepth 100000 in
set_option maxHeartbeats 4000000 in
theorem all_any (lo hi : Int) (l : List Int) (va f : Value) (w : World) (ha : IsV w All va l) (hf : Wn w f lo hi) :
    Calls Try.prog 19 #[va, f] w fun e w' => e = .returned (.bool (l.all (wb lo hi))) ∧ Below w.heap.size w w' := by
  obtain ⟨b1, b2, rfl, h1, h2⟩ := hf
  obtain ⟨W, hW⟩ : ∃ W, W = w.alloc (.cells #[.func (.func 23) #[] #[.pointer (some ⟨b1, 0, none⟩), .pointer (some ⟨b2, 0, none⟩)]] 40) := ⟨_, rfl⟩
  have hWb : Below w.heap.size w W := by rw [hW]; exact al1 _ _
  have CA := containsFunc_any lo hi l va b1 b2 w.heap.size W (ha.lw hWb) (bkeep hWb h1) (bkeep hWb h2) (by rw [hW]; simp)
  obtain ⟨ao, cap, rfl⟩ := ha.slice
  clear h1 h2 ha
  generalize l.all (wb lo hi) = q at *
  go_enter Try.func19, Try.ntmps19
  go_wp2_with fail
  rw [← hW]
  refine CA.mono ?_
  rintro e wx ⟨rfl, hwx⟩
  obtain rfl := hwx.symm
  go_wp2_with fail
  go_ret
  exact ⟨ret_bool (by simp), al1 _ _⟩
end Go.Proofs.Ytokenfemloohaac.G
