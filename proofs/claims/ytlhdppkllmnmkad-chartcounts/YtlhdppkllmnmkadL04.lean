/- Texts laid together: Gp Gs Te Ti Za. -/
import Derived.Test.YtlhdppkllmnmkadL03
import Derived.Test.YtlhdppkllmnmkadL01
/- What is wrong with a grammar, the program's way: looks that are asked of each number. -/
namespace Go.Proofs.Ytlhdppkllmnmkad.G
open Go.RowKit
def wb (lo hi n : Int) : Bool := decide (lo ≤ n) && decide (n ≤ hi)
theorem wb_iff {lo hi n : Int} : wb lo hi n = true ↔ lo ≤ n ∧ n ≤ hi := by simp [wb]
/-- A look: is a number from lo to hi? -/
def Wn (w : World) (f : Value) (lo hi : Int) : Prop := ∃ b1 b2, f = .func (.func 133) #[] #[.pointer (some ⟨b1, 0, none⟩), .pointer (some ⟨b2, 0, none⟩)] ∧ w.cell? ⟨b1, 0, none⟩ = some (.int .i64 lo) ∧ w.cell? ⟨b2, 0, none⟩ = some (.int .i64 hi)
theorem Wn.lw {w w' : World} {f : Value} {lo hi : Int} (h : Wn w f lo hi) (hb : Below w.heap.size w w') : Wn w' f lo hi := let ⟨b1, b2, e, h1, h2⟩ := h; ⟨b1, b2, e, bkeep hb h1, bkeep hb h2⟩
set_option maxRecDepth 100000 in
set_option maxHeartbeats 4000000 in
theorem within_any (lo hi : Int) (w : World) :
    Calls Try.prog 105 #[.int .i64 lo, .int .i64 hi] w fun e w' => ∃ b1 b2, e = .returned (.func (.func 133) #[] #[.pointer (some ⟨b1, 0, none⟩), .pointer (some ⟨b2, 0, none⟩)]) ∧ w'.cell? ⟨b1, 0, none⟩ = some (.int .i64 lo) ∧ w'.cell? ⟨b2, 0, none⟩ = some (.int .i64 hi) ∧ Below w.heap.size w w' := by
  go_enter Try.func105, Try.ntmps105
  go_wp2_with fail
  go_ret
  exact ⟨w.heap.size, w.heap.size + 1, rfl, by simp, by simp, al2 _ _ _⟩
set_option maxRecDepth 100000 in
set_option maxHeartbeats 4000000 in
theorem within1_any (lo hi n : Int) (b1 b2 : Nat) (w : World) (h1 : w.cell? ⟨b1, 0, none⟩ = some (.int .i64 lo)) (h2 : w.cell? ⟨b2, 0, none⟩ = some (.int .i64 hi)) :
    Calls Try.prog 133 #[.int .i64 n, .pointer (some ⟨b1, 0, none⟩), .pointer (some ⟨b2, 0, none⟩)] w fun e w' => e = .returned (.bool (wb lo hi n)) ∧ w' = w := by
  by_cases h : lo ≤ n
  · by_cases h' : n ≤ hi
    · have hR : Hid (wb lo hi n = true) := hd (wb_iff.2 ⟨h, h'⟩)
      go_enter Try.func133, Try.ntmps133
      go_wp2_with fail
      go_ret
      exact ⟨ret_bool (by rw [hR.out]), rfl⟩
    · have hR : Hid (wb lo hi n = false) := hd (by rw [← Bool.not_eq_true, wb_iff]; omega)
      go_enter Try.func133, Try.ntmps133
      go_wp2_with fail
      go_ret
      exact ⟨ret_bool (by rw [hR.out]), rfl⟩
  · have hR : Hid (wb lo hi n = false) := hd (by rw [← Bool.not_eq_true, wb_iff]; omega)
    go_enter Try.func133, Try.ntmps133
    go_wp2_with fail
    go_ret
    exact ⟨ret_bool (by rw [hR.out]), rfl⟩
set_option maxRecDepth 100000 in
set_option maxHeartbeats 4000000 in
theorem all1_any (lo hi n : Int) (b1 b2 bk : Nat) (w : World) (h1 : w.cell? ⟨b1, 0, none⟩ = some (.int .i64 lo)) (h2 : w.cell? ⟨b2, 0, none⟩ = some (.int .i64 hi)) (hk : w.cell? ⟨bk, 0, none⟩ = some (.func (.func 133) #[] #[.pointer (some ⟨b1, 0, none⟩), .pointer (some ⟨b2, 0, none⟩)])) :
    Calls Try.prog 134 #[.int .i64 n, .pointer (some ⟨bk, 0, none⟩)] w fun e w' => e = .returned (.bool (!wb lo hi n)) ∧ w' = w := by
  have WA := within1_any lo hi n b1 b2 w h1 h2
  clear h1 h2
  generalize wb lo hi n = q at *
  go_enter Try.func134, Try.ntmps134
  go_wp2_with fail
  refine WA.mono ?_
  rintro e wx ⟨rfl, hwx⟩
  obtain rfl := hwx.symm
  go_wp2_with fail
  go_ret
  exact ⟨rfl, rfl⟩
set_option maxRecDepth 100000 in
set_option maxHeartbeats 4000000 in
theorem indexFunc_any (lo hi : Int) (l : List Int) (va : Value) (b1 b2 bk : Nat) (w : World) (ha : IsV w All va l) (h1 : w.cell? ⟨b1, 0, none⟩ = some (.int .i64 lo)) (h2 : w.cell? ⟨b2, 0, none⟩ = some (.int .i64 hi)) (hk : w.cell? ⟨bk, 0, none⟩ = some (.func (.func 133) #[] #[.pointer (some ⟨b1, 0, none⟩), .pointer (some ⟨b2, 0, none⟩)])) :
    Calls Try.prog 121 #[va, .func (.func 134) #[] #[.pointer (some ⟨bk, 0, none⟩)]] w fun e w' => ∃ r : Int, e = .returned (.int .i64 r) ∧ decide (0 ≤ r) = !(l.all (wb lo hi)) ∧ w' = w := by
  have AA := fun n => all1_any lo hi n b1 b2 bk w h1 h2 hk
  obtain ⟨ao, cap, rfl⟩ := ha.slice
  have hl := ha.1
  clear h1 h2 hk
  go_enter Try.func121, Try.ntmps121
  go_wp2_with fail
  go_loopw [8] (fun i wr => ∃ k : Nat, k ≤ l.length ∧ i = .int .i64 k ∧ Hid (∀ j (h : j < l.length), j < k → wb lo hi l[j] = true) ∧ wr = w) (fun i _ => l.length - (intOf i).toNat)
  case atStart => exact ⟨0, Nat.zero_le _, rfl, hd (fun j _ hj => absurd hj (Nat.not_lt_zero _)), rfl⟩
  case round =>
    obtain ⟨k, hk, rfl, hall, rfl⟩ := hrel
    by_cases hlt : k < l.length
    · obtain ⟨b, o, rfl, c0⟩ := ha.at_ hlt
      have AK := AA l[k]
      have HY : Hid (wb lo hi l[k] = true → ∀ j (h : j < l.length), j < k + 1 → wb lo hi l[j] = true) := hd (fun e j h hj => by
        by_cases ej : j = k
        · subst ej; exact e
        · exact hall.out j h (by omega))
      have HN : Hid (wb lo hi l[k] = false → l.all (wb lo hi) = false) := hd (fun e => by
        rw [List.all_eq_false]
        exact ⟨_, List.getElem_mem hlt, by simpa using e⟩)
      clear AA
      generalize wb lo hi l[k] = q at *
      generalize l[k] = x at *
      cases q with
      | true =>
        go_wp2_with fail
        refine AK.mono ?_
        rintro e wx ⟨rfl, hwx⟩
        obtain rfl := hwx.symm
        go_wp2_with fail
        go_roundw
        case rel => exact ⟨k + 1, by omega, by go_num, hd (HY.out trivial), trivial⟩
        case measure => simp [intOf]; omega
      | false =>
        go_wp2_with fail
        refine AK.mono ?_
        rintro e wx ⟨rfl, hwx⟩
        obtain rfl := hwx.symm
        go_wp2_with fail
        go_ret
        exact ⟨(k : Int), rfl, by rw [HN.out trivial]; simp, rfl⟩
    · have hR : Hid (l.all (wb lo hi) = true) := hd (by
        rw [List.all_eq_true]
        intro x hx
        obtain ⟨j, hj, rfl⟩ := List.mem_iff_getElem.1 hx
        exact hall.out j hj (by omega))
      go_wp2_with fail
      go_ret
      exact ⟨-1, rfl, by rw [hR.out]; rfl, rfl⟩
set_option maxRecDepth 100000 in
set_option maxHeartbeats 4000000 in
theorem containsFunc_any (lo hi : Int) (l : List Int) (va : Value) (b1 b2 bk : Nat) (w : World) (ha : IsV w All va l) (h1 : w.cell? ⟨b1, 0, none⟩ = some (.int .i64 lo)) (h2 : w.cell? ⟨b2, 0, none⟩ = some (.int .i64 hi)) (hk : w.cell? ⟨bk, 0, none⟩ = some (.func (.func 133) #[] #[.pointer (some ⟨b1, 0, none⟩), .pointer (some ⟨b2, 0, none⟩)])) :
    Calls Try.prog 114 #[va, .func (.func 134) #[] #[.pointer (some ⟨bk, 0, none⟩)]] w fun e w' => e = .returned (.bool (!(l.all (wb lo hi)))) ∧ w' = w := by
  have IA := indexFunc_any lo hi l va b1 b2 bk w ha h1 h2 hk
  obtain ⟨ao, cap, rfl⟩ := ha.slice
  clear h1 h2 hk ha
  generalize (!(l.all (wb lo hi))) = q at *
  go_enter Try.func114, Try.ntmps114
  go_wp2_with fail
  refine IA.mono ?_
  rintro e wx ⟨r, rfl, hr, hwx⟩
  obtain rfl := hwx.symm
  have HR := hd hr
  clear hr
  go_wp2_with fail
  go_ret
  exact ⟨ret_bool HR.out, rfl⟩
set_option maxRecDepth 100000 in
set_option maxHeartbeats 4000000 in
theorem all_any (lo hi : Int) (l : List Int) (va f : Value) (w : World) (ha : IsV w All va l) (hf : Wn w f lo hi) :
    Calls Try.prog 106 #[va, f] w fun e w' => e = .returned (.bool (l.all (wb lo hi))) ∧ Below w.heap.size w w' := by
  obtain ⟨b1, b2, rfl, h1, h2⟩ := hf
  obtain ⟨W, hW⟩ : ∃ W, W = w.alloc (.cells #[.func (.func 133) #[] #[.pointer (some ⟨b1, 0, none⟩), .pointer (some ⟨b2, 0, none⟩)]] 130) := ⟨_, rfl⟩
  have hWb : Below w.heap.size w W := by rw [hW]; exact al1 _ _
  have CA := containsFunc_any lo hi l va b1 b2 w.heap.size W (ha.lw hWb) (bkeep hWb h1) (bkeep hWb h2) (by rw [hW]; simp)
  obtain ⟨ao, cap, rfl⟩ := ha.slice
  clear h1 h2 ha
  generalize l.all (wb lo hi) = q at *
  go_enter Try.func106, Try.ntmps106
  go_wp2_with fail
  rw [← hW]
  refine CA.mono ?_
  rintro e wx ⟨rfl, hwx⟩
  obtain rfl := hwx.symm
  go_wp2_with fail
  go_ret
  exact ⟨ret_bool (by simp), al1 _ _⟩
end Go.Proofs.Ytlhdppkllmnmkad.G

/- Whether a grammar has the sizes that it may have, the program's way. -/
namespace Go.Proofs.Ytlhdppkllmnmkad.G
open Go.RowKit
/-- A step: what was there is as it was. -/
structure Stp (a b : World) : Prop where
  h : Below a.heap.size a b
theorem stg {W a b : World} {p : Nat} {u v t : Value} (st : Stp a b) (h : Below W.heap.size W a ∧ a.cell? ⟨p, 0, none⟩ = some u ∧ a.cell? ⟨p, 1, none⟩ = some v ∧ a.cell? ⟨p, 2, none⟩ = some t) :
    Below W.heap.size W b ∧ b.cell? ⟨p, 0, none⟩ = some u ∧ b.cell? ⟨p, 1, none⟩ = some v ∧ b.cell? ⟨p, 2, none⟩ = some t := ⟨bthen h.1 st.h, bkeep st.h h.2.1, bkeep st.h h.2.2.1, bkeep st.h h.2.2.2⟩
theorem szB_eq (g : Gm) : szB g = (wb 1 64 g.vars && (wb 0 16 g.terms && wb 0 (g.vars - 1) g.start)) := by
  unfold szB wb
  rw [Bool.eq_iff_iff]
  simp
  omega
theorem wrap_id {n : Int} (h1 : -9223372036854775808 ≤ n) (h2 : n ≤ 9223372036854775807) : IntKind.i64.wrap n = n := by
  rw [IntKind.wrap_i64]; omega
theorem within1_q {lo hi n : Int} {q : Bool} (hq : wb lo hi n = q) {b1 b2 : Nat} {w : World} (h1 : w.cell? ⟨b1, 0, none⟩ = some (.int .i64 lo)) (h2 : w.cell? ⟨b2, 0, none⟩ = some (.int .i64 hi)) :
    Calls Try.prog 133 #[.int .i64 n, .pointer (some ⟨b1, 0, none⟩), .pointer (some ⟨b2, 0, none⟩)] w fun e w' => e = .returned (.bool q) ∧ Below w.heap.size w w' := by
  subst hq
  exact (within1_any lo hi n b1 b2 w h1 h2).mono fun _ _ ⟨h1, h2⟩ => ⟨h1, by rw [h2]; exact Below.refl _ _⟩
set_option maxRecDepth 100000 in
set_option maxHeartbeats 8000000 in
theorem sized_any (g : Gm) (ao : Option Addr) (n cap : Nat) (w : World) :
    Calls Try.prog 104 #[.agg #[.int .i64 g.vars, .int .i64 g.terms, .int .i64 g.start, .slice ao n cap]] w fun e w' => e = .returned (.bool (szB g)) ∧ Below w.heap.size w w' := by
  rw [szB_eq]
  obtain ⟨W, hW⟩ : ∃ W, W = w.alloc (.cells #[.int .i64 g.vars, .int .i64 g.terms, .int .i64 g.start, .slice ao n cap] 24) := ⟨_, rfl⟩
  have hWb : Below w.heap.size w W := by rw [hW]; exact al1 _ _
  have g0 : Below W.heap.size W W ∧ W.cell? ⟨w.heap.size, 0, none⟩ = some (.int .i64 g.vars) ∧ W.cell? ⟨w.heap.size, 1, none⟩ = some (.int .i64 g.terms) ∧ W.cell? ⟨w.heap.size, 2, none⟩ = some (.int .i64 g.start) := ⟨Below.refl _ _, by rw [hW]; simp, by rw [hW]; simp, by rw [hW]; simp⟩
  have st0 : Stp W W.drew := ⟨drw1 W⟩
  have e1 : ∃ q, wb 1 64 g.vars = q := ⟨_, rfl⟩
  obtain ⟨q1, e1⟩ := e1
  have e2 : ∃ q, wb 0 16 g.terms = q := ⟨_, rfl⟩
  obtain ⟨q2, e2⟩ := e2
  have e3 : ∃ q, wb 0 (g.vars - 1) g.start = q := ⟨_, rfl⟩
  obtain ⟨q3, e3⟩ := e3
  have hR : Hid ((wb 1 64 g.vars && (wb 0 16 g.terms && wb 0 (g.vars - 1) g.start)) = (q1 && (q2 && q3))) := hd (by rw [e1, e2, e3])
  generalize (wb 1 64 g.vars && (wb 0 16 g.terms && wb 0 (g.vars - 1) g.start)) = R at *
  have E1 := hd e1
  have E2 := hd e2
  have E3 := hd e3
  clear e1 e2 e3
  have HVS : Hid (q1 = true → 1 ≤ g.vars ∧ g.vars ≤ 64) := hd (fun e => wb_iff.1 (E1.out.trans e))
  cases q1 with
  | false =>
    have hr : R = false := by rw [hR.out]; rfl
    subst hr
    go_enter Try.func104, Try.ntmps104
    go_wp2_with fail
    rw [← hW]
    have HW := hd hW
    clear hW
    refine wp_region_noPanic ?_
    refine wp_region_held_drew (S := fun w' => Below W.heap.size W w' ∧ w'.cell? ⟨w.heap.size, 0, none⟩ = some (.int .i64 g.vars) ∧ w'.cell? ⟨w.heap.size, 1, none⟩ = some (.int .i64 g.terms) ∧ w'.cell? ⟨w.heap.size, 2, none⟩ = some (.int .i64 g.start)) (by kernel_rfl) (stg st0 g0) ?_
    intro hSw
    obtain ⟨y0, hy0⟩ : ∃ y0, y0 = W.drew := ⟨_, rfl⟩
    rw [← hy0] at hSw ⊢
    clear hy0
    refine wpAnyH_take (i := 1) (v := ?v1) rfl (by kernel_rfl) (by kernel_rfl) (by kernel_rfl) (fun _ _ _ h => np_panic h) (Or.inl ⟨by rfl, ?hy1⟩) (by assumption) ?_
    case hy1 => (intro w' hS'; (try dsimp only at hS'); go_simp; try with_reducible rfl)
    simp only [Act.put, List.setIfInBounds_toArray, List.set_cons_zero, List.set_cons_succ, List.getElem_toArray, List.getElem_cons_succ, List.getElem_cons_zero]
    refine wpAnyH_take (i := 2) (v := ?v2) rfl (by kernel_rfl) (by kernel_rfl) (by kernel_rfl) (fun _ _ _ h => np_panic h) (Or.inl ⟨by rfl, ?hy2⟩) (by assumption) ?_
    case hy2 => (intro w' hS'; (try dsimp only at hS'); go_simp; try with_reducible rfl)
    simp only [Act.put, List.setIfInBounds_toArray, List.set_cons_zero, List.set_cons_succ, List.getElem_toArray, List.getElem_cons_succ, List.getElem_cons_zero]
    refine wpAnyH_ready (rs := [0]) (by kernel_rfl) (by simp) ?_
    refine AllReadyH.cons rfl (fun K hK => ?_) AllReadyH.nil
    go_simp
    go_at_call 105
    refine (within_any _ _ _).mono ?_
    rintro e y1 ⟨b1y1, b2y1, rfl, p1y1, p2y1, hby1⟩
    have hSy1 := stg (Stp.mk hby1) hSw
    refine hK.out _ _ hSy1 ?_
    clear hK K
    intro hSw
    try simp only [Act.put, List.setIfInBounds_toArray, List.set_cons_zero, List.set_cons_succ]
    refine wpAnyH_ready (rs := [3]) (by kernel_rfl) (by simp) ?_
    refine AllReadyH.cons rfl (fun K hK => ?_) AllReadyH.nil
    go_simp
    go_at_call 133
    refine (within1_q E1.out p1y1 p2y1).mono ?_
    rintro e y2 ⟨rfl, hby2⟩
    have hSy2 := stg (Stp.mk hby2) hSw
    refine hK.out _ _ hSy2 ?_
    clear hK K
    intro hSw
    try simp only [Act.put, List.setIfInBounds_toArray, List.set_cons_zero, List.set_cons_succ]
    refine wpAnyH_take (i := 4) (v := ?v3) rfl (by kernel_rfl) (by kernel_rfl) (by kernel_rfl) (fun _ _ _ h => np_panic h) (Or.inl ⟨by rfl, ?hy3⟩) (by assumption) ?_
    case hy3 => (intro w' hS'; (try dsimp only at hS'); go_simp; try with_reducible rfl)
    simp only [Act.put, List.setIfInBounds_toArray, List.set_cons_zero, List.set_cons_succ, List.getElem_toArray, List.getElem_cons_succ, List.getElem_cons_zero]
    refine wpAnyH_take (i := 5) (v := undef) rfl (by kernel_rfl) (by kernel_rfl) (by kernel_rfl) (fun _ _ _ h => np_panic h) (Or.inr ⟨by rfl, rfl⟩) (by assumption) ?_
    simp only [Act.put, List.setIfInBounds_toArray, List.set_cons_zero, List.set_cons_succ, List.getElem_toArray, List.getElem_cons_succ, List.getElem_cons_zero]
    refine wpAnyH_take (i := 6) (v := undef) rfl (by kernel_rfl) (by kernel_rfl) (by kernel_rfl) (fun _ _ _ h => np_panic h) (Or.inr ⟨by rfl, rfl⟩) (by assumption) ?_
    simp only [Act.put, List.setIfInBounds_toArray, List.set_cons_zero, List.set_cons_succ, List.getElem_toArray, List.getElem_cons_succ, List.getElem_cons_zero]
    refine wpAnyH_take (i := 7) (v := undef) rfl (by kernel_rfl) (by kernel_rfl) (by kernel_rfl) (fun _ _ _ h => np_panic h) (Or.inr ⟨by rfl, rfl⟩) (by assumption) ?_
    simp only [Act.put, List.setIfInBounds_toArray, List.set_cons_zero, List.set_cons_succ, List.getElem_toArray, List.getElem_cons_succ, List.getElem_cons_zero]
    refine wpAnyH_take (i := 8) (v := undef) rfl (by kernel_rfl) (by kernel_rfl) (by kernel_rfl) (fun _ _ _ h => np_panic h) (Or.inr ⟨by rfl, rfl⟩) (by assumption) ?_
    simp only [Act.put, List.setIfInBounds_toArray, List.set_cons_zero, List.set_cons_succ, List.getElem_toArray, List.getElem_cons_succ, List.getElem_cons_zero]
    refine wpAnyH_take (i := 9) (v := ?v4) rfl (by kernel_rfl) (by kernel_rfl) (by kernel_rfl) (fun _ _ _ h => np_panic h) (Or.inl ⟨by rfl, ?hy4⟩) (by assumption) ?_
    case hy4 => (intro w' hS'; (try dsimp only at hS'); go_simp; try with_reducible rfl)
    simp only [Act.put, List.setIfInBounds_toArray, List.set_cons_zero, List.set_cons_succ, List.getElem_toArray, List.getElem_cons_succ, List.getElem_cons_zero]
    refine wpAnyH_take (i := 10) (v := ?v5) rfl (by kernel_rfl) (by kernel_rfl) (by kernel_rfl) (fun _ _ _ h => np_panic h) (Or.inl ⟨by rfl, ?hy5⟩) (by assumption) ?_
    case hy5 => (intro w' hS'; (try dsimp only at hS'); go_simp; try with_reducible rfl)
    simp only [Act.put, List.setIfInBounds_toArray, List.set_cons_zero, List.set_cons_succ, List.getElem_toArray, List.getElem_cons_succ, List.getElem_cons_zero]
    refine wpAnyH_take (i := 11) (v := undef) rfl (by kernel_rfl) (by kernel_rfl) (by kernel_rfl) (fun _ _ _ h => np_panic h) (Or.inr ⟨by rfl, rfl⟩) (by assumption) ?_
    simp only [Act.put, List.setIfInBounds_toArray, List.set_cons_zero, List.set_cons_succ, List.getElem_toArray, List.getElem_cons_succ, List.getElem_cons_zero]
    refine wpAnyH_take (i := 12) (v := undef) rfl (by kernel_rfl) (by kernel_rfl) (by kernel_rfl) (fun _ _ _ h => np_panic h) (Or.inr ⟨by rfl, rfl⟩) (by assumption) ?_
    simp only [Act.put, List.setIfInBounds_toArray, List.set_cons_zero, List.set_cons_succ, List.getElem_toArray, List.getElem_cons_succ, List.getElem_cons_zero]
    refine wpAnyH_take (i := 13) (v := undef) rfl (by kernel_rfl) (by kernel_rfl) (by kernel_rfl) (fun _ _ _ h => np_panic h) (Or.inr ⟨by rfl, rfl⟩) (by assumption) ?_
    simp only [Act.put, List.setIfInBounds_toArray, List.set_cons_zero, List.set_cons_succ, List.getElem_toArray, List.getElem_cons_succ, List.getElem_cons_zero]
    refine wpAnyH_take (i := 14) (v := undef) rfl (by kernel_rfl) (by kernel_rfl) (by kernel_rfl) (fun _ _ _ h => np_panic h) (Or.inr ⟨by rfl, rfl⟩) (by assumption) ?_
    simp only [Act.put, List.setIfInBounds_toArray, List.set_cons_zero, List.set_cons_succ, List.getElem_toArray, List.getElem_cons_succ, List.getElem_cons_zero]
    refine wpAnyH_take (i := 15) (v := undef) rfl (by kernel_rfl) (by kernel_rfl) (by kernel_rfl) (fun _ _ _ h => np_panic h) (Or.inr ⟨by rfl, rfl⟩) (by assumption) ?_
    simp only [Act.put, List.setIfInBounds_toArray, List.set_cons_zero, List.set_cons_succ, List.getElem_toArray, List.getElem_cons_succ, List.getElem_cons_zero]
    refine wpAnyH_take (i := 16) (v := undef) rfl (by kernel_rfl) (by kernel_rfl) (by kernel_rfl) (fun _ _ _ h => np_panic h) (Or.inr ⟨by rfl, rfl⟩) (by assumption) ?_
    simp only [Act.put, List.setIfInBounds_toArray, List.set_cons_zero, List.set_cons_succ, List.getElem_toArray, List.getElem_cons_succ, List.getElem_cons_zero]
    refine wpAnyH_take (i := 17) (v := undef) rfl (by kernel_rfl) (by kernel_rfl) (by kernel_rfl) (fun _ _ _ h => np_panic h) (Or.inr ⟨by rfl, rfl⟩) (by assumption) ?_
    simp only [Act.put, List.setIfInBounds_toArray, List.set_cons_zero, List.set_cons_succ, List.getElem_toArray, List.getElem_cons_succ, List.getElem_cons_zero]
    refine wpAnyH_take (i := 18) (v := ?v6) rfl (by kernel_rfl) (by kernel_rfl) (by kernel_rfl) (fun _ _ _ h => np_panic h) (Or.inl ⟨by rfl, ?hy6⟩) (by assumption) ?_
    case hy6 => (intro w' hS'; (try dsimp only at hS'); go_simp; try with_reducible rfl)
    simp only [Act.put, List.setIfInBounds_toArray, List.set_cons_zero, List.set_cons_succ, List.getElem_toArray, List.getElem_cons_succ, List.getElem_cons_zero]
    refine wpAnyH_take (i := 19) (v := ?v7) rfl (by kernel_rfl) (by kernel_rfl) (by kernel_rfl) (fun _ _ _ h => np_panic h) (Or.inl ⟨by rfl, ?hy7⟩) (by assumption) ?_
    case hy7 => (intro w' hS'; (try dsimp only at hS'); go_simp; try with_reducible rfl)
    simp only [Act.put, List.setIfInBounds_toArray, List.set_cons_zero, List.set_cons_succ, List.getElem_toArray, List.getElem_cons_succ, List.getElem_cons_zero]
    refine wpAnyH_done (by kernel_rfl) (NoPanic.normal ?_) _
    go_wp2_with fail
    go_ret
    exact ⟨rfl, bthen hWb hSw.1⟩
  | true =>
    obtain ⟨hv1, hv2⟩ := HVS.out rfl
    have hwr : IntKind.i64.wrap (g.vars - 1) = g.vars - 1 := wrap_id (by omega) (by omega)
    cases q2 with
    | false =>
      have hr : R = false := by rw [hR.out]; rfl
      subst hr
      go_enter Try.func104, Try.ntmps104
      go_wp2_with fail
      rw [← hW]
      have HW := hd hW
      clear hW
      refine wp_region_noPanic ?_
      refine wp_region_held_drew (S := fun w' => Below W.heap.size W w' ∧ w'.cell? ⟨w.heap.size, 0, none⟩ = some (.int .i64 g.vars) ∧ w'.cell? ⟨w.heap.size, 1, none⟩ = some (.int .i64 g.terms) ∧ w'.cell? ⟨w.heap.size, 2, none⟩ = some (.int .i64 g.start)) (by kernel_rfl) (stg st0 g0) ?_
      intro hSw
      obtain ⟨y0, hy0⟩ : ∃ y0, y0 = W.drew := ⟨_, rfl⟩
      rw [← hy0] at hSw ⊢
      clear hy0
      refine wpAnyH_take (i := 1) (v := ?v8) rfl (by kernel_rfl) (by kernel_rfl) (by kernel_rfl) (fun _ _ _ h => np_panic h) (Or.inl ⟨by rfl, ?hy8⟩) (by assumption) ?_
      case hy8 => (intro w' hS'; (try dsimp only at hS'); go_simp; try with_reducible rfl)
      simp only [Act.put, List.setIfInBounds_toArray, List.set_cons_zero, List.set_cons_succ, List.getElem_toArray, List.getElem_cons_succ, List.getElem_cons_zero]
      refine wpAnyH_take (i := 2) (v := ?v9) rfl (by kernel_rfl) (by kernel_rfl) (by kernel_rfl) (fun _ _ _ h => np_panic h) (Or.inl ⟨by rfl, ?hy9⟩) (by assumption) ?_
      case hy9 => (intro w' hS'; (try dsimp only at hS'); go_simp; try with_reducible rfl)
      simp only [Act.put, List.setIfInBounds_toArray, List.set_cons_zero, List.set_cons_succ, List.getElem_toArray, List.getElem_cons_succ, List.getElem_cons_zero]
      refine wpAnyH_ready (rs := [0]) (by kernel_rfl) (by simp) ?_
      refine AllReadyH.cons rfl (fun K hK => ?_) AllReadyH.nil
      go_simp
      go_at_call 105
      refine (within_any _ _ _).mono ?_
      rintro e y1 ⟨b1y1, b2y1, rfl, p1y1, p2y1, hby1⟩
      have hSy1 := stg (Stp.mk hby1) hSw
      refine hK.out _ _ hSy1 ?_
      clear hK K
      intro hSw
      try simp only [Act.put, List.setIfInBounds_toArray, List.set_cons_zero, List.set_cons_succ]
      refine wpAnyH_ready (rs := [3]) (by kernel_rfl) (by simp) ?_
      refine AllReadyH.cons rfl (fun K hK => ?_) AllReadyH.nil
      go_simp
      go_at_call 133
      refine (within1_q E1.out p1y1 p2y1).mono ?_
      rintro e y2 ⟨rfl, hby2⟩
      have hSy2 := stg (Stp.mk hby2) hSw
      refine hK.out _ _ hSy2 ?_
      clear hK K
      intro hSw
      try simp only [Act.put, List.setIfInBounds_toArray, List.set_cons_zero, List.set_cons_succ]
      refine wpAnyH_take (i := 4) (v := ?v10) rfl (by kernel_rfl) (by kernel_rfl) (by kernel_rfl) (fun _ _ _ h => np_panic h) (Or.inl ⟨by rfl, ?hy10⟩) (by assumption) ?_
      case hy10 => (intro w' hS'; (try dsimp only at hS'); go_simp; try with_reducible rfl)
      simp only [Act.put, List.setIfInBounds_toArray, List.set_cons_zero, List.set_cons_succ, List.getElem_toArray, List.getElem_cons_succ, List.getElem_cons_zero]
      refine wpAnyH_take (i := 6) (v := ?v11) rfl (by kernel_rfl) (by kernel_rfl) (by kernel_rfl) (fun _ _ _ h => np_panic h) (Or.inl ⟨by rfl, ?hy11⟩) (by assumption) ?_
      case hy11 => (intro w' hS'; (try dsimp only at hS'); go_simp; try with_reducible rfl)
      simp only [Act.put, List.setIfInBounds_toArray, List.set_cons_zero, List.set_cons_succ, List.getElem_toArray, List.getElem_cons_succ, List.getElem_cons_zero]
      refine wpAnyH_take (i := 7) (v := ?v12) rfl (by kernel_rfl) (by kernel_rfl) (by kernel_rfl) (fun _ _ _ h => np_panic h) (Or.inl ⟨by rfl, ?hy12⟩) (by assumption) ?_
      case hy12 => (intro w' hS'; (try dsimp only at hS'); go_simp; try with_reducible rfl)
      simp only [Act.put, List.setIfInBounds_toArray, List.set_cons_zero, List.set_cons_succ, List.getElem_toArray, List.getElem_cons_succ, List.getElem_cons_zero]
      refine wpAnyH_ready (rs := [5]) (by kernel_rfl) (by simp) ?_
      refine AllReadyH.cons rfl (fun K hK => ?_) AllReadyH.nil
      go_simp
      go_at_call 105
      refine (within_any _ _ _).mono ?_
      rintro e y3 ⟨b1y3, b2y3, rfl, p1y3, p2y3, hby3⟩
      have hSy3 := stg (Stp.mk hby3) hSw
      refine hK.out _ _ hSy3 ?_
      clear hK K
      intro hSw
      try simp only [Act.put, List.setIfInBounds_toArray, List.set_cons_zero, List.set_cons_succ]
      refine wpAnyH_ready (rs := [8]) (by kernel_rfl) (by simp) ?_
      refine AllReadyH.cons rfl (fun K hK => ?_) AllReadyH.nil
      go_simp
      go_at_call 133
      refine (within1_q E2.out p1y3 p2y3).mono ?_
      rintro e y4 ⟨rfl, hby4⟩
      have hSy4 := stg (Stp.mk hby4) hSw
      refine hK.out _ _ hSy4 ?_
      clear hK K
      intro hSw
      try simp only [Act.put, List.setIfInBounds_toArray, List.set_cons_zero, List.set_cons_succ]
      refine wpAnyH_take (i := 9) (v := ?v13) rfl (by kernel_rfl) (by kernel_rfl) (by kernel_rfl) (fun _ _ _ h => np_panic h) (Or.inl ⟨by rfl, ?hy13⟩) (by assumption) ?_
      case hy13 => (intro w' hS'; (try dsimp only at hS'); go_simp; try with_reducible rfl)
      simp only [Act.put, List.setIfInBounds_toArray, List.set_cons_zero, List.set_cons_succ, List.getElem_toArray, List.getElem_cons_succ, List.getElem_cons_zero]
      refine wpAnyH_take (i := 10) (v := ?v14) rfl (by kernel_rfl) (by kernel_rfl) (by kernel_rfl) (fun _ _ _ h => np_panic h) (Or.inl ⟨by rfl, ?hy14⟩) (by assumption) ?_
      case hy14 => (intro w' hS'; (try dsimp only at hS'); go_simp; try with_reducible rfl)
      simp only [Act.put, List.setIfInBounds_toArray, List.set_cons_zero, List.set_cons_succ, List.getElem_toArray, List.getElem_cons_succ, List.getElem_cons_zero]
      refine wpAnyH_take (i := 11) (v := undef) rfl (by kernel_rfl) (by kernel_rfl) (by kernel_rfl) (fun _ _ _ h => np_panic h) (Or.inr ⟨by rfl, rfl⟩) (by assumption) ?_
      simp only [Act.put, List.setIfInBounds_toArray, List.set_cons_zero, List.set_cons_succ, List.getElem_toArray, List.getElem_cons_succ, List.getElem_cons_zero]
      refine wpAnyH_take (i := 12) (v := undef) rfl (by kernel_rfl) (by kernel_rfl) (by kernel_rfl) (fun _ _ _ h => np_panic h) (Or.inr ⟨by rfl, rfl⟩) (by assumption) ?_
      simp only [Act.put, List.setIfInBounds_toArray, List.set_cons_zero, List.set_cons_succ, List.getElem_toArray, List.getElem_cons_succ, List.getElem_cons_zero]
      refine wpAnyH_take (i := 13) (v := undef) rfl (by kernel_rfl) (by kernel_rfl) (by kernel_rfl) (fun _ _ _ h => np_panic h) (Or.inr ⟨by rfl, rfl⟩) (by assumption) ?_
      simp only [Act.put, List.setIfInBounds_toArray, List.set_cons_zero, List.set_cons_succ, List.getElem_toArray, List.getElem_cons_succ, List.getElem_cons_zero]
      refine wpAnyH_take (i := 14) (v := undef) rfl (by kernel_rfl) (by kernel_rfl) (by kernel_rfl) (fun _ _ _ h => np_panic h) (Or.inr ⟨by rfl, rfl⟩) (by assumption) ?_
      simp only [Act.put, List.setIfInBounds_toArray, List.set_cons_zero, List.set_cons_succ, List.getElem_toArray, List.getElem_cons_succ, List.getElem_cons_zero]
      refine wpAnyH_take (i := 15) (v := undef) rfl (by kernel_rfl) (by kernel_rfl) (by kernel_rfl) (fun _ _ _ h => np_panic h) (Or.inr ⟨by rfl, rfl⟩) (by assumption) ?_
      simp only [Act.put, List.setIfInBounds_toArray, List.set_cons_zero, List.set_cons_succ, List.getElem_toArray, List.getElem_cons_succ, List.getElem_cons_zero]
      refine wpAnyH_take (i := 16) (v := undef) rfl (by kernel_rfl) (by kernel_rfl) (by kernel_rfl) (fun _ _ _ h => np_panic h) (Or.inr ⟨by rfl, rfl⟩) (by assumption) ?_
      simp only [Act.put, List.setIfInBounds_toArray, List.set_cons_zero, List.set_cons_succ, List.getElem_toArray, List.getElem_cons_succ, List.getElem_cons_zero]
      refine wpAnyH_take (i := 17) (v := undef) rfl (by kernel_rfl) (by kernel_rfl) (by kernel_rfl) (fun _ _ _ h => np_panic h) (Or.inr ⟨by rfl, rfl⟩) (by assumption) ?_
      simp only [Act.put, List.setIfInBounds_toArray, List.set_cons_zero, List.set_cons_succ, List.getElem_toArray, List.getElem_cons_succ, List.getElem_cons_zero]
      refine wpAnyH_take (i := 18) (v := ?v15) rfl (by kernel_rfl) (by kernel_rfl) (by kernel_rfl) (fun _ _ _ h => np_panic h) (Or.inl ⟨by rfl, ?hy15⟩) (by assumption) ?_
      case hy15 => (intro w' hS'; (try dsimp only at hS'); go_simp; try with_reducible rfl)
      simp only [Act.put, List.setIfInBounds_toArray, List.set_cons_zero, List.set_cons_succ, List.getElem_toArray, List.getElem_cons_succ, List.getElem_cons_zero]
      refine wpAnyH_take (i := 19) (v := ?v16) rfl (by kernel_rfl) (by kernel_rfl) (by kernel_rfl) (fun _ _ _ h => np_panic h) (Or.inl ⟨by rfl, ?hy16⟩) (by assumption) ?_
      case hy16 => (intro w' hS'; (try dsimp only at hS'); go_simp; try with_reducible rfl)
      simp only [Act.put, List.setIfInBounds_toArray, List.set_cons_zero, List.set_cons_succ, List.getElem_toArray, List.getElem_cons_succ, List.getElem_cons_zero]
      refine wpAnyH_done (by kernel_rfl) (NoPanic.normal ?_) _
      go_wp2_with fail
      go_ret
      exact ⟨rfl, bthen hWb hSw.1⟩
    | true =>
      have hr : R = q3 := by rw [hR.out]; rfl
      subst hr
      go_enter Try.func104, Try.ntmps104
      go_wp2_with fail
      rw [← hW]
      have HW := hd hW
      clear hW
      refine wp_region_noPanic ?_
      refine wp_region_held_drew (S := fun w' => Below W.heap.size W w' ∧ w'.cell? ⟨w.heap.size, 0, none⟩ = some (.int .i64 g.vars) ∧ w'.cell? ⟨w.heap.size, 1, none⟩ = some (.int .i64 g.terms) ∧ w'.cell? ⟨w.heap.size, 2, none⟩ = some (.int .i64 g.start)) (by kernel_rfl) (stg st0 g0) ?_
      intro hSw
      obtain ⟨y0, hy0⟩ : ∃ y0, y0 = W.drew := ⟨_, rfl⟩
      rw [← hy0] at hSw ⊢
      clear hy0
      refine wpAnyH_take (i := 1) (v := ?v17) rfl (by kernel_rfl) (by kernel_rfl) (by kernel_rfl) (fun _ _ _ h => np_panic h) (Or.inl ⟨by rfl, ?hy17⟩) (by assumption) ?_
      case hy17 => (intro w' hS'; (try dsimp only at hS'); go_simp; try with_reducible rfl)
      simp only [Act.put, List.setIfInBounds_toArray, List.set_cons_zero, List.set_cons_succ, List.getElem_toArray, List.getElem_cons_succ, List.getElem_cons_zero]
      refine wpAnyH_take (i := 2) (v := ?v18) rfl (by kernel_rfl) (by kernel_rfl) (by kernel_rfl) (fun _ _ _ h => np_panic h) (Or.inl ⟨by rfl, ?hy18⟩) (by assumption) ?_
      case hy18 => (intro w' hS'; (try dsimp only at hS'); go_simp; try with_reducible rfl)
      simp only [Act.put, List.setIfInBounds_toArray, List.set_cons_zero, List.set_cons_succ, List.getElem_toArray, List.getElem_cons_succ, List.getElem_cons_zero]
      refine wpAnyH_ready (rs := [0]) (by kernel_rfl) (by simp) ?_
      refine AllReadyH.cons rfl (fun K hK => ?_) AllReadyH.nil
      go_simp
      go_at_call 105
      refine (within_any _ _ _).mono ?_
      rintro e y1 ⟨b1y1, b2y1, rfl, p1y1, p2y1, hby1⟩
      have hSy1 := stg (Stp.mk hby1) hSw
      refine hK.out _ _ hSy1 ?_
      clear hK K
      intro hSw
      try simp only [Act.put, List.setIfInBounds_toArray, List.set_cons_zero, List.set_cons_succ]
      refine wpAnyH_ready (rs := [3]) (by kernel_rfl) (by simp) ?_
      refine AllReadyH.cons rfl (fun K hK => ?_) AllReadyH.nil
      go_simp
      go_at_call 133
      refine (within1_q E1.out p1y1 p2y1).mono ?_
      rintro e y2 ⟨rfl, hby2⟩
      have hSy2 := stg (Stp.mk hby2) hSw
      refine hK.out _ _ hSy2 ?_
      clear hK K
      intro hSw
      try simp only [Act.put, List.setIfInBounds_toArray, List.set_cons_zero, List.set_cons_succ]
      refine wpAnyH_take (i := 4) (v := ?v19) rfl (by kernel_rfl) (by kernel_rfl) (by kernel_rfl) (fun _ _ _ h => np_panic h) (Or.inl ⟨by rfl, ?hy19⟩) (by assumption) ?_
      case hy19 => (intro w' hS'; (try dsimp only at hS'); go_simp; try with_reducible rfl)
      simp only [Act.put, List.setIfInBounds_toArray, List.set_cons_zero, List.set_cons_succ, List.getElem_toArray, List.getElem_cons_succ, List.getElem_cons_zero]
      refine wpAnyH_take (i := 6) (v := ?v20) rfl (by kernel_rfl) (by kernel_rfl) (by kernel_rfl) (fun _ _ _ h => np_panic h) (Or.inl ⟨by rfl, ?hy20⟩) (by assumption) ?_
      case hy20 => (intro w' hS'; (try dsimp only at hS'); go_simp; try with_reducible rfl)
      simp only [Act.put, List.setIfInBounds_toArray, List.set_cons_zero, List.set_cons_succ, List.getElem_toArray, List.getElem_cons_succ, List.getElem_cons_zero]
      refine wpAnyH_take (i := 7) (v := ?v21) rfl (by kernel_rfl) (by kernel_rfl) (by kernel_rfl) (fun _ _ _ h => np_panic h) (Or.inl ⟨by rfl, ?hy21⟩) (by assumption) ?_
      case hy21 => (intro w' hS'; (try dsimp only at hS'); go_simp; try with_reducible rfl)
      simp only [Act.put, List.setIfInBounds_toArray, List.set_cons_zero, List.set_cons_succ, List.getElem_toArray, List.getElem_cons_succ, List.getElem_cons_zero]
      refine wpAnyH_ready (rs := [5]) (by kernel_rfl) (by simp) ?_
      refine AllReadyH.cons rfl (fun K hK => ?_) AllReadyH.nil
      go_simp
      go_at_call 105
      refine (within_any _ _ _).mono ?_
      rintro e y3 ⟨b1y3, b2y3, rfl, p1y3, p2y3, hby3⟩
      have hSy3 := stg (Stp.mk hby3) hSw
      refine hK.out _ _ hSy3 ?_
      clear hK K
      intro hSw
      try simp only [Act.put, List.setIfInBounds_toArray, List.set_cons_zero, List.set_cons_succ]
      refine wpAnyH_ready (rs := [8]) (by kernel_rfl) (by simp) ?_
      refine AllReadyH.cons rfl (fun K hK => ?_) AllReadyH.nil
      go_simp
      go_at_call 133
      refine (within1_q E2.out p1y3 p2y3).mono ?_
      rintro e y4 ⟨rfl, hby4⟩
      have hSy4 := stg (Stp.mk hby4) hSw
      refine hK.out _ _ hSy4 ?_
      clear hK K
      intro hSw
      try simp only [Act.put, List.setIfInBounds_toArray, List.set_cons_zero, List.set_cons_succ]
      refine wpAnyH_take (i := 9) (v := ?v22) rfl (by kernel_rfl) (by kernel_rfl) (by kernel_rfl) (fun _ _ _ h => np_panic h) (Or.inl ⟨by rfl, ?hy22⟩) (by assumption) ?_
      case hy22 => (intro w' hS'; (try dsimp only at hS'); go_simp; try with_reducible rfl)
      simp only [Act.put, List.setIfInBounds_toArray, List.set_cons_zero, List.set_cons_succ, List.getElem_toArray, List.getElem_cons_succ, List.getElem_cons_zero]
      refine wpAnyH_take (i := 10) (v := ?v23) rfl (by kernel_rfl) (by kernel_rfl) (by kernel_rfl) (fun _ _ _ h => np_panic h) (Or.inl ⟨by rfl, ?hy23⟩) (by assumption) ?_
      case hy23 => (intro w' hS'; (try dsimp only at hS'); go_simp; try with_reducible rfl)
      simp only [Act.put, List.setIfInBounds_toArray, List.set_cons_zero, List.set_cons_succ, List.getElem_toArray, List.getElem_cons_succ, List.getElem_cons_zero]
      refine wpAnyH_take (i := 11) (v := ?v24) rfl (by kernel_rfl) (by kernel_rfl) (by kernel_rfl) (fun _ _ _ h => np_panic h) (Or.inl ⟨by rfl, ?hy24⟩) (by assumption) ?_
      case hy24 => (intro w' hS'; (try dsimp only at hS'); go_simp; try with_reducible rfl)
      simp only [Act.put, List.setIfInBounds_toArray, List.set_cons_zero, List.set_cons_succ, List.getElem_toArray, List.getElem_cons_succ, List.getElem_cons_zero]
      refine wpAnyH_take (i := 12) (v := ?v25) rfl (by kernel_rfl) (by kernel_rfl) (by kernel_rfl) (fun _ _ _ h => np_panic h) (Or.inl ⟨by rfl, ?hy25⟩) (by assumption) ?_
      case hy25 => (intro w' hS'; (try dsimp only at hS'); go_simp; try with_reducible rfl)
      simp only [Act.put, List.setIfInBounds_toArray, List.set_cons_zero, List.set_cons_succ, List.getElem_toArray, List.getElem_cons_succ, List.getElem_cons_zero]
      refine wpAnyH_take (i := 13) (v := ?v26) rfl (by kernel_rfl) (by kernel_rfl) (by kernel_rfl) (fun _ _ _ h => np_panic h) (Or.inl ⟨by rfl, ?hy26⟩) (by assumption) ?_
      case hy26 => (intro w' hS'; (try dsimp only at hS'); go_simp; try with_reducible rfl)
      simp only [Act.put, List.setIfInBounds_toArray, List.set_cons_zero, List.set_cons_succ, List.getElem_toArray, List.getElem_cons_succ, List.getElem_cons_zero]
      refine wpAnyH_take (i := 15) (v := ?v27) rfl (by kernel_rfl) (by kernel_rfl) (by kernel_rfl) (fun _ _ _ h => np_panic h) (Or.inl ⟨by rfl, ?hy27⟩) (by assumption) ?_
      case hy27 => (intro w' hS'; (try dsimp only at hS'); go_simp; try with_reducible rfl)
      simp only [Act.put, List.setIfInBounds_toArray, List.set_cons_zero, List.set_cons_succ, List.getElem_toArray, List.getElem_cons_succ, List.getElem_cons_zero]
      refine wpAnyH_take (i := 16) (v := ?v28) rfl (by kernel_rfl) (by kernel_rfl) (by kernel_rfl) (fun _ _ _ h => np_panic h) (Or.inl ⟨by rfl, ?hy28⟩) (by assumption) ?_
      case hy28 => (intro w' hS'; (try dsimp only at hS'); go_simp; try with_reducible rfl)
      simp only [Act.put, List.setIfInBounds_toArray, List.set_cons_zero, List.set_cons_succ, List.getElem_toArray, List.getElem_cons_succ, List.getElem_cons_zero]
      refine wpAnyH_ready (rs := [14]) (by kernel_rfl) (by simp) ?_
      refine AllReadyH.cons rfl (fun K hK => ?_) AllReadyH.nil
      go_simp
      go_at_call 105
      refine (within_any _ _ _).mono ?_
      rintro e y5 ⟨b1y5, b2y5, rfl, p1y5, p2y5, hby5⟩
      have hSy5 := stg (Stp.mk hby5) hSw
      refine hK.out _ _ hSy5 ?_
      clear hK K
      intro hSw
      try simp only [Act.put, List.setIfInBounds_toArray, List.set_cons_zero, List.set_cons_succ]
      refine wpAnyH_ready (rs := [17]) (by kernel_rfl) (by simp) ?_
      refine AllReadyH.cons rfl (fun K hK => ?_) AllReadyH.nil
      go_simp
      go_at_call 133
      refine (within1_q E3.out p1y5 p2y5).mono ?_
      rintro e y6 ⟨rfl, hby6⟩
      have hSy6 := stg (Stp.mk hby6) hSw
      refine hK.out _ _ hSy6 ?_
      clear hK K
      intro hSw
      try simp only [Act.put, List.setIfInBounds_toArray, List.set_cons_zero, List.set_cons_succ]
      refine wpAnyH_take (i := 18) (v := ?v29) rfl (by kernel_rfl) (by kernel_rfl) (by kernel_rfl) (fun _ _ _ h => np_panic h) (Or.inl ⟨by rfl, ?hy29⟩) (by assumption) ?_
      case hy29 => (intro w' hS'; (try dsimp only at hS'); go_simp; try with_reducible rfl)
      simp only [Act.put, List.setIfInBounds_toArray, List.set_cons_zero, List.set_cons_succ, List.getElem_toArray, List.getElem_cons_succ, List.getElem_cons_zero]
      refine wpAnyH_take (i := 19) (v := ?v30) rfl (by kernel_rfl) (by kernel_rfl) (by kernel_rfl) (fun _ _ _ h => np_panic h) (Or.inl ⟨by rfl, ?hy30⟩) (by assumption) ?_
      case hy30 => (intro w' hS'; (try dsimp only at hS'); go_simp; try with_reducible rfl)
      simp only [Act.put, List.setIfInBounds_toArray, List.set_cons_zero, List.set_cons_succ, List.getElem_toArray, List.getElem_cons_succ, List.getElem_cons_zero]
      refine wpAnyH_done (by kernel_rfl) (NoPanic.normal ?_) _
      go_wp2_with fail
      go_ret
      exact ⟨rfl, bthen hWb hSw.1⟩
end Go.Proofs.Ytlhdppkllmnmkad.G

/- Is it a tree of a nonterminal? What that is, the program's way, the document's way. -/
namespace Go.Proofs.Ytlhdppkllmnmkad.G
open Go.RowKit
/-- The rule of a number, if it is one. -/
def rOf (rs : List Ru) (r : Int) : Option Ru := if 0 ≤ r then rs[r.toNat]? else none
/-- Are these the trees of nonterminals, one of each? -/
def fitF (rs : List Ru) : Tf → List Int → Bool
  | .nil, [] => true
  | .cons r k rest, v :: vs => (match rOf rs r with
    | none => false
    | some u => decide (u.left = v) && fitF rs k (kidsL u.right)) && fitF rs rest vs
  | .nil, _ :: _ => false
  | .cons .., [] => false
def fitT (rs : List Ru) (t : Tr) (v : Int) : Bool := match rOf rs t.rule with
  | none => false
  | some u => decide (u.left = v) && fitF rs t.kids (kidsL u.right)
theorem fitF_cons (rs : List Ru) (r : Int) (k rest : Tf) (v : Int) (vs : List Int) : fitF rs (.cons r k rest) (v :: vs) = (fitT rs ⟨r, k⟩ v && fitF rs rest vs) := rfl
theorem fitF_len (rs : List Ru) : ∀ (f : Tf) (vs : List Int), fitF rs f vs = true → f.len = vs.length
  | .nil, [], _ => rfl
  | .nil, _ :: _, h => by simp [fitF] at h
  | .cons .., [], h => by simp [fitF] at h
  | .cons r k rest, v :: vs, h => by
    rw [fitF_cons, Bool.and_eq_true] at h
    have := fitF_len rs rest vs h.2
    simp [Tf.len, this]
theorem rOf_nat {rs : List Ru} {r : Nat} (h : r < rs.length) : rOf rs (r : Int) = some rs[r] := by
  unfold rOf; rw [if_pos (by omega)]; simp [h]
/-! The program's. -/
end Go.Proofs.Ytlhdppkllmnmkad.G

/- The words of trees: what they are; what a right grammar's symbols may be. -/
namespace Go.Proofs.Ytlhdppkllmnmkad.G
open Go.RowKit
/-- The right side of a rule, if it is one. -/
def rgOf (rs : List Ru) (r : Int) : List Int := match rOf rs r with
  | none => []
  | some u => u.right
/-- A right side with words in the place of its nonterminals. -/
def wdR : List Int → List (List Int) → List Int
  | [], _ => []
  | s :: l, ws => if s < 0 then (-1 - s) :: wdR l ws else ws.headD [] ++ wdR l ws.tail
/-- The words of a row of trees. -/
def wdF (rs : List Ru) : Tf → List (List Int)
  | .nil => []
  | .cons r k rest => wdR (rgOf rs r) (wdF rs k) :: wdF rs rest
def wdT (rs : List Ru) (t : Tr) : List Int := wdR (rgOf rs t.rule) (wdF rs t.kids)
/-- A fitting tree's rule. -/
theorem fit_rule {rs : List Ru} {t : Tr} {v : Int} (h : fitT rs t v = true) : ∃ (r : Nat) (hr : r < rs.length), t.rule = r ∧ rs[r].left = v ∧ fitF rs t.kids (kidsL rs[r].right) = true ∧ wdT rs t = wdR rs[r].right (wdF rs t.kids) := by
  unfold fitT rOf at h
  by_cases h0 : 0 ≤ t.rule
  · rw [if_pos h0] at h
    rcases Nat.lt_or_ge t.rule.toNat rs.length with h1 | h1
    · rw [List.getElem?_eq_getElem h1] at h
      simp at h
      refine ⟨t.rule.toNat, h1, by omega, h.1, h.2, ?_⟩
      unfold wdT rgOf rOf
      rw [if_pos h0, List.getElem?_eq_getElem h1]
    · rw [List.getElem?_eq_none h1] at h; simp at h
  · rw [if_neg h0] at h; simp at h

end Go.Proofs.Ytlhdppkllmnmkad.G

/- In how many ways symbols stand for a word, exactly. -/
namespace Go.Proofs.Ytlhdppkllmnmkad.G
open Go.RowKit
/-! Sums of so many numbers. -/
def sm (n : Nat) (F : Nat → Nat) : Nat := match n with
  | 0 => 0
  | k + 1 => sm k F + F k
theorem sm_congr {F G : Nat → Nat} : ∀ {n : Nat}, (∀ k, k < n → F k = G k) → sm n F = sm n G
  | 0, _ => rfl
  | n + 1, h => by simp only [sm]; rw [sm_congr fun k hk => h k (by omega), h n (by omega)]
theorem sm_zero {F : Nat → Nat} : ∀ {n : Nat}, (∀ k, k < n → F k = 0) → sm n F = 0
  | 0, _ => rfl
  | n + 1, h => by simp only [sm]; rw [sm_zero fun k hk => h k (by omega), h n (by omega)]
theorem sm_add (F G : Nat → Nat) : ∀ n : Nat, sm n (fun k => F k + G k) = sm n F + sm n G
  | 0 => rfl
  | n + 1 => by simp only [sm]; rw [sm_add F G n]; omega
theorem sm_mul (x : Nat) (F : Nat → Nat) : ∀ n : Nat, sm n (fun k => x * F k) = x * sm n F
  | 0 => rfl
  | n + 1 => by simp only [sm]; rw [sm_mul x F n, Nat.mul_add]
theorem sm_mul_r (x : Nat) (F : Nat → Nat) (n : Nat) : sm n (fun k => F k * x) = sm n F * x := by
  rw [Nat.mul_comm, ← sm_mul]; exact sm_congr fun k _ => Nat.mul_comm _ _
theorem sm_swap (F : Nat → Nat → Nat) (m : Nat) : ∀ n : Nat, sm n (fun k => sm m fun q => F k q) = sm m (fun q => sm n fun k => F k q)
  | 0 => (sm_zero fun _ _ => rfl).symm
  | n + 1 => by simp only [sm]; rw [sm_swap F m n, ← sm_add]
theorem sm_one {F : Nat → Nat} {p : Nat} : ∀ {n : Nat}, p < n → (∀ k, k < n → k ≠ p → F k = 0) → sm n F = F p
  | 0, h, _ => absurd h (Nat.not_lt_zero _)
  | n + 1, h, hz => by
    simp only [sm]
    by_cases e : p = n
    · subst e; rw [sm_zero fun k hk => hz k (by omega) (by omega), Nat.zero_add]
    · rw [sm_one (by omega) fun k hk hn => hz k (by omega) hn, hz n (by omega) (Ne.symm e)]; rfl
theorem sm_le {F G : Nat → Nat} : ∀ {n : Nat}, (∀ k, k < n → F k ≤ G k) → sm n F ≤ sm n G
  | 0, _ => Nat.le_refl _
  | n + 1, h => by have h1 := sm_le (n := n) fun k hk => h k (by omega); have h2 := h n (by omega); simp only [sm]; omega
/-- The first one apart. -/
theorem sm_pick {P : Nat → Prop} [DecidablePred P] {F : Nat → Nat} {k n : Nat} (hk : k < n) : sm n (fun q => if k ≤ q ∧ P q then F q else 0) = (if P k then F k else 0) + sm n (fun q => if k + 1 ≤ q ∧ P q then F q else 0) := by
  have h1 : sm n (fun q => if k ≤ q ∧ P q then F q else 0) = sm n (fun q => (if q = k then (if P k then F k else 0) else 0) + (if k + 1 ≤ q ∧ P q then F q else 0)) := sm_congr fun q _ => by
    by_cases e : q = k
    · subst e
      by_cases hp : P q
      · rw [if_pos ⟨Nat.le_refl _, hp⟩, if_pos rfl, if_pos hp, if_neg (by omega)]; rfl
      · rw [if_neg (fun h => hp h.2), if_pos rfl, if_neg hp, if_neg (fun h => hp h.2)]
    · rw [if_neg e, Nat.zero_add]
      by_cases hc : k + 1 ≤ q ∧ P q
      · rw [if_pos hc, if_pos ⟨by omega, hc.2⟩]
      · rw [if_neg hc, if_neg (fun h => hc ⟨by omega, h.2⟩)]
  rw [h1, sm_add, sm_one hk (fun q _ hq => by rw [if_neg hq]), if_pos rfl]

/-! Ways, exactly. -/
/-- What a symbol counts, from a place to another. -/
def vlN (f : Nat → Nat → Nat → Nat) (W : List Int) (s : Int) (a b : Nat) : Nat := if 0 ≤ s then f s.toNat a b else if b = a + 1 ∧ W[a]? = some (-1 - s) then 1 else 0
/-- Symbols one behind the other. -/
def chN (f : Nat → Nat → Nat → Nat) (W : List Int) : List Int → Nat → Nat → Nat
  | [], i, j => if i = j then 1 else 0
  | s :: ss, i, j => sm (W.length + 1) fun m => if i ≤ m ∧ m ≤ j then vlN f W s i m * chN f W ss m j else 0
/-- By these rules. -/
def stN (f : Nat → Nat → Nat → Nat) (W : List Int) (v : Int) (i j : Nat) : List Ru → Nat
  | [] => 0
  | r :: rs => (if r.left = v then chN f W r.right i j else 0) + stN f W v i j rs
/-- By trees of so many levels. -/
def nT (R : List Ru) (W : List Int) : Nat → Nat → Nat → Nat → Nat
  | 0 => fun _ _ _ => 0
  | t + 1 => fun v i j => stN (nT R W t) W (v : Int) i j R
theorem chN_gt {f : Nat → Nat → Nat → Nat} {W : List Int} : ∀ {l : List Int} {i j : Nat}, j < i → chN f W l i j = 0
  | [], i, j, h => by simp only [chN]; rw [if_neg (by omega)]
  | s :: ss, i, j, h => by simp only [chN]; exact sm_zero fun m _ => by rw [if_neg (by omega)]
theorem stN_app {f : Nat → Nat → Nat → Nat} {W : List Int} {v : Int} {i j : Nat} : ∀ (a b : List Ru), stN f W v i j (a ++ b) = stN f W v i j a + stN f W v i j b
  | [], b => by simp [stN]
  | r :: rs, b => by simp only [List.cons_append, stN]; rw [stN_app rs b]; omega

end Go.Proofs.Ytlhdppkllmnmkad.G
