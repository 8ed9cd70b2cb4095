/- Texts laid together: Ze Yc. -/
import Derived.Test.YtlhdppkllmnmkadL05
import Derived.Test.YtlhdppkllmnmkadL06
import Derived.Test.YtlhdppkllmnmkadL02
import Derived.Deep.CutRange
/- Where nothing leads to itself alone, trees of a word are no higher than so. -/
namespace Go.Proofs.Ytlhdppkllmnmkad.G
open Go.RowKit
/-- Nullable. -/
abbrev Nul (R : List Ru) : Int → Prop := Gen false R
theorem nul_row {R : List Ru} : ∀ (f : Tf) (l : List Int), fitF R f (kidsL l) = true → wdR l (wdF R f) = [] → ∀ s ∈ l, Nul R s
  | f, [], _, _ => fun s h => by cases h
  | .nil, s :: ss, h1, h2 => by
    by_cases hs : s < 0
    · unfold wdR at h2; rw [if_pos hs] at h2; cases h2
    · rw [kidsL_pos (by omega)] at h1; simp [fitF] at h1
  | .cons r k rest, s :: ss, h1, h2 => by
    by_cases hs : s < 0
    · unfold wdR at h2; rw [if_pos hs] at h2; cases h2
    · rw [kidsL_pos (by omega), fitF_cons, Bool.and_eq_true] at h1
      have h3 : wdT R ⟨r, k⟩ ++ wdR ss (wdF R rest) = [] := by
        have : wdR (s :: ss) (wdT R ⟨r, k⟩ :: wdF R rest) = [] := h2
        unfold wdR at this
        rw [if_neg hs] at this
        exact this
      rw [List.append_eq_nil_iff] at h3
      obtain ⟨p, hp, _, hl, hk, hw⟩ := fit_rule h1.1
      have hk' : fitF R k (kidsL R[p].right) = true := hk
      have hw' : wdR R[p].right (wdF R k) = [] := by rw [← h3.1]; exact hw.symm
      have ih := nul_row k R[p].right hk' hw'
      intro x hx
      rcases List.mem_cons.1 hx with rfl | hx
      · rw [← hl]; exact .mk R[p] (List.getElem_mem hp) fun s hs _ => ih s hs
      · exact nul_row rest ss h1.2 h3.2 x hx
theorem nul_tree {R : List Ru} {t : Tr} {v : Int} (h : fitT R t v = true) (hw : wdT R t = []) : Nul R v := by
  obtain ⟨p, hp, _, hl, hk, hw'⟩ := fit_rule h
  have ih := nul_row t.kids R[p].right hk (by rw [← hw']; exact hw)
  rw [← hl]; exact .mk R[p] (List.getElem_mem hp) fun s hs _ => ih s hs
/-- A tree of a row, and what stands beside it. -/
theorem row_kid {R : List Ru} : ∀ (l : List Int) (f : Tf) (q : Nat), fitF R f (kidsL l) = true → q < f.len → ∃ k, ∃ hk : k < l.length, 0 ≤ l[k] ∧ fitT R (f.at_ q) l[k] = true ∧ (wdT R (f.at_ q)).length ≤ (wdR l (wdF R f)).length ∧
      ((wdT R (f.at_ q)).length = (wdR l (wdF R f)).length → (∀ s ∈ l.take k, Nul R s) ∧ ∀ s ∈ l.drop (k + 1), Nul R s)
  | [], f, q, h1, h2 => by
    have := fitF_len _ _ _ h1
    rw [show kidsL [] = [] from rfl] at this
    simp at this; omega
  | s :: ss, f, q, h1, h2 => by
    by_cases hs : s < 0
    · rw [kidsL_ng (by omega)] at h1
      obtain ⟨k, hk, g0, g1, g2, g3⟩ := row_kid ss f q h1 h2
      have hw : wdR (s :: ss) (wdF R f) = (-1 - s) :: wdR ss (wdF R f) := by rw [wdR, if_pos hs]
      refine ⟨k + 1, by simpa using hk, by simpa using g0, by simpa using g1, by rw [hw, List.length_cons]; omega, fun e => ?_⟩
      rw [hw, List.length_cons] at e; omega
    · rw [kidsL_pos (by omega)] at h1
      cases f with
      | nil => simp [Tf.len] at h2
      | cons r k rest =>
        rw [fitF_cons, Bool.and_eq_true] at h1
        have hw : wdR (s :: ss) (wdF R (.cons r k rest)) = wdT R ⟨r, k⟩ ++ wdR ss (wdF R rest) := by
          show wdR (s :: ss) (wdT R ⟨r, k⟩ :: wdF R rest) = _
          rw [wdR, if_neg hs]; rfl
        rw [hw, List.length_append]
        cases q with
        | zero =>
          refine ⟨0, by simp, by simp; omega, h1.1, by show (wdT R ⟨r, k⟩).length ≤ _; omega, fun e => ⟨by simp, ?_⟩⟩
          have e' : (wdT R ⟨r, k⟩).length = (wdT R ⟨r, k⟩).length + (wdR ss (wdF R rest)).length := e
          have h0 : wdR ss (wdF R rest) = [] := List.eq_nil_of_length_eq_zero (by omega)
          simpa using nul_row rest ss h1.2 h0
        | succ q =>
          obtain ⟨k', hk, g0, g1, g2, g3⟩ := row_kid ss rest q h1.2 (by simpa [Tf.len] using h2)
          refine ⟨k' + 1, by simpa using hk, by simpa using g0, by simp only [List.getElem_cons_succ]; exact g1, by show (wdT R (rest.at_ q)).length ≤ _; omega, fun e => ?_⟩
          have e' : (wdT R (rest.at_ q)).length = (wdT R ⟨r, k⟩).length + (wdR ss (wdF R rest)).length := e
          obtain ⟨g4, g5⟩ := g3 (by omega)
          have h0 : wdT R ⟨r, k⟩ = [] := List.eq_nil_of_length_eq_zero (by omega)
          refine ⟨fun x hx => ?_, by simpa using g5⟩
          rw [List.take_succ_cons, List.mem_cons] at hx
          rcases hx with rfl | hx
          · exact nul_tree h1.1 h0
          · exact g4 x hx
/-- Nothing leads to itself alone. -/
def Acy (R : List Ru) (V : Nat) : Prop := ∀ v : Nat, v < V → ¬ Led false (Nul R) R (v : Int) (v : Int)
open Classical in
/-- How many it leads to alone. -/
noncomputable def rkN (R : List Ru) (V : Nat) (v : Int) : Nat := sm V fun u => if Led false (Nul R) R v (u : Int) then 1 else 0
open Classical in
theorem rkN_le (R : List Ru) (V : Nat) (v : Int) : rkN R V v ≤ V := by
  unfold rkN
  have := sm_le (n := V) (F := fun u => if Led false (Nul R) R v (u : Int) then 1 else 0) (G := fun _ => 1) fun u _ => by split <;> omega
  have h1 : ∀ n, sm n (fun _ => 1) = n := fun n => by induction n with
    | zero => rfl
    | succ n ih => simp only [sm, ih]
  rw [h1] at this
  exact this
theorem sm_lt' {F G : Nat → Nat} : ∀ {n : Nat}, (∀ k, k < n → F k ≤ G k) → (∃ k, k < n ∧ F k < G k) → sm n F < sm n G
  | 0, _, ⟨_, h, _⟩ => absurd h (Nat.not_lt_zero _)
  | n + 1, h, ⟨k, hk, hl⟩ => by
    have h1 := sm_le (n := n) fun k hk => h k (by omega)
    have h2 := h n (by omega)
    simp only [sm]
    by_cases e : k = n
    · subst e; omega
    · have := sm_lt' (n := n) (fun k hk => h k (by omega)) ⟨k, by omega, hl⟩
      omega
open Classical in
theorem rkN_lt {R : List Ru} {V : Nat} (hA : Acy R V) {v : Int} {u : Nat} (hu : u < V) (h : Lds false (Nul R) R v (u : Int)) : rkN R V (u : Int) < rkN R V v := by
  unfold rkN
  refine sm_lt' (fun x _ => ?_) ⟨u, hu, ?_⟩
  · split
    · rename_i hx
      rw [if_pos (Led.trans (.one h) hx)]; omega
    · omega
  · rw [if_neg (hA u hu), if_pos (.one h)]; omega
theorem hg_le {B : Nat} : ∀ {f : Tf}, (∀ q, q < f.len → (f.at_ q).hg ≤ B) → f.hg ≤ B
  | .nil, _ => Nat.zero_le _
  | .cons r k rest, h => by
    have h0 := h 0 (by simp [Tf.len])
    have h1 := hg_le (f := rest) (B := B) fun q hq => h (q + 1) (by simpa [Tf.len] using hq)
    have h0' : 1 + k.hg ≤ B := h0
    simp only [Tf.hg]; omega
/-- No higher than so. -/
theorem high_row {R : List Ru} {V : Nat} (hA : Acy R V) (hR : ∀ r ∈ R, ∀ s ∈ r.right, s < V) : ∀ (f : Tf) (q : Nat) (v : Int), q < f.len → fitT R (f.at_ q) v = true → (f.at_ q).hg ≤ (wdT R (f.at_ q)).length * (V + 1) + rkN R V v + 1
  | .nil, _, _, h, _ => absurd h (Nat.not_lt_zero _)
  | .cons r k rest, q + 1, v, h, hf => high_row hA hR rest q v (by simpa [Tf.len] using h) hf
  | .cons r k rest, 0, v, _, hf => by
    show 1 + k.hg ≤ (wdT R ⟨r, k⟩).length * (V + 1) + rkN R V v + 1
    have hf' : fitT R ⟨r, k⟩ v = true := hf
    obtain ⟨p, hp, _, hl, hk, hw⟩ := fit_rule hf'
    have hk' : fitF R k (kidsL R[p].right) = true := hk
    have hw' : wdT R ⟨r, k⟩ = wdR R[p].right (wdF R k) := hw
    have hB : k.hg ≤ (wdT R ⟨r, k⟩).length * (V + 1) + rkN R V v := hg_le fun q hq => by
      obtain ⟨i, hi, g0, g1, g2, g3⟩ := row_kid R[p].right k q hk' hq
      have ih := high_row hA hR k q R[p].right[i] hq g1
      have hu := hR _ (List.getElem_mem hp) _ (List.getElem_mem hi)
      obtain ⟨u, hue⟩ : ∃ u : Nat, R[p].right[i] = u := ⟨R[p].right[i].toNat, by omega⟩
      rw [← hw'] at g2 g3
      have hrl := rkN_le R V R[p].right[i]
      by_cases e : (wdT R (k.at_ q)).length = (wdT R ⟨r, k⟩).length
      · obtain ⟨g4, g5⟩ := g3 e
        have hlt := rkN_lt (v := v) hA (u := u) (by omega) ⟨by omega, R[p], List.getElem_mem hp, hl, i, hi, hue, g4, .inr g5⟩
        rw [← hue] at hlt
        rw [e] at ih; omega
      · have hlt : (wdT R (k.at_ q)).length + 1 ≤ (wdT R ⟨r, k⟩).length := by omega
        have h1 : ((wdT R (k.at_ q)).length + 1) * (V + 1) ≤ (wdT R ⟨r, k⟩).length * (V + 1) := Nat.mul_le_mul_right _ hlt
        rw [Nat.add_mul, Nat.one_mul] at h1
        omega
    omega
theorem high {R : List Ru} {V : Nat} (hA : Acy R V) (hR : ∀ r ∈ R, ∀ s ∈ r.right, s < V) {t : Tr} {v : Int} (h : fitT R t v = true) : t.hg ≤ (wdT R t).length * (V + 1) + V + 1 := by
  have h1 := high_row hA hR (.cons t.rule t.kids .nil) 0 v (by simp [Tf.len]) h
  have h2 := rkN_le R V v
  have h3 : t.hg ≤ (wdT R t).length * (V + 1) + rkN R V v + 1 := h1
  omega
/-- The levels of trees of a word. -/
def lvls (W : List Int) (V : Nat) : Nat := W.length * (V + 1) + V + 1
theorem high_is {R : List Ru} {W : List Int} {V : Nat} (hA : Acy R V) (hR : ∀ r ∈ R, ∀ s ∈ r.right, s < V) {h : Nat} {v : Int} {i j : Nat} {t : Tr} (ht : IsT R W h v i j t) : t.hg ≤ lvls W V := by
  have h1 := high hA hR ht.1
  have h2 : (wdT R t).length ≤ W.length := by rw [ht.2.1]; unfold seg; rw [List.length_take, List.length_drop]; omega
  have h3 : (wdT R t).length * (V + 1) ≤ W.length * (V + 1) := Nat.mul_le_mul_right _ h2
  unfold lvls; omega
/-- All trees of v with the word from i to j: of a right grammar in which nothing leads to itself alone. -/
def Trs (R : List Ru) (W : List Int) (V : Nat) (v : Int) (i j : Nat) : List Tr := LT R W (lvls W V) v i j
theorem Trs_mem {R : List Ru} {W : List Int} {V : Nat} (hA : Acy R V) (hR : ∀ r ∈ R, ∀ s ∈ r.right, s < V) {v : Int} {i j : Nat} (hj : j ≤ W.length) {t : Tr} : t ∈ Trs R W V v i j ↔ fitT R t v = true ∧ wdT R t = seg W i j ∧ i ≤ j := by
  unfold Trs
  rw [LT_mem _ _ _ _ _ _ _ hj]
  exact ⟨fun h => ⟨h.1, h.2.1, h.2.2.1⟩, fun h => ⟨h.1, h.2.1, h.2.2, high_is (h := t.hg) hA hR ⟨h.1, h.2.1, h.2.2, Nat.le_refl _⟩⟩⟩
theorem LT_Trs {R : List Ru} {W : List Int} {V : Nat} (hA : Acy R V) (hR : ∀ r ∈ R, ∀ s ∈ r.right, s < V) {h : Nat} (hh : lvls W V ≤ h) (v : Int) (i j : Nat) (hj : j ≤ W.length) : LT R W h v i j = Trs R W V v i j := LT_stop hj (fun _ _ ht => high_is hA hR ht) hh
end Go.Proofs.Ytlhdppkllmnmkad.G

/- Counts that never go above a number: sums, products, and the ways of symbols, as the document reckons them. -/
namespace Go.Proofs.Ytlhdppkllmnmkad.G
open Go.RowKit

def smI (a b m : Int) : Int := if m ≤ a ∨ m - a ≤ b then m else a + b
def prI (a b m : Int) : Int := if a = 0 ∨ b = 0 then 0 else if m ≤ a ∨ m ≤ b ∨ (m - 1) / b < a then m else a * b
theorem smI_rng {a b m : Int} (ha : 0 ≤ a) (hb : 0 ≤ b) (hm : 1 ≤ m) : 0 ≤ smI a b m ∧ smI a b m ≤ m := by unfold smI; split <;> omega
theorem prI_le {a b m : Int} (hb : 0 < b) (h : ¬ (m - 1) / b < a) : a * b ≤ m - 1 := by
  have h1 : a ≤ (m - 1) / b := by omega
  have h2 := Int.mul_le_mul_of_nonneg_right h1 (Int.le_of_lt hb)
  have h3 := Int.ediv_mul_le (m - 1) (b := b) (by omega)
  omega
theorem prI_rng {a b m : Int} (ha : 0 ≤ a) (hb : 0 ≤ b) (hm : 1 ≤ m) : 0 ≤ prI a b m ∧ prI a b m ≤ m := by
  unfold prI
  split
  · omega
  split
  · omega
  · rename_i h1 h2
    have hb' : 0 < b := by omega
    have := prI_le hb' (a := a) (m := m) (by omega)
    have := Int.mul_nonneg ha hb
    omega
set_option maxRecDepth 100000 in
set_option maxHeartbeats 2000000 in
theorem sum_any (a b m : Int) (w : World) (ha : 0 ≤ a) (hb : 0 ≤ b) (hm : 1 ≤ m) (h62 : m ≤ 4611686018427387904) (_ham : a ≤ m) (_hbm : b ≤ m) :
    Calls Try.prog 92 #[.int .i64 a, .int .i64 b, .int .i64 m] w fun e w' => e = .returned (.int .i64 (smI a b m)) ∧ w' = w := by
  unfold smI
  by_cases h1 : m ≤ a
  · rw [if_pos (.inl h1)]
    go_enter Try.func92, Try.ntmps92
    go_wp2_with fail
    go_ret
    exact ⟨rfl, rfl⟩
  by_cases h2 : m - a ≤ b
  · rw [if_pos (.inr h2)]
    go_enter Try.func92, Try.ntmps92
    go_wp2_with fail
    go_ret
    exact ⟨rfl, rfl⟩
  · rw [if_neg (by omega)]
    go_enter Try.func92, Try.ntmps92
    go_wp2_with fail
    go_ret
    exact ⟨ret_int (by omega), rfl⟩
set_option maxRecDepth 100000 in
set_option maxHeartbeats 4000000 in
theorem product_any (a b m : Int) (w : World) (ha : 0 ≤ a) (hb : 0 ≤ b) (hm : 1 ≤ m) (h62 : m ≤ 4611686018427387904) (ham : a ≤ m) (hbm : b ≤ m) :
    Calls Try.prog 103 #[.int .i64 a, .int .i64 b, .int .i64 m] w fun e w' => e = .returned (.int .i64 (prI a b m)) ∧ w' = w := by
  unfold prI
  by_cases h1 : a = 0
  · rw [if_pos (.inl h1)]
    subst h1
    go_enter Try.func103, Try.ntmps103
    go_wp2_with fail
    go_ret
    exact ⟨rfl, rfl⟩
  have h1b : (a == 0) = false := by simpa using h1
  by_cases h2 : b = 0
  · rw [if_pos (.inr h2)]
    subst h2
    go_enter Try.func103, Try.ntmps103
    go_wp2_with fail
    go_ret
    exact ⟨rfl, rfl⟩
  have h2b : (b == 0) = false := by simpa using h2
  rw [if_neg (by omega)]
  by_cases h3 : m ≤ a
  · rw [if_pos (.inl h3)]
    go_enter Try.func103, Try.ntmps103
    go_wp2_with fail
    go_ret
    exact ⟨rfl, rfl⟩
  by_cases h4 : m ≤ b
  · rw [if_pos (.inr (.inl h4))]
    go_enter Try.func103, Try.ntmps103
    go_wp2_with fail
    go_ret
    exact ⟨rfl, rfl⟩
  have hq : Int.tdiv (m - 1) b = (m - 1) / b := Int.tdiv_eq_ediv_of_nonneg (by omega)
  have hq0 : 0 ≤ (m - 1) / b := Int.ediv_nonneg (by omega) hb
  have hq1 : (m - 1) / b ≤ m - 1 := Int.ediv_le_self _ (by omega)
  by_cases h5 : (m - 1) / b < a
  · rw [if_pos (.inr (.inr h5))]
    generalize (m - 1) / b = q at *
    go_enter Try.func103, Try.ntmps103
    go_wp2_with fail
    go_ret
    exact ⟨rfl, rfl⟩
  · rw [if_neg (by omega)]
    have hmul := prI_le (a := a) (m := m) (b := b) (by omega) h5
    have hmul0 := Int.mul_nonneg ha hb
    generalize (m - 1) / b = q at *
    generalize hab : a * b = ab at *
    go_enter Try.func103, Try.ntmps103
    go_wp2_with fail
    go_ret
    exact ⟨ret_int (by first | rfl | omega), rfl⟩
end Go.Proofs.Ytlhdppkllmnmkad.G
