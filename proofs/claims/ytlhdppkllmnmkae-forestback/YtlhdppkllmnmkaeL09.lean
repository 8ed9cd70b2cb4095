/- The trees of a word by their numbers: which tree has which. -/
import Derived.Test.YtlhdppkllmnmkaeL08
namespace Go.Proofs.Ytlhdppkllmnmkae.G
open Go.RowKit
theorem sm_mono {F : Nat → Nat} {m : Nat} : ∀ {L : Nat}, m ≤ L → sm m F ≤ sm L F
  | 0, h => by rw [show m = 0 by omega]; exact Nat.le_refl _
  | L + 1, h => by
    by_cases e : m = L + 1
    · rw [e]; exact Nat.le_refl _
    · exact Nat.le_trans (sm_mono (L := L) (by omega)) (Nat.le_add_right _ _)
theorem sm_in {F : Nat → Nat} {m L : Nat} (h : m < L) : sm m F + F m ≤ sm L F := sm_mono (F := F) (m := m + 1) h
theorem flat_at {α : Type} (G : Nat → List α) {m n : Nat} (hn : n < (G m).length) : ∀ {L : Nat}, m < L → ((List.range L).flatMap G)[sm m (fun k => (G k).length) + n]? = (G m)[n]?
  | 0, hm => absurd hm (Nat.not_lt_zero _)
  | L + 1, hm => by
    rw [List.range_succ, List.flatMap_append]
    by_cases e : m = L
    · subst e
      rw [List.getElem?_append_right (by rw [flat_len]; omega), flat_len, Nat.add_sub_cancel_left]
      simp
    · have h1 := sm_in (F := fun k => (G k).length) (m := m) (L := L) (by omega)
      rw [List.getElem?_append_left (by rw [flat_len]; omega)]
      exact flat_at G hn (by omega)
theorem mul_at {α β γ : Type} (m : List β) (g : α → β → γ) {c : Nat} (hc : c < m.length) : ∀ (l : List α) (a : Nat), (l.flatMap fun t => m.map (g t))[a * m.length + c]? = l[a]?.map (fun t => g t m[c])
  | [], a => by simp
  | x :: l, 0 => by
    rw [List.flatMap_cons, Nat.zero_mul, Nat.zero_add, List.getElem?_append_left (by simpa using hc), List.getElem?_map, List.getElem?_eq_getElem hc]; rfl
  | x :: l, a + 1 => by
    have h1 : (a + 1) * m.length + c - m.length = a * m.length + c := by rw [Nat.add_mul, Nat.one_mul]; omega
    rw [List.flatMap_cons, List.getElem?_append_right (by rw [List.length_map, Nat.add_mul, Nat.one_mul]; omega), List.length_map, h1, mul_at m g hc l a]; rfl
theorem flat_nil {α : Type} (G : Nat → List α) : ∀ {L : Nat}, (∀ m, m < L → G m = []) → (List.range L).flatMap G = []
  | 0, _ => rfl
  | L + 1, h => by rw [List.range_succ, List.flatMap_append, flat_nil G (fun m hm => h m (by omega))]; simp [h L (by omega)]
theorem flat_one {α : Type} (G : Nat → List α) {p : Nat} : ∀ {L : Nat}, p < L → (∀ m, m < L → m ≠ p → G m = []) → (List.range L).flatMap G = G p
  | 0, h, _ => absurd h (Nat.not_lt_zero _)
  | L + 1, hp, h => by
    rw [List.range_succ, List.flatMap_append]
    by_cases e : p = L
    · subst e; rw [flat_nil G (fun m hm => h m (by omega) (by omega))]; simp
    · rw [flat_one G (by omega) (fun m hm hn => h m (by omega) hn)]; simp [h L (by omega) (Ne.symm e)]
section
variable {R : List Ru} {W : List Int} {V : Nat}
/-- The rows of trees of symbols, all of them. -/
def rwT (R : List Ru) (W : List Int) (V : Nat) (l : List Int) (i j : Nat) : List Tf := rowsT (Trs R W V) W l i j
theorem rwT_len (l : List Int) (i j : Nat) : (rwT R W V l i j).length = chN (nN R W V) W l i j := rowsT_len (fun v a b => nN_len v a b) l i j
theorem rwT_nil {i j n : Nat} (h : n < chN (nN R W V) W [] i j) : i = j ∧ n = 0 := by
  simp only [chN] at h
  split at h
  · exact ⟨by assumption, by omega⟩
  · omega
theorem rwT_nil_at (j : Nat) : rwT R W V [] j j = [.nil] := by unfold rwT; simp [rowsT]
/-- A terminal ahead. -/
theorem rwT_neg {s : Int} {ss : List Int} {i j : Nat} (hs : s < 0) (hj : j ≤ W.length) : rwT R W V (s :: ss) i j = if i + 1 ≤ j ∧ W[i]? = some (-1 - s) then rwT R W V ss (i + 1) j else [] := by
  unfold rwT
  simp only [rowsT]
  by_cases h : i + 1 ≤ j ∧ W[i]? = some (-1 - s)
  · rw [if_pos h, flat_one _ (p := i + 1) (by omega) (fun m hm hn => by
      split
      · rw [if_neg (by omega), if_neg (fun h' => hn h'.1)]
      · rfl), if_pos (by omega), if_neg (by omega), if_pos ⟨rfl, h.2⟩]
  · rw [if_neg h]
    refine flat_nil _ fun m hm => ?_
    split
    · rename_i h'
      rw [if_neg (by omega), if_neg (fun h3 => h ⟨by omega, h3.2⟩)]
    · rfl
/-- A nonterminal ahead. -/
theorem rwT_pos {s : Int} {ss : List Int} {i m j x c : Nat} {t : Tr} {f : Tf} (hs : 0 ≤ s) (him : i ≤ m) (hmj : m ≤ j) (hj : j ≤ W.length) (ht : (Trs R W V s i m)[x]? = some t) (hf : (rwT R W V ss m j)[c]? = some f) :
    (rwT R W V (s :: ss) i j)[spS (fun q => vlN (nN R W V) W s i q * chN (nN R W V) W ss q j) i (m - i) + (x * chN (nN R W V) W ss m j + c)]? = some (.cons t.rule t.kids f) := by
  obtain ⟨hx, hx'⟩ := List.getElem?_eq_some_iff.1 ht
  obtain ⟨hc, hc'⟩ := List.getElem?_eq_some_iff.1 hf
  have hvl : ∀ q, vlN (nN R W V) W s i q = (Trs R W V s i q).length := fun q => by
    unfold vlN; rw [if_pos hs, nN_len, Int.toNat_of_nonneg hs]
  unfold rwT
  simp only [rowsT]
  obtain ⟨G, hG⟩ : ∃ G : Nat → List Tf, G = fun m => if i ≤ m ∧ m ≤ j then
      (if 0 ≤ s then (Trs R W V s i m).flatMap fun t => (rowsT (Trs R W V) W ss m j).map fun f => Tf.cons t.rule t.kids f else if m = i + 1 ∧ W[i]? = some (-1 - s) then rowsT (Trs R W V) W ss m j else []) else [] := ⟨_, rfl⟩
  rw [← hG]
  have hb : (rowsT (Trs R W V) W ss m j).length = chN (nN R W V) W ss m j := rwT_len ss m j
  have hlen : ∀ q, i ≤ q → q ≤ j → (G q).length = vlN (nN R W V) W s i q * chN (nN R W V) W ss q j := fun q h1 h2 => by
    rw [hG]; dsimp only
    rw [if_pos ⟨h1, h2⟩, if_pos hs, flat_mul, hvl]
    congr 1
    exact rwT_len ss q j
  have hsum : spS (fun q => vlN (nN R W V) W s i q * chN (nN R W V) W ss q j) i (m - i) = sm m (fun k => (G k).length) := by
    rw [← sm_spS _ i j (n := m - i) m (by omega)]
    refine sm_congr fun q hq => ?_
    by_cases h1 : i ≤ q
    · rw [if_pos (by omega), hlen q h1 (by omega)]
    · rw [if_neg (by omega), hG]; dsimp only; rw [if_neg (by omega)]; rfl
  have hGm : G m = (Trs R W V s i m).flatMap fun t => (rowsT (Trs R W V) W ss m j).map fun f => Tf.cons t.rule t.kids f := by
    rw [hG]; dsimp only; rw [if_pos ⟨him, hmj⟩, if_pos hs]
  have hin : x * chN (nN R W V) W ss m j + c < (G m).length := by
    rw [hlen m him hmj, hvl]
    have h1 : (x + 1) * chN (nN R W V) W ss m j ≤ (Trs R W V s i m).length * chN (nN R W V) W ss m j := Nat.mul_le_mul_right _ hx
    rw [Nat.add_mul, Nat.one_mul] at h1
    have h2 : c < chN (nN R W V) W ss m j := by rw [← hb]; exact hc
    omega
  have hc0 : c < (rowsT (Trs R W V) W ss m j).length := hc
  rw [hsum, flat_at G hin (by omega), hGm, ← hb, mul_at (rowsT (Trs R W V) W ss m j) _ hc0, ht]
  simp only [Option.map_some]
  rw [show (rowsT (Trs R W V) W ss m j)[c] = f from hc']
/-- How many trees of v have the rule of a number. -/
def rlN (R : List Ru) (W : List Int) (V : Nat) (v : Int) (i j q : Nat) : Nat := if (R.getD q ⟨0, []⟩).left = v then chN (nN R W V) W (R.getD q ⟨0, []⟩).right i j else 0
theorem sm_first (F : Nat → Nat) : ∀ n : Nat, sm (n + 1) F = F 0 + sm n (fun q => F (q + 1))
  | 0 => by simp [sm]
  | n + 1 => by rw [sm, sm_first F n]; simp only [sm]; omega
theorem lvT_at {v : Int} {i j p n : Nat} {f : Tf} : ∀ (rs : List Ru) (k : Nat), p < rs.length → (rs.getD p ⟨0, []⟩).left = v → (rwT R W V (rs.getD p ⟨0, []⟩).right i j)[n]? = some f →
    (lvT (Trs R W V) W v i j rs k)[sm p (fun q => if (rs.getD q ⟨0, []⟩).left = v then chN (nN R W V) W (rs.getD q ⟨0, []⟩).right i j else 0) + n]? = some ⟨((k + p : Nat) : Int), f⟩
  | [], _, h, _, _ => absurd h (Nat.not_lt_zero _)
  | r :: rs, k, hp, hl, hf => by
    simp only [lvT]
    have h0 : ∀ q, ((r :: rs).getD (q + 1) ⟨0, []⟩) = rs.getD q ⟨0, []⟩ := fun q => by simp
    have hh : (r :: rs).getD 0 ⟨0, []⟩ = r := rfl
    have hA : ((if r.left = v then (rowsT (Trs R W V) W r.right i j).map fun f => (⟨(k : Int), f⟩ : Tr) else [])).length = if r.left = v then chN (nN R W V) W r.right i j else 0 := by
      split
      · rw [List.length_map]; exact rwT_len r.right i j
      · rfl
    cases p with
    | zero =>
      rw [hh] at hl hf
      obtain ⟨hn, _⟩ := List.getElem?_eq_some_iff.1 hf
      rw [rwT_len] at hn
      have hf' : (rowsT (Trs R W V) W r.right i j)[n]? = some f := hf
      simp only [sm, Nat.zero_add]
      rw [List.getElem?_append_left (by rw [hA, if_pos hl]; exact hn), if_pos hl, List.getElem?_map, hf']
      simp
    | succ p =>
      rw [h0] at hl hf
      have ih := lvT_at (v := v) (i := i) (j := j) (p := p) (n := n) rs (k + 1) (by simpa using hp) hl hf
      rw [sm_first]
      simp only [h0, hh]
      rw [List.getElem?_append_right (by rw [hA]; omega), hA, show ∀ a b c : Nat, a + b + c - a = b + c from fun a b c => by omega, ih]
      congr 3
      omega
/-- A tree by its number: by its rule, and by the number of the row below it. -/
theorem Trs_at (hA : Acy R V) (hR : ∀ r ∈ R, ∀ s ∈ r.right, s < V) {v : Int} {i j p n : Nat} {f : Tf} (hj : j ≤ W.length) (hp : p < R.length) (hl : (R.getD p ⟨0, []⟩).left = v) (hf : (rwT R W V (R.getD p ⟨0, []⟩).right i j)[n]? = some f) :
    (Trs R W V v i j)[sm p (rlN R W V v i j) + n]? = some ⟨(p : Int), f⟩ := by
  rw [Trs_eq hA hR v i j hj]
  have := lvT_at (v := v) (i := i) (j := j) R 0 hp hl hf
  rw [Nat.zero_add] at this
  exact this
theorem rlN_sum (hA : Acy R V) (hR : ∀ r ∈ R, ∀ s ∈ r.right, s < V) (v i j : Nat) (hj : j ≤ W.length) : nN R W V v i j = sm R.length (rlN R W V (v : Int) i j) := by
  rw [nN_fix hA hR v i j hj]
  have key : ∀ rs : List Ru, stN (nN R W V) W (v : Int) i j rs = sm rs.length (fun q => if (rs.getD q ⟨0, []⟩).left = (v : Int) then chN (nN R W V) W (rs.getD q ⟨0, []⟩).right i j else 0) := fun rs => by
    induction rs with
    | nil => rfl
    | cons r rs ih => rw [stN, ih, List.length_cons, sm_first]; simp
  exact key R
/-- Where a number stands: whose it is, and which one of that one's own. -/
theorem spS_find {F : Nat → Nat} : ∀ {c x n : Nat}, n < spS F x c → ∃ m left, x ≤ m ∧ m < x + c ∧ n = spS F x (m - x) + left ∧ left < F m
  | 0, _, _, h => by simp [spS] at h
  | c + 1, x, n, h => by
    simp only [spS] at h
    by_cases e : n < spS F x c
    · obtain ⟨m, left, h1, h2, h3, h4⟩ := spS_find e
      exact ⟨m, left, h1, by omega, h3, h4⟩
    · exact ⟨x + c, n - spS F x c, by omega, by omega, by rw [show x + c - x = c by omega]; omega, by omega⟩
theorem spS_zero (F : Nat → Nat) : ∀ n : Nat, spS F 0 n = sm n F
  | 0 => rfl
  | n + 1 => by simp only [spS, sm, Nat.zero_add]; rw [spS_zero F n]
theorem spS_first (F : Nat → Nat) (x : Nat) : ∀ c : Nat, spS F x (c + 1) = F x + spS F (x + 1) c
  | 0 => by simp [spS]
  | c + 1 => by rw [spS, spS_first F x c]; simp only [spS]; rw [show x + 1 + c = x + (c + 1) by omega]; omega
end
end Go.Proofs.Ytlhdppkllmnmkae.G
