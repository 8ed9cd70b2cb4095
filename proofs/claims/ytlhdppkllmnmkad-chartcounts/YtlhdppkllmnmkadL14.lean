/- Texts laid together: Fd Zhm Zm. -/
import Derived.Test.YtlhdppkllmnmkadL06
import Derived.Test.YtlhdppkllmnmkadL02
import Derived.Test.YtlhdppkllmnmkadL07
import Derived.Test.YtlhdppkllmnmkadL03
import Derived.Test.YtlhdppkllmnmkadL09
import Derived.Test.YtlhdppkllmnmkadL13
/- What is so of nonterminals, in the document's way, in mathematics: rounds over a row of yes and no; a list of what is still to be done. -/
namespace Go.Proofs.Ytlhdppkllmnmkad.G

/-! Rows of yes and no. -/
def isAt (is : List Bool) (v : Int) : Bool := decide (0 ≤ v) && is.getD v.toNat false
theorem isAt_set {is : List Bool} {k : Nat} {v : Int} (hk : k < is.length) : isAt (is.set k true) v = true ↔ isAt is v = true ∨ v = k := by
  unfold isAt
  rw [getD_set]
  by_cases h : k = v.toNat
  · by_cases h0 : 0 ≤ v
    · have hv : v = k := by omega
      simp [hv, hk]
    · have hv : ¬ v = k := by omega
      simp [h0, hv]
  · have hv : ¬ v = k := by omega
    simp [h, hv]
theorem isAt_new (n : Nat) (v : Int) : isAt (List.replicate n false) v = false := by
  unfold isAt
  rw [List.getD_eq_getElem?_getD, List.getElem?_replicate]
  split <;> simp
def cnt : List Bool → Nat
  | [] => 0
  | b :: l => b.toNat + cnt l
theorem cnt_le : ∀ l : List Bool, cnt l ≤ l.length
  | [] => Nat.le_refl _
  | b :: l => by have := cnt_le l; have := Bool.toNat_le b; simp only [cnt, List.length_cons]; omega
theorem cnt_all : ∀ l : List Bool, cnt l = l.length → ∀ i, i < l.length → l.getD i false = true
  | [], _, i, h => by simp at h
  | b :: l, h, i, hi => by
    have h1 := cnt_le l
    have h2 := Bool.toNat_le b
    simp only [cnt, List.length_cons] at h
    cases i with
    | zero => cases b with
      | true => rfl
      | false => simp at h; omega
    | succ i => simpa using cnt_all l (by omega) i (by simpa using hi)
theorem cnt_mono : ∀ l m : List Bool, l.length = m.length → (∀ i, l.getD i false = true → m.getD i false = true) → cnt l ≤ cnt m ∧ (cnt l = cnt m → l = m)
  | [], [], _, _ => ⟨Nat.le_refl _, fun _ => rfl⟩
  | [], _ :: _, h, _ => by simp at h
  | _ :: _, [], h, _ => by simp at h
  | a :: l, b :: m, h, hi => by
    obtain ⟨h1, h2⟩ := cnt_mono l m (by simpa using h) fun i => by simpa using hi (i + 1)
    have h3 := hi 0
    simp only [List.getD_cons_zero] at h3
    simp only [cnt]
    cases a <;> cases b <;> simp at h3 ⊢
    · exact ⟨h1, h2⟩
    · omega
    · exact ⟨h1, h2⟩
theorem cnt_set {l : List Bool} {k : Nat} (hk : k < l.length) (h : l.getD k false = false) : cnt (l.set k true) = cnt l + 1 := by
  induction l generalizing k with
  | nil => simp at hk
  | cons b l ih =>
    cases k with
    | zero => simp at h; subst h; simp [cnt]; omega
    | succ k =>
      have := ih (k := k) (by simpa using hk) (by simpa using h)
      simp only [List.set_cons_succ, cnt, this]; omega

/-! Rounds. -/
def fitL (t : Bool) (is : List Bool) (x : Int) : Bool := (t && decide (x < 0)) || isAt is x
def genR (t : Bool) (R : List Ru) (is : List Bool) : List Bool := R.foldl (fun is r => if r.right.all (fitL t is) then is.set r.left.toNat true else is) is
theorem genR_len (t : Bool) : ∀ (R : List Ru) (is : List Bool), (genR t R is).length = is.length
  | [], _ => rfl
  | r :: R, is => by
    unfold genR
    rw [List.foldl_cons]
    refine (genR_len t R _).trans ?_
    split <;> simp
theorem genR_base (t : Bool) : ∀ (R : List Ru) (is : List Bool) (i : Nat), is.getD i false = true → (genR t R is).getD i false = true
  | [], _, _, h => h
  | r :: R, is, i, h => by
    unfold genR
    rw [List.foldl_cons]
    refine genR_base t R _ i ?_
    split
    · rw [getD_set]; split
      · rfl
      · exact h
    · exact h
/-- Lefts that lie in the row. -/
def Lin (n : Nat) (R : List Ru) : Prop := ∀ r ∈ R, 0 ≤ r.left ∧ r.left < n
theorem genR_snd {t : Bool} {R0 : List Ru} : ∀ (R : List Ru) (is : List Bool), (∀ r ∈ R, r ∈ R0) → Lin is.length R → (∀ v, isAt is v = true → Gen t R0 v) → ∀ v, isAt (genR t R is) v = true → Gen t R0 v
  | [], _, _, _, hs => hs
  | r :: R, is, hR, hL, hs => by
    have hl := hL r (List.mem_cons_self ..)
    unfold genR
    rw [List.foldl_cons]
    refine genR_snd R _ (fun x hx => hR x (List.mem_cons_of_mem _ hx)) (fun x hx => ?_) ?_
    · have := hL x (List.mem_cons_of_mem _ hx)
      split <;> simpa using this
    · intro v hv
      split at hv
      next h =>
        rcases (isAt_set (by omega)).1 hv with hv | hv
        · exact hs v hv
        · rw [show ((r.left.toNat : Nat) : Int) = r.left by omega] at hv
          subst hv
          refine .mk r (hR r (List.mem_cons_self ..)) fun x hx hn => ?_
          have := List.all_eq_true.1 h x hx
          simp only [fitL, Bool.or_eq_true, Bool.and_eq_true, decide_eq_true_eq] at this
          exact this.elim (fun h => absurd h hn) (hs x)
      next h => exact hs v hv
theorem genR_cpl (t : Bool) : ∀ (R : List Ru) (is : List Bool) (r : Ru), r ∈ R → Lin is.length R → r.right.all (fitL t is) = true → isAt (genR t R is) r.left = true
  | a :: R, is, r, hr, hL, hall => by
    have hl := hL a (List.mem_cons_self ..)
    unfold genR
    rw [List.foldl_cons]
    rcases List.mem_cons.1 hr with rfl | hr
    · rw [if_pos hall]
      have : isAt (is.set r.left.toNat true) r.left = true := (isAt_set (by omega)).2 (.inr (by omega))
      unfold isAt at this ⊢
      rw [Bool.and_eq_true] at this ⊢
      exact ⟨this.1, genR_base t R _ _ this.2⟩
    · refine genR_cpl t R _ r hr (fun x hx => ?_) ?_
      · have := hL x (List.mem_cons_of_mem _ hx)
        split <;> simpa using this
      rw [List.all_eq_true] at hall ⊢
      intro x hx
      have := hall x hx
      simp only [fitL, Bool.or_eq_true] at this ⊢
      refine this.imp id fun h => ?_
      split
      · exact (isAt_set (by omega)).2 (.inl h)
      · exact h
def genN (t : Bool) (R : List Ru) (V : Nat) : Nat → List Bool
  | 0 => List.replicate V false
  | n + 1 => genR t R (genN t R V n)
theorem genN_len (t : Bool) (R : List Ru) (V : Nat) : ∀ n, (genN t R V n).length = V
  | 0 => by simp [genN]
  | n + 1 => by rw [genN, genR_len]; exact genN_len t R V n
theorem genN_snd {t : Bool} {R : List Ru} {V : Nat} (hL : Lin V R) : ∀ n v, isAt (genN t R V n) v = true → Gen t R v
  | 0, v, h => by rw [genN, isAt_new] at h; cases h
  | n + 1, v, h => genR_snd R _ (fun _ h => h) (by rw [genN_len]; exact hL) (genN_snd hL n) v h
theorem genN_grow (t : Bool) (R : List Ru) (V : Nat) : ∀ n, genR t R (genN t R V n) = genN t R V n ∨ n ≤ cnt (genN t R V n)
  | 0 => .inr (Nat.zero_le _)
  | n + 1 => by
    rcases genN_grow t R V n with h | h
    · left
      rw [genN, h, h]
    · by_cases e : genR t R (genN t R V n) = genN t R V n
      · left
        rw [genN, e, e]
      · right
        have hm := cnt_mono (genN t R V n) (genR t R (genN t R V n)) (genR_len ..).symm (fun i => genR_base t R _ i)
        have : cnt (genN t R V n) ≠ cnt (genR t R (genN t R V n)) := fun h' => e (hm.2 h').symm
        rw [genN]; omega
/-- As many rounds as there are nonterminals are enough. -/
theorem genN_right {t : Bool} {R : List Ru} {V : Nat} (hL : Lin V R) (v : Int) : isAt (genN t R V V) v = true ↔ Gen t R v := by
  refine ⟨genN_snd hL V v, fun h => ?_⟩
  rcases genN_grow t R V V with hf | hc
  · induction h with
    | mk r hr _ ih =>
      rw [← hf]
      refine genR_cpl t R _ r hr (by rw [genN_len]; exact hL) ?_
      rw [List.all_eq_true]
      intro x hx
      simp only [fitL, Bool.or_eq_true, Bool.and_eq_true, decide_eq_true_eq]
      by_cases e : t = true ∧ x < 0
      · exact .inl e
      · exact .inr (ih x hx e)
  · have hlen := genN_len t R V V
    have h1 := cnt_le (genN t R V V)
    cases h with
    | mk r hr _ =>
      have hl := hL r hr
      unfold isAt
      rw [Bool.and_eq_true, decide_eq_true_eq]
      exact ⟨hl.1, cnt_all _ (by omega) _ (by omega)⟩
theorem all_fit (is : List Bool) (l : List Int) : l.all (isAt is) = l.all (fitL false is) := by
  congr 1

/-! What is still to be done. -/
/-- What comes of some, by steps. -/
inductive Cm (I : List Int) (nx : Int → List Int) : Int → Prop
  | ini {v : Int} (h : v ∈ I) : Cm I nx v
  | step {u v : Int} (h : Cm I nx u) (h' : v ∈ nx u) : Cm I nx v
/-- On the way: what is told and what is still to be done comes of them; and of what is told all that comes next is told or still to be done. -/
structure Way (I : List Int) (nx : Int → List Int) (V : Nat) (is : List Bool) (todo : List Int) : Prop where
  len : is.length = V
  snd : ∀ v, isAt is v = true → Cm I nx v
  sndT : ∀ v ∈ todo, Cm I nx v
  ini : ∀ v ∈ I, isAt is v = true ∨ v ∈ todo
  nxt : ∀ u, isAt is u = true → ∀ v ∈ nx u, isAt is v = true ∨ v ∈ todo
theorem Way.start (I : List Int) (nx : Int → List Int) (V : Nat) : Way I nx V (List.replicate V false) I :=
  ⟨by simp, (fun v h => by rw [isAt_new] at h; cases h), fun _ h => .ini h, fun _ h => .inr h, (fun u h => by rw [isAt_new] at h; cases h)⟩
theorem Way.again {I : List Int} {nx : Int → List Int} {V : Nat} {is : List Bool} {v : Int} {l : List Int} (h : Way I nx V is (v :: l)) (hv : isAt is v = true) : Way I nx V is l := by
  have sh : ∀ u, (isAt is u = true ∨ u ∈ v :: l) → isAt is u = true ∨ u ∈ l := by
    rintro u (h1 | h1)
    · exact .inl h1
    · rcases List.mem_cons.1 h1 with rfl | h1
      · exact .inl hv
      · exact .inr h1
  exact ⟨h.len, h.snd, fun u hu => h.sndT u (List.mem_cons_of_mem _ hu), fun u hu => sh u (h.ini u hu), fun u hu x hx => sh x (h.nxt u hu x hx)⟩
theorem Way.put {I : List Int} {nx : Int → List Int} {V k : Nat} {is : List Bool} {l : List Int} (h : Way I nx V is ((k : Int) :: l)) (hk : k < V) : Way I nx V (is.set k true) (l ++ nx k) := by
  have hl := h.len
  have hkl : k < is.length := by omega
  have hC : Cm I nx k := h.sndT _ (List.mem_cons_self ..)
  have sh : ∀ u, (isAt is u = true ∨ u ∈ (k : Int) :: l) → isAt (is.set k true) u = true ∨ u ∈ l ++ nx k := by
    rintro u (h1 | h1)
    · exact .inl ((isAt_set hkl).2 (.inl h1))
    · rcases List.mem_cons.1 h1 with rfl | h1
      · exact .inl ((isAt_set hkl).2 (.inr rfl))
      · exact .inr (List.mem_append_left _ h1)
  refine ⟨by simpa using hl, fun v hv => ?_, fun v hv => ?_, fun v hv => sh v (h.ini v hv), fun u hu v hv => ?_⟩
  · rcases (isAt_set hkl).1 hv with hv | rfl
    · exact h.snd v hv
    · exact hC
  · rcases List.mem_append.1 hv with hv | hv
    · exact h.sndT v (List.mem_cons_of_mem _ hv)
    · exact .step hC hv
  · rcases (isAt_set hkl).1 hu with hu | rfl
    · exact sh v (h.nxt u hu v hv)
    · exact .inr (List.mem_append_right _ hv)
theorem Way.done {I : List Int} {nx : Int → List Int} {V : Nat} {is : List Bool} (h : Way I nx V is []) (v : Int) : isAt is v = true ↔ Cm I nx v := by
  refine ⟨h.snd v, fun hv => ?_⟩
  induction hv with
  | ini h' => exact (h.ini _ h').resolve_right (by simp)
  | step _ h' ih => exact (h.nxt _ ih _ h').resolve_right (by simp)

/-! What stands in rules of one. -/
theorem mem_byL {v : Int} : ∀ {l : List Ru} {k : Nat} {x : Int}, x ∈ byL v l k ↔ ∃ i, ∃ h : i < l.length, x = ((k + i : Nat) : Int) ∧ l[i].left = v
  | [], k, x => by simp [byL]
  | r :: l, k, x => by
    have ih := mem_byL (v := v) (l := l) (k := k + 1) (x := x)
    have key : (∃ i, ∃ h : i < (r :: l).length, x = ((k + i : Nat) : Int) ∧ (r :: l)[i].left = v) ↔ (x = k ∧ r.left = v) ∨ ∃ i, ∃ h : i < l.length, x = ((k + 1 + i : Nat) : Int) ∧ l[i].left = v := by
      constructor
      · rintro ⟨i, hi, h1, h2⟩
        cases i with
        | zero => exact .inl ⟨by simpa using h1, by simpa using h2⟩
        | succ i => exact .inr ⟨i, by simpa using hi, by rw [h1]; congr 1; omega, by simpa using h2⟩
      · rintro (⟨h1, h2⟩ | ⟨i, hi, h1, h2⟩)
        · exact ⟨0, by simp, by simpa using h1, by simpa using h2⟩
        · exact ⟨i + 1, by simpa using hi, by rw [h1]; congr 1; omega, by simpa using h2⟩
    rw [key]
    unfold byL
    split
    next h => rw [List.mem_cons, ih]; simp [h]
    next h => rw [ih]; simp [h]
def ruAt (R : List Ru) (i : Int) : Ru := R.getD i.toNat default
theorem ruAt_nat (R : List Ru) {i : Nat} (h : i < R.length) : ruAt R i = R[i] := by simp [ruAt, List.getD_eq_getElem?_getD, h]
/-- What comes of a list of rules' numbers, by f of each right side. -/
def byF (f : List Int → List Int) (R : List Ru) (l : List Int) : List Int := l.flatMap fun i => f (ruAt R i).right
theorem mem_byF {f : List Int → List Int} {R : List Ru} {v x : Int} : x ∈ byF f R (byL v R 0) ↔ ∃ r ∈ R, r.left = v ∧ x ∈ f r.right := by
  unfold byF
  simp only [List.mem_flatMap, mem_byL]
  constructor
  · rintro ⟨i, ⟨j, hj, rfl, h1⟩, h2⟩
    rw [Nat.zero_add, ruAt_nat R hj] at h2
    exact ⟨R[j], List.getElem_mem hj, h1, h2⟩
  · rintro ⟨r, hr, h1, h2⟩
    obtain ⟨j, hj, rfl⟩ := List.mem_iff_getElem.1 hr
    exact ⟨j, ⟨j, hj, by simp, h1⟩, by rw [ruAt_nat R hj]; exact h2⟩
/-- One step by a right side, the first n places. -/
def stL (c : Bool) (is : List Bool) (l : List Int) : Nat → List Int
  | 0 => []
  | k + 1 => if decide (0 ≤ l.getD k 0) && ((l.take k).all (isAt is) && (c || (l.drop (k + 1)).all (isAt is))) then stL c is l k ++ [l.getD k 0] else stL c is l k
def stF (c : Bool) (is : List Bool) (l : List Int) : List Int := stL c is l l.length
theorem stL_len (c : Bool) (is : List Bool) (l : List Int) : ∀ n, (stL c is l n).length ≤ n
  | 0 => by simp [stL]
  | n + 1 => by have := stL_len c is l n; unfold stL; split <;> simp <;> omega
theorem mem_stL {c : Bool} {is : List Bool} {l : List Int} {v : Int} : ∀ {n : Nat}, n ≤ l.length → (v ∈ stL c is l n ↔ 0 ≤ v ∧ ∃ k, ∃ h : k < l.length, k < n ∧ l[k] = v ∧ (∀ s ∈ l.take k, isAt is s = true) ∧ (c = true ∨ ∀ s ∈ l.drop (k + 1), isAt is s = true))
  | 0, _ => by simp [stL]
  | n + 1, hn => by
    have ih := mem_stL (c := c) (is := is) (l := l) (v := v) (n := n) (by omega)
    have hg : l.getD n 0 = l[n] := by rw [List.getD_eq_getElem?_getD, List.getElem?_eq_getElem (by omega)]; rfl
    unfold stL
    rw [hg]
    split
    next h =>
      rw [Bool.and_eq_true, Bool.and_eq_true, Bool.or_eq_true, List.all_eq_true, List.all_eq_true, decide_eq_true_eq] at h
      rw [List.mem_append, List.mem_singleton, ih]
      constructor
      · rintro (⟨h0, k, hk, h1, h2⟩ | rfl)
        · exact ⟨h0, k, hk, by omega, h2⟩
        · exact ⟨h.1, n, by omega, by omega, rfl, h.2⟩
      · rintro ⟨h0, k, hk, h1, h2, h3⟩
        by_cases e : k = n
        · subst e; exact .inr h2.symm
        · exact .inl ⟨h0, k, hk, by omega, h2, h3⟩
    next h =>
      rw [Bool.and_eq_true, Bool.and_eq_true, Bool.or_eq_true, List.all_eq_true, List.all_eq_true, decide_eq_true_eq] at h
      rw [ih]
      constructor
      · rintro ⟨h0, k, hk, h1, h2⟩
        exact ⟨h0, k, hk, by omega, h2⟩
      · rintro ⟨h0, k, hk, h1, h2, h3⟩
        by_cases e : k = n
        · subst e; subst h2; exact absurd ⟨h0, h3⟩ h
        · exact ⟨h0, k, hk, by omega, h2, h3⟩
theorem mem_stF {c : Bool} {is : List Bool} {E : Int → Prop} (hE : ∀ v, isAt is v = true ↔ E v) {l : List Int} {v : Int} : v ∈ stF c is l ↔ 0 ≤ v ∧ Fit c E l v := by
  unfold stF
  rw [mem_stL (Nat.le_refl _)]
  unfold Fit
  constructor
  · rintro ⟨h0, k, hk, _, h1, h2, h3⟩
    exact ⟨h0, k, hk, h1, fun s hs => (hE s).1 (h2 s hs), h3.imp id fun h s hs => (hE s).1 (h s hs)⟩
  · rintro ⟨h0, k, hk, h1, h2, h3⟩
    exact ⟨h0, k, hk, hk, h1, fun s hs => (hE s).2 (h2 s hs), h3.imp id fun h s hs => (hE s).2 (h s hs)⟩
/-- Where v leads in one step. -/
def stT (c : Bool) (is : List Bool) (R : List Ru) (v : Int) : List Int := byF (stF c is) R (byL v R 0)
theorem mem_stT {c : Bool} {is : List Bool} {E : Int → Prop} (hE : ∀ v, isAt is v = true ↔ E v) {R : List Ru} {a v : Int} : v ∈ stT c is R a ↔ Lds c E R a v := by
  unfold stT
  rw [mem_byF]
  simp only [mem_stF hE]
  constructor
  · rintro ⟨r, hr, e, h0, h⟩
    exact ⟨h0, r, hr, e, h⟩
  · rintro ⟨h0, r, hr, e, h⟩
    exact ⟨r, hr, e, h0, h⟩
theorem led_cm {c : Bool} {is : List Bool} {E : Int → Prop} (hE : ∀ v, isAt is v = true ↔ E v) {R : List Ru} {a v : Int} : Cm (stT c is R a) (stT c is R) v ↔ Led c E R a v := by
  constructor
  · intro h
    induction h with
    | ini h => exact .one ((mem_stT hE).1 h)
    | step _ h' ih => exact .more ih ((mem_stT hE).1 h')
  · intro h
    induction h with
    | one h => exact .ini ((mem_stT hE).2 h)
    | more _ h' ih => exact .step ih ((mem_stT hE).2 h')
/-- Is it so? -/
noncomputable def pB (p : Prop) : Bool := @decide p (Classical.propDecidable p)
theorem pB_iff {p : Prop} : pB p = true ↔ p := by unfold pB; exact @decide_eq_true_iff p (Classical.propDecidable p)
end Go.Proofs.Ytlhdppkllmnmkad.G

/- What is wrong with a grammar and a word. -/
namespace Go.Proofs.Ytlhdppkllmnmkad.G
open Go.RowKit
/-- The first terminal that is none; behind them all, re. -/
def bwF (terms : Int) (re : Int × Int) : List Int → Nat → Int × Int
  | [], _ => re
  | x :: xs, k => if x < 0 ∨ terms ≤ x then (15, (k : Int)) else bwF terms re xs (k + 1)
theorem bwF_at {terms : Int} {re : Int × Int} {W : List Int} {k : Nat} (h : k < W.length) : bwF terms re (W.drop k) k = if W[k] < 0 ∨ terms ≤ W[k] then (15, (k : Int)) else bwF terms re (W.drop (k + 1)) (k + 1) := by
  rw [List.drop_eq_getElem_cons h]; rfl
theorem bwF_end {terms : Int} {re : Int × Int} {W : List Int} {k i : Nat} (h : W.length ≤ k) : bwF terms re (W.drop k) i = re := by rw [List.drop_of_length_le h]; rfl
noncomputable def chFl (g : Gm) (W : List Int) : Int × Int :=
  if (gFl g).1 ≠ 0 then gFl g else if 12 < W.length then (15, -1) else bwF g.terms (if pB (Acy g.rules g.vars.toNat) = true then (0, 0) else (10, -1)) W 0
theorem cyc_nil {R : List Ru} {V : Nat} : (upto V fun k => pB (Led false (Gen false R) R (k : Int) (k : Int))) = [] ↔ Acy R V := by
  unfold upto Acy
  rw [List.map_eq_nil_iff, List.filter_eq_nil_iff]
  constructor
  · intro h v hv hl
    exact h v (List.mem_range.2 hv) (pB_iff.2 hl)
  · intro h v hv hp
    exact h v (List.mem_range.1 hv) (pB_iff.1 hp)
end Go.Proofs.Ytlhdppkllmnmkad.G

/- A chart: what it is of; how it lies in memory. -/
namespace Go.Proofs.Ytlhdppkllmnmkad.G
open Go.RowKit Go.Maps
theorem cM_ex : ∃ f : Nat → Int, ∀ n, f n = cap 4611686018427387904 n := ⟨_, fun _ => rfl⟩
/-- As far as Many (sealed: nothing unfolds it). -/
noncomputable def cM : Nat → Int := Classical.choose cM_ex
theorem cM_eq (n : Nat) : cM n = cap 4611686018427387904 n := Classical.choose_spec cM_ex n
theorem cM_rng (n : Nat) : 0 ≤ cM n ∧ cM n ≤ 4611686018427387904 := by have := cap_rng 4611686018427387904 n; rw [cM_eq]; omega
theorem cM_add (a b : Nat) : smI (cM a) (cM b) 4611686018427387904 = cM (a + b) := by rw [cM_eq, cM_eq, cM_eq]; exact smI_cap 4611686018427387904 a b
theorem cM_mul (a b : Nat) : prI (cM a) (cM b) 4611686018427387904 = cM (a * b) := by rw [cM_eq, cM_eq, cM_eq]; exact prI_cap (m := 4611686018427387904) (by omega)
theorem cM_zero : cM 0 = 0 := by rw [cM_eq]; exact cap_zero _
theorem cM_one : cM 1 = 1 := by rw [cM_eq]; exact cap_one (by omega)
theorem cM_wf (n : Nat) : (Lit.int .i64 (cM n)).wf = true := by
  have := cM_rng n
  exact WalkArith.wf_i64 (by omega)
/-- A grammar and a word of which there is a chart. -/
structure CkG (g : Gm) (W : List Int) (V : Nat) : Prop where
  rg : Rgt g V
  lo : ∀ r ∈ g.rules, ∀ s ∈ r.right, -16 ≤ s
  wl : W.length ≤ 12
  wr : ∀ x ∈ W, 0 ≤ x ∧ x < 16
  ac : Acy g.rules V
theorem ruF_low {g : Gm} {r : Ru} (ht : g.terms ≤ 16) (h : ruF g r = 0) : ∀ s ∈ r.right, -16 ≤ s := by
  unfold ruF at h
  split at h
  · cases h
  · split at h
    · rename_i h1
      intro s hs
      have := List.all_eq_true.1 h1.2 s hs
      simp [syB] at this
      omega
    · cases h
theorem ckg_of {g : Gm} {W : List Int} (h : (chFl g W).1 = 0) : chFl g W = (0, 0) ∧ ∃ V, CkG g W V := by
  unfold chFl at h ⊢
  split at h
  · rename_i h1; exact absurd h h1
  rename_i h1
  have h1' : (gFl g).1 = 0 := by omega
  rw [if_neg h1]
  obtain ⟨h00, V, hR⟩ := rgt_of h1'
  split at h
  · cases h
  rename_i h2
  rw [if_neg h2]
  have key : ∀ {re : Int × Int} {l : List Int} {k : Nat}, (bwF g.terms re l k).1 = 0 → (∀ x ∈ l, 0 ≤ x ∧ x < g.terms) ∧ bwF g.terms re l k = re := fun {re} l => by
    induction l with
    | nil => exact fun {k} h => ⟨fun x hx => (by cases hx), rfl⟩
    | cons x xs ih =>
      intro k h
      rw [bwF] at h ⊢
      split at h
      · cases h
      · rename_i hc
        rw [if_neg hc]
        obtain ⟨h1, h2⟩ := ih h
        refine ⟨fun y hy => ?_, h2⟩
        rcases List.mem_cons.1 hy with rfl | hy
        · omega
        · exact h1 y hy
  obtain ⟨k1, k2⟩ := key h
  rw [k2] at h ⊢
  by_cases hA : Acy g.rules g.vars.toNat
  · rw [if_pos (pB_iff.2 hA)]
    have hgv : g.vars.toNat = V := by have := hR.gv; omega
    refine ⟨rfl, V, hR, ?_, by omega, fun x hx => ?_, hgv ▸ hA⟩
    · have hz := h1'
      unfold gFl at hz
      split at hz
      · split at hz
        · cases hz
        · exact fun r hr => ruF_low hR.tm.2 ((rsF_zero hz).2 r hr)
      · cases hz
    · have := k1 x hx; have := hR.tm; omega
  · rw [if_neg (fun e => hA (pB_iff.1 e))] at h; cases h
section
variable {g : Gm} {W : List Int} {V : Nat}
theorem CkG.hR (h : CkG g W V) : ∀ r ∈ g.rules, ∀ s ∈ r.right, s < V := fun r hr => (h.rg.vr.2 r hr).2
theorem CkG.small (h : CkG g W V) : Small g.rules := ⟨by have := h.rg.few; omega, fun i hi => by have := h.rg.short _ (List.getElem_mem hi); omega⟩
theorem CkG.at_ (_h : CkG g W V) {r : Nat} (hr : r < g.rules.length) : (g.rules.getD r ⟨0, []⟩) = g.rules[r] := by rw [List.getD_eq_getElem?_getD, List.getElem?_eq_getElem hr]; rfl
/-- What is right of trees, of rows. -/
def GT (g : Gm) (W : List Int) (V : Nat) (key : Value) (n : Int) : Prop := ∃ v i j : Nat, v < V ∧ i ≤ j ∧ j ≤ W.length ∧ key = .agg #[.int .i64 v, .int .i64 i, .int .i64 j] ∧ n = cM (nN g.rules W V v i j)
def rgtR (g : Gm) (r : Nat) : List Int := (g.rules.getD r ⟨0, []⟩).right
def GR (g : Gm) (W : List Int) (V : Nat) (key : Value) (n : Int) : Prop := ∃ r k i j : Nat, r < g.rules.length ∧ k < (rgtR g r).length ∧ i ≤ j ∧ j ≤ W.length ∧ key = .agg #[.int .i64 r, .int .i64 k, .int .i64 i, .int .i64 j] ∧ n = cM (chN (nN g.rules W V) W ((rgtR g r).drop k) i j)
theorem CkG.short (h : CkG g W V) {r : Nat} (hr : r < g.rules.length) : (rgtR g r).length ≤ 10 := by unfold rgtR; rw [h.at_ hr]; exact h.rg.short _ (List.getElem_mem hr)
theorem CkG.sym (h : CkG g W V) {r : Nat} (hr : r < g.rules.length) : ∀ s ∈ rgtR g r, s < V ∧ -16 ≤ s := by
  unfold rgtR; rw [h.at_ hr]
  exact fun s hs => ⟨h.hR _ (List.getElem_mem hr) s hs, h.lo _ (List.getElem_mem hr) s hs⟩
def cde3 : Value → Nat
  | .agg ⟨[.int _ a, .int _ b, .int _ c]⟩ => a.toNat * 169 + b.toNat * 13 + c.toNat
  | _ => 0
def cde4 : Value → Nat
  | .agg ⟨[.int _ a, .int _ b, .int _ c, .int _ d]⟩ => a.toNat * 1690 + b.toNat * 169 + c.toNat * 13 + d.toNat
  | _ => 0
theorem keysT (P : Program) (k : TypeId) (h : CkG g W V) : Keys P k (GT g W V) 10816 := by
  have hV := h.rg.vr.1
  have hW := h.wl
  refine ⟨⟨cde3, ?_, ?_⟩, by unfold maxLen; omega⟩
  · rintro key n ⟨v, i, j, h1, h2, h3, rfl, _⟩
    show (v : Int).toNat * 169 + (i : Int).toNat * 13 + (j : Int).toNat < 10816
    omega
  · rintro x y n m ⟨v, i, j, h1, h2, h3, rfl, _⟩ ⟨v', i', j', h1', h2', h3', rfl, _⟩ e
    have e' : (v : Int).toNat * 169 + (i : Int).toNat * 13 + (j : Int).toNat = (v' : Int).toNat * 169 + (i' : Int).toNat * 13 + (j' : Int).toNat := e
    obtain ⟨rfl, rfl, rfl⟩ : v = v' ∧ i = i' ∧ j = j' := by omega
    rfl
theorem keysR (P : Program) (k : TypeId) (h : CkG g W V) : Keys P k (GR g W V) 270400 := by
  have hL := h.rg.few
  have hW := h.wl
  refine ⟨⟨cde4, ?_, ?_⟩, by unfold maxLen; omega⟩
  · rintro key n ⟨r, q, i, j, h1, h2, h3, h4, rfl, _⟩
    have := h.short h1
    show (r : Int).toNat * 1690 + (q : Int).toNat * 169 + (i : Int).toNat * 13 + (j : Int).toNat < 270400
    omega
  · rintro x y n m ⟨r, q, i, j, h1, h2, h3, h4, rfl, _⟩ ⟨r', q', i', j', h1', h2', h3', h4', rfl, _⟩ e
    have := h.short h1
    have := h.short h1'
    have e' : (r : Int).toNat * 1690 + (q : Int).toNat * 169 + (i : Int).toNat * 13 + (j : Int).toNat = (r' : Int).toNat * 1690 + (q' : Int).toNat * 169 + (i' : Int).toNat * 13 + (j' : Int).toNat := e
    obtain ⟨rfl, rfl, rfl, rfl⟩ : r = r' ∧ q = q' ∧ i = i' ∧ j = j' := by omega
    rfl
end
/-- A chart in memory. -/
structure ChS (w : World) (cb tb rb : Nat) (g : Gm) (W : List Int) (V : Nat) (E : BitVec 64) (vR vW : Value) : Prop where
  c0 : w.cell? ⟨cb, 0, none⟩ = some (.int .i64 g.vars)
  c1 : w.cell? ⟨cb, 1, none⟩ = some (.int .i64 g.terms)
  c2 : w.cell? ⟨cb, 2, none⟩ = some (.int .i64 g.start)
  c3 : w.cell? ⟨cb, 3, none⟩ = some vR
  c4 : w.cell? ⟨cb, 4, none⟩ = some vW
  c5 : w.cell? ⟨cb, 5, none⟩ = some (.int .u64 (U E))
  c6 : w.cell? ⟨cb, 6, none⟩ = some (.map (some tb))
  c7 : w.cell? ⟨cb, 7, none⟩ = some (.map (some rb))
  r : RsV w All vR g.rules
  x : IsV w All vW W
  t : Memo Try.prog 127 3 w tb (GT g W V)
  o : Memo Try.prog 153 3 w rb (GR g W V)
  ne : tb ≠ rb
theorem memo_ne {P : Program} {k ei : TypeId} {G : Value → Int → Prop} {w : World} {b : Nat} (h : Memo P k ei w b G) {c o : Nat} {v : Value} (hc : w.cell? ⟨c, o, none⟩ = some v) : c ≠ b := by
  rintro rfl
  obtain ⟨es, clock, hb, _⟩ := h
  simp [World.cell?, hb] at hc
section
variable {w w' : World} {cb tb rb : Nat} {g : Gm} {W : List Int} {V : Nat} {E : BitVec 64} {vR vW : Value}
theorem ChS.keep (h : ChS w cb tb rb g W V E vR vW) (hk : Kt tb rb w w') {b o : Nat} {v : Value} (hc : w.cell? ⟨b, o, none⟩ = some v) : w'.cell? ⟨b, o, none⟩ = some v :=
  hk.cell hc (memo_ne h.t hc) (memo_ne h.o hc)
theorem ChS.keepA (h : ChS w cb tb rb g W V E vR vW) (hk : Kt tb rb w w') : ∀ b o v, All b → w.cell? ⟨b, o, none⟩ = some v → All b ∧ w'.cell? ⟨b, o, none⟩ = some v := fun _ _ _ _ hc => ⟨trivial, h.keep hk hc⟩
theorem ChS.lw (h : ChS w cb tb rb g W V E vR vW) (hb : Below w.heap.size w w') : ChS w' cb tb rb g W V E vR vW :=
  ⟨bkeep hb h.c0, bkeep hb h.c1, bkeep hb h.c2, bkeep hb h.c3, bkeep hb h.c4, bkeep hb h.c5, bkeep hb h.c6, bkeep hb h.c7, h.r.lw hb, h.x.lw hb, h.t.lw hb, h.o.lw hb, h.ne⟩
/-- With maps that were written to. -/
theorem ChS.turn (h : ChS w cb tb rb g W V E vR vW) (hk : Kt tb rb w w') (ht : Memo Try.prog 127 3 w' tb (GT g W V)) (ho : Memo Try.prog 153 3 w' rb (GR g W V)) : ChS w' cb tb rb g W V E vR vW :=
  ⟨h.keep hk h.c0, h.keep hk h.c1, h.keep hk h.c2, h.keep hk h.c3, h.keep hk h.c4, h.keep hk h.c5, h.keep hk h.c6, h.keep hk h.c7, h.r.mono (h.keepA hk), h.x.mono (h.keepA hk), ht, ho, h.ne⟩
/-- A cell that is written to, which is none of the chart's. -/
theorem ChS.setCell (h : ChS w cb tb rb g W V E vR vW) {p o : Nat} {u : Value} (_hp : ∀ q v, w.cell? ⟨p, q, none⟩ = some v → True) (hne : p ≠ cb) (hr : RsV (w.setCell ⟨p, o, none⟩ u) All vR g.rules) (hx : IsV (w.setCell ⟨p, o, none⟩ u) All vW W) (ht : p ≠ tb) (ho : p ≠ rb) : ChS (w.setCell ⟨p, o, none⟩ u) cb tb rb g W V E vR vW := by
  have hc : ∀ i v, w.cell? ⟨cb, i, none⟩ = some v → (w.setCell ⟨p, o, none⟩ u).cell? ⟨cb, i, none⟩ = some v := fun i v h => by
    rw [World.cell?_of_block (w := w) (a := ⟨cb, i, none⟩) (Below.heap_setCell _ _ _ _ (Ne.symm hne))]; exact h
  exact ⟨hc _ _ h.c0, hc _ _ h.c1, hc _ _ h.c2, hc _ _ h.c3, hc _ _ h.c4, hc _ _ h.c5, hc _ _ h.c6, hc _ _ h.c7, hr, hx, h.t.of (Below.heap_setCell _ _ _ _ (Ne.symm ht)), h.o.of (Below.heap_setCell _ _ _ _ (Ne.symm ho)), h.ne⟩
end
/-- How a chart's function ends. -/
def ChR (w : World) (cb tb rb : Nat) (g : Gm) (W : List Int) (V : Nat) (E : BitVec 64) (vR vW : Value) (n : Int) (e : Ending) (w' : World) : Prop := e = .returned (.int .i64 n) ∧ ChS w' cb tb rb g W V E vR vW ∧ Kt tb rb w w'
end Go.Proofs.Ytlhdppkllmnmkad.G
