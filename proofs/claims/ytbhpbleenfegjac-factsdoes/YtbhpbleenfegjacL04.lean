/- Texts laid together: Fd Fs Fl Fn. -/
import Derived.Test.YtbhpbleenfegjacL02
import Derived.Test.YtbhpbleenfegjacL03
/- What is so of nonterminals, in the document's way, in mathematics: rounds over a row of yes and no; a list of what is still to be done. -/
namespace Go.Proofs.Ytbhpbleenfegjac.G

/-! Rows of yes and no. -/
def isAt (is : List Bool) (v : Int) : Bool := decide (0 ≤ v) && is.getD v.toNat false
theorem isAt_set {is : List Bool} {k : Nat} {v : Int} (hk : k < is.length) : isAt (is.set k true) v = true ↔ isAt is v = true ∨ v = k := by
  unfold isAt
  rw [getD_set]
  by_cases h : k = v.toNat
  · by_cases h0 : 0 ≤ v
    · have hv : v = k := by omega
      simp [hv, hk]
    · have hv : ¬ v = k := by omega
      simp [h0, hv]
  · have hv : ¬ v = k := by omega
    simp [h, hv]
theorem isAt_new (n : Nat) (v : Int) : isAt (List.replicate n false) v = false := by
  unfold isAt
  rw [List.getD_eq_getElem?_getD, List.getElem?_replicate]
  split <;> simp
theorem isAt_lt {is : List Bool} {v : Int} (h : isAt is v = true) : 0 ≤ v ∧ v.toNat < is.length := by
  unfold isAt at h
  rw [Bool.and_eq_true, decide_eq_true_eq] at h
  refine ⟨h.1, ?_⟩
  rcases Nat.lt_or_ge v.toNat is.length with h' | h'
  · exact h'
  · rw [List.getD_eq_getElem?_getD, List.getElem?_eq_none h'] at h; cases h.2
def cnt : List Bool → Nat
  | [] => 0
  | b :: l => b.toNat + cnt l
theorem cnt_le : ∀ l : List Bool, cnt l ≤ l.length
  | [] => Nat.le_refl _
  | b :: l => by have := cnt_le l; have := Bool.toNat_le b; simp only [cnt, List.length_cons]; omega
theorem cnt_all : ∀ l : List Bool, cnt l = l.length → ∀ i, i < l.length → l.getD i false = true
  | [], _, i, h => by simp at h
  | b :: l, h, i, hi => by
    have h1 := cnt_le l
    have h2 := Bool.toNat_le b
    simp only [cnt, List.length_cons] at h
    cases i with
    | zero => cases b with
      | true => rfl
      | false => simp at h; omega
    | succ i => simpa using cnt_all l (by omega) i (by simpa using hi)
theorem cnt_mono : ∀ l m : List Bool, l.length = m.length → (∀ i, l.getD i false = true → m.getD i false = true) → cnt l ≤ cnt m ∧ (cnt l = cnt m → l = m)
  | [], [], _, _ => ⟨Nat.le_refl _, fun _ => rfl⟩
  | [], _ :: _, h, _ => by simp at h
  | _ :: _, [], h, _ => by simp at h
  | a :: l, b :: m, h, hi => by
    obtain ⟨h1, h2⟩ := cnt_mono l m (by simpa using h) fun i => by simpa using hi (i + 1)
    have h3 := hi 0
    simp only [List.getD_cons_zero] at h3
    simp only [cnt]
    cases a <;> cases b <;> simp at h3 ⊢
    · exact ⟨h1, h2⟩
    · omega
    · exact ⟨h1, h2⟩
theorem cnt_set {l : List Bool} {k : Nat} (hk : k < l.length) (h : l.getD k false = false) : cnt (l.set k true) = cnt l + 1 := by
  induction l generalizing k with
  | nil => simp at hk
  | cons b l ih =>
    cases k with
    | zero => simp at h; subst h; simp [cnt]; omega
    | succ k =>
      have := ih (k := k) (by simpa using hk) (by simpa using h)
      simp only [List.set_cons_succ, cnt, this]; omega

/-! Rounds. -/
def fitL (t : Bool) (is : List Bool) (x : Int) : Bool := (t && decide (x < 0)) || isAt is x
def genR (t : Bool) (R : List Ru) (is : List Bool) : List Bool := R.foldl (fun is r => if r.right.all (fitL t is) then is.set r.left.toNat true else is) is
theorem genR_len (t : Bool) : ∀ (R : List Ru) (is : List Bool), (genR t R is).length = is.length
  | [], _ => rfl
  | r :: R, is => by
    unfold genR
    rw [List.foldl_cons]
    refine (genR_len t R _).trans ?_
    split <;> simp
theorem genR_base (t : Bool) : ∀ (R : List Ru) (is : List Bool) (i : Nat), is.getD i false = true → (genR t R is).getD i false = true
  | [], _, _, h => h
  | r :: R, is, i, h => by
    unfold genR
    rw [List.foldl_cons]
    refine genR_base t R _ i ?_
    split
    · rw [getD_set]; split
      · rfl
      · exact h
    · exact h
/-- Lefts that lie in the row. -/
def Lin (n : Nat) (R : List Ru) : Prop := ∀ r ∈ R, 0 ≤ r.left ∧ r.left < n
theorem genR_snd {t : Bool} {R0 : List Ru} : ∀ (R : List Ru) (is : List Bool), (∀ r ∈ R, r ∈ R0) → Lin is.length R → (∀ v, isAt is v = true → Gen t R0 v) → ∀ v, isAt (genR t R is) v = true → Gen t R0 v
  | [], _, _, _, hs => hs
  | r :: R, is, hR, hL, hs => by
    have hl := hL r (List.mem_cons_self ..)
    unfold genR
    rw [List.foldl_cons]
    refine genR_snd R _ (fun x hx => hR x (List.mem_cons_of_mem _ hx)) (fun x hx => ?_) ?_
    · have := hL x (List.mem_cons_of_mem _ hx)
      split <;> simpa using this
    · intro v hv
      split at hv
      next h =>
        rcases (isAt_set (by omega)).1 hv with hv | hv
        · exact hs v hv
        · rw [show ((r.left.toNat : Nat) : Int) = r.left by omega] at hv
          subst hv
          refine .mk r (hR r (List.mem_cons_self ..)) fun x hx hn => ?_
          have := List.all_eq_true.1 h x hx
          simp only [fitL, Bool.or_eq_true, Bool.and_eq_true, decide_eq_true_eq] at this
          exact this.elim (fun h => absurd h hn) (hs x)
      next h => exact hs v hv
theorem genR_cpl (t : Bool) : ∀ (R : List Ru) (is : List Bool) (r : Ru), r ∈ R → Lin is.length R → r.right.all (fitL t is) = true → isAt (genR t R is) r.left = true
  | a :: R, is, r, hr, hL, hall => by
    have hl := hL a (List.mem_cons_self ..)
    unfold genR
    rw [List.foldl_cons]
    rcases List.mem_cons.1 hr with rfl | hr
    · rw [if_pos hall]
      have : isAt (is.set r.left.toNat true) r.left = true := (isAt_set (by omega)).2 (.inr (by omega))
      unfold isAt at this ⊢
      rw [Bool.and_eq_true] at this ⊢
      exact ⟨this.1, genR_base t R _ _ this.2⟩
    · refine genR_cpl t R _ r hr (fun x hx => ?_) ?_
      · have := hL x (List.mem_cons_of_mem _ hx)
        split <;> simpa using this
      rw [List.all_eq_true] at hall ⊢
      intro x hx
      have := hall x hx
      simp only [fitL, Bool.or_eq_true] at this ⊢
      refine this.imp id fun h => ?_
      split
      · exact (isAt_set (by omega)).2 (.inl h)
      · exact h
def genN (t : Bool) (R : List Ru) (V : Nat) : Nat → List Bool
  | 0 => List.replicate V false
  | n + 1 => genR t R (genN t R V n)
theorem genN_len (t : Bool) (R : List Ru) (V : Nat) : ∀ n, (genN t R V n).length = V
  | 0 => by simp [genN]
  | n + 1 => by rw [genN, genR_len]; exact genN_len t R V n
theorem genN_snd {t : Bool} {R : List Ru} {V : Nat} (hL : Lin V R) : ∀ n v, isAt (genN t R V n) v = true → Gen t R v
  | 0, v, h => by rw [genN, isAt_new] at h; cases h
  | n + 1, v, h => genR_snd R _ (fun _ h => h) (by rw [genN_len]; exact hL) (genN_snd hL n) v h
theorem genN_grow (t : Bool) (R : List Ru) (V : Nat) : ∀ n, genR t R (genN t R V n) = genN t R V n ∨ n ≤ cnt (genN t R V n)
  | 0 => .inr (Nat.zero_le _)
  | n + 1 => by
    rcases genN_grow t R V n with h | h
    · left
      rw [genN, h, h]
    · by_cases e : genR t R (genN t R V n) = genN t R V n
      · left
        rw [genN, e, e]
      · right
        have hm := cnt_mono (genN t R V n) (genR t R (genN t R V n)) (genR_len ..).symm (fun i => genR_base t R _ i)
        have : cnt (genN t R V n) ≠ cnt (genR t R (genN t R V n)) := fun h' => e (hm.2 h').symm
        rw [genN]; omega
/-- As many rounds as there are nonterminals are enough. -/
theorem genN_right {t : Bool} {R : List Ru} {V : Nat} (hL : Lin V R) (v : Int) : isAt (genN t R V V) v = true ↔ Gen t R v := by
  refine ⟨genN_snd hL V v, fun h => ?_⟩
  rcases genN_grow t R V V with hf | hc
  · induction h with
    | mk r hr _ ih =>
      rw [← hf]
      refine genR_cpl t R _ r hr (by rw [genN_len]; exact hL) ?_
      rw [List.all_eq_true]
      intro x hx
      simp only [fitL, Bool.or_eq_true, Bool.and_eq_true, decide_eq_true_eq]
      by_cases e : t = true ∧ x < 0
      · exact .inl e
      · exact .inr (ih x hx e)
  · have hlen := genN_len t R V V
    have h1 := cnt_le (genN t R V V)
    cases h with
    | mk r hr _ =>
      have hl := hL r hr
      unfold isAt
      rw [Bool.and_eq_true, decide_eq_true_eq]
      exact ⟨hl.1, cnt_all _ (by omega) _ (by omega)⟩
theorem kids_all (is : List Bool) (l : List Int) : (kidsL l).all (isAt is) = l.all (fitL true is) := by
  unfold kidsL
  rw [Bool.eq_iff_iff, List.all_eq_true, List.all_eq_true]
  simp only [List.mem_filter, decide_eq_true_eq, fitL, Bool.true_and, Bool.or_eq_true]
  constructor
  · intro h x hx
    by_cases e : x < 0
    · exact .inl e
    · exact .inr (h x ⟨hx, by omega⟩)
  · rintro h x ⟨hx, h0⟩
    exact (h x hx).resolve_left (by omega)
theorem all_fit (is : List Bool) (l : List Int) : l.all (isAt is) = l.all (fitL false is) := by
  congr 1

/-! What is still to be done. -/
/-- What comes of some, by steps. -/
inductive Cm (I : List Int) (nx : Int → List Int) : Int → Prop
  | ini {v : Int} (h : v ∈ I) : Cm I nx v
  | step {u v : Int} (h : Cm I nx u) (h' : v ∈ nx u) : Cm I nx v
/-- On the way: what is told and what is still to be done comes of them; and of what is told all that comes next is told or still to be done. -/
structure Way (I : List Int) (nx : Int → List Int) (V : Nat) (is : List Bool) (todo : List Int) : Prop where
  len : is.length = V
  snd : ∀ v, isAt is v = true → Cm I nx v
  sndT : ∀ v ∈ todo, Cm I nx v
  ini : ∀ v ∈ I, isAt is v = true ∨ v ∈ todo
  nxt : ∀ u, isAt is u = true → ∀ v ∈ nx u, isAt is v = true ∨ v ∈ todo
theorem Way.start (I : List Int) (nx : Int → List Int) (V : Nat) : Way I nx V (List.replicate V false) I :=
  ⟨by simp, (fun v h => by rw [isAt_new] at h; cases h), fun _ h => .ini h, fun _ h => .inr h, (fun u h => by rw [isAt_new] at h; cases h)⟩
theorem Way.again {I : List Int} {nx : Int → List Int} {V : Nat} {is : List Bool} {v : Int} {l : List Int} (h : Way I nx V is (v :: l)) (hv : isAt is v = true) : Way I nx V is l := by
  have sh : ∀ u, (isAt is u = true ∨ u ∈ v :: l) → isAt is u = true ∨ u ∈ l := by
    rintro u (h1 | h1)
    · exact .inl h1
    · rcases List.mem_cons.1 h1 with rfl | h1
      · exact .inl hv
      · exact .inr h1
  exact ⟨h.len, h.snd, fun u hu => h.sndT u (List.mem_cons_of_mem _ hu), fun u hu => sh u (h.ini u hu), fun u hu x hx => sh x (h.nxt u hu x hx)⟩
theorem Way.put {I : List Int} {nx : Int → List Int} {V k : Nat} {is : List Bool} {l : List Int} (h : Way I nx V is ((k : Int) :: l)) (hk : k < V) : Way I nx V (is.set k true) (l ++ nx k) := by
  have hl := h.len
  have hkl : k < is.length := by omega
  have hC : Cm I nx k := h.sndT _ (List.mem_cons_self ..)
  have sh : ∀ u, (isAt is u = true ∨ u ∈ (k : Int) :: l) → isAt (is.set k true) u = true ∨ u ∈ l ++ nx k := by
    rintro u (h1 | h1)
    · exact .inl ((isAt_set hkl).2 (.inl h1))
    · rcases List.mem_cons.1 h1 with rfl | h1
      · exact .inl ((isAt_set hkl).2 (.inr rfl))
      · exact .inr (List.mem_append_left _ h1)
  refine ⟨by simpa using hl, fun v hv => ?_, fun v hv => ?_, fun v hv => sh v (h.ini v hv), fun u hu v hv => ?_⟩
  · rcases (isAt_set hkl).1 hv with hv | rfl
    · exact h.snd v hv
    · exact hC
  · rcases List.mem_append.1 hv with hv | hv
    · exact h.sndT v (List.mem_cons_of_mem _ hv)
    · exact .step hC hv
  · rcases (isAt_set hkl).1 hu with hu | rfl
    · exact sh v (h.nxt u hu v hv)
    · exact .inr (List.mem_append_right _ hv)
theorem Way.done {I : List Int} {nx : Int → List Int} {V : Nat} {is : List Bool} (h : Way I nx V is []) (v : Int) : isAt is v = true ↔ Cm I nx v := by
  refine ⟨h.snd v, fun hv => ?_⟩
  induction hv with
  | ini h' => exact (h.ini _ h').resolve_right (by simp)
  | step _ h' ih => exact (h.nxt _ ih _ h').resolve_right (by simp)

/-! What stands in rules of one. -/
theorem mem_byL {v : Int} : ∀ {l : List Ru} {k : Nat} {x : Int}, x ∈ byL v l k ↔ ∃ i, ∃ h : i < l.length, x = ((k + i : Nat) : Int) ∧ l[i].left = v
  | [], k, x => by simp [byL]
  | r :: l, k, x => by
    have ih := mem_byL (v := v) (l := l) (k := k + 1) (x := x)
    have key : (∃ i, ∃ h : i < (r :: l).length, x = ((k + i : Nat) : Int) ∧ (r :: l)[i].left = v) ↔ (x = k ∧ r.left = v) ∨ ∃ i, ∃ h : i < l.length, x = ((k + 1 + i : Nat) : Int) ∧ l[i].left = v := by
      constructor
      · rintro ⟨i, hi, h1, h2⟩
        cases i with
        | zero => exact .inl ⟨by simpa using h1, by simpa using h2⟩
        | succ i => exact .inr ⟨i, by simpa using hi, by rw [h1]; congr 1; omega, by simpa using h2⟩
      · rintro (⟨h1, h2⟩ | ⟨i, hi, h1, h2⟩)
        · exact ⟨0, by simp, by simpa using h1, by simpa using h2⟩
        · exact ⟨i + 1, by simpa using hi, by rw [h1]; congr 1; omega, by simpa using h2⟩
    rw [key]
    unfold byL
    split
    next h => rw [List.mem_cons, ih]; simp [h]
    next h => rw [ih]; simp [h]
def ruAt (R : List Ru) (i : Int) : Ru := R.getD i.toNat default
theorem ruAt_nat (R : List Ru) {i : Nat} (h : i < R.length) : ruAt R i = R[i] := by simp [ruAt, List.getD_eq_getElem?_getD, h]
/-- What comes of a list of rules' numbers, by f of each right side. -/
def byF (f : List Int → List Int) (R : List Ru) (l : List Int) : List Int := l.flatMap fun i => f (ruAt R i).right
theorem mem_byF {f : List Int → List Int} {R : List Ru} {v x : Int} : x ∈ byF f R (byL v R 0) ↔ ∃ r ∈ R, r.left = v ∧ x ∈ f r.right := by
  unfold byF
  simp only [List.mem_flatMap, mem_byL]
  constructor
  · rintro ⟨i, ⟨j, hj, rfl, h1⟩, h2⟩
    rw [Nat.zero_add, ruAt_nat R hj] at h2
    exact ⟨R[j], List.getElem_mem hj, h1, h2⟩
  · rintro ⟨r, hr, h1, h2⟩
    obtain ⟨j, hj, rfl⟩ := List.mem_iff_getElem.1 hr
    exact ⟨j, ⟨j, hj, by simp, h1⟩, by rw [ruAt_nat R hj]; exact h2⟩
theorem rch_cm {R : List Ru} {st v : Int} : Cm [st] (fun v => byF kidsL R (byL v R 0)) v ↔ Rch R st v := by
  constructor
  · intro h
    induction h with
    | ini h => rw [List.mem_singleton] at h; subst h; exact .start
    | step _ h' ih =>
      obtain ⟨r, hr, e, hx⟩ := mem_byF.1 h'
      subst e
      unfold kidsL at hx
      rw [List.mem_filter, decide_eq_true_eq] at hx
      exact .step r hr ih _ hx.1 hx.2
  · intro h
    induction h with
    | start => exact .ini (List.mem_singleton.2 rfl)
    | step r hr _ s hs h0 ih => exact .step ih (mem_byF.2 ⟨r, hr, rfl, by unfold kidsL; rw [List.mem_filter, decide_eq_true_eq]; exact ⟨hs, h0⟩⟩)
/-- One step by a right side, the first n places. -/
def stL (c : Bool) (is : List Bool) (l : List Int) : Nat → List Int
  | 0 => []
  | k + 1 => if decide (0 ≤ l.getD k 0) && ((l.take k).all (isAt is) && (c || (l.drop (k + 1)).all (isAt is))) then stL c is l k ++ [l.getD k 0] else stL c is l k
def stF (c : Bool) (is : List Bool) (l : List Int) : List Int := stL c is l l.length
theorem stL_len (c : Bool) (is : List Bool) (l : List Int) : ∀ n, (stL c is l n).length ≤ n
  | 0 => by simp [stL]
  | n + 1 => by have := stL_len c is l n; unfold stL; split <;> simp <;> omega
theorem mem_stL {c : Bool} {is : List Bool} {l : List Int} {v : Int} : ∀ {n : Nat}, n ≤ l.length → (v ∈ stL c is l n ↔ 0 ≤ v ∧ ∃ k, ∃ h : k < l.length, k < n ∧ l[k] = v ∧ (∀ s ∈ l.take k, isAt is s = true) ∧ (c = true ∨ ∀ s ∈ l.drop (k + 1), isAt is s = true))
  | 0, _ => by simp [stL]
  | n + 1, hn => by
    have ih := mem_stL (c := c) (is := is) (l := l) (v := v) (n := n) (by omega)
    have hg : l.getD n 0 = l[n] := by rw [List.getD_eq_getElem?_getD, List.getElem?_eq_getElem (by omega)]; rfl
    unfold stL
    rw [hg]
    split
    next h =>
      rw [Bool.and_eq_true, Bool.and_eq_true, Bool.or_eq_true, List.all_eq_true, List.all_eq_true, decide_eq_true_eq] at h
      rw [List.mem_append, List.mem_singleton, ih]
      constructor
      · rintro (⟨h0, k, hk, h1, h2⟩ | rfl)
        · exact ⟨h0, k, hk, by omega, h2⟩
        · exact ⟨h.1, n, by omega, by omega, rfl, h.2⟩
      · rintro ⟨h0, k, hk, h1, h2, h3⟩
        by_cases e : k = n
        · subst e; exact .inr h2.symm
        · exact .inl ⟨h0, k, hk, by omega, h2, h3⟩
    next h =>
      rw [Bool.and_eq_true, Bool.and_eq_true, Bool.or_eq_true, List.all_eq_true, List.all_eq_true, decide_eq_true_eq] at h
      rw [ih]
      constructor
      · rintro ⟨h0, k, hk, h1, h2⟩
        exact ⟨h0, k, hk, by omega, h2⟩
      · rintro ⟨h0, k, hk, h1, h2, h3⟩
        by_cases e : k = n
        · subst e; subst h2; exact absurd ⟨h0, h3⟩ h
        · exact ⟨h0, k, hk, by omega, h2, h3⟩
theorem mem_stF {c : Bool} {is : List Bool} {E : Int → Prop} (hE : ∀ v, isAt is v = true ↔ E v) {l : List Int} {v : Int} : v ∈ stF c is l ↔ 0 ≤ v ∧ Fit c E l v := by
  unfold stF
  rw [mem_stL (Nat.le_refl _)]
  unfold Fit
  constructor
  · rintro ⟨h0, k, hk, _, h1, h2, h3⟩
    exact ⟨h0, k, hk, h1, fun s hs => (hE s).1 (h2 s hs), h3.imp id fun h s hs => (hE s).1 (h s hs)⟩
  · rintro ⟨h0, k, hk, h1, h2, h3⟩
    exact ⟨h0, k, hk, hk, h1, fun s hs => (hE s).2 (h2 s hs), h3.imp id fun h s hs => (hE s).2 (h s hs)⟩
/-- Where v leads in one step. -/
def stT (c : Bool) (is : List Bool) (R : List Ru) (v : Int) : List Int := byF (stF c is) R (byL v R 0)
theorem mem_stT {c : Bool} {is : List Bool} {E : Int → Prop} (hE : ∀ v, isAt is v = true ↔ E v) {R : List Ru} {a v : Int} : v ∈ stT c is R a ↔ Lds c E R a v := by
  unfold stT
  rw [mem_byF]
  simp only [mem_stF hE]
  constructor
  · rintro ⟨r, hr, e, h0, h⟩
    exact ⟨h0, r, hr, e, h⟩
  · rintro ⟨h0, r, hr, e, h⟩
    exact ⟨r, hr, e, h0, h⟩
theorem led_cm {c : Bool} {is : List Bool} {E : Int → Prop} (hE : ∀ v, isAt is v = true ↔ E v) {R : List Ru} {a v : Int} : Cm (stT c is R a) (stT c is R) v ↔ Led c E R a v := by
  constructor
  · intro h
    induction h with
    | ini h => exact .one ((mem_stT hE).1 h)
    | step _ h' ih => exact .more ih ((mem_stT hE).1 h')
  · intro h
    induction h with
    | one h => exact .ini ((mem_stT hE).2 h)
    | more _ h' ih => exact .step ih ((mem_stT hE).2 h')
end Go.Proofs.Ytbhpbleenfegjac.G

/- Sets, the program's way: Has, With, List; numbers each of which is asked. -/
namespace Go.Proofs.Ytbhpbleenfegjac.G
open Go.RowKit
theorem ret_u {a b : Int} (h : a = b) : Ending.returned (.int .u64 a) = .returned (.int .u64 b) := by rw [h]
def mayB (v : Int) : Bool := decide (0 ≤ v) && decide (v < 64)
theorem mayB_iff {v : Int} : mayB v = true ↔ 0 ≤ v ∧ v < 64 := by simp [mayB]
set_option maxRecDepth 100000 in
set_option maxHeartbeats 4000000 in
theorem may_any (v : Int) (w : World) : Calls Try.prog 82 #[.int .i64 v] w fun e w' => e = .returned (.bool (mayB v)) ∧ w' = w := by
  by_cases h : 0 ≤ v
  · by_cases h' : v < 64
    · have hR : Hid (mayB v = true) := hd (mayB_iff.2 ⟨h, h'⟩)
      go_enter Try.func82, Try.ntmps82
      go_wp2_with fail
      go_ret
      exact ⟨ret_bool (by rw [hR.out]), rfl⟩
    · have hR : Hid (mayB v = false) := hd (by rw [← Bool.not_eq_true, mayB_iff]; omega)
      go_enter Try.func82, Try.ntmps82
      go_wp2_with fail
      go_ret
      exact ⟨ret_bool (by rw [hR.out]), rfl⟩
  · have hR : Hid (mayB v = false) := hd (by rw [← Bool.not_eq_true, mayB_iff]; omega)
    go_enter Try.func82, Try.ntmps82
    go_wp2_with fail
    go_ret
    exact ⟨ret_bool (by rw [hR.out]), rfl⟩
set_option maxRecDepth 100000 in
set_option maxHeartbeats 4000000 in
theorem has_any (s : BitVec 64) (v : Int) (w : World) : Calls Try.prog 47 #[.int .u64 (U s), .int .i64 v] w fun e w' => e = .returned (.bool (hasB s v)) ∧ w' = w := by
  have MA := may_any v w
  by_cases h : 0 ≤ v ∧ v < 64
  · obtain ⟨k, rfl⟩ : ∃ k : Nat, v = k := ⟨v.toNat, by omega⟩
    have hk : k < 64 := by omega
    rw [mayB_iff.2 h] at MA
    have hR : Hid (hasB s k = (bits .and .u64 (U s / 2 ^ k) 1 == 1)) := hd (by rw [U_has, has_nat s hk])
    clear h
    generalize hasB s k = R at *
    generalize U s = S at *
    go_enter Try.func47, Try.ntmps47
    go_wp2_with fail
    refine MA.mono ?_
    rintro e wx ⟨rfl, hwx⟩
    obtain rfl := hwx.symm
    go_wp2_with fail
    go_ret
    exact ⟨ret_bool (by rw [hR.out]), rfl⟩
  · have h0 : mayB v = false := by rw [← Bool.not_eq_true, mayB_iff]; exact h
    rw [h0] at MA
    have hR : Hid (hasB s v = false) := hd (by
      cases e : hasB s v with
      | true => exact absurd (has_in e) h
      | false => rfl)
    clear h h0
    generalize U s = S at *
    go_enter Try.func47, Try.ntmps47
    go_wp2_with fail
    refine MA.mono ?_
    rintro e wx ⟨rfl, hwx⟩
    obtain rfl := hwx.symm
    go_wp2_with fail
    go_ret
    exact ⟨ret_bool (by rw [hR.out]), rfl⟩
set_option maxRecDepth 100000 in
set_option maxHeartbeats 4000000 in
theorem with_any (s : BitVec 64) (v : Int) (w : World) : Calls Try.prog 46 #[.int .u64 (U s), .int .i64 v] w fun e w' => e = .returned (.int .u64 (U (withB s v))) ∧ w' = w := by
  have MA := may_any v w
  by_cases h : 0 ≤ v ∧ v < 64
  · obtain ⟨k, rfl⟩ : ∃ k : Nat, v = k := ⟨v.toNat, by omega⟩
    have hk : k < 64 := by omega
    rw [mayB_iff.2 h] at MA
    have hR : Hid (U (withB s k) = bits .or .u64 (U s) (IntKind.u64.wrap (1 * 2 ^ k))) := hd (by rw [U_bit k hk, U_or]; unfold withB; rw [if_pos h]; simp)
    clear h
    generalize U (withB s k) = R at *
    generalize U s = S at *
    go_enter Try.func46, Try.ntmps46
    go_wp2_with fail
    refine MA.mono ?_
    rintro e wx ⟨rfl, hwx⟩
    obtain rfl := hwx.symm
    go_wp2_with fail
    go_ret
    exact ⟨ret_u (by rw [hR.out]; simp), rfl⟩
  · have h0 : mayB v = false := by rw [← Bool.not_eq_true, mayB_iff]; exact h
    rw [h0] at MA
    have hR : Hid (U (withB s v) = U s) := hd (by unfold withB; rw [if_neg h])
    clear h h0
    generalize U (withB s v) = R at *
    generalize U s = S at *
    go_enter Try.func46, Try.ntmps46
    go_wp2_with fail
    refine MA.mono ?_
    rintro e wx ⟨rfl, hwx⟩
    obtain rfl := hwx.symm
    go_wp2_with fail
    go_ret
    exact ⟨ret_u hR.out.symm, rfl⟩
set_option maxRecDepth 100000 in
set_option maxHeartbeats 4000000 in
theorem list_any (s : BitVec 64) (w : World) : Calls Try.prog 48 #[.int .u64 (U s)] w fun e w' => ∃ v, e = .returned v ∧ w'.ownsRow w.heap.size 3 1 v (listB s).length (ints (listB s)) ∧ Below w.heap.size w w' := by
  obtain ⟨i0, hi, iz0, iz1, iz2⟩ := info_parts Try.infoInt
  go_enter Try.func48, Try.ntmps48
  go_wp2_with fail
  go_loopw [3, 5] (fun v i wr => ∃ (k : Nat) (acc : List Int), k ≤ 64 ∧ i = .int .i64 k ∧ Hid (acc = upto k fun j => hasB s j) ∧ acc.length ≤ k ∧ wr.ownsRow w.heap.size 3 1 v acc.length (ints acc) ∧ Below w.heap.size w wr) (fun _ i _ => 64 - (intOf i).toNat)
  case atStart => exact ⟨0, [], Nat.zero_le _, rfl, hd rfl, Nat.le_refl _, World.ownsRow_nil _ _ _ _, Below.refl _ _⟩
  case round =>
    obtain ⟨k, acc, hk, rfl, hacc, hal, hown, bel⟩ := hrel
    have hz := bel.size
    by_cases hlt : k < 64
    · have HA := has_any s k wr
      have HY : Hid (hasB s k = true → acc ++ [(k : Int)] = upto (k + 1) fun j => hasB s j) := hd (fun e => by rw [hacc.out, upto_yes (f := fun j : Nat => hasB s j) e])
      have HN : Hid (hasB s k = false → acc = upto (k + 1) fun j => hasB s j) := hd (fun e => by rw [hacc.out, upto_no (f := fun j : Nat => hasB s j) e])
      clear hacc
      generalize hasB s k = q at *
      obtain ⟨aov, capv, rfl⟩ := owns_slice hown
      cases q with
      | true =>
        have HY' := hd (HY.out rfl)
        clear HY HN
        go_wp2_with fail
        refine HA.mono ?_
        rintro e wx ⟨rfl, hwx⟩
        obtain rfl := hwx.symm
        go_wp2_with (first | (at_builtin; go_must (refine wpList_append_own _ rfl _ _ 33 rfl w.heap.size 3 i0 (.int .i64 0) 1 8 Try.underlying33 hi iz0 iz1 iz2 rfl (by decide) _ _ _ rfl (hown.alloc _) ⟨wr.heap.size, 0, none⟩ 1 1 [.int .i64 k] rfl rfl (cell_one_at _ _ _ (by simp)) (oneInts [(k : Int)]) (by unfold maxLen; omega) (by omega) (by simp <;> omega) ?_)))
        intro v1 W1 own1 grow1 _
        go_wp2_with fail
        go_roundw
        case rel => exact ⟨k + 1, acc ++ [(k : Int)], by omega, by go_num, HY', by simp; omega, by simpa [ints] using own1, (bel.alloc hz _).grown grow1 (by simp <;> omega) (fun j hj => (hown.lt j hj).1)⟩
        case measure => simp [intOf]; omega
      | false =>
        have HN' := hd (HN.out rfl)
        clear HY HN
        go_wp2_with fail
        refine HA.mono ?_
        rintro e wx ⟨rfl, hwx⟩
        obtain rfl := hwx.symm
        go_wp2_with fail
        go_roundw
        case rel => exact ⟨k + 1, acc, by omega, by go_num, HN', by omega, hown, bel⟩
        case measure => simp [intOf]; omega
    · have he : acc = listB s := by rw [hacc.out, show k = 64 by omega]; rfl
      rw [he] at hown
      clear hacc hal
      go_wp2_with fail
      go_ret
      exact ⟨_, rfl, hown, bel⟩

/-! Numbers each of which is asked. -/
/-- A function that is called as it is. -/
def Cal (id : Nat) : Prop := ∀ (args : Array Value) (w : World), (callFunc id args).run Try.prog w = .ok (.enter id args) w
theorem cal_has : Cal 47 := fun args w => by go_simp
/-- A look: a function value that answers p of a number, and leaves all as it is. -/
def Lk (W : World) (f : Value) (p : Int → Bool) : Prop := ∃ (id : Nat) (rc cs : Array Value), f = .func (.func id) rc cs ∧ Cal id ∧ ∀ (n : Int) (w : World), Below W.heap.size W w → Calls Try.prog id (rc.push (.int .i64 n) ++ cs) w fun e w' => e = .returned (.bool (p n)) ∧ w' = w
theorem Lk.lw {W W' : World} {f : Value} {p : Int → Bool} (h : Lk W f p) (hb : Below W.heap.size W W') : Lk W' f p :=
  let ⟨id, rc, cs, e, hc, h⟩ := h
  ⟨id, rc, cs, e, hc, fun n w hw => h n w (bthen hb hw)⟩
set_option maxRecDepth 100000 in
set_option maxHeartbeats 4000000 in
theorem fall1_any (n : Int) (bk : Nat) (p : Int → Bool) (f : Value) (w : World) (hf : Lk w f p) (hk : w.cell? ⟨bk, 0, none⟩ = some f) :
    Calls Try.prog 135 #[.int .i64 n, .pointer (some ⟨bk, 0, none⟩)] w fun e w' => e = .returned (.bool (!p n)) ∧ w' = w := by
  obtain ⟨id, rc, cs, rfl, hcf, hc⟩ := hf
  have WA := hc n w (Below.refl _ _)
  clear hc
  unfold Cal at hcf
  generalize p n = q at *
  go_enter Try.func135, Try.ntmps135
  go_wp2_with fail
  refine WA.mono ?_
  rintro e wx ⟨rfl, hwx⟩
  obtain rfl := hwx.symm
  go_wp2_with fail
  go_ret
  exact ⟨rfl, rfl⟩
end Go.Proofs.Ytbhpbleenfegjac.G

/- Numbers each of which is asked, the program's way; a set that grows till nothing more comes. -/
namespace Go.Proofs.Ytbhpbleenfegjac.G
open Go.RowKit
set_option maxRecDepth 100000 in
set_option maxHeartbeats 4000000 in
theorem findexFunc_any (p : Int → Bool) (f : Value) (l : List Int) (va : Value) (bk : Nat) (w : World) (ha : IsV w All va l) (hf : Lk w f p) (hk : w.cell? ⟨bk, 0, none⟩ = some f) :
    Calls Try.prog 110 #[va, .func (.func 135) #[] #[.pointer (some ⟨bk, 0, none⟩)]] w fun e w' => ∃ r : Int, e = .returned (.int .i64 r) ∧ decide (0 ≤ r) = !(l.all p) ∧ w' = w := by
  have AA := fun n => fall1_any n bk p f w hf hk
  obtain ⟨ao, cap, rfl⟩ := ha.slice
  have hl := ha.1
  clear hf hk
  go_enter Try.func110, Try.ntmps110
  go_wp2_with fail
  go_loopw [8] (fun i wr => ∃ k : Nat, k ≤ l.length ∧ i = .int .i64 k ∧ Hid (∀ j (h : j < l.length), j < k → p l[j] = true) ∧ wr = w) (fun i _ => l.length - (intOf i).toNat)
  case atStart => exact ⟨0, Nat.zero_le _, rfl, hd (fun j _ hj => absurd hj (Nat.not_lt_zero _)), rfl⟩
  case round =>
    obtain ⟨k, hk, rfl, hall, rfl⟩ := hrel
    by_cases hlt : k < l.length
    · obtain ⟨b, o, rfl, c0⟩ := ha.at_ hlt
      have AK := AA l[k]
      have HY : Hid (p l[k] = true → ∀ j (h : j < l.length), j < k + 1 → p l[j] = true) := hd (fun e j h hj => by
        by_cases ej : j = k
        · subst ej; exact e
        · exact hall.out j h (by omega))
      have HN : Hid (p l[k] = false → l.all p = false) := hd (fun e => by
        rw [List.all_eq_false]
        exact ⟨_, List.getElem_mem hlt, by simpa using e⟩)
      clear AA
      generalize p l[k] = q at *
      generalize l[k] = x at *
      cases q with
      | true =>
        go_wp2_with fail
        refine AK.mono ?_
        rintro e wx ⟨rfl, hwx⟩
        obtain rfl := hwx.symm
        go_wp2_with fail
        go_roundw
        case rel => exact ⟨k + 1, by omega, by go_num, hd (HY.out trivial), trivial⟩
        case measure => simp [intOf]; omega
      | false =>
        go_wp2_with fail
        refine AK.mono ?_
        rintro e wx ⟨rfl, hwx⟩
        obtain rfl := hwx.symm
        go_wp2_with fail
        go_ret
        exact ⟨(k : Int), rfl, by rw [HN.out trivial]; simp, rfl⟩
    · have hR : Hid (l.all p = true) := hd (by
        rw [List.all_eq_true]
        intro x hx
        obtain ⟨j, hj, rfl⟩ := List.mem_iff_getElem.1 hx
        exact hall.out j hj (by omega))
      go_wp2_with fail
      go_ret
      exact ⟨-1, rfl, by rw [hR.out]; rfl, rfl⟩
set_option maxRecDepth 100000 in
set_option maxHeartbeats 4000000 in
theorem fcontainsFunc_any (p : Int → Bool) (f : Value) (l : List Int) (va : Value) (bk : Nat) (w : World) (ha : IsV w All va l) (hf : Lk w f p) (hk : w.cell? ⟨bk, 0, none⟩ = some f) :
    Calls Try.prog 85 #[va, .func (.func 135) #[] #[.pointer (some ⟨bk, 0, none⟩)]] w fun e w' => e = .returned (.bool (!(l.all p))) ∧ w' = w := by
  have IA := findexFunc_any p f l va bk w ha hf hk
  obtain ⟨ao, cap, rfl⟩ := ha.slice
  clear hf hk ha
  generalize (!(l.all p)) = q at *
  go_enter Try.func85, Try.ntmps85
  go_wp2_with fail
  refine IA.mono ?_
  rintro e wx ⟨r, rfl, hr, hwx⟩
  obtain rfl := hwx.symm
  have HR := hd hr
  clear hr
  go_wp2_with fail
  go_ret
  exact ⟨ret_bool HR.out, rfl⟩
set_option maxRecDepth 100000 in
set_option maxHeartbeats 4000000 in
theorem fall_any (p : Int → Bool) (l : List Int) (va f : Value) (w : World) (ha : IsV w All va l) (hf : Lk w f p) :
    Calls Try.prog 125 #[va, f] w fun e w' => e = .returned (.bool (l.all p)) ∧ Below w.heap.size w w' := by
  obtain ⟨W, hW⟩ : ∃ W, W = w.alloc (.cells #[f] 82) := ⟨_, rfl⟩
  have hWb : Below w.heap.size w W := by rw [hW]; exact al1 _ _
  have CA := fcontainsFunc_any p f l va w.heap.size W (ha.lw hWb) (hf.lw hWb) (by rw [hW]; simp)
  obtain ⟨ao, cap, rfl⟩ := ha.slice
  obtain ⟨id, rc, cs, rfl, _⟩ := hf
  clear ha
  generalize l.all p = q at *
  go_enter Try.func125, Try.ntmps125
  go_wp2_with fail
  rw [← hW]
  refine CA.mono ?_
  rintro e wx ⟨rfl, hwx⟩
  obtain rfl := hwx.symm
  go_wp2_with fail
  go_ret
  exact ⟨ret_bool (by simp), al1 _ _⟩

/-! A set that grows. -/
set_option maxRecDepth 100000 in
set_option maxHeartbeats 4000000 in
theorem grow_any (F : BitVec 64 → BitVec 64) (I : BitVec 64 → Prop) (s : BitVec 64) (hI0 : I s) (hI : ∀ t, I t → I (t ||| F t)) (id : Nat) (cs : Array Value) (w : World) (hcf : Cal id)
    (hF : ∀ (t : BitVec 64) (w1 : World), I t → Below w.heap.size w w1 → Calls Try.prog id (#[.int .u64 (U t)] ++ cs) w1 fun e w' => e = .returned (.int .u64 (U (F t))) ∧ Below w1.heap.size w1 w') :
    Calls Try.prog 104 #[.int .u64 (U s), .func (.func id) #[] cs] w fun e w' => ∃ r, e = .returned (.int .u64 (U r)) ∧ Grows F s r ∧ r ||| F r = r ∧ Below w.heap.size w w' := by
  unfold Cal at hcf
  go_enter Try.func104, Try.ntmps104
  go_wp2_with fail
  go_loopw [0] (fun i wr => ∃ t : BitVec 64, i = .int .u64 (U t) ∧ Hid (Grows F s t) ∧ Hid (I t) ∧ Below w.heap.size w wr) (fun i _ => 18446744073709551616 - (intOf i).toNat)
  case atStart => exact ⟨s, rfl, hd .refl, hd hI0, Below.refl _ _⟩
  case round =>
    obtain ⟨t, rfl, hg, hit, bel⟩ := hrel
    have FA := hF t wr hit.out bel
    obtain ⟨T, hT⟩ : ∃ T, T = t ||| F t := ⟨_, rfl⟩
    have HO : bits .or .u64 (U t) (U (F t)) = U T := by rw [hT]; exact U_or ..
    have HT := hd hT
    clear hT
    have HF : Hid (T = t → t ||| F t = t) := hd (fun h => by rw [← HT.out, h])
    by_cases hq : T = t
    · have hb : (U T == U t) = true := by rw [hq]; simp
      have HQ := hd hq
      clear hq
      go_wp2_with fail
      refine FA.mono ?_
      rintro e wx ⟨rfl, kx⟩
      go_wp2_with fail
      go_ret
      exact ⟨t, rfl, hg.out, HF.out HQ.out, bthen bel kx⟩
    · have hb : (U T == U t) = false := by rw [U_beq]; simpa using hq
      have HM : Hid (t.toNat < T.toNat) := hd (by rw [HT.out]; exact or_more (by rw [← HT.out]; exact hq))
      clear hq
      go_wp2_with fail
      refine FA.mono ?_
      rintro e wx ⟨rfl, kx⟩
      go_wp2_with fail
      go_roundw
      case rel => exact ⟨T, rfl, hd (by rw [HT.out]; exact hg.out.more), hd (by rw [HT.out]; exact hI t hit.out), bthen bel kx⟩
      case measure =>
        have h1 := HM.out
        have h2 := T.isLt
        simp [intOf, U]; omega
end Go.Proofs.Ytbhpbleenfegjac.G

/- What is made, and what is reached, the program's way. -/
namespace Go.Proofs.Ytbhpbleenfegjac.G
open Go.RowKit
/-- A box that may be written. -/
def Bx (w : World) (p : Nat) (v : Value) : Prop := w.cell? ⟨p, 0, none⟩ = some v ∧ w.frozen? ⟨p, 0, none⟩ = false
theorem Bx.lw {w w' : World} {p : Nat} {v : Value} (h : Bx w p v) (hb : Below w.heap.size w w') : Bx w' p v :=
  ⟨bkeep hb h.1, (World.frozen?_of_block (a := ⟨p, 0, none⟩) (hb.block p (lt_of_cell h.1))).trans h.2⟩
theorem Bx.set {w : World} {p : Nat} {v u : Value} (h : Bx w p v) : Bx (w.setCell ⟨p, 0, none⟩ u) p u :=
  ⟨World.cell?_setCell_same _ _ _ h.1, by rw [World.frozen?_setCell]; exact h.2⟩
theorem Bx_new (w : World) (v : Value) (t : TypeId) {p : Nat} (hp : p = w.heap.size) : Bx (w.alloc (.cells #[v] t)) p v := by
  subst hp; exact ⟨by simp, by simp [go_sem]⟩
/-- A number is fit, as a set says. -/
def FitC (id : Nat) (t : Bool) : Prop := Cal id ∧ ∀ (s : BitVec 64) (n : Int) (w : World), Calls Try.prog id #[.int .u64 (U s), .int .i64 n] w fun e w' => e = .returned (.bool (fitB t s n)) ∧ w' = w
set_option maxRecDepth 100000 in
set_option maxHeartbeats 4000000 in
theorem fit_null : FitC 102 false := by
  refine ⟨fun args w => by go_simp, fun s n w => ?_⟩
  have HA := has_any s n w
  have HR : Hid (fitB false s n = hasB s n) := hd (by simp [fitB])
  generalize hasB s n = q at *
  generalize fitB false s n = r at *
  generalize U s = S at *
  go_enter Try.func102, Try.ntmps102
  go_wp2_with fail
  refine HA.mono ?_
  rintro e wx ⟨rfl, hwx⟩
  obtain rfl := hwx.symm
  go_wp2_with fail
  go_ret
  exact ⟨ret_bool HR.out.symm, rfl⟩
set_option maxRecDepth 100000 in
set_option maxHeartbeats 4000000 in
theorem fit_prod : FitC 103 true := by
  refine ⟨fun args w => by go_simp, fun s n w => ?_⟩
  have HA := has_any s n w
  have HR : Hid (fitB true s n = (decide (n < 0) || hasB s n)) := hd (by simp [fitB])
  generalize hasB s n = q at *
  generalize fitB true s n = r at *
  generalize U s = S at *
  by_cases h : n < 0
  · have hr : Hid (r = true) := hd (by rw [HR.out]; simp [h])
    clear HR HA
    go_enter Try.func103, Try.ntmps103
    go_wp2_with fail
    go_ret
    exact ⟨ret_bool hr.out.symm, rfl⟩
  · have hr : Hid (r = q) := hd (by rw [HR.out]; simp [h])
    clear HR
    go_enter Try.func103, Try.ntmps103
    go_wp2_with fail
    refine HA.mono ?_
    rintro e wx ⟨rfl, hwx⟩
    obtain rfl := hwx.symm
    go_wp2_with fail
    go_ret
    exact ⟨ret_bool hr.out.symm, rfl⟩
set_option maxRecDepth 100000 in
set_option maxHeartbeats 4000000 in
theorem made11_any (t : Bool) (fid : Nat) (hfc : FitC fid t) (s : BitVec 64) (n : Int) (bf bs : Nat) (w : World) (hb : w.cell? ⟨bf, 0, none⟩ = some (.func (.func fid) #[] #[])) (hs : w.cell? ⟨bs, 0, none⟩ = some (.int .u64 (U s))) :
    Calls Try.prog 126 #[.int .i64 n, .pointer (some ⟨bf, 0, none⟩), .pointer (some ⟨bs, 0, none⟩)] w fun e w' => e = .returned (.bool (fitB t s n)) ∧ w' = w := by
  obtain ⟨hcf, hc⟩ := hfc
  have HA := hc s n w
  clear hc
  unfold Cal at hcf
  generalize fitB t s n = q at *
  generalize U s = S at *
  go_enter Try.func126, Try.ntmps126
  go_wp2_with fail
  refine HA.mono ?_
  rintro e wx ⟨rfl, hwx⟩
  obtain rfl := hwx.symm
  go_wp2_with fail
  go_ret
  exact ⟨rfl, rfl⟩
theorem made_lk {t : Bool} {fid : Nat} (hfc : FitC fid t) {s : BitVec 64} {bf bs : Nat} {w : World} (hb : w.cell? ⟨bf, 0, none⟩ = some (.func (.func fid) #[] #[])) (hs : w.cell? ⟨bs, 0, none⟩ = some (.int .u64 (U s))) :
    Lk w (.func (.func 126) #[] #[.pointer (some ⟨bf, 0, none⟩), .pointer (some ⟨bs, 0, none⟩)]) (fitB t s) :=
  ⟨_, _, _, rfl, (fun args w => by go_simp), fun n w1 h1 => made11_any t fid hfc s n bf bs w1 (bkeep h1 hb) (bkeep h1 hs)⟩
theorem madeR_snoc (fit : BitVec 64 → Int → Bool) (R : List Ru) (s : BitVec 64) {k : Nat} (h : k < R.length) : madeR fit (R.take (k + 1)) s = if R[k].right.all (fit (madeR fit (R.take k) s)) then withB (madeR fit (R.take k) s) R[k].left else madeR fit (R.take k) s := by
  unfold madeR
  rw [take_snoc R h, List.foldl_append]
  rfl
set_option maxRecDepth 100000 in
set_option maxHeartbeats 4000000 in
theorem made1_any (t : Bool) (fid : Nat) (hfc : FitC fid t) (R : List Ru) (s : BitVec 64) (u : Value) (pg bf : Nat) (w : World) (h3 : w.cell? ⟨pg, 3, none⟩ = some u) (hr : RsV w All u R) (hb : w.cell? ⟨bf, 0, none⟩ = some (.func (.func fid) #[] #[])) :
    Calls Try.prog 124 #[.int .u64 (U s), .pointer (some ⟨pg, 0, none⟩), .pointer (some ⟨bf, 0, none⟩)] w fun e w' => e = .returned (.int .u64 (U (madeR (fitB t) R s))) ∧ Below w.heap.size w w' := by
  obtain ⟨ao, cap, rfl⟩ := hr.slice
  have hl := hr.1
  obtain ⟨W, hW⟩ : ∃ W, W = w.alloc (.cells #[.int .u64 (U s)] 80) := ⟨_, rfl⟩
  have hWb : Below w.heap.size w W := by rw [hW]; exact al1 _ _
  have hWx : Bx W w.heap.size (.int .u64 (U s)) := by rw [hW]; exact Bx_new _ _ _ rfl
  have hW3 := bkeep hWb h3
  have hA3 := alcell h3 (.cells #[.int .u64 (U s)] 80)
  go_enter Try.func124, Try.ntmps124
  go_wp2_with fail
  rw [← hW]
  have HW := hd hW
  clear hW hA3
  go_loopw [10] (fun i wr => ∃ (k : Nat) (acc : BitVec 64), k ≤ R.length ∧ i = .int .i64 k ∧ Hid (acc = madeR (fitB t) (R.take k) s) ∧ Bx wr w.heap.size (.int .u64 (U acc)) ∧ Below w.heap.size w wr) (fun i _ => R.length - (intOf i).toNat)
  case atStart => exact ⟨0, s, Nat.zero_le _, rfl, hd (by simp [madeR]), hWx, hWb⟩
  case round =>
    obtain ⟨k, acc, hk, rfl, hacc, hx, bel⟩ := hrel
    have hz := bel.size
    by_cases hlt : k < R.length
    · obtain ⟨b, o, rfl, c0, ar, cr, c1, hc⟩ := (hr.lw bel).at_ hlt
      have HY : Hid (R[k].right.all (fitB t acc) = true → withB acc R[k].left = madeR (fitB t) (R.take (k + 1)) s) := hd (fun e => by rw [madeR_snoc _ _ _ hlt, ← hacc.out, if_pos e])
      have HN : Hid (R[k].right.all (fitB t acc) = false → acc = madeR (fitB t) (R.take (k + 1)) s) := hd (fun e => by rw [madeR_snoc _ _ _ hlt, ← hacc.out, if_neg (by rw [e]; simp)])
      clear hacc
      generalize R[k] = x at *
      have hxl := hc.1
      obtain ⟨V, hV⟩ : ∃ V, V = wr.alloc (.cells #[.int .i64 x.left, .slice ar x.right.length cr] 37) := ⟨_, rfl⟩
      have hVb : Below wr.heap.size wr V := by rw [hV]; exact al1 _ _
      have hV1 : V.cell? ⟨wr.heap.size, 1, none⟩ = some (.slice ar x.right.length cr) := by rw [hV]; simp
      have hV0 : V.cell? ⟨wr.heap.size, 0, none⟩ = some (.int .i64 x.left) := by rw [hV]; simp
      have belV : Below w.heap.size w V := bthen bel hVb
      have xV := hx.lw hVb
      have FA := fall_any (fitB t acc) x.right _ _ V (hc.lw hVb) (made_lk hfc (bkeep belV hb) xV.1)
      clear hc
      generalize x.right.all (fitB t acc) = q at *
      cases q with
      | true =>
        have HY' := hd (HY.out rfl)
        clear HY HN
        go_wp2_with fail
        rw [← hV]
        clear hV
        go_wp2_with fail
        refine FA.mono ?_
        rintro e wx ⟨rfl, kx⟩
        have xx := xV.lw kx
        have x0 := xx.1
        have xf := xx.2
        have y0 := bkeep kx hV0
        go_wp2_with fail
        refine (with_any acc x.left wx).mono ?_
        rintro e wy ⟨rfl, hwy⟩
        obtain rfl := hwy.symm
        go_wp2_with fail
        go_roundw
        case rel => exact ⟨k + 1, _, by omega, by go_num, HY', xx.set, (bthen belV kx).setCell (p := ⟨w.heap.size, 0, none⟩) (Nat.le_refl _) _⟩
        case measure => simp [intOf]; omega
      | false =>
        have HN' := hd (HN.out rfl)
        clear HY HN
        go_wp2_with fail
        rw [← hV]
        clear hV
        go_wp2_with fail
        refine FA.mono ?_
        rintro e wx ⟨rfl, kx⟩
        go_wp2_with fail
        go_roundw
        case rel => exact ⟨k + 1, acc, by omega, by go_num, HN', xV.lw kx, bthen belV kx⟩
        case measure => simp [intOf]; omega
    · have he : Hid (acc = madeR (fitB t) R s) := hd (by rw [hacc.out, List.take_of_length_le (by omega)])
      have x0 := hx.1
      clear hacc
      go_wp2_with fail
      go_ret
      exact ⟨ret_u (by rw [he.out]), bel⟩
set_option maxRecDepth 100000 in
set_option maxHeartbeats 4000000 in
theorem made_any (t : Bool) (fid : Nat) (hfc : FitC fid t) (g : Gm) (va : Value) (w : World) (ha : GV w All va g) :
    Calls Try.prog 101 #[va, .func (.func fid) #[] #[]] w fun e w' => ∃ r, e = .returned (.int .u64 (U r)) ∧ Grows (madeR (fitB t) g.rules) 0#64 r ∧ r ||| madeR (fitB t) g.rules r = r ∧ Below w.heap.size w w' := by
  obtain ⟨u, rfl, hr⟩ := ha
  obtain ⟨ao, cap, rfl⟩ := hr.slice
  obtain ⟨V, hV⟩ : ∃ V, V = w.alloc (.cells #[.int .i64 g.vars, .int .i64 g.terms, .int .i64 g.start, .slice ao g.rules.length cap] 24) := ⟨_, rfl⟩
  have hVb : Below w.heap.size w V := by rw [hV]; exact al1 _ _
  have hVz : V.heap.size = w.heap.size + 1 := by rw [hV]; simp
  have hV3 : V.cell? ⟨w.heap.size, 3, none⟩ = some (.slice ao g.rules.length cap) := by rw [hV]; simp
  obtain ⟨W, hW⟩ : ∃ W, W = V.alloc (.cells #[.func (.func fid) #[] #[]] 130) := ⟨_, rfl⟩
  have hWb : Below V.heap.size V W := by rw [hW]; exact al1 _ _
  have hW0 : W.cell? ⟨w.heap.size + 1, 0, none⟩ = some (.func (.func fid) #[] #[]) := by rw [hW, ← hVz]; simp
  have hW3 := bkeep hWb hV3
  have kW := bthen hVb hWb
  have GA := grow_any (madeR (fitB t) g.rules) (fun _ => True) 0#64 trivial (fun _ _ => trivial) 124 #[.pointer (some ⟨w.heap.size, 0, none⟩), .pointer (some ⟨w.heap.size + 1, 0, none⟩)] W (fun args w => by go_simp)
    (fun s w1 _ h1 => made1_any t fid hfc g.rules s _ w.heap.size (w.heap.size + 1) w1 (bkeep h1 hW3) (hr.lw (bthen kW h1)) (bkeep h1 hW0))
  rw [← U_zero] at GA
  go_enter Try.func101, Try.ntmps101
  go_wp2_with fail
  rw [← hV, ← hW]
  refine GA.mono ?_
  rintro e wx ⟨r, rfl, h1, h2, kx⟩
  have HG := hd h1
  have HF := hd h2
  clear h1 h2 hV hW
  go_wp2_with fail
  go_ret
  exact ⟨r, rfl, HG.out, HF.out, bthen kW kx⟩
/-- What finds a set: it is called as it is, and answers those of which p is so. -/
def FndC (id : Nat) (g : Gm) (p : Int → Prop) : Prop := Cal id ∧ ∀ (va : Value) (w : World), GV w All va g → Calls Try.prog id #[va] w fun e w' => ∃ r, e = .returned (.int .u64 (U r)) ∧ (∀ v, hasB r v = true ↔ p v) ∧ Below w.heap.size w w'
set_option maxRecDepth 100000 in
set_option maxHeartbeats 4000000 in
theorem nullable_any (g : Gm) (hR : Lfs g.rules) : FndC 74 g (Gen false g.rules) := by
  refine ⟨fun args w => by go_simp, fun va w ha => ?_⟩
  obtain ⟨u, rfl, hr⟩ := ha
  obtain ⟨ao, cap, rfl⟩ := hr.slice
  obtain ⟨V, hV⟩ : ∃ V, V = w.alloc (.cells #[.int .i64 g.vars, .int .i64 g.terms, .int .i64 g.start, .slice ao g.rules.length cap] 24) := ⟨_, rfl⟩
  have hVb : Below w.heap.size w V := by rw [hV]; exact al1 _ _
  have MA := made_any false _ fit_null g _ V ⟨_, rfl, hr.lw hVb⟩
  go_enter Try.func74, Try.ntmps74
  go_wp2_with fail
  rw [← hV]
  refine MA.mono ?_
  rintro e wx ⟨r, rfl, h1, h2, kx⟩
  have HM := hd (made_right hR h1 h2)
  clear h1 h2 hV
  go_wp2_with fail
  go_ret
  exact ⟨r, rfl, HM.out, bthen hVb kx⟩
set_option maxRecDepth 100000 in
set_option maxHeartbeats 4000000 in
theorem productive_any (g : Gm) (hR : Lfs g.rules) : FndC 75 g (Gen true g.rules) := by
  refine ⟨fun args w => by go_simp, fun va w ha => ?_⟩
  obtain ⟨u, rfl, hr⟩ := ha
  obtain ⟨ao, cap, rfl⟩ := hr.slice
  obtain ⟨V, hV⟩ : ∃ V, V = w.alloc (.cells #[.int .i64 g.vars, .int .i64 g.terms, .int .i64 g.start, .slice ao g.rules.length cap] 24) := ⟨_, rfl⟩
  have hVb : Below w.heap.size w V := by rw [hV]; exact al1 _ _
  have MA := made_any true _ fit_prod g _ V ⟨_, rfl, hr.lw hVb⟩
  go_enter Try.func75, Try.ntmps75
  go_wp2_with fail
  rw [← hV]
  refine MA.mono ?_
  rintro e wx ⟨r, rfl, h1, h2, kx⟩
  have HM := hd (made_right hR h1 h2)
  clear h1 h2 hV
  go_wp2_with fail
  go_ret
  exact ⟨r, rfl, HM.out, bthen hVb kx⟩
set_option maxRecDepth 100000 in
set_option maxHeartbeats 4000000 in
theorem fwithin_any (l : List Int) (va : Value) (w : World) (ha : IsV w All va l) :
    Calls Try.prog 106 #[va] w fun e w' => e = .returned (.int .u64 (U (withinB l))) ∧ w' = w := by
  obtain ⟨ao, cap, rfl⟩ := ha.slice
  have hl := ha.1
  go_enter Try.func106, Try.ntmps106
  go_wp2_with fail
  go_loopw [3, 8] (fun v i wr => ∃ (k : Nat) (acc : BitVec 64), k ≤ l.length ∧ i = .int .i64 k ∧ v = .int .u64 (U acc) ∧ Hid (acc = (l.take k).foldl withB 0#64) ∧ wr = w) (fun _ i _ => l.length - (intOf i).toNat)
  case atStart => exact ⟨0, 0#64, Nat.zero_le _, rfl, rfl, hd (by simp), rfl⟩
  case round =>
    obtain ⟨k, acc, hk, rfl, rfl, hacc, rfl⟩ := hrel
    by_cases hlt : k < l.length
    · obtain ⟨b, o, rfl, c0⟩ := ha.at_ hlt
      have HA : Hid (withB acc l[k] = (l.take (k + 1)).foldl withB 0#64) := hd (by rw [take_snoc l hlt, List.foldl_append, ← hacc.out]; rfl)
      clear hacc
      generalize l[k] = x at *
      go_wp2_with fail
      refine (with_any acc x wr).mono ?_
      rintro e wy ⟨rfl, hwy⟩
      obtain rfl := hwy.symm
      go_wp2_with fail
      go_roundw
      case rel => exact ⟨k + 1, _, by omega, by go_num, rfl, HA, trivial⟩
      case measure => simp [intOf]; omega
    · have he : Hid (acc = withinB l) := hd (by rw [hacc.out, List.take_of_length_le (by omega)]; rfl)
      clear hacc
      go_wp2_with fail
      go_ret
      exact ⟨ret_u (by rw [he.out]), rfl⟩
theorem reachR_snoc (R : List Ru) (s : BitVec 64) {k : Nat} (h : k < R.length) : reachR (R.take (k + 1)) s = if hasB (reachR (R.take k) s) R[k].left then reachR (R.take k) s ||| withinB R[k].right else reachR (R.take k) s := by
  unfold reachR
  rw [take_snoc R h, List.foldl_append]
  rfl
set_option maxRecDepth 100000 in
set_option maxHeartbeats 4000000 in
theorem reachable1_any (R : List Ru) (s : BitVec 64) (u : Value) (pg : Nat) (w : World) (h3 : w.cell? ⟨pg, 3, none⟩ = some u) (hr : RsV w All u R) :
    Calls Try.prog 105 #[.int .u64 (U s), .pointer (some ⟨pg, 0, none⟩)] w fun e w' => e = .returned (.int .u64 (U (reachR R s))) ∧ Below w.heap.size w w' := by
  obtain ⟨ao, cap, rfl⟩ := hr.slice
  have hl := hr.1
  go_enter Try.func105, Try.ntmps105
  go_wp2_with fail
  go_loopw [0, 9] (fun v i wr => ∃ (k : Nat) (acc : BitVec 64), k ≤ R.length ∧ i = .int .i64 k ∧ v = .int .u64 (U acc) ∧ Hid (acc = reachR (R.take k) s) ∧ Below w.heap.size w wr) (fun _ i _ => R.length - (intOf i).toNat)
  case atStart => exact ⟨0, s, Nat.zero_le _, rfl, rfl, hd (by simp [reachR]), Below.refl _ _⟩
  case round =>
    obtain ⟨k, acc, hk, rfl, rfl, hacc, bel⟩ := hrel
    have hz := bel.size
    by_cases hlt : k < R.length
    · obtain ⟨b, o, rfl, c0, ar, cr, c1, hc⟩ := (hr.lw bel).at_ hlt
      have HY : Hid (hasB acc R[k].left = true → acc ||| withinB R[k].right = reachR (R.take (k + 1)) s) := hd (fun e => by rw [reachR_snoc _ _ hlt, ← hacc.out, if_pos e])
      have HN : Hid (hasB acc R[k].left = false → acc = reachR (R.take (k + 1)) s) := hd (fun e => by rw [reachR_snoc _ _ hlt, ← hacc.out, if_neg (by rw [e]; simp)])
      clear hacc
      generalize R[k] = x at *
      have hxl := hc.1
      obtain ⟨V, hV⟩ : ∃ V, V = wr.alloc (.cells #[.int .i64 x.left, .slice ar x.right.length cr] 37) := ⟨_, rfl⟩
      have hVb : Below wr.heap.size wr V := by rw [hV]; exact al1 _ _
      have hV1 : V.cell? ⟨wr.heap.size, 1, none⟩ = some (.slice ar x.right.length cr) := by rw [hV]; simp
      have hV0 : V.cell? ⟨wr.heap.size, 0, none⟩ = some (.int .i64 x.left) := by rw [hV]; simp
      have belV : Below w.heap.size w V := bthen bel hVb
      have HA := has_any acc x.left V
      have WA := fwithin_any x.right _ V (hc.lw hVb)
      clear hc
      generalize hasB acc x.left = q at *
      cases q with
      | true =>
        obtain ⟨T, hT⟩ : ∃ T, T = acc ||| withinB x.right := ⟨_, rfl⟩
        have HO : bits .or .u64 (U acc) (U (withinB x.right)) = U T := by rw [hT]; exact U_or ..
        have HY' : Hid (T = reachR (R.take (k + 1)) s) := hd (by rw [hT]; exact HY.out rfl)
        clear HY HN hT
        go_wp2_with fail
        rw [← hV]
        clear hV
        go_wp2_with fail
        refine HA.mono ?_
        rintro e wx ⟨rfl, hwx⟩
        obtain rfl := hwx.symm
        go_wp2_with fail
        refine WA.mono ?_
        rintro e wx ⟨rfl, hwx⟩
        obtain rfl := hwx.symm
        go_wp2_with fail
        go_roundw
        case rel => exact ⟨k + 1, T, by omega, by go_num, rfl, HY', belV⟩
        case measure => simp [intOf]; omega
      | false =>
        have HN' := hd (HN.out rfl)
        clear HY HN
        go_wp2_with fail
        rw [← hV]
        clear hV
        go_wp2_with fail
        refine HA.mono ?_
        rintro e wx ⟨rfl, hwx⟩
        obtain rfl := hwx.symm
        go_wp2_with fail
        go_roundw
        case rel => exact ⟨k + 1, acc, by omega, by go_num, rfl, HN', belV⟩
        case measure => simp [intOf]; omega
    · have he : Hid (acc = reachR R s) := hd (by rw [hacc.out, List.take_of_length_le (by omega)])
      clear hacc
      go_wp2_with fail
      go_ret
      exact ⟨ret_u (by rw [he.out]), bel⟩
set_option maxRecDepth 100000 in
set_option maxHeartbeats 4000000 in
theorem reachable_any (g : Gm) (h0 : 0 ≤ g.start) (h1 : g.start < 64) (hR : Rts g.rules) : FndC 76 g (Rch g.rules g.start) := by
  refine ⟨fun args w => by go_simp, fun va w ha => ?_⟩
  obtain ⟨u, rfl, hr⟩ := ha
  obtain ⟨ao, cap, rfl⟩ := hr.slice
  obtain ⟨V, hV⟩ : ∃ V, V = w.alloc (.cells #[.int .i64 g.vars, .int .i64 g.terms, .int .i64 g.start, .slice ao g.rules.length cap] 24) := ⟨_, rfl⟩
  have hVb : Below w.heap.size w V := by rw [hV]; exact al1 _ _
  have hV2 : V.cell? ⟨w.heap.size, 2, none⟩ = some (.int .i64 g.start) := by rw [hV]; simp
  have hV3 : V.cell? ⟨w.heap.size, 3, none⟩ = some (.slice ao g.rules.length cap) := by rw [hV]; simp
  have WA := with_any 0#64 g.start V
  rw [← U_zero] at WA
  have GA := grow_any (reachR g.rules) (fun _ => True) (withB 0#64 g.start) trivial (fun _ _ => trivial) 105 #[.pointer (some ⟨w.heap.size, 0, none⟩)] V (fun args w => by go_simp)
    (fun s w1 _ h1 => reachable1_any g.rules s _ w.heap.size w1 (bkeep h1 hV3) (hr.lw (bthen hVb h1)))
  have HR := hd (fun r => reach_right h0 h1 hR (r := r))
  clear h0 h1
  generalize withB 0#64 g.start = S at *
  go_enter Try.func76, Try.ntmps76
  go_wp2_with fail
  rw [← hV]
  clear hV
  go_wp2_with fail
  refine WA.mono ?_
  rintro e wx ⟨rfl, hwx⟩
  obtain rfl := hwx.symm
  go_wp2_with fail
  refine GA.mono ?_
  rintro e wx ⟨r, rfl, h1, h2, kx⟩
  have HM := hd (HR.out r h1 h2)
  clear h1 h2
  go_wp2_with fail
  go_ret
  exact ⟨r, rfl, HM.out, bthen hVb kx⟩
end Go.Proofs.Ytbhpbleenfegjac.G
