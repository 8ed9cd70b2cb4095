/- What is so of nonterminals, in mathematics: trees, what Start comes to, what leads where. -/
import Derived.Test.YtlhdppkllmnmkadL01
namespace Go.Proofs.Ytlhdppkllmnmkad.G

/-- Those that have a tree (t: with terminals in it; else with the empty word). -/
inductive Gen (t : Bool) (R : List Ru) : Int → Prop
  | mk (r : Ru) (h : r ∈ R) (hs : ∀ s ∈ r.right, ¬ (t = true ∧ s < 0) → Gen t R s) : Gen t R r.left
theorem Gen.mono {t : Bool} {R R' : List Ru} (h : ∀ r ∈ R, r ∈ R') {v : Int} (hv : Gen t R v) : Gen t R' v := by
  induction hv with
  | mk r hr _ ih => exact .mk r (h r hr) ih
/-- Start, and those that stand in rules of such ones. -/
inductive Rch (R : List Ru) (st : Int) : Int → Prop
  | start : Rch R st st
  | step (r : Ru) (h : r ∈ R) (hl : Rch R st r.left) (s : Int) (hs : s ∈ r.right) (h0 : 0 ≤ s) : Rch R st s
theorem Rch.mono {R R' : List Ru} (h : ∀ r ∈ R, r ∈ R') {st v : Int} (hv : Rch R st v) : Rch R' st v := by
  induction hv with
  | start => exact .start
  | step r hr _ s hs h0 ih => exact .step r (h r hr) ih s hs h0
/-- A right side has b at a place ahead of which (and, if not c, behind which) all are nullable. -/
def Fit (c : Bool) (E : Int → Prop) (l : List Int) (b : Int) : Prop := ∃ k, ∃ h : k < l.length, l[k] = b ∧ (∀ s ∈ l.take k, E s) ∧ (c = true ∨ ∀ s ∈ l.drop (k + 1), E s)
theorem Fit.mono {c : Bool} {E E' : Int → Prop} (h : ∀ v, E v → E' v) {l : List Int} {b : Int} (hf : Fit c E l b) : Fit c E' l b :=
  let ⟨k, hk, h1, h2, h3⟩ := hf
  ⟨k, hk, h1, fun s hs => h s (h2 s hs), h3.imp (fun h => h) fun h3 s hs => h s (h3 s hs)⟩
/-- One step. -/
def Lds (c : Bool) (E : Int → Prop) (R : List Ru) (a b : Int) : Prop := 0 ≤ b ∧ ∃ r ∈ R, r.left = a ∧ Fit c E r.right b
/-- One step or more. -/
inductive Led (c : Bool) (E : Int → Prop) (R : List Ru) (a : Int) : Int → Prop
  | one {b : Int} (h : Lds c E R a b) : Led c E R a b
  | more {b d : Int} (h : Led c E R a b) (h' : Lds c E R b d) : Led c E R a d
theorem Led.mono {c : Bool} {E E' : Int → Prop} {R R' : List Ru} (hE : ∀ v, E v → E' v) (h : ∀ r ∈ R, r ∈ R') {a b : Int} (hv : Led c E R a b) : Led c E' R' a b := by
  have st : ∀ {x y}, Lds c E R x y → Lds c E' R' x y := fun ⟨h0, r, hr, e, hf⟩ => ⟨h0, r, h r hr, e, hf.mono hE⟩
  induction hv with
  | one h => exact .one (st h)
  | more _ h' ih => exact .more ih (st h')
theorem Led.trans {c : Bool} {E : Int → Prop} {R : List Ru} {a b d : Int} (h : Led c E R a b) (h' : Led c E R b d) : Led c E R a d := by
  induction h' with
  | one h' => exact .more h h'
  | more _ h' ih => exact .more ih h'

/-! Sets of numbers from 0 to 63. -/
/-- A set as the number that it is. -/
def U (s : BitVec 64) : Int := (s.toNat : Int)
theorem U_inj {a b : BitVec 64} (h : U a = U b) : a = b := BitVec.eq_of_toNat_eq (by unfold U at h; omega)
theorem U_beq (a b : BitVec 64) : (U a == U b) = decide (a = b) := by
  by_cases h : a = b
  · subst h; simp
  · have : ¬ U a = U b := fun e => h (U_inj e)
    simp [h, this]
theorem U_ofInt (s : BitVec 64) : BitVec.ofInt 64 (U s) = s := by
  unfold U
  rw [BitVec.ofInt_natCast, BitVec.ofNat_toNat]; simp
theorem U_wrap (s : BitVec 64) : IntKind.u64.wrap (U s) = U s := by
  have e : IntKind.u64.wrap (U s) = U s % 2 ^ 64 := rfl
  rw [e]; unfold U
  have := s.isLt
  omega
theorem U_or (a b : BitVec 64) : bits .or .u64 (U a) (U b) = U (a ||| b) := by
  have e : bits .or .u64 (U a) (U b) = IntKind.u64.wrap (((BitVec.ofInt 64 (U a) ||| BitVec.ofInt 64 (U b)).toNat : Nat) : Int) := rfl
  rw [e, U_ofInt, U_ofInt]
  exact U_wrap _
theorem U_zero : (0 : Int) = U 0#64 := rfl
theorem U_bit (k : Nat) (h : k < 64) : IntKind.u64.wrap (1 * 2 ^ k) = U (BitVec.twoPow 64 k) := by
  have e : IntKind.u64.wrap (1 * 2 ^ k) = (1 * 2 ^ k) % 2 ^ 64 := rfl
  have h2 : (2 : Nat) ^ k < 2 ^ 64 := Nat.pow_lt_pow_right (by decide) h
  have h3 : U (BitVec.twoPow 64 k) = ((2 ^ k : Nat) : Int) := by
    unfold U
    rw [BitVec.toNat_twoPow, Nat.mod_eq_of_lt h2]
  rw [e, h3, Int.one_mul]
  have h4 : ((2 : Int) ^ k) = ((2 ^ k : Nat) : Int) := by simp
  rw [h4]
  generalize (2 : Nat) ^ k = x at *
  omega
theorem U_has (s : BitVec 64) (k : Nat) : (bits .and .u64 (U s / 2 ^ k) 1 == 1) = s.getLsbD k := by
  have h1 : U s / 2 ^ k = U (s >>> k) := by
    unfold U
    rw [BitVec.toNat_ushiftRight, Nat.shiftRight_eq_div_pow]
    simp
  rw [h1]
  have e : bits .and .u64 (U (s >>> k)) 1 = IntKind.u64.wrap (((BitVec.ofInt 64 (U (s >>> k)) &&& 1#64).toNat : Nat) : Int) := rfl
  rw [e, U_ofInt]
  have e2 : ((((s >>> k) &&& 1#64).toNat : Nat) : Int) = U ((s >>> k) &&& 1#64) := rfl
  rw [e2, U_wrap]
  have e3 : (1 : Int) = U 1#64 := rfl
  rw [e3, U_beq]
  have h5 : s.getLsbD k = (s >>> k).getLsbD 0 := by simp
  rw [h5]
  generalize s >>> k = t
  cases h : t.getLsbD 0 with
  | false =>
    simp only [decide_eq_false_iff_not]
    intro h6
    have h7 := congrArg (fun x => x.getLsbD 0) h6
    simp only [BitVec.getLsbD_and, h] at h7
    simp at h7
  | true =>
    simp only [decide_eq_true_eq]
    apply BitVec.eq_of_getLsbD_eq
    intro i hi
    cases i with
    | zero => simp [h]
    | succ i => simp [BitVec.getLsbD_one]
def hasB (s : BitVec 64) (v : Int) : Bool := decide (0 ≤ v) && decide (v < 64) && s.getLsbD v.toNat
def withB (s : BitVec 64) (v : Int) : BitVec 64 := if 0 ≤ v ∧ v < 64 then s ||| BitVec.twoPow 64 v.toNat else s
theorem has_zero (v : Int) : hasB 0#64 v = false := by simp [hasB]
theorem has_or (a b : BitVec 64) (v : Int) : hasB (a ||| b) v = (hasB a v || hasB b v) := by
  simp only [hasB, BitVec.getLsbD_or]
  cases decide (0 ≤ v) <;> cases decide (v < 64) <;> simp
theorem has_nat (s : BitVec 64) {k : Nat} (h : k < 64) : hasB s k = s.getLsbD k := by
  have h1 : (k : Int) < 64 := by omega
  simp [hasB, h1]
theorem has_in {s : BitVec 64} {v : Int} (h : hasB s v = true) : 0 ≤ v ∧ v < 64 := by
  simp [hasB] at h; exact h.1
theorem has_with (s : BitVec 64) (v u : Int) : hasB (withB s v) u = true ↔ hasB s u = true ∨ (u = v ∧ 0 ≤ v ∧ v < 64) := by
  unfold withB
  split
  next h =>
    rw [has_or, Bool.or_eq_true]
    apply or_congr Iff.rfl
    simp only [hasB, BitVec.getLsbD_twoPow, Bool.and_eq_true, decide_eq_true_eq]
    omega
  next h =>
    exact ⟨.inl, fun h' => h'.elim id fun ⟨e, h0⟩ => absurd h0 h⟩
theorem set_ext {a b : BitVec 64} (h : ∀ v, hasB a v = true ↔ hasB b v = true) : a = b := by
  apply BitVec.eq_of_getLsbD_eq
  intro i hi
  rw [← has_nat a hi, ← has_nat b hi]
  have := h i
  cases h1 : hasB a i <;> cases h2 : hasB b i <;> simp_all
theorem or_same {a b : BitVec 64} : a ||| b = a ↔ ∀ v, hasB b v = true → hasB a v = true := by
  constructor
  · intro h v hv
    rw [← h, has_or, hv, Bool.or_true]
  · intro h
    apply set_ext
    intro v
    rw [has_or, Bool.or_eq_true]
    exact ⟨fun h' => h'.elim id (h v), .inl⟩
theorem or_more {a b : BitVec 64} (h : ¬ a ||| b = a) : a.toNat < (a ||| b).toNat := by
  have h1 : a.toNat ≤ (a ||| b).toNat := by rw [BitVec.toNat_or]; exact Nat.left_le_or
  have h2 : a.toNat ≠ (a ||| b).toNat := fun e => h (BitVec.eq_of_toNat_eq e.symm)
  omega

/-! Those numbers under n of which something is so, rising. -/
def upto (n : Nat) (f : Nat → Bool) : List Int := ((List.range n).filter f).map Int.ofNat
theorem upto_yes {n : Nat} {f : Nat → Bool} (h : f n = true) : upto (n + 1) f = upto n f ++ [(n : Int)] := by simp [upto, List.range_succ, h]
theorem upto_no {n : Nat} {f : Nat → Bool} (h : f n = false) : upto (n + 1) f = upto n f := by simp [upto, List.range_succ, h]
theorem upto_len (n : Nat) (f : Nat → Bool) : (upto n f).length ≤ n := by
  unfold upto; rw [List.length_map]
  exact Nat.le_trans (List.length_filter_le _ _) (by simp)
theorem mem_upto {n : Nat} {f : Nat → Bool} {v : Int} : v ∈ upto n f ↔ 0 ≤ v ∧ v.toNat < n ∧ f v.toNat = true := by
  unfold upto
  simp only [List.mem_map, List.mem_filter, List.mem_range]
  constructor
  · rintro ⟨k, ⟨h1, h2⟩, rfl⟩
    exact ⟨by simp, by simpa using h1, by simpa using h2⟩
  · rintro ⟨h0, h1, h2⟩
    exact ⟨v.toNat, ⟨h1, h2⟩, by simp; omega⟩
def listB (s : BitVec 64) : List Int := upto 64 fun k => hasB s k
theorem mem_listB {s : BitVec 64} {v : Int} : v ∈ listB s ↔ hasB s v = true := by
  unfold listB
  rw [mem_upto]
  constructor
  · rintro ⟨h0, _, h2⟩
    rwa [show ((v.toNat : Nat) : Int) = v by omega] at h2
  · intro h
    have := has_in h
    refine ⟨this.1, by omega, ?_⟩
    rwa [show ((v.toNat : Nat) : Int) = v by omega]

/-! A set that grows till nothing more comes. -/
/-- r comes of s by adding what F says. -/
inductive Grows (F : BitVec 64 → BitVec 64) (s : BitVec 64) : BitVec 64 → Prop
  | refl : Grows F s s
  | more {t : BitVec 64} (h : Grows F s t) : Grows F s (t ||| F t)
theorem Grows.ind {F : BitVec 64 → BitVec 64} {s r : BitVec 64} (h : Grows F s r) {p : BitVec 64 → Prop} (h0 : p s) (h1 : ∀ t, p t → p (t ||| F t)) : p r := by
  induction h with
  | refl => exact h0
  | more _ ih => exact h1 _ ih
theorem Grows.base {F : BitVec 64 → BitVec 64} {s r : BitVec 64} (h : Grows F s r) {v : Int} (hv : hasB s v = true) : hasB r v = true := by
  induction h with
  | refl => exact hv
  | more _ ih => rw [has_or, ih, Bool.true_or]

/-! What is made: the program's rounds. -/
def madeR (fit : BitVec 64 → Int → Bool) (R : List Ru) (s : BitVec 64) : BitVec 64 := R.foldl (fun s r => if r.right.all (fit s) then withB s r.left else s) s
theorem madeR_base (fit : BitVec 64 → Int → Bool) : ∀ (R : List Ru) (s : BitVec 64) {v : Int}, hasB s v = true → hasB (madeR fit R s) v = true
  | [], _, _, h => h
  | r :: R, s, v, h => by
    unfold madeR
    rw [List.foldl_cons]
    refine madeR_base fit R _ ?_
    split
    · exact (has_with _ _ _).2 (.inl h)
    · exact h
def fitB (t : Bool) (s : BitVec 64) (x : Int) : Bool := (t && decide (x < 0)) || hasB s x
theorem madeR_snd {t : Bool} {R0 : List Ru} : ∀ (R : List Ru) (s : BitVec 64), (∀ r ∈ R, r ∈ R0) → (∀ v, hasB s v = true → Gen t R0 v) → ∀ v, hasB (madeR (fitB t) R s) v = true → Gen t R0 v
  | [], _, _, hs => hs
  | r :: R, s, hR, hs => by
    unfold madeR
    rw [List.foldl_cons]
    refine madeR_snd R _ (fun x hx => hR x (List.mem_cons_of_mem _ hx)) ?_
    intro v hv
    split at hv
    next h =>
      rcases (has_with _ _ _).1 hv with hv | ⟨rfl, _⟩
      · exact hs v hv
      · refine .mk r (hR r (List.mem_cons_self ..)) fun x hx hn => ?_
        have := List.all_eq_true.1 h x hx
        simp only [fitB, Bool.or_eq_true, Bool.and_eq_true, decide_eq_true_eq] at this
        exact this.elim (fun h => absurd h hn) (hs x)
    next h => exact hs v hv
theorem madeR_cpl (t : Bool) : ∀ (R : List Ru) (s : BitVec 64) (r : Ru), r ∈ R → 0 ≤ r.left → r.left < 64 → r.right.all (fitB t s) = true → hasB (madeR (fitB t) R s) r.left = true
  | a :: R, s, r, hr, h0, h1, hall => by
    unfold madeR
    rw [List.foldl_cons]
    rcases List.mem_cons.1 hr with rfl | hr
    · rw [if_pos hall]
      exact madeR_base _ R _ ((has_with _ _ _).2 (.inr ⟨rfl, h0, h1⟩))
    · refine madeR_cpl t R _ r hr h0 h1 ?_
      rw [List.all_eq_true] at hall ⊢
      intro x hx
      have := hall x hx
      simp only [fitB, Bool.or_eq_true] at this ⊢
      refine this.imp id fun h => ?_
      split
      · exact (has_with _ _ _).2 (.inl h)
      · exact h
/-- Lefts that may belong to a set. -/
def Lfs (R : List Ru) : Prop := ∀ r ∈ R, 0 ≤ r.left ∧ r.left < 64
theorem made_right {t : Bool} {R : List Ru} (hR : Lfs R) {r : BitVec 64} (hg : Grows (madeR (fitB t) R) 0#64 r) (hf : r ||| madeR (fitB t) R r = r) (v : Int) : hasB r v = true ↔ Gen t R v := by
  constructor
  · refine hg.ind (p := fun s => ∀ v, hasB s v = true → Gen t R v) (fun v h => by rw [has_zero] at h; cases h) (fun s hs v hv => ?_) v
    rw [has_or, Bool.or_eq_true] at hv
    exact hv.elim (hs v) (madeR_snd R s (fun _ h => h) hs v)
  · intro h
    induction h with
    | mk x hx _ ih =>
      refine or_same.1 hf _ (madeR_cpl t R r x hx (hR x hx).1 (hR x hx).2 ?_)
      rw [List.all_eq_true]
      intro y hy
      simp only [fitB, Bool.or_eq_true, Bool.and_eq_true, decide_eq_true_eq]
      by_cases e : t = true ∧ y < 0
      · exact .inl e
      · exact .inr (ih y hy e)

/-! What is reached: the program's rounds. -/
/-! One step: the program's two ways. -/
def aloneL (l : List Int) (e : BitVec 64) : Nat → BitVec 64
  | 0 => 0#64
  | k + 1 => if (l.take k).all (hasB e) && (l.drop (k + 1)).all (hasB e) then withB (aloneL l e k) (l.getD k 0) else aloneL l e k
def aloneB (l : List Int) (e : BitVec 64) : BitVec 64 := aloneL l e l.length
theorem has_aloneL {l : List Int} {e : BitVec 64} {v : Int} : ∀ {n : Nat}, n ≤ l.length → (hasB (aloneL l e n) v = true ↔ (0 ≤ v ∧ v < 64) ∧ ∃ k, ∃ h : k < l.length, k < n ∧ l[k] = v ∧ (∀ s ∈ l.take k, hasB e s = true) ∧ ∀ s ∈ l.drop (k + 1), hasB e s = true)
  | 0, _ => by simp [aloneL, has_zero]
  | n + 1, hn => by
    have ih := has_aloneL (l := l) (e := e) (v := v) (n := n) (by omega)
    unfold aloneL
    split
    next h =>
      rw [Bool.and_eq_true, List.all_eq_true, List.all_eq_true] at h
      rw [has_with, ih]
      constructor
      · rintro (⟨h0, k, hk, h1, h2⟩ | ⟨rfl, h0⟩)
        · exact ⟨h0, k, hk, by omega, h2⟩
        · exact ⟨h0, n, by omega, by omega, by rw [List.getD_eq_getElem?_getD, List.getElem?_eq_getElem (by omega)]; rfl, h⟩
      · rintro ⟨h0, k, hk, h1, h2, h3⟩
        by_cases e : k = n
        · subst e
          exact .inr ⟨by rw [List.getD_eq_getElem?_getD, List.getElem?_eq_getElem hk]; exact h2.symm, by rw [List.getD_eq_getElem?_getD, List.getElem?_eq_getElem hk]; simpa [h2] using h0⟩
        · exact .inl ⟨h0, k, hk, by omega, h2, h3⟩
    next h =>
      rw [Bool.and_eq_true, List.all_eq_true, List.all_eq_true] at h
      rw [ih]
      constructor
      · rintro ⟨h0, k, hk, h1, h2⟩
        exact ⟨h0, k, hk, by omega, h2⟩
      · rintro ⟨h0, k, hk, h1, h2, h3⟩
        by_cases e : k = n
        · subst e; exact absurd h3 h
        · exact ⟨h0, k, hk, by omega, h2, h3⟩
theorem has_alone {l : List Int} {e : BitVec 64} {E : Int → Prop} (hE : ∀ v, hasB e v = true ↔ E v) {v : Int} : hasB (aloneB l e) v = true ↔ (0 ≤ v ∧ v < 64) ∧ Fit false E l v := by
  unfold aloneB
  rw [has_aloneL (Nat.le_refl _)]
  unfold Fit
  constructor
  · rintro ⟨h0, k, hk, _, h2, h3, h4⟩
    exact ⟨h0, k, hk, h2, fun s hs => (hE s).1 (h3 s hs), .inr fun s hs => (hE s).1 (h4 s hs)⟩
  · rintro ⟨h0, k, hk, h2, h3, h4⟩
    rcases h4 with h4 | h4
    · cases h4
    · exact ⟨h0, k, hk, hk, h2, fun s hs => (hE s).2 (h3 s hs), fun s hs => (hE s).2 (h4 s hs)⟩
def firstsL (e : BitVec 64) : List Int → BitVec 64 → BitVec 64
  | [], s => s
  | x :: l, s => if hasB e x then firstsL e l (withB s x) else withB s x
theorem has_firsts {e : BitVec 64} {E : Int → Prop} (hE : ∀ v, hasB e v = true ↔ E v) {v : Int} : ∀ (l : List Int) (s : BitVec 64), hasB (firstsL e l s) v = true ↔ hasB s v = true ∨ ((0 ≤ v ∧ v < 64) ∧ Fit true E l v)
  | [], s => by simp [firstsL, Fit]
  | x :: l, s => by
    have hx : Fit true E (x :: l) v ↔ x = v ∨ (E x ∧ Fit true E l v) := by
      unfold Fit
      constructor
      · rintro ⟨k, hk, h1, h2, _⟩
        cases k with
        | zero => exact .inl h1
        | succ k =>
          simp only [List.take_succ_cons, List.mem_cons] at h2
          exact .inr ⟨h2 x (.inl rfl), k, by simpa using hk, by simpa using h1, fun s hs => h2 s (.inr hs), .inl rfl⟩
      · rintro (rfl | ⟨h0, k, hk, h1, h2, _⟩)
        · exact ⟨0, by simp, rfl, by simp, .inl rfl⟩
        · refine ⟨k + 1, by simpa using hk, by simpa using h1, ?_, .inl rfl⟩
          simp only [List.take_succ_cons, List.mem_cons]
          rintro s (rfl | hs)
          · exact h0
          · exact h2 s hs
    rw [hx]
    unfold firstsL
    split
    next h =>
      rw [has_firsts hE l, has_with]
      have hEx := (hE x).1 h
      constructor
      · rintro ((h1 | ⟨rfl, h1⟩) | ⟨h1, h2⟩)
        · exact .inl h1
        · exact .inr ⟨h1, .inl rfl⟩
        · exact .inr ⟨h1, .inr ⟨hEx, h2⟩⟩
      · rintro (h1 | ⟨h1, rfl | ⟨_, h2⟩⟩)
        · exact .inl (.inl h1)
        · exact .inl (.inr ⟨rfl, h1⟩)
        · exact .inr ⟨h1, h2⟩
    next h =>
      rw [has_with]
      have hEx : ¬ E x := fun h' => h ((hE x).2 h')
      constructor
      · rintro (h1 | ⟨rfl, h1⟩)
        · exact .inl h1
        · exact .inr ⟨h1, .inl rfl⟩
      · rintro (h1 | ⟨h1, rfl | ⟨h2, _⟩⟩)
        · exact .inl h1
        · exact .inr ⟨rfl, h1⟩
        · exact absurd h2 hEx
/-- c: as the first one; else alone. -/
def stepB (c : Bool) (l : List Int) (e : BitVec 64) : BitVec 64 := if c then firstsL e l 0#64 else aloneB l e
theorem has_step {c : Bool} {l : List Int} {e : BitVec 64} {E : Int → Prop} (hE : ∀ v, hasB e v = true ↔ E v) {v : Int} : hasB (stepB c l e) v = true ↔ (0 ≤ v ∧ v < 64) ∧ Fit c E l v := by
  unfold stepB
  cases c with
  | true => simp only [if_true]; rw [has_firsts hE, has_zero]; simp
  | false => simp only [Bool.false_eq_true, if_false]; exact has_alone hE

/-! One step or more: the program's table. -/
/-- The table of steps, after some rules. -/
def nextR (c : Bool) (e : BitVec 64) (R : List Ru) (N : List (BitVec 64)) : List (BitVec 64) := R.foldl (fun N r => N.set r.left.toNat (N.getD r.left.toNat 0#64 ||| stepB c r.right e)) N
theorem nextR_len (c : Bool) (e : BitVec 64) : ∀ (R : List Ru) (N : List (BitVec 64)), (nextR c e R N).length = N.length
  | [], _ => rfl
  | r :: R, N => by
    unfold nextR
    rw [List.foldl_cons]
    exact (nextR_len c e R _).trans (by simp)
theorem getD_set {α : Type} (N : List α) (i j : Nat) (x d : α) : (N.set i x).getD j d = if i = j ∧ j < N.length then x else N.getD j d := by
  simp only [List.getD_eq_getElem?_getD, List.getElem?_set]
  by_cases h : i = j
  · subst h
    by_cases h' : i < N.length
    · simp [h']
    · simp [h']
  · simp [h]
theorem has_next {c : Bool} {e : BitVec 64} {v : Int} : ∀ (R : List Ru) (N : List (BitVec 64)) (a : Nat), (∀ r ∈ R, 0 ≤ r.left) → a < N.length → (hasB ((nextR c e R N).getD a 0#64) v = true ↔ hasB (N.getD a 0#64) v = true ∨ ∃ r ∈ R, r.left = a ∧ hasB (stepB c r.right e) v = true)
  | [], N, a, _, _ => by simp [nextR]
  | r :: R, N, a, hR, ha => by
    have h0 := hR r (List.mem_cons_self ..)
    have ih := has_next (c := c) (e := e) (v := v) R (N.set r.left.toNat (N.getD r.left.toNat 0#64 ||| stepB c r.right e)) a (fun x hx => hR x (List.mem_cons_of_mem _ hx)) (by simpa using ha)
    unfold nextR at ih ⊢
    rw [List.foldl_cons, ih, getD_set]
    by_cases h : r.left.toNat = a
    · have h' : r.left = a := by omega
      rw [if_pos ⟨h, ha⟩, has_or, Bool.or_eq_true, h]
      constructor
      · rintro ((h1 | h1) | ⟨x, hx, h1⟩)
        · exact .inl h1
        · exact .inr ⟨r, List.mem_cons_self .., h', h1⟩
        · exact .inr ⟨x, List.mem_cons_of_mem _ hx, h1⟩
      · rintro (h1 | ⟨x, hx, h1, h2⟩)
        · exact .inl (.inl h1)
        · rcases List.mem_cons.1 hx with rfl | hx
          · exact .inl (.inr h2)
          · exact .inr ⟨x, hx, h1, h2⟩
    · rw [if_neg (fun h' => h h'.1)]
      constructor
      · rintro (h1 | ⟨x, hx, h1⟩)
        · exact .inl h1
        · exact .inr ⟨x, List.mem_cons_of_mem _ hx, h1⟩
      · rintro (h1 | ⟨x, hx, h1, h2⟩)
        · exact .inl h1
        · rcases List.mem_cons.1 hx with rfl | hx
          · exact absurd (by omega) h
          · exact .inr ⟨x, hx, h1, h2⟩
def moreB (N : List (BitVec 64)) (s : BitVec 64) : BitVec 64 := (listB s).foldl (fun s w => s ||| N.getD w.toNat 0#64) s
theorem foldl_more (N : List (BitVec 64)) (v : Int) : ∀ (l : List Int) (s : BitVec 64), hasB (l.foldl (fun s w => s ||| N.getD w.toNat 0#64) s) v = true ↔ hasB s v = true ∨ ∃ w ∈ l, hasB (N.getD w.toNat 0#64) v = true
  | [], s => by simp
  | x :: l, s => by
    rw [List.foldl_cons, foldl_more N v l, has_or, Bool.or_eq_true]
    simp only [List.mem_cons]
    constructor
    · rintro ((h | h) | ⟨w, h, h'⟩)
      · exact .inl h
      · exact .inr ⟨x, .inl rfl, h⟩
      · exact .inr ⟨w, .inr h, h'⟩
    · rintro (h | ⟨w, rfl | h, h'⟩)
      · exact .inl (.inl h)
      · exact .inl (.inr h')
      · exact .inr ⟨w, h, h'⟩
theorem has_more {N : List (BitVec 64)} {s : BitVec 64} {v : Int} : hasB (moreB N s) v = true ↔ hasB s v = true ∨ ∃ w, hasB s w = true ∧ hasB (N.getD w.toNat 0#64) v = true := by
  unfold moreB
  rw [foldl_more]
  simp only [mem_listB]
/-- The table on its way: at v the first k are all that is led to, the others something between one step and all. -/
def Onw (c : Bool) (E : Int → Prop) (R : List Ru) (V k : Nat) (N : List (BitVec 64)) : Prop :=
  N.length = V ∧ ∀ a : Nat, a < V → (∀ v, hasB (N.getD a 0#64) v = true → Led c E R a v) ∧ (∀ v, Lds c E R a v → hasB (N.getD a 0#64) v = true) ∧ (a < k → ∀ v, Led c E R a v → hasB (N.getD a 0#64) v = true)
/-- All symbols are nonterminals under V, or terminals; the lefts too. -/
def Vrs (V : Nat) (R : List Ru) : Prop := V ≤ 64 ∧ ∀ r ∈ R, (0 ≤ r.left ∧ r.left < V) ∧ ∀ s ∈ r.right, s < V
theorem Vrs.lfs {V : Nat} {R : List Ru} (h : Vrs V R) : Lfs R := fun r hr => by have := (h.2 r hr).1; have := h.1; omega
theorem Vrs.lds {V : Nat} {R : List Ru} (h : Vrs V R) {c : Bool} {E : Int → Prop} {a v : Int} (hv : Lds c E R a v) : 0 ≤ v ∧ v < V := by
  obtain ⟨h0, r, hr, _, k, hk, rfl, _⟩ := hv
  exact ⟨h0, (h.2 r hr).2 _ (List.getElem_mem hk)⟩
theorem Vrs.led {V : Nat} {R : List Ru} (h : Vrs V R) {c : Bool} {E : Int → Prop} {a v : Int} (hv : Led c E R a v) : 0 ≤ v ∧ v < V := by
  cases hv with
  | one h' => exact h.lds h'
  | more _ h' => exact h.lds h'
theorem onw_start {c : Bool} {E : Int → Prop} {R : List Ru} {V : Nat} (h : Vrs V R) {e : BitVec 64} (hE : ∀ v, hasB e v = true ↔ E v) : Onw c E R V 0 (nextR c e R (List.replicate V 0#64)) := by
  refine ⟨by rw [nextR_len]; simp, fun a ha => ?_⟩
  have key : ∀ v, hasB ((nextR c e R (List.replicate V 0#64)).getD a 0#64) v = true ↔ Lds c E R a v := by
    intro v
    rw [has_next R _ a (fun r hr => (h.2 r hr).1.1) (by simpa using ha)]
    have hz : (List.replicate V 0#64).getD a 0#64 = 0#64 := by simp [List.getD_eq_getElem?_getD, ha]
    rw [hz, has_zero]
    simp only [Bool.false_eq_true, false_or, has_step hE]
    constructor
    · rintro ⟨r, hr, e, h0, hf⟩
      exact ⟨h0.1, r, hr, e, hf⟩
    · rintro ⟨h0, r, hr, e, hf⟩
      have hf' := hf
      obtain ⟨k, hk, rfl, _⟩ := hf'
      exact ⟨r, hr, e, ⟨h0, by have := (h.2 r hr).2 _ (List.getElem_mem hk); have := h.1; omega⟩, hf⟩
  exact ⟨fun v hv => .one ((key v).1 hv), fun v hv => (key v).2 hv, fun h0 => absurd h0 (Nat.not_lt_zero _)⟩
theorem onw_step {c : Bool} {E : Int → Prop} {R : List Ru} {V k : Nat} (h : Vrs V R) {N : List (BitVec 64)} (ho : Onw c E R V k N) (hk : k < V) {r : BitVec 64} (hg : Grows (moreB N) (N.getD k 0#64) r) (hf : r ||| moreB N r = r) : Onw c E R V (k + 1) (N.set k r) := by
  obtain ⟨hl, ho⟩ := ho
  refine ⟨by simpa using hl, fun a ha => ?_⟩
  rw [getD_set]
  by_cases e : k = a
  · subst e
    rw [if_pos ⟨rfl, by omega⟩]
    have snd : ∀ v, hasB r v = true → Led c E R k v := by
      refine hg.ind (p := fun s => ∀ v, hasB s v = true → Led c E R k v) (ho k ha).1 fun s hs v hv => ?_
      rw [has_or, Bool.or_eq_true, has_more] at hv
      rcases hv with hv | hv | ⟨w, h1, h2⟩
      · exact hs v hv
      · exact hs v hv
      · have hw := h.led (hs w h1)
        have := (ho w.toNat (by omega)).1 v h2
        rw [show ((w.toNat : Nat) : Int) = w by omega] at this
        exact (hs w h1).trans this
    have cpl : ∀ v, Led c E R k v → hasB r v = true := by
      intro v hv
      induction hv with
      | one h1 => exact hg.base ((ho k ha).2.1 _ h1)
      | more h1 h2 ih =>
        rename_i b d
        have hb := h.led h1
        refine or_same.1 hf _ (has_more.2 (.inr ⟨b, ih, (ho b.toNat (by omega)).2.1 _ ?_⟩))
        rwa [show ((b.toNat : Nat) : Int) = b by omega]
    exact ⟨snd, fun v hv => cpl v (.one hv), fun _ => cpl⟩
  · rw [if_neg (fun h => e h.1)]
    exact ⟨(ho a ha).1, (ho a ha).2.1, fun h1 => (ho a ha).2.2 (by omega)⟩
end Go.Proofs.Ytlhdppkllmnmkad.G
