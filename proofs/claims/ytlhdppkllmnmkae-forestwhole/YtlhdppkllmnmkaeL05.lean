/- Texts laid together: Ze Yc Yw Yz Yt Zb Zj Zk Zl Fs Fl. -/
import Derived.Test.YtlhdppkllmnmkaeL03
import Derived.Test.YtlhdppkllmnmkaeL04
import Derived.Test.YtlhdppkllmnmkaeL01
import Derived.Deep.CutRange
import Derived.OwnWalk
import Derived.Maps.OwnSet
import Derived.DeepKeys4
/- Where nothing leads to itself alone, trees of a word are no higher than so. -/
namespace Go.Proofs.Ytlhdppkllmnmkae.G
open Go.RowKit
/-- Nullable. -/
abbrev Nul (R : List Ru) : Int → Prop := Gen false R
theorem nul_row {R : List Ru} : ∀ (f : Tf) (l : List Int), fitF R f (kidsL l) = true → wdR l (wdF R f) = [] → ∀ s ∈ l, Nul R s
  | f, [], _, _ => fun s h => by cases h
  | .nil, s :: ss, h1, h2 => by
    by_cases hs : s < 0
    · unfold wdR at h2; rw [if_pos hs] at h2; cases h2
    · rw [kidsL_pos (by omega)] at h1; simp [fitF] at h1
  | .cons r k rest, s :: ss, h1, h2 => by
    by_cases hs : s < 0
    · unfold wdR at h2; rw [if_pos hs] at h2; cases h2
    · rw [kidsL_pos (by omega), fitF_cons, Bool.and_eq_true] at h1
      have h3 : wdT R ⟨r, k⟩ ++ wdR ss (wdF R rest) = [] := by
        have : wdR (s :: ss) (wdT R ⟨r, k⟩ :: wdF R rest) = [] := h2
        unfold wdR at this
        rw [if_neg hs] at this
        exact this
      rw [List.append_eq_nil_iff] at h3
      obtain ⟨p, hp, _, hl, hk, hw⟩ := fit_rule h1.1
      have hk' : fitF R k (kidsL R[p].right) = true := hk
      have hw' : wdR R[p].right (wdF R k) = [] := by rw [← h3.1]; exact hw.symm
      have ih := nul_row k R[p].right hk' hw'
      intro x hx
      rcases List.mem_cons.1 hx with rfl | hx
      · rw [← hl]; exact .mk R[p] (List.getElem_mem hp) fun s hs _ => ih s hs
      · exact nul_row rest ss h1.2 h3.2 x hx
theorem nul_tree {R : List Ru} {t : Tr} {v : Int} (h : fitT R t v = true) (hw : wdT R t = []) : Nul R v := by
  obtain ⟨p, hp, _, hl, hk, hw'⟩ := fit_rule h
  have ih := nul_row t.kids R[p].right hk (by rw [← hw']; exact hw)
  rw [← hl]; exact .mk R[p] (List.getElem_mem hp) fun s hs _ => ih s hs
/-- A tree of a row, and what stands beside it. -/
theorem row_kid {R : List Ru} : ∀ (l : List Int) (f : Tf) (q : Nat), fitF R f (kidsL l) = true → q < f.len → ∃ k, ∃ hk : k < l.length, 0 ≤ l[k] ∧ fitT R (f.at_ q) l[k] = true ∧ (wdT R (f.at_ q)).length ≤ (wdR l (wdF R f)).length ∧
      ((wdT R (f.at_ q)).length = (wdR l (wdF R f)).length → (∀ s ∈ l.take k, Nul R s) ∧ ∀ s ∈ l.drop (k + 1), Nul R s)
  | [], f, q, h1, h2 => by
    have := fitF_len _ _ _ h1
    rw [show kidsL [] = [] from rfl] at this
    simp at this; omega
  | s :: ss, f, q, h1, h2 => by
    by_cases hs : s < 0
    · rw [kidsL_ng (by omega)] at h1
      obtain ⟨k, hk, g0, g1, g2, g3⟩ := row_kid ss f q h1 h2
      have hw : wdR (s :: ss) (wdF R f) = (-1 - s) :: wdR ss (wdF R f) := by rw [wdR, if_pos hs]
      refine ⟨k + 1, by simpa using hk, by simpa using g0, by simpa using g1, by rw [hw, List.length_cons]; omega, fun e => ?_⟩
      rw [hw, List.length_cons] at e; omega
    · rw [kidsL_pos (by omega)] at h1
      cases f with
      | nil => simp [Tf.len] at h2
      | cons r k rest =>
        rw [fitF_cons, Bool.and_eq_true] at h1
        have hw : wdR (s :: ss) (wdF R (.cons r k rest)) = wdT R ⟨r, k⟩ ++ wdR ss (wdF R rest) := by
          show wdR (s :: ss) (wdT R ⟨r, k⟩ :: wdF R rest) = _
          rw [wdR, if_neg hs]; rfl
        rw [hw, List.length_append]
        cases q with
        | zero =>
          refine ⟨0, by simp, by simp; omega, h1.1, by show (wdT R ⟨r, k⟩).length ≤ _; omega, fun e => ⟨by simp, ?_⟩⟩
          have e' : (wdT R ⟨r, k⟩).length = (wdT R ⟨r, k⟩).length + (wdR ss (wdF R rest)).length := e
          have h0 : wdR ss (wdF R rest) = [] := List.eq_nil_of_length_eq_zero (by omega)
          simpa using nul_row rest ss h1.2 h0
        | succ q =>
          obtain ⟨k', hk, g0, g1, g2, g3⟩ := row_kid ss rest q h1.2 (by simpa [Tf.len] using h2)
          refine ⟨k' + 1, by simpa using hk, by simpa using g0, by simp only [List.getElem_cons_succ]; exact g1, by show (wdT R (rest.at_ q)).length ≤ _; omega, fun e => ?_⟩
          have e' : (wdT R (rest.at_ q)).length = (wdT R ⟨r, k⟩).length + (wdR ss (wdF R rest)).length := e
          obtain ⟨g4, g5⟩ := g3 (by omega)
          have h0 : wdT R ⟨r, k⟩ = [] := List.eq_nil_of_length_eq_zero (by omega)
          refine ⟨fun x hx => ?_, by simpa using g5⟩
          rw [List.take_succ_cons, List.mem_cons] at hx
          rcases hx with rfl | hx
          · exact nul_tree h1.1 h0
          · exact g4 x hx
/-- Nothing leads to itself alone. -/
def Acy (R : List Ru) (V : Nat) : Prop := ∀ v : Nat, v < V → ¬ Led false (Nul R) R (v : Int) (v : Int)
open Classical in
/-- How many it leads to alone. -/
noncomputable def rkN (R : List Ru) (V : Nat) (v : Int) : Nat := sm V fun u => if Led false (Nul R) R v (u : Int) then 1 else 0
open Classical in
theorem rkN_le (R : List Ru) (V : Nat) (v : Int) : rkN R V v ≤ V := by
  unfold rkN
  have := sm_le (n := V) (F := fun u => if Led false (Nul R) R v (u : Int) then 1 else 0) (G := fun _ => 1) fun u _ => by split <;> omega
  have h1 : ∀ n, sm n (fun _ => 1) = n := fun n => by induction n with
    | zero => rfl
    | succ n ih => simp only [sm, ih]
  rw [h1] at this
  exact this
theorem sm_lt' {F G : Nat → Nat} : ∀ {n : Nat}, (∀ k, k < n → F k ≤ G k) → (∃ k, k < n ∧ F k < G k) → sm n F < sm n G
  | 0, _, ⟨_, h, _⟩ => absurd h (Nat.not_lt_zero _)
  | n + 1, h, ⟨k, hk, hl⟩ => by
    have h1 := sm_le (n := n) fun k hk => h k (by omega)
    have h2 := h n (by omega)
    simp only [sm]
    by_cases e : k = n
    · subst e; omega
    · have := sm_lt' (n := n) (fun k hk => h k (by omega)) ⟨k, by omega, hl⟩
      omega
open Classical in
theorem rkN_lt {R : List Ru} {V : Nat} (hA : Acy R V) {v : Int} {u : Nat} (hu : u < V) (h : Lds false (Nul R) R v (u : Int)) : rkN R V (u : Int) < rkN R V v := by
  unfold rkN
  refine sm_lt' (fun x _ => ?_) ⟨u, hu, ?_⟩
  · split
    · rename_i hx
      rw [if_pos (Led.trans (.one h) hx)]; omega
    · omega
  · rw [if_neg (hA u hu), if_pos (.one h)]; omega
theorem hg_le {B : Nat} : ∀ {f : Tf}, (∀ q, q < f.len → (f.at_ q).hg ≤ B) → f.hg ≤ B
  | .nil, _ => Nat.zero_le _
  | .cons r k rest, h => by
    have h0 := h 0 (by simp [Tf.len])
    have h1 := hg_le (f := rest) (B := B) fun q hq => h (q + 1) (by simpa [Tf.len] using hq)
    have h0' : 1 + k.hg ≤ B := h0
    simp only [Tf.hg]; omega
/-- No higher than so. -/
theorem high_row {R : List Ru} {V : Nat} (hA : Acy R V) (hR : ∀ r ∈ R, ∀ s ∈ r.right, s < V) : ∀ (f : Tf) (q : Nat) (v : Int), q < f.len → fitT R (f.at_ q) v = true → (f.at_ q).hg ≤ (wdT R (f.at_ q)).length * (V + 1) + rkN R V v + 1
  | .nil, _, _, h, _ => absurd h (Nat.not_lt_zero _)
  | .cons r k rest, q + 1, v, h, hf => high_row hA hR rest q v (by simpa [Tf.len] using h) hf
  | .cons r k rest, 0, v, _, hf => by
    show 1 + k.hg ≤ (wdT R ⟨r, k⟩).length * (V + 1) + rkN R V v + 1
    have hf' : fitT R ⟨r, k⟩ v = true := hf
    obtain ⟨p, hp, _, hl, hk, hw⟩ := fit_rule hf'
    have hk' : fitF R k (kidsL R[p].right) = true := hk
    have hw' : wdT R ⟨r, k⟩ = wdR R[p].right (wdF R k) := hw
    have hB : k.hg ≤ (wdT R ⟨r, k⟩).length * (V + 1) + rkN R V v := hg_le fun q hq => by
      obtain ⟨i, hi, g0, g1, g2, g3⟩ := row_kid R[p].right k q hk' hq
      have ih := high_row hA hR k q R[p].right[i] hq g1
      have hu := hR _ (List.getElem_mem hp) _ (List.getElem_mem hi)
      obtain ⟨u, hue⟩ : ∃ u : Nat, R[p].right[i] = u := ⟨R[p].right[i].toNat, by omega⟩
      rw [← hw'] at g2 g3
      have hrl := rkN_le R V R[p].right[i]
      by_cases e : (wdT R (k.at_ q)).length = (wdT R ⟨r, k⟩).length
      · obtain ⟨g4, g5⟩ := g3 e
        have hlt := rkN_lt (v := v) hA (u := u) (by omega) ⟨by omega, R[p], List.getElem_mem hp, hl, i, hi, hue, g4, .inr g5⟩
        rw [← hue] at hlt
        rw [e] at ih; omega
      · have hlt : (wdT R (k.at_ q)).length + 1 ≤ (wdT R ⟨r, k⟩).length := by omega
        have h1 : ((wdT R (k.at_ q)).length + 1) * (V + 1) ≤ (wdT R ⟨r, k⟩).length * (V + 1) := Nat.mul_le_mul_right _ hlt
        rw [Nat.add_mul, Nat.one_mul] at h1
        omega
    omega
theorem high {R : List Ru} {V : Nat} (hA : Acy R V) (hR : ∀ r ∈ R, ∀ s ∈ r.right, s < V) {t : Tr} {v : Int} (h : fitT R t v = true) : t.hg ≤ (wdT R t).length * (V + 1) + V + 1 := by
  have h1 := high_row hA hR (.cons t.rule t.kids .nil) 0 v (by simp [Tf.len]) h
  have h2 := rkN_le R V v
  have h3 : t.hg ≤ (wdT R t).length * (V + 1) + rkN R V v + 1 := h1
  omega
/-- The levels of trees of a word. -/
def lvls (W : List Int) (V : Nat) : Nat := W.length * (V + 1) + V + 1
theorem high_is {R : List Ru} {W : List Int} {V : Nat} (hA : Acy R V) (hR : ∀ r ∈ R, ∀ s ∈ r.right, s < V) {h : Nat} {v : Int} {i j : Nat} {t : Tr} (ht : IsT R W h v i j t) : t.hg ≤ lvls W V := by
  have h1 := high hA hR ht.1
  have h2 : (wdT R t).length ≤ W.length := by rw [ht.2.1]; unfold seg; rw [List.length_take, List.length_drop]; omega
  have h3 : (wdT R t).length * (V + 1) ≤ W.length * (V + 1) := Nat.mul_le_mul_right _ h2
  unfold lvls; omega
/-- All trees of v with the word from i to j: of a right grammar in which nothing leads to itself alone. -/
def Trs (R : List Ru) (W : List Int) (V : Nat) (v : Int) (i j : Nat) : List Tr := LT R W (lvls W V) v i j
theorem Trs_mem {R : List Ru} {W : List Int} {V : Nat} (hA : Acy R V) (hR : ∀ r ∈ R, ∀ s ∈ r.right, s < V) {v : Int} {i j : Nat} (hj : j ≤ W.length) {t : Tr} : t ∈ Trs R W V v i j ↔ fitT R t v = true ∧ wdT R t = seg W i j ∧ i ≤ j := by
  unfold Trs
  rw [LT_mem _ _ _ _ _ _ _ hj]
  exact ⟨fun h => ⟨h.1, h.2.1, h.2.2.1⟩, fun h => ⟨h.1, h.2.1, h.2.2, high_is (h := t.hg) hA hR ⟨h.1, h.2.1, h.2.2, Nat.le_refl _⟩⟩⟩
theorem LT_Trs {R : List Ru} {W : List Int} {V : Nat} (hA : Acy R V) (hR : ∀ r ∈ R, ∀ s ∈ r.right, s < V) {h : Nat} (hh : lvls W V ≤ h) (v : Int) (i j : Nat) (hj : j ≤ W.length) : LT R W h v i j = Trs R W V v i j := LT_stop hj (fun _ _ ht => high_is hA hR ht) hh
/-- The trees, by the rules of v one behind the other. -/
theorem Trs_eq {R : List Ru} {W : List Int} {V : Nat} (hA : Acy R V) (hR : ∀ r ∈ R, ∀ s ∈ r.right, s < V) (v : Int) (i j : Nat) (hj : j ≤ W.length) : Trs R W V v i j = lvT (LT R W (lvls W V)) W v i j R 0 := (LT_Trs hA hR (h := lvls W V + 1) (Nat.le_succ _) v i j hj).symm
end Go.Proofs.Ytlhdppkllmnmkae.G

/- Counts that never go above a number: sums, products, and the ways of symbols, as the document reckons them. -/
namespace Go.Proofs.Ytlhdppkllmnmkae.G
open Go.RowKit

def smI (a b m : Int) : Int := if m ≤ a ∨ m - a ≤ b then m else a + b
def prI (a b m : Int) : Int := if a = 0 ∨ b = 0 then 0 else if m ≤ a ∨ m ≤ b ∨ (m - 1) / b < a then m else a * b
theorem prI_le {a b m : Int} (hb : 0 < b) (h : ¬ (m - 1) / b < a) : a * b ≤ m - 1 := by
  have h1 : a ≤ (m - 1) / b := by omega
  have h2 := Int.mul_le_mul_of_nonneg_right h1 (Int.le_of_lt hb)
  have h3 := Int.ediv_mul_le (m - 1) (b := b) (by omega)
  omega
end Go.Proofs.Ytlhdppkllmnmkae.G

/- In how many ways symbols stand for a word from a place to another, as the document reckons them. -/
namespace Go.Proofs.Ytlhdppkllmnmkae.G
open Go.RowKit

def Rng (m : Int) (l : List Int) : Prop := ∀ x ∈ l, 0 ≤ x ∧ x ≤ m
theorem Rng.getD {m : Int} {l : List Int} (h : Rng m l) (hm : 1 ≤ m) (k : Nat) : 0 ≤ l.getD k 0 ∧ l.getD k 0 ≤ m := by
  rcases Nat.lt_or_ge k l.length with hk | hk
  · rw [List.getD_eq_getElem?_getD, List.getElem?_eq_getElem hk]; exact h _ (List.getElem_mem hk)
  · rw [List.getD_eq_getElem?_getD, List.getElem?_eq_none hk]; simp; omega
theorem Rng.set {m : Int} {l : List Int} (h : Rng m l) {k : Nat} {x : Int} (hx : 0 ≤ x ∧ x ≤ m) : Rng m (l.set k x) := fun y hy => by
  rcases List.mem_or_eq_of_mem_set hy with h1 | h1
  · exact h y h1
  · rw [h1]; exact hx
theorem Rng.zeros {m : Int} (hm : 1 ≤ m) (n : Nat) : Rng m (List.replicate n 0) := fun x hx => by rw [List.eq_of_mem_replicate hx]; omega
/-- The counts, in memory: of each nonterminal, from each place to each other. -/
structure TbR (w : World) (V L b0 : Nat) (b1 c1 : Nat → Nat) (rb : Nat → Nat → Nat) (f : Nat → Nat → Nat → Int) : Prop where
  h0 : ∀ v, v < V → w.cell? ⟨b0, v, none⟩ = some (.slice (some ⟨b1 v, 0, none⟩) (L + 1) (c1 v))
  h1 : ∀ v i, v < V → i ≤ L → w.cell? ⟨b1 v, i, none⟩ = some (.slice (some ⟨rb v i, 0, none⟩) (L + 1) (L + 1))
  h2 : ∀ v i j, v < V → i ≤ L → j ≤ L → w.cell? ⟨rb v i, j, none⟩ = some (.int .i64 (f v i j))
theorem TbR.lw {w w' : World} {V L b0 : Nat} {b1 c1 : Nat → Nat} {rb : Nat → Nat → Nat} {f : Nat → Nat → Nat → Int} (h : TbR w V L b0 b1 c1 rb f) (hb : Below w.heap.size w w') : TbR w' V L b0 b1 c1 rb f :=
  ⟨fun v hv => bkeep hb (h.h0 v hv), fun v i hv hi => bkeep hb (h.h1 v i hv hi), fun v i j hv hi hj => bkeep hb (h.h2 v i j hv hi hj)⟩
end Go.Proofs.Ytlhdppkllmnmkae.G

/- Counts, all zero: the document's table of nonterminals, places and places. -/
namespace Go.Proofs.Ytlhdppkllmnmkae.G
open Go.RowKit
/-- A row of zeros. -/
structure Rw (w : World) (L g : Nat) : Prop where
  c : ∀ j, j ≤ L → w.cell? ⟨g, j, none⟩ = some (.int .i64 0)
  f : ∀ j, w.frozen? ⟨g, j, none⟩ = false
theorem Rw.of {w w' : World} {L g : Nat} (h : Rw w L g) (hb : w'.heap[g]? = w.heap[g]?) : Rw w' L g :=
  ⟨fun j hj => (World.cell?_of_block (w := w) (a := ⟨g, j, none⟩) hb).trans (h.c j hj), fun j => (World.frozen?_of_block (w := w) (a := ⟨g, j, none⟩) hb).trans (h.f j)⟩
def rwv (L : Nat) (rr : Nat → Nat) (k : Nat) : Value := .slice (some ⟨rr k, 0, none⟩) (L + 1) (L + 1)
def put1 (rr : Nat → Nat) (n g : Nat) : Nat → Nat := fun k => if k = n then g else rr k
theorem put1_lt {rr : Nat → Nat} {n g k : Nat} (h : k < n) : put1 rr n g k = rr k := if_neg (by omega)
theorem put1_at {rr : Nat → Nat} {n g : Nat} : put1 rr n g n = g := if_pos rfl
theorem map_put1 {α : Type} (F : (Nat → Nat) → Nat → α) (hF : ∀ a b k, a k = b k → F a k = F b k) (rr : Nat → Nat) (n g : Nat) : (List.range (n + 1)).map (F (put1 rr n g)) = (List.range n).map (F rr) ++ [F (put1 rr n g) n] := by
  rw [List.range_succ, List.map_append]
  congr 1
  apply List.map_congr_left
  intro k hk
  exact hF _ _ k (put1_lt (List.mem_range.1 hk))
/-- The rows of one nonterminal. -/
structure Rws (w : World) (base L ii : Nat) (vl : Value) (rr : Nat → Nat) : Prop where
  own : w.ownsRow base 25 1 vl ii ((List.range ii).map (rwv L rr))
  ge : ∀ k, k < ii → base ≤ rr k ∧ rr k < w.heap.size ∧ vl.ownBlock ≠ some (rr k) ∧ Rw w L (rr k)
  ij : ∀ k k', k < ii → k' < ii → rr k = rr k' → k = k'
/-- One row more. -/
theorem Rws.more {w w1 w2 w3 : World} {base L ii g : Nat} {vl vl' : Value} {rr : Nat → Nat} (h : Rws w base L ii vl rr) (hbw : base ≤ w.heap.size) (h1 : Below w.heap.size w w1) (hg : w.heap.size ≤ g ∧ g < w1.heap.size) (hr : Rw w1 L g) (h2 : Below w1.heap.size w1 w2)
    (own3 : w3.ownsRow base 25 1 vl' (ii + 1) ((List.range ii).map (rwv L rr) ++ [.slice (some ⟨g, 0, none⟩) (L + 1) (L + 1)])) (grow3 : w2.grownBy w3 vl.ownBlock) (hat : vl'.ownBlock = vl.ownBlock ∨ vl'.ownBlock = some w2.heap.size) : Rws w3 base L (ii + 1) vl' (put1 rr ii g) := by
  have z1 := h1.size
  have z2 := h2.size
  have z3 := grow3.size
  have hvl : ∀ k, vl.ownBlock = some k → k < w.heap.size := fun k e => (h.own.lt k e).2
  refine ⟨?_, fun k hk => ?_, fun k k' hk hk' e => ?_⟩
  · rw [map_put1 (rwv L) (fun a b k e => by unfold rwv; rw [e])]
    unfold rwv at *
    rw [put1_at]; exact own3
  · by_cases e : k = ii
    · subst e
      rw [put1_at]
      refine ⟨by omega, by omega, fun e => ?_, hr.of ?_⟩
      · rcases hat with e' | e'
        · have := hvl g (e' ▸ e); omega
        · rw [e'] at e; simp at e; omega
      · rw [grow3.block g (by omega) (fun e => by have := hvl g e.symm; omega), h2.block g hg.2]
    · have hk' : k < ii := by omega
      obtain ⟨g1, g2, g3, g4⟩ := h.ge k hk'
      rw [put1_lt hk']
      refine ⟨g1, by omega, fun e => ?_, g4.of ?_⟩
      · rcases hat with e' | e'
        · exact g3 (e' ▸ e)
        · rw [e'] at e; simp at e; omega
      · rw [grow3.block _ (by omega) (fun e => g3 e.symm), h2.block _ (by omega), h1.block _ g2]
  · have hb : ∀ q, q < ii → rr q < w.heap.size := fun q hq => (h.ge q hq).2.1
    by_cases e1 : k = ii
    · by_cases e2 : k' = ii
      · omega
      · rw [e1, put1_at, put1_lt (by omega)] at e
        have := hb k' (by omega); omega
    · by_cases e2 : k' = ii
      · rw [e2, put1_at, put1_lt (by omega)] at e
        have := hb k (by omega); omega
      · rw [put1_lt (by omega), put1_lt (by omega)] at e
        exact h.ij k k' (by omega) (by omega) e
end Go.Proofs.Ytlhdppkllmnmkae.G

/- The document's table of counts: written cell by cell; and its rounds, as plain mathematics. -/
namespace Go.Proofs.Ytlhdppkllmnmkae.G
open Go.RowKit

/-- The table: rows apart from one another, and from what leads to them. -/
structure Tb (w : World) (base V L b0 : Nat) (b1 c1 : Nat → Nat) (rb : Nat → Nat → Nat) (f : Nat → Nat → Nat → Int) : Prop where
  r : TbR w V L b0 b1 c1 rb f
  fz : ∀ v i j, v < V → i ≤ L → w.frozen? ⟨rb v i, j, none⟩ = false
  ij : ∀ k i k' i', k < V → i ≤ L → k' < V → i' ≤ L → rb k i = rb k' i' → k = k' ∧ i = i'
  n1 : ∀ k i k', k < V → i ≤ L → k' < V → rb k i ≠ b1 k'
  n0 : ∀ k i, k < V → i ≤ L → rb k i ≠ b0
  ge : ∀ k i, k < V → i ≤ L → base ≤ rb k i
theorem Tb.lw {w w' : World} {base V L b0 : Nat} {b1 c1 : Nat → Nat} {rb : Nat → Nat → Nat} {f : Nat → Nat → Nat → Int} (h : Tb w base V L b0 b1 c1 rb f) (hb : Below w.heap.size w w') : Tb w' base V L b0 b1 c1 rb f :=
  ⟨h.r.lw hb, fun v i j hv hi => (World.frozen?_of_block (w := w) (a := ⟨rb v i, j, none⟩) (hb.block _ (lt_of_cell (h.r.h2 v i 0 hv hi (Nat.zero_le _))))).trans (h.fz v i j hv hi), h.ij, h.n1, h.n0, h.ge⟩
def upd (f : Nat → Nat → Nat → Int) (v i j : Nat) (x : Int) : Nat → Nat → Nat → Int := fun a b c => if a = v ∧ b = i ∧ c = j then x else f a b c
theorem Tb.set {w : World} {base V L b0 : Nat} {b1 c1 : Nat → Nat} {rb : Nat → Nat → Nat} {f : Nat → Nat → Nat → Int} (h : Tb w base V L b0 b1 c1 rb f) {v i j : Nat} (hv : v < V) (hi : i ≤ L) (hj : j ≤ L) (x : Int) : Tb (w.setCell ⟨rb v i, j, none⟩ (.int .i64 x)) base V L b0 b1 c1 rb (upd f v i j x) := by
  have keep : ∀ b o u, b ≠ rb v i → w.cell? ⟨b, o, none⟩ = some u → (w.setCell ⟨rb v i, j, none⟩ (.int .i64 x)).cell? ⟨b, o, none⟩ = some u := fun b o u hb hc => by
    rw [World.cell?_of_block (w := w) (a := ⟨b, o, none⟩) (Below.heap_setCell _ _ _ _ hb)]; exact hc
  refine ⟨⟨fun k hk => keep _ _ _ (fun e => h.n0 v i hv hi e.symm) (h.r.h0 k hk), fun k a hk ha => keep _ _ _ (fun e => h.n1 v i k hv hi hk e.symm) (h.r.h1 k a hk ha), fun k a c hk ha hc => ?_⟩, fun k a c hk ha => ?_, h.ij, h.n1, h.n0, h.ge⟩
  · unfold upd
    by_cases e : k = v ∧ a = i
    · obtain ⟨rfl, rfl⟩ := e
      by_cases e2 : c = j
      · subst e2
        rw [if_pos ⟨rfl, rfl, rfl⟩]
        exact World.cell?_setCell_same _ _ _ (h.r.h2 k a c hk ha hc)
      · rw [if_neg (fun q => e2 q.2.2), World.cell?_setCell_other _ _ _ _ (fun q => e2 (by injection q with _ q; exact q.symm))]
        exact h.r.h2 k a c hk ha hc
    · rw [if_neg (fun q => e ⟨q.1, q.2.1⟩)]
      exact keep _ _ _ (fun q => e (h.ij k a v i hk ha hv hi q)) (h.r.h2 k a c hk ha hc)
  · rw [show (w.setCell ⟨rb v i, j, none⟩ (.int .i64 x)).frozen? ⟨rb k a, c, none⟩ = w.frozen? ⟨rb k a, c, none⟩ by simp [go_sem]]
    exact h.fz k a c hk ha

/-! Rounds. -/
section
variable (R : List Ru) (W : List Int) (m : Int)
variable {R W m}
end
end Go.Proofs.Ytlhdppkllmnmkae.G

/- The document's counts are the exact ones, as far as so many. -/
namespace Go.Proofs.Ytlhdppkllmnmkae.G
open Go.RowKit
/-! As far as so many. -/
def cap (m n : Nat) : Int := ((min n m : Nat) : Int)
theorem cap_rng (m n : Nat) : 0 ≤ cap m n ∧ cap m n ≤ (m : Int) := by unfold cap; omega
theorem cap_zero (m : Nat) : cap m 0 = 0 := by unfold cap; simp
theorem cap_one {m : Nat} (h : 1 ≤ m) : cap m 1 = 1 := by unfold cap; omega
theorem cap_pos {m n : Nat} (h : 1 ≤ m) : 0 < cap m n ↔ 0 < n := by unfold cap; omega
theorem smI_cap (m a b : Nat) : smI (cap m a) (cap m b) m = cap m (a + b) := by unfold smI cap; split <;> omega
theorem prI_cap {m a b : Nat} (hm : 1 ≤ m) : prI (cap m a) (cap m b) m = cap m (a * b) := by
  by_cases ha : a = 0
  · subst ha; unfold prI; rw [Nat.zero_mul, cap_zero, if_pos (.inl rfl)]
  by_cases hb : b = 0
  · subst hb; unfold prI; rw [Nat.mul_zero, cap_zero, if_pos (.inr rfl)]
  have h1 : a ≤ a * b := Nat.le_mul_of_pos_right a (by omega)
  have h2 : b ≤ a * b := Nat.le_mul_of_pos_left b (by omega)
  have pa : 0 < cap m a := (cap_pos hm).2 (by omega)
  have pb : 0 < cap m b := (cap_pos hm).2 (by omega)
  unfold prI
  rw [if_neg (by omega)]
  by_cases hma : m ≤ a
  · rw [if_pos (.inl (by unfold cap; omega))]; unfold cap; omega
  by_cases hmb : m ≤ b
  · rw [if_pos (.inr (.inl (by unfold cap; omega)))]; unfold cap; omega
  have ea : cap m a = (a : Int) := by unfold cap; omega
  have eb : cap m b = (b : Int) := by unfold cap; omega
  rw [ea, eb]
  by_cases hq : ((m : Int) - 1) / (b : Int) < (a : Int)
  · rw [if_pos (.inr (.inr hq))]
    have h3 : (m : Int) - 1 < (a : Int) * b := (Int.ediv_lt_iff_lt_mul (by omega)).1 hq
    have h4 : m ≤ a * b := by
      have : ((a * b : Nat) : Int) = (a : Int) * b := Int.natCast_mul a b
      omega
    unfold cap; omega
  · rw [if_neg (by omega)]
    have h3 := prI_le (a := (a : Int)) (b := (b : Int)) (m := (m : Int)) (by omega) hq
    have h4 : ((a * b : Nat) : Int) = (a : Int) * b := Int.natCast_mul a b
    unfold cap; omega

section
variable {m : Nat}
section
variable {f : Nat → Nat → Nat → Int} {N : Nat → Nat → Nat → Nat} {W : List Int} {V : Nat}
variable {R : List Ru}
end
end
end Go.Proofs.Ytlhdppkllmnmkae.G

/- How many trees, exactly: what the program counts. -/
namespace Go.Proofs.Ytlhdppkllmnmkae.G
open Go.RowKit
/-- How many trees of v have the word from i to j. -/
def nN (R : List Ru) (W : List Int) (V : Nat) : Nat → Nat → Nat → Nat := nT R W (lvls W V)
section
variable {R : List Ru} {W : List Int} {V : Nat}
theorem nN_len (v i j : Nat) : nN R W V v i j = (Trs R W V (v : Int) i j).length := by
  unfold nN Trs; exact (LT_len _ _ _ _ _ _).symm
theorem nN_fix (hA : Acy R V) (hR : ∀ r ∈ R, ∀ s ∈ r.right, s < V) (v i j : Nat) (hj : j ≤ W.length) : nN R W V v i j = stN (nN R W V) W (v : Int) i j R := by
  have h1 : stN (nN R W V) W (v : Int) i j R = nT R W (lvls W V + 1) v i j := rfl
  rw [h1, ← LT_len, LT_Trs hA hR (Nat.le_succ _) (v : Int) i j hj, nN_len]
theorem nN_nul (hA : Acy R V) (hR : ∀ r ∈ R, ∀ s ∈ r.right, s < V) {v i : Nat} (hi : i ≤ W.length) (h : 0 < nN R W V v i i) : Nul R (v : Int) := by
  rw [nN_len] at h
  obtain ⟨t, ht⟩ := List.exists_mem_of_length_pos h
  obtain ⟨h1, h2, _⟩ := (Trs_mem hA hR hi).1 ht
  refine nul_tree h1 ?_
  rw [h2]; unfold seg; simp
/-- How many terminals symbols have at the least. -/
def lstN (E : Int → Bool) : List Int → Nat
  | [] => 0
  | s :: ss => (if E s then 0 else 1) + lstN E ss
theorem sm_pos {F : Nat → Nat} : ∀ {n : Nat}, 0 < sm n F → ∃ k, k < n ∧ 0 < F k
  | 0, h => by simp [sm] at h
  | n + 1, h => by
    have h : 0 < sm n F + F n := h
    by_cases e : 0 < F n
    · exact ⟨n, by omega, e⟩
    · obtain ⟨k, hk, hF⟩ := sm_pos (F := F) (n := n) (by omega)
      exact ⟨k, by omega, hF⟩
theorem vlN_least (hA : Acy R V) (hR : ∀ r ∈ R, ∀ s ∈ r.right, s < V) {E : Int → Bool} (hE : ∀ v : Int, 0 ≤ v → v < V → Nul R v → E v = true) {s : Int} (hs : s < V) {i j : Nat} (hij : i ≤ j) (hj : j ≤ W.length) (h : 0 < vlN (nN R W V) W s i j) : i + (if E s then 0 else 1) ≤ j := by
  by_cases he : i = j
  · subst he
    unfold vlN at h
    by_cases h0 : 0 ≤ s
    · rw [if_pos h0] at h
      have h1 := nN_nul hA hR hj h
      rw [Int.toNat_of_nonneg h0] at h1
      rw [if_pos (hE s h0 hs h1)]; omega
    · rw [if_neg h0, if_neg (by omega)] at h; omega
  · split <;> omega
theorem chN_least (hA : Acy R V) (hR : ∀ r ∈ R, ∀ s ∈ r.right, s < V) {E : Int → Bool} (hE : ∀ v : Int, 0 ≤ v → v < V → Nul R v → E v = true) : ∀ {l : List Int} {i j : Nat}, (∀ s ∈ l, s < V) → j ≤ W.length → 0 < chN (nN R W V) W l i j → i + lstN E l ≤ j
  | [], i, j, _, _, h => by
    simp only [chN] at h
    split at h
    · simp only [lstN]; omega
    · omega
  | s :: ss, i, j, hs, hj, h => by
    simp only [chN] at h
    obtain ⟨m, _, hm⟩ := sm_pos h
    split at hm
    · rename_i hc
      have h1 : 0 < vlN (nN R W V) W s i m := Nat.pos_of_ne_zero fun e => by rw [e] at hm; simp at hm
      have h2 : 0 < chN (nN R W V) W ss m j := Nat.pos_of_ne_zero fun e => by rw [e] at hm; simp at hm
      have h3 := vlN_least hA hR hE (hs s (by simp)) hc.1 (by omega) h1
      have h4 := chN_least hA hR hE (fun t ht => hs t (by simp [ht])) hj h2
      simp only [lstN]; omega
    · omega
/-- What a split counts. -/
def spN (R : List Ru) (W : List Int) (V : Nat) (l : List Int) (k i m j : Nat) : Nat := vlN (nN R W V) W (l.getD k 0) i m * chN (nN R W V) W (l.drop (k + 1)) m j
theorem spN_least (hA : Acy R V) (hR : ∀ r ∈ R, ∀ s ∈ r.right, s < V) {E : Int → Bool} (hE : ∀ v : Int, 0 ≤ v → v < V → Nul R v → E v = true) {l : List Int} (hs : ∀ s ∈ l, s < V) {k i m j : Nat} (hk : k < l.length) (him : i ≤ m) (hmj : m ≤ j) (hj : j ≤ W.length) (h : m < i + lstN E [l.getD k 0] ∨ j < m + lstN E (l.drop (k + 1))) : spN R W V l k i m j = 0 := by
  have hg : l.getD k 0 = l[k] := by rw [List.getD_eq_getElem?_getD, List.getElem?_eq_getElem hk]; rfl
  refine Nat.eq_zero_of_not_pos fun hp => ?_
  unfold spN at hp
  have h1 : 0 < vlN (nN R W V) W (l.getD k 0) i m := Nat.pos_of_ne_zero fun e => by rw [e] at hp; simp at hp
  have h2 : 0 < chN (nN R W V) W (l.drop (k + 1)) m j := Nat.pos_of_ne_zero fun e => by rw [e] at hp; simp at hp
  have h3 := vlN_least hA hR hE (by rw [hg]; exact hs _ (List.getElem_mem hk)) him (by omega) h1
  have h4 := chN_least hA hR hE (fun t ht => hs t (List.mem_of_mem_drop ht)) hj h2
  simp only [lstN] at h
  omega
/-- A row is its splits. -/
theorem chN_split {f : Nat → Nat → Nat → Nat} {l : List Int} {k i j : Nat} (hk : k < l.length) : chN f W (l.drop k) i j = sm (W.length + 1) fun m => if i ≤ m ∧ m ≤ j then vlN f W (l.getD k 0) i m * chN f W (l.drop (k + 1)) m j else 0 := by
  have hg : l.getD k 0 = l[k] := by rw [List.getD_eq_getElem?_getD, List.getElem?_eq_getElem hk]; rfl
  rw [List.drop_eq_getElem_cons hk, hg]; rfl
/-- Splits, summed so far. -/
def spS (F : Nat → Nat) (i : Nat) : Nat → Nat
  | 0 => 0
  | n + 1 => spS F i n + F (i + n)
theorem sm_spS (F : Nat → Nat) (i j : Nat) : ∀ {n : Nat}, (∀ L, i + n ≤ L → sm L (fun m => if i ≤ m ∧ m < i + n then F m else 0) = spS F i n)
  | 0, L, _ => by rw [sm_zero fun k _ => if_neg (by omega)]; rfl
  | n + 1, L, hL => by
    have h1 : sm L (fun m => if i ≤ m ∧ m < i + (n + 1) then F m else 0) = sm L (fun m => (if i ≤ m ∧ m < i + n then F m else 0) + (if m = i + n then F m else 0)) := sm_congr fun m _ => by
      by_cases e : m = i + n
      · subst e; rw [if_pos (by omega), if_neg (by omega), if_pos rfl, Nat.zero_add]
      · by_cases c : i ≤ m ∧ m < i + n
        · rw [if_pos (by omega), if_pos c, if_neg e, Nat.add_zero]
        · rw [if_neg (by omega), if_neg c, if_neg e]
    rw [h1, sm_add, sm_spS F i j (n := n) L (by omega), sm_one (p := i + n) (by omega) (fun k _ hk => if_neg hk), if_pos rfl]; rfl
theorem chN_spS {l : List Int} {k i j : Nat} (hk : k < l.length) (hij : i ≤ j) (hj : j ≤ W.length) : chN (nN R W V) W (l.drop k) i j = spS (fun m => spN R W V l k i m j) i (j + 1 - i) := by
  rw [chN_split hk, ← sm_spS (fun m => spN R W V l k i m j) i j (n := j + 1 - i) (W.length + 1) (by omega)]
  refine sm_congr fun m _ => ?_
  by_cases c : i ≤ m ∧ m ≤ j
  · rw [if_pos c, if_pos (by omega)]; rfl
  · rw [if_neg c, if_neg (by omega)]
/-- The rules of v one behind the other. -/
def stS (f : Nat → Nat → Nat → Nat) (R : List Ru) (W : List Int) (i j : Nat) : List Int → Nat
  | [] => 0
  | r :: rs => chN f W (R.getD r.toNat ⟨0, []⟩).right i j + stS f R W i j rs
theorem stS_by {f : Nat → Nat → Nat → Nat} {i j : Nat} {v : Int} : ∀ (rs : List Ru) (k : Nat), rs = R.drop k → stN f W v i j rs = stS f R W i j (byL v rs k)
  | [], _, _ => rfl
  | r :: rs, k, h => by
    have hk : k < R.length := by
      rcases Nat.lt_or_ge k R.length with h' | h'
      · exact h'
      · rw [List.drop_of_length_le h'] at h; cases h
    rw [List.drop_eq_getElem_cons hk] at h
    obtain ⟨h1, h2⟩ := List.cons.inj h
    have ih := stS_by (f := f) (i := i) (j := j) (v := v) rs (k + 1) h2
    simp only [stN, byL]
    by_cases e : r.left = v
    · rw [if_pos e, if_pos e, ih]
      simp only [stS]
      rw [show ((k : Int)).toNat = k by omega, List.getD_eq_getElem?_getD, List.getElem?_eq_getElem hk, ← h1]; rfl
    · rw [if_neg e, if_neg e, ih, Nat.zero_add]
end
end Go.Proofs.Ytlhdppkllmnmkae.G

/- A map of numbers that is right at each key that it has. -/
namespace Go.Proofs.Ytlhdppkllmnmkae.G
open Go.RowKit Go.Maps Go.WideElems Go.MapKept Go.WideShapes
section
variable {P : Program} {k ei : TypeId} {G : Value → Int → Prop} {w : World} {b : Nat}
/-- Block b is a map of numbers; what it has at a key is right. -/
def Memo (P : Program) (k ei : TypeId) (w : World) (b : Nat) (G : Value → Int → Prop) : Prop :=
  ∃ es clock, w.heap[b]? = some (.map es clock) ∧ WideElems.Fit (H := Unit) P k (plainElem P ei) es clock ∧ ∀ x ∈ es.toList, ∃ n, x.val = .int .i64 n ∧ G x.key n
theorem Memo.made (w : World) : Memo P k ei (w.alloc (.map #[] 0)) w.heap.size G :=
  ⟨#[], 0, (MapKept.heap_alloc w _).1, ⟨by simp, stamped_empty 0, by simp⟩, by simp⟩
theorem Memo.of {w' : World} (h : Memo P k ei w b G) (hb : w'.heap[b]? = w.heap[b]?) : Memo P k ei w' b G := let ⟨es, clock, h1, h2⟩ := h; ⟨es, clock, hb.trans h1, h2⟩
theorem Memo.lt (h : Memo P k ei w b G) : b < w.heap.size := let ⟨_, _, h1, _⟩ := h; (Array.getElem?_eq_some_iff.1 h1).1
theorem Memo.lw {w' : World} (h : Memo P k ei w b G) (hb : Below w.heap.size w w') : Memo P k ei w' b G := h.of (hb.block b h.lt)
/-- Different keys, all below so many. -/
structure Keys (P : Program) (k : TypeId) (G : Value → Int → Prop) (N : Nat) : Prop where
  code : ∃ c : Value → Nat, (∀ key n, G key n → c key < N) ∧ ∀ x y n m, G x n → G y m → c x = c y → x = y
  lim : N < maxLen
theorem Memo.room {N : Nat} {es : Array MapEntry} {clock : Nat} (hK : Keys P k G N) (F : WideElems.Fit (H := Unit) P k (plainElem P ei) es clock) (hG : ∀ x ∈ es.toList, ∃ n, x.val = .int .i64 n ∧ G x.key n) : es.size < maxLen := by
  obtain ⟨c, hc, hi⟩ := hK.code
  have hn : (es.toList.map fun x => c x.key).Nodup := by
    have h1 := ((MapKept.stamped_iff es clock).1 F.stamped).2.2
    show List.Pairwise (fun a b => a ≠ b) _
    rw [List.pairwise_map]
    have h2 : es.toList.Pairwise (fun x y => x ∈ es.toList ∧ y ∈ es.toList ∧ x.key ≠ y.key) := List.Pairwise.imp_of_mem (fun ha hb h => ⟨ha, hb, h⟩) h1
    refine h2.imp fun ⟨ha, hb, h⟩ e => h ?_
    obtain ⟨n, _, g1⟩ := hG _ ha
    obtain ⟨m, _, g2⟩ := hG _ hb
    exact hi _ _ _ _ g1 g2 e
  have hs : (es.toList.map fun x => c x.key) ⊆ List.range N := fun y hy => by
    obtain ⟨x, hx, rfl⟩ := List.mem_map.1 hy
    obtain ⟨n, _, g⟩ := hG _ hx
    exact List.mem_range.2 (hc _ _ g)
  have := nodup_sub hn hs
  have := hK.lim
  simp at *; omega
theorem Memo.look {t : TypeId} (h : Memo P k ei w b G) (K : Keyed P k) (ht : P.underlying t = some (.map k ei)) (hz : (zeroValue ei).run P w = .ok (.int .i64 0) w) {key : Value} {kl : Lit} (hkey : keyOf P k key = some kl) :
    ∃ n q, (Instr.lookup t (.map (some b)) key true).run P w = .ok (.tuple #[.int .i64 n, .bool q]) w ∧ (q = true → G key n) := by
  obtain ⟨es, clock, hb, F, hG⟩ := h
  rcases Maps.fit_look true K ht hz hb F hkey with ⟨hrun, _, _⟩ | ⟨e0, y, hm, he, hrun, _, _, _⟩
  · exact ⟨0, false, hrun, fun h => by cases h⟩
  · obtain ⟨n, hv, g⟩ := hG _ hm
    rw [hv] at hrun
    exact ⟨n, true, hrun, fun _ => he ▸ g⟩
theorem Memo.store {t : TypeId} {N : Nat} (h : Memo P k ei w b G) (hK : Keys P k G N) (K : Keyed P k) (ht : P.underlying t = some (.map k ei)) (he : P.underlying ei = some (.int .i64)) {key : Value} {n : Int} {kl : Lit} (hkey : keyOf P k key = some kl) (hn : (Lit.int .i64 n).wf = true) (hg : G key n) :
    ∃ w', (Instr.mapUpdate t (.map (some b)) key (.int .i64 n)).run P w = .ok () w' ∧ Memo P k ei w' b G ∧ w.grownBy w' (some b) := by
  obtain ⟨es, clock, hb, F, hG⟩ := h
  have hroom := Memo.room hK F hG
  obtain ⟨es', clock', hrun, F', _, _, _, hw⟩ := Maps.fit_store (R' := plainElem P ei) K ht hb F hroom (fun _ _ _ _ hz => hz) hkey (plainElem_int he hn)
  refine ⟨_, hrun, ⟨es', clock', ChangeMaps.heap_setBlock_same hb _, F', fun x hx => ?_⟩, ⟨rfl, rfl, rfl, by simp [ChangeMaps.setBlock], fun i _ hi => ChangeMaps.heap_setBlock_other hb _ (fun e => hi (by rw [e]))⟩⟩
  rcases hw x hx with ⟨h1, _⟩ | ⟨h1, h2⟩
  · exact hG x h1
  · exact ⟨n, h2, by rw [h1]; exact hg⟩
end
/-- 'm[k] = n', at the operation. -/
theorem wpList_mapUpdate_memo {P : Program} (w : World) {ops : Array Oper} {rest : List Oper} {o : Oper} {a : Act} {Q : Exit → Act → World → Prop} (hg : o.guard = none) (m x v : Operand) (t : TypeId) (hop : o.op = Op.mapUpdate t m x v)
    (k ei : TypeId) (K : Keyed P k) (ht : P.underlying t = some (.map k ei)) (he : P.underlying ei = some (.int .i64)) (b : Nat) (G : Value → Int → Prop) (N : Nat) (hKs : Keys P k G N)
    (hm : a.eval m = .map (some b)) (hown : Memo P k ei w b G) (key : Value) (n : Int) (hx : a.eval x = key) (hv : a.eval v = .int .i64 n) (hkey : ∃ kl, keyOf P k key = some kl) (hn : (Lit.int .i64 n).wf = true) (hgn : G key n)
    (hK : ∀ w', Memo P k ei w' b G → w.grownBy w' (some b) → wpList P ops Q rest (a.put o.dst undef) w') :
    wpList P ops Q (o :: rest) a w := by
  refine wpList_plain hg fun K' hK' => ?_
  obtain ⟨kl, hkey⟩ := hkey
  obtain ⟨w', hrun, r1, r2⟩ := hown.store hKs K ht he hkey hn hgn
  unfold Oper.wp
  simp [execOp, hop, hm, hx, hv, hrun, Result.andThen]
  exact hK' _ _ (hK w' r1 r2)
/-- All blocks but two are as they were. -/
structure Kt (p q : Nat) (w w' : World) : Prop where
  os : w'.os = w.os
  tape : w'.tape = w.tape
  output : w'.output = w.output
  size : w.heap.size ≤ w'.heap.size
  block : ∀ k, k < w.heap.size → k ≠ p → k ≠ q → w'.heap[k]? = w.heap[k]?
theorem Kt.refl (p q : Nat) (w : World) : Kt p q w w := ⟨rfl, rfl, rfl, Nat.le_refl _, fun _ _ _ _ => rfl⟩
theorem Kt.trans {p q : Nat} {a b c : World} (h : Kt p q a b) (k : Kt p q b c) : Kt p q a c :=
  ⟨k.os.trans h.os, k.tape.trans h.tape, k.output.trans h.output, Nat.le_trans h.size k.size, fun i hi h1 h2 => (k.block i (Nat.lt_of_lt_of_le hi h.size) h1 h2).trans (h.block i hi h1 h2)⟩
theorem Kt.of_below {p q : Nat} {w w' : World} (h : Below w.heap.size w w') : Kt p q w w' := ⟨h.os, h.tape, h.output, h.size, fun k hk _ _ => h.block k hk⟩
theorem Kt.below {p q B : Nat} {w w' : World} (h : Kt p q w w') (hp : B ≤ p) (hq : B ≤ q) (hB : B ≤ w.heap.size) : Below B w w' := ⟨h.os, h.tape, h.output, h.size, fun k hk => h.block k (by omega) (by omega) (by omega)⟩
theorem Kt.alloc {p q : Nat} {a w : World} (h : Kt p q a w) (o : Obj) : Kt p q a (w.alloc o) := h.trans (Kt.of_below (al1 _ _))
theorem Kt.setCell {p q : Nat} {a w : World} (h : Kt p q a w) {x : Addr} (hx : a.heap.size ≤ x.block) (u : Value) : Kt p q a (w.setCell x u) :=
  ⟨h.os, h.tape, h.output, by simpa [World.setCell] using h.size, fun k hk h1 h2 => by rw [Below.heap_setCell _ _ _ _ (by omega)]; exact h.block k hk h1 h2⟩
theorem Kt.grown {p q : Nat} {a w w' : World} {row : Option Nat} (h : Kt p q a w) (hg : w.grownBy w' row) (hr : ∀ k, row = some k → k = p ∨ k = q ∨ a.heap.size ≤ k) : Kt p q a w' :=
  ⟨hg.os.trans h.os, hg.tape.trans h.tape, hg.output.trans h.output, Nat.le_trans h.size hg.size, fun k hk h1 h2 => by
    rw [hg.block k (Nat.lt_of_lt_of_le hk h.size) (fun e => by rcases hr k e.symm with h' | h' | h' <;> omega)]; exact h.block k hk h1 h2⟩
theorem Kt.cell {p q : Nat} {w w' : World} (h : Kt p q w w') {b o : Nat} {v : Value} (hc : w.cell? ⟨b, o, none⟩ = some v) (hp : b ≠ p) (hq : b ≠ q) : w'.cell? ⟨b, o, none⟩ = some v :=
  (World.cell?_of_block (w := w) (a := ⟨b, o, none⟩) (h.block b (lt_of_cell hc) hp hq)).trans hc
theorem Kt.frozen {p q : Nat} {w w' : World} (h : Kt p q w w') {b o : Nat} (hb : b < w.heap.size) (hp : b ≠ p) (hq : b ≠ q) : w'.frozen? ⟨b, o, none⟩ = w.frozen? ⟨b, o, none⟩ :=
  World.frozen?_of_block (w := w) (a := ⟨b, o, none⟩) (h.block b hb hp hq)
/-- All blocks but two. -/
def Nt2 (p q k : Nat) : Prop := k ≠ p ∧ k ≠ q
theorem Kt.kp {p q : Nat} {w w' : World} (h : Kt p q w w') : Kp (Nt2 p q) w w' := ⟨h.size, fun k hk hs => h.block k hk hs.1 hs.2⟩
end Go.Proofs.Ytlhdppkllmnmkae.G

/- Sums and products, the program's way. -/
namespace Go.Proofs.Ytlhdppkllmnmkae.G
open Go.RowKit
theorem w64_in {n : Int} (h : -9223372036854775808 ≤ n ∧ n ≤ 9223372036854775807) : wrap64 n = n := by unfold wrap64; omega
theorem pr_le {a b : Int} (ha : 0 ≤ a) (hb : 0 < b) (hbm : b ≤ 4611686018427387904) (h : ¬ 4611686018427387904 / b < a) : a * b = prI a b 4611686018427387904 ∧ 0 ≤ a * b ∧ a * b ≤ 4611686018427387904 := by
  have h0 := Int.mul_nonneg ha (Int.le_of_lt hb)
  have h1 : a ≤ 4611686018427387904 / b := by omega
  have h2 := Int.mul_le_mul_of_nonneg_right h1 (Int.le_of_lt hb)
  have h3 := Int.ediv_mul_le 4611686018427387904 (b := b) (by omega)
  have h4 : a * b ≤ 4611686018427387904 := Int.le_trans h2 h3
  refine ⟨?_, h0, h4⟩
  unfold prI
  by_cases ha0 : a = 0
  · subst ha0; simp
  rw [if_neg (by omega)]
  by_cases hc : (4611686018427387904 : Int) ≤ a ∨ 4611686018427387904 ≤ b ∨ (4611686018427387904 - 1) / b < a
  · rw [if_pos hc]
    have hge : 4611686018427387904 ≤ a * b := by
      rcases hc with hc | hc | hc
      · have := Int.mul_le_mul_of_nonneg_left (show (1 : Int) ≤ b by omega) ha; omega
      · have := Int.mul_le_mul_of_nonneg_right (show (1 : Int) ≤ a by omega) (Int.le_of_lt hb); omega
      · have := (Int.ediv_lt_iff_lt_mul hb).1 hc; omega
    omega
  · rw [if_neg hc]
theorem pr_gt {a b : Int} (_ha : 0 ≤ a) (hb : 0 < b) (h : 4611686018427387904 / b < a) : prI a b 4611686018427387904 = 4611686018427387904 := by
  have h0 : 0 ≤ (4611686018427387904 : Int) / b := Int.ediv_nonneg (by omega) (Int.le_of_lt hb)
  have h1 : (4611686018427387904 - 1) / b ≤ 4611686018427387904 / b := Int.ediv_le_ediv hb (by omega)
  unfold prI
  rw [if_neg (by omega), if_pos (by omega)]
set_option maxRecDepth 100000 in
set_option maxHeartbeats 4000000 in
theorem plus_any (a b : Int) (w : World) : Calls Try.prog 11 #[.int .i64 a, .int .i64 b] w fun e w' => (∃ n, e = .returned (.int .i64 n) ∧ (0 ≤ a → a ≤ 4611686018427387904 → 0 ≤ b → b ≤ 4611686018427387904 → n = smI a b 4611686018427387904)) ∧ w' = w := by
  have HA : Hid (0 ≤ a → a ≤ 4611686018427387904 → 0 ≤ b → b ≤ 4611686018427387904 → wrap64 (4611686018427387904 - b) = 4611686018427387904 - b) := hd fun _ _ _ _ => w64_in ⟨by omega, by omega⟩
  by_cases h : wrap64 (4611686018427387904 - b) ≤ a
  · have hR : Hid (0 ≤ a → a ≤ 4611686018427387904 → 0 ≤ b → b ≤ 4611686018427387904 → (4611686018427387904 : Int) = smI a b 4611686018427387904) := hd fun h1 h2 h3 h4 => by
      have := HA.out h1 h2 h3 h4
      unfold smI; rw [if_pos (by omega)]
    generalize hx : wrap64 (4611686018427387904 - b) = x at *
    go_enter Try.func11, Try.ntmps11
    go_wp2_with fail
    go_ret
    exact ⟨⟨_, rfl, hR.out⟩, rfl⟩
  · have hR : Hid (0 ≤ a → a ≤ 4611686018427387904 → 0 ≤ b → b ≤ 4611686018427387904 → wrap64 (a + b) = smI a b 4611686018427387904) := hd fun h1 h2 h3 h4 => by
      have := HA.out h1 h2 h3 h4
      rw [w64_in ⟨by omega, by omega⟩]
      unfold smI; rw [if_neg (by omega)]
    generalize hx : wrap64 (4611686018427387904 - b) = x at *
    go_enter Try.func11, Try.ntmps11
    go_wp2_with fail
    go_ret
    exact ⟨⟨_, rfl, hR.out⟩, rfl⟩
theorem plus_in {a b : Int} (w : World) (ha : 0 ≤ a) (ha' : a ≤ 4611686018427387904) (hb : 0 ≤ b) (hb' : b ≤ 4611686018427387904) : Calls Try.prog 11 #[.int .i64 a, .int .i64 b] w fun e w' => e = .returned (.int .i64 (smI a b 4611686018427387904)) ∧ w' = w :=
  (plus_any a b w).mono fun e w' ⟨⟨n, h1, h2⟩, h3⟩ => ⟨by rw [h1, h2 ha ha' hb hb'], h3⟩
set_option maxRecDepth 100000 in
set_option maxHeartbeats 4000000 in
theorem times_any (a b : Int) (w : World) : Calls Try.prog 14 #[.int .i64 a, .int .i64 b] w fun e w' => (∃ n, e = .returned (.int .i64 n) ∧ (0 ≤ a → a ≤ 4611686018427387904 → 0 ≤ b → b ≤ 4611686018427387904 → n = prI a b 4611686018427387904)) ∧ w' = w := by
  by_cases h0 : b = 0
  · subst h0
    have hR : Hid (prI a 0 4611686018427387904 = 0) := hd (by unfold prI; simp)
    go_enter Try.func14, Try.ntmps14
    go_wp2_with fail
    go_ret
    exact ⟨⟨_, rfl, fun _ _ _ _ => by rw [hR.out]⟩, rfl⟩
  · have h0b : (b == 0) = false := by simpa using h0
    have h0c : (b != 0) = true := by simpa using h0
    have hd0 : Hid (0 ≤ b → Int.tdiv 4611686018427387904 b = 4611686018427387904 / b ∧ 0 ≤ (4611686018427387904 : Int) / b ∧ (4611686018427387904 : Int) / b ≤ 4611686018427387904) := hd fun hb => ⟨Int.tdiv_eq_ediv_of_nonneg (by omega), Int.ediv_nonneg (by omega) hb, Int.ediv_le_self _ (by omega)⟩
    by_cases h : wrap64 (Int.tdiv 4611686018427387904 b) < a
    · have hR : Hid (0 ≤ a → a ≤ 4611686018427387904 → 0 ≤ b → b ≤ 4611686018427387904 → (4611686018427387904 : Int) = prI a b 4611686018427387904) := hd fun h1 h2 h3 h4 => by
        obtain ⟨e1, e2, e3⟩ := hd0.out h3
        rw [e1, w64_in ⟨by omega, by omega⟩] at h
        exact (pr_gt h1 (by omega) h).symm
      generalize hx : wrap64 (Int.tdiv 4611686018427387904 b) = x at *
      go_enter Try.func14, Try.ntmps14
      go_wp2_with fail
      go_ret
      exact ⟨⟨_, rfl, hR.out⟩, rfl⟩
    · have hR : Hid (0 ≤ a → a ≤ 4611686018427387904 → 0 ≤ b → b ≤ 4611686018427387904 → wrap64 (a * b) = prI a b 4611686018427387904) := hd fun h1 h2 h3 h4 => by
        obtain ⟨e1, e2, e3⟩ := hd0.out h3
        rw [e1, w64_in ⟨by omega, by omega⟩] at h
        obtain ⟨g1, g2, g3⟩ := pr_le h1 (by omega) h4 h
        rw [w64_in ⟨by omega, by omega⟩, g1]
      generalize hx : wrap64 (Int.tdiv 4611686018427387904 b) = x at *
      generalize hab : a * b = ab at *
      go_enter Try.func14, Try.ntmps14
      go_wp2_with fail
      go_ret
      exact ⟨⟨_, rfl, hR.out⟩, rfl⟩
theorem times_in {a b : Int} (w : World) (ha : 0 ≤ a) (ha' : a ≤ 4611686018427387904) (hb : 0 ≤ b) (hb' : b ≤ 4611686018427387904) : Calls Try.prog 14 #[.int .i64 a, .int .i64 b] w fun e w' => e = .returned (.int .i64 (prI a b 4611686018427387904)) ∧ w' = w :=
  (times_any a b w).mono fun e w' ⟨⟨n, h1, h2⟩, h3⟩ => ⟨by rw [h1, h2 ha ha' hb hb'], h3⟩
def oneI (q : Bool) : Int := if q then 1 else 0
set_option maxRecDepth 100000 in
set_option maxHeartbeats 4000000 in
theorem one_any (q : Bool) (w : World) : Calls Try.prog 58 #[.bool q] w fun e w' => e = .returned (.int .i64 (oneI q)) ∧ w' = w := by
  cases q with
  | true =>
    go_enter Try.func58, Try.ntmps58
    go_wp2_with fail
    go_ret
    exact ⟨rfl, rfl⟩
  | false =>
    go_enter Try.func58, Try.ntmps58
    go_wp2_with fail
    go_ret
    exact ⟨rfl, rfl⟩
end Go.Proofs.Ytlhdppkllmnmkae.G

/- Sets, the program's way: Has, With, List; numbers each of which is asked. -/
namespace Go.Proofs.Ytlhdppkllmnmkae.G
open Go.RowKit
theorem ret_u {a b : Int} (h : a = b) : Ending.returned (.int .u64 a) = .returned (.int .u64 b) := by rw [h]
def mayB (v : Int) : Bool := decide (0 ≤ v) && decide (v < 64)
theorem mayB_iff {v : Int} : mayB v = true ↔ 0 ≤ v ∧ v < 64 := by simp [mayB]
set_option maxRecDepth 100000 in
set_option maxHeartbeats 4000000 in
theorem may_any (v : Int) (w : World) : Calls Try.prog 57 #[.int .i64 v] w fun e w' => e = .returned (.bool (mayB v)) ∧ w' = w := by
  by_cases h : 0 ≤ v
  · by_cases h' : v < 64
    · have hR : Hid (mayB v = true) := hd (mayB_iff.2 ⟨h, h'⟩)
      go_enter Try.func57, Try.ntmps57
      go_wp2_with fail
      go_ret
      exact ⟨ret_bool (by rw [hR.out]), rfl⟩
    · have hR : Hid (mayB v = false) := hd (by rw [← Bool.not_eq_true, mayB_iff]; omega)
      go_enter Try.func57, Try.ntmps57
      go_wp2_with fail
      go_ret
      exact ⟨ret_bool (by rw [hR.out]), rfl⟩
  · have hR : Hid (mayB v = false) := hd (by rw [← Bool.not_eq_true, mayB_iff]; omega)
    go_enter Try.func57, Try.ntmps57
    go_wp2_with fail
    go_ret
    exact ⟨ret_bool (by rw [hR.out]), rfl⟩
set_option maxRecDepth 100000 in
set_option maxHeartbeats 4000000 in
theorem has_any (s : BitVec 64) (v : Int) (w : World) : Calls Try.prog 61 #[.int .u64 (U s), .int .i64 v] w fun e w' => e = .returned (.bool (hasB s v)) ∧ w' = w := by
  have MA := may_any v w
  by_cases h : 0 ≤ v ∧ v < 64
  · obtain ⟨k, rfl⟩ : ∃ k : Nat, v = k := ⟨v.toNat, by omega⟩
    have hk : k < 64 := by omega
    rw [mayB_iff.2 h] at MA
    have hR : Hid (hasB s k = (bits .and .u64 (U s / 2 ^ k) 1 == 1)) := hd (by rw [U_has, has_nat s hk])
    clear h
    generalize hasB s k = R at *
    generalize U s = S at *
    go_enter Try.func61, Try.ntmps61
    go_wp2_with fail
    refine MA.mono ?_
    rintro e wx ⟨rfl, hwx⟩
    obtain rfl := hwx.symm
    go_wp2_with fail
    go_ret
    exact ⟨ret_bool (by rw [hR.out]), rfl⟩
  · have h0 : mayB v = false := by rw [← Bool.not_eq_true, mayB_iff]; exact h
    rw [h0] at MA
    have hR : Hid (hasB s v = false) := hd (by
      cases e : hasB s v with
      | true => exact absurd (has_in e) h
      | false => rfl)
    clear h h0
    generalize U s = S at *
    go_enter Try.func61, Try.ntmps61
    go_wp2_with fail
    refine MA.mono ?_
    rintro e wx ⟨rfl, hwx⟩
    obtain rfl := hwx.symm
    go_wp2_with fail
    go_ret
    exact ⟨ret_bool (by rw [hR.out]), rfl⟩
set_option maxRecDepth 100000 in
set_option maxHeartbeats 4000000 in
theorem with_any (s : BitVec 64) (v : Int) (w : World) : Calls Try.prog 30 #[.int .u64 (U s), .int .i64 v] w fun e w' => e = .returned (.int .u64 (U (withB s v))) ∧ w' = w := by
  have MA := may_any v w
  by_cases h : 0 ≤ v ∧ v < 64
  · obtain ⟨k, rfl⟩ : ∃ k : Nat, v = k := ⟨v.toNat, by omega⟩
    have hk : k < 64 := by omega
    rw [mayB_iff.2 h] at MA
    have hR : Hid (U (withB s k) = bits .or .u64 (U s) (IntKind.u64.wrap (1 * 2 ^ k))) := hd (by rw [U_bit k hk, U_or]; unfold withB; rw [if_pos h]; simp)
    clear h
    generalize U (withB s k) = R at *
    generalize U s = S at *
    go_enter Try.func30, Try.ntmps30
    go_wp2_with fail
    refine MA.mono ?_
    rintro e wx ⟨rfl, hwx⟩
    obtain rfl := hwx.symm
    go_wp2_with fail
    go_ret
    exact ⟨ret_u (by rw [hR.out]; simp), rfl⟩
  · have h0 : mayB v = false := by rw [← Bool.not_eq_true, mayB_iff]; exact h
    rw [h0] at MA
    have hR : Hid (U (withB s v) = U s) := hd (by unfold withB; rw [if_neg h])
    clear h h0
    generalize U (withB s v) = R at *
    generalize U s = S at *
    go_enter Try.func30, Try.ntmps30
    go_wp2_with fail
    refine MA.mono ?_
    rintro e wx ⟨rfl, hwx⟩
    obtain rfl := hwx.symm
    go_wp2_with fail
    go_ret
    exact ⟨ret_u hR.out.symm, rfl⟩
set_option maxRecDepth 100000 in
set_option maxHeartbeats 4000000 in
theorem list_any (s : BitVec 64) (w : World) : Calls Try.prog 75 #[.int .u64 (U s)] w fun e w' => ∃ v, e = .returned v ∧ w'.ownsRow w.heap.size 3 1 v (listB s).length (ints (listB s)) ∧ Below w.heap.size w w' := by
  obtain ⟨i0, hi, iz0, iz1, iz2⟩ := info_parts Try.infoInt
  go_enter Try.func75, Try.ntmps75
  go_wp2_with fail
  go_loopw [3, 5] (fun v i wr => ∃ (k : Nat) (acc : List Int), k ≤ 64 ∧ i = .int .i64 k ∧ Hid (acc = upto k fun j => hasB s j) ∧ acc.length ≤ k ∧ wr.ownsRow w.heap.size 3 1 v acc.length (ints acc) ∧ Below w.heap.size w wr) (fun _ i _ => 64 - (intOf i).toNat)
  case atStart => exact ⟨0, [], Nat.zero_le _, rfl, hd rfl, Nat.le_refl _, World.ownsRow_nil _ _ _ _, Below.refl _ _⟩
  case round =>
    obtain ⟨k, acc, hk, rfl, hacc, hal, hown, bel⟩ := hrel
    have hz := bel.size
    by_cases hlt : k < 64
    · have HA := has_any s k wr
      have HY : Hid (hasB s k = true → acc ++ [(k : Int)] = upto (k + 1) fun j => hasB s j) := hd (fun e => by rw [hacc.out, upto_yes (f := fun j : Nat => hasB s j) e])
      have HN : Hid (hasB s k = false → acc = upto (k + 1) fun j => hasB s j) := hd (fun e => by rw [hacc.out, upto_no (f := fun j : Nat => hasB s j) e])
      clear hacc
      generalize hasB s k = q at *
      obtain ⟨aov, capv, rfl⟩ := owns_slice hown
      cases q with
      | true =>
        have HY' := hd (HY.out rfl)
        clear HY HN
        go_wp2_with fail
        refine HA.mono ?_
        rintro e wx ⟨rfl, hwx⟩
        obtain rfl := hwx.symm
        go_wp2_with (first | (at_builtin; go_must (refine wpList_append_own _ rfl _ _ 25 rfl w.heap.size 3 i0 (.int .i64 0) 1 8 Try.underlying25 hi iz0 iz1 iz2 rfl (by decide) _ _ _ rfl (hown.alloc _) ⟨wr.heap.size, 0, none⟩ 1 1 [.int .i64 k] rfl rfl (cell_one_at _ _ _ (by simp)) (oneInts [(k : Int)]) (by unfold maxLen; omega) (by omega) (by simp <;> omega) ?_)))
        intro v1 W1 own1 grow1 _
        go_wp2_with fail
        go_roundw
        case rel => exact ⟨k + 1, acc ++ [(k : Int)], by omega, by go_num, HY', by simp; omega, by simpa [ints] using own1, (bel.alloc hz _).grown grow1 (by simp <;> omega) (fun j hj => (hown.lt j hj).1)⟩
        case measure => simp [intOf]; omega
      | false =>
        have HN' := hd (HN.out rfl)
        clear HY HN
        go_wp2_with fail
        refine HA.mono ?_
        rintro e wx ⟨rfl, hwx⟩
        obtain rfl := hwx.symm
        go_wp2_with fail
        go_roundw
        case rel => exact ⟨k + 1, acc, by omega, by go_num, HN', by omega, hown, bel⟩
        case measure => simp [intOf]; omega
    · have he : acc = listB s := by rw [hacc.out, show k = 64 by omega]; rfl
      rw [he] at hown
      clear hacc hal
      go_wp2_with fail
      go_ret
      exact ⟨_, rfl, hown, bel⟩

/-! Numbers each of which is asked. -/
/-- A function that is called as it is. -/
def Cal (id : Nat) : Prop := ∀ (args : Array Value) (w : World), (callFunc id args).run Try.prog w = .ok (.enter id args) w
theorem cal_has : Cal 61 := fun args w => by go_simp
/-- A look: a function value that answers p of a number, and leaves all as it is. -/
def Lk (W : World) (f : Value) (p : Int → Bool) : Prop := ∃ (id : Nat) (rc cs : Array Value), f = .func (.func id) rc cs ∧ Cal id ∧ ∀ (n : Int) (w : World), Below W.heap.size W w → Calls Try.prog id (rc.push (.int .i64 n) ++ cs) w fun e w' => e = .returned (.bool (p n)) ∧ w' = w
theorem Lk.lw {W W' : World} {f : Value} {p : Int → Bool} (h : Lk W f p) (hb : Below W.heap.size W W') : Lk W' f p :=
  let ⟨id, rc, cs, e, hc, h⟩ := h
  ⟨id, rc, cs, e, hc, fun n w hw => h n w (bthen hb hw)⟩
set_option maxRecDepth 100000 in
set_option maxHeartbeats 4000000 in
theorem fall1_any (n : Int) (bk : Nat) (p : Int → Bool) (f : Value) (w : World) (hf : Lk w f p) (hk : w.cell? ⟨bk, 0, none⟩ = some f) :
    Calls Try.prog 101 #[.int .i64 n, .pointer (some ⟨bk, 0, none⟩)] w fun e w' => e = .returned (.bool (!p n)) ∧ w' = w := by
  obtain ⟨id, rc, cs, rfl, hcf, hc⟩ := hf
  have WA := hc n w (Below.refl _ _)
  clear hc
  unfold Cal at hcf
  generalize p n = q at *
  go_enter Try.func101, Try.ntmps101
  go_wp2_with fail
  refine WA.mono ?_
  rintro e wx ⟨rfl, hwx⟩
  obtain rfl := hwx.symm
  go_wp2_with fail
  go_ret
  exact ⟨rfl, rfl⟩
end Go.Proofs.Ytlhdppkllmnmkae.G

/- Numbers each of which is asked, the program's way; a set that grows till nothing more comes. -/
namespace Go.Proofs.Ytlhdppkllmnmkae.G
open Go.RowKit
set_option maxRecDepth 100000 in
set_option maxHeartbeats 4000000 in
theorem findexFunc_any (p : Int → Bool) (f : Value) (l : List Int) (va : Value) (bk : Nat) (w : World) (ha : IsV w All va l) (hf : Lk w f p) (hk : w.cell? ⟨bk, 0, none⟩ = some f) :
    Calls Try.prog 52 #[va, .func (.func 101) #[] #[.pointer (some ⟨bk, 0, none⟩)]] w fun e w' => ∃ r : Int, e = .returned (.int .i64 r) ∧ decide (0 ≤ r) = !(l.all p) ∧ w' = w := by
  have AA := fun n => fall1_any n bk p f w hf hk
  obtain ⟨ao, cap, rfl⟩ := ha.slice
  have hl := ha.1
  clear hf hk
  go_enter Try.func52, Try.ntmps52
  go_wp2_with fail
  go_loopw [8] (fun i wr => ∃ k : Nat, k ≤ l.length ∧ i = .int .i64 k ∧ Hid (∀ j (h : j < l.length), j < k → p l[j] = true) ∧ wr = w) (fun i _ => l.length - (intOf i).toNat)
  case atStart => exact ⟨0, Nat.zero_le _, rfl, hd (fun j _ hj => absurd hj (Nat.not_lt_zero _)), rfl⟩
  case round =>
    obtain ⟨k, hk, rfl, hall, rfl⟩ := hrel
    by_cases hlt : k < l.length
    · obtain ⟨b, o, rfl, c0⟩ := ha.at_ hlt
      have AK := AA l[k]
      have HY : Hid (p l[k] = true → ∀ j (h : j < l.length), j < k + 1 → p l[j] = true) := hd (fun e j h hj => by
        by_cases ej : j = k
        · subst ej; exact e
        · exact hall.out j h (by omega))
      have HN : Hid (p l[k] = false → l.all p = false) := hd (fun e => by
        rw [List.all_eq_false]
        exact ⟨_, List.getElem_mem hlt, by simpa using e⟩)
      clear AA
      generalize p l[k] = q at *
      generalize l[k] = x at *
      cases q with
      | true =>
        go_wp2_with fail
        refine AK.mono ?_
        rintro e wx ⟨rfl, hwx⟩
        obtain rfl := hwx.symm
        go_wp2_with fail
        go_roundw
        case rel => exact ⟨k + 1, by omega, by go_num, hd (HY.out trivial), trivial⟩
        case measure => simp [intOf]; omega
      | false =>
        go_wp2_with fail
        refine AK.mono ?_
        rintro e wx ⟨rfl, hwx⟩
        obtain rfl := hwx.symm
        go_wp2_with fail
        go_ret
        exact ⟨(k : Int), rfl, by rw [HN.out trivial]; simp, rfl⟩
    · have hR : Hid (l.all p = true) := hd (by
        rw [List.all_eq_true]
        intro x hx
        obtain ⟨j, hj, rfl⟩ := List.mem_iff_getElem.1 hx
        exact hall.out j hj (by omega))
      go_wp2_with fail
      go_ret
      exact ⟨-1, rfl, by rw [hR.out]; rfl, rfl⟩
set_option maxRecDepth 100000 in
set_option maxHeartbeats 4000000 in
theorem fcontainsFunc_any (p : Int → Bool) (f : Value) (l : List Int) (va : Value) (bk : Nat) (w : World) (ha : IsV w All va l) (hf : Lk w f p) (hk : w.cell? ⟨bk, 0, none⟩ = some f) :
    Calls Try.prog 88 #[va, .func (.func 101) #[] #[.pointer (some ⟨bk, 0, none⟩)]] w fun e w' => e = .returned (.bool (!(l.all p))) ∧ w' = w := by
  have IA := findexFunc_any p f l va bk w ha hf hk
  obtain ⟨ao, cap, rfl⟩ := ha.slice
  clear hf hk ha
  generalize (!(l.all p)) = q at *
  go_enter Try.func88, Try.ntmps88
  go_wp2_with fail
  refine IA.mono ?_
  rintro e wx ⟨r, rfl, hr, hwx⟩
  obtain rfl := hwx.symm
  have HR := hd hr
  clear hr
  go_wp2_with fail
  go_ret
  exact ⟨ret_bool HR.out, rfl⟩
set_option maxRecDepth 100000 in
set_option maxHeartbeats 4000000 in
theorem fall_any (p : Int → Bool) (l : List Int) (va f : Value) (w : World) (ha : IsV w All va l) (hf : Lk w f p) :
    Calls Try.prog 94 #[va, f] w fun e w' => e = .returned (.bool (l.all p)) ∧ Below w.heap.size w w' := by
  obtain ⟨W, hW⟩ : ∃ W, W = w.alloc (.cells #[f] 68) := ⟨_, rfl⟩
  have hWb : Below w.heap.size w W := by rw [hW]; exact al1 _ _
  have CA := fcontainsFunc_any p f l va w.heap.size W (ha.lw hWb) (hf.lw hWb) (by rw [hW]; simp)
  obtain ⟨ao, cap, rfl⟩ := ha.slice
  obtain ⟨id, rc, cs, rfl, _⟩ := hf
  clear ha
  generalize l.all p = q at *
  go_enter Try.func94, Try.ntmps94
  go_wp2_with fail
  rw [← hW]
  refine CA.mono ?_
  rintro e wx ⟨rfl, hwx⟩
  obtain rfl := hwx.symm
  go_wp2_with fail
  go_ret
  exact ⟨ret_bool (by simp), al1 _ _⟩

/-! A set that grows. -/
set_option maxRecDepth 100000 in
set_option maxHeartbeats 4000000 in
theorem grow_any (F : BitVec 64 → BitVec 64) (I : BitVec 64 → Prop) (s : BitVec 64) (hI0 : I s) (hI : ∀ t, I t → I (t ||| F t)) (id : Nat) (cs : Array Value) (w : World) (hcf : Cal id)
    (hF : ∀ (t : BitVec 64) (w1 : World), I t → Below w.heap.size w w1 → Calls Try.prog id (#[.int .u64 (U t)] ++ cs) w1 fun e w' => e = .returned (.int .u64 (U (F t))) ∧ Below w1.heap.size w1 w') :
    Calls Try.prog 92 #[.int .u64 (U s), .func (.func id) #[] cs] w fun e w' => ∃ r, e = .returned (.int .u64 (U r)) ∧ Grows F s r ∧ r ||| F r = r ∧ Below w.heap.size w w' := by
  unfold Cal at hcf
  go_enter Try.func92, Try.ntmps92
  go_wp2_with fail
  go_loopw [0] (fun i wr => ∃ t : BitVec 64, i = .int .u64 (U t) ∧ Hid (Grows F s t) ∧ Hid (I t) ∧ Below w.heap.size w wr) (fun i _ => 18446744073709551616 - (intOf i).toNat)
  case atStart => exact ⟨s, rfl, hd .refl, hd hI0, Below.refl _ _⟩
  case round =>
    obtain ⟨t, rfl, hg, hit, bel⟩ := hrel
    have FA := hF t wr hit.out bel
    obtain ⟨T, hT⟩ : ∃ T, T = t ||| F t := ⟨_, rfl⟩
    have HO : bits .or .u64 (U t) (U (F t)) = U T := by rw [hT]; exact U_or ..
    have HT := hd hT
    clear hT
    have HF : Hid (T = t → t ||| F t = t) := hd (fun h => by rw [← HT.out, h])
    by_cases hq : T = t
    · have hb : (U T == U t) = true := by rw [hq]; simp
      have HQ := hd hq
      clear hq
      go_wp2_with fail
      refine FA.mono ?_
      rintro e wx ⟨rfl, kx⟩
      go_wp2_with fail
      go_ret
      exact ⟨t, rfl, hg.out, HF.out HQ.out, bthen bel kx⟩
    · have hb : (U T == U t) = false := by rw [U_beq]; simpa using hq
      have HM : Hid (t.toNat < T.toNat) := hd (by rw [HT.out]; exact or_more (by rw [← HT.out]; exact hq))
      clear hq
      go_wp2_with fail
      refine FA.mono ?_
      rintro e wx ⟨rfl, kx⟩
      go_wp2_with fail
      go_roundw
      case rel => exact ⟨T, rfl, hd (by rw [HT.out]; exact hg.out.more), hd (by rw [HT.out]; exact hI t hit.out), bthen bel kx⟩
      case measure =>
        have h1 := HM.out
        have h2 := T.isLt
        simp [intOf, U]; omega
end Go.Proofs.Ytlhdppkllmnmkae.G
