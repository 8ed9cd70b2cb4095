/- The trees of a word by their numbers: step by step. -/
import Derived.Test.YtlhdppkllmnmkaeL09
namespace Go.Proofs.Ytlhdppkllmnmkae.G
open Go.RowKit
theorem cM_lt {n : Nat} (h : n < 4611686018427387904) : cM n = (n : Int) := by rw [cM_eq]; unfold cap; omega
theorem cM_gt {n a : Nat} (hn : n < 4611686018427387904) : (n : Int) < cM a ↔ n < a := by rw [cM_eq]; unfold cap; omega
theorem cM_full {n : Nat} : cM n = 4611686018427387904 ↔ 4611686018427387904 ≤ n := by rw [cM_eq]; unfold cap; omega
section
variable {R : List Ru} {W : List Int} {V : Nat}
theorem idx_lt {α : Type} {l : List α} {n : Nat} {x : α} (h : l[n]? = some x) : n < l.length := (List.getElem?_eq_some_iff.1 h).1
theorem rwT_lt {l : List Int} {i j n : Nat} {f : Tf} (h : (rwT R W V l i j)[n]? = some f) : n < chN (nN R W V) W l i j := by rw [← rwT_len]; exact idx_lt h
theorem Trs_lt {v i j n : Nat} {t : Tr} (h : (Trs R W V (v : Int) i j)[n]? = some t) : n < nN R W V v i j := by rw [nN_len]; exact idx_lt h
/-- Behind the last symbol. -/
theorem row_end {l : List Int} {k i j n : Nat} {f : Tf} (hk : l.length ≤ k) (h : (rwT R W V (l.drop k) i j)[n]? = some f) : i = j ∧ n = 0 ∧ f = .nil := by
  rw [List.drop_of_length_le hk] at h
  obtain ⟨rfl, rfl⟩ := rwT_nil (rwT_lt h)
  rw [rwT_nil_at] at h
  exact ⟨rfl, rfl, by simpa using h.symm⟩
/-- A terminal. -/
theorem row_neg {l : List Int} {k i j n : Nat} {f : Tf} (hk : k < l.length) (hs : l[k] < 0) (hj : j ≤ W.length) (h : (rwT R W V (l.drop k) i j)[n]? = some f) : i + 1 ≤ j ∧ W[i]? = some (-1 - l[k]) ∧ (rwT R W V (l.drop (k + 1)) (i + 1) j)[n]? = some f := by
  rw [List.drop_eq_getElem_cons hk, rwT_neg hs hj] at h
  split at h
  · rename_i hc; exact ⟨hc.1, hc.2, h⟩
  · simp at h
theorem neg_row {l : List Int} {k i j n : Nat} {f : Tf} (hk : k < l.length) (hs : l[k] < 0) (hj : j ≤ W.length) (h1 : i + 1 ≤ j) (h2 : W[i]? = some (-1 - l[k])) (h : (rwT R W V (l.drop (k + 1)) (i + 1) j)[n]? = some f) : (rwT R W V (l.drop k) i j)[n]? = some f := by
  rw [List.drop_eq_getElem_cons hk, rwT_neg hs hj, if_pos ⟨h1, h2⟩]; exact h
theorem spN_pos {l : List Int} {k i m j : Nat} (hk : k < l.length) (hs : 0 ≤ l[k]) : spN R W V l k i m j = nN R W V l[k].toNat i m * chN (nN R W V) W (l.drop (k + 1)) m j := by
  have hg : l.getD k 0 = l[k] := by rw [List.getD_eq_getElem?_getD, List.getElem?_eq_getElem hk]; rfl
  unfold spN vlN
  rw [hg, if_pos hs]
theorem spN_le {l : List Int} {k i m j : Nat} (hk : k < l.length) (him : i ≤ m) (hmj : m ≤ j) (hj : j ≤ W.length) : spS (fun q => spN R W V l k i q j) i (m - i) + spN R W V l k i m j ≤ chN (nN R W V) W (l.drop k) i j := by
  rw [chN_spS hk (by omega) hj]
  have key : ∀ (F : Nat → Nat) (c d : Nat), c < d → spS F i c + F (i + c) ≤ spS F i d := fun F c d h => by
    induction d with
    | zero => omega
    | succ d ih =>
      simp only [spS]
      by_cases e : c = d
      · subst e; exact Nat.le_refl _
      · have := ih (by omega); omega
  have := key (fun q => spN R W V l k i q j) (m - i) (j + 1 - i) (by omega)
  rw [show i + (m - i) = m by omega] at this
  exact this
/-- A nonterminal: how far it goes, its tree, what is behind it. -/
theorem row_pos {l : List Int} {k i j n : Nat} {f : Tf} (hk : k < l.length) (hs : 0 ≤ l[k]) (hij : i ≤ j) (hj : j ≤ W.length) (h : (rwT R W V (l.drop k) i j)[n]? = some f) :
    ∃ m left t f', i ≤ m ∧ m ≤ j ∧ n = spS (fun q => spN R W V l k i q j) i (m - i) + left ∧ left < spN R W V l k i m j ∧
      (Trs R W V l[k] i m)[left / chN (nN R W V) W (l.drop (k + 1)) m j]? = some t ∧ (rwT R W V (l.drop (k + 1)) m j)[left % chN (nN R W V) W (l.drop (k + 1)) m j]? = some f' ∧ f = .cons t.rule t.kids f' ∧
      0 < chN (nN R W V) W (l.drop (k + 1)) m j ∧ 0 < nN R W V l[k].toNat i m := by
  have hn := rwT_lt h
  rw [chN_spS hk hij hj] at hn
  obtain ⟨m, left, h1, h2, h3, h4⟩ := spS_find hn
  have hmj : m ≤ j := by omega
  have hsp := spN_pos (R := R) (W := W) (V := V) (l := l) (k := k) (i := i) (m := m) (j := j) hk hs
  have h4' := h4
  rw [hsp] at h4'
  have hb : 0 < chN (nN R W V) W (l.drop (k + 1)) m j := Nat.pos_of_ne_zero fun e => by rw [e] at h4'; simp at h4'
  have ha : 0 < nN R W V l[k].toNat i m := Nat.pos_of_ne_zero fun e => by rw [e] at h4'; simp at h4'
  have hx : left / chN (nN R W V) W (l.drop (k + 1)) m j < (Trs R W V l[k] i m).length := by
    have := nN_len (R := R) (W := W) (V := V) l[k].toNat i m
    rw [Int.toNat_of_nonneg hs] at this
    rw [← this]
    exact (Nat.div_lt_iff_lt_mul hb).2 h4'
  have hc : left % chN (nN R W V) W (l.drop (k + 1)) m j < (rwT R W V (l.drop (k + 1)) m j).length := by rw [rwT_len]; exact Nat.mod_lt _ hb
  refine ⟨m, left, _, _, h1, hmj, h3, h4, List.getElem?_eq_getElem hx, List.getElem?_eq_getElem hc, ?_, hb, ha⟩
  have hp := rwT_pos (R := R) (W := W) (V := V) (s := l[k]) (ss := l.drop (k + 1)) hs h1 hmj hj (List.getElem?_eq_getElem hx) (List.getElem?_eq_getElem hc)
  have hF : (fun q => vlN (nN R W V) W l[k] i q * chN (nN R W V) W (l.drop (k + 1)) q j) = fun q => spN R W V l k i q j := by
    funext q
    unfold spN
    rw [List.getD_eq_getElem?_getD, List.getElem?_eq_getElem hk]; rfl
  rw [hF, Nat.div_add_mod', ← h3, ← List.drop_eq_getElem_cons hk] at hp
  rw [h] at hp
  exact Option.some.inj hp
/-- The other way round. -/
theorem pos_row {l : List Int} {k i m j x c : Nat} {t : Tr} {f' : Tf} (hk : k < l.length) (hs : 0 ≤ l[k]) (him : i ≤ m) (hmj : m ≤ j) (hj : j ≤ W.length) (ht : (Trs R W V l[k] i m)[x]? = some t) (hf : (rwT R W V (l.drop (k + 1)) m j)[c]? = some f') :
    (rwT R W V (l.drop k) i j)[spS (fun q => spN R W V l k i q j) i (m - i) + (x * chN (nN R W V) W (l.drop (k + 1)) m j + c)]? = some (.cons t.rule t.kids f') := by
  have hp := rwT_pos (R := R) (W := W) (V := V) (s := l[k]) (ss := l.drop (k + 1)) hs him hmj hj ht hf
  have hF : (fun q => vlN (nN R W V) W l[k] i q * chN (nN R W V) W (l.drop (k + 1)) q j) = fun q => spN R W V l k i q j := by
    funext q
    unfold spN
    rw [List.getD_eq_getElem?_getD, List.getElem?_eq_getElem hk]; rfl
  rw [hF, ← List.drop_eq_getElem_cons hk] at hp
  exact hp
/-- A tree by its number: whose rule, which row. -/
theorem tree_step (hA : Acy R V) (hR : ∀ r ∈ R, ∀ s ∈ r.right, s < V) {v i j n : Nat} {t : Tr} (hj : j ≤ W.length) (h : (Trs R W V (v : Int) i j)[n]? = some t) :
    ∃ p left, ∃ hp : p < R.length, n = spS (rlN R W V (v : Int) i j) 0 p + left ∧ left < rlN R W V (v : Int) i j p ∧ t.rule = (p : Int) ∧ R[p].left = (v : Int) ∧ (rwT R W V R[p].right i j)[left]? = some t.kids := by
  have hn := Trs_lt h
  rw [rlN_sum hA hR v i j hj, ← spS_zero] at hn
  obtain ⟨p, left, _, h2, h3, h4⟩ := spS_find hn
  have hp : p < R.length := by omega
  have hg : R.getD p ⟨0, []⟩ = R[p] := by rw [List.getD_eq_getElem?_getD, List.getElem?_eq_getElem hp]; rfl
  have h4' := h4
  unfold rlN at h4'
  rw [hg] at h4'
  split at h4'
  · rename_i hl
    have hx : left < (rwT R W V R[p].right i j).length := by rw [rwT_len]; exact h4'
    have := Trs_at hA hR (v := (v : Int)) (i := i) (j := j) (p := p) hj hp (by rw [hg]; exact hl) (by rw [hg]; exact List.getElem?_eq_getElem hx)
    rw [Nat.sub_zero] at h3
    rw [← spS_zero, ← h3, h] at this
    have e := Option.some.inj this
    subst e
    exact ⟨p, left, hp, h3, h4, rfl, hl, List.getElem?_eq_getElem hx⟩
  · omega
theorem step_tree (hA : Acy R V) (hR : ∀ r ∈ R, ∀ s ∈ r.right, s < V) {v i j p left : Nat} {f : Tf} (hj : j ≤ W.length) (hp : p < R.length) (hl : R[p].left = (v : Int)) (hf : (rwT R W V R[p].right i j)[left]? = some f) :
    (Trs R W V (v : Int) i j)[spS (rlN R W V (v : Int) i j) 0 p + left]? = some ⟨(p : Int), f⟩ := by
  have hg : R.getD p ⟨0, []⟩ = R[p] := by rw [List.getD_eq_getElem?_getD, List.getElem?_eq_getElem hp]; rfl
  have := Trs_at hA hR (v := (v : Int)) (i := i) (j := j) (p := p) hj hp (by rw [hg]; exact hl) (by rw [hg]; exact hf)
  rw [← spS_zero] at this
  exact this
theorem rl_le (hA : Acy R V) (hR : ∀ r ∈ R, ∀ s ∈ r.right, s < V) {v i j p : Nat} (hj : j ≤ W.length) (hp : p < R.length) : spS (rlN R W V (v : Int) i j) 0 p + rlN R W V (v : Int) i j p ≤ nN R W V v i j := by
  rw [rlN_sum hA hR v i j hj, spS_zero]
  exact sm_in hp
theorem rlN_at {v : Int} {i j p : Nat} (hp : p < R.length) : rlN R W V v i j p = if R[p].left = v then chN (nN R W V) W R[p].right i j else 0 := by
  unfold rlN
  rw [List.getD_eq_getElem?_getD, List.getElem?_eq_getElem hp]; rfl
/-- A tree has a number. -/
theorem Trs_has (hA : Acy R V) (hR : ∀ r ∈ R, ∀ s ∈ r.right, s < V) {v : Int} {i j : Nat} {t : Tr} (hj : j ≤ W.length) (hij : i ≤ j) (h1 : fitT R t v = true) (h2 : wdT R t = seg W i j) : ∃ n : Nat, (Trs R W V v i j)[n]? = some t := by
  have hm := (Trs_mem hA hR (v := v) (i := i) (j := j) hj).2 ⟨h1, h2, hij⟩
  obtain ⟨n, hn, e⟩ := List.mem_iff_getElem.1 hm
  exact ⟨n, by rw [List.getElem?_eq_getElem hn, e]⟩
theorem Trs_is {v : Int} {i j n : Nat} {t : Tr} (hj : j ≤ W.length) (h : (Trs R W V v i j)[n]? = some t) : fitT R t v = true ∧ wdT R t = seg W i j ∧ i ≤ j ∧ t.hg ≤ lvls W V :=
  (LT_mem R W (lvls W V) v i j t hj).1 (List.mem_of_getElem? h)
end
end Go.Proofs.Ytlhdppkllmnmkae.G
