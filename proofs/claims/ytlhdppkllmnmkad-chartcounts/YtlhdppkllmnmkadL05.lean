/- The trees of a word, one behind the other: as many as are counted, each once. -/
import Derived.Test.YtlhdppkllmnmkadL04
namespace Go.Proofs.Ytlhdppkllmnmkad.G
open Go.RowKit
/-- The rows of trees of symbols. -/
def rowsT (F : Int → Nat → Nat → List Tr) (W : List Int) : List Int → Nat → Nat → List Tf
  | [], i, j => if i = j then [.nil] else []
  | s :: ss, i, j => (List.range (W.length + 1)).flatMap fun m => if i ≤ m ∧ m ≤ j then
      (if 0 ≤ s then (F s i m).flatMap fun t => (rowsT F W ss m j).map fun f => .cons t.rule t.kids f else if m = i + 1 ∧ W[i]? = some (-1 - s) then rowsT F W ss m j else []) else []
/-- By these rules, whose numbers rise from k on. -/
def lvT (F : Int → Nat → Nat → List Tr) (W : List Int) (v : Int) (i j : Nat) : List Ru → Nat → List Tr
  | [], _ => []
  | r :: rs, k => (if r.left = v then (rowsT F W r.right i j).map fun f => ⟨(k : Int), f⟩ else []) ++ lvT F W v i j rs (k + 1)
/-- Trees of so many levels. -/
def LT (R : List Ru) (W : List Int) : Nat → Int → Nat → Nat → List Tr
  | 0 => fun _ _ _ => []
  | h + 1 => fun v i j => lvT (LT R W h) W v i j R 0
theorem flat_len {α : Type} (G : Nat → List α) : ∀ n : Nat, ((List.range n).flatMap G).length = sm n fun k => (G k).length
  | 0 => rfl
  | n + 1 => by rw [List.range_succ, List.flatMap_append, List.length_append, flat_len G n]; simp [sm]
theorem flat_mul {α β γ : Type} (l : List α) (m : List β) (g : α → β → γ) : (l.flatMap fun t => m.map (g t)).length = l.length * m.length := by
  induction l with
  | nil => simp
  | cons a l ih => rw [List.flatMap_cons, List.length_append, ih, List.length_map, List.length_cons, Nat.add_mul]; omega
theorem rowsT_len {F : Int → Nat → Nat → List Tr} {f : Nat → Nat → Nat → Nat} {W : List Int} (hf : ∀ v a b, f v a b = (F (v : Int) a b).length) : ∀ (l : List Int) (i j : Nat), (rowsT F W l i j).length = chN f W l i j
  | [], i, j => by simp only [rowsT, chN]; split <;> rfl
  | s :: ss, i, j => by
    simp only [rowsT, chN]
    rw [flat_len]
    refine sm_congr fun m _ => ?_
    by_cases hm : i ≤ m ∧ m ≤ j
    · rw [if_pos hm, if_pos hm]
      unfold vlN
      by_cases hs : 0 ≤ s
      · rw [if_pos hs, if_pos hs, flat_mul, rowsT_len hf ss m j, hf, Int.toNat_of_nonneg hs]
      · rw [if_neg hs, if_neg hs]
        by_cases hc : m = i + 1 ∧ W[i]? = some (-1 - s)
        · rw [if_pos hc, if_pos hc, rowsT_len hf ss m j, Nat.one_mul]
        · rw [if_neg hc, if_neg hc, Nat.zero_mul]; rfl
    · rw [if_neg hm, if_neg hm]; rfl
theorem lvT_len {F : Int → Nat → Nat → List Tr} {f : Nat → Nat → Nat → Nat} {W : List Int} {v : Int} {i j : Nat} (hf : ∀ v a b, f v a b = (F (v : Int) a b).length) : ∀ (rs : List Ru) (k : Nat), (lvT F W v i j rs k).length = stN f W v i j rs
  | [], _ => rfl
  | r :: rs, k => by
    simp only [lvT, stN]
    rw [List.length_append, lvT_len hf rs]
    congr 1
    split
    · rw [List.length_map, rowsT_len hf]
    · rfl
/-- As many as are counted. -/
theorem LT_len (R : List Ru) (W : List Int) : ∀ (h : Nat) (v i j : Nat), (LT R W h (v : Int) i j).length = nT R W h v i j
  | 0, _, _, _ => rfl
  | h + 1, _v, _i, _j => lvT_len (fun v a b => (LT_len R W h v a b).symm) R 0

/-! Which trees they are. -/
def Tf.hg : Tf → Nat
  | .nil => 0
  | .cons _ k rest => max (1 + k.hg) rest.hg
def Tr.hg (t : Tr) : Nat := 1 + t.kids.hg
/-- The word from a place to ahead of another. -/
def seg (W : List Int) (i j : Nat) : List Int := (W.drop i).take (j - i)
theorem seg_len {W : List Int} {i j : Nat} (h : i ≤ j) (hj : j ≤ W.length) : (seg W i j).length = j - i := by unfold seg; rw [List.length_take, List.length_drop]; omega
theorem seg_app {W : List Int} {i m j : Nat} (h1 : i ≤ m) (h2 : m ≤ j) : seg W i m ++ seg W m j = seg W i j := by
  unfold seg
  rw [show W.drop m = (W.drop i).drop (m - i) by rw [List.drop_drop]; congr 1; omega]
  rw [show j - i = (m - i) + (j - m) by omega, ← List.take_add]
theorem seg_self (W : List Int) (i : Nat) : seg W i i = [] := by unfold seg; simp
theorem seg_one {W : List Int} {i : Nat} {x : Int} (h : W[i]? = some x) : seg W i (i + 1) = [x] := by
  obtain ⟨hi, rfl⟩ := List.getElem?_eq_some_iff.1 h
  unfold seg
  rw [List.drop_eq_getElem_cons hi, show i + 1 - i = 1 by omega]; rfl
theorem app_cut {a b a' b' : List Int} (h : a ++ b = a' ++ b') (hl : a.length = a'.length) : a = a' ∧ b = b' := List.append_inj h hl
/-- What is a tree of v with the word from i to j, of so many levels. -/
def IsT (R : List Ru) (W : List Int) (h : Nat) (v : Int) (i j : Nat) (t : Tr) : Prop := fitT R t v = true ∧ wdT R t = seg W i j ∧ i ≤ j ∧ t.hg ≤ h
def IsR (R : List Ru) (W : List Int) (h : Nat) (l : List Int) (i j : Nat) (f : Tf) : Prop := fitF R f (kidsL l) = true ∧ wdR l (wdF R f) = seg W i j ∧ i ≤ j ∧ f.hg ≤ h
theorem kidsL_pos {s : Int} {l : List Int} (h : 0 ≤ s) : kidsL (s :: l) = s :: kidsL l := by unfold kidsL; rw [List.filter_cons, if_pos (by simpa using h)]
theorem kidsL_ng {s : Int} {l : List Int} (h : ¬ 0 ≤ s) : kidsL (s :: l) = kidsL l := by unfold kidsL; rw [List.filter_cons, if_neg (by simpa using h)]
theorem rowsT_mem {R : List Ru} {W : List Int} {h : Nat} {F : Int → Nat → Nat → List Tr} (hF : ∀ (v : Int) (a b : Nat) (t : Tr), 0 ≤ v → b ≤ W.length → (t ∈ F v a b ↔ IsT R W h v a b t)) : ∀ (l : List Int) (i j : Nat) (f : Tf), j ≤ W.length → (f ∈ rowsT F W l i j ↔ IsR R W h l i j f)
  | [], i, j, f, hj => by
    have hk : kidsL [] = [] := rfl
    simp only [rowsT]
    unfold IsR
    rw [hk]
    constructor
    · intro hm
      split at hm
      · rename_i e
        rw [List.mem_singleton] at hm
        subst e hm
        exact ⟨rfl, (seg_self W i).symm, Nat.le_refl _, Nat.zero_le _⟩
      · cases hm
    · rintro ⟨h1, h2, h3, _⟩
      have hl := seg_len (W := W) h3 hj
      rw [← h2] at hl
      have e : i = j := by have : ([] : List Int).length = j - i := hl; simp at this; omega
      rw [if_pos e]
      cases f with
      | nil => exact List.mem_singleton.2 rfl
      | cons r k rest => simp [fitF] at h1
  | s :: ss, i, j, f, hj => by
    simp only [rowsT, List.mem_flatMap, List.mem_range]
    unfold IsR
    by_cases hs : 0 ≤ s
    · rw [kidsL_pos hs]
      constructor
      · rintro ⟨m, hm, hmem⟩
        split at hmem
        · rename_i hc
          rw [List.mem_flatMap] at hmem
          obtain ⟨t, ht, hmem⟩ := hmem
          obtain ⟨f', hf', rfl⟩ := List.mem_map.1 hmem
          obtain ⟨g1, g2, g3, g4⟩ := (hF s i m t hs (by omega)).1 ht
          obtain ⟨k1, k2, k3, k4⟩ := (rowsT_mem hF ss m j f' hj).1 hf'
          refine ⟨by rw [fitF_cons, Bool.and_eq_true]; exact ⟨g1, k1⟩, ?_, by omega, ?_⟩
          · show wdR (s :: ss) (wdT R t :: wdF R f') = _
            unfold wdR
            rw [if_neg (by omega)]
            show wdT R t ++ wdR ss (wdF R f') = _
            rw [g2, k2, seg_app hc.1 hc.2]
          · show max (1 + t.kids.hg) f'.hg ≤ h
            have : 1 + t.kids.hg ≤ h := g4
            omega
        · cases hmem
      · rintro ⟨h1, h2, h3, h4⟩
        cases f with
        | nil => simp [fitF] at h1
        | cons r k rest =>
          rw [fitF_cons, Bool.and_eq_true] at h1
          have h2' : wdT R ⟨r, k⟩ ++ wdR ss (wdF R rest) = seg W i j := by
            have : wdR (s :: ss) (wdT R ⟨r, k⟩ :: wdF R rest) = seg W i j := h2
            unfold wdR at this
            rw [if_neg (by omega)] at this
            exact this
          have hl := congrArg List.length h2'
          rw [List.length_append, seg_len h3 hj] at hl
          have hcut := app_cut (h2'.trans (seg_app (m := i + (wdT R ⟨r, k⟩).length) (by omega) (by omega)).symm) (by rw [seg_len (by omega) (by omega)]; omega)
          have hh : max (1 + k.hg) rest.hg ≤ h := h4
          refine ⟨i + (wdT R ⟨r, k⟩).length, by omega, ?_⟩
          rw [if_pos (by omega), if_pos hs, List.mem_flatMap]
          refine ⟨⟨r, k⟩, (hF s _ _ _ hs (by omega)).2 ⟨h1.1, hcut.1, by omega, by show 1 + k.hg ≤ h; omega⟩, List.mem_map.2 ⟨rest, (rowsT_mem hF ss _ j rest hj).2 ⟨h1.2, hcut.2, by omega, by omega⟩, rfl⟩⟩
    · rw [kidsL_ng hs]
      constructor
      · rintro ⟨m, hm, hmem⟩
        split at hmem
        · rename_i hc
          split at hmem
          · rename_i hw
            obtain ⟨k1, k2, k3, k4⟩ := (rowsT_mem hF ss m j f hj).1 hmem
            refine ⟨k1, ?_, by omega, k4⟩
            unfold wdR
            rw [if_pos (by omega), k2, hw.1, ← seg_app (W := W) (i := i) (m := i + 1) (j := j) (by omega) (by omega), seg_one hw.2]; rfl
          · cases hmem
        · cases hmem
      · rintro ⟨h1, h2, h3, h4⟩
        unfold wdR at h2
        rw [if_pos (by omega)] at h2
        have hl := congrArg List.length h2
        rw [List.length_cons, seg_len h3 hj] at hl
        have hij : i + 1 ≤ j := by omega
        rw [← seg_app (W := W) (i := i) (m := i + 1) (j := j) (by omega) hij] at h2
        have hi : i < W.length := by omega
        have ho : seg W i (i + 1) = [W[i]] := seg_one (List.getElem?_eq_getElem hi)
        rw [ho] at h2
        simp only [List.singleton_append, List.cons.injEq] at h2
        refine ⟨i + 1, by omega, ?_⟩
        rw [if_pos (by omega), if_neg hs, if_pos ⟨rfl, by rw [List.getElem?_eq_getElem hi, h2.1]⟩]
        exact (rowsT_mem hF ss _ j f hj).2 ⟨h1, h2.2, hij, h4⟩
theorem lvT_mem {F : Int → Nat → Nat → List Tr} {W : List Int} {v : Int} {i j : Nat} {t : Tr} : ∀ (rs : List Ru) (k : Nat), (t ∈ lvT F W v i j rs k ↔ ∃ p, ∃ hp : p < rs.length, t.rule = ((k + p : Nat) : Int) ∧ rs[p].left = v ∧ t.kids ∈ rowsT F W rs[p].right i j)
  | [], k => by simp [lvT]
  | r :: rs, k => by
    simp only [lvT, List.mem_append]
    rw [lvT_mem rs (k + 1)]
    constructor
    · rintro (h | ⟨p, hp, h1, h2, h3⟩)
      · split at h
        · rename_i hl
          obtain ⟨f, hf, rfl⟩ := List.mem_map.1 h
          exact ⟨0, by simp, rfl, hl, hf⟩
        · cases h
      · exact ⟨p + 1, by simpa using hp, by rw [h1]; congr 1; omega, by simpa using h2, by simpa using h3⟩
    · rintro ⟨p, hp, h1, h2, h3⟩
      cases p with
      | zero =>
        left
        simp only [List.getElem_cons_zero] at h2 h3
        rw [if_pos h2]
        refine List.mem_map.2 ⟨t.kids, h3, ?_⟩
        cases t
        simp only [Tr.mk.injEq, and_true]
        exact h1.symm
      | succ p => exact .inr ⟨p, by simpa using hp, by rw [h1]; congr 1; omega, by simpa using h2, by simpa using h3⟩
/-- They are all trees of so many levels. -/
theorem LT_mem (R : List Ru) (W : List Int) : ∀ (h : Nat) (v : Int) (i j : Nat) (t : Tr), j ≤ W.length → (t ∈ LT R W h v i j ↔ IsT R W h v i j t)
  | 0, v, i, j, t, _ => by
    constructor
    · intro h; cases h
    · rintro ⟨_, _, _, h⟩; simp [Tr.hg] at h
  | h + 1, v, i, j, t, hj => by
    show t ∈ lvT (LT R W h) W v i j R 0 ↔ _
    rw [lvT_mem]
    constructor
    · rintro ⟨p, hp, h1, h2, h3⟩
      obtain ⟨k1, k2, k3, k4⟩ := (rowsT_mem (fun v a b t _ hb => LT_mem R W h v a b t hb) _ i j _ hj).1 h3
      have hro : rOf R t.rule = some R[p] := by rw [h1, Nat.zero_add]; exact rOf_nat hp
      refine ⟨?_, ?_, k3, by show 1 + t.kids.hg ≤ h + 1; omega⟩
      · unfold fitT; rw [hro]; simp [h2, k1]
      · unfold wdT rgOf; rw [hro]; exact k2
    · rintro ⟨h1, h2, h3, h4⟩
      obtain ⟨p, hp, g1, g2, g3, g4⟩ := fit_rule h1
      exact ⟨p, hp, by rw [g1, Nat.zero_add], g2, (rowsT_mem (fun v a b t _ hb => LT_mem R W h v a b t hb) _ i j _ hj).2 ⟨g3, g4 ▸ h2, h3, by have : 1 + t.kids.hg ≤ h + 1 := h4; omega⟩⟩

/-! None twice. -/
theorem nodup_flat {α β : Type} {G : α → List β} {key : β → α} : ∀ {l : List α}, l.Nodup → (∀ a ∈ l, (G a).Nodup) → (∀ a ∈ l, ∀ b ∈ G a, key b = a) → (l.flatMap G).Nodup
  | [], _, _, _ => List.nodup_nil
  | a :: l, hl, hG, hk => by
    rw [List.flatMap_cons]
    rw [List.nodup_cons] at hl
    refine List.nodup_append.2 ⟨hG a (by simp), nodup_flat hl.2 (fun b hb => hG b (by simp [hb])) (fun b hb => hk b (by simp [hb])), ?_⟩
    intro x hx y hy e
    subst e
    obtain ⟨b, hb, hy⟩ := List.mem_flatMap.1 hy
    have h1 := hk a (by simp) x hx
    have h2 := hk b (by simp [hb]) x hy
    exact hl.1 (by rw [← h1, h2]; exact hb)
theorem nodup_map {α β : Type} {g : α → β} (hg : ∀ a b, g a = g b → a = b) : ∀ {l : List α}, l.Nodup → (l.map g).Nodup
  | [], _ => List.nodup_nil
  | a :: l, h => by
    rw [List.nodup_cons] at h
    rw [List.map_cons, List.nodup_cons]
    refine ⟨fun hm => ?_, nodup_map hg h.2⟩
    obtain ⟨b, hb, e⟩ := List.mem_map.1 hm
    exact h.1 (hg _ _ e ▸ hb)
theorem range_nodup : ∀ n : Nat, (List.range n).Nodup
  | 0 => List.nodup_nil
  | n + 1 => by
    rw [List.range_succ]
    refine List.nodup_append.2 ⟨range_nodup n, by simp, ?_⟩
    intro x hx y hy e
    rw [List.mem_range] at hx
    rw [List.mem_singleton] at hy
    omega
/-- The place behind the first tree of a row. -/
def endF (R : List Ru) (i : Nat) : Tf → Nat
  | .nil => i
  | .cons r k _ => i + (wdT R ⟨r, k⟩).length
theorem rowsT_nodup {R : List Ru} {W : List Int} {h : Nat} {F : Int → Nat → Nat → List Tr} (hF : ∀ (v : Int) (a b : Nat) (t : Tr), 0 ≤ v → b ≤ W.length → (t ∈ F v a b ↔ IsT R W h v a b t)) (hN : ∀ (v : Int) (a b : Nat), b ≤ W.length → (F v a b).Nodup) : ∀ (l : List Int) (i j : Nat), j ≤ W.length → (rowsT F W l i j).Nodup
  | [], i, j, _ => by simp only [rowsT]; split <;> simp
  | s :: ss, i, j, hj => by
    simp only [rowsT]
    by_cases hs : 0 ≤ s
    · refine nodup_flat (key := endF R i) (range_nodup _) (fun m hm => ?_) (fun m hm b hb => ?_)
      · rw [List.mem_range] at hm
        split
        · rename_i hc
          refine nodup_flat (key := fun f => f.at_ 0) (hN s i m (by omega)) (fun t _ => nodup_map (fun a b e => by simpa using e) (rowsT_nodup hF hN ss m j hj)) (fun t _ b hb => ?_)
          obtain ⟨f, _, rfl⟩ := List.mem_map.1 hb
          rfl
        · exact List.nodup_nil
      · rw [List.mem_range] at hm
        split at hb
        · rename_i hc
          obtain ⟨t, ht, hb⟩ := List.mem_flatMap.1 hb
          obtain ⟨f, _, rfl⟩ := List.mem_map.1 hb
          obtain ⟨_, g2, g3, _⟩ := (hF s i m t hs (by omega)).1 ht
          show i + (wdT R t).length = m
          rw [g2, seg_len g3 (by omega)]; omega
        · cases hb
    · refine nodup_flat (key := fun _ => i + 1) (range_nodup _) (fun m hm => ?_) (fun m hm b hb => ?_)
      · split
        · split
          · exact rowsT_nodup hF hN ss m j hj
          · exact List.nodup_nil
        · exact List.nodup_nil
      · split at hb
        · split at hb
          · rename_i hw; exact hw.1.symm
          · cases hb
        · cases hb
theorem lvT_nodup {F : Int → Nat → Nat → List Tr} {W : List Int} {v : Int} {i j : Nat} (hN : ∀ l : List Int, (rowsT F W l i j).Nodup) : ∀ (rs : List Ru) (k : Nat), (lvT F W v i j rs k).Nodup
  | [], _ => List.nodup_nil
  | r :: rs, k => by
    simp only [lvT]
    refine List.nodup_append.2 ⟨?_, lvT_nodup hN rs (k + 1), ?_⟩
    · split
      · exact nodup_map (fun a b e => by simpa using e) (hN _)
      · exact List.nodup_nil
    · intro x hx y hy e
      subst e
      obtain ⟨p, _, h1, _⟩ := (lvT_mem rs (k + 1)).1 hy
      split at hx
      · obtain ⟨f, _, rfl⟩ := List.mem_map.1 hx
        have h2 : (k : Int) = ((k + 1 + p : Nat) : Int) := h1
        omega
      · cases hx
theorem LT_nodup (R : List Ru) (W : List Int) : ∀ (h : Nat) (v : Int) (i j : Nat), j ≤ W.length → (LT R W h v i j).Nodup
  | 0, _, _, _, _ => List.nodup_nil
  | h + 1, _v, i, j, hj => lvT_nodup (fun l => rowsT_nodup (fun v a b t _ hb => LT_mem R W h v a b t hb) (fun v a b hb => LT_nodup R W h v a b hb) l i j hj) R 0

/-! More levels take nothing away. -/
theorem sub_flat {α β : Type} {G H : α → List β} : ∀ {l : List α}, (∀ a ∈ l, (G a).Sublist (H a)) → (l.flatMap G).Sublist (l.flatMap H)
  | [], _ => List.Sublist.slnil
  | a :: l, h => by rw [List.flatMap_cons, List.flatMap_cons]; exact (h a (by simp)).append (sub_flat fun b hb => h b (by simp [hb]))
theorem sub_flat2 {α β : Type} {G H : α → List β} {l m : List α} (hl : l.Sublist m) (h : ∀ a, (G a).Sublist (H a)) : (l.flatMap G).Sublist (m.flatMap H) := by
  induction hl with
  | slnil => exact List.Sublist.slnil
  | cons a _ ih => rw [List.flatMap_cons]; exact ih.trans (List.sublist_append_right _ _)
  | cons_cons a _ ih => rw [List.flatMap_cons, List.flatMap_cons]; exact (h a).append ih
theorem rowsT_sub {F H : Int → Nat → Nat → List Tr} {W : List Int} (hF : ∀ v a b, (F v a b).Sublist (H v a b)) : ∀ (l : List Int) (i j : Nat), (rowsT F W l i j).Sublist (rowsT H W l i j)
  | [], i, j => List.Sublist.refl _
  | s :: ss, i, j => by
    simp only [rowsT]
    refine sub_flat fun m _ => ?_
    split
    · split
      · exact sub_flat2 (hF _ _ _) fun t => (rowsT_sub hF ss m j).map _
      · split
        · exact rowsT_sub hF ss m j
        · exact List.Sublist.refl _
    · exact List.Sublist.refl _
theorem lvT_sub {F H : Int → Nat → Nat → List Tr} {W : List Int} {v : Int} {i j : Nat} (hF : ∀ v a b, (F v a b).Sublist (H v a b)) : ∀ (rs : List Ru) (k : Nat), (lvT F W v i j rs k).Sublist (lvT H W v i j rs k)
  | [], _ => List.Sublist.refl _
  | r :: rs, k => by
    simp only [lvT]
    refine List.Sublist.append ?_ (lvT_sub hF rs (k + 1))
    split
    · exact (rowsT_sub hF _ _ _).map _
    · exact List.Sublist.refl _
theorem LT_succ (R : List Ru) (W : List Int) : ∀ (h : Nat) (v : Int) (i j : Nat), (LT R W h v i j).Sublist (LT R W (h + 1) v i j)
  | 0, _, _, _ => List.nil_sublist _
  | h + 1, _, _, _ => lvT_sub (LT_succ R W h) R 0
theorem LT_sub {R : List Ru} {W : List Int} {h k : Nat} (hk : h ≤ k) (v : Int) (i j : Nat) : (LT R W h v i j).Sublist (LT R W k v i j) := by
  induction hk with
  | refl => exact List.Sublist.refl _
  | step _ ih => exact ih.trans (LT_succ R W _ v i j)
theorem nT_le {R : List Ru} {W : List Int} {h k : Nat} (hk : h ≤ k) (v i j : Nat) : nT R W h v i j ≤ nT R W k v i j := by
  rw [← LT_len, ← LT_len]; exact (LT_sub hk (v : Int) i j).length_le
theorem nodup_sub {α : Type} [DecidableEq α] : ∀ {l m : List α}, l.Nodup → l ⊆ m → l.length ≤ m.length
  | [], _, _, _ => Nat.zero_le _
  | a :: l, m, hn, hs => by
    rw [List.nodup_cons] at hn
    have ha : a ∈ m := hs (by simp)
    have h1 := nodup_sub (m := m.erase a) hn.2 fun x hx => (List.mem_erase_of_ne (fun e => hn.1 (by rw [← e]; exact hx))).2 (hs (by simp [hx]))
    rw [List.length_erase_of_mem ha] at h1
    have := List.length_pos_of_mem ha
    simp only [List.length_cons]; omega
/-- Where no tree is higher, more levels give no more. -/
theorem LT_stop {R : List Ru} {W : List Int} {H : Nat} {v : Int} {i j : Nat} (hj : j ≤ W.length) (hH : ∀ h t, IsT R W h v i j t → t.hg ≤ H) {h : Nat} (hh : H ≤ h) : LT R W h v i j = LT R W H v i j := by
  have hs := LT_sub (R := R) (W := W) hh v i j
  refine (hs.eq_of_length_le ?_).symm
  have hsub : (LT R W h v i j) ⊆ (LT R W H v i j) := fun t ht => by
    have h1 := (LT_mem R W h v i j t hj).1 ht
    exact (LT_mem R W H v i j t hj).2 ⟨h1.1, h1.2.1, h1.2.2.1, hH _ _ h1⟩
  exact nodup_sub (LT_nodup R W h v i j hj) hsub
end Go.Proofs.Ytlhdppkllmnmkad.G
