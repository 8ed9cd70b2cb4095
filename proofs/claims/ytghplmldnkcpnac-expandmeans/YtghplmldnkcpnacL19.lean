/- Texts laid together: Yb Yg Yx. -/
import Derived.Test.YtghplmldnkcpnacL14
import Derived.Test.YtghplmldnkcpnacL18
import Derived.Test.YtghplmldnkcpnacL16
import Derived.Test.YtghplmldnkcpnacL13
import Derived.Test.YtghplmldnkcpnacL01
/- Counts that never go above one: is there a way, or none. -/
namespace Go.Proofs.Ytghplmldnkcpnac
open Go.RowKit G
open Classical in
noncomputable def bit (p : Prop) : Int := if p then 1 else 0
theorem bit_yes {p : Prop} (h : p) : bit p = 1 := by unfold bit; exact if_pos h
theorem bit_no {p : Prop} (h : ¬ p) : bit p = 0 := by unfold bit; exact if_neg h
theorem bit_pos {p : Prop} : 0 < bit p ↔ p := by
  by_cases h : p
  · rw [bit_yes h]; exact ⟨fun _ => h, fun _ => by decide⟩
  · rw [bit_no h]; exact ⟨fun h' => absurd h' (by decide), fun h' => absurd h' h⟩
theorem bit_congr {p q : Prop} (h : p ↔ q) : bit p = bit q := by rw [propext h]
theorem bit_inj {p q : Prop} (h : bit p = bit q) : p ↔ q := by
  rw [← bit_pos (p := p), h]; exact bit_pos
theorem smI_bit (p q : Prop) : smI (bit p) (bit q) 1 = bit (p ∨ q) := by
  by_cases hp : p
  · rw [bit_yes hp, bit_yes (show p ∨ q from .inl hp)]; unfold smI; rw [if_pos (.inl (by decide))]
  · by_cases hq : q
    · rw [bit_no hp, bit_yes hq, bit_yes (show p ∨ q from .inr hq)]; unfold smI; rw [if_pos (.inr (by decide))]
    · rw [bit_no hp, bit_no hq, bit_no (show ¬ (p ∨ q) from fun h => h.elim hp hq)]; unfold smI; rw [if_neg (by decide)]; rfl
theorem prI_bit (q : Prop) : prI 1 (bit q) 1 = bit q := by
  by_cases hq : q
  · rw [bit_yes hq]; unfold prI; rw [if_neg (by decide), if_pos (.inl (by decide))]
  · rw [bit_no hq]; unfold prI; rw [if_pos (.inr rfl)]
/-- A list of such counts. -/
def Bits (l : List Int) (S : Nat → Prop) : Prop := ∀ k, k < l.length → l.getD k 0 = bit (S k)
theorem getD_set {l : List Int} {k e : Nat} {x : Int} (hk : k < l.length) : (l.set e x).getD k 0 = if e = k then x else l.getD k 0 := by
  rw [List.getD_eq_getElem?_getD, List.getElem?_set, List.getD_eq_getElem?_getD]
  split
  · rename_i h; subst h; simp [hk]
  · rfl
theorem lpE_len (val : Nat → Int) (x m : Int) : ∀ (n e : Nat) (nx : List Int), (lpE val x m n e nx).length = nx.length
  | 0, _, _ => rfl
  | n + 1, e, nx => by rw [lpE, lpE_len]; simp
theorem lpE_bit {val : Nat → Int} {V : Nat → Prop} : ∀ (n e : Nat) (nx : List Int) (S : Nat → Prop), e + n ≤ nx.length → (∀ k, e ≤ k → k < e + n → val k = bit (V k)) → Bits nx S → Bits (lpE val 1 1 n e nx) fun k => S k ∨ (e ≤ k ∧ k < e + n ∧ V k)
  | 0, e, nx, S, _, _, hb => fun k hk => (hb k hk).trans (bit_congr ⟨.inl, fun h => h.elim id fun h => by omega⟩)
  | n + 1, e, nx, S, hl, hv, hb => by
    rw [lpE]
    have h1 : Bits (nx.set e (smI (nx.getD e 0) (prI 1 (val e) 1) 1)) fun k => S k ∨ (k = e ∧ V k) := fun k hk => by
      simp only [List.length_set] at hk
      rw [getD_set hk]
      split
      · rename_i h; subst h
        rw [hb e (by omega), hv e (by omega) (by omega), prI_bit, smI_bit]
        exact bit_congr ⟨fun h => h.imp id fun h => ⟨rfl, h⟩, fun h => h.imp id fun h => h.2⟩
      · rename_i h
        rw [hb k hk]
        exact bit_congr ⟨.inl, fun h' => h'.elim id fun h' => absurd h'.1.symm h⟩
    have h2 := lpE_bit n (e + 1) _ _ (by simp; omega) (fun k h1 h2 => hv k (by omega) (by omega)) h1
    intro k hk
    refine (h2 k hk).trans (bit_congr ⟨?_, ?_⟩)
    · rintro ((h | ⟨rfl, h⟩) | ⟨h3, h4, h5⟩)
      · exact .inl h
      · exact .inr ⟨by omega, by omega, h⟩
      · exact .inr ⟨by omega, by omega, h5⟩
    · rintro (h | ⟨h3, h4, h5⟩)
      · exact .inl (.inl h)
      · by_cases e' : k = e
        · exact .inl (.inr ⟨e', h5⟩)
        · exact .inr ⟨by omega, by omega, h5⟩
theorem lpM_len (val : Nat → Nat → Int) (a : List Int) (j : Nat) (m : Int) : ∀ (n k : Nat) (nx : List Int), (lpM val a j m n k nx).length = nx.length
  | 0, _, _ => rfl
  | n + 1, k, nx => by rw [lpM, lpM_len]; split <;> simp [lpE_len]
theorem lpM_bit {val : Nat → Nat → Int} {V : Nat → Nat → Prop} {a : List Int} {A : Nat → Prop} {j : Nat} (ha : Bits a A) (hv : ∀ m e, m ≤ j → e ≤ j → val m e = bit (V m e)) (hja : j < a.length) : ∀ (n k : Nat) (nx : List Int) (S : Nat → Prop), k + n = j + 1 → j < nx.length → Bits nx S →
    Bits (lpM val a j 1 n k nx) fun e => S e ∨ ∃ m, k ≤ m ∧ m ≤ j ∧ A m ∧ m ≤ e ∧ e ≤ j ∧ V m e
  | 0, k, nx, S, hk, _, hb => fun e he => (hb e he).trans (bit_congr ⟨.inl, fun h => h.elim id fun ⟨m, h1, h2, _⟩ => by omega⟩)
  | n + 1, k, nx, S, hk, hj, hb => by
    rw [lpM]
    have hak := ha k (by omega)
    have h1 : Bits (if 0 < a.getD k 0 then lpE (val k) (a.getD k 0) 1 (j + 1 - k) k nx else nx) fun e => S e ∨ (A k ∧ k ≤ e ∧ e ≤ j ∧ V k e) := by
      by_cases hA : A k
      · rw [hak, bit_yes hA, if_pos (by decide)]
        have := lpE_bit (j + 1 - k) k nx S (by omega) (fun e h1 h2 => hv k e (by omega) (by omega)) hb
        intro e he
        refine (this e he).trans (bit_congr ⟨?_, ?_⟩)
        · rintro (h | ⟨h1, h2, h3⟩)
          · exact .inl h
          · exact .inr ⟨hA, h1, by omega, h3⟩
        · rintro (h | ⟨_, h1, h2, h3⟩)
          · exact .inl h
          · exact .inr ⟨h1, by omega, h3⟩
      · rw [hak, bit_no hA, if_neg (by decide)]
        exact fun e he => (hb e he).trans (bit_congr ⟨.inl, fun h => h.elim id fun h => absurd h.1 hA⟩)
    have hl : j < (if 0 < a.getD k 0 then lpE (val k) (a.getD k 0) 1 (j + 1 - k) k nx else nx).length := by
      split
      · rw [lpE_len]; exact hj
      · exact hj
    have h2 := lpM_bit ha hv hja n (k + 1) _ _ (by omega) hl h1
    intro e he
    refine (h2 e he).trans (bit_congr ⟨?_, ?_⟩)
    · rintro ((h | ⟨h1, h2, h3, h4⟩) | ⟨m, h1, h2, h3⟩)
      · exact .inl h
      · exact .inr ⟨k, Nat.le_refl _, by omega, h1, h2, h3, h4⟩
      · exact .inr ⟨m, by omega, h2, h3⟩
    · rintro (h | ⟨m, h1, h2, h3, h4⟩)
      · exact .inl (.inl h)
      · by_cases em : m = k
        · subst em; exact .inl (.inr ⟨h3, h4.1, h4.2.1, h4.2.2⟩)
        · exact .inr ⟨m, by omega, h2, h3, h4⟩
section
variable {f : Nat → Nat → Nat → Int} {W : List Int} {P : Int → Nat → Nat → Prop} {V : Nat}
theorem vlF_bit (hf : ∀ v a b, v < V → a ≤ W.length → b ≤ W.length → f v a b = bit (P (v : Int) a b)) {s : Int} (hs : s < V) {a b : Nat} (ha : a ≤ W.length) (hb : b ≤ W.length) : vlF f W s a b = bit (syP W P s a b) := by
  unfold vlF syP
  by_cases h : 0 ≤ s
  · rw [if_pos h, if_pos h, hf s.toNat a b (by omega) ha hb, Int.toNat_of_nonneg h]
  · rw [if_neg h, if_neg h]
    by_cases hq : b = a + 1 ∧ W[a]? = some (-1 - s)
    · rw [if_pos hq, bit_yes hq]
    · rw [if_neg hq, bit_no hq]
theorem lpK_bit (hf : ∀ v a b, v < V → a ≤ W.length → b ≤ W.length → f v a b = bit (P (v : Int) a b)) {i j : Nat} (hij : i ≤ j) (hj : j ≤ W.length) : ∀ (l : List Int) (a : List Int) (A : Nat → Prop), (∀ s ∈ l, s < V) → a.length = W.length + 1 → Bits a A → (∀ e, A e → i ≤ e) → ∀ e, e ≤ j →
    (lpK f W 1 i j l a).getD e 0 = bit (∃ m, m ≤ e ∧ A m ∧ chP W P l m e)
  | [], a, A, _, hl, hb, _, e, he => by
    rw [lpK, hb e (by omega)]
    exact bit_congr ⟨fun h => ⟨e, Nat.le_refl _, h, rfl⟩, fun ⟨m, _, h, h'⟩ => by have h' : m = e := h'; subst h'; exact h⟩
  | s :: ss, a, A, hs, hl, hb, hA, e, he => by
    rw [lpK]
    have hsv : ∀ x y, x ≤ j → y ≤ j → vlF f W s x y = bit (syP W P s x y) := fun x y hx hy => vlF_bit hf (hs s (by simp)) (by omega) (by omega)
    have hz : Bits (List.replicate (W.length + 1) (0 : Int)) fun _ => False := fun k hk => by
      rw [bit_no (fun h => h), List.getD_eq_getElem?_getD]
      simp only [List.length_replicate] at hk
      simp [hk]
    have h1 := lpM_bit hb hsv (by omega) (j + 1 - i) i _ _ (by omega) (by simp; omega) hz
    have h2 := lpK_bit hf hij hj ss _ _ (fun t ht => hs t (by simp [ht])) (by rw [lpM_len]; simp) h1 (fun k h => by
      rcases h with h | ⟨m, h1, h2, h3, h4, _⟩
      · exact h.elim
      · omega) e he
    rw [h2]
    refine bit_congr ⟨?_, ?_⟩
    · rintro ⟨m', h3, h4 | ⟨m, g1, g2, g3, g4, g5, g6⟩, h5⟩
      · exact h4.elim
      · exact ⟨m, by omega, g3, m', g4, h3, g6, h5⟩
    · rintro ⟨m, h3, h4, m', g1, g2, g3, g4⟩
      exact ⟨m', g2, .inr ⟨m, hA m h4, by omega, h4, g1, by omega, g3⟩, g4⟩
/-- There is a way, or none. -/
theorem wyN_bit (hf : ∀ v a b, v < V → a ≤ W.length → b ≤ W.length → f v a b = bit (P (v : Int) a b)) {i j : Nat} (hij : i ≤ j) (hj : j ≤ W.length) {l : List Int} (hl : ∀ s ∈ l, s < V) : wyN f W 1 i j l = bit (chP W P l i j) := by
  have h0 : Bits ((List.replicate (W.length + 1) (0 : Int)).set i 1) fun e => e = i := fun k hk => by
    simp only [List.length_set, List.length_replicate] at hk
    rw [getD_set (by simpa using hk)]
    by_cases e : i = k
    · rw [if_pos e, bit_yes e.symm]
    · rw [if_neg e, bit_no (fun h => e h.symm), List.getD_eq_getElem?_getD]; simp [hk]
  unfold wyN
  rw [lpK_bit hf hij hj l _ _ hl (by simp) h0 (fun e h => by omega) j (Nat.le_refl _)]
  exact bit_congr ⟨fun ⟨m, _, h1, h2⟩ => by subst h1; exact h2, fun h => ⟨i, hij, rfl, h⟩⟩
end
end Go.Proofs.Ytghplmldnkcpnac

/- Counts that never go above one are trees of so many levels; they stop to grow. -/
namespace Go.Proofs.Ytghplmldnkcpnac
open Go.RowKit G
theorem chP_local {W : List Int} {V : Nat} {P Q : Int → Nat → Nat → Prop} : ∀ {l : List Int} {i j : Nat}, (∀ s ∈ l, s < V) → (∀ (v : Int) (a b : Nat), 0 ≤ v → v < (V : Int) → i ≤ a → a ≤ b → b ≤ j → P v a b → Q v a b) → chP W P l i j → chP W Q l i j
  | [], _, _, _, _, h => h
  | s :: ss, i, j, hs, hp, ⟨m, h1, h2, h3, h4⟩ => by
    refine ⟨m, h1, h2, ?_, chP_local (fun t ht => hs t (by simp [ht])) (fun v a b c1 c2 c3 c4 c5 => hp v a b c1 c2 (by omega) c4 c5) h4⟩
    unfold syP at h3 ⊢
    split at h3
    · rename_i h0; rw [if_pos h0]; exact hp s i m h0 (hs s (by simp)) (Nat.le_refl _) h1 h2 h3
    · rename_i h0; rw [if_neg h0]; exact h3
section
variable {R : List Ru} {W : List Int} {V : Nat}
theorem cnF_bit (hR : ∀ r ∈ R, ∀ s ∈ r.right, s < V) {P : Int → Nat → Nat → Prop} {f : Nat → Nat → Nat → Int} (hf : ∀ v a b, v < V → a ≤ W.length → b ≤ W.length → f v a b = bit (P (v : Int) a b)) : ∀ (r v i j : Nat), r ≤ R.length → i ≤ W.length → j ≤ W.length →
    cnF R W 1 f r v i j = bit (∃ q, ∃ h : q < R.length, q < r ∧ R[q].left = (v : Int) ∧ chP W P R[q].right i j)
  | 0, v, i, j, _, _, _ => by rw [bit_no (fun ⟨q, _, h, _⟩ => absurd h (Nat.not_lt_zero _))]; rfl
  | r + 1, v, i, j, hr, hi, hj => by
    have ih := cnF_bit hR hf r v i j (by omega) hi hj
    rw [cnF_at (by omega), ih]
    split
    · rename_i h
      rw [wyN_bit (P := P) hf h.2 hj (hR _ (List.getElem_mem (by omega))), smI_bit]
      refine bit_congr ⟨?_, ?_⟩
      · rintro (⟨q, h1, h2, h3⟩ | h2)
        · exact ⟨q, h1, by omega, h3⟩
        · exact ⟨r, by omega, by omega, h.1, h2⟩
      · rintro ⟨q, h1, h2, h3, h4⟩
        by_cases e : q = r
        · subst e; exact .inr h4
        · exact .inl ⟨q, h1, by omega, h3, h4⟩
    · rename_i h
      refine bit_congr ⟨fun ⟨q, h1, h2, h3⟩ => ⟨q, h1, by omega, h3⟩, fun ⟨q, h1, h2, h3, h4⟩ => ?_⟩
      by_cases e : q = r
      · subst e; exact absurd ⟨h3, h4.le⟩ h
      · exact ⟨q, h1, by omega, h3, h4⟩
theorem cnT_bit (hR : ∀ r ∈ R, ∀ s ∈ r.right, s < V) : ∀ (t v i j : Nat), v < V → i ≤ W.length → j ≤ W.length → cnT R W 1 t v i j = bit (itG W R t (v : Int) i j)
  | 0, v, i, j, _, _, _ => by
    have h : ¬ itG W R 0 (v : Int) i j := fun h => h
    rw [bit_no h]; rfl
  | t + 1, v, i, j, hv, hi, hj => by
    show cnF R W 1 (cnT R W 1 t) R.length v i j = _
    rw [cnF_bit hR (cnT_bit hR t) R.length v i j (Nat.le_refl _) hi hj]
    refine bit_congr ⟨fun ⟨q, h1, _, h3, h4⟩ => ⟨R[q], List.getElem_mem h1, h3, h4⟩, fun ⟨r, h1, h2, h3⟩ => ?_⟩
    obtain ⟨q, hq, rfl⟩ := List.mem_iff_getElem.1 h1
    exact ⟨q, hq, hq, h2, h3⟩
/-- They stop to grow. -/
theorem itG_stops (hR : ∀ r ∈ R, ∀ s ∈ r.right, s < V) : ∀ (n : Nat) (v i j : Nat), v < V → i ≤ W.length → j ≤ W.length → itG W R n (v : Int) i j → itG W R (V * ((W.length + 1) * (W.length + 1))) (v : Int) i j := by
  have hL : 0 < W.length + 1 := Nat.succ_pos _
  have key := grown_by (V * ((W.length + 1) * (W.length + 1))) (fun n k => k < V * ((W.length + 1) * (W.length + 1)) ∧ itG W R n ((k / ((W.length + 1) * (W.length + 1)) : Nat) : Int) (k / (W.length + 1) % (W.length + 1)) (k % (W.length + 1)))
    (fun n k h => ⟨h.1, itG_succ _ _ _ _ h.2⟩) (fun n k h => h.1)
    (fun n h k hk => ⟨hk.1, by
      obtain ⟨_, r, r1, r2, r3⟩ := hk
      refine ⟨r, r1, r2, chP_local (hR r r1) (fun v a b c1 c2 c3 c4 c5 g => ?_) r3⟩
      have hb : b < W.length + 1 := by have := Nat.mod_lt k hL; omega
      have ha : a < W.length + 1 := by omega
      have e1 : ((v.toNat * (W.length + 1) + a) * (W.length + 1) + b) % (W.length + 1) = b := by rw [Nat.add_comm, Nat.add_mul_mod_self_right, Nat.mod_eq_of_lt hb]
      have e2 : ((v.toNat * (W.length + 1) + a) * (W.length + 1) + b) / (W.length + 1) = v.toNat * (W.length + 1) + a := by rw [Nat.add_comm, Nat.add_mul_div_right _ _ hL, Nat.div_eq_of_lt hb, Nat.zero_add]
      have e3 : (v.toNat * (W.length + 1) + a) % (W.length + 1) = a := by rw [Nat.add_comm, Nat.add_mul_mod_self_right, Nat.mod_eq_of_lt ha]
      have e4 : (v.toNat * (W.length + 1) + a) / (W.length + 1) = v.toNat := by rw [Nat.add_comm, Nat.add_mul_div_right _ _ hL, Nat.div_eq_of_lt ha, Nat.zero_add]
      have e5 : ((v.toNat * (W.length + 1) + a) * (W.length + 1) + b) / ((W.length + 1) * (W.length + 1)) = v.toNat := by rw [← Nat.div_div_eq_div_mul, e2, e4]
      have hlt : (v.toNat * (W.length + 1) + a) * (W.length + 1) + b < V * ((W.length + 1) * (W.length + 1)) := by
        have h1 : v.toNat + 1 ≤ V := by omega
        have h2 := Nat.mul_le_mul_right ((W.length + 1) * (W.length + 1)) h1
        have h3 : (v.toNat * (W.length + 1) + a) * (W.length + 1) + b < (v.toNat + 1) * ((W.length + 1) * (W.length + 1)) := by
          have h4 : v.toNat * (W.length + 1) + a + 1 ≤ (v.toNat + 1) * (W.length + 1) := by rw [Nat.succ_mul]; omega
          have h5 := Nat.mul_le_mul_right (W.length + 1) h4
          rw [Nat.succ_mul] at h5
          rw [← Nat.mul_assoc]; omega
        omega
      have := h _ ⟨hlt, by rw [e5, e2, e3, e1, Int.toNat_of_nonneg c1]; exact g⟩
      rw [e5, e2, e3, e1, Int.toNat_of_nonneg c1] at this
      exact this.2⟩)
  intro n v i j hv hi hj h
  have hb : j < W.length + 1 := by omega
  have ha : i < W.length + 1 := by omega
  have e1 : ((v * (W.length + 1) + i) * (W.length + 1) + j) % (W.length + 1) = j := by rw [Nat.add_comm, Nat.add_mul_mod_self_right, Nat.mod_eq_of_lt hb]
  have e2 : ((v * (W.length + 1) + i) * (W.length + 1) + j) / (W.length + 1) = v * (W.length + 1) + i := by rw [Nat.add_comm, Nat.add_mul_div_right _ _ hL, Nat.div_eq_of_lt hb, Nat.zero_add]
  have e3 : (v * (W.length + 1) + i) % (W.length + 1) = i := by rw [Nat.add_comm, Nat.add_mul_mod_self_right, Nat.mod_eq_of_lt ha]
  have e4 : (v * (W.length + 1) + i) / (W.length + 1) = v := by rw [Nat.add_comm, Nat.add_mul_div_right _ _ hL, Nat.div_eq_of_lt ha, Nat.zero_add]
  have e5 : ((v * (W.length + 1) + i) * (W.length + 1) + j) / ((W.length + 1) * (W.length + 1)) = v := by rw [← Nat.div_div_eq_div_mul, e2, e4]
  have hlt : (v * (W.length + 1) + i) * (W.length + 1) + j < V * ((W.length + 1) * (W.length + 1)) := by
    have h2 := Nat.mul_le_mul_right ((W.length + 1) * (W.length + 1)) (show v + 1 ≤ V by omega)
    have h4 : v * (W.length + 1) + i + 1 ≤ (v + 1) * (W.length + 1) := by rw [Nat.succ_mul]; omega
    have h5 := Nat.mul_le_mul_right (W.length + 1) h4
    rw [Nat.succ_mul] at h5
    rw [Nat.mul_assoc] at h5
    omega
  have := (key n _ ⟨hlt, by rw [e5, e2, e3, e1]; exact h⟩).2
  rw [e5, e2, e3, e1] at this
  exact this
end
end Go.Proofs.Ytghplmldnkcpnac

/- Expressions and definitions in memory, with the room of each slice. -/
namespace Go.Proofs.Ytghplmldnkcpnac
open Go.RowKit Go.WideShapes
def AllB : Nat → Prop := fun _ => True
/-- As In, with the room of each slice. -/
def Fo.Ic (w : World) (S : Nat → Prop) : Fo → Nat → Nat → Prop
  | .nil, _, _ => True
  | .cons op nm kids rest, b, o => S b ∧ w.cell? ⟨b, o, none⟩ = some (.int .i64 op) ∧ w.cell? ⟨b, o + 1, none⟩ = some (.string nm) ∧
      (kids.len ≤ 9223372036854775807 ∧ ∃ ao cap, w.cell? ⟨b, o + 2, none⟩ = some (.slice ao kids.len cap) ∧ kids.len ≤ cap ∧ (kids.len = 0 ∨ ∃ b' o', ao = some ⟨b', o', none⟩ ∧ kids.Ic w S b' o')) ∧ rest.Ic w S b (o + 3)
def FcV (w : World) (S : Nat → Prop) (v : Value) (f : Fo) : Prop :=
  f.len ≤ 9223372036854775807 ∧ ∃ ao cap, v = .slice ao f.len cap ∧ f.len ≤ cap ∧ (f.len = 0 ∨ ∃ b o, ao = some ⟨b, o, none⟩ ∧ f.Ic w S b o)
def XcV (w : World) (S : Nat → Prop) (v : Value) (x : Xp) : Prop := ∃ u, v = .agg #[.int .i64 x.op, .string x.nm, u] ∧ FcV w S u x.kids
def XcIn (w : World) (S : Nat → Prop) (x : Xp) (b o : Nat) : Prop :=
  w.cell? ⟨b, o, none⟩ = some (.int .i64 x.op) ∧ w.cell? ⟨b, o + 1, none⟩ = some (.string x.nm) ∧ ∃ u, w.cell? ⟨b, o + 2, none⟩ = some u ∧ FcV w S u x.kids
def DcIn (w : World) (S : Nat → Prop) : List Df → Nat → Nat → Prop
  | [], _, _ => True
  | d :: l, b, o => S b ∧ w.cell? ⟨b, o, none⟩ = some (.string d.nm) ∧ w.cell? ⟨b, o + 1, none⟩ = some (.int .i64 d.at_) ∧ XcIn w S d.e b (o + 2) ∧ DcIn w S l b (o + 5)
def DcV (w : World) (S : Nat → Prop) (v : Value) (ds : List Df) : Prop :=
  ds.length ≤ 9223372036854775807 ∧ ∃ ao cap, v = .slice ao ds.length cap ∧ (ds.length = 0 ∨ ∃ b o, ao = some ⟨b, o, none⟩ ∧ DcIn w S ds b o)
theorem FcV_nil (w : World) (S : Nat → Prop) : FcV w S (.slice none 0 0) .nil := ⟨by simp [Fo.len], none, 0, rfl, Nat.zero_le _, .inl rfl⟩
theorem Fo.Ic.mono {w w' : World} {S T : Nat → Prop} (hc : ∀ b o v, S b → w.cell? ⟨b, o, none⟩ = some v → T b ∧ w'.cell? ⟨b, o, none⟩ = some v) :
    ∀ {f : Fo} {b o : Nat}, f.Ic w S b o → f.Ic w' T b o
  | .nil, _, _, _ => trivial
  | .cons _ _ _ _, _, _, ⟨h0, h1, h2, ⟨h3, ao, cap, h4, hcp, h5⟩, h6⟩ =>
    ⟨(hc _ _ _ h0 h1).1, (hc _ _ _ h0 h1).2, (hc _ _ _ h0 h2).2, ⟨h3, ao, cap, (hc _ _ _ h0 h4).2, hcp, h5.imp id fun ⟨b', o', e, h⟩ => ⟨b', o', e, Fo.Ic.mono hc h⟩⟩, Fo.Ic.mono hc h6⟩
theorem FcV.mono {w w' : World} {S T : Nat → Prop} (hc : ∀ b o v, S b → w.cell? ⟨b, o, none⟩ = some v → T b ∧ w'.cell? ⟨b, o, none⟩ = some v) {v : Value} {f : Fo} (h : FcV w S v f) : FcV w' T v f :=
  let ⟨h1, ao, cap, e, hcp, h⟩ := h
  ⟨h1, ao, cap, e, hcp, h.imp id fun ⟨b, o, e, h⟩ => ⟨b, o, e, h.mono hc⟩⟩
theorem XcV.mono {w w' : World} {S T : Nat → Prop} (hc : ∀ b o v, S b → w.cell? ⟨b, o, none⟩ = some v → T b ∧ w'.cell? ⟨b, o, none⟩ = some v) {v : Value} {x : Xp} (h : XcV w S v x) : XcV w' T v x :=
  let ⟨u, e, h⟩ := h
  ⟨u, e, h.mono hc⟩
theorem DcIn.mono {w w' : World} {S T : Nat → Prop} (hc : ∀ b o v, S b → w.cell? ⟨b, o, none⟩ = some v → T b ∧ w'.cell? ⟨b, o, none⟩ = some v) :
    ∀ {ds : List Df} {b o : Nat}, DcIn w S ds b o → DcIn w' T ds b o
  | [], _, _, _ => trivial
  | _ :: _, _, _, ⟨h0, h1, h2, ⟨h3, h4, u, h5, h6⟩, h7⟩ => ⟨(hc _ _ _ h0 h1).1, (hc _ _ _ h0 h1).2, (hc _ _ _ h0 h2).2, ⟨(hc _ _ _ h0 h3).2, (hc _ _ _ h0 h4).2, u, (hc _ _ _ h0 h5).2, h6.mono hc⟩, DcIn.mono hc h7⟩
theorem DcV.mono {w w' : World} {S T : Nat → Prop} (hc : ∀ b o v, S b → w.cell? ⟨b, o, none⟩ = some v → T b ∧ w'.cell? ⟨b, o, none⟩ = some v) {v : Value} {ds : List Df} (h : DcV w S v ds) : DcV w' T v ds :=
  let ⟨h1, ao, cap, e, h⟩ := h
  ⟨h1, ao, cap, e, h.imp id fun ⟨b, o, e, h⟩ => ⟨b, o, e, h.mono hc⟩⟩
theorem FcV.kp {w w' : World} {S T : Nat → Prop} {v : Value} {x : Fo} (h : FcV w S v x) (hk : Kp S w w') (hT : ∀ k, k < w.heap.size → S k → T k) : FcV w' T v x := h.mono (keep_cell hT hk.block)
theorem DcV.kp {w w' : World} {S T : Nat → Prop} {v : Value} {x : List Df} (h : DcV w S v x) (hk : Kp S w w') (hT : ∀ k, k < w.heap.size → S k → T k) : DcV w' T v x := h.mono (keep_cell hT hk.block)
theorem Fo.Ic.in_ {w : World} {S : Nat → Prop} : ∀ {f : Fo} {b o : Nat}, f.Ic w S b o → f.In w S b o
  | .nil, _, _, _ => trivial
  | .cons _ _ _ _, _, _, ⟨h0, h1, h2, ⟨h3, ao, cap, h4, _, h5⟩, h6⟩ => ⟨h0, h1, h2, ⟨h3, ao, cap, h4, h5.imp id fun ⟨b', o', e, h⟩ => ⟨b', o', e, Fo.Ic.in_ h⟩⟩, Fo.Ic.in_ h6⟩
theorem FcV.fov {w : World} {S : Nat → Prop} {v : Value} {f : Fo} (h : FcV w S v f) : FoV w S v f :=
  let ⟨h1, ao, cap, e, _, h⟩ := h
  ⟨h1, ao, cap, e, h.imp id fun ⟨b, o, e, h⟩ => ⟨b, o, e, h.in_⟩⟩
theorem DcIn.ds {w : World} {S : Nat → Prop} : ∀ {ds : List Df} {b o : Nat}, DcIn w S ds b o → DsIn w S ds b o
  | [], _, _, _ => trivial
  | _ :: _, _, _, ⟨h0, h1, h2, ⟨h3, h4, u, h5, h6⟩, h7⟩ => ⟨h0, h1, h2, ⟨h3, h4, u, h5, h6.fov⟩, DcIn.ds h7⟩
theorem DcV.ds {w : World} {S : Nat → Prop} {v : Value} {ds : List Df} (h : DcV w S v ds) : DsV w S v ds :=
  let ⟨h1, ao, cap, e, h⟩ := h
  ⟨h1, ao, cap, e, h.imp id fun ⟨b, o, e, h⟩ => ⟨b, o, e, h.ds⟩⟩
theorem Fo.Ic.at_ {w : World} {S : Nat → Prop} : ∀ {f : Fo} {b o : Nat}, f.Ic w S b o → ∀ i, i < f.len → XcIn w S (f.at_ i) b (o + i * 3)
  | .nil, _, _, _, i, hi => by simp [Fo.len] at hi
  | .cons op nm kids rest, b, o, h, 0, _ => by
    obtain ⟨_, h1, h2, ⟨h3, ao, cap, h4, hcp, h5⟩, _⟩ := h
    exact ⟨by simpa [Fo.at_] using h1, by simpa [Fo.at_] using h2, _, by simpa [Fo.at_] using h4, h3, ao, cap, rfl, hcp, h5⟩
  | .cons op nm kids rest, b, o, h, i + 1, hi => by
    have := Fo.Ic.at_ (f := rest) h.2.2.2.2 i (by simpa [Fo.len] using hi)
    rwa [show o + 3 + i * 3 = o + (i + 1) * 3 by omega] at this
theorem DcIn.at_ {w : World} {S : Nat → Prop} : ∀ {ds : List Df} {b o : Nat}, DcIn w S ds b o → ∀ i (h : i < ds.length), S b ∧ XcIn w S ds[i].e b (o + i * 5 + 2)
  | d :: l, b, o, h, 0, _ => ⟨h.1, by simpa using h.2.2.2.1⟩
  | d :: l, b, o, h, i + 1, hi => by
    have := DcIn.at_ (ds := l) h.2.2.2.2 i (by simpa using hi)
    rwa [show o + 5 + i * 5 + 2 = o + (i + 1) * 5 + 2 by omega] at this
theorem FcV.at_ {w : World} {S : Nat → Prop} {ao : Option Addr} {n cap : Nat} {f : Fo} (h : FcV w S (.slice ao n cap) f) {k : Nat} (hk : k < f.len) : ∃ b o, ao = some ⟨b, o, none⟩ ∧ S b ∧ w.cell? ⟨b, o + k * 3, none⟩ = some (.int .i64 (f.at_ k).op) ∧ w.cell? ⟨b, o + k * 3 + 1, none⟩ = some (.string (f.at_ k).nm) ∧ ∃ aq cq, w.cell? ⟨b, o + k * 3 + 2, none⟩ = some (.slice aq (f.at_ k).kids.len cq) ∧ FcV w S (.slice aq (f.at_ k).kids.len cq) (f.at_ k).kids := by
  obtain ⟨_, ao', cap', e, _, h5⟩ := h
  simp at e
  obtain ⟨rfl, rfl, rfl⟩ := e
  rcases h5 with h5 | ⟨b, o, rfl, hin⟩
  · omega
  · obtain ⟨g1, g2, u, g3, g4⟩ := hin.at_ k hk
    have hS : S b := by
      cases f with
      | nil => simp [Fo.len] at hk
      | cons => exact hin.1
    have g4' := g4
    obtain ⟨_, aq, cq, rfl, _⟩ := g4'
    exact ⟨b, o, rfl, hS, g1, g2, aq, cq, g3, g4⟩
theorem FcV.slice {w : World} {S : Nat → Prop} {v : Value} {f : Fo} (h : FcV w S v f) : ∃ ao cap, v = .slice ao f.len cap ∧ f.len ≤ cap := let ⟨_, ao, cap, e, hc, _⟩ := h; ⟨ao, cap, e, hc⟩
theorem FcV.drop1 {w : World} {S : Nat → Prop} {ao : Option Addr} {n cap : Nat} {f : Fo} (h : FcV w S (.slice ao n cap) f) (hk : f.len ≠ 0) : FcV w S (sliced ao 1 n cap 3) (f.drp 1) := by
  obtain ⟨h1, ao', cap', e, hc, h5⟩ := h
  simp at e
  obtain ⟨rfl, rfl, rfl⟩ := e
  cases f with
  | nil => simp [Fo.len] at hk
  | cons op nm kids rest =>
    have hd : (Fo.cons op nm kids rest).drp 1 = rest := by cases rest <;> rfl
    rw [hd]
    simp only [Fo.len] at h1 hc h5
    unfold sliced
    refine ⟨by omega, (if cap = 1 then ao else ao.map (·.add (1 * 3))), cap - 1, by simp [Fo.len], by omega, ?_⟩
    rcases h5 with h5 | ⟨b, o, rfl, hin⟩
    · omega
    · by_cases h0 : rest.len = 0
      · exact .inl h0
      · have hne : ¬ cap = 1 := by omega
        exact .inr ⟨b, o + 3, by simp [hne, addr_add], hin.2.2.2.2⟩
theorem Fo.of_ic {w : World} {f : Nat → Xp} {b o : Nat} : ∀ s n, (∀ i, s ≤ i → i < s + n → XcIn w AllB (f i) b (o + i * 3)) → (Fo.of f s n).Ic w AllB b (o + s * 3)
  | _, 0, _ => trivial
  | s, n + 1, h => by
    obtain ⟨h1, h2, u, h3, hl, ao, cap, rfl, hcp, hin⟩ := h s (Nat.le_refl _) (by omega)
    refine ⟨trivial, h1, h2, ⟨hl, ao, cap, h3, hcp, hin⟩, ?_⟩
    have := Fo.of_ic (w := w) (f := f) (b := b) (o := o) (s + 1) n fun i h1 h2 => h i (by omega) (by omega)
    rwa [show o + (s + 1) * 3 = o + s * 3 + 3 by omega] at this
theorem dsOf_ic {w : World} {f : Nat → Df} {b o : Nat} : ∀ s n, (∀ i, s ≤ i → i < s + n → w.cell? ⟨b, o + i * 5, none⟩ = some (.string (f i).nm) ∧ w.cell? ⟨b, o + i * 5 + 1, none⟩ = some (.int .i64 (f i).at_) ∧ XcIn w AllB (f i).e b (o + i * 5 + 2)) → DcIn w AllB (dsOf f s n) b (o + s * 5)
  | _, 0, _ => trivial
  | s, n + 1, h => by
    obtain ⟨h1, h2, h3⟩ := h s (Nat.le_refl _) (by omega)
    refine ⟨trivial, h1, h2, h3, ?_⟩
    have := dsOf_ic (w := w) (f := f) (b := b) (o := o) (s + 1) n fun i h1 h2 => h i (by omega) (by omega)
    rwa [show o + (s + 1) * 5 = o + s * 5 + 5 by omega] at this
section
variable {H : Type} {enc : TypeId × Value → H} {w : World} {base : Nat} {spare : Nat → Bool} {held : Bool}
set_option maxRecDepth 100000 in
theorem open_exprc : ∀ (fuel : Nat) (cs : List Value) (x : DataW H × List MemPlace), DataW.trod enc Try.prog w base spare held fuel 64 cs = some x → ∃ (y : Xp) (u : Value), cs = [.int .i64 y.op, .string y.nm, u] ∧ FcV w AllB u y.kids := by
  intro fuel
  induction fuel using Nat.strongRecOn with
  | _ fuel ih =>
    intro cs x h
    obtain ⟨xs, n, rfl, rfl, hl, hlen, hf⟩ := DataW.trod_struct Try.underlying64 h
    rw [cellsExpr] at hl
    match cs, hl with
    | [a, b, c], _ =>
    match xs, hlen with
    | [y0, y1, y2], _ =>
    have f0 : DataW.trod enc Try.prog w base spare held n 3 (([a, b, c].drop 0).take (Try.prog.cellsOf 3)) = some y0 := hf 0 _ rfl
    have f1 : DataW.trod enc Try.prog w base spare held n 9 (([a, b, c].drop 1).take (Try.prog.cellsOf 9)) = some y1 := hf 1 _ rfl
    have f2 : DataW.trod enc Try.prog w base spare held n 62 (([a, b, c].drop 2).take (Try.prog.cellsOf 62)) = some y2 := hf 2 _ rfl
    rw [cellsInt] at f0
    rw [cellsStr] at f1
    rw [cellsExprs] at f2
    obtain ⟨op, e0, _, _⟩ := DataW.trod_int Try.underlying3 f0
    obtain ⟨nm, e1, _, _⟩ := DataW.trod_string Try.underlying9 f1
    simp at e0 e1
    subst e0 e1
    rcases DataW.trod_slice Try.underlying62 f2 with ⟨e2, _⟩ | ⟨ad, len, cap, elems, rest, m, rfl, e2, _, hb, hlc, hcm, hel, hall, _, _⟩
    · simp at e2
      subst e2
      exact ⟨⟨op, nm, .nil⟩, _, rfl, FcV_nil _ _⟩
    · simp at e2
      subst e2
      rw [cellsExpr] at hall
      have one : ∀ i, i < len → ∃ y : Xp, ∃ u, w.cell? (ad.add (i * 3)) = some (.int .i64 y.op) ∧ w.cell? ((ad.add (i * 3)).add 1) = some (.string y.nm) ∧ w.cell? ((ad.add (i * 3)).add 2) = some u ∧ FcV w AllB u y.kids := by
        intro i hi
        have h1 := hall i hi
        rw [List.getElem?_eq_getElem (by omega)] at h1
        obtain ⟨cs', h2, h3⟩ := Option.bind_eq_some_iff.1 h1
        obtain ⟨y, u, rfl, hy⟩ := ih m (by omega) cs' _ h3
        obtain ⟨_, _, hc⟩ := World.cells?_some h2
        have c0 := hc 0 (by omega)
        have c1 := hc 1 (by omega)
        have c2 := hc 2 (by omega)
        refine ⟨y, u, ?_, c1, c2, hy⟩
        have : (ad.add (i * 3)).add 0 = ad.add (i * 3) := by unfold Addr.add; simp
        rw [← this]; exact c0
      have hin : Inhabited Xp := ⟨⟨0, ⟨#[]⟩, .nil⟩⟩
      obtain ⟨f, hff⟩ := pick_lt one
      have hmx : cap ≤ 9223372036854775807 := by unfold maxLen at hcm; omega
      refine ⟨⟨op, nm, Fo.of f 0 len⟩, _, rfl, by rw [Fo.of_len]; omega, some ad, cap, by rw [Fo.of_len], by rw [Fo.of_len]; exact hlc, ?_⟩
      rw [Fo.of_len]
      by_cases h0 : len = 0
      · exact .inl h0
      · right
        obtain ⟨u, g0, _⟩ := hff 0 (by omega)
        obtain ⟨b', o', rfl⟩ := plain_addr (w := w) (a := ad) (by simpa using g0)
        refine ⟨b', o', rfl, ?_⟩
        have := Fo.of_ic (w := w) (f := f) (b := b') (o := o') 0 len fun i _ hi => by
          obtain ⟨u, g0, g1, g2, g3⟩ := hff i (by omega)
          rw [addr_add] at g0 g1 g2
          rw [addr_add] at g1 g2
          exact ⟨g0, g1, u, g2, g3⟩
        simpa using this
set_option maxRecDepth 100000 in
theorem open_defc {fuel : Nat} {cs : List Value} {x : DataW H × List MemPlace} (h : DataW.trod enc Try.prog w base spare held fuel 66 cs = some x) : ∃ (y : Df) (u : Value), cs = [.string y.nm, .int .i64 y.at_, .int .i64 y.e.op, .string y.e.nm, u] ∧ FcV w AllB u y.e.kids := by
  obtain ⟨xs, n, rfl, rfl, hl, hlen, hf⟩ := DataW.trod_struct Try.underlying66 h
  rw [cellsDef] at hl
  match cs, hl with
  | [a, b, c, d, e], _ =>
  match xs, hlen with
  | [y0, y1, y2], _ =>
  have f0 : DataW.trod enc Try.prog w base spare held n 9 (([a, b, c, d, e].drop 0).take (Try.prog.cellsOf 9)) = some y0 := hf 0 _ rfl
  have f1 : DataW.trod enc Try.prog w base spare held n 3 (([a, b, c, d, e].drop 1).take (Try.prog.cellsOf 3)) = some y1 := hf 1 _ rfl
  have f2 : DataW.trod enc Try.prog w base spare held n 64 (([a, b, c, d, e].drop 2).take (Try.prog.cellsOf 64)) = some y2 := hf 2 _ rfl
  rw [cellsInt] at f1
  rw [cellsStr] at f0
  rw [cellsExpr] at f2
  obtain ⟨nm, e0, _, _⟩ := DataW.trod_string Try.underlying9 f0
  obtain ⟨at_, e1, _, _⟩ := DataW.trod_int Try.underlying3 f1
  obtain ⟨y, u, e2, hy⟩ := open_exprc _ _ _ f2
  simp at e0 e1 e2
  obtain ⟨rfl, rfl, rfl⟩ := e2
  subst e0 e1
  exact ⟨⟨nm, at_, y⟩, _, rfl, hy⟩
set_option maxRecDepth 100000 in
theorem open_textc {v : Value} {d : DataW H} {ps : List MemPlace} {b2 : Nat} (hv : Value.okWide Try.prog w .any b2 42 v) (h : DataW.Trod enc Try.prog w base spare held 42 v d ps) : ∃ (ds : List Df) (u : Value), v = .agg #[u] ∧ DcV w AllB u ds := by
  obtain ⟨vs, rfl, hvs⟩ := okWide_struct Try.underlying42 hv
  obtain ⟨fuel, h⟩ := h
  rw [cellsText] at hvs
  obtain ⟨xs, n, rfl, hd, hl, hlen, hf⟩ := DataW.trod_struct Try.underlying42 h
  rw [cellsText] at hl
  obtain ⟨u, rfl⟩ : ∃ u, vs = #[u] := by
    obtain ⟨l⟩ := vs
    match l, hvs with
    | [u], _ => exact ⟨u, rfl⟩
  match xs, hlen with
  | [y0], _ =>
  have f0 : DataW.trod enc Try.prog w base spare held n 40 (([u].drop 0).take (Try.prog.cellsOf 40)) = some y0 := hf 0 _ rfl
  rw [cellsDefs] at f0
  rcases DataW.trod_slice Try.underlying40 f0 with ⟨e2, _⟩ | ⟨ad, len, cap, elems, rest, m, rfl, e2, _, hb, hlc, hcm, hel, hall, _, _⟩
  · have e3 : u = .slice none 0 0 := by simpa using e2
    subst e3
    exact ⟨[], _, rfl, by simp, none, 0, rfl, .inl rfl⟩
  · have e3 : u = .slice (some ad) len cap := by simpa using e2
    subst e3
    rw [cellsDef] at hall
    have one : ∀ i, i < len → ∃ y : Df, ∃ u, w.cell? (ad.add (i * 5)) = some (.string y.nm) ∧ w.cell? ((ad.add (i * 5)).add 1) = some (.int .i64 y.at_) ∧ w.cell? ((ad.add (i * 5)).add 2) = some (.int .i64 y.e.op) ∧ w.cell? ((ad.add (i * 5)).add 3) = some (.string y.e.nm) ∧ w.cell? ((ad.add (i * 5)).add 4) = some u ∧ FcV w AllB u y.e.kids := by
      intro i hi
      have h1 := hall i hi
      rw [List.getElem?_eq_getElem (by omega)] at h1
      obtain ⟨cs', h2, h3⟩ := Option.bind_eq_some_iff.1 h1
      obtain ⟨y, u, rfl, hy⟩ := open_defc h3
      obtain ⟨_, _, hc⟩ := World.cells?_some h2
      have c0 := hc 0 (by omega)
      refine ⟨y, u, ?_, hc 1 (by omega), hc 2 (by omega), hc 3 (by omega), hc 4 (by omega), hy⟩
      have : (ad.add (i * 5)).add 0 = ad.add (i * 5) := by unfold Addr.add; simp
      rw [← this]; exact c0
    have hin : Inhabited Df := ⟨⟨⟨#[]⟩, 0, ⟨0, ⟨#[]⟩, .nil⟩⟩⟩
    obtain ⟨f, hff⟩ := pick_lt one
    have hmx : cap ≤ 9223372036854775807 := by unfold maxLen at hcm; omega
    refine ⟨dsOf f 0 len, _, rfl, by rw [dsOf_len]; omega, some ad, cap, by rw [dsOf_len], ?_⟩
    rw [dsOf_len]
    by_cases h0 : len = 0
    · exact .inl h0
    · right
      obtain ⟨u, g0, _⟩ := hff 0 (by omega)
      obtain ⟨b', o', rfl⟩ := plain_addr (w := w) (a := ad) (by simpa using g0)
      refine ⟨b', o', rfl, ?_⟩
      have := dsOf_ic (w := w) (f := f) (b := b') (o := o') 0 len fun i _ hi => by
        obtain ⟨u, g0, g1, g2, g3, g4, g5⟩ := hff i (by omega)
        rw [addr_add] at g0 g1 g2 g3 g4
        rw [addr_add] at g1 g2 g3 g4
        exact ⟨g0, g1, g2, g3, u, g4, g5⟩
      simpa using this
end
end Go.Proofs.Ytghplmldnkcpnac
