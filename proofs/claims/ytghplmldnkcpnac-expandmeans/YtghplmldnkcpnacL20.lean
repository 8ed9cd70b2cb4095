/- Texts laid together: Ys Ya Yv. -/
import Derived.Test.YtghplmldnkcpnacL18
import Derived.Test.YtghplmldnkcpnacL10
import Derived.Test.YtghplmldnkcpnacL19
import Derived.Deep.CutRange
/- Asking what expressions say: texts from a place to another, what is asked, what is answered. -/
namespace Go.Proofs.Ytghplmldnkcpnac
open Go.RowKit G

/-- Texts from place i to place j. -/
def TxV (w : World) (S : Nat → Prop) (v : Value) (X : List ByteArray) (i j : Nat) : Prop :=
  i ≤ j ∧ j ≤ X.length ∧ X.length ≤ 1000000 ∧ ∃ ao cap, v = .slice ao (j - i) cap ∧ j - i ≤ cap ∧ (ao = none ∨ ∃ b o, ao = some ⟨b, o, none⟩) ∧ (j = i ∨ ∃ b o, ao = some ⟨b, o, none⟩ ∧ S b ∧ ∀ k, k < j - i → ∃ nm, X[i + k]? = some nm ∧ w.cell? ⟨b, o + k, none⟩ = some (.string nm))
theorem TxV.slice {w : World} {S : Nat → Prop} {v : Value} {X : List ByteArray} {i j : Nat} (h : TxV w S v X i j) : ∃ ao cap, v = .slice ao (j - i) cap ∧ j - i ≤ cap := let ⟨_, _, _, ao, cap, e, h, _⟩ := h; ⟨ao, cap, e, h⟩
theorem TxV.mono {w w' : World} {S T : Nat → Prop} (hc : ∀ b o v, S b → w.cell? ⟨b, o, none⟩ = some v → T b ∧ w'.cell? ⟨b, o, none⟩ = some v) {v : Value} {X : List ByteArray} {i j : Nat} (h : TxV w S v X i j) : TxV w' T v X i j := by
  obtain ⟨h1, h2, h3, ao, cap, h4, h5, hp, h6⟩ := h
  refine ⟨h1, h2, h3, ao, cap, h4, h5, hp, ?_⟩
  rcases h6 with h6 | ⟨b, o, e, hs, hx⟩
  · exact .inl h6
  · by_cases h0 : j = i
    · exact .inl h0
    · obtain ⟨nm, _, hc0⟩ := hx 0 (by omega)
      refine .inr ⟨b, o, e, (hc b _ _ hs hc0).1, fun k hk => ?_⟩
      obtain ⟨nm, g1, g2⟩ := hx k hk
      exact ⟨nm, g1, (hc b _ _ hs g2).2⟩
theorem TxV.kp {w w' : World} {S T : Nat → Prop} {v : Value} {X : List ByteArray} {i j : Nat} (h : TxV w S v X i j) (hk : Kp S w w') (hT : ∀ k, k < w.heap.size → S k → T k) : TxV w' T v X i j := h.mono (keep_cell hT hk.block)
theorem TxV.take {w : World} {S : Nat → Prop} {ao : Option Addr} {n cap k : Nat} {X : List ByteArray} {i j : Nat} (h : TxV w S (.slice ao n cap) X i j) (hk : k ≤ j - i) : TxV w S (.slice ao k cap) X i (i + k) := by
  obtain ⟨h1, h2, h3, ao', cap', h4, h5, hp, h6⟩ := h
  simp at h4
  obtain ⟨rfl, rfl, rfl⟩ := h4
  refine ⟨by omega, by omega, h3, ao, cap, by congr 1; omega, by omega, hp, ?_⟩
  rcases h6 with h6 | ⟨b, o, e, hs, hx⟩
  · exact .inl (by omega)
  · exact .inr ⟨b, o, e, hs, fun q hq => hx q (by omega)⟩
theorem TxV.drop {w : World} {S : Nat → Prop} {ao : Option Addr} {n cap k : Nat} {X : List ByteArray} {i j : Nat} (h : TxV w S (.slice ao n cap) X i j) (hk : k ≤ j - i) : TxV w S (sliced ao k n cap 1) X (i + k) j := by
  obtain ⟨h1, h2, h3, ao', cap', h4, h5, hp, h6⟩ := h
  simp at h4
  obtain ⟨rfl, rfl, rfl⟩ := h4
  unfold sliced
  refine ⟨by omega, by omega, h3, (if cap = k then ao else ao.map (·.add (k * 1))), cap - k, by congr 1; omega, by omega, ?_, ?_⟩
  · rcases hp with rfl | ⟨b, o, rfl⟩
    · exact .inl (by simp)
    · right
      by_cases hc : cap = k
      · exact ⟨b, o, by simp [hc]⟩
      · exact ⟨b, o + k, by simp [hc, G.addr_add]⟩
  rcases h6 with h6 | ⟨b, o, rfl, hs, hx⟩
  · exact .inl (by omega)
  · by_cases hc : cap = k
    · exact .inl (by omega)
    · refine .inr ⟨b, o + k, by simp [hc, G.addr_add], hs, fun q hq => ?_⟩
      obtain ⟨nm, g1, g2⟩ := hx (k + q) (by omega)
      exact ⟨nm, by rw [← g1]; congr 1; omega, by rw [← g2]; congr 2; omega⟩

/-! Expressions that may be asked. -/
def Fo.gd : Fo → Prop
  | .nil => True
  | .cons op _ kids rest => ((op = 5 ∨ op = 6 ∨ op = 7) → kids.len ≠ 0) ∧ kids.gd ∧ rest.gd
def Xp.gd (x : Xp) : Prop := ((x.op = 5 ∨ x.op = 6 ∨ x.op = 7) → x.kids.len ≠ 0) ∧ x.kids.gd
theorem Fo.gd.at_ : ∀ {f : Fo}, f.gd → ∀ {i : Nat}, i < f.len → (f.at_ i).gd
  | .nil, _, _, h => by simp [Fo.len] at h
  | .cons _ _ _ _, h, 0, _ => ⟨h.1, h.2.1⟩
  | .cons _ _ _ r, h, i + 1, hi => Fo.gd.at_ (f := r) h.2.2 (by simpa [Fo.len] using hi)
theorem code_kids {op : Int} {nm : ByteArray} {n : Nat} (h : code op nm n = 0) : (op = 5 ∨ op = 6 ∨ op = 7) → n ≠ 0 := by
  intro ho hn
  subst hn
  unfold code at h
  rcases ho with rfl | rfl | rfl <;> simp [formB] at h
theorem Fo.gd_of : ∀ {f : Fo}, f.bad = 0 → f.gd
  | .nil, _ => trivial
  | .cons op nm kids rest, h => by
    unfold Fo.bad at h
    by_cases h1 : code op nm kids.len ≠ 0
    · rw [if_pos h1] at h; exact absurd h h1
    · rw [if_neg h1] at h
      by_cases h2 : kids.bad ≠ 0
      · rw [if_pos h2] at h; exact absurd h h2
      · rw [if_neg h2] at h
        exact ⟨code_kids (Decidable.not_not.1 h1), Fo.gd_of (Decidable.not_not.1 h2), Fo.gd_of h⟩
theorem Xp.gd_of {x : Xp} (h : x.bad = 0) : x.gd := by
  unfold Xp.bad at h
  by_cases h1 : code x.op x.nm x.kids.len ≠ 0
  · rw [if_pos h1] at h; exact absurd h h1
  · rw [if_neg h1] at h
    exact ⟨code_kids (Decidable.not_not.1 h1), Fo.gd_of h⟩

/-! What is asked, in memory. -/
structure AsS (w : World) (ra : Nat) (v0 : Value) (L : Nat) : Prop where
  c0 : w.cell? ⟨ra, 0, none⟩ = some v0
  c1 : w.cell? ⟨ra, 1, none⟩ = some (.int .i64 (L : Int))
  fz : w.frozen? ⟨ra, 1, none⟩ = false
theorem AsS.lw {w w' : World} {ra : Nat} {v0 : Value} {L : Nat} (h : AsS w ra v0 L) (hb : Below w.heap.size w w') : AsS w' ra v0 L :=
  ⟨G.bkeep hb h.c0, G.bkeep hb h.c1, (World.frozen?_of_block (a := ⟨ra, 1, none⟩) (hb.block ra (G.lt_of_cell h.c0))).trans h.fz⟩
theorem AsS.set {w : World} {ra : Nat} {v0 : Value} {L : Nat} (h : AsS w ra v0 L) (l : Nat) : AsS (w.setCell ⟨ra, 1, none⟩ (.int .i64 (l : Int))) ra v0 l :=
  ⟨by rw [World.cell?_setCell_other _ _ _ _ (by simp)]; exact h.c0, World.cell?_setCell_same _ _ _ h.c1, by rw [World.frozen?_setCell]; exact h.fz⟩
/-- All but what is asked. -/
abbrev Oth (ra : Nat) : Nat → Prop := fun k => k ≠ ra
theorem But.kp {ra : Nat} {w w' : World} (h : But ra w w') : Kp (Oth ra) w w' := Kp.of_but h (fun e => e rfl)
theorem but_cell {ra : Nat} {w w' : World} (h : But ra w w') {b o : Nat} {v : Value} (hb : b ≠ ra) (hc : w.cell? ⟨b, o, none⟩ = some v) : w'.cell? ⟨b, o, none⟩ = some v := by
  rw [h.cell (G.lt_of_cell hc) hb]; exact hc

/-! What an expression says, asked so deep. -/
section
variable (N X : List ByteArray) (E : List Xp)
def SaD : Nat → Xp → Nat → Nat → Prop
  | 0, _, _, _ => False
  | d + 1, x, i, j => x.sa N X (dpS N X E d) i j
variable {N X E}
theorem SaD_one {d : Nat} {x : Xp} {i j : Nat} (h : x.op = 1) : SaD N X E (d + 1) x i j ↔ j = i + 1 ∧ X[i]? = some x.nm := by
  show x.sa N X (dpS N X E d) i j ↔ _
  rw [Xp.sa, xsP, if_pos h]
theorem SaD_two {d : Nat} {x : Xp} {i j : Nat} (h : x.op = 2) : SaD N X E (d + 1) x i j ↔ 0 ≤ whr N x.nm ∧ ∃ y, E[(whr N x.nm).toNat]? = some y ∧ SaD N X E d y i j := by
  show x.sa N X (dpS N X E d) i j ↔ _
  rw [Xp.sa, xsP, h, if_neg (by decide), if_pos rfl]
  cases d with
  | zero => simp [dpS, SaD]
  | succ d =>
    show (∃ y, E[(whr N x.nm).toNat]? = some y ∧ 0 ≤ whr N x.nm ∧ y.sa N X (dpS N X E d) i j) ↔ _
    constructor
    · rintro ⟨y, h1, h2, h3⟩; exact ⟨h2, y, h1, h3⟩
    · rintro ⟨h2, y, h1, h3⟩; exact ⟨y, h1, h2, h3⟩
theorem any_at {I : Int → Nat → Nat → Prop} {f : Fo} {k : Nat} (hk : k < f.len) {i j : Nat} : (f.drp k).sm N X I .any i j ↔ (f.at_ k).sa N X I i j ∨ (f.drp (k + 1)).sm N X I .any i j := by
  rw [Fo.drp_at hk, Fo.sm]; rfl
theorem any_end {I : Int → Nat → Nat → Prop} {f : Fo} {k : Nat} (hk : f.len ≤ k) {i j : Nat} : ¬ (f.drp k).sm N X I .any i j := by
  rw [Fo.drp_end hk, Fo.sm]; exact fun h => h
theorem SaD_any {d : Nat} {x : Xp} {i j : Nat} (h : x.op = 4) : SaD N X E (d + 1) x i j ↔ (x.kids.drp 0).sm N X (dpS N X E d) .any i j := by
  show x.sa N X (dpS N X E d) i j ↔ _
  rw [Xp.sa, xsP, h, if_neg (by decide), if_neg (by decide), if_pos rfl, Fo.drp_zero]
theorem fst_at {I : Int → Nat → Nat → Prop} {f : Fo} (hk : f.len ≠ 0) {i j : Nat} : f.sm N X I .fst i j ↔ (f.at_ 0).sa N X I i j := by
  cases f with
  | nil => simp [Fo.len] at hk
  | cons op nm kids rest => rw [Fo.sm]; rfl
theorem SaD_opt {d : Nat} {x : Xp} {i j : Nat} (h : x.op = 5) (hk : x.kids.len ≠ 0) : SaD N X E (d + 1) x i j ↔ i = j ∨ SaD N X E (d + 1) (x.kids.at_ 0) i j := by
  show x.sa N X (dpS N X E d) i j ↔ i = j ∨ (x.kids.at_ 0).sa N X (dpS N X E d) i j
  rw [Xp.sa, xsP, h, if_neg (by decide), if_neg (by decide), if_neg (by decide), if_pos rfl, fst_at hk]
theorem StP_iff {Q : Nat → Nat → Prop} {i j : Nat} (hij : i < j) : StP Q i j ↔ ∃ m, i < m ∧ m ≤ j ∧ Q i m ∧ (m = j ∨ StP Q m j) := by
  constructor
  · intro h
    cases h with
    | nil => omega
    | cons h1 h2 h3 h4 => exact ⟨_, h1, h2, h3, .inr h4⟩
  · rintro ⟨m, h1, h2, h3, rfl | h4⟩
    · exact .cons h1 h2 h3 (.nil _)
    · exact .cons h1 h2 h3 h4
/-- The star of an expression's parts. -/
def stX (x : Xp) : Xp := ⟨6, ⟨#[]⟩, x.kids⟩
theorem SaD_star {d : Nat} {x : Xp} {i j : Nat} (h : x.op = 6 ∨ x.op = 7) (hk : x.kids.len ≠ 0) (hij : i < j) : SaD N X E (d + 1) x i j ↔ ∃ m, i < m ∧ m ≤ j ∧ SaD N X E (d + 1) (x.kids.at_ 0) i m ∧ (m = j ∨ SaD N X E (d + 1) (stX x) m j) := by
  have e : ∀ i j, SaD N X E (d + 1) (stX x) i j ↔ StP (x.kids.sm N X (dpS N X E d) .fst) i j := fun i j => by
    show (stX x).sa N X (dpS N X E d) i j ↔ _
    rw [Xp.sa, xsP]; simp [stX]
  have q : ∀ i m, x.kids.sm N X (dpS N X E d) .fst i m ↔ SaD N X E (d + 1) (x.kids.at_ 0) i m := fun i m => by rw [fst_at hk]; rfl
  have key : (∃ m, i < m ∧ m ≤ j ∧ x.kids.sm N X (dpS N X E d) .fst i m ∧ (m = j ∨ StP (x.kids.sm N X (dpS N X E d) .fst) m j)) ↔ ∃ m, i < m ∧ m ≤ j ∧ SaD N X E (d + 1) (x.kids.at_ 0) i m ∧ (m = j ∨ SaD N X E (d + 1) (stX x) m j) := by
    constructor
    · rintro ⟨m, h1, h2, h3, h4⟩; exact ⟨m, h1, h2, (q i m).1 h3, h4.imp id (e m j).2⟩
    · rintro ⟨m, h1, h2, h3, h4⟩; exact ⟨m, h1, h2, (q i m).2 h3, h4.imp id (e m j).1⟩
  rw [← key]
  show x.sa N X (dpS N X E d) i j ↔ _
  rw [Xp.sa, xsP]
  rcases h with h | h
  · rw [h]; simp only [show ¬ (6 : Int) = 1 by decide, show ¬ (6 : Int) = 2 by decide, show ¬ (6 : Int) = 4 by decide, show ¬ (6 : Int) = 5 by decide, if_false, if_true]
    exact StP_iff hij
  · rw [h]; simp only [show ¬ (7 : Int) = 1 by decide, show ¬ (7 : Int) = 2 by decide, show ¬ (7 : Int) = 4 by decide, show ¬ (7 : Int) = 5 by decide, show ¬ (7 : Int) = 6 by decide, if_false, if_true]
    unfold PlP
    exact ⟨fun h => h.elim (fun h => by omega) id, .inr⟩
theorem SaD_plus {d : Nat} {x : Xp} {i : Nat} (h : x.op = 7) (hk : x.kids.len ≠ 0) : SaD N X E (d + 1) x i i ↔ SaD N X E (d + 1) (x.kids.at_ 0) i i := by
  show x.sa N X (dpS N X E d) i i ↔ _
  rw [Xp.sa, xsP, h]; simp only [show ¬ (7 : Int) = 1 by decide, show ¬ (7 : Int) = 2 by decide, show ¬ (7 : Int) = 4 by decide, show ¬ (7 : Int) = 5 by decide, show ¬ (7 : Int) = 6 by decide, if_false, if_true]
  unfold PlP
  rw [fst_at hk]
  exact ⟨fun h => h.elim (fun h => h.2) (fun ⟨m, h1, h2, _⟩ => by omega), fun h => .inl ⟨rfl, h⟩⟩
theorem SaD_nothing {d : Nat} {x : Xp} {i : Nat} (h : x.op = 6) : SaD N X E (d + 1) x i i := by
  show x.sa N X (dpS N X E d) i i
  rw [Xp.sa, xsP, h]; simp only [show ¬ (6 : Int) = 1 by decide, show ¬ (6 : Int) = 2 by decide, show ¬ (6 : Int) = 4 by decide, show ¬ (6 : Int) = 5 by decide, if_false, if_true]
  exact .nil _
/-- The row of an expression's parts but the first. -/
def rwX (f : Fo) : Xp := ⟨3, ⟨#[]⟩, f.drp 1⟩
def isRow (op : Int) : Prop := ¬ op = 1 ∧ ¬ op = 2 ∧ ¬ op = 4 ∧ ¬ op = 5 ∧ ¬ op = 6 ∧ ¬ op = 7
theorem SaD_row {d : Nat} {x : Xp} {i j : Nat} (h : isRow x.op) : SaD N X E (d + 1) x i j ↔ x.kids.sm N X (dpS N X E d) .row i j := by
  obtain ⟨h1, h2, h4, h5, h6, h7⟩ := h
  show x.sa N X (dpS N X E d) i j ↔ _
  rw [Xp.sa, xsP, if_neg h1, if_neg h2, if_neg h4, if_neg h5, if_neg h6, if_neg h7]
theorem SaD_row0 {d : Nat} {x : Xp} {i j : Nat} (h : isRow x.op) (hk : x.kids.len = 0) : SaD N X E (d + 1) x i j ↔ i = j := by
  rw [SaD_row h, Fo.len_zero hk, Fo.sm]
theorem SaD_row1 {d : Nat} {x : Xp} {i j : Nat} (h : isRow x.op) (hk : x.kids.len ≠ 0) : SaD N X E (d + 1) x i j ↔ ∃ m, i ≤ m ∧ m ≤ j ∧ SaD N X E (d + 1) (x.kids.at_ 0) i m ∧ SaD N X E (d + 1) (rwX x.kids) m j := by
  have e : ∀ f : Fo, ∀ m, SaD N X E (d + 1) ⟨3, ⟨#[]⟩, f⟩ m j ↔ f.sm N X (dpS N X E d) .row m j := fun f m => SaD_row (by simp [isRow])
  rw [SaD_row h]
  unfold rwX
  cases hx : x.kids with
  | nil => rw [hx] at hk; simp [Fo.len] at hk
  | cons op nm kids rest =>
    rw [Fo.sm]
    have hd : (Fo.cons op nm kids rest).drp 1 = rest := by cases rest <;> rfl
    rw [hd]
    constructor
    · rintro ⟨m, h1, h2, h3, h4⟩; exact ⟨m, h1, h2, h3, (e rest m).2 h4⟩
    · rintro ⟨m, h1, h2, h3, h4⟩; exact ⟨m, h1, h2, h3, (e rest m).1 h4⟩
end
theorem Fo.gd.drp1 {f : Fo} (h : f.gd) : (f.drp 1).gd := by
  cases f with
  | nil => trivial
  | cons op nm kids rest => cases rest with
    | nil => exact h.2.2
    | cons => exact h.2.2
/-- What asking answers. -/
def OutS (w : World) (ra : Nat) (v0 : Value) (L : Nat) (P : Prop) (e : Ending) (w' : World) : Prop :=
  ∃ (r : Bool) (L' : Nat), e = .returned (.bool r) ∧ L' ≤ L ∧ AsS w' ra v0 L' ∧ But ra w w' ∧ (L' ≠ 0 → (r = true ↔ P))
end Go.Proofs.Ytghplmldnkcpnac

/- The word by numbers and by texts; what is counted and what is said are one. -/
namespace Go.Proofs.Ytghplmldnkcpnac
open Go.RowKit G
theorem word_num (n : Int) {m : Nat} (h : ¬ m = 0) (h60 : m ≤ 60) : ∃ k : Nat, k < m ∧ wrap64 ((IntKind.u64.wrap n).tmod m) = (k : Int) := by
  have h1 : 0 ≤ IntKind.u64.wrap n := by
    have e : IntKind.u64.wrap n = n % 2 ^ 64 := rfl
    rw [e]; omega
  have h2 := Int.tmod_nonneg (m : Int) h1
  have h3 : (IntKind.u64.wrap n).tmod (m : Int) < m := Int.tmod_lt_of_pos _ (by omega)
  generalize (IntKind.u64.wrap n).tmod (m : Int) = x at *
  refine ⟨x.toNat, by omega, ?_⟩
  unfold wrap64
  omega
/-- The word, by numbers and by texts. -/
def Wds (T : List ByteArray) (K : List Int) (X : List ByteArray) : Prop := K.length = X.length ∧ ∀ q, q < K.length → ∃ m : Nat, m < T.length ∧ K[q]? = some (m : Int) ∧ X[q]? = T[m]?
theorem Wds.snoc {T : List ByteArray} {K : List Int} {X : List ByteArray} (h : Wds T K X) {m : Nat} (hm : m < T.length) : Wds T (K ++ [(m : Int)]) (X ++ [T[m]]) := by
  obtain ⟨h1, h2⟩ := h
  refine ⟨by simp [h1], fun q hq => ?_⟩
  rw [List.length_append] at hq
  by_cases e : q < K.length
  · obtain ⟨n, n1, n2, n3⟩ := h2 q e
    exact ⟨n, n1, by rw [List.getElem?_append_left e]; exact n2, by rw [List.getElem?_append_left (by omega)]; exact n3⟩
  · obtain rfl : q = K.length := by simp at hq; omega
    exact ⟨m, hm, by simp, by rw [h1]; simp [hm]⟩
theorem whr_nodup {T : List ByteArray} (hn : T.Nodup) {m : Nat} (hm : m < T.length) : whr T T[m] = (m : Int) := by
  unfold whr
  refine fstI_hit (k := m) (by simp [hm]) (fun j hj => ?_) hm
  have := List.pairwise_iff_getElem.1 hn j m (by omega) hm hj
  simp [show j < T.length by omega, this]
theorem Wds.wrd {T : List ByteArray} {K : List Int} {X : List ByteArray} (hn : T.Nodup) (h : Wds T K X) : Wrd T K X := by
  obtain ⟨h1, h2⟩ := h
  intro i nm hnm
  by_cases hi : i < K.length
  · obtain ⟨m, m1, m2, m3⟩ := h2 i hi
    rw [m2, m3, List.getElem?_eq_getElem m1]
    constructor
    · intro e
      have e : T[m] = nm := Option.some.inj e
      rw [← e, whr_nodup hn m1]
    · intro e
      obtain ⟨n, hn1, rfl⟩ := List.mem_iff_getElem.1 hnm
      rw [whr_nodup hn hn1] at e
      have e : (m : Int) = n := Option.some.inj e
      have e : m = n := by omega
      subst e; rfl
  · rw [List.getElem?_eq_none (by omega), List.getElem?_eq_none (by omega)]
    simp
theorem fix_all {R : List Ru} {W : List Int} {V t : Nat} (hR : ∀ r ∈ R, ∀ s ∈ r.right, s < V) (hf : ∀ v i j : Nat, v < V → i ≤ W.length → j ≤ W.length → itG W R (t + 1) (v : Int) i j → itG W R t (v : Int) i j) :
    ∀ (s v i j : Nat), v < V → i ≤ W.length → j ≤ W.length → itG W R s (v : Int) i j → itG W R t (v : Int) i j
  | 0, _, _, _, _, _, _, h => h.elim
  | s + 1, v, i, j, hv, hi, hj, ⟨r, r1, r2, r3⟩ => by
    refine hf v i j hv hi hj ⟨r, r1, r2, chP_local (V := V) (hR r r1) (fun u a b c1 c2 c3 c4 c5 g => ?_) r3⟩
    obtain ⟨n, rfl⟩ : ∃ n : Nat, u = n := ⟨u.toNat, by omega⟩
    exact fix_all hR hf s n a b (by omega) (by omega) (by omega) g
/-- What is counted, at most one, just if the grammar has it. -/
theorem counted {R : List Ru} {W : List Int} {V t : Nat} (hR : ∀ r ∈ R, ∀ s ∈ r.right, s < V) (hfix : ∀ v i j, v < V → i ≤ W.length → j ≤ W.length → cnT R W 1 (t + 1) v i j = cnT R W 1 t v i j) {v i j : Nat} (hv : v < V) (hi : i ≤ W.length) (hj : j ≤ W.length) :
    0 < cnT R W 1 (t + 1) v i j ↔ DG W R (v : Int) i j := by
  rw [cnT_bit hR (t + 1) v i j hv hi hj, bit_pos]
  constructor
  · intro h; exact ⟨t + 1, h⟩
  · rintro ⟨s, h⟩
    have hf : ∀ v i j : Nat, v < V → i ≤ W.length → j ≤ W.length → itG W R (t + 1) (v : Int) i j → itG W R t (v : Int) i j := fun v i j hv hi hj h => by
      have := hfix v i j hv hi hj
      rw [cnT_bit hR _ v i j hv hi hj, cnT_bit hR _ v i j hv hi hj] at this
      exact (bit_inj this).1 h
    exact itG_succ _ _ _ _ (fix_all hR hf s v i j hv hi hj h)
/-- There is a level at which nothing more comes. -/
theorem stops {R : List Ru} {W : List Int} {V : Nat} (hR : ∀ r ∈ R, ∀ s ∈ r.right, s < V) : ∀ v i j, v < V → i ≤ W.length → j ≤ W.length → cnT R W 1 (V * ((W.length + 1) * (W.length + 1)) + 1) v i j = cnT R W 1 (V * ((W.length + 1) * (W.length + 1))) v i j := fun v i j hv hi hj => by
  rw [cnT_bit hR _ v i j hv hi hj, cnT_bit hR _ v i j hv hi hj]
  exact bit_congr ⟨fun h => itG_stops hR _ v i j hv hi hj h, fun h => itG_succ _ _ _ _ h⟩
theorem said {ds : List Df} (h0 : (dfl ds).1 = 0) (hb : (exA ds).1.bad = false) {K : List Int} {X : List ByteArray} (hW : Wds (trms ds) K X) (hd : 0 < ds.length) :
    SaD (nms ds) X (ds.map Df.e) (ds.length * (K.length + 1) + 1) ds[0].e 0 K.length ↔ DG K (exA ds).1.rules 0 0 K.length := by
  have h := means h0 hb (hW.wrd (trms_nodup ds)) (k := 0) ⟨by omega, by omega⟩ (i := 0) (j := K.length) (Nat.zero_le _)
  rw [h, Nat.sub_zero]
  show _ ↔ ∃ x, (ds.map Df.e)[(0 : Int).toNat]? = some x ∧ (0 : Int) ≤ 0 ∧ x.sa (nms ds) X (dpS (nms ds) X (ds.map Df.e) (ds.length * (K.length + 1))) 0 K.length
  constructor
  · intro h; exact ⟨ds[0].e, by simp [hd], by omega, h⟩
  · rintro ⟨x, e, _, h⟩
    have e : ds[0].e = x := by simpa [hd] using e
    rw [e]; exact h
end Go.Proofs.Ytghplmldnkcpnac

/- Asking what an expression says, kind by kind. -/
namespace Go.Proofs.Ytghplmldnkcpnac
open Go.RowKit G
/-- Asking with so much left. -/
def SaysH (ds : List Df) (X : List ByteArray) (ra : Nat) (v0 : Value) (l : Nat) : Prop := ∀ (L : Nat), L ≤ l → ∀ (x : Xp) (deep i j : Nat) (vx vt : Value) (w : World), XcV w (Oth ra) vx x → x.gd → TxV w (Oth ra) vt X i j → AsS w ra v0 L → DcV w (Oth ra) v0 ds → deep ≤ 1000000 →
  Calls Try.prog 32 #[.pointer (some ⟨ra, 0, none⟩), vx, vt, .int .i64 (deep : Int)] w (OutS w ra v0 L (SaD (nms ds) X (ds.map Df.e) deep x i j))
set_option maxRecDepth 100000 in
set_option maxHeartbeats 8000000 in
theorem says1 (ds : List Df) (X : List ByteArray) (ra : Nat) (v0 : Value) (l d i j : Nat) (IH : SaysH ds X ra v0 l) (x : Xp) (vx vt : Value) (w : World) (hx : XcV w (Oth ra) vx x) (_hg : x.gd) (ht : TxV w (Oth ra) vt X i j) (hs : AsS w ra v0 (l + 1)) (hds : DcV w (Oth ra) v0 ds) (_h60 : ds.length ≤ 60) (_hgd : ∀ e ∈ ds, e.e.gd) (hl6 : l + 1 ≤ 1000000) (hd6 : d + 1 ≤ 1000000) (h1 : x.op = 1):
    Calls Try.prog 32 #[.pointer (some ⟨ra, 0, none⟩), vx, vt, .int .i64 ((d : Int) + 1)] w (OutS w ra v0 (l + 1) (SaD (nms ds) X (ds.map Df.e) (d + 1) x i j)) := by
  have H1 := hd h1
  clear h1
  obtain ⟨u, rfl, hu⟩ := hx
  obtain ⟨ak, ck, rfl, hck⟩ := hu.slice
  obtain ⟨av, ct, rfl, hct⟩ := ht.slice
  have hul := hu.1
  have hij := ht.1
  have hjX := ht.2.1
  have hX6 := ht.2.2.1
  obtain ⟨hdl, ad, cd, rfl, hdin⟩ := id hds
  obtain ⟨W0, hW0⟩ : ∃ W0, W0 = (w.alloc (.cells #[.int .i64 x.op, .string x.nm, .slice ak x.kids.len ck] 64)).alloc (.cells #[.slice ad ds.length cd] 42) := ⟨_, rfl⟩
  have kW0 : Below w.heap.size w W0 := by rw [hW0]; exact G.al2 _ _ _
  have hra : ra < w.heap.size := G.lt_of_cell hs.c0
  have s0 := hs.lw kW0
  obtain ⟨V, hV⟩ : ∃ V, V = w.setCell ⟨ra, 1, none⟩ (.int .i64 (l : Int)) := ⟨_, rfl⟩
  have zV : V.heap.size = w.heap.size := by rw [hV]; simp
  obtain ⟨W, hW⟩ : ∃ W, W = (V.alloc (.cells #[.int .i64 x.op, .string x.nm, .slice ak x.kids.len ck] 64)).alloc (.cells #[.slice ad ds.length cd] 42) := ⟨_, rfl⟩
  have kVW : Below V.heap.size V W := by rw [hW]; exact G.al2 _ _ _
  have sW : AsS W ra (.slice ad ds.length cd) l := AsS.lw (by rw [hV]; exact hs.set l) kVW
  have bW : But ra w W := But.trans (by rw [hV]; exact (But.refl ra w).setCell (p := ⟨ra, 1, none⟩) (.inl rfl) _) (But.of_below kVW)
  have x0 : W.cell? ⟨w.heap.size, 0, none⟩ = some (.int .i64 x.op) := by rw [hW, ← zV]; simp
  have x1 : W.cell? ⟨w.heap.size, 1, none⟩ = some (.string x.nm) := by rw [hW, ← zV]; simp
  have x2 : W.cell? ⟨w.heap.size, 2, none⟩ = some (.slice ak x.kids.len ck) := by rw [hW, ← zV]; simp
  have t0 : W.cell? ⟨w.heap.size + 1, 0, none⟩ = some (.slice ad ds.length cd) := by rw [hW, ← zV]; simp
  have zW : W.heap.size = w.heap.size + 2 := by rw [hW, ← zV]; simp
  have uW := hu.kp bW.kp (fun _ _ h => h)
  have tW := ht.kp bW.kp (fun _ _ h => h)
  have dW := hds.kp bW.kp (fun _ _ h => h)
  have q0 := G.alcell hs.c0 (.cells #[.int .i64 x.op, .string x.nm, .slice ak x.kids.len ck] 64)
  have q1 : ((w.alloc (.cells #[.int .i64 x.op, .string x.nm, .slice ak x.kids.len ck] 64)).alloc (.cells #[.slice ad ds.length cd] 42)).cell? ⟨ra, 1, none⟩ = some (.int .i64 ((l : Int) + 1)) := by rw [← hW0]; simpa using s0.c1
  have qf : ((w.alloc (.cells #[.int .i64 x.op, .string x.nm, .slice ak x.kids.len ck] 64)).alloc (.cells #[.slice ad ds.length cd] 42)).frozen? ⟨ra, 1, none⟩ = false := by rw [← hW0]; exact s0.fz
  have hl1 : ((l : Int) + 1 == 0) = false := by simp; omega
  have hd1 : ((d : Int) + 1 == 0) = false := by simp; omega
  clear hu ht kW0 s0
  generalize hN : nms ds = N at *
  go_enter Try.func32, Try.ntmps32
  go_upto_region 5 with fail
  rw [← hV, ← hW]
  clear hW0 hV hW q0 q1 qf zV kVW
  have h1 := H1.out
  have hb1 : (x.op == 1) = true := by simpa using h1
  have HP := hd (SaD_one (N := N) (X := X) (E := ds.map Df.e) (d := d) (i := i) (j := j) h1)
  clear h1
  by_cases h2 : j - i = 1
  · obtain ⟨_, _, _, ao', cap', e', _, _, h6⟩ := tW
    simp at e'
    obtain ⟨rfl, rfl⟩ := e'
    rcases h6 with h6 | ⟨b, o, rfl, hob, hc⟩
    · omega
    obtain ⟨nm, hnm, c0⟩ := hc 0 (by omega)
    rw [Nat.add_zero] at hnm
    simp only [Nat.add_zero] at c0
    have h2b : (((j - i : Nat) : Int) == 1) = true := by rw [h2]; rfl
    have HP2 : Hid (SaD N X (ds.map Df.e) (d + 1) x i j ↔ nm = x.nm) := hd (by
      rw [HP.out, hnm]
      simp
      omega)
    rw [h2] at h2b ⊢
    by_cases hq : nm = x.nm
    · have hqb : (nm.toList == x.nm.toList) = true := by rw [beq_str]; simpa using hq
      have HQ := hd hq
      clear hq hc
      go_wp2_with fail
      go_quiet (fail)
      go_wp2_with fail
      go_ret
      exact ⟨true, l, rfl, by omega, sW.lw (drwN _ _), bW.drewN _, fun _ => by rw [HP2.out]; simpa using HQ.out⟩
    · have hqb : (nm.toList == x.nm.toList) = false := by rw [beq_str]; simpa using hq
      have HQ := hd hq
      clear hq hc
      go_wp2_with fail
      go_quiet (fail)
      go_wp2_with fail
      go_ret
      exact ⟨false, l, rfl, by omega, sW.lw (drwN _ _), bW.drewN _, fun _ => by rw [HP2.out]; simpa using HQ.out⟩
  · have h2b : (((j - i : Nat) : Int) == 1) = false := by simp; omega
    have HP2 : Hid (¬ SaD N X (ds.map Df.e) (d + 1) x i j) := hd (fun h => by have := (HP.out.1 h).1; omega)
    have HH := hd h2
    clear h2
    go_wp2_with fail
    go_quiet (fail)
    go_wp2_with fail
    go_ret
    exact ⟨false, l, rfl, by omega, sW.lw (drwN _ _), bW.drewN _, fun _ => by simpa using HP2.out⟩
set_option maxRecDepth 100000 in
set_option maxHeartbeats 8000000 in
theorem says5 (ds : List Df) (X : List ByteArray) (ra : Nat) (v0 : Value) (l d i j : Nat) (IH : SaysH ds X ra v0 l) (x : Xp) (vx vt : Value) (w : World) (hx : XcV w (Oth ra) vx x) (hg : x.gd) (ht : TxV w (Oth ra) vt X i j) (hs : AsS w ra v0 (l + 1)) (hds : DcV w (Oth ra) v0 ds) (_h60 : ds.length ≤ 60) (_hgd : ∀ e ∈ ds, e.e.gd) (hl6 : l + 1 ≤ 1000000) (hd6 : d + 1 ≤ 1000000) (h1 : x.op = 5):
    Calls Try.prog 32 #[.pointer (some ⟨ra, 0, none⟩), vx, vt, .int .i64 ((d : Int) + 1)] w (OutS w ra v0 (l + 1) (SaD (nms ds) X (ds.map Df.e) (d + 1) x i j)) := by
  have hk0 := hg.1 (.inl h1)
  have H1 := hd h1
  clear h1
  obtain ⟨u, rfl, hu⟩ := hx
  obtain ⟨ak, ck, rfl, hck⟩ := hu.slice
  obtain ⟨av, ct, rfl, hct⟩ := ht.slice
  have hul := hu.1
  have hij := ht.1
  have hjX := ht.2.1
  have hX6 := ht.2.2.1
  obtain ⟨hdl, ad, cd, rfl, hdin⟩ := id hds
  obtain ⟨W0, hW0⟩ : ∃ W0, W0 = (w.alloc (.cells #[.int .i64 x.op, .string x.nm, .slice ak x.kids.len ck] 64)).alloc (.cells #[.slice ad ds.length cd] 42) := ⟨_, rfl⟩
  have kW0 : Below w.heap.size w W0 := by rw [hW0]; exact G.al2 _ _ _
  have hra : ra < w.heap.size := G.lt_of_cell hs.c0
  have s0 := hs.lw kW0
  obtain ⟨V, hV⟩ : ∃ V, V = w.setCell ⟨ra, 1, none⟩ (.int .i64 (l : Int)) := ⟨_, rfl⟩
  have zV : V.heap.size = w.heap.size := by rw [hV]; simp
  obtain ⟨W, hW⟩ : ∃ W, W = (V.alloc (.cells #[.int .i64 x.op, .string x.nm, .slice ak x.kids.len ck] 64)).alloc (.cells #[.slice ad ds.length cd] 42) := ⟨_, rfl⟩
  have kVW : Below V.heap.size V W := by rw [hW]; exact G.al2 _ _ _
  have sW : AsS W ra (.slice ad ds.length cd) l := AsS.lw (by rw [hV]; exact hs.set l) kVW
  have bW : But ra w W := But.trans (by rw [hV]; exact (But.refl ra w).setCell (p := ⟨ra, 1, none⟩) (.inl rfl) _) (But.of_below kVW)
  have x0 : W.cell? ⟨w.heap.size, 0, none⟩ = some (.int .i64 x.op) := by rw [hW, ← zV]; simp
  have x1 : W.cell? ⟨w.heap.size, 1, none⟩ = some (.string x.nm) := by rw [hW, ← zV]; simp
  have x2 : W.cell? ⟨w.heap.size, 2, none⟩ = some (.slice ak x.kids.len ck) := by rw [hW, ← zV]; simp
  have t0 : W.cell? ⟨w.heap.size + 1, 0, none⟩ = some (.slice ad ds.length cd) := by rw [hW, ← zV]; simp
  have zW : W.heap.size = w.heap.size + 2 := by rw [hW, ← zV]; simp
  have uW := hu.kp bW.kp (fun _ _ h => h)
  have tW := ht.kp bW.kp (fun _ _ h => h)
  have dW := hds.kp bW.kp (fun _ _ h => h)
  have q0 := G.alcell hs.c0 (.cells #[.int .i64 x.op, .string x.nm, .slice ak x.kids.len ck] 64)
  have q1 : ((w.alloc (.cells #[.int .i64 x.op, .string x.nm, .slice ak x.kids.len ck] 64)).alloc (.cells #[.slice ad ds.length cd] 42)).cell? ⟨ra, 1, none⟩ = some (.int .i64 ((l : Int) + 1)) := by rw [← hW0]; simpa using s0.c1
  have qf : ((w.alloc (.cells #[.int .i64 x.op, .string x.nm, .slice ak x.kids.len ck] 64)).alloc (.cells #[.slice ad ds.length cd] 42)).frozen? ⟨ra, 1, none⟩ = false := by rw [← hW0]; exact s0.fz
  have hl1 : ((l : Int) + 1 == 0) = false := by simp; omega
  have hd1 : ((d : Int) + 1 == 0) = false := by simp; omega
  clear hu ht kW0 s0
  generalize hN : nms ds = N at *
  go_enter Try.func32, Try.ntmps32
  go_upto_region 5 with fail
  rw [← hV, ← hW]
  clear hW0 hV hW q0 q1 qf zV kVW
  have h1 := H1.out
  have hb1 : (x.op == 1) = false := by simp; omega
  have hb2 : (x.op == 2) = false := by simp; omega
  have hb4 : (x.op == 4) = false := by simp; omega
  have hb5 : (x.op == 5) = true := by simpa using h1
  have HP := hd (SaD_opt (N := N) (X := X) (E := ds.map Df.e) (d := d) (i := i) (j := j) h1 hk0)
  clear h1
  by_cases h2 : j - i = 0
  · have h2b : (((j - i : Nat) : Int) == 0) = true := by rw [h2]; rfl
    have HP2 : Hid (SaD N X (ds.map Df.e) (d + 1) x i j) := hd (HP.out.2 (.inl (by omega)))
    have HH := hd h2
    clear h2
    go_wp2_with fail
    go_ret
    exact ⟨true, l, rfl, by omega, sW, bW, fun _ => by simpa using HP2.out⟩
  · have h2b : (((j - i : Nat) : Int) == 0) = false := by simp; omega
    have HP2 : Hid (SaD N X (ds.map Df.e) (d + 1) x i j ↔ SaD N X (ds.map Df.e) (d + 1) (x.kids.at_ 0) i j) := hd (by rw [HP.out]; constructor; rintro (h | h); omega; exact h; exact .inr)
    obtain ⟨b, o, rfl, hob, c0, c1, aq, cq, c2, hq⟩ := uW.at_ (k := 0) (by omega)
    simp only [Nat.zero_mul, Nat.add_zero] at c0 c1 c2
    have hn0 : (0 : Int) < (x.kids.len : Int) := by omega
    have IA := IH l (Nat.le_refl _) (x.kids.at_ 0) (d + 1) i j _ _ W ⟨_, rfl, hq⟩ (hg.2.at_ (by omega)) tW sW dW hd6
    rw [hN] at IA
    have HH := hd h2
    clear h2
    go_wp2_with fail
    refine IA.mono ?_
    rintro e w1 ⟨r, L1, rfl, hL1, s1, b1, h1⟩
    have HR := hd h1
    clear h1
    go_wp2_with fail
    go_ret
    exact ⟨r, L1, rfl, by omega, s1, bW.trans b1, fun h => (HR.out h).trans HP2.out.symm⟩
set_option maxRecDepth 100000 in
set_option maxHeartbeats 8000000 in
theorem says4 (ds : List Df) (X : List ByteArray) (ra : Nat) (v0 : Value) (l d i j : Nat) (IH : SaysH ds X ra v0 l) (x : Xp) (vx vt : Value) (w : World) (hx : XcV w (Oth ra) vx x) (hg : x.gd) (ht : TxV w (Oth ra) vt X i j) (hs : AsS w ra v0 (l + 1)) (hds : DcV w (Oth ra) v0 ds) (_h60 : ds.length ≤ 60) (_hgd : ∀ e ∈ ds, e.e.gd) (hl6 : l + 1 ≤ 1000000) (hd6 : d + 1 ≤ 1000000) (h1 : x.op = 4):
    Calls Try.prog 32 #[.pointer (some ⟨ra, 0, none⟩), vx, vt, .int .i64 ((d : Int) + 1)] w (OutS w ra v0 (l + 1) (SaD (nms ds) X (ds.map Df.e) (d + 1) x i j)) := by
  have H1 := hd h1
  clear h1
  obtain ⟨u, rfl, hu⟩ := hx
  obtain ⟨ak, ck, rfl, hck⟩ := hu.slice
  obtain ⟨av, ct, rfl, hct⟩ := ht.slice
  have hul := hu.1
  have hij := ht.1
  have hjX := ht.2.1
  have hX6 := ht.2.2.1
  obtain ⟨hdl, ad, cd, rfl, hdin⟩ := id hds
  obtain ⟨W0, hW0⟩ : ∃ W0, W0 = (w.alloc (.cells #[.int .i64 x.op, .string x.nm, .slice ak x.kids.len ck] 64)).alloc (.cells #[.slice ad ds.length cd] 42) := ⟨_, rfl⟩
  have kW0 : Below w.heap.size w W0 := by rw [hW0]; exact G.al2 _ _ _
  have hra : ra < w.heap.size := G.lt_of_cell hs.c0
  have s0 := hs.lw kW0
  obtain ⟨V, hV⟩ : ∃ V, V = w.setCell ⟨ra, 1, none⟩ (.int .i64 (l : Int)) := ⟨_, rfl⟩
  have zV : V.heap.size = w.heap.size := by rw [hV]; simp
  obtain ⟨W, hW⟩ : ∃ W, W = (V.alloc (.cells #[.int .i64 x.op, .string x.nm, .slice ak x.kids.len ck] 64)).alloc (.cells #[.slice ad ds.length cd] 42) := ⟨_, rfl⟩
  have kVW : Below V.heap.size V W := by rw [hW]; exact G.al2 _ _ _
  have sW : AsS W ra (.slice ad ds.length cd) l := AsS.lw (by rw [hV]; exact hs.set l) kVW
  have bW : But ra w W := But.trans (by rw [hV]; exact (But.refl ra w).setCell (p := ⟨ra, 1, none⟩) (.inl rfl) _) (But.of_below kVW)
  have x0 : W.cell? ⟨w.heap.size, 0, none⟩ = some (.int .i64 x.op) := by rw [hW, ← zV]; simp
  have x1 : W.cell? ⟨w.heap.size, 1, none⟩ = some (.string x.nm) := by rw [hW, ← zV]; simp
  have x2 : W.cell? ⟨w.heap.size, 2, none⟩ = some (.slice ak x.kids.len ck) := by rw [hW, ← zV]; simp
  have t0 : W.cell? ⟨w.heap.size + 1, 0, none⟩ = some (.slice ad ds.length cd) := by rw [hW, ← zV]; simp
  have zW : W.heap.size = w.heap.size + 2 := by rw [hW, ← zV]; simp
  have uW := hu.kp bW.kp (fun _ _ h => h)
  have tW := ht.kp bW.kp (fun _ _ h => h)
  have dW := hds.kp bW.kp (fun _ _ h => h)
  have q0 := G.alcell hs.c0 (.cells #[.int .i64 x.op, .string x.nm, .slice ak x.kids.len ck] 64)
  have q1 : ((w.alloc (.cells #[.int .i64 x.op, .string x.nm, .slice ak x.kids.len ck] 64)).alloc (.cells #[.slice ad ds.length cd] 42)).cell? ⟨ra, 1, none⟩ = some (.int .i64 ((l : Int) + 1)) := by rw [← hW0]; simpa using s0.c1
  have qf : ((w.alloc (.cells #[.int .i64 x.op, .string x.nm, .slice ak x.kids.len ck] 64)).alloc (.cells #[.slice ad ds.length cd] 42)).frozen? ⟨ra, 1, none⟩ = false := by rw [← hW0]; exact s0.fz
  have hl1 : ((l : Int) + 1 == 0) = false := by simp; omega
  have hd1 : ((d : Int) + 1 == 0) = false := by simp; omega
  clear hu ht kW0 s0
  generalize hN : nms ds = N at *
  go_enter Try.func32, Try.ntmps32
  go_upto_region 5 with fail
  rw [← hV, ← hW]
  clear hW0 hV hW q0 q1 qf zV kVW
  have h1 := H1.out
  have hb1 : (x.op == 1) = false := by simp; omega
  have hb2 : (x.op == 2) = false := by simp; omega
  have hb4 : (x.op == 4) = true := by simpa using h1
  have HP := hd (SaD_any (N := N) (X := X) (E := ds.map Df.e) (d := d) (i := i) (j := j) h1)
  clear h1
  have hwr : w.heap.size ≠ ra := by omega
  go_wp2_with fail
  go_loopw [11] (fun q wr => ∃ k Lk : Nat, k ≤ x.kids.len ∧ q = .int .i64 k ∧ Lk ≤ l ∧ AsS wr ra (.slice ad ds.length cd) Lk ∧ But ra W wr ∧ Hid (Lk ≠ 0 → (SaD N X (ds.map Df.e) (d + 1) x i j ↔ (x.kids.drp k).sm N X (dpS N X (ds.map Df.e) d) .any i j))) (fun q _ => x.kids.len - (intOf q).toNat)
  case atStart => exact ⟨0, l, Nat.zero_le _, rfl, Nat.le_refl _, sW, But.refl _ _, hd (fun _ => HP.out)⟩
  case round =>
    obtain ⟨k, Lk, hk, rfl, hLk, sk, bk, hS⟩ := hrel
    have y2 := but_cell bk hwr x2
    by_cases hlt : k < x.kids.len
    · obtain ⟨b, o, rfl, hob, c0, c1, aq, cq, c2, hq⟩ := (uW.kp bk.kp (fun _ _ h => h)).at_ hlt
      have hlt2 : (k : Int) < (x.kids.len : Int) := by omega
      have IA := IH Lk hLk (x.kids.at_ k) (d + 1) i j _ _ wr ⟨_, rfl, hq⟩ (hg.2.at_ hlt) (tW.kp bk.kp (fun _ _ h => h)) sk (dW.kp bk.kp (fun _ _ h => h)) hd6
      rw [hN] at IA
      have HA := hd (any_at (N := N) (X := X) (I := dpS N X (ds.map Df.e) d) (i := i) (j := j) hlt)
      go_wp2_with fail
      refine IA.mono ?_
      rintro e w1 ⟨r, L1, rfl, hL1, s1, b1, h1⟩
      have HR := hd h1
      clear h1
      cases r with
      | true =>
        go_wp2_with fail
        go_ret
        exact ⟨true, L1, rfl, by omega, s1, bW.trans (bk.trans b1), fun h => ⟨fun _ => (hS.out (by omega)).2 (HA.out.2 (.inl ((HR.out h).1 trivial))), fun _ => rfl⟩⟩
      | false =>
        go_wp2_with fail
        go_roundw
        case rel => exact ⟨k + 1, L1, by omega, by go_num, by omega, s1, bk.trans b1, hd (fun h => (hS.out (by omega)).trans (HA.out.trans ⟨fun h' => h'.elim (fun h' => absurd ((HR.out h).2 h') (by simp)) id, .inr⟩))⟩
        case measure => simp [intOf]; omega
    · have HE : Hid (Lk ≠ 0 → ¬ SaD N X (ds.map Df.e) (d + 1) x i j) := hd (fun h h' => any_end (Nat.le_of_not_lt hlt) ((hS.out h).1 h'))
      go_wp2_with fail
      go_ret
      exact ⟨false, Lk, rfl, by omega, sk, bW.trans bk, fun h => by simpa using HE.out h⟩
end Go.Proofs.Ytghplmldnkcpnac
