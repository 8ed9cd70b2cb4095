/- What a grammar has, and what expressions say: of a word, from a place to another. -/
import Derived.Test.YtghplmldnkcpnacL03
namespace Go.Proofs.Ytghplmldnkcpnac
open Go.RowKit G

/-! Grammars. -/
section
variable (W : List Int)
/-- A symbol, from a place to another. -/
def syP (P : Int → Nat → Nat → Prop) (s : Int) (i j : Nat) : Prop := if 0 ≤ s then P s i j else j = i + 1 ∧ W[i]? = some (-1 - s)
/-- Symbols one behind the other. -/
def chP (P : Int → Nat → Nat → Prop) : List Int → Nat → Nat → Prop
  | [], i, j => i = j
  | s :: ss, i, j => ∃ m, i ≤ m ∧ m ≤ j ∧ syP W P s i m ∧ chP P ss m j
/-- By one rule. -/
def stG (R : List Ru) (P : Int → Nat → Nat → Prop) (v : Int) (i j : Nat) : Prop := ∃ r ∈ R, r.left = v ∧ chP W P r.right i j
/-- By trees of so many levels. -/
def itG (R : List Ru) : Nat → Int → Nat → Nat → Prop
  | 0 => fun _ _ _ => False
  | n + 1 => stG W R (itG R n)
def DG (R : List Ru) (v : Int) (i j : Nat) : Prop := ∃ n, itG W R n v i j
variable {W}
theorem syP.mono {P Q : Int → Nat → Nat → Prop} (h : ∀ v i j, P v i j → Q v i j) {s : Int} {i j : Nat} (hs : syP W P s i j) : syP W Q s i j := by
  unfold syP at hs ⊢; split at hs
  · rename_i h0; rw [if_pos h0]; exact h _ _ _ hs
  · rename_i h0; rw [if_neg h0]; exact hs
theorem chP.mono {P Q : Int → Nat → Nat → Prop} (h : ∀ v i j, P v i j → Q v i j) : ∀ {l : List Int} {i j : Nat}, chP W P l i j → chP W Q l i j
  | [], _, _, hc => hc
  | _ :: _, _, _, ⟨m, h1, h2, h3, h4⟩ => ⟨m, h1, h2, h3.mono h, chP.mono h h4⟩
theorem chP.le {P : Int → Nat → Nat → Prop} : ∀ {l : List Int} {i j : Nat}, chP W P l i j → i ≤ j
  | [], _, _, hc => Nat.le_of_eq hc
  | _ :: _, _, _, ⟨_, h1, h2, _, _⟩ => Nat.le_trans h1 h2
theorem chP_app {P : Int → Nat → Nat → Prop} : ∀ {l l' : List Int} {i j : Nat}, chP W P (l ++ l') i j ↔ ∃ m, chP W P l i m ∧ chP W P l' m j
  | [], l', i, j => ⟨fun h => ⟨i, rfl, h⟩, fun ⟨m, h1, h2⟩ => by have h1 : i = m := h1; subst h1; exact h2⟩
  | s :: l, l', i, j => by
    constructor
    · rintro ⟨m, h1, h2, h3, h4⟩
      obtain ⟨k, h5, h6⟩ := chP_app.1 h4
      exact ⟨k, ⟨m, h1, h5.le, h3, h5⟩, h6⟩
    · rintro ⟨k, ⟨m, h1, h2, h3, h4⟩, h6⟩
      exact ⟨m, h1, Nat.le_trans h2 h6.le, h3, chP_app.2 ⟨k, h4, h6⟩⟩
theorem chP_one {P : Int → Nat → Nat → Prop} {s : Int} {i j : Nat} : chP W P [s] i j ↔ i ≤ j ∧ syP W P s i j := by
  constructor
  · rintro ⟨m, h1, h2, h3, h4⟩
    have h4 : m = j := h4
    subst h4; exact ⟨h1, h3⟩
  · rintro ⟨h1, h2⟩
    exact ⟨j, h1, Nat.le_refl _, h2, rfl⟩
theorem itG_succ {R : List Ru} : ∀ (n : Nat) (v : Int) (i j : Nat), itG W R n v i j → itG W R (n + 1) v i j
  | 0, _, _, _, h => h.elim
  | n + 1, _, _, _, ⟨r, h1, h2, h3⟩ => ⟨r, h1, h2, h3.mono (itG_succ n)⟩
theorem itG_mono {R : List Ru} {n m : Nat} (h : n ≤ m) {v : Int} {i j : Nat} (hi : itG W R n v i j) : itG W R m v i j := by
  induction h with
  | refl => exact hi
  | step _ ih => exact itG_succ _ _ _ _ ih
theorem syP_lim {R : List Ru} {s : Int} {i j : Nat} (h : syP W (DG W R) s i j) : ∃ n, syP W (itG W R n) s i j := by
  unfold syP at h
  split at h
  · rename_i h0; obtain ⟨n, h⟩ := h; exact ⟨n, by unfold syP; rw [if_pos h0]; exact h⟩
  · rename_i h0; exact ⟨0, by unfold syP; rw [if_neg h0]; exact h⟩
theorem chP_lim {R : List Ru} : ∀ {l : List Int} {i j : Nat}, chP W (DG W R) l i j → ∃ n, chP W (itG W R n) l i j
  | [], _, _, h => ⟨0, h⟩
  | _ :: _, _, _, ⟨m, h1, h2, h3, h4⟩ => by
    obtain ⟨n1, h3⟩ := syP_lim h3
    obtain ⟨n2, h4⟩ := chP_lim h4
    exact ⟨max n1 n2, m, h1, h2, h3.mono fun _ _ _ => itG_mono (Nat.le_max_left _ _), h4.mono fun _ _ _ => itG_mono (Nat.le_max_right _ _)⟩
theorem DG_of {R : List Ru} {v : Int} {i j : Nat} (h : stG W R (DG W R) v i j) : DG W R v i j := by
  obtain ⟨r, h1, h2, h3⟩ := h
  obtain ⟨n, h3⟩ := chP_lim h3
  exact ⟨n + 1, r, h1, h2, h3⟩
theorem DG.le {R : List Ru} {v : Int} {i j : Nat} (h : DG W R v i j) : i ≤ j := by
  obtain ⟨n, h⟩ := h
  cases n with
  | zero => exact h.elim
  | succ n => obtain ⟨r, _, _, h⟩ := h; exact h.le
end

/-! Expressions. -/
inductive StP (Q : Nat → Nat → Prop) : Nat → Nat → Prop
  | nil (i : Nat) : StP Q i i
  | cons {i m j : Nat} : i < m → m ≤ j → Q i m → StP Q m j → StP Q i j
theorem StP.mono {Q Q' : Nat → Nat → Prop} (h : ∀ i j, Q i j → Q' i j) {i j : Nat} (hs : StP Q i j) : StP Q' i j := by
  induction hs with
  | nil => exact .nil _
  | cons a b c _ ih => exact .cons a b (h _ _ c) ih
theorem StP.le {Q : Nat → Nat → Prop} {i j : Nat} (hs : StP Q i j) : i ≤ j := by
  induction hs with
  | nil => exact Nat.le_refl _
  | cons a b _ _ _ => omega
/-- Once or more. -/
def PlP (Q : Nat → Nat → Prop) (i j : Nat) : Prop := (i = j ∧ Q i j) ∨ ∃ m, i < m ∧ m ≤ j ∧ Q i m ∧ (m = j ∨ StP Q m j)
theorem PlP.mono {Q Q' : Nat → Nat → Prop} (h : ∀ i j, Q i j → Q' i j) {i j : Nat} (hs : PlP Q i j) : PlP Q' i j :=
  hs.imp (fun ⟨a, b⟩ => ⟨a, h _ _ b⟩) fun ⟨m, a, b, c, d⟩ => ⟨m, a, b, h _ _ c, d.imp id fun e => e.mono h⟩
inductive SMd where
  | row
  | any
  | fst
section
variable (N : List ByteArray) (X : List ByteArray)
/-- What an expression says, by what its parts do. -/
def xsP (I : Int → Nat → Nat → Prop) (op : Int) (nm : ByteArray) (K : SMd → Nat → Nat → Prop) (i j : Nat) : Prop :=
  if op = 1 then j = i + 1 ∧ X[i]? = some nm else if op = 2 then I (whr N nm) i j else if op = 4 then K .any i j
  else if op = 5 then i = j ∨ K .fst i j else if op = 6 then StP (K .fst) i j else if op = 7 then PlP (K .fst) i j else K .row i j
def Fo.sm (I : Int → Nat → Nat → Prop) : Fo → SMd → Nat → Nat → Prop
  | .nil, .row, i, j => i = j
  | .nil, .any, _, _ => False
  | .nil, .fst, _, _ => False
  | .cons op nm kids rest, .row, i, j => ∃ m, i ≤ m ∧ m ≤ j ∧ xsP N X I op nm (kids.sm I) i m ∧ rest.sm I .row m j
  | .cons op nm kids rest, .any, i, j => xsP N X I op nm (kids.sm I) i j ∨ rest.sm I .any i j
  | .cons op nm kids _, .fst, i, j => xsP N X I op nm (kids.sm I) i j
def Xp.sa (I : Int → Nat → Nat → Prop) (x : Xp) (i j : Nat) : Prop := xsP N X I x.op x.nm (x.kids.sm N X I) i j
variable {N X}
theorem xsP_mono {I I' : Int → Nat → Nat → Prop} {K K' : SMd → Nat → Nat → Prop} (hI : ∀ v i j, I v i j → I' v i j) (hK : ∀ m i j, K m i j → K' m i j) {op : Int} {nm : ByteArray} {i j : Nat} (h : xsP N X I op nm K i j) : xsP N X I' op nm K' i j := by
  unfold xsP at h ⊢
  split
  · rename_i h0; rw [if_pos h0] at h; exact h
  rename_i h0; rw [if_neg h0] at h
  split
  · rename_i h0; rw [if_pos h0] at h; exact hI _ _ _ h
  rename_i h0; rw [if_neg h0] at h
  split
  · rename_i h0; rw [if_pos h0] at h; exact hK _ _ _ h
  rename_i h0; rw [if_neg h0] at h
  split
  · rename_i h0; rw [if_pos h0] at h; exact h.imp id (hK _ _ _)
  rename_i h0; rw [if_neg h0] at h
  split
  · rename_i h0; rw [if_pos h0] at h; exact h.mono (hK _)
  rename_i h0; rw [if_neg h0] at h
  split
  · rename_i h0; rw [if_pos h0] at h; exact h.mono (hK _)
  rename_i h0; rw [if_neg h0] at h
  exact hK _ _ _ h
theorem Fo.sm_mono {I I' : Int → Nat → Nat → Prop} (hI : ∀ v i j, I v i j → I' v i j) : ∀ (f : Fo) (m : SMd) (i j : Nat), f.sm N X I m i j → f.sm N X I' m i j
  | .nil, .row, _, _, h => by unfold Fo.sm at h ⊢; exact h
  | .nil, .any, _, _, h => by unfold Fo.sm at h; exact h.elim
  | .nil, .fst, _, _, h => by unfold Fo.sm at h; exact h.elim
  | .cons op nm kids rest, .row, i, j, h => by
    unfold Fo.sm at h ⊢
    obtain ⟨m, h1, h2, h3, h4⟩ := h
    exact ⟨m, h1, h2, xsP_mono hI (Fo.sm_mono hI kids) h3, Fo.sm_mono hI rest .row _ _ h4⟩
  | .cons op nm kids rest, .any, i, j, h => by
    unfold Fo.sm at h ⊢
    exact h.imp (xsP_mono hI (Fo.sm_mono hI kids)) (Fo.sm_mono hI rest .any _ _)
  | .cons op nm kids rest, .fst, i, j, h => by
    unfold Fo.sm at h ⊢
    exact xsP_mono hI (Fo.sm_mono hI kids) h
theorem Xp.sa_mono {I I' : Int → Nat → Nat → Prop} (hI : ∀ v i j, I v i j → I' v i j) {x : Xp} {i j : Nat} (h : x.sa N X I i j) : x.sa N X I' i j := xsP_mono hI (Fo.sm_mono hI x.kids) h
/-! Only what lies between counts. -/
theorem StP.local {Q Q' : Nat → Nat → Prop} {i j : Nat} (hs : StP Q i j) (h : ∀ a b, i ≤ a → a ≤ b → b ≤ j → Q a b → Q' a b) : StP Q' i j := by
  induction hs with
  | nil => exact .nil _
  | cons a b c _ ih => exact .cons a b (h _ _ (Nat.le_refl _) (by omega) b c) (ih fun x y hx hxy hy => h x y (by omega) hxy hy)
theorem xsP_local {I I' : Int → Nat → Nat → Prop} {K K' : SMd → Nat → Nat → Prop} {i j : Nat} (hij : i ≤ j) (hI : ∀ v a b, i ≤ a → a ≤ b → b ≤ j → I v a b → I' v a b) (hK : ∀ m a b, i ≤ a → a ≤ b → b ≤ j → K m a b → K' m a b) {op : Int} {nm : ByteArray} (h : xsP N X I op nm K i j) : xsP N X I' op nm K' i j := by
  unfold xsP at h ⊢
  split
  · rename_i h0; rw [if_pos h0] at h; exact h
  rename_i h0; rw [if_neg h0] at h
  split
  · rename_i h0; rw [if_pos h0] at h; exact hI _ _ _ (Nat.le_refl _) hij (Nat.le_refl _) h
  rename_i h0; rw [if_neg h0] at h
  split
  · rename_i h0; rw [if_pos h0] at h; exact hK _ _ _ (Nat.le_refl _) hij (Nat.le_refl _) h
  rename_i h0; rw [if_neg h0] at h
  split
  · rename_i h0; rw [if_pos h0] at h; exact h.imp id (hK _ _ _ (Nat.le_refl _) hij (Nat.le_refl _))
  rename_i h0; rw [if_neg h0] at h
  split
  · rename_i h0; rw [if_pos h0] at h; exact h.local (hK _)
  rename_i h0; rw [if_neg h0] at h
  split
  · rename_i h0; rw [if_pos h0] at h
    refine h.imp (fun ⟨a, b⟩ => ⟨a, hK _ _ _ (Nat.le_refl _) hij (Nat.le_refl _) b⟩) fun ⟨m, a, b, c, d⟩ => ⟨m, a, b, hK _ _ _ (Nat.le_refl _) (by omega) b c, d.imp id fun e => e.local fun x y hx hxy hy => hK _ x y (by omega) hxy hy⟩
  rename_i h0; rw [if_neg h0] at h
  exact hK _ _ _ (Nat.le_refl _) hij (Nat.le_refl _) h
theorem Fo.sm_local {I I' : Int → Nat → Nat → Prop} : ∀ (f : Fo) (m : SMd) (i j : Nat), i ≤ j → (∀ v a b, i ≤ a → a ≤ b → b ≤ j → I v a b → I' v a b) → f.sm N X I m i j → f.sm N X I' m i j
  | .nil, .row, _, _, _, _, h => by unfold Fo.sm at h ⊢; exact h
  | .nil, .any, _, _, _, _, h => by unfold Fo.sm at h; exact h.elim
  | .nil, .fst, _, _, _, _, h => by unfold Fo.sm at h; exact h.elim
  | .cons op nm kids rest, .row, i, j, hij, hI, h => by
    unfold Fo.sm at h ⊢
    obtain ⟨m, h1, h2, h3, h4⟩ := h
    exact ⟨m, h1, h2, xsP_local h1 (fun v a b x y z => hI v a b x y (by omega)) (fun q a b x y z => Fo.sm_local kids q a b y fun v c d u1 u2 u3 => hI v c d (by omega) u2 (by omega)) h3, Fo.sm_local rest .row _ _ h2 (fun v a b x y z => hI v a b (by omega) y z) h4⟩
  | .cons op nm kids rest, .any, i, j, hij, hI, h => by
    unfold Fo.sm at h ⊢
    exact h.imp (xsP_local hij hI fun q a b x y z => Fo.sm_local kids q a b y fun v c d u1 u2 u3 => hI v c d (by omega) u2 (by omega)) (Fo.sm_local rest .any _ _ hij hI)
  | .cons op nm kids rest, .fst, i, j, hij, hI, h => by
    unfold Fo.sm at h ⊢
    exact xsP_local hij hI (fun q a b x y z => Fo.sm_local kids q a b y fun v c d u1 u2 u3 => hI v c d (by omega) u2 (by omega)) h
theorem Xp.sa_local {I I' : Int → Nat → Nat → Prop} {x : Xp} {i j : Nat} (hij : i ≤ j) (hI : ∀ v a b, i ≤ a → a ≤ b → b ≤ j → I v a b → I' v a b) (h : x.sa N X I i j) : x.sa N X I' i j :=
  xsP_local hij hI (fun q a b x' y z => Fo.sm_local x.kids q a b y fun v c d u1 u2 u3 => hI v c d (by omega) u2 (by omega)) h
/-- The ways of an expression, together, say what it says. -/
theorem ways_any_sa {I : Int → Nat → Nat → Prop} {x : Xp} {i j : Nat} : x.ways.sm N X I .any i j ↔ x.sa N X I i j := by
  unfold Xp.ways
  split
  · rename_i h4
    unfold Xp.sa xsP
    rw [if_neg (by omega), if_neg (by omega), if_pos h4]
  · unfold Fo.sm
    constructor
    · rintro (h | h)
      · exact h
      · unfold Fo.sm at h; exact h.elim
    · exact fun h => .inl h
end

/-! Names by their definitions, no deeper than so often. -/
section
variable (N X : List ByteArray) (E : List Xp)
def dpS : Nat → Int → Nat → Nat → Prop
  | 0 => fun _ _ _ => False
  | n + 1 => fun k i j => ∃ x, E[k.toNat]? = some x ∧ 0 ≤ k ∧ x.sa N X (dpS n) i j
variable {N X E}
theorem dpS_succ : ∀ (n : Nat) (k : Int) (i j : Nat), dpS N X E n k i j → dpS N X E (n + 1) k i j
  | 0, _, _, _, h => h.elim
  | n + 1, _, _, _, ⟨x, h1, h2, h3⟩ => ⟨x, h1, h2, Xp.sa_mono (dpS_succ n) h3⟩
theorem dpS_mono {n m : Nat} (h : n ≤ m) {k : Int} {i j : Nat} (hi : dpS N X E n k i j) : dpS N X E m k i j := by
  induction h with
  | refl => exact hi
  | step _ ih => exact dpS_succ _ _ _ _ ih
/-- A set of numbers below D that only grows, by steps that are told by itself, has grown after D steps. -/
theorem grown_by (D : Nat) (Q : Nat → Nat → Prop) (hm : ∀ n k, Q n k → Q (n + 1) k) (hD : ∀ n k, Q n k → k < D) (hs : ∀ n, (∀ k, Q (n + 1) k → Q n k) → ∀ k, Q (n + 2) k → Q (n + 1) k) : ∀ n k, Q n k → Q D k := by
  classical
  have hmono : ∀ {n m}, n ≤ m → ∀ k, Q n k → Q m k := fun h => by
    induction h with
    | refl => exact fun _ h => h
    | step _ ih => exact fun k hk => hm _ k (ih k hk)
  have stable : ∀ n, (∀ k, Q (n + 1) k → Q n k) → ∀ t k, Q (n + t) k → Q n k := fun n h t => by
    have all : ∀ s, ∀ k, Q (n + s + 1) k → Q (n + s) k := fun s => by
      induction s with
      | zero => exact h
      | succ s ih => exact hs _ ih
    induction t with
    | zero => exact fun _ h => h
    | succ t ih => exact fun k hk => ih k (all t k hk)
  let c := fun n => ((List.range D).filter fun k => decide (Q n k)).length
  have step : ∀ n, (∀ k, Q (n + 1) k → Q n k) ∨ c n + 1 ≤ c (n + 1) := fun n => by
    by_cases h : ∀ k, Q (n + 1) k → Q n k
    · exact .inl h
    · right
      obtain ⟨k, hk⟩ := Classical.not_forall.1 h
      obtain ⟨h1, h2⟩ := Classical.not_imp.1 hk
      have hsub : ((List.range D).filter fun k => decide (Q n k)) = ((List.range D).filter fun k => decide (Q (n + 1) k)).filter fun k => decide (Q n k) := by
        rw [List.filter_filter]
        congr 1
        funext a
        by_cases ha : Q n a
        · simp [ha, hm n a ha]
        · simp [ha]
      show _ + 1 ≤ _
      have := List.length_filter_lt_length_iff_exists (p := fun k => decide (Q n k)) (l := (List.range D).filter fun k => decide (Q (n + 1) k))
      have h3 := this.2 ⟨k, List.mem_filter.2 ⟨List.mem_range.2 (hD _ _ h1), by simpa using h1⟩, by simpa using h2⟩
      show c n + 1 ≤ c (n + 1)
      have e : c n = (((List.range D).filter fun k => decide (Q (n + 1) k)).filter fun k => decide (Q n k)).length := by show List.length _ = _; rw [hsub]
      rw [e]; exact h3
  have hc : ∀ n, c n ≤ D := fun n => by
    have := List.length_filter_le (fun k => decide (Q n k)) (List.range D)
    simpa using this
  have key : ∀ n, (∃ m, m ≤ n ∧ ∀ k, Q (m + 1) k → Q m k) ∨ n ≤ c n := fun n => by
    induction n with
    | zero => exact .inr (Nat.zero_le _)
    | succ n ih =>
      rcases ih with ⟨m, h1, h2⟩ | h
      · exact .inl ⟨m, by omega, h2⟩
      · rcases step n with h' | h'
        · exact .inl ⟨n, by omega, h'⟩
        · exact .inr (by omega)
  intro n k hk
  rcases key (D + 1) with ⟨m, h1, h2⟩ | h
  · rcases Nat.lt_or_ge m (D + 1) with hlt | hge
    · exact hmono (by omega) k (stable m h2 n k (hmono (by omega) k hk))
    · rcases key D with ⟨m', h1', h2'⟩ | h'
      · exact hmono (by omega) k (stable m' h2' n k (hmono (by omega) k hk))
      · rcases step D with hst | hst
        · exact stable D hst n k (hmono (by omega) k hk)
        · have := hc (D + 1); omega
  · have := hc (D + 1); omega
/-- What is said at all is said no deeper than so often. -/
theorem dpS_bound : ∀ (m i j : Nat), j = i + m → ∀ (n : Nat) (k : Int), dpS N X E n k i j → dpS N X E (E.length * (m + 1)) k i j := by
  intro m
  induction m using Nat.strongRecOn with
  | ind m ih =>
    intro i j hj
    have short : ∀ n v a b, i ≤ a → a ≤ b → b ≤ j → ¬ (a = i ∧ b = j) → dpS N X E n v a b → dpS N X E (E.length * m) v a b := fun n v a b h1 h2 h3 h4 h => by
      have := ih (b - a) (by omega) a b (by omega) n v h
      exact dpS_mono (Nat.mul_le_mul_left _ (by omega)) this
    have := grown_by E.length (fun n k => dpS N X E (E.length * m + n) (k : Int) i j) (fun n k h => dpS_succ _ _ _ _ h)
      (fun n k h => by
        cases hn : E.length * m + n with
        | zero => simp only [hn] at h; exact h.elim
        | succ q =>
          simp only [hn] at h
          obtain ⟨x, h1, _⟩ := h
          rcases Nat.lt_or_ge k E.length with hk | hk
          · exact hk
          · rw [List.getElem?_eq_none (by simpa using hk)] at h1; cases h1)
      (fun n h k hk => by
        obtain ⟨x, h1, h2, h3⟩ := hk
        refine ⟨x, h1, h2, Xp.sa_local (by omega) (fun v a b g1 g2 g3 g4 => ?_) h3⟩
        by_cases e : a = i ∧ b = j
        · obtain ⟨rfl, rfl⟩ := e
          have hv : 0 ≤ v := by obtain ⟨_, _, h, _⟩ := g4; exact h
          have := h v.toNat (by rw [Int.toNat_of_nonneg hv]; exact g4)
          rw [Int.toNat_of_nonneg hv] at this; exact this
        · exact dpS_mono (Nat.le_add_right _ _) (short _ v a b g1 g2 g3 e g4))
    intro n k h
    have hk : 0 ≤ k := by
      cases n with
      | zero => exact h.elim
      | succ n => obtain ⟨_, _, h, _⟩ := h; exact h
    have h2 := this n k.toNat (by
      show dpS N X E (E.length * m + n) _ i j
      rw [Int.toNat_of_nonneg hk]; exact dpS_mono (by omega) h)
    simp only [Int.toNat_of_nonneg hk] at h2
    rw [Nat.mul_succ]; exact h2
end
end Go.Proofs.Ytghplmldnkcpnac
