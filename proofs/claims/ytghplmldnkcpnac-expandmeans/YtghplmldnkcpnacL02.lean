/- Definitions, as plain mathematics: their names, terminals, faults. -/
import Derived.Test.YtghplmldnkcpnacL01
namespace Go.Proofs.Ytghplmldnkcpnac
open Go.RowKit

/-- The names of a kind, from the front. -/
def Fo.nmd (q : Int) : Fo → List ByteArray
  | .nil => []
  | .cons op nm kids rest => ((if op = q then [nm] else []) ++ kids.nmd q) ++ rest.nmd q
def Xp.nmd (q : Int) (x : Xp) : List ByteArray := (if x.op = q then [x.nm] else []) ++ x.kids.nmd q
theorem Fo.nmd_at {f : Fo} {i : Nat} (q : Int) (h : i < f.len) : (f.drp i).nmd q = (f.at_ i).nmd q ++ (f.drp (i + 1)).nmd q := by rw [Fo.drp_at h]; rfl
theorem Fo.nmd_end {f : Fo} {i : Nat} (q : Int) (h : f.len ≤ i) : (f.drp i).nmd q = [] := by rw [Fo.drp_end h]; rfl
theorem Fo.nmd_len (q : Int) : ∀ f : Fo, (f.nmd q).length ≤ f.sz
  | .nil => Nat.le_refl _
  | .cons op nm kids rest => by
    have h1 := Fo.nmd_len q kids
    have h2 := Fo.nmd_len q rest
    simp only [Fo.nmd, Fo.sz, List.length_append]
    split <;> simp <;> omega
theorem Xp.nmd_len (q : Int) (x : Xp) : (x.nmd q).length ≤ x.sz := by
  have h1 := Fo.nmd_len q x.kids
  simp only [Xp.nmd, Xp.sz, List.length_append]
  split <;> simp <;> omega
/-- Is it in the list? -/
def inB (s : ByteArray) : List ByteArray → Bool
  | [] => false
  | a :: l => decide (s = a) || inB s l
theorem inB_iff {s : ByteArray} : ∀ {l : List ByteArray}, inB s l = true ↔ s ∈ l
  | [] => by simp [inB]
  | a :: l => by simp [inB, inB_iff (l := l)]
theorem inB_not {s : ByteArray} {l : List ByteArray} : inB s l = false ↔ ¬ s ∈ l := by rw [← inB_iff]; simp
/-- A list with one more, if it is not there yet. -/
def addS (acc : List ByteArray) (s : ByteArray) : List ByteArray := if inB s acc = true then acc else acc ++ [s]
def trm (acc l : List ByteArray) : List ByteArray := l.foldl addS acc
theorem trm_app (acc l m : List ByteArray) : trm acc (l ++ m) = trm (trm acc l) m := List.foldl_append ..
theorem trm_nil (acc : List ByteArray) : trm acc [] = acc := rfl
theorem trm_cons (acc : List ByteArray) (s : ByteArray) (l : List ByteArray) : trm acc (s :: l) = trm (addS acc s) l := rfl
theorem addS_len (acc : List ByteArray) (s : ByteArray) : (addS acc s).length ≤ acc.length + 1 := by unfold addS; split <;> simp
theorem trm_len : ∀ (l acc : List ByteArray), (trm acc l).length ≤ acc.length + l.length
  | [], acc => Nat.le_refl _
  | s :: l, acc => by
    have h1 := trm_len l (addS acc s)
    have h2 := addS_len acc s
    rw [trm_cons, List.length_cons]; omega
theorem mem_addS {acc : List ByteArray} {s t : ByteArray} : t ∈ addS acc s ↔ t ∈ acc ∨ t = s := by
  unfold addS; split
  · rename_i h; exact ⟨.inl, fun h' => h'.elim id (fun e => e ▸ inB_iff.1 h)⟩
  · simp
theorem mem_trm {t : ByteArray} : ∀ {l acc : List ByteArray}, t ∈ trm acc l ↔ t ∈ acc ∨ t ∈ l
  | [], acc => by simp [trm_nil]
  | s :: l, acc => by rw [trm_cons, mem_trm, mem_addS, List.mem_cons, or_assoc]
theorem addS_nodup {acc : List ByteArray} {s : ByteArray} (h : acc.Nodup) : (addS acc s).Nodup := by
  unfold addS; split
  · exact h
  · rename_i hs
    rw [List.nodup_append]
    exact ⟨h, by simp, fun a ha b hb e => by simp at hb; subst hb; subst e; exact hs (inB_iff.2 ha)⟩
theorem trm_nodup : ∀ {l acc : List ByteArray}, acc.Nodup → (trm acc l).Nodup
  | [], _, h => h
  | s :: l, acc, h => trm_nodup (l := l) (acc := addS acc s) (addS_nodup h)
def Df.trm (d : Df) : List ByteArray := d.e.nmd 1
def trms (ds : List Df) : List ByteArray := Go.Proofs.Ytghplmldnkcpnac.trm [] (ds.flatMap Df.trm)
def nms (ds : List Df) : List ByteArray := ds.map Df.nm
theorem nms_len (ds : List Df) : (nms ds).length = ds.length := List.length_map _
/-- The first number below n of which p holds; -1: none. -/
def fstI (p : Nat → Bool) : Nat → Int
  | 0 => -1
  | n + 1 => if 0 ≤ fstI p n then fstI p n else if p n = true then (n : Int) else -1
theorem fstI_none {p : Nat → Bool} : ∀ {n : Nat}, (∀ j, j < n → p j = false) → fstI p n = -1
  | 0, _ => rfl
  | n + 1, h => by
    have := fstI_none (p := p) (n := n) (fun j hj => h j (by omega))
    simp [fstI, this, h n (by omega)]
theorem fstI_hit {p : Nat → Bool} {k : Nat} (hk : p k = true) (h : ∀ j, j < k → p j = false) : ∀ {n : Nat}, k < n → fstI p n = k
  | 0, hn => absurd hn (Nat.not_lt_zero _)
  | n + 1, hn => by
    by_cases e : k = n
    · subst e
      simp [fstI, fstI_none h, hk]
    · have := fstI_hit hk h (n := n) (by omega)
      simp [fstI, this]
theorem fstI_spec (p : Nat → Bool) (n : Nat) : (fstI p n = -1 ∧ ∀ j, j < n → p j = false) ∨ ∃ k : Nat, k < n ∧ fstI p n = k ∧ p k = true ∧ ∀ j, j < k → p j = false := by
  by_cases h : ∃ k, k < n ∧ p k = true ∧ ∀ j, j < k → p j = false
  · obtain ⟨k, h1, h2, h3⟩ := h
    exact .inr ⟨k, h1, fstI_hit h2 h3 h1, h2, h3⟩
  · have hn : ∀ m, ∀ j, j < m → j < n → p j = false := fun m => by
      induction m with
      | zero => intro j hj; omega
      | succ m ih =>
        intro j hj hjn
        cases hp : p j with
        | false => rfl
        | true => exact absurd ⟨j, hjn, hp, fun i hi => ih i (by omega) (by omega)⟩ h
    exact .inl ⟨fstI_none (fun j hj => hn n j hj hj), fun j hj => hn n j hj hj⟩

/-- Where a name stands in a list. -/
def whr (l : List ByteArray) (s : ByteArray) : Int := fstI (fun i => decide (l[i]? = some s)) l.length
theorem whr_mem (l : List ByteArray) (s : ByteArray) : 0 ≤ whr l s ↔ s ∈ l := by
  unfold whr
  rcases fstI_spec (fun i => decide (l[i]? = some s)) l.length with ⟨h1, h2⟩ | ⟨k, h1, h2, h3, _⟩
  · rw [h1]
    refine ⟨fun h => absurd h (by decide), fun h => ?_⟩
    obtain ⟨j, hj, e⟩ := List.mem_iff_getElem.1 h
    have := h2 j hj
    simp [List.getElem?_eq_getElem hj, e] at this
  · rw [h2]
    refine ⟨fun _ => ?_, fun _ => by omega⟩
    exact List.mem_of_getElem? (of_decide_eq_true h3)

def isTw (l : List ByteArray) (i : Nat) : Bool := match l[i]? with | some s => inB s (l.take i) | none => false
theorem isTw_lt {l : List ByteArray} {i : Nat} (h : i < l.length) : isTw l i = inB l[i] (l.take i) := by simp [isTw, List.getElem?_eq_getElem h]
/-- All names that it speaks of are there. -/
def okN (names l : List ByteArray) : Bool := l.all fun s => inB s names
theorem okN_app (names l m : List ByteArray) : okN names (l ++ m) = (okN names l && okN names m) := List.all_append ..
def isOp (names : List ByteArray) (ds : List Df) (i : Nat) : Bool := match ds[i]? with | some d => !okN names (d.e.nmd 2) | none => false
theorem isOp_lt {names : List ByteArray} {ds : List Df} {i : Nat} (h : i < ds.length) : isOp names ds i = !okN names (ds[i].e.nmd 2) := by simp [isOp, List.getElem?_eq_getElem h]
def tw (ds : List Df) : Int := fstI (isTw (nms ds)) ds.length
def op (ds : List Df) : Int := fstI (isOp (nms ds) ds) ds.length
/-- What is wrong with definitions. -/
def dfl (ds : List Df) : Int × Int :=
  if (rflt ds).1 ≠ 0 then rflt ds else if 0 ≤ tw ds then (7, tw ds) else if 0 ≤ op ds then (8, op ds) else if 16 < (trms ds).length then (6, -1) else (0, 0)

/-! ### turned round -/
theorem fstI_neg (p : Nat → Bool) (n : Nat) : ¬ 0 ≤ fstI p n ↔ ∀ j, j < n → p j = false := by
  rcases fstI_spec p n with ⟨h1, h2⟩ | ⟨k, h1, h2, h3, h4⟩
  · rw [h1]; exact ⟨fun _ => h2, fun _ => by decide⟩
  · rw [h2]
    refine ⟨fun h => absurd (Int.natCast_nonneg k) h, fun h => ?_⟩
    rw [h k h1] at h3; cases h3
theorem nodup_iff_tw : ∀ (l : List ByteArray), (∀ j, j < l.length → isTw l j = false) ↔ l.Nodup := fun l => by
  constructor
  · intro h
    rw [List.Nodup, List.pairwise_iff_getElem]
    intro i j hi hj hij e
    have := h j hj
    rw [isTw_lt hj, inB_not] at this
    apply this
    rw [← e, List.mem_take_iff_getElem]
    exact ⟨i, by omega, rfl⟩
  · intro h j hj
    rw [isTw_lt hj, inB_not]
    intro hm
    rw [List.mem_take_iff_getElem] at hm
    obtain ⟨i, hi, e⟩ := hm
    rw [List.Nodup, List.pairwise_iff_getElem] at h
    exact h i j (by omega) hj (by omega) e
theorem tw_neg (ds : List Df) : ¬ 0 ≤ tw ds ↔ (nms ds).Nodup := by
  rw [← nodup_iff_tw, tw, fstI_neg, nms_len]
theorem op_neg (ds : List Df) : ¬ 0 ≤ op ds ↔ ∀ d ∈ ds, ∀ s ∈ d.e.nmd 2, s ∈ nms ds := by
  rw [op, fstI_neg]
  constructor
  · intro h d hd s hs
    obtain ⟨j, hj, rfl⟩ := List.mem_iff_getElem.1 hd
    have := h j hj
    rw [isOp_lt hj, Bool.not_eq_false', okN, List.all_eq_true] at this
    exact inB_iff.1 (this s hs)
  · intro h j hj
    rw [isOp_lt hj, Bool.not_eq_false', okN, List.all_eq_true]
    exact fun s hs => inB_iff.2 (h _ (List.getElem_mem hj) s hs)
theorem trms_mem {ds : List Df} {s : ByteArray} : s ∈ trms ds ↔ ∃ d ∈ ds, s ∈ d.e.nmd 1 := by
  unfold trms
  rw [mem_trm, List.mem_flatMap]
  simp [Df.trm]
theorem trms_nodup (ds : List Df) : (trms ds).Nodup := trm_nodup List.nodup_nil
section
variable {ds es : List Df} (h : ds.Perm es)
include h
omit h in
end
theorem dfl_bad {ds : List Df} (h : (rflt ds).1 ≠ 0) : dfl ds = rflt ds := if_pos h
end Go.Proofs.Ytghplmldnkcpnac
