/- There and back of printed texts, second part: what the reading makes of the tokens. -/
import Derived.Test.YtkianolbnjineaaRb1
namespace Go.Proofs.Ytkianolbnjineaa

def Fo.app : Fo → Fo → Fo
  | .nil, g => g
  | .cons a b c r, g => .cons a b c (r.app g)
theorem Fo.app_nil : ∀ f : Fo, f.app .nil = f
  | .nil => rfl
  | .cons a b c r => by simp [Fo.app, Fo.app_nil r]
theorem Fo.snoc_app : ∀ (f : Fo) (x : Xp) (g : Fo), (f.snoc x).app g = f.app (.cons x.op x.nm x.kids g)
  | .nil, _, _ => rfl
  | .cons a b c r, x, g => by simp [Fo.app, Fo.snoc, Fo.snoc_app r x g]
/-- What stands from a token on. -/
def Wn (l : List Tk) (n : Nat) (ts r : List (Int × ByteArray)) : Prop := (l.map fun x => (x.k, x.t)).drop n = ts ++ r
section
variable {l : List Tk} {n : Nat} {ts r : List (Int × ByteArray)}
theorem Wn.get {k : Int} {t : ByteArray} (h : Wn l n ((k, t) :: ts) r) : knd l n = k ∧ txt l n = t ∧ n < l.length := by
  unfold Wn at h
  have h0 : (l.map fun x => (x.k, x.t))[n]? = some (k, t) := by
    rw [← List.head?_drop, h]; rfl
  rw [List.getElem?_map] at h0
  cases hx : l[n]? with
  | none => rw [hx] at h0; cases h0
  | some x =>
    rw [hx] at h0
    simp only [Option.map_some, Option.some.injEq, Prod.mk.injEq] at h0
    refine ⟨?_, ?_, ?_⟩
    · unfold knd; rw [hx]; exact h0.1
    · unfold txt; rw [hx]; exact h0.2
    · rcases Nat.lt_or_ge n l.length with h' | h'
      · exact h'
      · rw [List.getElem?_eq_none h'] at hx; cases hx
theorem Wn.next {x : Int × ByteArray} (h : Wn l n (x :: ts) r) : Wn l (n + 1) ts r := by
  unfold Wn at *
  rw [← List.drop_drop, h]; rfl
theorem Wn.left {a b : List (Int × ByteArray)} (h : Wn l n (a ++ b) r) : Wn l n a (b ++ r) := by unfold Wn at *; rw [h, List.append_assoc]
theorem Wn.right {a b : List (Int × ByteArray)} (h : Wn l n (a ++ b) r) : Wn l (n + a.length) b r := by
  unfold Wn at *
  rw [← List.drop_drop, h, List.append_assoc, List.drop_left]
theorem Wn.rest (h : Wn l n ts r) : Wn l (n + ts.length) r [] := by
  unfold Wn at *
  rw [← List.drop_drop, h, List.drop_left, List.append_nil]
end
/-- No item begins here; no other row. -/
def StR (r : List (Int × ByteArray)) : Prop := ∃ t q, r = (3, t) :: q ∧ (brk t).2 = ⟨#[]⟩
def StA (r : List (Int × ByteArray)) : Prop := ∃ t q, r = (3, t) :: q ∧ (brk t).2 = ⟨#[]⟩ ∧ t ≠ ⟨#[124]⟩
theorem StA.r {r : List (Int × ByteArray)} (h : StA r) : StR r := let ⟨t, q, h1, h2, _⟩ := h; ⟨t, q, h1, h2⟩
section
variable (l : List Tk) (en : Int)
theorem item_stop {k n p o : Nat} {r : List (Int × ByteArray)} (h : Wn l n r []) (hs : StR r) (hk : 1 ≤ k) : item l en k n p o = .ok none n p := by
  obtain ⟨t, q, rfl, ht⟩ := hs
  obtain ⟨h1, h2, _⟩ := h.get
  obtain ⟨k, rfl⟩ : ∃ j, k = j + 1 := ⟨k - 1, by omega⟩
  rw [item, if_neg (by rw [h1]; decide), if_neg (by rw [h1]; decide), if_neg (by unfold opn; rw [h2, ht]; simp)]
theorem altL_stop {k n p o : Nat} {r : List (Int × ByteArray)} {acc : Fo} (h : Wn l n r []) (hs : StA r) (hk : 1 ≤ k) : altL l en k n p o acc = .ok (mk 4 acc) n p := by
  obtain ⟨t, q, rfl, ht, ht2⟩ := hs
  obtain ⟨h1, h2, _⟩ := h.get
  obtain ⟨k, rfl⟩ : ∃ j, k = j + 1 := ⟨k - 1, by omega⟩
  rw [altL, if_neg (by unfold isS; rw [h2]; simp [ht2])]
theorem mk_one (op : Int) (x : Xp) : mk op (Fo.nil.snoc x) = x := by
  unfold mk; rw [if_pos (by simp [Fo.snoc, Fo.len])]; rfl
/-- What is asked of one expression: alone, as a row of an alt, as an item of a row. -/
def AltX (x : Xp) : Prop := ∀ n p o k r, Wn l n (kts x.pc) r → StA r → p + x.pts ≤ 60 → o + x.dp ≤ 40 → 4 * (l.length - n) + 3 ≤ k →
  alt l en k n p o = .ok x (n + (kts x.pc).length) (p + x.pts)
def RowX (x : Xp) : Prop := ∀ n p o k r, Wn l n (kts (lpP 4 x.op ++ x.pc ++ rpP 4 x.op)) r → StR r → p + x.pts + rn1 4 x.op ≤ 60 → o + x.dp + br1 4 x.op ≤ 40 → 4 * (l.length - n) + 2 ≤ k →
  rowL l en k n p o .nil = .ok x (n + (kts (lpP 4 x.op ++ x.pc ++ rpP 4 x.op)).length) (p + (x.pts + rn1 4 x.op))
def ItemX (x : Xp) : Prop := ∀ n p o k r, Wn l n (kts (lpP 3 x.op ++ x.pc ++ rpP 3 x.op)) r → p + x.pts + rn1 3 x.op ≤ 60 → o + x.dp + br1 3 x.op ≤ 40 → 4 * (l.length - n) + 1 ≤ k →
  item l en k n p o = .ok (some x) (n + (kts (lpP 3 x.op ++ x.pc ++ rpP 3 x.op)).length) (p + (x.pts + rn1 3 x.op))
structure PX (x : Xp) : Prop where
  a : AltX l en x
  r : RowX l en x
  i : ItemX l en x
theorem row_one {x : Xp} {k n p o n1 p1 : Nat} {r : List (Int × ByteArray)} (hi : ∀ j, 4 * (l.length - n) + 1 ≤ j → item l en j n p o = .ok (some x) n1 p1) (hw : Wn l n1 r []) (hs : StR r) (hk : 4 * (l.length - n) + 2 ≤ k) (hn : n < l.length) :
    rowL l en k n p o .nil = .ok x n1 p1 := by
  obtain ⟨k, rfl⟩ : ∃ j, k = j + 1 := ⟨k - 1, by omega⟩
  obtain ⟨k, rfl⟩ : ∃ j, k = j + 1 := ⟨k - 1, by omega⟩
  rw [rowL, hi _ (by omega)]
  simp only
  rw [rowL, item_stop l en hw hs (by omega)]
  simp only
  rw [mk_one]
theorem alt_one {x : Xp} {k n p o n1 p1 : Nat} {r : List (Int × ByteArray)} (hi : ∀ j, 4 * (l.length - n) + 2 ≤ j → rowL l en j n p o .nil = .ok x n1 p1) (hw : Wn l n1 r []) (hs : StA r) (hk : 4 * (l.length - n) + 3 ≤ k) :
    alt l en k n p o = .ok x n1 p1 := by
  obtain ⟨k, rfl⟩ : ∃ j, k = j + 1 := ⟨k - 1, by omega⟩
  rw [alt, hi _ (by omega)]
  simp only
  rw [altL_stop l en hw hs (by omega), mk_one]
/-- What stands in brackets is an item. -/
theorem item_br {y : Xp} {a b : UInt8} {op : Int} (ha : brk ⟨#[a]⟩ = (op, ⟨#[b]⟩)) (hb : (brk ⟨#[b]⟩).2 = ⟨#[]⟩) (hb2 : (⟨#[b]⟩ : ByteArray) ≠ ⟨#[124]⟩) (hy : AltX l en y) {n p o k : Nat} {r : List (Int × ByteArray)}
    (hw : Wn l n (kts ([sg a] ++ y.pc ++ [sg b])) r) (hp : p + y.pts + 1 ≤ 60) (ho : o + y.dp + 1 ≤ 40) (hk : 4 * (l.length - n) + 1 ≤ k) :
    item l en k n p o = .ok (some (wrap op y)) (n + (kts ([sg a] ++ y.pc ++ [sg b])).length) (p + (y.pts + 1)) := by
  rw [kts_app, kts_app] at hw
  have e1 : kts [sg a] = [(3, ⟨#[a]⟩)] := rfl
  have e2 : kts [sg b] = [(3, ⟨#[b]⟩)] := rfl
  rw [kts_app, kts_app, e1, e2]
  rw [e1, e2] at hw
  have hw1 := hw.left.left
  obtain ⟨g1, g2, g3⟩ := hw1.get
  have hw2 : Wn l (n + 1) (kts y.pc) ([(3, ⟨#[b]⟩)] ++ r) := hw.left.right
  have hw3 := hw.right
  obtain ⟨j1, j2, _⟩ := hw3.get
  obtain ⟨k, rfl⟩ : ∃ j, k = j + 1 := ⟨k - 1, by omega⟩
  have A := hy (n + 1) (p + 1) (o + 1) k _ hw2 ⟨_, _, rfl, hb, hb2⟩ (by omega) (by omega) (by omega)
  have hopn : opn l n = true := by unfold opn; rw [g1, g2, ha]; simp
  rw [item, if_neg (by rw [g1]; decide), if_neg (by rw [g1]; decide), if_pos hopn, if_neg (by omega), if_neg (by omega), A, g2, ha]
  simp only
  have hn' : n + 1 + (kts y.pc).length = n + ([(3, (⟨#[a]⟩ : ByteArray))] ++ kts y.pc).length := by simp; omega
  rw [hn', if_pos (by unfold isS; rw [j1, j2]; simp)]
  simp
  omega
theorem pts_pos {x : Xp} (h : x.bad = 0) (h3 : x.op ≠ 3) : 1 ≤ x.pts := by
  obtain ⟨hc, _⟩ := Xp.bad_zero h
  have hf := (code_zero hc).1
  unfold Xp.pts own
  rw [if_neg h3]
  split
  · rename_i h4
    rcases form_kinds hf with h | h | h | h <;> omega
  · omega
/-- The rows, and the alts. -/
theorem rowF : ∀ (f : Fo) (first : Bool) (acc : Fo) (n p o k : Nat) (r : List (Int × ByteArray)), f.All (ItemX l en) → Wn l n (kts (f.pc 3 first)) r → StR r → p + f.pts 3 ≤ 60 → o + f.dp 3 ≤ 40 → 4 * (l.length - n) + 2 ≤ k →
    rowL l en k n p o acc = .ok (mk 3 (acc.app f)) (n + (kts (f.pc 3 first)).length) (p + f.pts 3)
  | .nil, first, acc, n, p, o, k, r, _, hw, hs, _, _, hk => by
    obtain ⟨k, rfl⟩ : ∃ j, k = j + 1 := ⟨k - 1, by omega⟩
    have hw' : Wn l n r [] := by have := hw.rest; simpa [Fo.pc, kts] using this
    rw [rowL, item_stop l en hw' hs (by omega)]
    simp [Fo.app_nil, Fo.pc, kts, Fo.pts]
  | .cons op nm kids rest, first, acc, n, p, o, k, r, hA, hw, hs, hp, ho, hk => by
    obtain ⟨k, rfl⟩ : ∃ j, k = j + 1 := ⟨k - 1, by omega⟩
    have e0 : kts (if first = true then [] else btP 3) = [] := by split <;> rfl
    have e1 : kts ((Fo.cons op nm kids rest).pc 3 first) = kts (lpP 3 op ++ (⟨op, nm, kids⟩ : Xp).pc ++ rpP 3 op) ++ kts (rest.pc 3 false) := by
      rw [Fo.pc, kts_app, kts_app, e0]; rfl
    rw [e1] at hw
    have hpt : (Fo.cons op nm kids rest).pts 3 = ((⟨op, nm, kids⟩ : Xp).pts + rn1 3 op) + rest.pts 3 := rfl
    have hdp : (Fo.cons op nm kids rest).dp 3 = max ((⟨op, nm, kids⟩ : Xp).dp + br1 3 op) (rest.dp 3) := rfl
    have I := hA.1 n p o k _ hw.left (by show p + (⟨op, nm, kids⟩ : Xp).pts + rn1 3 op ≤ 60; omega) (by show o + (⟨op, nm, kids⟩ : Xp).dp + br1 3 op ≤ 40; omega) (by omega)
    have hw2 := hw.right
    rw [rowL, I]
    simp only
    have hnz : n < l.length ∧ 1 ≤ (kts (lpP 3 op ++ (⟨op, nm, kids⟩ : Xp).pc ++ rpP 3 op)).length := by
      have f1 := (far l en k).item n p o _ _ _ (by omega) I
      have f2 := f1.2 (by simp)
      have : n < n + (kts (lpP 3 op ++ (⟨op, nm, kids⟩ : Xp).pc ++ rpP 3 op)).length := f2.1
      have := f2.2.1
      omega
    have R := rowF rest false (acc.snoc ⟨op, nm, kids⟩) _ (p + ((⟨op, nm, kids⟩ : Xp).pts + rn1 3 op)) o k r hA.2 hw2 hs (by omega) (by omega) (by omega)
    rw [R, e1, hpt, Fo.snoc_app]
    simp only [List.length_append, Nat.add_assoc]
theorem altF : ∀ (f : Fo) (acc : Fo) (n p o k : Nat) (r : List (Int × ByteArray)), f.All (RowX l en) → Wn l n (kts (f.pc 4 false)) r → StA r → p + f.pts 4 + f.len ≤ 60 → o + f.dp 4 ≤ 40 → 4 * (l.length - n) + 2 ≤ k →
    altL l en k n p o acc = .ok (mk 4 (acc.app f)) (n + (kts (f.pc 4 false)).length) (p + (f.pts 4 + f.len))
  | .nil, acc, n, p, o, k, r, _, hw, hs, _, _, hk => by
    have hw' : Wn l n r [] := by have := hw.rest; simpa [Fo.pc, kts] using this
    rw [altL_stop l en hw' hs (by omega)]
    simp [Fo.app_nil, Fo.pc, kts, Fo.pts, Fo.len]
  | .cons op nm kids rest, acc, n, p, o, k, r, hA, hw, hs, hp, ho, hk => by
    obtain ⟨k, rfl⟩ : ∃ j, k = j + 1 := ⟨k - 1, by omega⟩
    have e1 : kts ((Fo.cons op nm kids rest).pc 4 false) = (3, ⟨#[124]⟩) :: (kts (lpP 4 op ++ (⟨op, nm, kids⟩ : Xp).pc ++ rpP 4 op) ++ kts (rest.pc 4 false)) := by
      rw [Fo.pc, kts_app, kts_app]; rfl
    rw [e1] at hw
    have hpt : (Fo.cons op nm kids rest).pts 4 = ((⟨op, nm, kids⟩ : Xp).pts + rn1 4 op) + rest.pts 4 := rfl
    have hdp : (Fo.cons op nm kids rest).dp 4 = max ((⟨op, nm, kids⟩ : Xp).dp + br1 4 op) (rest.dp 4) := rfl
    have hln : (Fo.cons op nm kids rest).len = rest.len + 1 := rfl
    obtain ⟨g1, g2, g3⟩ := hw.get
    have hw1 := hw.next
    have hs1 : StR (kts (rest.pc 4 false) ++ r) := by
      cases rest with
      | nil => exact hs.r
      | cons a b c d =>
        rw [show kts ((Fo.cons a b c d).pc 4 false) = (3, ⟨#[124]⟩) :: (kts (lpP 4 a ++ (⟨a, b, c⟩ : Xp).pc ++ rpP 4 a) ++ kts (d.pc 4 false)) by rw [Fo.pc, kts_app, kts_app]; rfl]
        exact ⟨_, _, rfl, by decide⟩
    have I := hA.1 (n + 1) (p + 1) o k _ hw1.left hs1 (by show p + 1 + (⟨op, nm, kids⟩ : Xp).pts + rn1 4 op ≤ 60; omega) (by show o + (⟨op, nm, kids⟩ : Xp).dp + br1 4 op ≤ 40; omega) (by omega)
    rw [altL, if_pos (by unfold isS; rw [g1, g2]; simp), if_neg (by omega), I]
    simp only
    have R := altF rest (acc.snoc ⟨op, nm, kids⟩) _ (p + 1 + ((⟨op, nm, kids⟩ : Xp).pts + rn1 4 op)) o k r hA.2 hw1.right hs (by omega) (by omega) (by omega)
    rw [R, e1, hpt, hln, Fo.snoc_app]
    simp only [List.length_append, List.length_cons]
    congr 1 <;> omega
theorem Fo.All.mono {P Q : Xp → Prop} (h : ∀ x, P x → Q x) : ∀ {f : Fo}, f.All P → f.All Q
  | .nil, _ => trivial
  | .cons .., ⟨h1, h2⟩ => ⟨h _ h1, Fo.All.mono h h2⟩
theorem px_head (x : Xp) (hb : x.bad = 0) (ih : x.kids.All (PX l en)) : PX l en x := by
  obtain ⟨hc, hkb⟩ := Xp.bad_zero hb
  obtain ⟨hf, _⟩ := code_zero hc
  obtain ⟨op, nm, kids⟩ := x
  simp only at hc hkb hf ih
  rcases form_kinds hf with ⟨h, h0⟩ | ⟨rfl, rfl, h1⟩ | ⟨rfl, rfl, h1⟩ | ⟨h, rfl, h1⟩
  · -- a name, a terminal
    have hk0 := Fo.len_zero h0
    subst hk0
    have hr3 : rnd 3 op = false := by unfold rnd; rcases h with h | h <;> subst h <;> rfl
    have hr4 : rnd 4 op = false := by unfold rnd; rcases h with h | h <;> subst h <;> rfl
    have hpt : (⟨op, nm, .nil⟩ : Xp).pts = 1 := by rcases h with h | h <;> subst h <;> rfl
    obtain ⟨kd, hkd, hpc⟩ : ∃ kd : Int, (kd = 1 ∧ op = 2 ∨ kd = 2 ∧ op = 1) ∧ kts (⟨op, nm, .nil⟩ : Xp).pc = [(kd, nm)] := by
      rcases h with h | h <;> subst h
      · exact ⟨2, .inr ⟨rfl, rfl⟩, rfl⟩
      · exact ⟨1, .inl ⟨rfl, rfl⟩, rfl⟩
    have I : ∀ n p o k r, Wn l n [(kd, nm)] r → p + 1 ≤ 60 → 1 ≤ k → item l en k n p o = .ok (some ⟨op, nm, .nil⟩) (n + 1) (p + 1) := by
      intro n p o k r hw hp hk
      obtain ⟨g1, g2, g3⟩ := hw.get
      obtain ⟨k, rfl⟩ : ∃ j, k = j + 1 := ⟨k - 1, by omega⟩
      rcases hkd with ⟨e1, e2⟩ | ⟨e1, e2⟩
      · subst e1 e2; rw [item, if_pos g1, if_neg (by omega), g2]
      · subst e1 e2; rw [item, if_neg (by rw [g1]; decide), if_pos g1, if_neg (by omega), g2]
    have hx3 : kts (lpP 3 op ++ (⟨op, nm, .nil⟩ : Xp).pc ++ rpP 3 op) = [(kd, nm)] := by simp [lpP, rpP, hr3, hpc]
    have hx4 : kts (lpP 4 op ++ (⟨op, nm, .nil⟩ : Xp).pc ++ rpP 4 op) = [(kd, nm)] := by simp [lpP, rpP, hr4, hpc]
    have n3 : rn1 3 op = 0 := by simp [rn1, hr3]
    have n4 : rn1 4 op = 0 := by simp [rn1, hr4]
    refine ⟨?_, ?_, ?_⟩
    · intro n p o k r hw hs hp ho hk
      rw [hpc] at hw ⊢
      rw [hpt] at hp ⊢
      exact alt_one l en (fun j hj => row_one l en (fun i hi => I n p o i r hw (by omega) (by omega)) hw.rest hs.r hj hw.get.2.2) hw.rest hs hk
    · intro n p o k r hw hs hp ho hk
      simp only at hw hp ho ⊢
      rw [hx4] at hw ⊢
      rw [hpt, n4] at hp ⊢
      exact row_one l en (fun i hi => I n p o i r hw (by omega) (by omega)) hw.rest hs hk hw.get.2.2
    · intro n p o k r hw hp ho hk
      simp only at hw hp ho ⊢
      rw [hx3] at hw ⊢
      rw [hpt, n3] at hp ⊢
      exact I n p o k r hw (by omega) (by omega)
  · -- a row
    have hpt : (⟨3, ⟨#[]⟩, kids⟩ : Xp).pts = kids.pts 3 := by simp [Xp.pts, own]
    have hdp : (⟨3, ⟨#[]⟩, kids⟩ : Xp).dp = kids.dp 3 := rfl
    have hpc : (⟨3, ⟨#[]⟩, kids⟩ : Xp).pc = kids.pc 3 true := by simp [Xp.pc, opP, clP]
    have hmk : mk 3 (Fo.nil.app kids) = ⟨3, ⟨#[]⟩, kids⟩ := by show mk 3 kids = _; unfold mk; rw [if_neg h1]
    have R : ∀ n p o k r, Wn l n (kts (kids.pc 3 true)) r → StR r → p + kids.pts 3 ≤ 60 → o + kids.dp 3 ≤ 40 → 4 * (l.length - n) + 2 ≤ k → rowL l en k n p o .nil = .ok ⟨3, ⟨#[]⟩, kids⟩ (n + (kts (kids.pc 3 true)).length) (p + kids.pts 3) := by
      intro n p o k r hw hs hp ho hk
      rw [rowF l en kids true .nil n p o k r (ih.mono fun _ h => h.i) hw hs hp ho hk, hmk]
    have A : AltX l en ⟨3, ⟨#[]⟩, kids⟩ := by
      intro n p o k r hw hs hp ho hk
      rw [hpc] at hw ⊢
      rw [hpt] at hp ⊢
      rw [hdp] at ho
      exact alt_one l en (fun j hj => R n p o j r hw hs.r hp ho hj) hw.rest hs hk
    refine ⟨A, ?_, ?_⟩
    · intro n p o k r hw hs hp ho hk
      have e : lpP 4 3 ++ (⟨3, ⟨#[]⟩, kids⟩ : Xp).pc ++ rpP 4 3 = kids.pc 3 true := by rw [hpc]; simp [lpP, rpP, rnd]
      simp only at hw hp ho ⊢
      rw [e] at hw ⊢
      rw [hpt] at hp ⊢
      rw [hdp] at ho
      have := R n p o k r hw hs (by omega) (by omega) hk
      rw [this]; simp [rn1, rnd]
    · intro n p o k r hw hp ho hk
      have e : lpP 3 3 ++ (⟨3, ⟨#[]⟩, kids⟩ : Xp).pc ++ rpP 3 3 = [sg 40] ++ (⟨3, ⟨#[]⟩, kids⟩ : Xp).pc ++ [sg 41] := rfl
      simp only at hw hp ho ⊢
      rw [e] at hw ⊢
      have n3 : rn1 3 3 = 1 := rfl
      have b3 : br1 3 3 = 1 := rfl
      rw [n3] at hp ⊢
      rw [b3] at ho
      have := item_br l en (op := 0) (a := 40) (b := 41) (by decide) (by decide) (by decide) A hw hp ho hk
      rw [this]; rfl
  · -- an alt
    cases kids with
    | nil => simp [Fo.len] at h1
    | cons op0 nm0 kids0 rest =>
    have hln : (Fo.cons op0 nm0 kids0 rest).len = rest.len + 1 := rfl
    have hpt : (⟨4, ⟨#[]⟩, .cons op0 nm0 kids0 rest⟩ : Xp).pts = rest.len + (((⟨op0, nm0, kids0⟩ : Xp).pts + rn1 4 op0) + rest.pts 4) := by simp [Xp.pts, own, Fo.pts, hln]
    have hdp : (⟨4, ⟨#[]⟩, .cons op0 nm0 kids0 rest⟩ : Xp).dp = max ((⟨op0, nm0, kids0⟩ : Xp).dp + br1 4 op0) (rest.dp 4) := rfl
    have hpc : kts (⟨4, ⟨#[]⟩, .cons op0 nm0 kids0 rest⟩ : Xp).pc = kts (lpP 4 op0 ++ (⟨op0, nm0, kids0⟩ : Xp).pc ++ rpP 4 op0) ++ kts (rest.pc 4 false) := by
      simp [Xp.pc, opP, clP, Fo.pc, kts_app]
    have A : AltX l en ⟨4, ⟨#[]⟩, .cons op0 nm0 kids0 rest⟩ := by
      intro n p o k r hw hs hp ho hk
      rw [hpc] at hw ⊢
      rw [hpt] at hp ⊢
      rw [hdp] at ho
      obtain ⟨k, rfl⟩ : ∃ j, k = j + 1 := ⟨k - 1, by omega⟩
      have hs1 : StR (kts (rest.pc 4 false) ++ r) := by
        cases rest with
        | nil => simp [Fo.len] at hln h1
        | cons a b c d =>
          rw [show kts ((Fo.cons a b c d).pc 4 false) = (3, ⟨#[124]⟩) :: (kts (lpP 4 a ++ (⟨a, b, c⟩ : Xp).pc ++ rpP 4 a) ++ kts (d.pc 4 false)) by rw [Fo.pc, kts_app, kts_app]; rfl]
          exact ⟨_, _, rfl, by decide⟩
      have I := ih.1.r n p o k _ hw.left hs1 (by show p + (⟨op0, nm0, kids0⟩ : Xp).pts + rn1 4 op0 ≤ 60; omega) (by show o + (⟨op0, nm0, kids0⟩ : Xp).dp + br1 4 op0 ≤ 40; omega) (by omega)
      rw [alt, I]
      simp only
      rw [altF l en rest _ _ _ o k r (ih.2.mono fun _ h => h.r) hw.right hs (by omega) (by omega) (by omega), Fo.snoc_app]
      have hmk : mk 4 (Fo.nil.app (.cons op0 nm0 kids0 rest)) = ⟨4, ⟨#[]⟩, .cons op0 nm0 kids0 rest⟩ := by
        show mk 4 (.cons op0 nm0 kids0 rest) = _; unfold mk; rw [if_neg (by omega)]
      rw [hmk]
      simp only [List.length_append]
      congr 1 <;> omega
    have IT : ∀ q : Int, rnd q 4 = true → ∀ n p o k r, Wn l n (kts (lpP q 4 ++ (⟨4, ⟨#[]⟩, .cons op0 nm0 kids0 rest⟩ : Xp).pc ++ rpP q 4)) r → p + (⟨4, ⟨#[]⟩, .cons op0 nm0 kids0 rest⟩ : Xp).pts + 1 ≤ 60 → o + (⟨4, ⟨#[]⟩, .cons op0 nm0 kids0 rest⟩ : Xp).dp + 1 ≤ 40 → 4 * (l.length - n) + 1 ≤ k →
        item l en k n p o = .ok (some ⟨4, ⟨#[]⟩, .cons op0 nm0 kids0 rest⟩) (n + (kts (lpP q 4 ++ (⟨4, ⟨#[]⟩, .cons op0 nm0 kids0 rest⟩ : Xp).pc ++ rpP q 4)).length) (p + ((⟨4, ⟨#[]⟩, .cons op0 nm0 kids0 rest⟩ : Xp).pts + 1)) := by
      intro q hq n p o k r hw hp ho hk
      have e : lpP q 4 ++ (⟨4, ⟨#[]⟩, .cons op0 nm0 kids0 rest⟩ : Xp).pc ++ rpP q 4 = [sg 40] ++ (⟨4, ⟨#[]⟩, .cons op0 nm0 kids0 rest⟩ : Xp).pc ++ [sg 41] := by simp [lpP, rpP, hq]
      rw [e] at hw ⊢
      have := item_br l en (op := 0) (a := 40) (b := 41) (by decide) (by decide) (by decide) A hw hp ho hk
      rw [this]; rfl
    refine ⟨A, ?_, ?_⟩
    · intro n p o k r hw hs hp ho hk
      have n4 : rn1 4 4 = 1 := rfl
      have b4 : br1 4 4 = 1 := rfl
      simp only at hw hp ho ⊢
      rw [n4] at hp ⊢
      rw [b4] at ho
      refine row_one l en (fun i hi => IT 4 rfl n p o i r hw hp ho hi) hw.rest hs hk ?_
      rw [kts_app, kts_app] at hw
      exact (show Wn l n ((3, ⟨#[40]⟩) :: _) _ from hw.left.left).get.2.2
    · intro n p o k r hw hp ho hk
      have n4 : rn1 3 4 = 1 := rfl
      have b4 : br1 3 4 = 1 := rfl
      simp only at hw hp ho ⊢
      rw [n4] at hp ⊢
      rw [b4] at ho
      exact IT 3 rfl n p o k r hw hp ho hk
  · -- other brackets
    cases kids with
    | nil => simp [Fo.len] at h1
    | cons op0 nm0 kids0 rest =>
    have hr0 : rest = .nil := Fo.len_zero (by simp [Fo.len] at h1; omega)
    subst hr0
    have ho3 : op ≠ 3 ∧ op ≠ 4 ∧ op ≠ 1 ∧ op ≠ 2 ∧ 5 ≤ op := by omega
    have hrn : rnd op op0 = false := by unfold rnd; simp [ho3]
    have hr3 : rnd 3 op = false := by unfold rnd; simp [ho3]
    have hr4 : rnd 4 op = false := by unfold rnd; simp [ho3]
    have hpt : (⟨op, ⟨#[]⟩, .cons op0 nm0 kids0 .nil⟩ : Xp).pts = (⟨op0, nm0, kids0⟩ : Xp).pts + 1 := by
      simp [Xp.pts, own, Fo.pts, ho3, rn1, hrn]; omega
    have hdp : (⟨op, ⟨#[]⟩, .cons op0 nm0 kids0 .nil⟩ : Xp).dp = (⟨op0, nm0, kids0⟩ : Xp).dp + 1 := by
      show max ((⟨op0, nm0, kids0⟩ : Xp).dp + br1 op op0) 0 = _
      unfold br1; rw [if_pos (.inl ho3.2.2.2.2)]; omega
    obtain ⟨a, b, ha, hb, hb2, hpc⟩ : ∃ a b : UInt8, brk ⟨#[a]⟩ = (op, ⟨#[b]⟩) ∧ (brk ⟨#[b]⟩).2 = ⟨#[]⟩ ∧ (⟨#[b]⟩ : ByteArray) ≠ ⟨#[124]⟩ ∧ (⟨op, ⟨#[]⟩, .cons op0 nm0 kids0 .nil⟩ : Xp).pc = [sg a] ++ (⟨op0, nm0, kids0⟩ : Xp).pc ++ [sg b] := by
      rcases h with h | h | h <;> subst h
      · exact ⟨91, 93, by decide, by decide, by decide, by simp [Xp.pc, opP, clP, Fo.pc, lpP, rpP, hrn]⟩
      · exact ⟨123, 125, by decide, by decide, by decide, by simp [Xp.pc, opP, clP, Fo.pc, lpP, rpP, hrn]⟩
      · exact ⟨60, 62, by decide, by decide, by decide, by simp [Xp.pc, opP, clP, Fo.pc, lpP, rpP, hrn]⟩
    have hwr : wrap op ⟨op0, nm0, kids0⟩ = ⟨op, ⟨#[]⟩, .cons op0 nm0 kids0 .nil⟩ := by unfold wrap; rw [if_neg (by omega)]; rfl
    have I : ∀ n p o k r, Wn l n (kts (⟨op, ⟨#[]⟩, .cons op0 nm0 kids0 .nil⟩ : Xp).pc) r → p + (⟨op, ⟨#[]⟩, .cons op0 nm0 kids0 .nil⟩ : Xp).pts ≤ 60 → o + (⟨op, ⟨#[]⟩, .cons op0 nm0 kids0 .nil⟩ : Xp).dp ≤ 40 → 4 * (l.length - n) + 1 ≤ k →
        item l en k n p o = .ok (some ⟨op, ⟨#[]⟩, .cons op0 nm0 kids0 .nil⟩) (n + (kts (⟨op, ⟨#[]⟩, .cons op0 nm0 kids0 .nil⟩ : Xp).pc).length) (p + (⟨op, ⟨#[]⟩, .cons op0 nm0 kids0 .nil⟩ : Xp).pts) := by
      intro n p o k r hw hp ho hk
      rw [hpc] at hw ⊢
      rw [hpt] at hp ⊢
      rw [hdp] at ho
      rw [item_br l en ha hb hb2 ih.1.a hw (by omega) (by omega) hk, hwr]
    have hlt : ∀ n r, Wn l n (kts (⟨op, ⟨#[]⟩, .cons op0 nm0 kids0 .nil⟩ : Xp).pc) r → n < l.length := by
      intro n r hw
      rw [hpc, kts_app, kts_app] at hw
      exact (show Wn l n ((3, ⟨#[a]⟩) :: _) _ from hw.left.left).get.2.2
    have hx3 : lpP 3 op ++ (⟨op, ⟨#[]⟩, .cons op0 nm0 kids0 .nil⟩ : Xp).pc ++ rpP 3 op = (⟨op, ⟨#[]⟩, .cons op0 nm0 kids0 .nil⟩ : Xp).pc := by simp [lpP, rpP, hr3]
    have hx4 : lpP 4 op ++ (⟨op, ⟨#[]⟩, .cons op0 nm0 kids0 .nil⟩ : Xp).pc ++ rpP 4 op = (⟨op, ⟨#[]⟩, .cons op0 nm0 kids0 .nil⟩ : Xp).pc := by simp [lpP, rpP, hr4]
    have n3 : rn1 3 op = 0 := by simp [rn1, hr3]
    have n4 : rn1 4 op = 0 := by simp [rn1, hr4]
    refine ⟨?_, ?_, ?_⟩
    · intro n p o k r hw hs hp ho hk
      exact alt_one l en (fun j hj => row_one l en (fun i hi => I n p o i r hw hp ho hi) hw.rest hs.r hj (hlt n r hw)) hw.rest hs hk
    · intro n p o k r hw hs hp ho hk
      simp only at hw hp ho ⊢
      rw [hx4] at hw ⊢
      rw [n4] at hp ⊢
      exact row_one l en (fun i hi => I n p o i r hw (by omega) (by omega) hi) hw.rest hs hk (hlt n r hw)
    · intro n p o k r hw hp ho hk
      simp only at hw hp ho ⊢
      rw [hx3] at hw ⊢
      rw [n3] at hp ⊢
      exact I n p o k r hw (by omega) (by omega) hk
theorem px_all : ∀ f : Fo, f.bad = 0 → f.All (PX l en)
  | .nil, _ => trivial
  | .cons op nm kids rest, h => by
    obtain ⟨h1, h2, h3⟩ := Fo.bad_cons h
    exact ⟨px_head l en ⟨op, nm, kids⟩ (by unfold Xp.bad; simp [h1, h2]) (px_all kids h2), px_all rest h3⟩
theorem px_any (x : Xp) (h : x.bad = 0) : PX l en x := px_head l en x h (px_all l en x.kids (Xp.bad_zero h).2)
end
end Go.Proofs.Ytkianolbnjineaa
