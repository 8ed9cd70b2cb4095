/- Definitions as grammars, as plain mathematics. -/
import Derived.Test.YtcanphhmflbdmacL05
import Derived.Test.YtcanphhmflbdmacL08
namespace Go.Proofs.Ytcanphhmflbdmac
open Go.RowKit G

/-- On the way to a grammar: how many nonterminals, the rules so far, was there too much. -/
structure Sp where
  vars : Nat
  rules : List Ru
  bad : Bool
def Sp.rule (s : Sp) (v : Int) (r : List Int) : Sp :=
  if s.bad = true ∨ 160 ≤ s.rules.length ∨ 10 < r.length then { s with bad := true } else { s with rules := s.rules ++ [⟨v, r⟩] }
def Sp.more (s : Sp) : Sp := { s with vars := s.vars + 1 }
def Sp.gone (s : Sp) : Sp := { s with bad := true }
inductive Md where
  | row
  | ways (v : Int) (p a : Bool)
  | part (v : Int) (p a : Bool)
/-- The rules of one way: plain, and with the nonterminal itself behind. -/
def wayA (v : Int) (a : Bool) (l : List Int) (s : Sp) : Sp := if a = true then s.rule v (l ++ [v]) else s
def wayP (v : Int) (p : Bool) (l : List Int) (s : Sp) : Sp := if p = true then s.rule v l else s
def wayR (v : Int) (p a : Bool) (x : List Int × Sp) : Sp := wayA v a x.1 (wayP v p x.1 x.2)
def symS (N T : List ByteArray) (g : Md → Sp → List Int × Sp) (op : Int) (nm : ByteArray) (s : Sp) : List Int × Sp :=
  if s.bad = true then ([], s) else if op = 1 then ([-1 - whr T nm], s) else if op = 2 then ([whr N nm], s) else if op = 3 then g .row s
  else if 64 ≤ s.vars then ([], s.gone)
  else if op = 4 then ([(s.vars : Int)], (g (.ways s.vars true false) s.more).2)
  else ([(s.vars : Int)], (g (.part s.vars (decide (op ≠ 6)) (decide (op ≠ 5))) (if op = 7 then s.more else s.more.rule s.vars [])).2)
def Fo.go (N T : List ByteArray) : Fo → Md → Sp → List Int × Sp
  | .nil, _, s => ([], s)
  | .cons op nm kids rest, .row, s => ((symS N T (kids.go N T) op nm s).1 ++ (rest.go N T .row (symS N T (kids.go N T) op nm s).2).1, (rest.go N T .row (symS N T (kids.go N T) op nm s).2).2)
  | .cons op nm kids rest, .ways v p a, s => if s.bad = true then ([], s) else rest.go N T (.ways v p a) (wayR v p a (symS N T (kids.go N T) op nm s))
  | .cons op nm kids _, .part v p a, s => if s.bad = true then ([], s) else if op = 4 then kids.go N T (.ways v p a) s else ([], wayR v p a (symS N T (kids.go N T) op nm s))
/-- The symbols of an expression. -/
def Xp.sy (N T : List ByteArray) (x : Xp) (s : Sp) : List Int × Sp := symS N T (x.kids.go N T) x.op x.nm s
/-- The ways of an expression. -/
def Xp.ways (x : Xp) : Fo := if x.op = 4 then x.kids else .cons x.op x.nm x.kids .nil
/-- The rules of a nonterminal, of an expression. -/
def Xp.put (N T : List ByteArray) (x : Xp) (v : Int) (p a : Bool) (s : Sp) : Sp := (x.ways.go N T (.ways v p a) s).2
section
variable {N T : List ByteArray}
theorem gone_of {s : Sp} (h : s.bad = true) : s.gone = s := by cases s; cases h; rfl
theorem rule_bad {s : Sp} (h : s.bad = true) (v : Int) (r : List Int) : s.rule v r = s := by
  unfold Sp.rule; rw [if_pos (.inl h)]; exact gone_of h
theorem rule_no {s : Sp} {v : Int} {r : List Int} (h : 160 ≤ s.rules.length ∨ 10 < r.length) : s.rule v r = s.gone := by
  unfold Sp.rule; rw [if_pos (.inr h)]; rfl
theorem rule_yes {s : Sp} {v : Int} {r : List Int} (h0 : s.bad = false) (h1 : ¬ 160 ≤ s.rules.length) (h2 : ¬ 10 < r.length) : s.rule v r = { s with rules := s.rules ++ [⟨v, r⟩] } := by
  unfold Sp.rule; rw [if_neg (by simp [h0]; omega)]
theorem wayA_bad {s : Sp} (h : s.bad = true) (v : Int) (a : Bool) (r : List Int) : wayA v a r s = s := by unfold wayA; split; exact rule_bad h _ _; rfl
theorem wayP_bad {s : Sp} (h : s.bad = true) (v : Int) (a : Bool) (r : List Int) : wayP v a r s = s := by unfold wayP; split; exact rule_bad h _ _; rfl
theorem wayR_bad {x : List Int × Sp} (h : x.2.bad = true) (v : Int) (p a : Bool) : wayR v p a x = x.2 := by unfold wayR; rw [wayP_bad h, wayA_bad h]
theorem symS_bad {g : Md → Sp → List Int × Sp} {s : Sp} (h : s.bad = true) (op : Int) (nm : ByteArray) : symS N T g op nm s = ([], s) := if_pos h
theorem Xp.sy_bad {s : Sp} (h : s.bad = true) (x : Xp) : x.sy N T s = ([], s) := if_pos h
theorem Fo.go_bad {s : Sp} (h : s.bad = true) : ∀ (f : Fo) (m : Md), f.go N T m s = ([], s)
  | .nil, _ => by unfold Fo.go; rfl
  | .cons op nm kids rest, .row => by
    unfold Fo.go
    rw [symS_bad h]
    simp only [Fo.go_bad h rest, List.append_nil]
  | .cons op nm kids rest, .ways v p a => by unfold Fo.go; exact if_pos h
  | .cons op nm kids rest, .part v p a => by unfold Fo.go; exact if_pos h
theorem Xp.put_bad {s : Sp} (h : s.bad = true) (x : Xp) (v : Int) (p a : Bool) : x.put N T v p a s = s := by unfold Xp.put; rw [Fo.go_bad h]
theorem Fo.go_part {s : Sp} (op : Int) (nm : ByteArray) (kids rest : Fo) (v : Int) (p a : Bool) : ((Fo.cons op nm kids rest).go N T (.part v p a) s).2 = Xp.put N T ⟨op, nm, kids⟩ v p a s := by
  unfold Xp.put Xp.ways
  by_cases hb : s.bad = true
  · rw [Fo.go_bad hb, Fo.go_bad hb]
  · by_cases h4 : op = 4
    · rw [if_pos h4, Fo.go, if_neg hb, if_pos h4]
    · rw [if_neg h4]
      simp only [Fo.go]
      rw [if_neg hb, if_neg h4, if_neg hb]
theorem Fo.go_part_at {s : Sp} {f : Fo} (h : 0 < f.len) (v : Int) (p a : Bool) : (f.go N T (.part v p a) s).2 = (f.at_ 0).put N T v p a s := by
  cases f with
  | nil => simp [Fo.len] at h
  | cons op nm kids rest => exact Fo.go_part op nm kids rest v p a
theorem Fo.row_at {f : Fo} {i : Nat} (h : i < f.len) (s : Sp) : (f.drp i).go N T .row s = (((f.at_ i).sy N T s).1 ++ ((f.drp (i + 1)).go N T .row ((f.at_ i).sy N T s).2).1, ((f.drp (i + 1)).go N T .row ((f.at_ i).sy N T s).2).2) := by
  rw [Fo.drp_at h, Fo.go]; rfl
theorem Fo.row_end {f : Fo} {i : Nat} (h : f.len ≤ i) (s : Sp) : (f.drp i).go N T .row s = ([], s) := by rw [Fo.drp_end h, Fo.go]
theorem Fo.ways_at {f : Fo} {i : Nat} (h : i < f.len) {s : Sp} (hb : s.bad = false) (v : Int) (p a : Bool) : (f.drp i).go N T (.ways v p a) s = (f.drp (i + 1)).go N T (.ways v p a) (wayR v p a ((f.at_ i).sy N T s)) := by
  rw [Fo.drp_at h, Fo.go, if_neg (by simp [hb])]; rfl
theorem Fo.ways_end {f : Fo} {i : Nat} (h : f.len ≤ i) (s : Sp) (v : Int) (p a : Bool) : (f.drp i).go N T (.ways v p a) s = ([], s) := by rw [Fo.drp_end h, Fo.go]
theorem sy_term {s : Sp} {x : Xp} (hb : s.bad = false) (h : x.op = 1) : x.sy N T s = ([-1 - whr T x.nm], s) := by unfold Xp.sy symS; rw [if_neg (by simp [hb]), if_pos h]
theorem sy_name {s : Sp} {x : Xp} (hb : s.bad = false) (h : x.op = 2) : x.sy N T s = ([whr N x.nm], s) := by unfold Xp.sy symS; rw [if_neg (by simp [hb]), if_neg (by omega), if_pos h]
theorem sy_row {s : Sp} {x : Xp} (hb : s.bad = false) (h : x.op = 3) : x.sy N T s = x.kids.go N T .row s := by unfold Xp.sy symS; rw [if_neg (by simp [hb]), if_neg (by omega), if_neg (by omega), if_pos h]
theorem sy_full {s : Sp} {x : Xp} (hb : s.bad = false) (h1 : x.op ≠ 1) (h2 : x.op ≠ 2) (h3 : x.op ≠ 3) (h : 64 ≤ s.vars) : x.sy N T s = ([], s.gone) := by
  unfold Xp.sy symS; rw [if_neg (by simp [hb]), if_neg h1, if_neg h2, if_neg h3, if_pos h]
theorem sy_alt {s : Sp} {x : Xp} (hb : s.bad = false) (h : x.op = 4) (hv : ¬ 64 ≤ s.vars) : x.sy N T s = ([(s.vars : Int)], x.put N T s.vars true false s.more) := by
  unfold Xp.sy symS; rw [if_neg (by simp [hb]), if_neg (by omega), if_neg (by omega), if_neg (by omega), if_neg hv, if_pos h]
  unfold Xp.put Xp.ways; rw [if_pos h]
theorem sy_opt {s : Sp} {x : Xp} (hb : s.bad = false) (h : x.op = 5) (hl : 0 < x.kids.len) (hv : ¬ 64 ≤ s.vars) : x.sy N T s = ([(s.vars : Int)], (x.kids.at_ 0).put N T s.vars true false (s.more.rule s.vars [])) := by
  unfold Xp.sy symS; rw [if_neg (by simp [hb]), if_neg (by omega), if_neg (by omega), if_neg (by omega), if_neg hv, if_neg (by omega), if_neg (by omega), Fo.go_part_at hl, h]
  rfl
theorem sy_star {s : Sp} {x : Xp} (hb : s.bad = false) (h : x.op = 6) (hl : 0 < x.kids.len) (hv : ¬ 64 ≤ s.vars) : x.sy N T s = ([(s.vars : Int)], (x.kids.at_ 0).put N T s.vars false true (s.more.rule s.vars [])) := by
  unfold Xp.sy symS; rw [if_neg (by simp [hb]), if_neg (by omega), if_neg (by omega), if_neg (by omega), if_neg hv, if_neg (by omega), if_neg (by omega), Fo.go_part_at hl, h]
  rfl
theorem sy_plus {s : Sp} {x : Xp} (hb : s.bad = false) (h : x.op = 7) (hl : 0 < x.kids.len) (hv : ¬ 64 ≤ s.vars) : x.sy N T s = ([(s.vars : Int)], (x.kids.at_ 0).put N T s.vars true true s.more) := by
  unfold Xp.sy symS; rw [if_neg (by simp [hb]), if_neg (by omega), if_neg (by omega), if_neg (by omega), if_neg hv, if_neg (by omega), if_pos h, Fo.go_part_at hl, h]
  rfl

/-! What stays. -/
theorem symS_len (g : Md → Sp → List Int × Sp) (op : Int) (nm : ByteArray) (n : Nat) (hg : ∀ s, (g .row s).1.length ≤ n) (s : Sp) : (symS N T g op nm s).1.length ≤ 1 + n := by
  have := hg s
  unfold symS
  (repeat' split) <;> simp <;> omega
theorem Fo.go_len : ∀ (f : Fo) (s : Sp), (f.go N T .row s).1.length ≤ f.sz
  | .nil, s => by unfold Fo.go; exact Nat.le_refl _
  | .cons op nm kids rest, s => by
    have h1 := symS_len (N := N) (T := T) (kids.go N T) op nm kids.sz (Fo.go_len kids) s
    have h2 := Fo.go_len rest (symS N T (kids.go N T) op nm s).2
    unfold Fo.go Fo.sz
    rw [List.length_append]
    omega
theorem Xp.sy_len (x : Xp) (s : Sp) : (x.sy N T s).1.length ≤ x.sz := symS_len _ _ _ _ (Fo.go_len _) s
/-- A rule that may be. -/
def RuOk (t v : Nat) (r : Ru) : Prop := 0 ≤ r.left ∧ r.left < v ∧ r.right.length ≤ 10 ∧ ∀ y ∈ r.right, -(t : Int) ≤ y ∧ y < v
structure SpOk (t : Nat) (s : Sp) : Prop where
  few : s.vars ≤ 64
  rl : s.rules.length ≤ 160
  all : ∀ r ∈ s.rules, RuOk t s.vars r
theorem RuOk.mono {t v v' : Nat} {r : Ru} (h : RuOk t v r) (hv : v ≤ v') : RuOk t v' r := ⟨h.1, by have := h.2.1; omega, h.2.2.1, fun y hy => by have := h.2.2.2 y hy; omega⟩
/-- From one state to a later one. -/
structure Led (t : Nat) (s s' : Sp) : Prop where
  ok : SpOk t s'
  le : s.vars ≤ s'.vars
theorem Led.trans {t : Nat} {a b c : Sp} (h : Led t a b) (k : Led t b c) : Led t a c := ⟨k.ok, Nat.le_trans h.le k.le⟩
theorem Led.refl {t : Nat} {a : Sp} (h : SpOk t a) : Led t a a := ⟨h, Nat.le_refl _⟩
theorem Led.rule {t : Nat} {s : Sp} (h : SpOk t s) {v : Int} {l : List Int} (hv : 0 ≤ v ∧ v < s.vars) (hl : ∀ y ∈ l, -(t : Int) ≤ y ∧ y < s.vars) : Led t s (s.rule v l) := by
  unfold Sp.rule
  split
  · exact ⟨⟨h.few, h.rl, h.all⟩, Nat.le_refl _⟩
  · rename_i hn
    refine ⟨⟨h.few, by simp; omega, fun r hr => ?_⟩, Nat.le_refl _⟩
    rcases List.mem_append.1 hr with hr | hr
    · exact h.all r hr
    · simp at hr; subst hr; exact ⟨hv.1, hv.2, by simp; omega, hl⟩
theorem Led.gone {t : Nat} {s : Sp} (h : SpOk t s) : Led t s s.gone := ⟨⟨h.few, h.rl, h.all⟩, Nat.le_refl _⟩
theorem Led.more {t : Nat} {s : Sp} (h : SpOk t s) (hv : ¬ 64 ≤ s.vars) : Led t s s.more := ⟨⟨by show s.vars + 1 ≤ 64; omega, h.rl, fun r hr => (h.all r hr).mono (Nat.le_succ _)⟩, Nat.le_succ _⟩
theorem Led.way {t : Nat} {x : List Int × Sp} (h : SpOk t x.2) {v : Int} (p a : Bool) (hv : 0 ≤ v ∧ v < x.2.vars) (hl : ∀ y ∈ x.1, -(t : Int) ≤ y ∧ y < x.2.vars) : Led t x.2 (wayR v p a x) := by
  have h1 : Led t x.2 (wayP v p x.1 x.2) := by
    unfold wayP; split
    · exact Led.rule h hv hl
    · exact Led.refl h
  refine h1.trans ?_
  unfold wayR wayA; split
  · refine Led.rule h1.ok ⟨hv.1, by have := h1.le; omega⟩ fun y hy => ?_
    have hle := h1.le
    rcases List.mem_append.1 hy with hy | hy
    · have := hl y hy; omega
    · simp at hy; subst hy; omega
  · exact Led.refl h1.ok
/-- The nonterminals that a mode speaks of. -/
def Md.ok : Md → Nat → Prop
  | .row, _ => True
  | .ways v _ _, n => 0 ≤ v ∧ v < n
  | .part v _ _, n => 0 ≤ v ∧ v < n
theorem Md.ok.mono {m : Md} {a b : Nat} (h : m.ok a) (hab : a ≤ b) : m.ok b := by
  cases m <;> simp only [Md.ok] at h ⊢ <;> omega
def Fits (N T : List ByteArray) (f : Fo) : Prop := (∀ n ∈ f.nmd 2, n ∈ N) ∧ (∀ n ∈ f.nmd 1, n ∈ T)
theorem whr_lt (l : List ByteArray) (s : ByteArray) : whr l s < l.length ∨ l.length = 0 := by
  unfold whr
  rcases fstI_spec (fun i => decide (l[i]? = some s)) l.length with ⟨h1, h2⟩ | ⟨k, h1, h2, h3, _⟩
  · rw [h1]; omega
  · rw [h2]; omega
theorem whr_in {l : List ByteArray} {s : ByteArray} (h : s ∈ l) : 0 ≤ whr l s ∧ whr l s < l.length := by
  have h1 := (whr_mem l s).2 h
  have h2 : 0 < l.length := List.length_pos_of_mem h
  rcases whr_lt l s with h3 | h3
  · exact ⟨h1, h3⟩
  · omega
theorem symS_led {g : Md → Sp → List Int × Sp} {op : Int} {nm : ByteArray} {s : Sp} (hs : SpOk T.length s) (hN : N.length ≤ s.vars)
    (hg : ∀ (m : Md) (s : Sp), SpOk T.length s → N.length ≤ s.vars → m.ok s.vars → Led T.length s (g m s).2 ∧ ∀ y ∈ (g m s).1, -(T.length : Int) ≤ y ∧ y < (g m s).2.vars)
    (h2 : op = 2 → nm ∈ N) (h1 : op = 1 → nm ∈ T) : Led T.length s (symS N T g op nm s).2 ∧ ∀ y ∈ (symS N T g op nm s).1, -(T.length : Int) ≤ y ∧ y < (symS N T g op nm s).2.vars := by
  unfold symS
  split
  · exact ⟨Led.refl hs, by simp⟩
  split
  · rename_i h
    refine ⟨Led.refl hs, fun y hy => ?_⟩
    simp at hy; subst hy
    have := whr_in (h1 h)
    simp only
    omega
  split
  · rename_i h
    refine ⟨Led.refl hs, fun y hy => ?_⟩
    simp at hy; subst hy
    have := whr_in (h2 h)
    simp only
    omega
  split
  · exact hg .row s hs hN trivial
  split
  · exact ⟨Led.gone hs, by simp⟩
  rename_i hv
  have hm := Led.more hs hv
  have hml : s.more.vars = s.vars + 1 := rfl
  split
  · have := (hg (.ways s.vars true false) s.more hm.ok (by omega) (by simp only [Md.ok]; omega)).1
    have hle := this.le
    exact ⟨hm.trans this, fun y hy => by simp at hy; subst hy; dsimp only; omega⟩
  · have k : Led T.length s.more (if op = 7 then s.more else s.more.rule s.vars []) := by
      split
      · exact Led.refl hm.ok
      · exact Led.rule hm.ok (by omega) (by simp)
    have hk := k.le
    have := (hg (.part s.vars (decide (op ≠ 6)) (decide (op ≠ 5))) _ k.ok (by omega) (by simp only [Md.ok]; omega)).1
    have hle := this.le
    exact ⟨(hm.trans k).trans this, fun y hy => by simp at hy; subst hy; dsimp only; omega⟩
theorem Fits.cons {op : Int} {nm : ByteArray} {kids rest : Fo} (h : Fits N T (.cons op nm kids rest)) : (op = 2 → nm ∈ N) ∧ (op = 1 → nm ∈ T) ∧ Fits N T kids ∧ Fits N T rest := by
  obtain ⟨h1, h2⟩ := h
  simp only [Fo.nmd, List.mem_append] at h1 h2
  exact ⟨fun e => h1 _ (.inl (.inl (by simp [e]))), fun e => h2 _ (.inl (.inl (by simp [e]))), ⟨fun n hn => h1 n (.inl (.inr hn)), fun n hn => h2 n (.inl (.inr hn))⟩, ⟨fun n hn => h1 n (.inr hn), fun n hn => h2 n (.inr hn)⟩⟩
theorem Fo.go_led : ∀ (f : Fo), Fits N T f → ∀ (m : Md) (s : Sp), SpOk T.length s → N.length ≤ s.vars → m.ok s.vars → Led T.length s (f.go N T m s).2 ∧ ∀ y ∈ (f.go N T m s).1, -(T.length : Int) ≤ y ∧ y < (f.go N T m s).2.vars
  | .nil, _, m, s, hs, _, _ => by unfold Fo.go; exact ⟨Led.refl hs, by simp⟩
  | .cons op nm kids rest, hf, .row, s, hs, hN, _ => by
    obtain ⟨f2, f1, fk, fr⟩ := hf.cons
    obtain ⟨a1, a2⟩ := symS_led (op := op) (nm := nm) hs hN (Fo.go_led kids fk) f2 f1
    obtain ⟨b1, b2⟩ := Fo.go_led rest fr .row _ a1.ok (Nat.le_trans hN a1.le) trivial
    unfold Fo.go
    refine ⟨a1.trans b1, fun y hy => ?_⟩
    rcases List.mem_append.1 hy with hy | hy
    · have := a2 y hy; have := b1.le; simp only; omega
    · exact b2 y hy
  | .cons op nm kids rest, hf, .ways v p a, s, hs, hN, hm => by
    obtain ⟨f2, f1, fk, fr⟩ := hf.cons
    obtain ⟨a1, a2⟩ := symS_led (op := op) (nm := nm) hs hN (Fo.go_led kids fk) f2 f1
    unfold Fo.go
    split
    · exact ⟨Led.refl hs, by simp⟩
    · simp only [Md.ok] at hm
      have hl := a1.le
      have w1 := Led.way a1.ok p a (v := v) (by omega) a2
      have hl1 := w1.le
      obtain ⟨b1, b2⟩ := Fo.go_led rest fr (.ways v p a) _ w1.ok (by omega) (by simp only [Md.ok]; omega)
      exact ⟨(a1.trans w1).trans b1, b2⟩
  | .cons op nm kids rest, hf, .part v p a, s, hs, hN, hm => by
    obtain ⟨f2, f1, fk, fr⟩ := hf.cons
    obtain ⟨a1, a2⟩ := symS_led (op := op) (nm := nm) hs hN (Fo.go_led kids fk) f2 f1
    unfold Fo.go
    split
    · exact ⟨Led.refl hs, by simp⟩
    split
    · exact Fo.go_led kids fk (.ways v p a) s hs hN hm
    · simp only [Md.ok] at hm
      have hl := a1.le
      exact ⟨a1.trans (Led.way a1.ok p a (by omega) a2), by simp⟩
theorem Xp.ways_fits {x : Xp} (h2 : ∀ n ∈ x.nmd 2, n ∈ N) (h1 : ∀ n ∈ x.nmd 1, n ∈ T) : Fits N T x.ways := by
  simp only [Xp.nmd, List.mem_append] at h1 h2
  unfold Xp.ways
  split
  · exact ⟨fun n hn => h2 n (.inr hn), fun n hn => h1 n (.inr hn)⟩
  · refine ⟨fun n hn => ?_, fun n hn => ?_⟩
    · simp only [Fo.nmd, List.append_nil, List.mem_append] at hn; exact h2 n hn
    · simp only [Fo.nmd, List.append_nil, List.mem_append] at hn; exact h1 n hn
end

/-! Definitions, one behind the other. -/
def exG (N T : List ByteArray) : List Df → Nat → Sp → Sp × Int
  | [], _, s => (s, -1)
  | d :: ds, i, s => if (d.e.put N T i true false s).bad = true then (d.e.put N T i true false s, i) else exG N T ds (i + 1) (d.e.put N T i true false s)
def sp0 (ds : List Df) : Sp := ⟨ds.length, [], false⟩
def exA (ds : List Df) : Sp × Int := exG (nms ds) (trms ds) ds 0 (sp0 ds)
def exGm (ds : List Df) : Gm := if (dfl ds).1 ≠ 0 then ⟨0, 0, 0, []⟩ else if (exA ds).1.bad = true then ⟨0, 0, 0, []⟩ else ⟨(exA ds).1.vars, (trms ds).length, 0, (exA ds).1.rules⟩
def exF (ds : List Df) : Int × Int := if (dfl ds).1 ≠ 0 then dfl ds else if (exA ds).1.bad = true then (6, (exA ds).2) else (0, 0)
section
variable {N T : List ByteArray}
theorem exG_at {ds : List Df} {k : Nat} (h : k < ds.length) (s : Sp) : exG N T (ds.drop k) k s = if (ds[k].e.put N T k true false s).bad = true then (ds[k].e.put N T k true false s, (k : Int)) else exG N T (ds.drop (k + 1)) (k + 1) (ds[k].e.put N T k true false s) := by
  rw [List.drop_eq_getElem_cons h, exG]
theorem exG_end {ds : List Df} {k : Nat} (h : ds.length ≤ k) (s : Sp) : exG N T (ds.drop k) k s = (s, -1) := by rw [List.drop_of_length_le h, exG]
theorem exG_led : ∀ (ds : List Df) (i : Nat) (s : Sp), (∀ d ∈ ds, (∀ n ∈ d.e.nmd 2, n ∈ N) ∧ ∀ n ∈ d.e.nmd 1, n ∈ T) → SpOk T.length s → N.length ≤ s.vars → i + ds.length ≤ s.vars → Led T.length s (exG N T ds i s).1
  | [], i, s, _, hs, _, _ => Led.refl hs
  | d :: ds, i, s, hf, hs, hN, hi => by
    have f := hf d (by simp)
    have h1 : Led T.length s (d.e.put N T i true false s) := (Fo.go_led d.e.ways (Xp.ways_fits f.1 f.2) (.ways i true false) s hs hN (by simp only [Md.ok, List.length_cons] at *; omega)).1
    unfold exG
    split
    · exact h1
    · refine h1.trans (exG_led ds (i + 1) _ (fun e he => hf e (by simp [he])) h1.ok (Nat.le_trans hN h1.le) ?_)
      have := h1.le
      simp only [List.length_cons] at hi
      omega
theorem rsF_zero {g : Gm} : ∀ (l : List Ru) (i : Nat), (∀ r ∈ l, ruF g r = 0) → rsF g l i = (0, 0)
  | [], _, _ => rfl
  | r :: l, i, h => by
    rw [rsF, if_pos (h r (by simp))]
    exact rsF_zero l (i + 1) fun x hx => h x (by simp [hx])
/-- What comes of definitions that are right is a grammar that is right. -/
theorem dfl_zero {ds : List Df} (h : (dfl ds).1 = 0) : Fine ds ∧ (∀ d ∈ ds, (∀ n ∈ d.e.nmd 2, n ∈ nms ds) ∧ ∀ n ∈ d.e.nmd 1, n ∈ trms ds) ∧ (trms ds).length ≤ 16 ∧ (nms ds).Nodup := by
  unfold dfl at h
  split at h
  · exact absurd h (by assumption)
  rename_i hr
  split at h
  · cases h
  rename_i ht
  split at h
  · cases h
  rename_i ho
  split at h
  · cases h
  rename_i h16
  have ho' := (op_neg ds).1 ho
  exact ⟨(rflt_zero (by simpa using hr)).1, fun d hd => ⟨ho' d hd, fun n hn => trms_mem.2 ⟨d, hd, hn⟩⟩, by omega, (tw_neg ds).1 ht⟩
theorem exA_ok {ds : List Df} (h : (dfl ds).1 = 0) : SpOk (trms ds).length (exA ds).1 ∧ ds.length ≤ (exA ds).1.vars := by
  obtain ⟨hf, ha, _⟩ := dfl_zero h
  have := exG_led ds 0 (sp0 ds) ha ⟨by have := hf.few; simp [sp0]; omega, by simp [sp0], by simp [sp0]⟩ (by rw [nms_len]; simp [sp0]) (by simp [sp0])
  exact ⟨this.ok, this.le⟩
theorem exGm_right {ds : List Df} (h : (dfl ds).1 = 0) (hb : (exA ds).1.bad = false) : (gFl (exGm ds)).1 = 0 := by
  obtain ⟨ok, hv⟩ := exA_ok h
  obtain ⟨hf, _, ht, _⟩ := dfl_zero h
  have hp := hf.pos
  have hfew := ok.few
  unfold exGm
  rw [if_neg (by simpa using h), if_neg (by simp [hb])]
  unfold gFl szB
  rw [if_pos (by simp; omega), if_neg (by have := ok.rl; simp only; omega)]
  rw [rsF_zero]
  intro r hr
  obtain ⟨r1, r2, r3, r4⟩ := ok.all r hr
  unfold ruF
  refine (if_neg (by omega)).trans (if_pos ⟨⟨r1, by simpa using r2⟩, ?_⟩)
  rw [List.all_eq_true]
  intro y hy
  have := r4 y hy
  simp only [syB, decide_eq_true_eq]
  omega
end
end Go.Proofs.Ytcanphhmflbdmac
