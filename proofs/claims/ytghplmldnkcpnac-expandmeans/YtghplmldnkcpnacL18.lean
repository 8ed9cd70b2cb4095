/- What a definition says its nonterminal has: rule by rule. -/
import Derived.Test.YtghplmldnkcpnacL17
namespace Go.Proofs.Ytghplmldnkcpnac
open Go.RowKit G

/-- From one state to a later one: the rules that have come. -/
structure Grw (m : Option Int) (s s' : Sp) (D : List Ru) : Prop where
  eq : s'.rules = s.rules ++ D
  le : s.vars ≤ s'.vars
  lf : ∀ r ∈ D, m = some r.left ∨ ((s.vars : Int) ≤ r.left ∧ r.left < s'.vars)
theorem Grw.refl (m : Option Int) (s : Sp) : Grw m s s [] := ⟨by simp, Nat.le_refl _, by simp⟩
theorem Grw.trans {m : Option Int} {a b c : Sp} {D E : List Ru} (h : Grw m a b D) (k : Grw m b c E) : Grw m a c (D ++ E) := by
  refine ⟨by rw [k.eq, h.eq, List.append_assoc], Nat.le_trans h.le k.le, fun r hr => ?_⟩
  have h1 := h.le
  have h2 := k.le
  rcases List.mem_append.1 hr with hr | hr
  · rcases h.lf r hr with e | e
    · exact .inl e
    · exact .inr (by omega)
  · rcases k.lf r hr with e | e
    · exact .inl e
    · exact .inr (by omega)
theorem Grw.of_none {m : Option Int} {a b : Sp} {D : List Ru} (h : Grw none a b D) : Grw m a b D := ⟨h.eq, h.le, fun r hr => (h.lf r hr).elim (fun e => by cases e) .inr⟩
theorem Grw.uniq {m m' : Option Int} {a b : Sp} {D E : List Ru} (h : Grw m a b D) (k : Grw m' a b E) : D = E := List.append_cancel_left (h.eq.symm.trans k.eq)
theorem Grw.gone (m : Option Int) (s : Sp) : Grw m s s.gone [] := ⟨by simp [Sp.gone], Nat.le_refl _, by simp⟩
theorem Grw.rule (s : Sp) (v : Int) (l : List Int) : ∃ D, Grw (some v) s (s.rule v l) D ∧ ((s.rule v l).bad = false → D = [⟨v, l⟩]) := by
  unfold Sp.rule
  split
  · exact ⟨[], ⟨by simp, Nat.le_refl _, by simp⟩, fun h => by simp at h⟩
  · exact ⟨[⟨v, l⟩], ⟨rfl, Nat.le_refl _, fun r hr => .inl (by simp at hr; rw [hr])⟩, fun _ => rfl⟩
theorem rule_nb {s : Sp} {v : Int} {l : List Int} (h : (s.rule v l).bad = false) : s.bad = false := by
  cases hb : s.bad with
  | false => rfl
  | true => rw [rule_bad hb, hb] at h; cases h
def mv : Md → Option Int
  | .row => none
  | .ways v _ _ => some v
  | .part v _ _ => some v
/-- The rules of one way. -/
def wyD (v : Int) (p a : Bool) (l : List Int) : List Ru := (if p = true then [⟨v, l⟩] else []) ++ if a = true then [⟨v, l ++ [v]⟩] else []
theorem Grw.way (v : Int) (p a : Bool) (x : List Int × Sp) : ∃ D, Grw (some v) x.2 (wayR v p a x) D ∧ ((wayR v p a x).bad = false → x.2.bad = false ∧ D = wyD v p a x.1) := by
  unfold wayR wayA wayP wyD
  cases p <;> cases a <;> simp only [Bool.false_eq_true, if_false, if_true]
  · exact ⟨[], Grw.refl _ _, fun h => ⟨h, rfl⟩⟩
  · obtain ⟨D, h1, h2⟩ := Grw.rule x.2 v (x.1 ++ [v])
    exact ⟨D, h1, fun h => ⟨rule_nb h, by rw [h2 h]; rfl⟩⟩
  · obtain ⟨D, h1, h2⟩ := Grw.rule x.2 v x.1
    exact ⟨D, h1, fun h => ⟨rule_nb h, by rw [h2 h]; rfl⟩⟩
  · obtain ⟨D, h1, h2⟩ := Grw.rule x.2 v x.1
    obtain ⟨E, h3, h4⟩ := Grw.rule (x.2.rule v x.1) v (x.1 ++ [v])
    exact ⟨D ++ E, h1.trans h3, fun h => ⟨rule_nb (rule_nb h), by rw [h2 (rule_nb h), h4 h]⟩⟩
section
variable {N T : List ByteArray}
theorem symS_grw {g : Md → Sp → List Int × Sp} (hg : ∀ m s, ∃ D, Grw (mv m) s (g m s).2 D) (op : Int) (nm : ByteArray) (s : Sp) : ∃ D, Grw none s (symS N T g op nm s).2 D := by
  have more : ∀ {t : Sp} {D : List Ru}, Grw (some (s.vars : Int)) s.more t D → Grw none s t D := fun {t D} h => by
    have h1 := h.le
    have h2 : s.more.vars = s.vars + 1 := rfl
    refine ⟨h.eq, by omega, fun r hr => .inr ?_⟩
    rcases h.lf r hr with e | e
    · simp at e; omega
    · omega
  unfold symS
  split
  · exact ⟨[], Grw.refl _ _⟩
  split
  · exact ⟨[], Grw.refl _ _⟩
  split
  · exact ⟨[], Grw.refl _ _⟩
  split
  · exact hg .row s
  split
  · exact ⟨[], Grw.gone _ _⟩
  split
  · obtain ⟨D, h⟩ := hg (.ways s.vars true false) s.more
    exact ⟨D, more h⟩
  · split
    · obtain ⟨D, h⟩ := hg (.part s.vars (decide (op ≠ 6)) (decide (op ≠ 5))) s.more
      exact ⟨D, more h⟩
    · obtain ⟨D, h⟩ := hg (.part s.vars (decide (op ≠ 6)) (decide (op ≠ 5))) (s.more.rule s.vars [])
      obtain ⟨E, k, _⟩ := Grw.rule s.more s.vars []
      exact ⟨E ++ D, more (k.trans h)⟩
theorem Fo.go_grw : ∀ (f : Fo) (m : Md) (s : Sp), ∃ D, Grw (mv m) s (f.go N T m s).2 D
  | .nil, m, s => by unfold Fo.go; exact ⟨[], Grw.refl _ _⟩
  | .cons op nm kids rest, .row, s => by
    obtain ⟨D, h⟩ := symS_grw (N := N) (T := T) (Fo.go_grw kids) op nm s
    obtain ⟨E, k⟩ := Fo.go_grw rest .row (symS N T (kids.go N T) op nm s).2
    unfold Fo.go
    exact ⟨D ++ E, h.trans k⟩
  | .cons op nm kids rest, .ways v p a, s => by
    obtain ⟨D, h⟩ := symS_grw (N := N) (T := T) (Fo.go_grw kids) op nm s
    obtain ⟨F, k, _⟩ := Grw.way v p a (symS N T (kids.go N T) op nm s)
    obtain ⟨E, k'⟩ := Fo.go_grw rest (.ways v p a) (wayR v p a (symS N T (kids.go N T) op nm s))
    unfold Fo.go
    split
    · exact ⟨[], Grw.refl _ _⟩
    · exact ⟨(D ++ F) ++ E, (Grw.trans h.of_none k).trans k'⟩
  | .cons op nm kids rest, .part v p a, s => by
    obtain ⟨D, h⟩ := symS_grw (N := N) (T := T) (Fo.go_grw kids) op nm s
    obtain ⟨F, k, _⟩ := Grw.way v p a (symS N T (kids.go N T) op nm s)
    unfold Fo.go
    split
    · exact ⟨[], Grw.refl _ _⟩
    split
    · exact Fo.go_grw kids (.ways v p a) s
    · exact ⟨D ++ F, Grw.trans h.of_none k⟩
theorem go_nb {f : Fo} {m : Md} {s : Sp} (h : (f.go N T m s).2.bad = false) : s.bad = false := by
  cases hb : s.bad with
  | false => rfl
  | true => rw [Fo.go_bad hb] at h; rw [hb] at h; cases h
theorem symS_nb {g : Md → Sp → List Int × Sp} {op : Int} {nm : ByteArray} {s : Sp} (h : (symS N T g op nm s).2.bad = false) : s.bad = false := by
  cases hb : s.bad with
  | false => rfl
  | true => rw [symS_bad hb] at h; rw [hb] at h; cases h
end
/-- The rules that have come are the last grammar's; and it has no others of the new nonterminals. -/
structure Cv (R : List Ru) (s s' : Sp) (D : List Ru) : Prop where
  sub : ∀ r ∈ D, r ∈ R
  all : ∀ r ∈ R, (s.vars : Int) ≤ r.left → r.left < s'.vars → r ∈ D
theorem Cv.split {R : List Ru} {m : Option Int} {a b c : Sp} {D E : List Ru} (hc : Cv R a c (D ++ E)) (h : Grw m a b D) (k : Grw m b c E) (hm : ∀ v, m = some v → v < a.vars) : Cv R a b D ∧ Cv R b c E := by
  have h1 := h.le
  have h2 := k.le
  refine ⟨⟨fun r hr => hc.sub r (List.mem_append.2 (.inl hr)), fun r hr l1 l2 => ?_⟩, ⟨fun r hr => hc.sub r (List.mem_append.2 (.inr hr)), fun r hr l1 l2 => ?_⟩⟩
  · rcases List.mem_append.1 (hc.all r hr l1 (by omega)) with e | e
    · exact e
    · rcases k.lf r e with e' | e'
      · have := hm _ e'; omega
      · omega
  · rcases List.mem_append.1 (hc.all r hr (by omega) l2) with e | e
    · rcases h.lf r e with e' | e'
      · have := hm _ e'; omega
      · omega
    · exact e

section
variable (N T : List ByteArray) (W : List Int) (X : List ByteArray) (R : List Ru) (I : Int → Nat → Nat → Prop)
def OrH (h : Nat) : Prop := ∀ (k : Int) (i j : Nat), 0 ≤ k → k < N.length → itG W R h k i j → I k i j
def OrC : Prop := ∀ (k : Int) (i j : Nat), 0 ≤ k → k < N.length → I k i j → DG W R k i j
def MSym (op : Int) (nm : ByteArray) (kids : Fo) : Prop := ∀ (s : Sp) (D : List Ru), (symS N T (kids.go N T) op nm s).2.bad = false → N.length ≤ s.vars → Grw none s (symS N T (kids.go N T) op nm s).2 D → Cv R s (symS N T (kids.go N T) op nm s).2 D →
  (∀ h, OrH N W R I h → ∀ i j, chP W (itG W R h) (symS N T (kids.go N T) op nm s).1 i j → xsP N X I op nm (kids.sm N X I) i j) ∧ (OrC N W R I → ∀ i j, xsP N X I op nm (kids.sm N X I) i j → chP W (DG W R) (symS N T (kids.go N T) op nm s).1 i j)
def MRow (f : Fo) : Prop := ∀ (s : Sp) (D : List Ru), (f.go N T .row s).2.bad = false → N.length ≤ s.vars → Grw none s (f.go N T .row s).2 D → Cv R s (f.go N T .row s).2 D →
  (∀ h, OrH N W R I h → ∀ i j, chP W (itG W R h) (f.go N T .row s).1 i j → f.sm N X I .row i j) ∧ (OrC N W R I → ∀ i j, f.sm N X I .row i j → chP W (DG W R) (f.go N T .row s).1 i j)
/-- What the rules of v that came say. -/
def MWy (v : Int) (p a : Bool) (Q : Nat → Nat → Prop) (D : List Ru) : Prop :=
  (∀ h, OrH N W R I h → ∀ r ∈ D, r.left = v → ∀ i j, chP W (itG W R h) r.right i j → (p = true ∧ Q i j) ∨ (a = true ∧ ∃ m, i ≤ m ∧ Q i m ∧ itG W R h v m j)) ∧
  (OrC N W R I → (p = true → ∀ i j, Q i j → ∃ r ∈ D, r.left = v ∧ chP W (DG W R) r.right i j) ∧ (a = true → ∀ i m j, Q i m → DG W R v m j → ∃ r ∈ D, r.left = v ∧ chP W (DG W R) r.right i j))
def MWays (f : Fo) : Prop := ∀ (v : Int) (p a : Bool) (s : Sp) (D : List Ru), (f.go N T (.ways v p a) s).2.bad = false → N.length ≤ s.vars → 0 ≤ v → v < s.vars → Grw (some v) s (f.go N T (.ways v p a) s).2 D → Cv R s (f.go N T (.ways v p a) s).2 D → MWy N W R I v p a (f.sm N X I .any) D
def MPart (f : Fo) : Prop := ∀ (v : Int) (p a : Bool) (s : Sp) (D : List Ru), (f.go N T (.part v p a) s).2.bad = false → N.length ≤ s.vars → 0 ≤ v → v < s.vars → Grw (some v) s (f.go N T (.part v p a) s).2 D → Cv R s (f.go N T (.part v p a) s).2 D → MWy N W R I v p a (f.sm N X I .fst) D
variable {N T W X R I}
theorem sm_any_cons {op : Int} {nm : ByteArray} {kids rest : Fo} : (Fo.cons op nm kids rest).sm N X I .any = fun i j => xsP N X I op nm (kids.sm N X I) i j ∨ rest.sm N X I .any i j := by funext i j; rw [Fo.sm]
theorem sm_fst_cons {op : Int} {nm : ByteArray} {kids rest : Fo} : (Fo.cons op nm kids rest).sm N X I .fst = xsP N X I op nm (kids.sm N X I) := by funext i j; rw [Fo.sm]
theorem OrH.down {h h' : Nat} (ho : OrH N W R I h) (hh : h' ≤ h) : OrH N W R I h' := fun k i j h1 h2 h3 => ho k i j h1 h2 (itG_mono hh h3)
/-- The rules of one way. -/
theorem mwy_one {v : Int} {p a : Bool} (hv : 0 ≤ v) {l : List Int} {Q : Nat → Nat → Prop} (h1 : ∀ h, OrH N W R I h → ∀ i j, chP W (itG W R h) l i j → Q i j) (h2 : OrC N W R I → ∀ i j, Q i j → chP W (DG W R) l i j) : MWy N W R I v p a Q (wyD v p a l) := by
  unfold wyD
  refine ⟨fun h ho r hr hl i j hc => ?_, fun ho => ⟨fun hp i j hq => ?_, fun ha i m j hq hd => ?_⟩⟩
  · rcases List.mem_append.1 hr with hr | hr
    · cases p with
      | false => simp at hr
      | true =>
        simp at hr; subst hr
        exact .inl ⟨rfl, h1 h ho i j hc⟩
    · cases a with
      | false => simp at hr
      | true =>
        simp at hr; subst hr
        obtain ⟨m, c1, c2⟩ := chP_app.1 hc
        obtain ⟨_, c3⟩ := chP_one.1 c2
        unfold syP at c3
        rw [if_pos hv] at c3
        exact .inr ⟨rfl, m, c1.le, h1 h ho i m c1, c3⟩
  · subst hp
    exact ⟨⟨v, l⟩, by simp, rfl, h2 ho i j hq⟩
  · subst ha
    refine ⟨⟨v, l ++ [v]⟩, by simp, rfl, chP_app.2 ⟨m, h2 ho i m hq, chP_one.2 ⟨hd.le, ?_⟩⟩⟩
    unfold syP
    rw [if_pos hv]; exact hd
theorem MWy.app {v : Int} {p a : Bool} {Q Q' : Nat → Nat → Prop} {D E : List Ru} (h : MWy N W R I v p a Q D) (k : MWy N W R I v p a Q' E) : MWy N W R I v p a (fun i j => Q i j ∨ Q' i j) (D ++ E) := by
  refine ⟨fun n ho r hr hl i j hc => ?_, fun ho => ⟨fun hp i j hq => ?_, fun ha i m j hq hd => ?_⟩⟩
  · rcases List.mem_append.1 hr with hr | hr
    · exact (h.1 n ho r hr hl i j hc).imp (fun ⟨x, y⟩ => ⟨x, .inl y⟩) fun ⟨x, m, l, y, z⟩ => ⟨x, m, l, .inl y, z⟩
    · exact (k.1 n ho r hr hl i j hc).imp (fun ⟨x, y⟩ => ⟨x, .inr y⟩) fun ⟨x, m, l, y, z⟩ => ⟨x, m, l, .inr y, z⟩
  · rcases hq with hq | hq
    · obtain ⟨r, h1, h2⟩ := (h.2 ho).1 hp i j hq
      exact ⟨r, List.mem_append.2 (.inl h1), h2⟩
    · obtain ⟨r, h1, h2⟩ := (k.2 ho).1 hp i j hq
      exact ⟨r, List.mem_append.2 (.inr h1), h2⟩
  · rcases hq with hq | hq
    · obtain ⟨r, h1, h2⟩ := (h.2 ho).2 ha i m j hq hd
      exact ⟨r, List.mem_append.2 (.inl h1), h2⟩
    · obtain ⟨r, h1, h2⟩ := (k.2 ho).2 ha i m j hq hd
      exact ⟨r, List.mem_append.2 (.inr h1), h2⟩
/-- Rules of other nonterminals ahead of them count nothing. -/
theorem MWy.other {v : Int} {p a : Bool} {Q : Nat → Nat → Prop} {D E : List Ru} (h : MWy N W R I v p a Q E) (hD : ∀ r ∈ D, r.left ≠ v) : MWy N W R I v p a Q (D ++ E) := by
  refine ⟨fun n ho r hr hl i j hc => ?_, fun ho => ⟨fun hp i j hq => ?_, fun ha i m j hq hd => ?_⟩⟩
  · rcases List.mem_append.1 hr with hr | hr
    · exact absurd hl (hD r hr)
    · exact h.1 n ho r hr hl i j hc
  · obtain ⟨r, h1, h2⟩ := (h.2 ho).1 hp i j hq
    exact ⟨r, List.mem_append.2 (.inr h1), h2⟩
  · obtain ⟨r, h1, h2⟩ := (h.2 ho).2 ha i m j hq hd
    exact ⟨r, List.mem_append.2 (.inr h1), h2⟩
theorem mrow_cons {op : Int} {nm : ByteArray} {kids rest : Fo} (hx : MSym N T W X R I op nm kids) (hr : MRow N T W X R I rest) : MRow N T W X R I (.cons op nm kids rest) := by
  intro s D hb hN hg hc
  obtain ⟨D1, g1⟩ := symS_grw (N := N) (T := T) (Fo.go_grw kids) op nm s
  obtain ⟨D2, g2⟩ := Fo.go_grw (N := N) (T := T) rest .row (symS N T (kids.go N T) op nm s).2
  unfold Fo.go at hb hg hc ⊢
  simp only at hb hg hc ⊢
  obtain rfl := hg.uniq (g1.trans g2)
  obtain ⟨c1, c2⟩ := hc.split g1 g2 (fun v h => by cases h)
  have hb1 := go_nb hb
  obtain ⟨x1, x2⟩ := hx s D1 hb1 hN g1 c1
  obtain ⟨r1, r2⟩ := hr _ D2 hb (Nat.le_trans hN g1.le) g2 c2
  refine ⟨fun h ho i j hcp => ?_, fun ho i j hs => ?_⟩
  · obtain ⟨m, p1, p2⟩ := chP_app.1 hcp
    unfold Fo.sm
    exact ⟨m, p1.le, p2.le, x1 h ho i m p1, r1 h ho m j p2⟩
  · unfold Fo.sm at hs
    obtain ⟨m, _, _, s1, s2⟩ := hs
    exact chP_app.2 ⟨m, x2 ho i m s1, r2 ho m j s2⟩
theorem mway_step {op : Int} {nm : ByteArray} {kids : Fo} (hx : MSym N T W X R I op nm kids) {v : Int} {p a : Bool} {s : Sp} (hN : N.length ≤ s.vars) (hv : 0 ≤ v) (hvs : v < s.vars) (hb : (wayR v p a (symS N T (kids.go N T) op nm s)).bad = false) :
    ∃ D, Grw (some v) s (wayR v p a (symS N T (kids.go N T) op nm s)) D ∧ (Cv R s (wayR v p a (symS N T (kids.go N T) op nm s)) D → MWy N W R I v p a (xsP N X I op nm (kids.sm N X I)) D) := by
  obtain ⟨D1, g1⟩ := symS_grw (N := N) (T := T) (Fo.go_grw kids) op nm s
  obtain ⟨D2, g2, w2⟩ := Grw.way v p a (symS N T (kids.go N T) op nm s)
  refine ⟨D1 ++ D2, Grw.trans g1.of_none g2, fun hc => ?_⟩
  obtain ⟨hb1, rfl⟩ := w2 hb
  obtain ⟨c1, _⟩ := hc.split g1.of_none g2 (fun u h => by simp at h; omega)
  obtain ⟨x1, x2⟩ := hx s D1 hb1 hN g1 c1
  refine (mwy_one hv x1 x2).other fun r hr e => ?_
  rcases g1.lf r hr with h | h
  · cases h
  · omega
theorem mways_cons {op : Int} {nm : ByteArray} {kids rest : Fo} (hx : MSym N T W X R I op nm kids) (hr : MWays N T W X R I rest) : MWays N T W X R I (.cons op nm kids rest) := by
  intro v p a s D hb hN hv hvs hg hc
  have hsb := go_nb hb
  unfold Fo.go at hb hg hc
  rw [if_neg (by simp [hsb])] at hb hg hc
  obtain ⟨D1, g1, m1⟩ := mway_step hx hN hv hvs (p := p) (a := a) (go_nb hb)
  obtain ⟨D2, g2⟩ := Fo.go_grw (N := N) (T := T) rest (.ways v p a) (wayR v p a (symS N T (kids.go N T) op nm s))
  obtain rfl := hg.uniq (g1.trans g2)
  obtain ⟨c1, c2⟩ := hc.split g1 g2 (fun u h => by simp at h; omega)
  have hl := g1.le
  have := (m1 c1).app (hr v p a _ D2 hb (Nat.le_trans hN g1.le) hv (by omega) g2 c2)
  rw [sm_any_cons]
  exact this
theorem mpart_cons {op : Int} {nm : ByteArray} {kids rest : Fo} (hx : MSym N T W X R I op nm kids) (hk : MWays N T W X R I kids) : MPart N T W X R I (.cons op nm kids rest) := by
  intro v p a s D hb hN hv hvs hg hc
  have hsb := go_nb hb
  unfold Fo.go at hb hg hc
  rw [if_neg (by simp [hsb])] at hb hg hc
  by_cases h4 : op = 4
  · rw [if_pos h4] at hb hg hc
    have := hk v p a s D hb hN hv hvs hg hc
    have e : (Fo.cons op nm kids rest).sm N X I .fst = kids.sm N X I .any := by
      funext i j
      rw [sm_fst_cons]
      unfold xsP
      rw [if_neg (by omega), if_neg (by omega), if_pos h4]
    rw [e]; exact this
  · rw [if_neg h4] at hb hg hc
    obtain ⟨D1, g1, m1⟩ := mway_step hx hN hv hvs (p := p) (a := a) hb
    obtain rfl := hg.uniq g1
    have e : (Fo.cons op nm kids rest).sm N X I .fst = xsP N X I op nm (kids.sm N X I) := sm_fst_cons
    rw [e]; exact m1 hc
/-- The word, by its terminals' numbers and by their texts. -/
def Wrd (T : List ByteArray) (W : List Int) (X : List ByteArray) : Prop := ∀ (i : Nat) (nm : ByteArray), nm ∈ T → (X[i]? = some nm ↔ W[i]? = some (whr T nm))
/-- A new nonterminal: all rules of it. -/
theorem new_all {s s' : Sp} {D : List Ru} (hc : Cv R s s' D) (hle : s.vars < s'.vars) {r : Ru} (hr : r ∈ R) (hl : r.left = (s.vars : Int)) : r ∈ D := hc.all r hr (by omega) (by omega)
theorem Cv.more {s s' : Sp} {D : List Ru} (hc : Cv R s s' D) : Cv R s.more s' D := ⟨hc.sub, fun r hr h1 h2 => hc.all r hr (by have : (s.more.vars : Int) = s.vars + 1 := rfl; omega) h2⟩
theorem sy_var {P : Int → Nat → Nat → Prop} {v : Nat} {i j : Nat} : chP W P [(v : Int)] i j ↔ i ≤ j ∧ P v i j := by
  rw [chP_one]
  unfold syP
  rw [if_pos (by omega)]
theorem msym {op : Int} {nm : ByteArray} {kids : Fo} (hW : Wrd T W X) (ho : 1 ≤ op ∧ op ≤ 7) (h1 : op = 1 → nm ∈ T) (h2 : op = 2 → nm ∈ N) (kr : MRow N T W X R I kids) (kw : MWays N T W X R I kids) (kp : MPart N T W X R I kids) : MSym N T W X R I op nm kids := by
  intro s D hb hN hg hc
  have hsb := symS_nb hb
  unfold symS at hb hg hc ⊢
  rw [if_neg (by simp [hsb])] at hb hg hc ⊢
  unfold xsP
  by_cases e1 : op = 1
  · rw [if_pos e1] at hb hg hc ⊢
    have hn := h1 e1
    have hw := whr_in hn
    simp only [if_pos e1]
    have key : ∀ (P : Int → Nat → Nat → Prop) i j, chP W P [-1 - whr T nm] i j ↔ j = i + 1 ∧ X[i]? = some nm := fun P i j => by
      rw [chP_one]
      unfold syP
      rw [if_neg (by omega), show -1 - (-1 - whr T nm) = whr T nm by omega, hW i nm hn]
      exact ⟨fun h => h.2, fun h => ⟨by omega, h⟩⟩
    exact ⟨fun h _ i j hcp => (key _ i j).1 hcp, fun _ i j hs => (key _ i j).2 hs⟩
  by_cases e2 : op = 2
  · rw [if_neg e1, if_pos e2] at hb hg hc ⊢
    simp only [if_neg e1, if_pos e2]
    have hw := whr_in (h2 e2)
    refine ⟨fun h hoh i j hcp => ?_, fun hoc i j hs => ?_⟩
    · have hcp : chP W (itG W R h) [whr N nm] i j := hcp
      rw [chP_one] at hcp
      unfold syP at hcp
      rw [if_pos hw.1] at hcp
      exact hoh _ i j hw.1 hw.2 hcp.2
    · show chP W (DG W R) [whr N nm] i j
      have hd := hoc _ i j hw.1 hw.2 hs
      rw [chP_one]
      unfold syP
      rw [if_pos hw.1]
      exact ⟨hd.le, hd⟩
  by_cases e3 : op = 3
  · rw [if_neg e1, if_neg e2, if_pos e3] at hb hg hc ⊢
    simp only [if_neg e1, if_neg e2, if_neg (show ¬ op = 4 by omega), if_neg (show ¬ op = 5 by omega), if_neg (show ¬ op = 6 by omega), if_neg (show ¬ op = 7 by omega)]
    exact kr s D hb hN hg hc
  rw [if_neg e1, if_neg e2, if_neg e3] at hb hg hc ⊢
  by_cases hv : 64 ≤ s.vars
  · rw [if_pos hv] at hb
    cases hb
  rw [if_neg hv] at hb hg hc ⊢
  have hm : s.more.vars = s.vars + 1 := rfl
  simp only [if_neg e1, if_neg e2]
  by_cases e4 : op = 4
  · rw [if_pos e4] at hb hg hc ⊢
    simp only [if_pos e4] at hb hg hc ⊢
    obtain ⟨D', g'⟩ := Fo.go_grw (N := N) (T := T) kids (.ways s.vars true false) s.more
    have hD : D = D' := List.append_cancel_left (hg.eq.symm.trans g'.eq)
    subst hD
    have hle := g'.le
    obtain ⟨m1, m2⟩ := kw s.vars true false s.more D hb (by omega) (by omega) (by omega) g' hc.more
    refine ⟨fun h hoh i j hcp => ?_, fun hoc i j hs => ?_⟩
    · obtain ⟨_, hcp⟩ := sy_var.1 hcp
      cases h with
      | zero => exact hcp.elim
      | succ h =>
        obtain ⟨r, r1, r2, r3⟩ := hcp
        rcases m1 h (hoh.down (Nat.le_succ _)) r (new_all hc (by omega) r1 r2) r2 i j r3 with ⟨_, q⟩ | ⟨q, _⟩
        · exact q
        · cases q
    · obtain ⟨r, r1, r2, r3⟩ := (m2 hoc).1 rfl i j hs
      exact sy_var.2 ⟨r3.le, DG_of ⟨r, hc.sub r r1, r2, r3⟩⟩
  rw [if_neg e4] at hb hg hc ⊢
  simp only [if_neg e4] at hb hg hc ⊢
  -- the rule without symbols, where there is one; then those of the part
  obtain ⟨E, gE, hE⟩ : ∃ E, Grw (some (s.vars : Int)) s.more (if op = 7 then s.more else s.more.rule s.vars []) E ∧ ((if op = 7 then s.more else s.more.rule s.vars []).bad = false → E = if op = 7 then [] else [⟨(s.vars : Int), []⟩]) := by
    split
    · exact ⟨[], Grw.refl _ _, fun _ => rfl⟩
    · exact Grw.rule s.more s.vars []
  obtain ⟨D', g'⟩ := Fo.go_grw (N := N) (T := T) kids (.part s.vars (decide (op ≠ 6)) (decide (op ≠ 5))) (if op = 7 then s.more else s.more.rule s.vars [])
  have hD : D = E ++ D' := List.append_cancel_left (hg.eq.symm.trans (gE.trans g').eq)
  subst hD
  obtain rfl := hE (go_nb hb)
  have hle := g'.le
  have hleE := gE.le
  obtain ⟨_, c2⟩ := hc.more.split gE g' (fun u h => by simp at h; omega)
  obtain ⟨m1, m2⟩ := kp s.vars (decide (op ≠ 6)) (decide (op ≠ 5)) _ D' hb (by omega) (by omega) (by omega) g' c2
  have hlt : s.vars < (kids.go N T (.part s.vars (decide (op ≠ 6)) (decide (op ≠ 5))) (if op = 7 then s.more else s.more.rule s.vars [])).2.vars := by omega
  have allR : ∀ r ∈ R, r.left = (s.vars : Int) → r ∈ (if op = 7 then ([] : List Ru) else [⟨(s.vars : Int), []⟩]) ++ D' := fun r hr hl => new_all hc hlt hr hl
  have subR : ∀ r ∈ (if op = 7 then ([] : List Ru) else [⟨(s.vars : Int), []⟩]) ++ D', r ∈ R := hc.sub
  have ruleD : OrC N W R I → ∀ i j, (∃ r ∈ D', r.left = (s.vars : Int) ∧ chP W (DG W R) r.right i j) → DG W R s.vars i j := fun _ i j ⟨r, r1, r2, r3⟩ => DG_of ⟨r, subR r (List.mem_append.2 (.inr r1)), r2, r3⟩
  clear hb hg hc g' gE c2 hE
  generalize kids.sm N X I .fst = Q at *
  by_cases e5 : op = 5
  · subst e5
    simp only [show ¬ ((5 : Int) = 7) by decide, if_false, if_true, show decide ((5 : Int) ≠ 6) = true by decide, show decide ((5 : Int) ≠ 5) = false by decide] at *
    refine ⟨fun h hoh i j hcp => ?_, fun hoc i j hs => ?_⟩
    · obtain ⟨_, hcp⟩ := sy_var.1 hcp
      cases h with
      | zero => exact hcp.elim
      | succ h =>
        obtain ⟨r, r1, r2, r3⟩ := hcp
        rcases List.mem_append.1 (allR r r1 r2) with r4 | r4
        · simp at r4; subst r4; exact .inl r3
        · rcases m1 h (hoh.down (Nat.le_succ _)) r r4 r2 i j r3 with ⟨_, q⟩ | ⟨q, _⟩
          · exact .inr q
          · cases q
    · rcases hs with hs | hs
      · exact sy_var.2 ⟨Nat.le_of_eq hs, DG_of ⟨⟨s.vars, []⟩, subR _ (by simp), rfl, hs⟩⟩
      · have hd := ruleD hoc i j ((m2 hoc).1 trivial i j hs)
        exact sy_var.2 ⟨hd.le, hd⟩
  by_cases e6 : op = 6
  · subst e6
    simp only [show ¬ ((6 : Int) = 7) by decide, show ¬ ((6 : Int) = 5) by decide, if_false, if_true, show decide ((6 : Int) ≠ 6) = false by decide, show decide ((6 : Int) ≠ 5) = true by decide] at *
    refine ⟨fun h hoh i j hcp => ?_, fun hoc i j hs => ?_⟩
    · obtain ⟨_, hcp⟩ := sy_var.1 hcp
      have all : ∀ h', h' ≤ h → ∀ i j, itG W R h' s.vars i j → StP Q i j := fun h' => by
        induction h' with
        | zero => exact fun _ _ _ hi => hi.elim
        | succ h' ih =>
          intro hh i j hi
          obtain ⟨r, r1, r2, r3⟩ := hi
          rcases List.mem_append.1 (allR r r1 r2) with r4 | r4
          · simp at r4; subst r4
            have r3 : i = j := r3
            subst r3; exact .nil _
          · rcases m1 h' (hoh.down (by omega)) r r4 r2 i j r3 with ⟨q, _⟩ | ⟨_, m, hq, q1, q2⟩
            · cases q
            · have st := ih (by omega) m j q2
              have hle1 := st.le
              rcases Nat.lt_or_eq_of_le hq with hlt | heq
              · exact .cons hlt hle1 q1 st
              · subst heq; exact st
      exact all h (Nat.le_refl _) i j hcp
    · have hd : DG W R s.vars i j := by
        induction hs with
        | nil i => exact DG_of ⟨⟨s.vars, []⟩, subR _ (by simp), rfl, rfl⟩
        | cons _ _ c _ ih => exact ruleD hoc _ _ ((m2 hoc).2 trivial _ _ _ c ih)
      exact sy_var.2 ⟨hd.le, hd⟩
  · have e7 : op = 7 := by omega
    subst e7
    simp only [show ¬ ((7 : Int) = 6) by decide, show ¬ ((7 : Int) = 5) by decide, if_false, if_true, List.nil_append, show decide ((7 : Int) ≠ 6) = true by decide, show decide ((7 : Int) ≠ 5) = true by decide] at *
    refine ⟨fun h hoh i j hcp => ?_, fun hoc i j hs => ?_⟩
    · obtain ⟨_, hcp⟩ := sy_var.1 hcp
      have all : ∀ h', h' ≤ h → ∀ i j, itG W R h' s.vars i j → PlP Q i j := fun h' => by
        induction h' with
        | zero => exact fun _ _ _ hi => hi.elim
        | succ h' ih =>
          intro hh i j hi
          obtain ⟨r, r1, r2, r3⟩ := hi
          have hij := r3.le
          rcases m1 h' (hoh.down (by omega)) r (allR r r1 r2) r2 i j r3 with ⟨_, q⟩ | ⟨_, m, hq, q1, q2⟩
          · rcases Nat.lt_or_eq_of_le hij with hlt | heq
            · exact .inr ⟨j, hlt, Nat.le_refl _, q, .inl rfl⟩
            · subst heq; exact .inl ⟨rfl, q⟩
          · have pl := ih (by omega) m j q2
            rcases Nat.lt_or_eq_of_le hq with hlt | heq
            · rcases pl with ⟨e, _⟩ | ⟨m2, b1, b2, b3, b4⟩
              · exact .inr ⟨m, hlt, Nat.le_of_eq e, q1, .inl e⟩
              · refine .inr ⟨m, hlt, by omega, q1, .inr (.cons b1 b2 b3 ?_)⟩
                rcases b4 with b4 | b4
                · subst b4; exact .nil _
                · exact b4
            · subst heq; exact pl
      exact all h (Nat.le_refl _) i j hcp
    · have plain : ∀ i j, Q i j → DG W R s.vars i j := fun i j q => ruleD hoc i j ((m2 hoc).1 trivial i j q)
      have again : ∀ i m j, Q i m → DG W R s.vars m j → DG W R s.vars i j := fun i m j q d => ruleD hoc i j ((m2 hoc).2 trivial i m j q d)
      have star : ∀ i j, StP Q i j → i < j → DG W R s.vars i j := fun i j st => by
        induction st with
        | nil => exact fun h => absurd h (Nat.lt_irrefl _)
        | cons a b c st ih =>
          intro _
          rcases Nat.lt_or_eq_of_le st.le with hlt | heq
          · exact again _ _ _ c (ih hlt)
          · subst heq; exact plain _ _ c
      have hd : DG W R s.vars i j := by
        rcases hs with ⟨_, q⟩ | ⟨m, b1, b2, b3, b4⟩
        · exact plain i j q
        · rcases b4 with b4 | b4
          · subst b4; exact plain _ _ b3
          · rcases Nat.lt_or_eq_of_le b2 with hlt | heq
            · exact again _ _ _ b3 (star _ _ b4 hlt)
            · subst heq; exact plain _ _ b3
      exact sy_var.2 ⟨hd.le, hd⟩
theorem mean_nil : MRow N T W X R I .nil ∧ MWays N T W X R I .nil ∧ MPart N T W X R I .nil := by
  refine ⟨fun s D _ _ _ _ => ?_, fun v p a s D _ _ _ _ hg _ => ?_, fun v p a s D _ _ _ _ hg _ => ?_⟩
  · unfold Fo.go
    exact ⟨fun h _ i j hc => by unfold Fo.sm; exact hc, fun _ i j hs => by unfold Fo.sm at hs; exact hs⟩
  all_goals
    unfold Fo.go at hg
    obtain rfl := hg.uniq (Grw.refl (some v) s)
    refine ⟨fun _ _ r hr => (by cases hr), fun _ => ⟨fun _ i j h => ?_, fun _ i m j h => ?_⟩⟩
    all_goals (unfold Fo.sm at h; exact h.elim)
/-- Of every list of expressions that are right. -/
theorem mean (hW : Wrd T W X) : ∀ (f : Fo), f.bad = 0 → Fits N T f → MRow N T W X R I f ∧ MWays N T W X R I f ∧ MPart N T W X R I f
  | .nil, _, _ => mean_nil
  | .cons op nm kids rest, hb, hf => by
    obtain ⟨b1, b2, b3⟩ := Fo.bad_cons hb
    obtain ⟨f2, f1, fk, fr⟩ := hf.cons
    obtain ⟨kr, kw, kp⟩ := mean hW kids b2 fk
    obtain ⟨rr, rw_, _⟩ := mean hW rest b3 fr
    have ho : 1 ≤ op ∧ op ≤ 7 := by have := form_kinds (code_zero b1).1; omega
    have hx := msym (op := op) (nm := nm) hW ho f1 f2 kr kw kp
    exact ⟨mrow_cons hx rr, mways_cons hx rw_, mpart_cons hx kw⟩
/-- Definitions, one behind the other: the rules of each. -/
theorem exG_mean (hW : Wrd T W X) : ∀ (ds : List Df) (i : Nat) (s : Sp), (exG N T ds i s).1.bad = false → (∀ d ∈ ds, d.e.bad = 0 ∧ (∀ n ∈ d.e.nmd 2, n ∈ N) ∧ ∀ n ∈ d.e.nmd 1, n ∈ T) → N.length ≤ s.vars → i + ds.length ≤ s.vars →
    ∃ D, (exG N T ds i s).1.rules = s.rules ++ D ∧ s.vars ≤ (exG N T ds i s).1.vars ∧ (∀ r ∈ D, ((i : Int) ≤ r.left ∧ r.left < i + ds.length) ∨ ((s.vars : Int) ≤ r.left ∧ r.left < (exG N T ds i s).1.vars)) ∧
      ((∀ r ∈ D, r ∈ R) → (∀ r ∈ R, ((i : Int) ≤ r.left ∧ r.left < i + ds.length) ∨ ((s.vars : Int) ≤ r.left ∧ r.left < (exG N T ds i s).1.vars) → r ∈ D) → ∀ k (hk : k < ds.length), ∃ E, (∀ r ∈ E, r ∈ R) ∧ (∀ r ∈ R, r.left = ((i + k : Nat) : Int) → r ∈ E) ∧ MWy N W R I ((i + k : Nat) : Int) true false (ds[k].e.sa N X I) E)
  | [], i, s, _, _, _, _ => by
    refine ⟨[], ?_, ?_, by simp, fun _ _ k hk => absurd hk (Nat.not_lt_zero _)⟩
    · unfold exG; simp
    · unfold exG; exact Nat.le_refl _
  | d :: ds, i, s, hb, hf, hN, hi => by
    obtain ⟨d1, d2, d3⟩ := hf d (by simp)
    obtain ⟨D1, g1⟩ := Fo.go_grw (N := N) (T := T) d.e.ways (.ways i true false) s
    unfold exG at hb ⊢
    simp only [List.length_cons] at hi ⊢
    have hg1 : Grw (some (i : Int)) s (d.e.put N T i true false s) D1 := g1
    cases hb1 : (d.e.put N T i true false s).bad with
    | true => rw [if_pos hb1] at hb; rw [hb1] at hb; cases hb
    | false =>
      rw [if_neg (by simp [hb1])] at hb ⊢
      have hle := hg1.le
      obtain ⟨D2, q1, q2, q3, q4⟩ := exG_mean hW ds (i + 1) (d.e.put N T i true false s) hb (fun e he => hf e (by simp [he])) (by omega) (by omega)
      have lo : ∀ r ∈ D1, r.left = (i : Int) ∨ ((s.vars : Int) ≤ r.left ∧ r.left < (d.e.put N T i true false s).vars) := fun r hr => (hg1.lf r hr).imp (fun e => by simpa using e.symm) id
      refine ⟨D1 ++ D2, by rw [q1, hg1.eq, List.append_assoc], by omega, fun r hr => ?_, fun hs ha => ?_⟩
      · rcases List.mem_append.1 hr with hr | hr
        · rcases lo r hr with e | e
          · exact .inl (by omega)
          · exact .inr (by omega)
        · rcases q3 r hr with e | e
          · exact .inl (by omega)
          · exact .inr (by omega)
      · have toD1 : ∀ r ∈ R, r.left = (i : Int) ∨ ((s.vars : Int) ≤ r.left ∧ r.left < (d.e.put N T i true false s).vars) → r ∈ D1 := fun r hr h => by
          rcases List.mem_append.1 (ha r hr (by omega)) with e | e
          · exact e
          · rcases q3 r e with e' | e' <;> omega
        have toD2 : ∀ r ∈ R, (((i + 1 : Nat) : Int) ≤ r.left ∧ r.left < ((i + 1 : Nat) : Int) + ds.length) ∨ (((d.e.put N T i true false s).vars : Int) ≤ r.left ∧ r.left < (exG N T ds (i + 1) (d.e.put N T i true false s)).1.vars) → r ∈ D2 := fun r hr h => by
          rcases List.mem_append.1 (ha r hr (by omega)) with e | e
          · rcases lo r e with e' | e' <;> omega
          · exact e
        intro k hk
        cases k with
        | zero =>
          have hwb : d.e.ways.bad = 0 := by
            obtain ⟨c1, c2⟩ := Xp.bad_zero d1
            unfold Xp.ways
            split
            · exact c2
            · unfold Fo.bad; simp [c1, c2, Fo.bad]
          have hm := (mean (R := R) (I := I) hW d.e.ways hwb (Xp.ways_fits d2 d3)).2.1 i true false s D1 hb1 hN (by omega) (by omega) g1 ⟨fun r hr => hs r (List.mem_append.2 (.inl hr)), fun r hr h1 h2 => toD1 r hr (.inr ⟨h1, h2⟩)⟩
          refine ⟨D1, fun r hr => hs r (List.mem_append.2 (.inl hr)), fun r hr hl => toD1 r hr (.inl (by simpa using hl)), ?_⟩
          have e : d.e.ways.sm N X I .any = d.e.sa N X I := by funext a b; exact propext ways_any_sa
          rw [e] at hm
          simpa using hm
        | succ k =>
          obtain ⟨E, e1, e2, e3⟩ := q4 (fun r hr => hs r (List.mem_append.2 (.inr hr))) toD2 k (by simpa using hk)
          rw [show i + 1 + k = i + (k + 1) by omega] at e2 e3
          exact ⟨E, e1, e2, by simpa using e3⟩
end
/-- WHAT A DEFINITION SAYS ITS NONTERMINAL HAS: the grammar has a word from a place to another just if the expressions say so, no deeper than so often. -/
theorem means {ds : List Df} (h0 : (dfl ds).1 = 0) (hb : (exA ds).1.bad = false) {W : List Int} {X : List ByteArray} (hW : Wrd (trms ds) W X) {k : Int} (hk : 0 ≤ k ∧ k < ds.length) {i j : Nat} (hij : i ≤ j) :
    DG W (exA ds).1.rules k i j ↔ dpS (nms ds) X (ds.map Df.e) (ds.length * (j - i + 1) + 1) k i j := by
  obtain ⟨hf, ha, _⟩ := dfl_zero h0
  have hgood : ∀ d ∈ ds, d.e.bad = 0 ∧ (∀ n ∈ d.e.nmd 2, n ∈ nms ds) ∧ ∀ n ∈ d.e.nmd 1, n ∈ trms ds := fun d hd => ⟨(Df.code_zero (hf.all d hd)).2.2.2, (ha d hd).1, (ha d hd).2⟩
  have hnl := nms_len ds
  have key : ∀ (I : Int → Nat → Nat → Prop) (n : Nat) (hn : n < ds.length), ∃ E, (∀ r ∈ E, r ∈ (exA ds).1.rules) ∧ (∀ r ∈ (exA ds).1.rules, r.left = (n : Int) → r ∈ E) ∧ MWy (nms ds) W (exA ds).1.rules I (n : Int) true false (ds[n].e.sa (nms ds) X I) E := fun I n hn => by
    obtain ⟨D, q1, q2, q3, q4⟩ := exG_mean (R := (exA ds).1.rules) (I := I) hW ds 0 (sp0 ds) hb hgood (by rw [hnl]; exact Nat.le_refl _) (by simp [sp0])
    have e : (exA ds).1.rules = D := by
      show (exG (nms ds) (trms ds) ds 0 (sp0 ds)).1.rules = D
      rw [q1]; simp [sp0]
    have := q4 (fun r hr => by rw [e]; exact hr) (fun r hr _ => by rw [e] at hr; exact hr) n hn
    simpa using this
  have get : ∀ {n : Nat} (hn : n < ds.length), (ds.map Df.e)[n]? = some ds[n].e := fun hn => by simp [hn]
  have up : ∀ (h : Nat) (k : Int) (i j : Nat), 0 ≤ k → k < ds.length → itG W (exA ds).1.rules h k i j → dpS (nms ds) X (ds.map Df.e) h k i j := fun h => by
    induction h with
    | zero => exact fun _ _ _ _ _ hi => hi.elim
    | succ h ih =>
      intro k i j hk0 hkl hi
      obtain ⟨r, r1, r2, r3⟩ := hi
      have hn : k.toNat < ds.length := by omega
      have hkk : ((k.toNat : Nat) : Int) = k := Int.toNat_of_nonneg hk0
      obtain ⟨E, _, e2, e3⟩ := key (dpS (nms ds) X (ds.map Df.e) h) k.toNat hn
      rw [hkk] at e2 e3
      rcases e3.1 h (fun k' a b u1 u2 u3 => ih k' a b u1 (by rw [hnl] at u2; exact u2) u3) r (e2 r r1 r2) r2 i j r3 with ⟨_, q⟩ | ⟨q, _⟩
      · exact ⟨_, get hn, hk0, q⟩
      · cases q
  have down : ∀ (n : Nat) (k : Int) (i j : Nat), dpS (nms ds) X (ds.map Df.e) n k i j → DG W (exA ds).1.rules k i j := fun n => by
    induction n with
    | zero => exact fun _ _ _ hi => hi.elim
    | succ n ih =>
      intro k i j hi
      obtain ⟨x, x1, x2, x3⟩ := hi
      have hn : k.toNat < ds.length := by
        rcases Nat.lt_or_ge k.toNat ds.length with h | h
        · exact h
        · rw [List.getElem?_eq_none (by simpa using h)] at x1; cases x1
      rw [get hn] at x1
      cases x1
      have hkk : ((k.toNat : Nat) : Int) = k := Int.toNat_of_nonneg x2
      obtain ⟨E, e1, _, e3⟩ := key (dpS (nms ds) X (ds.map Df.e) n) k.toNat hn
      rw [hkk] at e3
      obtain ⟨r, r1, r2, r3⟩ := (e3.2 (fun k' a b _ _ u => ih k' a b u)).1 rfl i j x3
      exact DG_of ⟨r, e1 r r1, r2, r3⟩
  constructor
  · rintro ⟨h, hi⟩
    have h1 := up h k i j hk.1 hk.2 hi
    have h2 := dpS_bound (j - i) i j (by omega) h k h1
    simp only [List.length_map] at h2
    exact dpS_succ _ _ _ _ h2
  · exact down _ k i j
end Go.Proofs.Ytghplmldnkcpnac
