/- One text behind another: what Parse makes of it. -/
import Derived.Test.YthbbfddclhcoaaaJPars
import Derived.Test.YthbbfddclhcoaaaParse
namespace Go.Proofs.Ythbbfddclhcoaaa

def Df.sh (d : Int) (x : Df) : Df := ⟨x.nm, x.at_ + d, x.e⟩
section
variable {A B : List Tk} {δ : Nat} {eA eB eL : Int}
theorem get_sh (n : Nat) : (A ++ B.map (Tk.sh δ))[A.length + n]? = (B[n]?).map (Tk.sh δ) := by
  rw [List.getElem?_append_right (by omega), Nat.add_sub_cancel_left, List.getElem?_map]
theorem knd_sh (n : Nat) : knd (A ++ B.map (Tk.sh δ)) (A.length + n) = knd B n := by
  unfold knd; rw [get_sh]; cases B[n]? <;> rfl
theorem txt_sh (n : Nat) : txt (A ++ B.map (Tk.sh δ)) (A.length + n) = txt B n := by
  unfold txt; rw [get_sh]; cases B[n]? <;> rfl
theorem at0_sh {n : Nat} (h : n < B.length) : at0 (A ++ B.map (Tk.sh δ)) (A.length + n) = at0 B n + δ := by
  unfold at0; rw [get_sh, List.getElem?_eq_getElem h]; rfl
theorem plc_sh (he : eL = eB + δ) (n : Nat) : plc (A ++ B.map (Tk.sh δ)) eL (A.length + n) = plc B eB n + δ := by
  unfold plc; rw [get_sh]; cases B[n]? with
  | none => exact he
  | some x => rfl
theorem fm_sh (n : Nat) : fm (A ++ B.map (Tk.sh δ)) (A.length + n) = fm B n := by
  unfold fm; simp
theorem isS_sh (n : Nat) (s : ByteArray) : isS (A ++ B.map (Tk.sh δ)) (A.length + n) s = isS B n s := by unfold isS; rw [knd_sh, txt_sh]
theorem opn_sh (n : Nat) : opn (A ++ B.map (Tk.sh δ)) (A.length + n) = opn B n := by unfold opn; rw [knd_sh, txt_sh]
structure Shf (A B : List Tk) (δ : Nat) (eB eL : Int) (k : Nat) : Prop where
  item : ∀ n p o, item (A ++ B.map (Tk.sh δ)) eL k (A.length + n) p o = (item B eB k n p o).sh A.length δ
  row : ∀ n p o f, rowL (A ++ B.map (Tk.sh δ)) eL k (A.length + n) p o f = (rowL B eB k n p o f).sh A.length δ
  altL : ∀ n p o f, altL (A ++ B.map (Tk.sh δ)) eL k (A.length + n) p o f = (altL B eB k n p o f).sh A.length δ
  alt : ∀ n p o, alt (A ++ B.map (Tk.sh δ)) eL k (A.length + n) p o = (alt B eB k n p o).sh A.length δ
theorem shf (he : eL = eB + δ) (k : Nat) : Shf A B δ eB eL k := by
  induction k with
  | zero => exact ⟨fun _ _ _ => by simp [Go.Proofs.Ythbbfddclhcoaaa.item, Res.sh], fun _ _ _ _ => by simp [Go.Proofs.Ythbbfddclhcoaaa.rowL, Res.sh], fun _ _ _ _ => by simp [Go.Proofs.Ythbbfddclhcoaaa.altL, Res.sh], fun _ _ _ => by simp [Go.Proofs.Ythbbfddclhcoaaa.alt, Res.sh]⟩
  | succ k ih =>
    refine ⟨?_, ?_, ?_, ?_⟩
    · intro n p o
      rw [Go.Proofs.Ythbbfddclhcoaaa.item, Go.Proofs.Ythbbfddclhcoaaa.item, knd_sh, txt_sh, opn_sh, plc_sh he]
      by_cases h1 : knd B n = 1
      · rw [if_pos h1, if_pos h1]; by_cases h5 : p = 60
        · rw [if_pos h5, if_pos h5]; rfl
        · rw [if_neg h5, if_neg h5]; rfl
      rw [if_neg h1, if_neg h1]
      by_cases h2 : knd B n = 2
      · rw [if_pos h2, if_pos h2]; by_cases h5 : p = 60
        · rw [if_pos h5, if_pos h5]; rfl
        · rw [if_neg h5, if_neg h5]; rfl
      rw [if_neg h2, if_neg h2]
      by_cases h3 : opn B n = true
      · rw [if_pos h3, if_pos h3]
        by_cases h4 : o = 40
        · rw [if_pos h4, if_pos h4]; rfl
        rw [if_neg h4, if_neg h4]
        by_cases h5 : p = 60
        · rw [if_pos h5, if_pos h5]; rfl
        rw [if_neg h5, if_neg h5]
        rw [show A.length + n + 1 = A.length + (n + 1) by omega, ih.alt]
        cases hA : Go.Proofs.Ythbbfddclhcoaaa.alt B eB k (n + 1) (p + 1) (o + 1) with
        | out => rfl
        | err c a => rfl
        | ok x m q =>
          simp only [Res.sh]
          rw [isS_sh, fm_sh, plc_sh he]
          by_cases hs : isS B m (brk (txt B n)).2 = true
          · rw [if_pos hs, if_pos hs]; rfl
          · rw [if_neg hs, if_neg hs]
      · rw [if_neg h3, if_neg h3]; rfl
    · intro n p o f
      rw [Go.Proofs.Ythbbfddclhcoaaa.rowL, Go.Proofs.Ythbbfddclhcoaaa.rowL, ih.item]
      cases hI : Go.Proofs.Ythbbfddclhcoaaa.item B eB k n p o with
      | out => rfl
      | err c a => rfl
      | ok x m q =>
        cases x with
        | none => rfl
        | some x => exact ih.row _ _ _ _
    · intro n p o f
      rw [Go.Proofs.Ythbbfddclhcoaaa.altL, Go.Proofs.Ythbbfddclhcoaaa.altL, isS_sh, plc_sh he]
      by_cases hs : isS B n ⟨#[124]⟩ = true
      · rw [if_pos hs, if_pos hs]
        by_cases h5 : p = 60
        · rw [if_pos h5, if_pos h5]; rfl
        rw [if_neg h5, if_neg h5]
        rw [show A.length + n + 1 = A.length + (n + 1) by omega, ih.row]
        cases hI : Go.Proofs.Ythbbfddclhcoaaa.rowL B eB k (n + 1) (p + 1) o .nil with
        | out => rfl
        | err c a => rfl
        | ok x m q => exact ih.altL _ _ _ _
      · rw [if_neg hs, if_neg hs]; rfl
    · intro n p o
      rw [Go.Proofs.Ythbbfddclhcoaaa.alt, Go.Proofs.Ythbbfddclhcoaaa.alt, ih.row]
      cases hI : Go.Proofs.Ythbbfddclhcoaaa.rowL B eB k n p o .nil with
      | out => rfl
      | err c a => rfl
      | ok x m q => exact ih.altL _ _ _ _
/-- A definition of the second text. -/
theorem defn_sh (he : eL = eB + δ) {n : Nat} (ho : defn B eB n ≠ .out) :
    (∀ d n' p', defn B eB n = .ok d n' p' → defn (A ++ B.map (Tk.sh δ)) eL (A.length + n) = .ok (d.sh δ) (A.length + n') p') ∧ (∀ c a, defn B eB n = .err c a → defn (A ++ B.map (Tk.sh δ)) eL (A.length + n) = .err c (a + δ)) := by
  unfold defn at ho ⊢
  rw [knd_sh, txt_sh, fm_sh, plc_sh he, show A.length + n + 1 = A.length + (n + 1) by omega, show A.length + n + 2 = A.length + (n + 2) by omega, isS_sh, fm_sh, plc_sh he]
  by_cases h1 : knd B n = 1
  · rw [if_pos h1] at ho ⊢
    rw [if_pos h1]
    have hn := lt_of_knd h1 (by decide)
    by_cases h2 : isS B (n + 1) ⟨#[61]⟩ = true
    · rw [if_pos h2] at ho ⊢
      rw [if_pos h2]
      have hA : alt B eB (fuel B) (n + 2) 0 0 ≠ .out := fun e => ho (by rw [e])
      have e1 := (shf (A := A) (B := B) (δ := δ) he (fuel B)).alt (n + 2) 0 0
      have e2 : alt (A ++ B.map (Tk.sh δ)) eL (fuel (A ++ B.map (Tk.sh δ))) (A.length + (n + 2)) 0 0 = (alt B eB (fuel B) (n + 2) 0 0).sh A.length δ := by
        rw [← e1]
        refine fu_alt (by unfold fuel; simp; omega) ?_
        rw [e1]
        cases hh : alt B eB (fuel B) (n + 2) 0 0 with
        | out => exact absurd hh hA
        | err c a => simp [Res.sh]
        | ok x m q => simp [Res.sh]
      rw [e2]
      cases hh : alt B eB (fuel B) (n + 2) 0 0 with
      | out => exact absurd hh hA
      | err c a =>
        refine ⟨fun _ _ _ h => (by cases h), fun c' a' h => ?_⟩
        cases h; rfl
      | ok x m q =>
        simp only [Res.sh]
        rw [isS_sh, fm_sh, plc_sh he, at0_sh hn]
        by_cases hs : isS B m ⟨#[59]⟩ = true
        · rw [if_pos hs, if_pos hs]
          refine ⟨fun _ _ _ h => ?_, fun _ _ h => (by cases h)⟩
          cases h; rfl
        · rw [if_neg hs, if_neg hs]
          refine ⟨fun _ _ _ h => (by cases h), fun _ _ h => ?_⟩
          cases h; rfl
    · rw [if_neg h2, if_neg h2]
      refine ⟨fun _ _ _ h => (by cases h), fun _ _ h => ?_⟩
      cases h; rfl
  · rw [if_neg h1, if_neg h1]
    refine ⟨fun _ _ _ h => (by cases h), fun _ _ h => ?_⟩
    cases h; rfl
/-- A definition of the first text. -/
theorem defn_app {n : Nat} :
    (∀ d n' p', defn A eA n = .ok d n' p' → defn (A ++ B) eL n = .ok d n' p') ∧ (∀ c a, defn A eA n = .err c a → c ≠ 4 → defn (A ++ B) eL n = .err c a) := by
  unfold defn
  by_cases h1 : knd A n = 1
  · have hn1 := lt_of_knd h1 (by decide)
    rw [knd_app hn1, txt_app hn1, at0_app hn1, if_pos h1, if_pos h1]
    by_cases h2 : isS A (n + 1) ⟨#[61]⟩ = true
    · have hn2 := lt_of_isS h2
      rw [isS_app hn2, if_pos h2, if_pos h2]
      have P := (pre (A := A) (B := B) (eA := eA) (eL := eL) (fuel A)).alt (n + 2) 0 0 (by omega) (by omega)
      cases hh : alt A eA (fuel A) (n + 2) 0 0 with
      | out => exact ⟨fun _ _ _ h => (by cases h), fun _ _ h => (by cases h)⟩
      | err c a =>
        refine ⟨fun _ _ _ h => (by cases h), fun c' a' h hc => ?_⟩
        cases h
        have e := P.2 _ _ hh hc
        rw [fu_alt (k := fuel A) (by unfold fuel; simp; omega) (by rw [e]; simp), e]
      | ok x m q =>
        simp only
        by_cases hm : m < A.length
        · have e := P.1 _ _ _ hh hm
          rw [fu_alt (k := fuel A) (by unfold fuel; simp; omega) (by rw [e]; simp), e]
          simp only
          rw [isS_app hm, fm_lt hm, fm_lt (by simp; omega), plc_app (eA := eA) hm]
          exact ⟨fun _ _ _ h => h, fun _ _ h _ => h⟩
        · have hs : isS A m ⟨#[59]⟩ = false := by
            cases hq : isS A m ⟨#[59]⟩ with
            | false => rfl
            | true => exact absurd (lt_of_isS hq) hm
          rw [hs]
          refine ⟨fun _ _ _ h => (by simp at h), fun c a h hc => ?_⟩
          simp at h
          exact absurd (fm_ne4 (l := A) (n := m) (by rw [h.1]; exact hc)) hm
    · rw [if_neg h2]
      refine ⟨fun _ _ _ h => (by cases h), fun c a h hc => ?_⟩
      cases h
      have hn2 := fm_ne4 hc
      rw [isS_app hn2, if_neg h2, fm_lt hn2, fm_lt (by simp; omega), plc_app (eA := eA) hn2]
  · rw [if_neg h1]
    refine ⟨fun _ _ _ h => (by cases h), fun c a h hc => ?_⟩
    cases h
    have hn2 := fm_ne4 hc
    rw [knd_app hn2, if_neg h1, fm_lt hn2, fm_lt (by simp; omega), plc_app (eA := eA) hn2]
theorem textL_app : ∀ (k n : Nat) (acc : List Df), n ≤ A.length → acc.length ≤ 16 →
    (∀ ds q r, textL A eA k n acc = .ok ds q r → (acc.length ≤ ds.length ∧ 1 ≤ ds.length ∧ ds.length ≤ 16) ∧ ∀ K, ∃ K', K' ≤ K + (A.length - n) ∧ textL (A ++ B) eL K' n acc = textL (A ++ B) eL K A.length ds) ∧
    (∀ c a, textL A eA k n acc = .err c a → c ≠ 4 → textL (A ++ B) eL k n acc = .err c a)
  | 0, _, _, _, _ => ⟨fun _ _ _ h => by simp [textL] at h, fun _ _ h => by simp [textL] at h⟩
  | k + 1, n, acc, hn, hl => by
    rw [textL]
    by_cases h1 : n < A.length ∨ acc = []
    · rw [if_pos h1]
      have h1' : n < (A ++ B).length ∨ acc = [] := h1.imp (fun h => by simp; omega) id
      by_cases h2 : acc.length = 16
      · rw [if_pos h2]
        refine ⟨fun _ _ _ h => (by cases h), fun c a h hc => ?_⟩
        cases h
        have hlt : n < A.length := h1.resolve_right (fun e => by rw [e] at h2; cases h2)
        rw [textL, if_pos h1', if_pos h2, plc_app (eA := eA) hlt]
      · rw [if_neg h2]
        have D := defn_app (A := A) (B := B) (eA := eA) (eL := eL) (n := n)
        cases hd : defn A eA n with
        | out => exact ⟨fun _ _ _ h => (by cases h), fun _ _ h => (by cases h)⟩
        | err c a =>
          refine ⟨fun _ _ _ h => (by cases h), fun c' a' h hc => ?_⟩
          cases h
          rw [textL, if_pos h1', if_neg h2, D.2 _ _ hd hc]
        | ok d n' p' =>
          have F := defn_far hd
          have IH := textL_app k n' (acc ++ [d]) F.2.1 (by simp; omega)
          simp only
          refine ⟨fun ds q r h => ?_, fun c a h hc => ?_⟩
          · obtain ⟨g1, g2⟩ := IH.1 ds q r h
            simp at g1
            refine ⟨by omega, fun K => ?_⟩
            obtain ⟨K', e1, e2⟩ := g2 K
            refine ⟨K' + 1, by omega, ?_⟩
            rw [textL, if_pos h1', if_neg h2, D.1 _ _ _ hd]
            exact e2
          · rw [textL, if_pos h1', if_neg h2, D.1 _ _ _ hd]
            exact IH.2 c a h hc
    · rw [if_neg h1]
      refine ⟨fun ds q r h => ?_, fun _ _ h => (by cases h)⟩
      cases h
      have hac : acc ≠ [] := fun e => h1 (.inr e)
      have : 1 ≤ acc.length := List.length_pos_iff.2 hac
      have hnn : n = A.length := by have := fun h => h1 (.inl h); omega
      exact ⟨by omega, fun K => ⟨K, by omega, by rw [hnn]⟩⟩
theorem textL_grow : ∀ (k n : Nat) (es fs : List Df) (q r : Nat), textL B eB k n es = .ok fs q r → es.length ≤ fs.length
  | 0, _, _, _, _, _, h => by simp [textL] at h
  | k + 1, n, es, fs, q, r, h => by
    rw [textL] at h
    split at h
    · split at h
      · cases h
      · split at h
        · have := textL_grow k _ _ _ _ _ h
          simp at this; omega
        · cases h
        · cases h
    · cases h; exact Nat.le_refl _
theorem textL_sh (he : eL = eB + δ) (ds : List Df) (hds : 1 ≤ ds.length) : ∀ (k n : Nat) (es : List Df), (n < B.length ∨ es ≠ []) → ds.length + es.length ≤ 16 →
    (∀ fs q r, textL B eB k n es = .ok fs q r → es.length ≤ fs.length ∧ (ds.length + fs.length ≤ 16 → textL (A ++ B.map (Tk.sh δ)) eL k (A.length + n) (ds ++ es.map (Df.sh δ)) = .ok (ds ++ fs.map (Df.sh δ)) (A.length + q) r) ∧
      (16 < ds.length + fs.length → ∃ a, textL (A ++ B.map (Tk.sh δ)) eL k (A.length + n) (ds ++ es.map (Df.sh δ)) = .err 6 a)) ∧
    (∀ c a, textL B eB k n es = .err c a → ∃ c' a', textL (A ++ B.map (Tk.sh δ)) eL k (A.length + n) (ds ++ es.map (Df.sh δ)) = .err c' a')
  | 0, _, _, _, _ => ⟨fun _ _ _ h => by simp [textL] at h, fun _ _ h => by simp [textL] at h⟩
  | k + 1, n, es, hne, hl => by
    rw [textL, textL]
    have hnn : ds ++ es.map (Df.sh δ) ≠ [] := fun e => by
      have := congrArg List.length e
      rw [List.length_append, List.length_nil] at this; omega
    by_cases h1 : n < B.length
    · have h1' : A.length + n < (A ++ B.map (Tk.sh δ)).length ∨ ds ++ es.map (Df.sh δ) = [] := .inl (by simp; omega)
      rw [if_pos (.inl h1), if_pos h1']
      by_cases h2 : es.length = 16
      · omega
      rw [if_neg h2]
      by_cases h3 : (ds ++ es.map (Df.sh δ)).length = 16
      · rw [if_pos h3]
        have h3' : ds.length + es.length = 16 := by simpa using h3
        refine ⟨fun fs q r h => ?_, fun _ _ _ => ⟨_, _, rfl⟩⟩
        cases hd : defn B eB n with
        | out => rw [hd] at h; cases h
        | err c a => rw [hd] at h; cases h
        | ok d n' p' =>
          rw [hd] at h
          simp only at h
          have hg : es.length + 1 ≤ fs.length := by
            have := textL_grow k n' (es ++ [d]) fs q r h
            simpa using this
          exact ⟨by omega, fun hh => by omega, fun _ => ⟨_, rfl⟩⟩
      · rw [if_neg h3]
        have h3' : ds.length + es.length ≠ 16 := by simpa using h3
        cases hd : defn B eB n with
        | out => exact ⟨fun _ _ _ h => (by cases h), fun _ _ h => (by cases h)⟩
        | err c a =>
          have D := defn_sh (A := A) he (n := n) (by rw [hd]; simp)
          refine ⟨fun _ _ _ h => (by cases h), fun c' a' h => ?_⟩
          rw [D.2 _ _ hd]
          exact ⟨_, _, rfl⟩
        | ok d n' p' =>
          have D := defn_sh (A := A) he (n := n) (by rw [hd]; simp)
          rw [D.1 _ _ _ hd]
          simp only
          have e : ds ++ es.map (Df.sh δ) ++ [d.sh δ] = ds ++ (es ++ [d]).map (Df.sh δ) := by simp
          rw [e]
          have IH := textL_sh he ds hds k n' (es ++ [d]) (.inr (by simp)) (by simp; omega)
          refine ⟨fun fs q r h => ?_, fun c a h => IH.2 c a h⟩
          obtain ⟨g1, g2, g3⟩ := IH.1 fs q r h
          simp at g1
          exact ⟨by omega, g2, g3⟩
    · have hes : es ≠ [] := hne.resolve_left h1
      have h1' : ¬ (A.length + n < (A ++ B.map (Tk.sh δ)).length ∨ ds ++ es.map (Df.sh δ) = []) := fun h => h.elim (fun h => by simp at h; omega) hnn
      rw [if_neg (fun h => h.elim h1 hes), if_neg h1']
      refine ⟨fun fs q r h => ?_, fun _ _ h => (by cases h)⟩
      cases h
      exact ⟨Nat.le_refl _, fun _ => rfl, fun h => by omega⟩
end
section
variable {a b s : ByteArray}
theorem Jn.parse1 (j : Jn a b s) (h6 : s.size ≤ 6000) (hc : (scan a).2.1 ≠ 0) : parse s = parse a := by
  unfold parse
  rw [j.bad1 h6 hc, if_neg hc, if_neg hc]
theorem Jn.parse2 (j : Jn a b s) (h6 : s.size ≤ 6000) (ha : (scan a).2.1 = 0) (hb : (scan b).2.1 ≠ 0) : ∃ c p, parse s = .err c p := by
  unfold parse
  have := (j.good1 h6 ha).2 hb
  rw [if_neg (by rw [this]; exact hb)]
  exact ⟨_, _, rfl⟩
theorem Jn.parse_eq (j : Jn a b s) (h6 : s.size ≤ 6000) (ha : (scan a).2.1 = 0) (hb : (scan b).2.1 = 0) :
    parse s = text ((scan a).1 ++ (scan b).1.map (Tk.sh (a.size + 1))) s.size ∧ parse a = text (scan a).1 a.size ∧ parse b = text (scan b).1 b.size ∧ ((s.size : Nat) : Int) = ((b.size : Nat) : Int) + ((a.size + 1 : Nat) : Int) := by
  have e := (j.good1 h6 ha).1 hb
  have z := j.size
  refine ⟨?_, ?_, ?_, by omega⟩
  · unfold parse; rw [e, if_pos rfl]
  · unfold parse; rw [if_pos ha]
  · unfold parse; rw [if_pos hb]
theorem Jn.parse3 (j : Jn a b s) (h6 : s.size ≤ 6000) (ha : (scan a).2.1 = 0) (hb : (scan b).2.1 = 0) {c p : Int} (h : parse a = .err c p) (hc : c ≠ 4) : parse s = .err c p := by
  obtain ⟨e1, e2, _, _⟩ := j.parse_eq h6 ha hb
  rw [e2] at h
  rw [e1]
  unfold text at h ⊢
  have T := (textL_app (B := (scan b).1.map (Tk.sh (a.size + 1))) (eA := (a.size : Int)) (eL := (s.size : Int)) ((scan a).1.length + 2) 0 [] (by omega) (by simp)).2 c p h hc
  rw [fu_text (k := (scan a).1.length + 2) (by simp) (by rw [T]; simp), T]
theorem Jn.second (j : Jn a b s) (h6 : s.size ≤ 6000) (ha : (scan a).2.1 = 0) (hb : (scan b).2.1 = 0) {ds : List Df} {q r : Nat} (h : parse a = .ok ds q r) :
    (1 ≤ ds.length ∧ ds.length ≤ 16) ∧ ∀ R, textL ((scan a).1 ++ (scan b).1.map (Tk.sh (a.size + 1))) s.size ((scan b).1.length + 2) ((scan a).1.length + 0) (ds ++ ([] : List Df).map (Df.sh ((a.size + 1 : Nat) : Int))) = R → R ≠ .out → parse s = R := by
  obtain ⟨e1, e2, _, _⟩ := j.parse_eq h6 ha hb
  rw [e2] at h
  unfold text at h
  obtain ⟨g1, g2⟩ := (textL_app (B := (scan b).1.map (Tk.sh (a.size + 1))) (eA := (a.size : Int)) (eL := (s.size : Int)) ((scan a).1.length + 2) 0 [] (by omega) (by simp)).1 ds q r h
  refine ⟨g1.2, fun R hR ho => ?_⟩
  obtain ⟨K', k1, k2⟩ := g2 ((scan b).1.length + 2)
  simp only [List.map_nil, List.append_nil, Nat.add_zero] at hR
  rw [hR] at k2
  rw [e1]
  unfold text
  rw [fu_text (k := K') (by simp; omega) (by rw [k2]; exact ho), k2]
theorem tok_of_ok {l : List Tk} {en : Int} {es : List Df} {q r : Nat} (h : text l en = .ok es q r) : 0 < l.length := by
  unfold text at h
  rcases Nat.lt_or_ge 0 l.length with h0 | h0
  · exact h0
  · exfalso
    rw [textL, if_pos (.inr rfl), if_neg (by simp)] at h
    unfold defn at h
    rw [knd_ge (by omega), if_neg (by decide)] at h
    cases h
theorem tok_of_err {l : List Tk} {en : Int} {c p : Int} (h : text l en = .err c p) (hc : c ≠ 4) : 0 < l.length := by
  unfold text at h
  rcases Nat.lt_or_ge 0 l.length with h0 | h0
  · exact h0
  · exfalso
    rw [textL, if_pos (.inr rfl), if_neg (by simp)] at h
    unfold defn at h
    rw [knd_ge (by omega), if_neg (by decide)] at h
    cases h
    exact absurd (fm_ne4 hc) (by omega)
theorem Jn.parse4 (j : Jn a b s) (h6 : s.size ≤ 6000) (ha : (scan a).2.1 = 0) (hb : (scan b).2.1 = 0) {ds : List Df} {q r : Nat} {c p : Int} (h : parse a = .ok ds q r) (h2 : parse b = .err c p) (hc : c ≠ 4) : ∃ c' p', parse s = .err c' p' := by
  obtain ⟨g1, g2⟩ := j.second h6 ha hb h
  obtain ⟨_, _, e3, e4⟩ := j.parse_eq h6 ha hb
  rw [e3] at h2
  have h0 := tok_of_err h2 hc
  obtain ⟨c', p', e⟩ := (textL_sh (A := (scan a).1) (B := (scan b).1) (δ := a.size + 1) e4 ds g1.1 ((scan b).1.length + 2) 0 [] (.inl h0) (by simpa using g1.2)).2 c p h2
  exact ⟨c', p', g2 _ e (by simp)⟩
theorem Jn.parse5 (j : Jn a b s) (h6 : s.size ≤ 6000) (ha : (scan a).2.1 = 0) (hb : (scan b).2.1 = 0) {ds es : List Df} {q r q' r' : Nat} (h : parse a = .ok ds q r) (h2 : parse b = .ok es q' r') :
    (ds.length + es.length ≤ 16 → ∃ x y, parse s = .ok (ds ++ es.map (Df.sh ((a.size + 1 : Nat) : Int))) x y) ∧ (16 < ds.length + es.length → ∃ p, parse s = .err 6 p) := by
  obtain ⟨g1, g2⟩ := j.second h6 ha hb h
  obtain ⟨_, _, e3, e4⟩ := j.parse_eq h6 ha hb
  rw [e3] at h2
  have h0 := tok_of_ok h2
  obtain ⟨_, t1, t2⟩ := (textL_sh (A := (scan a).1) (B := (scan b).1) (δ := a.size + 1) e4 ds g1.1 ((scan b).1.length + 2) 0 [] (.inl h0) (by simpa using g1.2)).1 es q' r' h2
  refine ⟨fun hh => ⟨_, _, g2 _ (t1 hh) (by simp)⟩, fun hh => ?_⟩
  obtain ⟨p, e⟩ := t2 hh
  exact ⟨p, g2 _ e (by simp)⟩
end
end Go.Proofs.Ythbbfddclhcoaaa
