/- One text behind another: the definitions of both. -/
import Derived.Test.YthbbfddclhcoaaaPars
import Derived.Test.YthbbfddclhcoaaaJScan
namespace Go.Proofs.Ythbbfddclhcoaaa

def Res.sh {α : Type} (m : Nat) (d : Int) : Res α → Res α
  | .ok x n p => .ok x (m + n) p
  | .err c a => .err c (a + d)
  | .out => .out
section
variable {A B : List Tk} {eA eL : Int}
/-! The first part, with whatever behind it. -/
theorem knd_app {n : Nat} (h : n < A.length) : knd (A ++ B) n = knd A n := by simp [knd, List.getElem?_append_left h]
theorem txt_app {n : Nat} (h : n < A.length) : txt (A ++ B) n = txt A n := by simp [txt, List.getElem?_append_left h]
theorem at0_app {n : Nat} (h : n < A.length) : at0 (A ++ B) n = at0 A n := by simp [at0, List.getElem?_append_left h]
theorem plc_app {n : Nat} (h : n < A.length) : plc (A ++ B) eL n = plc A eA n := by
  rw [plc_lt h, plc_lt (by simp; omega), List.getElem_append_left h]
theorem isS_app {n : Nat} {s : ByteArray} (h : n < A.length) : isS (A ++ B) n s = isS A n s := by unfold isS; rw [knd_app h, txt_app h]
theorem opn_app {n : Nat} (h : n < A.length) : opn (A ++ B) n = opn A n := by unfold opn; rw [knd_app h, txt_app h]
theorem fm_ne4 {l : List Tk} {n : Nat} (h : fm l n ≠ 4) : n < l.length := by
  unfold fm at h; split at h
  · assumption
  · exact absurd rfl h
theorem fm_lt {l : List Tk} {n : Nat} (h : n < l.length) : fm l n = 3 := by unfold fm; rw [if_pos h]
theorem item_end {l : List Tk} {en : Int} {k n p o : Nat} (h : ¬ n < l.length) : item l en (k + 1) n p o = .ok none n p := by
  rw [item, knd_ge h, if_neg (by decide), if_neg (by decide)]
  rw [if_neg]
  intro ho; exact h (lt_of_opn ho)
theorem altL_end {l : List Tk} {en : Int} {k n p o : Nat} {f : Fo} (h : ¬ n < l.length) : altL l en (k + 1) n p o f = .ok (mk 4 f) n p := by
  rw [altL, if_neg]
  intro ho; exact h (lt_of_isS ho)
structure Pre (A B : List Tk) (eA eL : Int) (k : Nat) : Prop where
  item : ∀ n p o, p ≤ 60 → n ≤ A.length → (∀ x n' p', item A eA k n p o = .ok x n' p' → n' < A.length → item (A ++ B) eL k n p o = .ok x n' p') ∧ (∀ c a, item A eA k n p o = .err c a → c ≠ 4 → item (A ++ B) eL k n p o = .err c a)
  row : ∀ n p o f, p ≤ 60 → n ≤ A.length → (∀ x n' p', rowL A eA k n p o f = .ok x n' p' → n' < A.length → rowL (A ++ B) eL k n p o f = .ok x n' p') ∧ (∀ c a, rowL A eA k n p o f = .err c a → c ≠ 4 → rowL (A ++ B) eL k n p o f = .err c a)
  altL : ∀ n p o f, p ≤ 60 → n ≤ A.length → (∀ x n' p', altL A eA k n p o f = .ok x n' p' → n' < A.length → altL (A ++ B) eL k n p o f = .ok x n' p') ∧ (∀ c a, altL A eA k n p o f = .err c a → c ≠ 4 → altL (A ++ B) eL k n p o f = .err c a)
  alt : ∀ n p o, p ≤ 60 → n ≤ A.length → (∀ x n' p', alt A eA k n p o = .ok x n' p' → n' < A.length → alt (A ++ B) eL k n p o = .ok x n' p') ∧ (∀ c a, alt A eA k n p o = .err c a → c ≠ 4 → alt (A ++ B) eL k n p o = .err c a)
theorem pre (k : Nat) : Pre A B eA eL k := by
  induction k with
  | zero => exact ⟨fun _ _ _ _ _ => ⟨fun _ _ _ h => by simp [Go.Proofs.Ythbbfddclhcoaaa.item] at h, fun _ _ h => by simp [Go.Proofs.Ythbbfddclhcoaaa.item] at h⟩, fun _ _ _ _ _ _ => ⟨fun _ _ _ h => by simp [Go.Proofs.Ythbbfddclhcoaaa.rowL] at h, fun _ _ h => by simp [Go.Proofs.Ythbbfddclhcoaaa.rowL] at h⟩, fun _ _ _ _ _ _ => ⟨fun _ _ _ h => by simp [Go.Proofs.Ythbbfddclhcoaaa.altL] at h, fun _ _ h => by simp [Go.Proofs.Ythbbfddclhcoaaa.altL] at h⟩, fun _ _ _ _ _ => ⟨fun _ _ _ h => by simp [Go.Proofs.Ythbbfddclhcoaaa.alt] at h, fun _ _ h => by simp [Go.Proofs.Ythbbfddclhcoaaa.alt] at h⟩⟩
  | succ k ih =>
    have F := far A eA k
    refine ⟨?_, ?_, ?_, ?_⟩
    · intro n p o hp hn
      by_cases hlt : n < A.length
      · have e : Go.Proofs.Ythbbfddclhcoaaa.item (A ++ B) eL (k + 1) n p o = if knd A n = 1 then (if p = 60 then .err 6 (plc A eA n) else .ok (some ⟨2, txt A n, .nil⟩) (n + 1) (p + 1))
            else if knd A n = 2 then (if p = 60 then .err 6 (plc A eA n) else .ok (some ⟨1, txt A n, .nil⟩) (n + 1) (p + 1))
            else if opn A n = true then
              if o = 40 then .err 5 (plc A eA n)
              else if p = 60 then .err 6 (plc A eA n)
              else match Go.Proofs.Ythbbfddclhcoaaa.alt (A ++ B) eL k (n + 1) (p + 1) (o + 1) with
                | .ok x n' p' => if isS (A ++ B) n' (brk (txt A n)).2 = true then .ok (some (wrap (brk (txt A n)).1 x)) (n' + 1) p' else .err (fm (A ++ B) n') (plc (A ++ B) eL n')
                | .err c a => .err c a
                | .out => .out
            else .ok none n p := by
          rw [Go.Proofs.Ythbbfddclhcoaaa.item, knd_app hlt, txt_app hlt, opn_app hlt, plc_app (eA := eA) hlt]
          rfl
        rw [e, Go.Proofs.Ythbbfddclhcoaaa.item]
        by_cases h1 : knd A n = 1
        · rw [if_pos h1, if_pos h1]; exact ⟨fun _ _ _ h _ => h, fun _ _ h _ => h⟩
        rw [if_neg h1, if_neg h1]
        by_cases h2 : knd A n = 2
        · rw [if_pos h2, if_pos h2]; exact ⟨fun _ _ _ h _ => h, fun _ _ h _ => h⟩
        rw [if_neg h2, if_neg h2]
        by_cases h3 : opn A n = true
        · rw [if_pos h3, if_pos h3]
          by_cases h4 : o = 40
          · rw [if_pos h4, if_pos h4]; exact ⟨fun _ _ _ h _ => h, fun _ _ h _ => h⟩
          rw [if_neg h4, if_neg h4]
          by_cases h5 : p = 60
          · rw [if_pos h5, if_pos h5]; exact ⟨fun _ _ _ h _ => h, fun _ _ h _ => h⟩
          rw [if_neg h5, if_neg h5]
          have IH := ih.alt (n + 1) (p + 1) (o + 1) (by omega) (by omega)
          cases hA : Go.Proofs.Ythbbfddclhcoaaa.alt A eA k (n + 1) (p + 1) (o + 1) with
          | out => exact ⟨fun _ _ _ h => (by cases h), fun _ _ h => (by cases h)⟩
          | err c a =>
            refine ⟨fun _ _ _ h => (by cases h), fun c' a' h hc => ?_⟩
            simp only at h ⊢
            cases h
            rw [IH.2 _ _ hA hc]
          | ok x m q =>
            simp only
            by_cases hm : m < A.length
            · rw [IH.1 _ _ _ hA hm]
              simp only
              rw [isS_app hm, fm_lt hm, fm_lt (by simp; omega), plc_app (eA := eA) hm]
              exact ⟨fun _ _ _ h _ => h, fun _ _ h _ => h⟩
            · have hs : isS A m (brk (txt A n)).2 = false := by
                cases hh : isS A m (brk (txt A n)).2 with
                | false => rfl
                | true => exact absurd (lt_of_isS hh) hm
              rw [hs]
              refine ⟨fun _ _ _ h => (by simp at h), fun c a h hc => ?_⟩
              simp at h
              have := fm_ne4 (l := A) (n := m) (by rw [h.1]; exact hc)
              exact absurd this hm
        · rw [if_neg h3, if_neg h3]; exact ⟨fun _ _ _ h _ => h, fun _ _ h _ => h⟩
      · rw [item_end (l := A) hlt]
        refine ⟨fun _ _ _ h h' => ?_, fun _ _ h => (by cases h)⟩
        cases h; exact absurd h' hlt
    · intro n p o f hp hn
      rw [Go.Proofs.Ythbbfddclhcoaaa.rowL, Go.Proofs.Ythbbfddclhcoaaa.rowL]
      have IH := ih.item n p o hp hn
      cases hI : Go.Proofs.Ythbbfddclhcoaaa.item A eA k n p o with
      | out => exact ⟨fun _ _ _ h => (by cases h), fun _ _ h => (by cases h)⟩
      | err c a =>
        refine ⟨fun _ _ _ h => (by cases h), fun c' a' h hc => ?_⟩
        simp only at h ⊢
        cases h
        rw [IH.2 _ _ hI hc]
      | ok x m q =>
        have FI := F.item _ _ _ _ _ _ hp hI
        cases x with
        | none =>
          simp only
          refine ⟨fun _ _ _ h h' => ?_, fun _ _ h => (by cases h)⟩
          cases h
          rw [IH.1 _ _ _ hI h']
        | some x =>
          simp only
          have F2 := FI.2 (by simp)
          have IH2 := ih.row m q o (f.snoc x) (by omega) (by omega)
          by_cases hm : m < A.length
          · rw [IH.1 _ _ _ hI hm]; exact IH2
          · refine ⟨fun y n' p' h h' => ?_, fun c a h hc => ?_⟩
            · have := F.row _ _ _ _ _ _ _ (by omega) (by omega) h; omega
            · cases k with
              | zero => simp [Go.Proofs.Ythbbfddclhcoaaa.item] at hI
              | succ k =>
                rw [Go.Proofs.Ythbbfddclhcoaaa.rowL] at h
                cases k with
                | zero => simp [Go.Proofs.Ythbbfddclhcoaaa.item] at h
                | succ k => rw [item_end hm] at h; cases h
    · intro n p o f hp hn
      by_cases hlt : n < A.length
      · rw [Go.Proofs.Ythbbfddclhcoaaa.altL, Go.Proofs.Ythbbfddclhcoaaa.altL, isS_app hlt, plc_app (eA := eA) hlt]
        by_cases hs : isS A n ⟨#[124]⟩ = true
        · rw [if_pos hs, if_pos hs]
          by_cases h5 : p = 60
          · rw [if_pos h5, if_pos h5]; exact ⟨fun _ _ _ h _ => h, fun _ _ h _ => h⟩
          rw [if_neg h5, if_neg h5]
          have IH := ih.row (n + 1) (p + 1) o .nil (by omega) (by omega)
          cases hI : Go.Proofs.Ythbbfddclhcoaaa.rowL A eA k (n + 1) (p + 1) o .nil with
          | out => exact ⟨fun _ _ _ h => (by cases h), fun _ _ h => (by cases h)⟩
          | err c a =>
            refine ⟨fun _ _ _ h => (by cases h), fun c' a' h hc => ?_⟩
            simp only at h ⊢
            cases h
            rw [IH.2 _ _ hI hc]
          | ok x m q =>
            simp only
            have F2 := F.row _ _ _ _ _ _ _ (by omega) (by omega) hI
            have IH2 := ih.altL m q o (f.snoc x) (by omega) (by omega)
            by_cases hm : m < A.length
            · rw [IH.1 _ _ _ hI hm]; exact IH2
            · refine ⟨fun y n' p' h h' => ?_, fun c a h hc => ?_⟩
              · have := F.altL _ _ _ _ _ _ _ (by omega) (by omega) h; omega
              · cases k with
                | zero => simp [Go.Proofs.Ythbbfddclhcoaaa.altL] at h
                | succ k => rw [altL_end hm] at h; cases h
        · rw [if_neg hs, if_neg hs]; exact ⟨fun _ _ _ h _ => h, fun _ _ h _ => h⟩
      · rw [altL_end (l := A) hlt]
        refine ⟨fun _ _ _ h h' => ?_, fun _ _ h => (by cases h)⟩
        cases h; exact absurd h' hlt
    · intro n p o hp hn
      rw [Go.Proofs.Ythbbfddclhcoaaa.alt, Go.Proofs.Ythbbfddclhcoaaa.alt]
      have IH := ih.row n p o .nil hp hn
      cases hI : Go.Proofs.Ythbbfddclhcoaaa.rowL A eA k n p o .nil with
      | out => exact ⟨fun _ _ _ h => (by cases h), fun _ _ h => (by cases h)⟩
      | err c a =>
        refine ⟨fun _ _ _ h => (by cases h), fun c' a' h hc => ?_⟩
        simp only at h ⊢
        cases h
        rw [IH.2 _ _ hI hc]
      | ok x m q =>
        simp only
        have F2 := F.row _ _ _ _ _ _ _ hp hn hI
        have IH2 := ih.altL m q o (Fo.nil.snoc x) (by omega) (by omega)
        by_cases hm : m < A.length
        · rw [IH.1 _ _ _ hI hm]; exact IH2
        · refine ⟨fun y n' p' h h' => ?_, fun c a h hc => ?_⟩
          · have := F.altL _ _ _ _ _ _ _ (by omega) (by omega) h; omega
          · cases k with
            | zero => simp [Go.Proofs.Ythbbfddclhcoaaa.altL] at h
            | succ k => rw [altL_end hm] at h; cases h
/-! More fuel. -/
structure Fu (l : List Tk) (en : Int) (k : Nat) : Prop where
  item : ∀ n p o, item l en k n p o ≠ .out → item l en (k + 1) n p o = item l en k n p o
  row : ∀ n p o f, rowL l en k n p o f ≠ .out → rowL l en (k + 1) n p o f = rowL l en k n p o f
  altL : ∀ n p o f, altL l en k n p o f ≠ .out → altL l en (k + 1) n p o f = altL l en k n p o f
  alt : ∀ n p o, alt l en k n p o ≠ .out → alt l en (k + 1) n p o = alt l en k n p o
theorem fu (l : List Tk) (en : Int) (k : Nat) : Fu l en k := by
  induction k with
  | zero => exact ⟨fun _ _ _ h => absurd (by simp [Go.Proofs.Ythbbfddclhcoaaa.item]) h, fun _ _ _ _ h => absurd (by simp [Go.Proofs.Ythbbfddclhcoaaa.rowL]) h, fun _ _ _ _ h => absurd (by simp [Go.Proofs.Ythbbfddclhcoaaa.altL]) h, fun _ _ _ h => absurd (by simp [Go.Proofs.Ythbbfddclhcoaaa.alt]) h⟩
  | succ k ih =>
    refine ⟨?_, ?_, ?_, ?_⟩
    · intro n p o h
      rw [Go.Proofs.Ythbbfddclhcoaaa.item] at h
      rw [Go.Proofs.Ythbbfddclhcoaaa.item, Go.Proofs.Ythbbfddclhcoaaa.item]
      by_cases h1 : knd l n = 1
      · rw [if_pos h1, if_pos h1]
      rw [if_neg h1] at h ⊢
      rw [if_neg h1]
      by_cases h2 : knd l n = 2
      · rw [if_pos h2, if_pos h2]
      rw [if_neg h2] at h ⊢
      rw [if_neg h2]
      by_cases h3 : opn l n = true
      · rw [if_pos h3] at h ⊢
        rw [if_pos h3]
        by_cases h4 : o = 40
        · rw [if_pos h4, if_pos h4]
        rw [if_neg h4] at h ⊢
        rw [if_neg h4]
        by_cases h5 : p = 60
        · rw [if_pos h5, if_pos h5]
        rw [if_neg h5] at h ⊢
        rw [if_neg h5]
        rw [ih.alt (n + 1) (p + 1) (o + 1) (fun e => h (by rw [e]))]
      · rw [if_neg h3, if_neg h3]
    · intro n p o f h
      rw [Go.Proofs.Ythbbfddclhcoaaa.rowL] at h
      rw [Go.Proofs.Ythbbfddclhcoaaa.rowL, Go.Proofs.Ythbbfddclhcoaaa.rowL]
      rw [ih.item n p o (fun e => h (by rw [e]))]
      cases hI : Go.Proofs.Ythbbfddclhcoaaa.item l en k n p o with
      | out => rfl
      | err c a => rfl
      | ok x m q =>
        rw [hI] at h
        cases x with
        | none => rfl
        | some x => exact ih.row _ _ _ _ h
    · intro n p o f h
      rw [Go.Proofs.Ythbbfddclhcoaaa.altL] at h
      rw [Go.Proofs.Ythbbfddclhcoaaa.altL, Go.Proofs.Ythbbfddclhcoaaa.altL]
      by_cases hs : isS l n ⟨#[124]⟩ = true
      · rw [if_pos hs] at h ⊢
        rw [if_pos hs]
        by_cases h5 : p = 60
        · rw [if_pos h5, if_pos h5]
        rw [if_neg h5] at h ⊢
        rw [if_neg h5]
        rw [ih.row (n + 1) (p + 1) o .nil (fun e => h (by rw [e]))]
        cases hI : Go.Proofs.Ythbbfddclhcoaaa.rowL l en k (n + 1) (p + 1) o .nil with
        | out => rfl
        | err c a => rfl
        | ok x m q =>
          rw [hI] at h
          exact ih.altL _ _ _ _ h
      · rw [if_neg hs, if_neg hs]
    · intro n p o h
      rw [Go.Proofs.Ythbbfddclhcoaaa.alt] at h
      rw [Go.Proofs.Ythbbfddclhcoaaa.alt, Go.Proofs.Ythbbfddclhcoaaa.alt]
      rw [ih.row n p o .nil (fun e => h (by rw [e]))]
      cases hI : Go.Proofs.Ythbbfddclhcoaaa.rowL l en k n p o .nil with
      | out => rfl
      | err c a => rfl
      | ok x m q =>
        rw [hI] at h
        exact ih.altL _ _ _ _ h
theorem fu_alt {l : List Tk} {en : Int} {k m n p o : Nat} (h : k ≤ m) (ho : alt l en k n p o ≠ .out) : alt l en m n p o = alt l en k n p o := by
  induction m with
  | zero => rw [show k = 0 by omega]
  | succ m ih =>
    by_cases e : k = m + 1
    · rw [e]
    · have := ih (by omega)
      rw [(fu l en m).alt n p o (by rw [this]; exact ho), this]
theorem fu_text {l : List Tk} {en : Int} {k m n : Nat} {acc : List Df} (h : k ≤ m) (ho : textL l en k n acc ≠ .out) : textL l en m n acc = textL l en k n acc := by
  induction k generalizing m n acc with
  | zero => exact absurd (by simp [textL]) ho
  | succ k ih =>
    obtain ⟨m, rfl⟩ : ∃ j, m = j + 1 := ⟨m - 1, by omega⟩
    rw [textL] at ho
    rw [textL, textL]
    by_cases h1 : n < l.length ∨ acc = []
    · rw [if_pos h1] at ho ⊢
      rw [if_pos h1]
      by_cases h2 : acc.length = 16
      · rw [if_pos h2, if_pos h2]
      · rw [if_neg h2] at ho ⊢
        rw [if_neg h2]
        cases hd : defn l en n with
        | out => rfl
        | err c a => rfl
        | ok d n' p' =>
          rw [hd] at ho
          exact ih (by omega) ho
    · rw [if_neg h1, if_neg h1]
end
end Go.Proofs.Ythbbfddclhcoaaa
