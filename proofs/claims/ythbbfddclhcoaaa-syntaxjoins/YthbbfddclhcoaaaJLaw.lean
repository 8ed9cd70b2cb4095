/- One text behind another: what the law asks of the three answers. -/
import Derived.Test.YthbbfddclhcoaaaJText
import Derived.Test.YthbbfddclhcoaaaSm
namespace Go.Proofs.Ythbbfddclhcoaaa
open Go.RowKit
def cd : Res (List Df) → Int
  | .err c _ => c
  | _ => 0
def pt : Res (List Df) → Int
  | .err _ a => a
  | _ => 0
/-- ErrShort is told at the end alone. -/
structure Ers (l : List Tk) (en : Int) (k : Nat) : Prop where
  item : ∀ n p o a, item l en k n p o = .err 4 a → a = en
  row : ∀ n p o acc a, rowL l en k n p o acc = .err 4 a → a = en
  altL : ∀ n p o acc a, altL l en k n p o acc = .err 4 a → a = en
  alt : ∀ n p o a, alt l en k n p o = .err 4 a → a = en
theorem fm4 {l : List Tk} {en : Int} {n : Nat} (h : fm l n = 4) : plc l en n = en := by
  unfold fm at h; split at h
  · exact absurd h (by decide)
  · rename_i hn; exact plc_ge hn
theorem ers (l : List Tk) (en : Int) (k : Nat) : Ers l en k := by
  induction k with
  | zero => exact ⟨fun _ _ _ _ h => by simp [Go.Proofs.Ythbbfddclhcoaaa.item] at h, fun _ _ _ _ _ h => by simp [Go.Proofs.Ythbbfddclhcoaaa.rowL] at h, fun _ _ _ _ _ h => by simp [Go.Proofs.Ythbbfddclhcoaaa.altL] at h, fun _ _ _ _ h => by simp [Go.Proofs.Ythbbfddclhcoaaa.alt] at h⟩
  | succ k ih =>
    refine ⟨?_, ?_, ?_, ?_⟩
    · intro n p o a h
      rw [Go.Proofs.Ythbbfddclhcoaaa.item] at h
      split at h
      · split at h
        · simp at h
        · cases h
      · split at h
        · split at h
          · simp at h
          · cases h
        · split at h
          · split at h
            · simp at h
            · split at h
              · simp at h
              · split at h
                · split at h
                  · cases h
                  · simp at h; rw [← h.2]; exact fm4 h.1
                · rename_i h2; cases h; exact ih.alt _ _ _ _ h2
                · cases h
          · cases h
    · intro n p o acc a h
      rw [Go.Proofs.Ythbbfddclhcoaaa.rowL] at h
      split at h
      · cases h
      · exact ih.row _ _ _ _ _ h
      · rename_i h1; cases h; exact ih.item _ _ _ _ h1
      · cases h
    · intro n p o acc a h
      rw [Go.Proofs.Ythbbfddclhcoaaa.altL] at h
      split at h
      · split at h
        · simp at h
        · split at h
          · exact ih.altL _ _ _ _ _ h
          · rename_i h1; cases h; exact ih.row _ _ _ _ _ h1
          · cases h
      · cases h
    · intro n p o a h
      rw [Go.Proofs.Ythbbfddclhcoaaa.alt] at h
      split at h
      · exact ih.altL _ _ _ _ _ h
      · rename_i h1; cases h; exact ih.row _ _ _ _ _ h1
      · cases h
theorem defn_ers {l : List Tk} {en : Int} {n : Nat} {a : Int} (h : defn l en n = .err 4 a) : a = en := by
  unfold defn at h
  split at h
  · split at h
    · split at h
      · split at h
        · cases h
        · simp at h; rw [← h.2]; exact fm4 h.1
      · rename_i h1; cases h; exact (ers _ _ _).alt _ _ _ _ h1
      · cases h
    · simp at h; rw [← h.2]; exact fm4 h.1
  · simp at h; rw [← h.2]; exact fm4 h.1
theorem textL_ers {l : List Tk} {en : Int} {a : Int} : ∀ (k n : Nat) (acc : List Df), textL l en k n acc = .err 4 a → a = en
  | 0, _, _, h => by simp [textL] at h
  | k + 1, n, acc, h => by
    rw [textL] at h
    split at h
    · split at h
      · simp at h
      · split at h
        · exact textL_ers _ _ _ h
        · rename_i h1; cases h; exact defn_ers h1
        · cases h
    · cases h
theorem rd_code (s : ByteArray) (i : Nat) : (rd s i).2.2 = 0 ∨ (rd s i).2.2 = 1 ∨ (rd s i).2.2 = 2 := by
  unfold rd rdName rdTerm
  repeat' split
  all_goals simp
theorem scan_code6 {s : ByteArray} (h : s.size ≤ 6000) : (scan s).2.1 = 0 ∨ (scan s).2.1 = 1 ∨ (scan s).2.1 = 2 := by
  unfold scan
  rw [if_neg (by omega)]
  unfold fin
  split
  · exact rd_code _ _
  · exact .inl rfl
theorem parse_bad {s : ByteArray} (h : (scan s).2.1 ≠ 0) : parse s = .err (scan s).2.1 (scan s).2.2 := by unfold parse; rw [if_neg h]
theorem parse_good {s : ByteArray} (h : (scan s).2.1 = 0) : parse s = text (scan s).1 s.size := by unfold parse; rw [if_pos h]
theorem parse_erc {s : ByteArray} {c p : Int} (h : parse s = .err c p) : c ≠ 0 := by
  by_cases hs : (scan s).2.1 = 0
  · rw [parse_good hs] at h; exact textL_erc _ _ _ h
  · rw [parse_bad hs] at h; cases h; exact hs
theorem cd_err {s : ByteArray} (ho : parse s ≠ .out) (h : cd (parse s) ≠ 0) : ∃ c p, parse s = .err c p := by
  cases hp : parse s with
  | out => exact absurd hp ho
  | err c p => exact ⟨c, p, rfl⟩
  | ok ds x y => rw [hp] at h; exact absurd rfl h
theorem cd_ok {s : ByteArray} (ho : parse s ≠ .out) (h : cd (parse s) = 0) : ∃ ds x y, parse s = .ok ds x y := by
  cases hp : parse s with
  | out => exact absurd hp ho
  | err c p => rw [hp] at h; exact absurd h (parse_erc hp)
  | ok ds x y => exact ⟨ds, x, y, rfl⟩
section
variable {a b s : ByteArray}
theorem Jn.law1 (j : Jn a b s) (h6 : s.size ≤ 6000) (oa : parse a ≠ .out) (hf : cd (parse a) ≠ 0) :
    (a.size : Int) ≤ pt (parse a) ∨ cd (parse b) = 1 ∨ cd (parse b) = 2 ∨ (cd (parse s) = cd (parse a) ∧ pt (parse s) = pt (parse a)) := by
  have z := j.size
  obtain ⟨c, p, e⟩ := cd_err oa hf
  by_cases ha : (scan a).2.1 = 0
  · by_cases hb : (scan b).2.1 = 0
    · by_cases hc : c = 4
      · left
        rw [parse_good ha, hc] at e
        have := textL_ers _ _ _ e
        rw [parse_good ha, e]
        show (a.size : Int) ≤ p
        omega
      · right; right; right
        rw [j.parse3 h6 ha hb e hc, e]
        exact ⟨rfl, rfl⟩
    · right
      rw [parse_bad hb]
      rcases scan_code6 (s := b) (by omega) with h | h | h
      · exact absurd h hb
      · exact .inl h
      · exact .inr (.inl h)
  · right; right; right
    rw [j.parse1 h6 ha]
    exact ⟨rfl, rfl⟩
theorem ok_scan {x : ByteArray} {ds : List Df} {m n : Nat} (h : parse x = .ok ds m n) : (scan x).2.1 = 0 := by
  by_cases hx : (scan x).2.1 = 0
  · exact hx
  · rw [parse_bad hx] at h; cases h
theorem Jn.law2 (j : Jn a b s) (h6 : s.size ≤ 6000) (oa : parse a ≠ .out) (ob : parse b ≠ .out) (hf : cd (parse a) = 0) (hg : cd (parse b) ≠ 0) : cd (parse s) ≠ 0 ∨ cd (parse b) = 4 := by
  obtain ⟨ds, x, y, e⟩ := cd_ok oa hf
  obtain ⟨c, p, e2⟩ := cd_err ob hg
  have ha := ok_scan e
  have fin : (∃ c' p', parse s = .err c' p') → cd (parse s) ≠ 0 := fun ⟨c', p', h⟩ => by
    have := parse_erc h
    rw [h]; exact this
  by_cases hb : (scan b).2.1 = 0
  · by_cases hc : c = 4
    · right; rw [e2, hc]; rfl
    · exact .inl (fin (j.parse4 h6 ha hb e e2 hc))
  · exact .inl (fin (j.parse2 h6 ha hb))
theorem Jn.law3 (j : Jn a b s) (h6 : s.size ≤ 6000) (oa : parse a ≠ .out) (ob : parse b ≠ .out) (hf : cd (parse a) = 0) (hg : cd (parse b) = 0) :
    ∃ ds es x y x' y', parse a = .ok ds x y ∧ parse b = .ok es x' y' ∧ 1 ≤ ds.length ∧ 1 ≤ es.length ∧ ds.length ≤ 16 ∧ es.length ≤ 16 ∧
      (16 < ds.length + es.length → cd (parse s) = 6) ∧ (ds.length + es.length ≤ 16 → cd (parse s) = 0 ∧ ∃ x y, parse s = .ok (ds ++ es.map (Df.sh ((a.size + 1 : Nat) : Int))) x y) := by
  obtain ⟨ds, x, y, e⟩ := cd_ok oa hf
  obtain ⟨es, x', y', e2⟩ := cd_ok ob hg
  have ha := ok_scan e
  have hb := ok_scan e2
  have P := j.parse5 h6 ha hb e e2
  have len : ∀ {x : ByteArray} {ds : List Df} {m n : Nat}, parse x = .ok ds m n → 1 ≤ ds.length ∧ ds.length ≤ 16 := fun {x ds m n} h => by
    have hx := ok_scan h
    rw [parse_good hx] at h
    unfold text at h
    exact ((textL_app (B := []) (eA := (x.size : Int)) (eL := 0) _ 0 [] (by omega) (by simp)).1 ds m n h).1.2
  refine ⟨ds, es, x, y, x', y', e, e2, (len e).1, (len e2).1, (len e).2, (len e2).2, fun h => ?_, fun h => ?_⟩
  · obtain ⟨p, ep⟩ := P.2 h
    rw [ep]; rfl
  · obtain ⟨u, v, ep⟩ := P.1 h
    exact ⟨by rw [ep]; rfl, u, v, ep⟩
end
theorem parse_u (s : ByteArray) (w : World) (hs : s.size ≤ 281474976710656) (hlen : (scan s).1.length ≤ 6000) :
    Calls Try.prog 17 #[.string s] w fun e w' => ∃ q m k, e = .returned (.tuple #[.agg #[.slice q m k], .agg #[.int .i64 (cd (parse s)), .int .i64 (pt (parse s))]]) ∧ parse s ≠ .out ∧
      (∀ ds x y, parse s = .ok ds x y → DsV w' All (.slice q m k) ds) ∧ Below w.heap.size w w' := by
  refine (parse_any s w hs hlen).mono ?_
  intro e w' h
  cases hp : parse s with
  | out => rw [hp] at h; exact h.elim
  | err c p =>
    rw [hp] at h
    obtain ⟨rfl, hb⟩ := h
    exact ⟨none, 0, 0, rfl, by simp, fun _ _ _ h => (by cases h), hb⟩
  | ok ds x y =>
    rw [hp] at h
    obtain ⟨v, rfl, hd, hb⟩ := h
    obtain ⟨h1, q, k, rfl, h3⟩ := id hd
    refine ⟨q, ds.length, k, rfl, by simp, fun ds' x' y' h => ?_, hb⟩
    cases h
    exact hd.mono fun _ _ _ _ h => ⟨trivial, h⟩
/-- Definitions in memory, cell by cell. -/
theorem DsIn.cells {w : World} {S : Nat → Prop} : ∀ {ds : List Df} {b o : Nat}, DsIn w S ds b o → ∃ xs, DC w S xs ds ∧ xs.length = ds.length * 5 ∧ (∀ u ∈ xs, u.oneCell' = true) ∧ ∀ i v, xs[i]? = some v → w.cell? ⟨b, o + i, none⟩ = some v
  | [], _, _, _ => ⟨[], trivial, rfl, (fun u h => by cases h), (fun i v h => by simp at h)⟩
  | d :: l, b, o, ⟨_, h1, h2, ⟨h3, h4, u, h5, h6⟩, h7⟩ => by
    obtain ⟨xs, g1, g2, g3, g4⟩ := DsIn.cells h7
    obtain ⟨_, ao, cap, rfl, _⟩ := id h6
    refine ⟨.string d.nm :: .int .i64 d.at_ :: .int .i64 d.e.op :: .string d.e.nm :: .slice ao d.e.kids.len cap :: xs, ⟨rfl, rfl, rfl, rfl, h6, g1⟩, by simp [g2]; omega, ?_, ?_⟩
    · intro u hu
      simp at hu
      rcases hu with rfl | rfl | rfl | rfl | rfl | hu
      · rfl
      · rfl
      · rfl
      · rfl
      · rfl
      · exact g3 u hu
    · intro i v hi
      match i, hi with
      | 0, hi => simp at hi; subst hi; simpa using h1
      | 1, hi => simp at hi; subst hi; simpa using h2
      | 2, hi => simp at hi; subst hi; simpa using h3
      | 3, hi => simp at hi; subst hi; simpa using h4
      | 4, hi => simp at hi; subst hi; simpa using h5
      | i + 5, hi =>
        have := g4 i v (by simpa using hi)
        rwa [show o + 5 + i = o + (i + 5) by omega] at this
theorem DC.append {w : World} {S : Nat → Prop} : ∀ {xs ys : List Value} {ds es : List Df}, DC w S xs ds → DC w S ys es → DC w S (xs ++ ys) (ds ++ es)
  | [], _, [], _, _, h => h
  | a :: b :: c :: d :: e :: xs, ys, x :: l, es, ⟨h1, h2, h3, h4, h5, h6⟩, h => ⟨h1, h2, h3, h4, h5, DC.append h6 h⟩
  | [], _, _ :: _, _, h, _ => by simp [DC] at h
  | [_], _, _, _, h, _ => by simp [DC] at h
  | [_, _], _, _, _, h, _ => by simp [DC] at h
  | [_, _, _], _, _, _, h, _ => by simp [DC] at h
  | [_, _, _, _], _, _, _, h, _ => by simp [DC] at h
  | _ :: _ :: _ :: _ :: _ :: _, _, [], _, h, _ => by simp [DC] at h
end Go.Proofs.Ythbbfddclhcoaaa
