/- The reader that gives up by a panic: its state, and its small functions. -/
import Derived.Test.YtdikjhfnmkejcabSame
import Derived.Test.YtdikjhfnmkejcabPars
import Derived.Defers
import Derived.Recover
import Derived.RegionTactic
import Derived.BigRegion
namespace Go.Proofs.Ytdikjhfnmkejcab
open Go.RowKit

/-- The reader's cells: the tokens, the next one, the end, the parts, the open ones, no fault. -/
structure RdS (w : World) (r : Nat) (ao : Option Addr) (cap : Nat) (l : List Tk) (en : Int) (n p o : Nat) : Prop where
  c0 : w.cell? ⟨r, 0, none⟩ = some (.slice ao l.length cap)
  c1 : w.cell? ⟨r, 1, none⟩ = some (.int .i64 n)
  c2 : w.cell? ⟨r, 2, none⟩ = some (.int .i64 en)
  c3 : w.cell? ⟨r, 3, none⟩ = some (.int .i64 p)
  c4 : w.cell? ⟨r, 4, none⟩ = some (.int .i64 o)
  c5 : w.cell? ⟨r, 5, none⟩ = some (.int .i64 0)
  c6 : w.cell? ⟨r, 6, none⟩ = some (.int .i64 0)
  fz : ∀ i, w.frozen? ⟨r, i, none⟩ = false
  sz : r < w.heap.size
  ln : l.length ≤ 6000
  nl : n ≤ l.length
  pl : p ≤ 60
  ol : o ≤ 40
  tk : l.length = 0 ∨ ∃ g, ao = some ⟨g, 0, none⟩ ∧ g ≠ r ∧ g < w.heap.size ∧ Toks w g l
theorem Toks.but {r : Nat} {w w' : World} {g : Nat} {l : List Tk} (h : Toks w g l) (hb : But r w w') (hg : g < w.heap.size) (hr : g ≠ r) : Toks w' g l :=
  ⟨fun k hk => by rw [hb.cell hg hr]; exact h.c0 k hk, fun k hk => by rw [hb.cell hg hr]; exact h.c1 k hk, fun k hk => by rw [hb.cell hg hr]; exact h.c2 k hk⟩
theorem RdS.tk_but {r : Nat} {w w' : World} {ao : Option Addr} {l : List Tk} (h : l.length = 0 ∨ ∃ g, ao = some ⟨g, 0, none⟩ ∧ g ≠ r ∧ g < w.heap.size ∧ Toks w g l) (hb : But r w w') :
    l.length = 0 ∨ ∃ g, ao = some ⟨g, 0, none⟩ ∧ g ≠ r ∧ g < w'.heap.size ∧ Toks w' g l :=
  h.imp id fun ⟨g, e, hr, hg, t⟩ => ⟨g, e, hr, Nat.lt_of_lt_of_le hg hb.size, t.but hb hg hr⟩
/-- The reader's state in a world in which its own block is as it was. -/
theorem RdS.keep {r : Nat} {w w' : World} {ao : Option Addr} {cap : Nat} {l : List Tk} {en : Int} {n p o : Nat} (h : RdS w r ao cap l en n p o) (hb : Below w.heap.size w w') : RdS w' r ao cap l en n p o := by
  have hc : ∀ i, w'.cell? ⟨r, i, none⟩ = w.cell? ⟨r, i, none⟩ := fun i => hb.cell (p := ⟨r, i, none⟩) h.sz
  exact ⟨by rw [hc]; exact h.c0, by rw [hc]; exact h.c1, by rw [hc]; exact h.c2, by rw [hc]; exact h.c3, by rw [hc]; exact h.c4, by rw [hc]; exact h.c5, by rw [hc]; exact h.c6, fun i => by rw [hb.frozen (p := ⟨r, i, none⟩) h.sz]; exact h.fz i, Nat.lt_of_lt_of_le h.sz hb.size, h.ln, h.nl, h.pl, h.ol, RdS.tk_but h.tk (But.of_below hb)⟩
/-- It has given up. -/
def Pan (r : Nat) (c a : Int) (w : World) (e : Ending) (w' : World) : Prop :=
  e = .panicked [{ v := .iface 28 (.agg #[.int .i64 c, .int .i64 a]), recovered := false }] ∧ w'.cell? ⟨r, 5, none⟩ = some (.int .i64 c) ∧ w'.cell? ⟨r, 6, none⟩ = some (.int .i64 a) ∧ But r w w'
theorem beq_str (s t : ByteArray) : (s.toList == t.toList) = decide (s = t) := by
  rw [ByteArray.toList_eq, ByteArray.toList_eq]
  by_cases h : s = t
  · subst h; simp
  · have : s.data ≠ t.data := fun e => h (by cases s; cases t; simp at e; rw [e])
    simp [h, this]
theorem beq_one (s : ByteArray) (c : UInt8) : (s.toList == [c]) = decide (s = ⟨#[c]⟩) := by
  have := beq_str s ⟨#[c]⟩
  rw [ByteArray.toList_eq ⟨#[c]⟩] at this
  exact this
section
variable {r : Nat} {ao : Option Addr} {cap : Nat} {l : List Tk} {en : Int} {n p o : Nat} {w : World}
set_option maxRecDepth 100000 in
set_option maxHeartbeats 1000000 in
theorem more_yes (h : RdS w r ao cap l en n p o) (hn : n < l.length) :
    Calls Try.prog 61 #[.pointer (some ⟨r, 0, none⟩)] w fun e w' => e = .returned (.bool true) ∧ ∃ m, w' = w.drewN m := by
  obtain ⟨c0, c1, c2, c3, c4, c5, c6, fz, sz, ln, nl, pl, ol, tk⟩ := h
  go_enter Try.func61, Try.ntmps61
  go_wp2_with fail
  go_quiet (fail)
  go_wp2_with fail
  go_ret
  exact ⟨ret_bool (by simp), _, rfl⟩
set_option maxRecDepth 100000 in
set_option maxHeartbeats 1000000 in
theorem more_no (h : RdS w r ao cap l en n p o) (hn : ¬ n < l.length) :
    Calls Try.prog 61 #[.pointer (some ⟨r, 0, none⟩)] w fun e w' => e = .returned (.bool false) ∧ ∃ m, w' = w.drewN m := by
  obtain ⟨c0, c1, c2, c3, c4, c5, c6, fz, sz, ln, nl, pl, ol, tk⟩ := h
  go_enter Try.func61, Try.ntmps61
  go_wp2_with fail
  go_quiet (fail)
  go_wp2_with fail
  go_ret
  exact ⟨ret_bool (by simp), _, rfl⟩
theorem below_drewN0 {B : Nat} {a w : World} (h : Below B a w) (n : Nat) : Below B a (w.drewN n) := ⟨h.os, h.tape, h.output, h.size, h.block⟩
set_option maxRecDepth 100000 in
set_option maxHeartbeats 1000000 in
theorem giveUp_any (h : RdS w r ao cap l en n p o) (c : Int) :
    Calls Try.prog 62 #[.pointer (some ⟨r, 0, none⟩), .int .i64 c] w fun e w' => Pan r c (plc l en n) w e w' := by
  by_cases hn : n < l.length
  · have A := fun m => more_yes (h.keep (w' := w.drewN m) ⟨rfl, rfl, rfl, Nat.le_refl _, fun _ _ => rfl⟩) hn
    obtain ⟨c0, c1, c2, c3, c4, c5, c6, fz, sz, ln, nl, pl, ol, tk⟩ := h
    obtain tk | ⟨g, rfl, hr, hg, t⟩ := tk
    · omega
    have a1 := t.c1 n hn
    rw [plc_lt hn]
    go_enter Try.func62, Try.ntmps62
    go_wp2_with fail
    refine (A 0).mono ?_
    rintro e w1 ⟨rfl, m, rfl⟩
    go_wp2_with fail
    go_quiet (fail)
    go_wp2_with fail
    refine ⟨rfl, rfl, ?_, ?_, (((But.refl r w).drewN _).setCell (.inl rfl) _).setCell (.inl rfl) _⟩
    · simp [go_sem, c5]
    · simp [go_sem, c6]
  · have A := fun m => more_no (h.keep (w' := w.drewN m) ⟨rfl, rfl, rfl, Nat.le_refl _, fun _ _ => rfl⟩) hn
    obtain ⟨c0, c1, c2, c3, c4, c5, c6, fz, sz, ln, nl, pl, ol, tk⟩ := h
    rw [plc_ge hn]
    go_enter Try.func62, Try.ntmps62
    go_wp2_with fail
    refine (A 0).mono ?_
    rintro e w1 ⟨rfl, m, rfl⟩
    go_wp2_with fail
    refine ⟨rfl, rfl, ?_, ?_, (((But.refl r w).drewN _).setCell (.inl rfl) _).setCell (.inl rfl) _⟩
    · simp [go_sem, c5]
    · simp [go_sem, c6]
set_option maxRecDepth 100000 in
set_option maxHeartbeats 1000000 in
theorem peek_any (h : RdS w r ao cap l en n p o) :
    Calls Try.prog 81 #[.pointer (some ⟨r, 0, none⟩)] w fun e w' => e = .returned (.agg #[.int .i64 (knd l n), .int .i64 (at0 l n), .string (txt l n)]) ∧ Below w.heap.size w w' := by
  by_cases hn : n < l.length
  · have A := fun w' hb => more_yes (h.keep (w' := w') hb) hn
    obtain ⟨c0, c1, c2, c3, c4, c5, c6, fz, sz, ln, nl, pl, ol, tk⟩ := h
    obtain tk | ⟨g, rfl, hr, hg, t⟩ := tk
    · omega
    have a0 := t.c0 n hn
    have a1 := t.c1 n hn
    have a2 := t.c2 n hn
    rw [knd_lt hn, at0_lt hn, txt_lt hn]
    go_enter Try.func81, Try.ntmps81
    go_wp2_with fail
    refine (A _ ((Below.refl _ _).alloc (Nat.le_refl _) _)).mono ?_
    rintro e w1 ⟨rfl, m, rfl⟩
    go_wp2_with fail
    go_region
    go_wp2_with fail
    exact bodyPost_ret (v := .agg #[.int .i64 l[n].k, .int .i64 l[n].at_, .string l[n].t]) (by simp [results, Try.results81, go_sem]) rfl ⟨rfl, (((below_drewN0 ((Below.refl _ _).alloc (Nat.le_refl _) _) _).setCell (Nat.le_refl _) _).setCell (Nat.le_refl _) _).setCell (Nat.le_refl _) _⟩
  · have A := fun w' hb => more_no (h.keep (w' := w') hb) hn
    rw [knd_ge hn, at0_ge hn, txt_ge hn]
    go_enter Try.func81, Try.ntmps81
    go_wp2_with fail
    refine (A _ ((Below.refl _ _).alloc (Nat.le_refl _) _)).mono ?_
    rintro e w1 ⟨rfl, m, rfl⟩
    go_wp2_with fail
    exact bodyPost_ret (v := .agg #[.int .i64 0, .int .i64 0, .string ⟨#[]⟩]) (by simp [results, Try.results81, go_sem]) rfl ⟨rfl, (((below_drewN0 ((Below.refl _ _).alloc (Nat.le_refl _) _) _).setCell (Nat.le_refl _) _).setCell (Nat.le_refl _) _).setCell (Nat.le_refl _) _⟩
set_option maxRecDepth 100000 in
set_option maxHeartbeats 1000000 in
theorem bracket_any (s : ByteArray) (w : World) :
    Calls Try.prog 104 #[.string s] w fun e w' => e = .returned (.tuple #[.int .i64 (brk s).1, .string (brk s).2]) ∧ w' = w := by
  unfold brk
  by_cases h1 : s = ⟨#[40]⟩
  · subst h1
    go_enter Try.func104, Try.ntmps104
    go_wp2_with fail
    go_ret2
    exact ⟨rfl, rfl⟩
  by_cases h2 : s = ⟨#[91]⟩
  · subst h2
    go_enter Try.func104, Try.ntmps104
    go_wp2_with fail
    go_ret2
    exact ⟨rfl, rfl⟩
  by_cases h3 : s = ⟨#[123]⟩
  · subst h3
    go_enter Try.func104, Try.ntmps104
    go_wp2_with fail
    go_ret2
    exact ⟨rfl, rfl⟩
  by_cases h4 : s = ⟨#[60]⟩
  · subst h4
    go_enter Try.func104, Try.ntmps104
    go_wp2_with fail
    go_ret2
    exact ⟨rfl, rfl⟩
  have b1 : (s.toList == [40]) = false := by rw [beq_one]; simp [h1]
  have b2 : (s.toList == [91]) = false := by rw [beq_one]; simp [h2]
  have b3 : (s.toList == [123]) = false := by rw [beq_one]; simp [h3]
  have b4 : (s.toList == [60]) = false := by rw [beq_one]; simp [h4]
  go_enter Try.func104, Try.ntmps104
  go_wp2_with fail
  go_ret2
  exact ⟨rfl, rfl⟩
set_option maxRecDepth 100000 in
set_option maxHeartbeats 1000000 in
theorem sees_any (h : RdS w r ao cap l en n p o) (s : ByteArray) :
    Calls Try.prog 83 #[.pointer (some ⟨r, 0, none⟩), .string s] w fun e w' => e = .returned (.bool (isS l n s)) ∧ Below w.heap.size w w' := by
  have A := peek_any h
  unfold isS
  generalize knd l n = k at *
  generalize txt l n = t at *
  generalize at0 l n = a at *
  clear h
  by_cases h3 : k = 3
  · subst h3
    go_enter Try.func83, Try.ntmps83
    go_wp2_with fail
    refine A.mono ?_
    rintro e w1 ⟨rfl, hb⟩
    go_wp2_with fail
    go_ret
    exact ⟨ret_bool (by simp [beq_str]), hb.alloc hb.size _⟩
  · go_enter Try.func83, Try.ntmps83
    go_wp2_with fail
    refine A.mono ?_
    rintro e w1 ⟨rfl, hb⟩
    go_wp2_with fail
    go_ret
    exact ⟨ret_bool (by simp [h3]), hb.alloc hb.size _⟩
theorem RdS.setNext (h : RdS w r ao cap l en n p o) (hn : n < l.length) : RdS (w.setCell ⟨r, 1, none⟩ (.int .i64 ((n + 1 : Nat) : Int))) r ao cap l en (n + 1) p o := by
  obtain ⟨c0, c1, c2, c3, c4, c5, c6, fz, sz, ln, nl, pl, ol, tk⟩ := h
  exact ⟨by simp [go_sem, c0], by simp [go_sem, c1], by simp [go_sem, c2], by simp [go_sem, c3], by simp [go_sem, c4], by simp [go_sem, c5], by simp [go_sem, c6], by simp [go_sem, fz], by simpa [World.setCell] using sz, ln, hn, pl, ol, RdS.tk_but tk ((But.refl r w).setCell (.inl rfl) _)⟩
theorem RdS.setParts (h : RdS w r ao cap l en n p o) {q : Nat} (hn : q ≤ 60) : RdS (w.setCell ⟨r, 3, none⟩ (.int .i64 (q : Int))) r ao cap l en n q o := by
  obtain ⟨c0, c1, c2, c3, c4, c5, c6, fz, sz, ln, nl, pl, ol, tk⟩ := h
  exact ⟨by simp [go_sem, c0], by simp [go_sem, c1], by simp [go_sem, c2], by simp [go_sem, c3], by simp [go_sem, c4], by simp [go_sem, c5], by simp [go_sem, c6], by simp [go_sem, fz], by simpa [World.setCell] using sz, ln, nl, hn, ol, RdS.tk_but tk ((But.refl r w).setCell (.inl rfl) _)⟩
theorem RdS.setOpen (h : RdS w r ao cap l en n p o) {q : Nat} (hn : q ≤ 40) : RdS (w.setCell ⟨r, 4, none⟩ (.int .i64 (q : Int))) r ao cap l en n p q := by
  obtain ⟨c0, c1, c2, c3, c4, c5, c6, fz, sz, ln, nl, pl, ol, tk⟩ := h
  exact ⟨by simp [go_sem, c0], by simp [go_sem, c1], by simp [go_sem, c2], by simp [go_sem, c3], by simp [go_sem, c4], by simp [go_sem, c5], by simp [go_sem, c6], by simp [go_sem, fz], by simpa [World.setCell] using sz, ln, nl, pl, hn, RdS.tk_but tk ((But.refl r w).setCell (.inl rfl) _)⟩
theorem RdS.drew_ (h : RdS w r ao cap l en n p o) (m : Nat) : RdS (w.drewN m) r ao cap l en n p o := h.keep (below_drewN0 (Below.refl _ _) m)
set_option maxRecDepth 100000 in
set_option maxHeartbeats 1000000 in
theorem need_yes (h : RdS w r ao cap l en n p o) (hn : n < l.length) :
    Calls Try.prog 82 #[.pointer (some ⟨r, 0, none⟩), .bool true] w fun e w' => e = .returned (.tuple #[]) ∧ RdS w' r ao cap l en (n + 1) p o ∧ But r w w' := by
  have A := more_yes h hn
  have H := h
  obtain ⟨c0, c1, c2, c3, c4, c5, c6, fz, sz, ln, nl, pl, ol, tk⟩ := h
  go_enter Try.func82, Try.ntmps82
  go_wp2_with fail
  refine A.mono ?_
  rintro e w1 ⟨rfl, m, rfl⟩
  go_wp2_with fail
  go_end0
  exact ⟨rfl, (H.drew_ m).setNext hn, ((But.refl r w).drewN m).setCell (.inl rfl) _⟩
set_option maxRecDepth 100000 in
set_option maxHeartbeats 1000000 in
theorem need_no (h : RdS w r ao cap l en n p o) (b : Bool) (hb : n < l.length → b = false) :
    Calls Try.prog 82 #[.pointer (some ⟨r, 0, none⟩), .bool b] w fun e w' => Pan r (fm l n) (plc l en n) w e w' := by
  by_cases hn : n < l.length
  · have A := more_yes h hn
    have B := fun m => giveUp_any (h.drew_ m) 3
    obtain rfl := hb hn
    rw [show fm l n = 3 by simp [fm, hn]]
    clear h
    go_enter Try.func82, Try.ntmps82
    go_wp2_with fail
    refine A.mono ?_
    rintro e w1 ⟨rfl, m, rfl⟩
    go_wp2_with fail
    refine (B m).mono ?_
    rintro e w1 ⟨rfl, h1, h2, h3⟩
    go_wp2_with fail
    exact ⟨rfl, rfl, h1, h2, ((But.refl r w).drewN m).trans h3⟩
  · have A := more_no h hn
    have B := fun m => giveUp_any (h.drew_ m) 4
    rw [show fm l n = 4 by simp [fm, hn]]
    clear h
    go_enter Try.func82, Try.ntmps82
    go_wp2_with fail
    refine A.mono ?_
    rintro e w1 ⟨rfl, m, rfl⟩
    go_wp2_with fail
    refine (B m).mono ?_
    rintro e w1 ⟨rfl, h1, h2, h3⟩
    go_wp2_with fail
    exact ⟨rfl, rfl, h1, h2, ((But.refl r w).drewN m).trans h3⟩
set_option maxRecDepth 100000 in
set_option maxHeartbeats 1000000 in
theorem part_yes (h : RdS w r ao cap l en n p o) (hn : n < l.length) (hp : ¬ p = 60) :
    Calls Try.prog 98 #[.pointer (some ⟨r, 0, none⟩)] w fun e w' => e = .returned (.tuple #[]) ∧ RdS w' r ao cap l en (n + 1) (p + 1) o ∧ But r w w' := by
  have H := h
  obtain ⟨c0, c1, c2, c3, c4, c5, c6, fz, sz, ln, nl, pl, ol, tk⟩ := h
  go_enter Try.func98, Try.ntmps98
  go_wp2_with fail
  go_end0
  exact ⟨rfl, (H.setParts (q := p + 1) (by omega)).setNext hn, ((But.refl r w).setCell (.inl rfl) _).setCell (.inl rfl) _⟩
set_option maxRecDepth 100000 in
set_option maxHeartbeats 1000000 in
theorem part_no (h : RdS w r ao cap l en n p o) (hp : p = 60) :
    Calls Try.prog 98 #[.pointer (some ⟨r, 0, none⟩)] w fun e w' => Pan r 6 (plc l en n) w e w' := by
  have B := giveUp_any h 6
  obtain ⟨c0, c1, c2, c3, c4, c5, c6, fz, sz, ln, nl, pl, ol, tk⟩ := h
  subst hp
  go_enter Try.func98, Try.ntmps98
  go_wp2_with fail
  refine B.mono ?_
  rintro e w1 ⟨rfl, h1, h2, h3⟩
  go_wp2_with fail
  exact ⟨rfl, rfl, h1, h2, h3⟩
end
end Go.Proofs.Ytdikjhfnmkejcab
