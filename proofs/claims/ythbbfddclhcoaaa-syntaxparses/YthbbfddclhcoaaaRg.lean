/- The document's reader, that keeps its first fault: its state, and its small functions. -/
import Derived.Test.YthbbfddclhcoaaaRow
import Derived.Deep.RegionWith
namespace Go.Proofs.Ythbbfddclhcoaaa
open Go.RowKit
structure RgS (w : World) (r : Nat) (ao : Option Addr) (cap : Nat) (l : List Tk) (en : Int) (n p o : Nat) : Prop where
  c0 : w.cell? ⟨r, 0, none⟩ = some (.slice ao l.length cap)
  c1 : w.cell? ⟨r, 1, none⟩ = some (.int .i64 en)
  c2 : w.cell? ⟨r, 2, none⟩ = some (.int .i64 n)
  c3 : w.cell? ⟨r, 3, none⟩ = some (.int .i64 o)
  c4 : w.cell? ⟨r, 4, none⟩ = some (.int .i64 p)
  c5 : w.cell? ⟨r, 5, none⟩ = some (.int .i64 0)
  c6 : w.cell? ⟨r, 6, none⟩ = some (.int .i64 0)
  fz : ∀ i, w.frozen? ⟨r, i, none⟩ = false
  sz : r < w.heap.size
  ln : l.length ≤ 6000
  nl : n ≤ l.length
  pl : p ≤ 60
  ol : o ≤ 40
  tk : l.length = 0 ∨ ∃ g, ao = some ⟨g, 0, none⟩ ∧ g ≠ r ∧ g < w.heap.size ∧ Toks w g l
/-- A fault has been met. -/
structure RgE (w : World) (r o : Nat) (c a : Int) : Prop where
  c3 : w.cell? ⟨r, 3, none⟩ = some (.int .i64 o)
  c4 : ∃ p : Int, w.cell? ⟨r, 4, none⟩ = some (.int .i64 p)
  c5 : w.cell? ⟨r, 5, none⟩ = some (.int .i64 c)
  c6 : w.cell? ⟨r, 6, none⟩ = some (.int .i64 a)
  fz : ∀ i, w.frozen? ⟨r, i, none⟩ = false
  sz : r < w.heap.size
  ol : o ≤ 40
  ne : c ≠ 0
section
variable {r : Nat} {ao : Option Addr} {cap : Nat} {l : List Tk} {en : Int} {n p o : Nat} {w : World} {c a : Int}
theorem RgS.kp {w' : World} {S : Nat → Prop} (h : RgS w r ao cap l en n p o) (hk : Kp S w w') (hr : S r) (hg : ∀ g, ao = some ⟨g, 0, none⟩ → l.length = 0 ∨ S g) : RgS w' r ao cap l en n p o := by
  have hc : ∀ b i, b < w.heap.size → S b → w'.cell? ⟨b, i, none⟩ = w.cell? ⟨b, i, none⟩ := fun b i hb hs => World.cell?_of_block (w := w) (a := ⟨b, i, none⟩) (hk.block b hb hs)
  have hf : ∀ b i, b < w.heap.size → S b → w'.frozen? ⟨b, i, none⟩ = w.frozen? ⟨b, i, none⟩ := fun b i hb hs => World.frozen?_of_block (w := w) (a := ⟨b, i, none⟩) (hk.block b hb hs)
  have sz := h.sz
  refine ⟨by rw [hc _ _ sz hr]; exact h.c0, by rw [hc _ _ sz hr]; exact h.c1, by rw [hc _ _ sz hr]; exact h.c2, by rw [hc _ _ sz hr]; exact h.c3, by rw [hc _ _ sz hr]; exact h.c4, by rw [hc _ _ sz hr]; exact h.c5, by rw [hc _ _ sz hr]; exact h.c6, fun i => by rw [hf _ _ sz hr]; exact h.fz i, Nat.lt_of_lt_of_le sz hk.size, h.ln, h.nl, h.pl, h.ol, ?_⟩
  rcases h.tk with h0 | ⟨g, e, h1, h2, t⟩
  · exact .inl h0
  · rcases hg g e with h3 | h3
    · exact .inl h3
    · exact .inr ⟨g, e, h1, Nat.lt_of_lt_of_le h2 hk.size, fun k hk' => by rw [hc _ _ h2 h3]; exact t.c0 k hk', fun k hk' => by rw [hc _ _ h2 h3]; exact t.c1 k hk', fun k hk' => by rw [hc _ _ h2 h3]; exact t.c2 k hk'⟩
theorem RgS.keep {w' : World} (h : RgS w r ao cap l en n p o) (hb : Below w.heap.size w w') : RgS w' r ao cap l en n p o := h.kp (S := fun _ => True) (Kp.of_below hb) trivial (fun _ _ => .inr trivial)
theorem RgS.alloc_ (h : RgS w r ao cap l en n p o) (x : Obj) : RgS (w.alloc x) r ao cap l en n p o := h.keep ((Below.refl _ _).alloc (Nat.le_refl _) _)
theorem RgS.drew_ (h : RgS w r ao cap l en n p o) (m : Nat) : RgS (w.drewN m) r ao cap l en n p o := h.keep (below_drewN0 (Below.refl _ _) m)
theorem RgS.tkb (h : RgS w r ao cap l en n p o) : ∀ g, ao = some ⟨g, 0, none⟩ → l.length = 0 ∨ g < w.heap.size := fun g e => by
  rcases h.tk with h0 | ⟨g', e', h1', h2', _⟩
  · exact .inl h0
  · rw [e] at e'; cases e'; exact .inr h2'
theorem RgS.off (h : RgS w r ao cap l en n p o) {q : Addr} (hq : q.block ≠ r) (hg : ∀ g, ao = some ⟨g, 0, none⟩ → l.length = 0 ∨ q.block ≠ g) (u : Value) : RgS (w.setCell q u) r ao cap l en n p o :=
  h.kp (S := fun k => k ≠ q.block) ((Kp.refl _ w).setCell (.inl (fun h => h rfl)) u) (Ne.symm hq) (fun g e => (hg g e).imp id Ne.symm)
theorem RgS.hao (h : RgS w r ao cap l en n p o) : ∀ b, w.heap.size ≤ b → ∀ g, ao = some ⟨g, 0, none⟩ → l.length = 0 ∨ b ≠ g := fun b hb g e =>
  (h.tkb g e).imp id fun hh => by omega
theorem RgE.kp {w' : World} {S : Nat → Prop} (h : RgE w r o c a) (hk : Kp S w w') (hr : S r) : RgE w' r o c a := by
  have hc : ∀ i, w'.cell? ⟨r, i, none⟩ = w.cell? ⟨r, i, none⟩ := fun i => World.cell?_of_block (w := w) (a := ⟨r, i, none⟩) (hk.block r h.sz hr)
  have hf : ∀ i, w'.frozen? ⟨r, i, none⟩ = w.frozen? ⟨r, i, none⟩ := fun i => World.frozen?_of_block (w := w) (a := ⟨r, i, none⟩) (hk.block r h.sz hr)
  exact ⟨by rw [hc]; exact h.c3, by rw [hc]; exact h.c4, by rw [hc]; exact h.c5, by rw [hc]; exact h.c6, fun i => by rw [hf]; exact h.fz i, Nat.lt_of_lt_of_le h.sz hk.size, h.ol, h.ne⟩
theorem RgE.keep {w' : World} (h : RgE w r o c a) (hb : Below w.heap.size w w') : RgE w' r o c a := h.kp (S := fun _ => True) (Kp.of_below hb) trivial
theorem RgE.alloc_ (h : RgE w r o c a) (x : Obj) : RgE (w.alloc x) r o c a := h.keep ((Below.refl _ _).alloc (Nat.le_refl _) _)
theorem RgE.drew_ (h : RgE w r o c a) (m : Nat) : RgE (w.drewN m) r o c a := h.keep (below_drewN0 (Below.refl _ _) m)
theorem RgE.off (h : RgE w r o c a) {q : Addr} (hq : q.block ≠ r) (u : Value) : RgE (w.setCell q u) r o c a :=
  h.kp (S := fun k => k ≠ q.block) ((Kp.refl _ w).setCell (.inl (fun h => h rfl)) u) (Ne.symm hq)
theorem RgS.tk_but {w' : World} (h : RgS w r ao cap l en n p o) (hb : But r w w') : l.length = 0 ∨ ∃ g, ao = some ⟨g, 0, none⟩ ∧ g ≠ r ∧ g < w'.heap.size ∧ Toks w' g l := RdS.tk_but h.tk hb
theorem RgS.setNext (h : RgS w r ao cap l en n p o) (hn : n < l.length) : RgS (w.setCell ⟨r, 2, none⟩ (.int .i64 ((n + 1 : Nat) : Int))) r ao cap l en (n + 1) p o := by
  have tk := h.tk_but ((But.refl r w).setCell (p := ⟨r, 2, none⟩) (.inl rfl) (.int .i64 ((n + 1 : Nat) : Int)))
  obtain ⟨c0, c1, c2, c3, c4, c5, c6, fz, sz, ln, nl, pl, ol, _⟩ := h
  exact ⟨by simp [go_sem, c0], by simp [go_sem, c1], by simp [go_sem, c2], by simp [go_sem, c3], by simp [go_sem, c4], by simp [go_sem, c5], by simp [go_sem, c6], by simp [go_sem, fz], by simpa [World.setCell] using sz, ln, hn, pl, ol, tk⟩
theorem RgS.setParts (h : RgS w r ao cap l en n p o) {q : Nat} (hn : q ≤ 60) : RgS (w.setCell ⟨r, 4, none⟩ (.int .i64 (q : Int))) r ao cap l en n q o := by
  have tk := h.tk_but ((But.refl r w).setCell (p := ⟨r, 4, none⟩) (.inl rfl) (.int .i64 (q : Int)))
  obtain ⟨c0, c1, c2, c3, c4, c5, c6, fz, sz, ln, nl, pl, ol, _⟩ := h
  exact ⟨by simp [go_sem, c0], by simp [go_sem, c1], by simp [go_sem, c2], by simp [go_sem, c3], by simp [go_sem, c4], by simp [go_sem, c5], by simp [go_sem, c6], by simp [go_sem, fz], by simpa [World.setCell] using sz, ln, nl, hn, ol, tk⟩
theorem RgS.setOpen (h : RgS w r ao cap l en n p o) {q : Nat} (hn : q ≤ 40) : RgS (w.setCell ⟨r, 3, none⟩ (.int .i64 (q : Int))) r ao cap l en n p q := by
  have tk := h.tk_but ((But.refl r w).setCell (p := ⟨r, 3, none⟩) (.inl rfl) (.int .i64 (q : Int)))
  obtain ⟨c0, c1, c2, c3, c4, c5, c6, fz, sz, ln, nl, pl, ol, _⟩ := h
  exact ⟨by simp [go_sem, c0], by simp [go_sem, c1], by simp [go_sem, c2], by simp [go_sem, c3], by simp [go_sem, c4], by simp [go_sem, c5], by simp [go_sem, c6], by simp [go_sem, fz], by simpa [World.setCell] using sz, ln, nl, pl, hn, tk⟩
theorem RgE.setOpen (h : RgE w r o c a) {q : Nat} (hn : q ≤ 40) : RgE (w.setCell ⟨r, 3, none⟩ (.int .i64 (q : Int))) r q c a := by
  obtain ⟨c3, ⟨p, c4⟩, c5, c6, fz, sz, ol, ne⟩ := h
  exact ⟨by simp [go_sem, c3], ⟨p, by simp [go_sem, c4]⟩, by simp [go_sem, c5], by simp [go_sem, c6], by simp [go_sem, fz], by simpa [World.setCell] using sz, hn, ne⟩
theorem RgE.setParts (h : RgE w r o c a) (q : Int) : RgE (w.setCell ⟨r, 4, none⟩ (.int .i64 q)) r o c a := by
  obtain ⟨c3, ⟨p, c4⟩, c5, c6, fz, sz, ol, ne⟩ := h
  exact ⟨by simp [go_sem, c3], ⟨q, by simp [go_sem, c4]⟩, by simp [go_sem, c5], by simp [go_sem, c6], by simp [go_sem, fz], by simpa [World.setCell] using sz, ol, ne⟩
theorem RgS.setFault (h : RgS w r ao cap l en n p o) (hc : c ≠ 0) : RgE ((w.setCell ⟨r, 5, none⟩ (.int .i64 c)).setCell ⟨r, 6, none⟩ (.int .i64 a)) r o c a := by
  obtain ⟨c0, c1, c2, c3, c4, c5, c6, fz, sz, ln, nl, pl, ol, _⟩ := h
  exact ⟨by simp [go_sem, c3], ⟨(p : Int), by simp [go_sem, c4]⟩, by simp [go_sem, c5], by simp [go_sem, c6], by simp [go_sem, fz], by simpa [World.setCell] using sz, ol, hc⟩

set_option maxHeartbeats 1000000 in
theorem ok_yes (h : RgS w r ao cap l en n p o) :
    Calls Try.prog 36 #[.pointer (some ⟨r, 0, none⟩)] w fun e w' => e = .returned (.bool true) ∧ w' = w := by
  have c5 := h.c5
  go_enter Try.func36, Try.ntmps36
  go_wp2_with fail
  go_ret
  exact ⟨rfl, rfl⟩
set_option maxHeartbeats 1000000 in
theorem ok_no (h : RgE w r o c a) :
    Calls Try.prog 36 #[.pointer (some ⟨r, 0, none⟩)] w fun e w' => e = .returned (.bool false) ∧ w' = w := by
  have c5 := h.c5
  have hc : (c == 0) = false := by simpa using h.ne
  go_enter Try.func36, Try.ntmps36
  go_wp2_with fail
  go_ret
  exact ⟨ret_bool (by simp), rfl⟩
set_option maxHeartbeats 1000000 in
theorem wrong_err (h : RgE w r o c a) (k : Int) :
    Calls Try.prog 37 #[.pointer (some ⟨r, 0, none⟩), .int .i64 k] w fun e w' => e = .returned (.tuple #[]) ∧ w' = w := by
  have O := ok_no h
  go_enter Try.func37, Try.ntmps37
  go_wp2_with fail
  refine O.mono ?_
  rintro e wx ⟨rfl, hwx⟩; obtain rfl := hwx.symm
  go_wp2_with fail
  refine bodyPost_ret (results_none rfl _ _ _) rfl ⟨rfl, rfl⟩
theorem rF_eq (c a : Int) (w : World) :
    Calls Try.prog 24 #[.int .i64 c, .int .i64 a] w fun e w' => e = .returned (.agg #[.int .i64 c, .int .i64 a]) ∧ w' = w.alloc (.cells #[.int .i64 c, .int .i64 a] 25) := by
  go_enter Try.func24, Try.ntmps24
  go_wp2_with fail
  exact bodyPost_ret (v := .agg #[.int .i64 c, .int .i64 a]) (by simp [results, Try.results24, go_sem]) rfl ⟨rfl, rfl⟩
set_option maxHeartbeats 4000000 in
theorem wrong_at (h : RgS w r ao cap l en n p o) (hn : n < l.length) (k : Int) (hk : k ≠ 0) :
    Calls Try.prog 37 #[.pointer (some ⟨r, 0, none⟩), .int .i64 k] w fun e w' => e = .returned (.tuple #[]) ∧ RgE w' r o k (plc l en n) ∧ But r w w' := by
  have O := ok_yes h
  have H := h
  obtain ⟨c0, c1, c2, c3, c4, c5, c6, fz, sz, ln, nl, pl, ol, tk⟩ := h
  obtain tk | ⟨g, rfl, hr, hg, t⟩ := tk
  · omega
  have a1 := t.c1 n hn
  have hca : ∀ X i, (w.alloc X).cell? ⟨r, i, none⟩ = w.cell? ⟨r, i, none⟩ := fun X i => World.cell?_alloc_lt _ _ _ sz
  have hfa : ∀ X i, (w.alloc X).frozen? ⟨r, i, none⟩ = false := fun X i => by rw [World.frozen?_alloc_old _ _ _ (by simp; omega)]; exact fz i
  have hca2 : ∀ m X i, ((w.drewN m).alloc X).cell? ⟨r, i, none⟩ = w.cell? ⟨r, i, none⟩ := fun m X i => World.cell?_alloc_lt (w.drewN m) _ _ sz
  have hfa2 : ∀ m X i, ((w.drewN m).alloc X).frozen? ⟨r, i, none⟩ = false := fun m X i => by rw [World.frozen?_alloc_old _ _ _ (by simp; omega)]; exact fz i
  rw [plc_lt hn]
  go_enter Try.func37, Try.ntmps37
  go_wp2_with fail
  refine O.mono ?_
  rintro e wx ⟨rfl, hwx⟩; obtain rfl := hwx.symm
  go_wp2_with fail
  go_quiet (fail)
  go_wp2_with fail
  go_region_with (go_at_call 24; refine (rF_eq _ _ _).mono ?_; rintro e w1 ⟨rfl, rfl⟩)
  all_goals
    go_wp2_with fail
    refine bodyPost_ret (results_none rfl _ _ _) rfl ⟨rfl, ((H.drew_ _).alloc_ _).setFault hk, ((((But.refl r w).drewN _).alloc _).setCell (.inl rfl) _).setCell (.inl rfl) _⟩
set_option maxHeartbeats 4000000 in
theorem wrong_end (h : RgS w r ao cap l en n p o) (hn : ¬ n < l.length) :
    Calls Try.prog 37 #[.pointer (some ⟨r, 0, none⟩), .int .i64 3] w fun e w' => e = .returned (.tuple #[]) ∧ RgE w' r o 4 en ∧ But r w w' := by
  have O := ok_yes h
  have H := h
  obtain ⟨c0, c1, c2, c3, c4, c5, c6, fz, sz, ln, nl, pl, ol, tk⟩ := h
  have hca2 : ∀ m X i, ((w.drewN m).alloc X).cell? ⟨r, i, none⟩ = w.cell? ⟨r, i, none⟩ := fun m X i => World.cell?_alloc_lt (w.drewN m) _ _ sz
  have hfa2 : ∀ m X i, ((w.drewN m).alloc X).frozen? ⟨r, i, none⟩ = false := fun m X i => by rw [World.frozen?_alloc_old _ _ _ (by simp; omega)]; exact fz i
  go_enter Try.func37, Try.ntmps37
  go_wp2_with fail
  refine O.mono ?_
  rintro e wx ⟨rfl, hwx⟩; obtain rfl := hwx.symm
  go_wp2_with fail
  go_quiet (fail)
  go_wp2_with fail
  refine (rF_eq _ _ _).mono ?_
  rintro e w1 ⟨rfl, rfl⟩
  go_wp2_with fail
  first | go_end0 | refine bodyPost_ret (results_none rfl _ _ _) rfl ?_
  exact ⟨rfl, ((H.drew_ _).alloc_ _).setFault (by decide), ((((But.refl r w).drewN _).alloc _).setCell (.inl rfl) _).setCell (.inl rfl) _⟩
theorem wrong_form (h : RgS w r ao cap l en n p o) :
    Calls Try.prog 37 #[.pointer (some ⟨r, 0, none⟩), .int .i64 3] w fun e w' => e = .returned (.tuple #[]) ∧ RgE w' r o (fm l n) (plc l en n) ∧ But r w w' := by
  by_cases hn : n < l.length
  · rw [show fm l n = 3 by simp [fm, hn]]; exact wrong_at h hn 3 (by decide)
  · rw [show fm l n = 4 by simp [fm, hn], plc_ge hn]; exact wrong_end h hn
set_option maxHeartbeats 4000000 in
theorem is_any (h : RgS w r ao cap l en n p o) (s : ByteArray) :
    Calls Try.prog 53 #[.pointer (some ⟨r, 0, none⟩), .string s] w fun e w' => e = .returned (.bool (isS l n s)) ∧ ∃ m, w' = w.drewN m := by
  have O := fun m => ok_yes (h.drew_ m)
  obtain ⟨c0, c1, c2, c3, c4, c5, c6, fz, sz, ln, nl, pl, ol, tk⟩ := h
  by_cases hn : n < l.length
  · obtain tk | ⟨g, rfl, hr, hg, t⟩ := tk
    · omega
    have a0 := t.c0 n hn
    have a2 := t.c2 n hn
    unfold isS
    rw [knd_lt hn, txt_lt hn]
    by_cases hk : l[n].k = 3
    · have bk : (l[n].k == 3) = true := by simpa using hk
      go_enter Try.func53, Try.ntmps53
      go_wp2_with fail
      go_quiet ((go_at_call 36; exact Calls.quiet_of_same (O _)))
      go_wp2_with fail
      go_ret
      exact ⟨ret_bool (by simp [hk, beq_str]), _, rfl⟩
    · have bk : (l[n].k == 3) = false := by simpa using hk
      go_enter Try.func53, Try.ntmps53
      go_wp2_with fail
      go_quiet ((go_at_call 36; exact Calls.quiet_of_same (O _)))
      go_wp2_with fail
      go_ret
      exact ⟨ret_bool (by simp [hk]), _, rfl⟩
  · have hnB : decide ((n : Int) < (l.length : Int)) = false := by simp; omega
    unfold isS
    rw [knd_ge hn]
    go_enter Try.func53, Try.ntmps53
    go_wp2_with fail
    go_quiet ((go_at_call 36; exact Calls.quiet_of_same (O _)))
    go_wp2_with fail
    go_ret
    exact ⟨ret_bool (by simp), _, rfl⟩
set_option maxHeartbeats 4000000 in
theorem is_err (h : RgE w r o c a) (s : ByteArray) :
    Calls Try.prog 53 #[.pointer (some ⟨r, 0, none⟩), .string s] w fun e w' => e = .returned (.bool false) ∧ ∃ m, w' = w.drewN m := by
  have O := fun m => ok_no (h.drew_ m)
  go_enter Try.func53, Try.ntmps53
  go_wp2_with fail
  go_quiet ((go_at_call 36; exact Calls.quiet_of_same (O _)))
  go_wp2_with fail
  go_ret
  exact ⟨ret_bool (by simp), _, rfl⟩
set_option maxHeartbeats 4000000 in
theorem kind_any (h : RgS w r ao cap l en n p o) :
    Calls Try.prog 38 #[.pointer (some ⟨r, 0, none⟩)] w fun e w' => e = .returned (.int .i64 (knd l n)) ∧ ∃ m, w' = w.drewN m := by
  have O := fun m => ok_yes (h.drew_ m)
  obtain ⟨c0, c1, c2, c3, c4, c5, c6, fz, sz, ln, nl, pl, ol, tk⟩ := h
  by_cases hn : n < l.length
  · obtain tk | ⟨g, rfl, hr, hg, t⟩ := tk
    · omega
    have a0 := t.c0 n hn
    rw [knd_lt hn]
    go_enter Try.func38, Try.ntmps38
    go_wp2_with fail
    go_quiet ((go_at_call 36; exact Calls.quiet_of_same (O _)))
    go_wp2_with fail
    go_quiet (fail)
    go_wp2_with fail
    go_ret
    exact ⟨rfl, _, drewN_add _ _ _⟩
  · rw [knd_ge hn]
    have hge : (l.length : Int) ≤ (n : Int) := by omega
    go_enter Try.func38, Try.ntmps38
    go_wp2_with fail
    go_quiet ((go_at_call 36; exact Calls.quiet_of_same (O _)))
    go_wp2_with fail
    go_ret
    exact ⟨rfl, _, rfl⟩
set_option maxHeartbeats 4000000 in
theorem take_any (h : RgS w r ao cap l en n p o) (hn : n < l.length) :
    Calls Try.prog 70 #[.pointer (some ⟨r, 0, none⟩)] w fun e w' => e = .returned (.string (txt l n)) ∧ RgS w' r ao cap l en (n + 1) p o ∧ But r w w' := by
  have H := h
  obtain ⟨c0, c1, c2, c3, c4, c5, c6, fz, sz, ln, nl, pl, ol, tk⟩ := h
  obtain tk | ⟨g, rfl, hr, hg, t⟩ := tk
  · omega
  have a2 := t.c2 n hn
  have hgr : ∀ u i, (w.setCell ⟨r, 2, none⟩ u).cell? ⟨g, i, none⟩ = w.cell? ⟨g, i, none⟩ := fun u i => World.cell?_of_block (w := w) (a := ⟨g, i, none⟩) (Below.heap_setCell _ _ _ _ hr)
  rw [txt_lt hn]
  go_enter Try.func70, Try.ntmps70
  go_wp2_with fail
  go_quiet (fail)
  go_wp2_with fail
  go_ret
  exact ⟨rfl, (H.setNext hn).drew_ _, ((But.refl r w).setCell (.inl rfl) _).drewN _⟩
set_option maxHeartbeats 4000000 in
theorem must_yes (h : RgS w r ao cap l en n p o) (s : ByteArray) (hs : isS l n s = true) :
    Calls Try.prog 39 #[.pointer (some ⟨r, 0, none⟩), .string s] w fun e w' => e = .returned (.tuple #[]) ∧ RgS w' r ao cap l en (n + 1) p o ∧ But r w w' := by
  have H := h
  have I := is_any h s
  have hn := lt_of_isS hs
  rw [hs] at I
  obtain ⟨c0, c1, c2, c3, c4, c5, c6, fz, sz, ln, nl, pl, ol, tk⟩ := h
  go_enter Try.func39, Try.ntmps39
  go_wp2_with fail
  refine I.mono ?_
  rintro e w1 ⟨rfl, m, rfl⟩
  go_wp2_with fail
  go_end0
  exact ⟨rfl, (H.drew_ m).setNext hn, ((But.refl r w).drewN m).setCell (.inl rfl) _⟩
set_option maxHeartbeats 4000000 in
theorem must_no (h : RgS w r ao cap l en n p o) (s : ByteArray) (hs : isS l n s = false) :
    Calls Try.prog 39 #[.pointer (some ⟨r, 0, none⟩), .string s] w fun e w' => e = .returned (.tuple #[]) ∧ RgE w' r o (fm l n) (plc l en n) ∧ But r w w' := by
  have I := is_any h s
  have B := fun m => wrong_form (h.drew_ m)
  rw [hs] at I
  clear h
  go_enter Try.func39, Try.ntmps39
  go_wp2_with fail
  refine I.mono ?_
  rintro e w1 ⟨rfl, m, rfl⟩
  go_wp2_with fail
  refine (B m).mono ?_
  rintro e w2 ⟨rfl, h2, hb2⟩
  go_wp2_with fail
  refine bodyPost_ret (results_none rfl _ _ _) rfl ⟨rfl, h2, ((But.refl r w).drewN m).trans hb2⟩
set_option maxHeartbeats 4000000 in
theorem must_err (h : RgE w r o c a) (s : ByteArray) :
    Calls Try.prog 39 #[.pointer (some ⟨r, 0, none⟩), .string s] w fun e w' => e = .returned (.tuple #[]) ∧ ∃ m, w' = w.drewN m := by
  have I := is_err h s
  have B := fun m => wrong_err (h.drew_ m) 3
  clear h
  go_enter Try.func39, Try.ntmps39
  go_wp2_with fail
  refine I.mono ?_
  rintro e w1 ⟨rfl, m, rfl⟩
  go_wp2_with fail
  refine (B m).mono ?_
  rintro e wx ⟨rfl, hwx⟩; obtain rfl := hwx.symm
  go_wp2_with fail
  refine bodyPost_ret (results_none rfl _ _ _) rfl ⟨rfl, m, rfl⟩
set_option maxHeartbeats 4000000 in
theorem rpart_yes (h : RgS w r ao cap l en n p o) (hp : ¬ p = 60) :
    Calls Try.prog 55 #[.pointer (some ⟨r, 0, none⟩)] w fun e w' => e = .returned (.tuple #[]) ∧ RgS w' r ao cap l en n (p + 1) o ∧ But r w w' := by
  have H := h
  obtain ⟨c0, c1, c2, c3, c4, c5, c6, fz, sz, ln, nl, pl, ol, tk⟩ := h
  have hpl : (p : Int) < 60 := by omega
  go_enter Try.func55, Try.ntmps55
  go_wp2_with fail
  go_end0
  exact ⟨rfl, H.setParts (q := p + 1) (by omega), (But.refl r w).setCell (.inl rfl) _⟩
set_option maxHeartbeats 4000000 in
theorem rpart_no (h : RgS w r ao cap l en n p o) (hn : n < l.length) (hp : p = 60) :
    Calls Try.prog 55 #[.pointer (some ⟨r, 0, none⟩)] w fun e w' => e = .returned (.tuple #[]) ∧ RgE w' r o 6 (plc l en n) ∧ But r w w' := by
  have B := wrong_at h hn 6 (by decide)
  have c4 := h.c4
  subst hp
  clear h
  go_enter Try.func55, Try.ntmps55
  go_wp2_with fail
  refine B.mono ?_
  rintro e w1 ⟨rfl, h1, hb1⟩
  have H1 := h1
  obtain ⟨d3, ⟨q, d4⟩, d5, d6, df, dz, dol, dne⟩ := h1
  go_wp2_with fail
  go_end0
  exact ⟨rfl, H1.setParts _, hb1.setCell (.inl rfl) _⟩
set_option maxHeartbeats 4000000 in
theorem rpart_err (h : RgE w r o c a) :
    Calls Try.prog 55 #[.pointer (some ⟨r, 0, none⟩)] w fun e w' => e = .returned (.tuple #[]) ∧ RgE w' r o c a ∧ But r w w' := by
  have B := wrong_err h 6
  have H1 := h
  obtain ⟨d3, ⟨q, d4⟩, d5, d6, df, dz, dol, dne⟩ := h
  by_cases hq : 60 ≤ q
  · go_enter Try.func55, Try.ntmps55
    go_wp2_with fail
    refine B.mono ?_
    rintro e wx ⟨rfl, hwx⟩; obtain rfl := hwx.symm
    go_wp2_with fail
    go_end0
    exact ⟨rfl, H1.setParts _, (But.refl r w).setCell (.inl rfl) _⟩
  · go_enter Try.func55, Try.ntmps55
    go_wp2_with fail
    go_end0
    exact ⟨rfl, H1.setParts _, (But.refl r w).setCell (.inl rfl) _⟩
end
end Go.Proofs.Ythbbfddclhcoaaa
