/- Brackets and items: the reader's own functions. -/
import Derived.Test.YtdikjhfnmkejcabRd
namespace Go.Proofs.Ytdikjhfnmkejcab
open Go.RowKit

section
variable (r : Nat) (ao : Option Addr) (cap : Nat) (l : List Tk) (en : Int)
/-- How the reading of an expression ends. -/
def OutX (o : Nat) (w : World) (res : Res Xp) (e : Ending) (w' : World) : Prop :=
  match res with
  | .ok x n p => ∃ v, e = .returned v ∧ XV w' (fun k => w.heap.size ≤ k) v x ∧ RdS w' r ao cap l en n p o ∧ But r w w'
  | .err c a => Pan r c a w e w'
  | .out => False
def OutI (o : Nat) (w : World) (res : Res (Option Xp)) (e : Ending) (w' : World) : Prop :=
  match res with
  | .ok none n p => e = .returned (.tuple #[.agg #[.int .i64 0, .string ⟨#[]⟩, .slice none 0 0], .bool false]) ∧ RdS w' r ao cap l en n p o ∧ But r w w'
  | .ok (some x) n p => ∃ v, e = .returned (.tuple #[v, .bool true]) ∧ XV w' (fun k => w.heap.size ≤ k) v x ∧ RdS w' r ao cap l en n p o ∧ But r w w'
  | .err c a => Pan r c a w e w'
  | .out => False
def AltOK (k : Nat) : Prop := ∀ n p o w, RdS w r ao cap l en n p o → 4 * (l.length - n) + 3 ≤ k →
  Calls Try.prog 84 #[.pointer (some ⟨r, 0, none⟩)] w (OutX r ao cap l en o w (alt l en k n p o))
def RowOK (k : Nat) : Prop := ∀ n p o w, RdS w r ao cap l en n p o → 4 * (l.length - n) + 2 ≤ k →
  Calls Try.prog 97 #[.pointer (some ⟨r, 0, none⟩)] w (OutX r ao cap l en o w (rowL l en k n p o .nil))
def ItemOK (k : Nat) : Prop := ∀ n p o w, RdS w r ao cap l en n p o → 4 * (l.length - n) + 1 ≤ k →
  Calls Try.prog 102 #[.pointer (some ⟨r, 0, none⟩)] w (OutI r ao cap l en o w (item l en k n p o))
end
theorem But.bcell {r : Nat} {W w1 : World} (hb : But r W w1) : (∀ b o, b < W.heap.size → ¬ b = r → w1.cell? ⟨b, o, none⟩ = W.cell? ⟨b, o, none⟩) ∧ (∀ b o, b < W.heap.size → ¬ b = r → w1.frozen? ⟨b, o, none⟩ = W.frozen? ⟨b, o, none⟩) :=
  ⟨fun _ _ h h' => hb.cell h h', fun _ _ h h' => hb.frozen h h'⟩
theorem Pan.but {r : Nat} {c a : Int} {w w1 : World} {e : Ending} {w' : World} (h : Pan r c a w1 e w') (hb : But r w w1) : Pan r c a w e w' :=
  ⟨h.1, h.2.1, h.2.2.1, hb.trans h.2.2.2⟩
section
variable {r : Nat} {ao : Option Addr} {cap : Nat} {l : List Tk} {en : Int} {n p o : Nat} {w : World}
theorem RdS.alloc_ (h : RdS w r ao cap l en n p o) (x : Obj) : RdS (w.alloc x) r ao cap l en n p o := h.keep ((Below.refl _ _).alloc (Nat.le_refl _) _)
theorem RdS.off (h : RdS w r ao cap l en n p o) {q : Addr} (hq : q.block ≠ r) (hg : ∀ g, ao = some ⟨g, 0, none⟩ → l.length = 0 ∨ q.block ≠ g) (u : Value) : RdS (w.setCell q u) r ao cap l en n p o := by
  have hc : ∀ b i, b ≠ q.block → (w.setCell q u).cell? ⟨b, i, none⟩ = w.cell? ⟨b, i, none⟩ := fun b i hb => World.cell?_of_block (w := w) (a := ⟨b, i, none⟩) (Below.heap_setCell _ _ _ _ hb)
  have hf : ∀ b i, b ≠ q.block → (w.setCell q u).frozen? ⟨b, i, none⟩ = w.frozen? ⟨b, i, none⟩ := fun b i hb => World.frozen?_of_block (w := w) (a := ⟨b, i, none⟩) (Below.heap_setCell _ _ _ _ hb)
  have hr := Ne.symm hq
  refine ⟨by rw [hc _ _ hr]; exact h.c0, by rw [hc _ _ hr]; exact h.c1, by rw [hc _ _ hr]; exact h.c2, by rw [hc _ _ hr]; exact h.c3, by rw [hc _ _ hr]; exact h.c4, by rw [hc _ _ hr]; exact h.c5, by rw [hc _ _ hr]; exact h.c6, fun i => by rw [hf _ _ hr]; exact h.fz i, by simpa [World.setCell] using h.sz, h.ln, h.nl, h.pl, h.ol, ?_⟩
  rcases h.tk with h0 | ⟨g, e, h1, h2, t⟩
  · exact .inl h0
  · rcases hg g e with h3 | h3
    · exact .inl h3
    · exact .inr ⟨g, e, h1, by simpa [World.setCell] using h2, fun k hk => by rw [hc _ _ (Ne.symm h3)]; exact t.c0 k hk, fun k hk => by rw [hc _ _ (Ne.symm h3)]; exact t.c1 k hk, fun k hk => by rw [hc _ _ (Ne.symm h3)]; exact t.c2 k hk⟩
set_option maxRecDepth 100000 in
set_option maxHeartbeats 1000000 in
theorem inside_deep (h : RdS w r ao cap l en n p o) (ho : o = 40) (op : Int) (cl : ByteArray) :
    Calls Try.prog 105 #[.pointer (some ⟨r, 0, none⟩), .int .i64 op, .string cl] w fun e w' => Pan r 5 (plc l en n) w e w' := by
  have B := fun x => giveUp_any (h.alloc_ x) 5
  have c4 := h.c4
  have fz := h.fz
  have sz := h.sz
  clear h
  subst ho
  go_enter Try.func105, Try.ntmps105
  go_wp2_with fail
  refine (B _).mono ?_
  rintro e w1 h1
  obtain ⟨rfl, h1, h2, h3⟩ := h1.but ((But.refl r w).alloc _)
  go_wp2_with fail
  exact ⟨rfl, rfl, h1, h2, h3⟩
set_option maxRecDepth 100000 in
set_option maxHeartbeats 1000000 in
theorem inside_many (h : RdS w r ao cap l en n p o) (ho : ¬ o = 40) (hp : p = 60) (op : Int) (cl : ByteArray) :
    Calls Try.prog 105 #[.pointer (some ⟨r, 0, none⟩), .int .i64 op, .string cl] w fun e w' => Pan r 6 (plc l en n) w e w' := by
  have B := fun x => part_no (h.alloc_ x) hp
  have c4 := h.c4
  have fz := h.fz
  have sz := h.sz
  clear h
  go_enter Try.func105, Try.ntmps105
  go_wp2_with fail
  refine (B _).mono ?_
  rintro e w1 h1
  obtain ⟨rfl, h1, h2, h3⟩ := h1.but ((But.refl r w).alloc _)
  go_wp2_with fail
  exact ⟨rfl, rfl, h1, h2, h3⟩
set_option maxRecDepth 100000 in
set_option maxHeartbeats 2000000 in
theorem inside_any {k : Nat} (H : AltOK r ao cap l en k) (h : RdS w r ao cap l en n p o) (ho : ¬ o = 40) (hp : ¬ p = 60) (hn : n < l.length) (hk : 4 * (l.length - n) ≤ k) (op : Int) (cl : ByteArray) :
    Calls Try.prog 105 #[.pointer (some ⟨r, 0, none⟩), .int .i64 op, .string cl] w fun e w' =>
      match alt l en k (n + 1) (p + 1) (o + 1) with
      | .ok x n' p' => if isS l n' cl = true then (∃ v, e = .returned v ∧ XV w' (fun k => w.heap.size ≤ k) v (wrap op x) ∧ RdS w' r ao cap l en (n' + 1) p' o ∧ But r w w') else Pan r (fm l n') (plc l en n') w e w'
      | .err c a => Pan r c a w e w'
      | .out => False := by
  have B := fun x => part_yes (h.alloc_ x) hn hp
  have hol := h.ol
  have A := fun w1 (h1 : RdS w1 r ao cap l en (n + 1) (p + 1) (o + 1)) => H (n + 1) (p + 1) (o + 1) w1 h1 (by omega)
  have c4 := h.c4
  have fz := h.fz
  have sz := h.sz
  have hne : ¬ w.heap.size = r := by omega
  have hoB : ((o : Int) == 40) = false := by simp; omega
  have ho1 : o + 1 ≤ 40 := by omega
  cases hA : alt l en k (n + 1) (p + 1) (o + 1) with
  | out => 
    rw [hA] at A
    clear h
    go_enter Try.func105, Try.ntmps105
    go_wp2_with fail
    refine (B _).mono ?_
    rintro e w1 ⟨rfl, h1, hb1⟩
    have c4' := h1.c4
    have fz' := h1.fz
    go_wp2_with fail
    refine (A _ (h1.setOpen (q := o + 1) ho1)).mono ?_
    rintro e w2 h2
    exact h2.elim
  | err c a => 
    rw [hA] at A
    clear h
    go_enter Try.func105, Try.ntmps105
    go_wp2_with fail
    refine (B _).mono ?_
    rintro e w1 ⟨rfl, h1, hb1⟩
    have c4' := h1.c4
    have fz' := h1.fz
    go_wp2_with fail
    refine (A _ (h1.setOpen (q := o + 1) ho1)).mono ?_
    rintro e w2 h2
    obtain ⟨rfl, h3, h4, h5⟩ := Pan.but h2 ((((But.refl r w).alloc _).trans hb1).setCell (.inl rfl) _)
    go_wp2_with fail
    exact ⟨rfl, rfl, h3, h4, h5⟩
  | ok x n' p' =>
    rw [hA] at A
    have HT := h.tk
    clear h
    by_cases hs : isS l n' cl = true
    · have hn' := lt_of_isS hs
      simp only [if_pos hs]
      by_cases hop : op = 0
      · subst hop
        have hw : wrap 0 x = x := if_pos rfl
        simp only [hw]
        go_enter Try.func105, Try.ntmps105
        go_wp2_with fail
        refine (B _).mono ?_
        rintro e w1 ⟨rfl, h1, hb1⟩
        have c4' := h1.c4
        have fz' := h1.fz
        go_wp2_with fail
        refine (A _ (h1.setOpen (q := o + 1) ho1)).mono ?_
        rintro e w2 ⟨v, rfl, hx, h2, hb2⟩
        have z1 := hb1.size
        have z2 := hb2.size
        simp [World.setCell] at z1 z2
        have hx' : XV w2 (fun k => w.heap.size + 1 ≤ k) v x := hx.mono fun b o v hs hc => ⟨Nat.le_trans z1 (by simpa [World.setCell] using hs), hc⟩
        clear hx
        have hxx := hx'
        obtain ⟨u, rfl, hl, ao', cap', rfl, hin⟩ := hx'
        clear hin
        go_wp2_with fail
        refine (sees_any (h2.alloc_ _) cl).mono ?_
        rintro e w3 ⟨rfl, hb3⟩
        have z3 := hb3.size
        simp at z3
        rw [hs]
        go_wp2_with fail
        refine (need_yes ((h2.alloc_ _).keep hb3) hn').mono ?_
        rintro e w4 ⟨rfl, h4, hb4⟩
        have z4 := hb4.size
        have c4'' := h4.c4
        have fz'' := h4.fz
        have bA := ((hb1.setCell (p := ⟨r, 4, none⟩) (.inl rfl) (.int .i64 ((o + 1 : Nat) : Int))).trans hb2).trans ((((But.refl r w2).alloc _).trans (But.of_below hb3)).trans hb4)
        have bB := (But.of_below (r := r) hb3).trans hb4
        have hne2 : ¬ w2.heap.size = r := by omega
        have hne3 : ¬ w2.heap.size = w.heap.size := by omega
        have e0 : w4.cell? ⟨w.heap.size, 0, none⟩ = some (.int .i64 0) := by rw [bA.cell (by simp) hne]; simp
        have e1 : w4.cell? ⟨w.heap.size, 1, none⟩ = some (.string ⟨#[]⟩) := by rw [bA.cell (by simp) hne]; simp
        have e2 : w4.cell? ⟨w.heap.size, 2, none⟩ = some (.slice none 0 0) := by rw [bA.cell (by simp) hne]; simp
        have ef : ∀ i, w4.frozen? ⟨w.heap.size, i, none⟩ = false := fun i => by rw [bA.frozen (by simp) hne]; simp
        have d0 : w4.cell? ⟨w2.heap.size, 0, none⟩ = some (.int .i64 x.op) := by rw [bB.cell (by simp) hne2]; simp
        have d1 : w4.cell? ⟨w2.heap.size, 1, none⟩ = some (.string x.nm) := by rw [bB.cell (by simp) hne2]; simp
        have d2 : w4.cell? ⟨w2.heap.size, 2, none⟩ = some (.slice ao' x.kids.len cap') := by rw [bB.cell (by simp) hne2]; simp
        have bC := ((But.refl r w).alloc _).trans bA
        have kC : Kp (fun k => w.heap.size + 1 ≤ k) w2 w4 := ((((Kp.refl _ w2).alloc _).trans (Kp.of_below hb3)).trans (Kp.of_but hb4 (by omega)))
        have hao : ∀ g, ao = some ⟨g, 0, none⟩ → l.length = 0 ∨ w.heap.size ≠ g := fun g e => by
          rcases HT with h0 | ⟨g', e', h1', h2', _⟩
          · exact .inl h0
          · rw [e] at e'; cases e'; right; omega
        clear bA bB hb1 hb2 hb3 hb4 HT
        go_wp2_with fail
        refine bodyPost_ret (v := .agg #[.int .i64 x.op, .string x.nm, .slice ao' x.kids.len cap']) (by simp [results, Try.results105, go_sem, e0, e1, e2]) rfl ⟨_, rfl, ?_, ?_, ?_⟩
        · exact hxx.kp ((((kC.setCell (.inl (by simp; omega)) _).setCell (.inl (by simp)) _).setCell (.inl (by simp)) _).setCell (.inl (by simp)) _) (fun k _ h => by omega)
        · exact (((h4.setOpen (q := o) (by omega)).off (by simp; omega) hao _).off (by simp; omega) hao _).off (by simp; omega) hao _
        · exact (((bC.setCell (.inl rfl) _).setCell (.inr (Nat.le_refl _)) _).setCell (.inr (Nat.le_refl _)) _).setCell (.inr (Nat.le_refl _)) _
      · have hw : wrap op x = ⟨op, ⟨#[]⟩, Fo.nil.snoc x⟩ := if_neg hop
        simp only [hw]
        go_enter Try.func105, Try.ntmps105
        go_wp2_with fail
        refine (B _).mono ?_
        rintro e w1 ⟨rfl, h1, hb1⟩
        have c4' := h1.c4
        have fz' := h1.fz
        go_wp2_with fail
        refine (A _ (h1.setOpen (q := o + 1) ho1)).mono ?_
        rintro e w2 ⟨v, rfl, hx, h2, hb2⟩
        have z1 := hb1.size
        have z2 := hb2.size
        simp [World.setCell] at z1 z2
        have hx' : XV w2 (fun k => w.heap.size + 1 ≤ k) v x := hx.mono fun b o v hs hc => ⟨Nat.le_trans z1 (by simpa [World.setCell] using hs), hc⟩
        clear hx
        have hxx := hx'
        obtain ⟨u, rfl, hl, ao', cap', rfl, hin⟩ := hx'
        clear hin
        go_wp2_with fail
        refine (sees_any (h2.alloc_ _) cl).mono ?_
        rintro e w3 ⟨rfl, hb3⟩
        have z3 := hb3.size
        simp at z3
        rw [hs]
        go_wp2_with fail
        refine (need_yes ((h2.alloc_ _).keep hb3) hn').mono ?_
        rintro e w4 ⟨rfl, h4, hb4⟩
        have z4 := hb4.size
        have c4'' := h4.c4
        have fz'' := h4.fz
        have bA := ((hb1.setCell (p := ⟨r, 4, none⟩) (.inl rfl) (.int .i64 ((o + 1 : Nat) : Int))).trans hb2).trans ((((But.refl r w2).alloc _).trans (But.of_below hb3)).trans hb4)
        have bB := (But.of_below (r := r) hb3).trans hb4
        have hne2 : ¬ w2.heap.size = r := by omega
        have hne3 : ¬ w2.heap.size = w.heap.size := by omega
        have e0 : w4.cell? ⟨w.heap.size, 0, none⟩ = some (.int .i64 0) := by rw [bA.cell (by simp) hne]; simp
        have e1 : w4.cell? ⟨w.heap.size, 1, none⟩ = some (.string ⟨#[]⟩) := by rw [bA.cell (by simp) hne]; simp
        have e2 : w4.cell? ⟨w.heap.size, 2, none⟩ = some (.slice none 0 0) := by rw [bA.cell (by simp) hne]; simp
        have ef : ∀ i, w4.frozen? ⟨w.heap.size, i, none⟩ = false := fun i => by rw [bA.frozen (by simp) hne]; simp
        have d0 : w4.cell? ⟨w2.heap.size, 0, none⟩ = some (.int .i64 x.op) := by rw [bB.cell (by simp) hne2]; simp
        have d1 : w4.cell? ⟨w2.heap.size, 1, none⟩ = some (.string x.nm) := by rw [bB.cell (by simp) hne2]; simp
        have d2 : w4.cell? ⟨w2.heap.size, 2, none⟩ = some (.slice ao' x.kids.len cap') := by rw [bB.cell (by simp) hne2]; simp
        have bC := ((But.refl r w).alloc _).trans bA
        have kC : Kp (fun k => w.heap.size + 1 ≤ k) w2 w4 := ((((Kp.refl _ w2).alloc _).trans (Kp.of_below hb3)).trans (Kp.of_but hb4 (by omega)))
        have hao : ∀ g, ao = some ⟨g, 0, none⟩ → l.length = 0 ∨ w.heap.size ≠ g := fun g e => by
          rcases HT with h0 | ⟨g', e', h1', h2', _⟩
          · exact .inl h0
          · rw [e] at e'; cases e'; right; omega
        have hlt4 : w.heap.size < w4.heap.size := by omega
        have gc : ∀ X i, ((w4.setCell ⟨r, 4, none⟩ (.int .i64 (o : Int))).alloc X).cell? ⟨w.heap.size, i, none⟩ = w4.cell? ⟨w.heap.size, i, none⟩ := fun X i => by
          rw [World.cell?_alloc_lt _ _ _ (by simpa [World.setCell] using hlt4)]
          exact World.cell?_of_block (w := w4) (a := ⟨w.heap.size, i, none⟩) (Below.heap_setCell _ _ _ _ hne)
        have gf : ∀ X i, ((w4.setCell ⟨r, 4, none⟩ (.int .i64 (o : Int))).alloc X).frozen? ⟨w.heap.size, i, none⟩ = false := fun X i => by
          rw [World.frozen?_alloc_old _ _ _ (by simp [World.setCell]; omega)]
          rw [World.frozen?_of_block (w := w4) (a := ⟨w.heap.size, i, none⟩) (Below.heap_setCell _ _ _ _ hne)]
          exact ef i
        clear bA bB hb1 hb2 hb3 hb4 HT
        go_wp2_with fail
        have kW := (((((kC.setCell (p := ⟨r, 4, none⟩) (.inl (by simp; omega)) (.int .i64 (o : Int))).setCell (p := ⟨w.heap.size, 0, none⟩) (.inl (by simp)) (.int .i64 op)).setCell (p := ⟨w.heap.size, 1, none⟩) (.inl (by simp)) (.string ⟨#[]⟩)).setCell (p := ⟨w.heap.size, 2, none⟩) (.inl (by simp)) (.slice (some ⟨w4.heap.size, 0, none⟩) 1 1))).alloc (.cells #[.int .i64 x.op, .string x.nm, .slice ao' x.kids.len cap'] 48)
        have hxW := hxx.kp (T := fun k => w.heap.size ≤ k) kW (fun k _ h => by omega)
        refine bodyPost_ret (v := .agg #[.int .i64 op, .string ⟨#[]⟩, .slice (some ⟨w4.heap.size, 0, none⟩) 1 1]) (by simp [results, Try.results105, go_sem, e0, e1, e2, hlt4]) rfl ⟨_, rfl, ⟨_, rfl, ?_⟩, ?_, ?_⟩
        · exact FoV_one (by omega) (by simp [go_sem]) (by simp [go_sem]) (by simp [go_sem]) hxW.fov
        · exact ((((h4.setOpen (q := o) (by omega)).off (by simp; omega) hao _).off (by simp; omega) hao _).off (by simp; omega) hao _).alloc_ _
        · exact ((((bC.setCell (.inl rfl) _).setCell (.inr (Nat.le_refl _)) _).setCell (.inr (Nat.le_refl _)) _).setCell (.inr (Nat.le_refl _)) _).alloc _
    · simp only [if_neg hs]
      have hs' : isS l n' cl = false := by simpa using hs
      clear HT
      go_enter Try.func105, Try.ntmps105
      go_wp2_with fail
      refine (B _).mono ?_
      rintro e w1 ⟨rfl, h1, hb1⟩
      have c4' := h1.c4
      have fz' := h1.fz
      go_wp2_with fail
      refine (A _ (h1.setOpen (q := o + 1) ho1)).mono ?_
      rintro e w2 ⟨v, rfl, hx, h2, hb2⟩
      have z1 := hb1.size
      have z2 := hb2.size
      simp [World.setCell] at z1 z2
      have hx' : XV w2 (fun k => w.heap.size + 1 ≤ k) v x := hx.mono fun b o v hs hc => ⟨Nat.le_trans z1 (by simpa [World.setCell] using hs), hc⟩
      clear hx
      have hxx := hx'
      obtain ⟨u, rfl, hl, ao', cap', rfl, hin⟩ := hx'
      clear hin
      go_wp2_with fail
      refine (sees_any (h2.alloc_ _) cl).mono ?_
      rintro e w3 ⟨rfl, hb3⟩
      have z3 := hb3.size
      simp at z3
      rw [hs']
      go_wp2_with fail
      refine (need_no ((h2.alloc_ _).keep hb3) false (fun _ => rfl)).mono ?_
      rintro e w4 h4
      obtain ⟨rfl, h5, h6, h7⟩ := Pan.but h4 (((((But.refl r w).alloc _).trans (hb1.setCell (p := ⟨r, 4, none⟩) (.inl rfl) (.int .i64 ((o + 1 : Nat) : Int)))).trans hb2).trans (((But.refl r w2).alloc _).trans (But.of_below hb3)))
      go_wp2_with fail
      exact ⟨rfl, rfl, h5, h6, h7⟩
end
end Go.Proofs.Ytdikjhfnmkejcab
