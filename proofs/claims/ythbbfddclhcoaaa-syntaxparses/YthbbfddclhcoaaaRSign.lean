/- The document's reader: brackets. -/
import Derived.Test.YthbbfddclhcoaaaRItem
namespace Go.Proofs.Ythbbfddclhcoaaa
open Go.RowKit
section
variable {r : Nat} {ao : Option Addr} {cap : Nat} {l : List Tk} {en : Int} {n p o : Nat} {w : World}
set_option maxRecDepth 100000 in
set_option maxHeartbeats 4000000 in
theorem ritem_sign {k : Nat} (H : RAltOK r ao cap l en k) (h : RgS w r ao cap l en n p o) (hk1 : ¬ knd l n = 1) (hk2 : ¬ knd l n = 2) (hop : opn l n = true) (ho : ¬ o = 40) (hp : ¬ p = 60) (hf : 4 * (l.length - n) ≤ k) :
    Calls Try.prog 65 #[.pointer (some ⟨r, 0, none⟩)] w (ROutI r ao cap l en o w (match alt l en k (n + 1) (p + 1) (o + 1) with
        | .ok x n' p' => if isS l n' (brk (txt l n)).2 = true then .ok (some (wrap (brk (txt l n)).1 x)) (n' + 1) p' else .err (fm l n') (plc l en n')
        | .err c a => .err c a
        | .out => .out)) := by
  have sz := h.sz
  have hne : ¬ w.heap.size = r := by omega
  have ha := h.hao _ (Nat.le_refl _)
  have K := kind_any (h.alloc_ (.cells #[.int .i64 0, .string ⟨#[]⟩, .slice none 0 0] 49))
  have hol : (o : Int) < 40 := by have := h.ol; omega
  have ho1 : o + 1 ≤ 40 := by omega
  have hn0 := lt_of_opn hop
  have hn6 : (n : Int) < 6000 := by have := h.ln; omega
  have A := fun w1 (h1 : RgS w1 r ao cap l en (n + 1) (p + 1) (o + 1)) => H (n + 1) (p + 1) (o + 1) w1 h1 (by omega)
  have hop0 : (brk (txt l n)).1 = 0 ∨ 0 < (brk (txt l n)).1 := by
    unfold brk; repeat' split
    all_goals first | exact .inl rfl | exact .inr (by decide)
  have OP := fun w' (h' : RgS w' r ao cap l en n p o) => opened_yes h' hop
  have hn := lt_of_opn hop
  have hcl : ((brk (txt l n)).2.toList == []) = false := by
    have := beq_str (brk (txt l n)).2 ⟨#[]⟩
    rw [ByteArray.toList_eq ⟨#[]⟩] at this
    simp [opn] at hop
    exact this.trans (by simpa using hop.2)
  unfold ROutI
  generalize (brk (txt l n)).2 = cl at *
  generalize (brk (txt l n)).1 = op at *
  generalize knd l n = kk at *
  have b1 : (kk == 1) = false := by simpa using hk1
  have b2 : (kk == 2) = false := by simpa using hk2
  cases hA : alt l en k (n + 1) (p + 1) (o + 1) with
  | out =>
    rw [hA] at A
    go_enter Try.func65, Try.ntmps65
    go_wp2_with fail
    refine K.mono ?_
    rintro e w1 ⟨rfl, m1, rfl⟩
    have h1 := (h.alloc_ (.cells #[.int .i64 0, .string ⟨#[]⟩, .slice none 0 0] 49)).drew_ m1
    have bb1 : But r w ((w.alloc (.cells #[.int .i64 0, .string ⟨#[]⟩, .slice none 0 0] 49)).drewN m1) := ((But.refl r w).alloc _).drewN m1
    go_wp2_with fail
    refine (OP _ h1).mono ?_
    rintro e w2 ⟨rfl, hb2⟩
    have hb2' : But r ((w.alloc (.cells #[.int .i64 0, .string ⟨#[]⟩, .slice none 0 0] 49)).drewN m1) w2 := But.of_below hb2
    have h2 := h1.keep hb2
    have q3 := h2.c3
    have qf := h2.fz
    go_wp2_with fail
    refine (rpart_yes h2 hp).mono ?_
    rintro e w3 ⟨rfl, h3, hb3⟩
    go_wp2_with fail
    refine (ok_yes h3).mono ?_
    rintro e wx ⟨rfl, hwx⟩; obtain rfl := hwx.symm
    have r3 := h3.c3
    have r2 := h3.c2
    have rf := h3.fz
    have z2 := hb2.size
    have z3 := hb3.size
    simp at z2
    go_wp2_with fail
    have h4 := (h3.setOpen (q := o + 1) ho1).setNext hn
    have bb4 := ((hb2'.trans hb3).setCell (p := ⟨r, 3, none⟩) (.inl rfl) (.int .i64 ((o + 1 : Nat) : Int))).setCell (p := ⟨r, 2, none⟩) (.inl rfl) (.int .i64 ((n + 1 : Nat) : Int))
    obtain ⟨w4, hw4⟩ : ∃ w4, w4 = (w3.setCell ⟨r, 3, none⟩ (.int .i64 ((o + 1 : Nat) : Int))).setCell ⟨r, 2, none⟩ (.int .i64 ((n + 1 : Nat) : Int)) := ⟨_, rfl⟩
    have z4 : w4.heap.size = w3.heap.size := by rw [hw4]; simp [World.setCell]
    rw [← hw4] at h4 bb4
    try rw [show ((o : Int) + 1) = ((o + 1 : Nat) : Int) from rfl, show ((n : Int) + 1) = ((n + 1 : Nat) : Int) from rfl]
    rw [← hw4]
    refine (A _ h4).mono ?_
    rintro e w5 h5
    exact h5.elim
  | err c a =>
    rw [hA] at A
    rcases hop0 with hop0 | hop0
    · subst hop0
      go_enter Try.func65, Try.ntmps65
      go_wp2_with fail
      refine K.mono ?_
      rintro e w1 ⟨rfl, m1, rfl⟩
      have h1 := (h.alloc_ (.cells #[.int .i64 0, .string ⟨#[]⟩, .slice none 0 0] 49)).drew_ m1
      have bb1 : But r w ((w.alloc (.cells #[.int .i64 0, .string ⟨#[]⟩, .slice none 0 0] 49)).drewN m1) := ((But.refl r w).alloc _).drewN m1
      go_wp2_with fail
      refine (OP _ h1).mono ?_
      rintro e w2 ⟨rfl, hb2⟩
      have hb2' : But r ((w.alloc (.cells #[.int .i64 0, .string ⟨#[]⟩, .slice none 0 0] 49)).drewN m1) w2 := But.of_below hb2
      have h2 := h1.keep hb2
      have q3 := h2.c3
      have qf := h2.fz
      go_wp2_with fail
      refine (rpart_yes h2 hp).mono ?_
      rintro e w3 ⟨rfl, h3, hb3⟩
      go_wp2_with fail
      refine (ok_yes h3).mono ?_
      rintro e wx ⟨rfl, hwx⟩; obtain rfl := hwx.symm
      have r3 := h3.c3
      have r2 := h3.c2
      have rf := h3.fz
      have z2 := hb2.size
      have z3 := hb3.size
      simp at z2
      go_wp2_with fail
      have h4 := (h3.setOpen (q := o + 1) ho1).setNext hn
      have bb4 := ((hb2'.trans hb3).setCell (p := ⟨r, 3, none⟩) (.inl rfl) (.int .i64 ((o + 1 : Nat) : Int))).setCell (p := ⟨r, 2, none⟩) (.inl rfl) (.int .i64 ((n + 1 : Nat) : Int))
      obtain ⟨w4, hw4⟩ : ∃ w4, w4 = (w3.setCell ⟨r, 3, none⟩ (.int .i64 ((o + 1 : Nat) : Int))).setCell ⟨r, 2, none⟩ (.int .i64 ((n + 1 : Nat) : Int)) := ⟨_, rfl⟩
      have z4 : w4.heap.size = w3.heap.size := by rw [hw4]; simp [World.setCell]
      rw [← hw4] at h4 bb4
      try rw [show ((o : Int) + 1) = ((o + 1 : Nat) : Int) from rfl, show ((n : Int) + 1) = ((n + 1 : Nat) : Int) from rfl]
      rw [← hw4]
      refine (A _ h4).mono ?_
      rintro e w5 ⟨xi, xs, xq, xm, xk, rfl, h5, hb5⟩
      have z5 := hb5.size
      have sz5 := h5.sz
      go_wp2_with fail
      refine (must_err (h5.alloc_ _) cl).mono ?_
      rintro e w6 ⟨rfl, m6, hw6⟩
      have h6 := (h5.alloc_ (.cells #[.int .i64 xi, .string xs, .slice xq xm xk] 49)).drew_ m6
      have b6 : But r (w5.alloc (.cells #[.int .i64 xi, .string xs, .slice xq xm xk] 49)) w6 := by rw [hw6]; exact (But.refl r _).drewN m6
      rw [← hw6] at h6
      clear hw6
      have z6 := b6.size
      simp at z6
      have hne5 : ¬ w5.heap.size = r := by omega
      have hne50 : ¬ w5.heap.size = w.heap.size := by omega
      have hne05 : ¬ w.heap.size = w5.heap.size := by omega
      have bR := ((bb4.trans hb5).alloc _).trans b6
      have d0 : w6.cell? ⟨w5.heap.size, 0, none⟩ = some (.int .i64 xi) := by rw [b6.cell (by simp) hne5]; simp
      have d1 : w6.cell? ⟨w5.heap.size, 1, none⟩ = some (.string xs) := by rw [b6.cell (by simp) hne5]; simp
      have d2 : w6.cell? ⟨w5.heap.size, 2, none⟩ = some (.slice xq xm xk) := by rw [b6.cell (by simp) hne5]; simp
      have df : ∀ i, w6.frozen? ⟨w5.heap.size, i, none⟩ = false := fun i => by rw [b6.frozen (by simp) hne5]; simp
      have e0 : w6.cell? ⟨w.heap.size, 0, none⟩ = some (.int .i64 0) := by rw [bR.cell (by simp) hne]; simp
      have e1 : w6.cell? ⟨w.heap.size, 1, none⟩ = some (.string ⟨#[]⟩) := by rw [bR.cell (by simp) hne]; simp
      have e2 : w6.cell? ⟨w.heap.size, 2, none⟩ = some (.slice none 0 0) := by rw [bR.cell (by simp) hne]; simp
      have ef : ∀ i, w6.frozen? ⟨w.heap.size, i, none⟩ = false := fun i => by rw [bR.frozen (by simp) hne]; simp
      have x3 := h6.c3
      have xf := h6.fz
      have h7 := h6.setOpen (q := o) (by omega)
      have h7d : RgE (w6.setCell ⟨r, 3, none⟩ (.int .i64 (o : Int))).drew r o c a := h7.drew_ 1
      clear K A OP hb5 hb2 hb2' hb3 H
      go_wp2_with fail
      go_region_with (go_at_call 36; refine (ok_no h7d).mono ?_; rintro e wx ⟨rfl, hwx⟩; obtain rfl := hwx.symm)
      all_goals
        go_wp2_with fail
        refine bodyPost_ret (v := .tuple #[.agg #[.int .i64 xi, .string xs, .slice xq xm xk], .bool false]) (by simp [results, Try.results65, go_sem, e0, e1, e2]) rfl ⟨_, _, _, _, _, rfl, ?_, ?_⟩
        · exact (((h7.off (by simp; omega) _).off (by simp; omega) _).off (by simp; omega) _).drew_ 1
        · exact ((((bb1.trans (bR.setCell (.inl rfl) _)).setCell (.inr (Nat.le_refl _)) _).setCell (.inr (Nat.le_refl _)) _).setCell (.inr (Nat.le_refl _)) _).drew
    · have hopB : ¬ op = 0 := by omega
      go_enter Try.func65, Try.ntmps65
      go_wp2_with fail
      refine K.mono ?_
      rintro e w1 ⟨rfl, m1, rfl⟩
      have h1 := (h.alloc_ (.cells #[.int .i64 0, .string ⟨#[]⟩, .slice none 0 0] 49)).drew_ m1
      have bb1 : But r w ((w.alloc (.cells #[.int .i64 0, .string ⟨#[]⟩, .slice none 0 0] 49)).drewN m1) := ((But.refl r w).alloc _).drewN m1
      go_wp2_with fail
      refine (OP _ h1).mono ?_
      rintro e w2 ⟨rfl, hb2⟩
      have hb2' : But r ((w.alloc (.cells #[.int .i64 0, .string ⟨#[]⟩, .slice none 0 0] 49)).drewN m1) w2 := But.of_below hb2
      have h2 := h1.keep hb2
      have q3 := h2.c3
      have qf := h2.fz
      go_wp2_with fail
      refine (rpart_yes h2 hp).mono ?_
      rintro e w3 ⟨rfl, h3, hb3⟩
      go_wp2_with fail
      refine (ok_yes h3).mono ?_
      rintro e wx ⟨rfl, hwx⟩; obtain rfl := hwx.symm
      have r3 := h3.c3
      have r2 := h3.c2
      have rf := h3.fz
      have z2 := hb2.size
      have z3 := hb3.size
      simp at z2
      go_wp2_with fail
      have h4 := (h3.setOpen (q := o + 1) ho1).setNext hn
      have bb4 := ((hb2'.trans hb3).setCell (p := ⟨r, 3, none⟩) (.inl rfl) (.int .i64 ((o + 1 : Nat) : Int))).setCell (p := ⟨r, 2, none⟩) (.inl rfl) (.int .i64 ((n + 1 : Nat) : Int))
      obtain ⟨w4, hw4⟩ : ∃ w4, w4 = (w3.setCell ⟨r, 3, none⟩ (.int .i64 ((o + 1 : Nat) : Int))).setCell ⟨r, 2, none⟩ (.int .i64 ((n + 1 : Nat) : Int)) := ⟨_, rfl⟩
      have z4 : w4.heap.size = w3.heap.size := by rw [hw4]; simp [World.setCell]
      rw [← hw4] at h4 bb4
      try rw [show ((o : Int) + 1) = ((o + 1 : Nat) : Int) from rfl, show ((n : Int) + 1) = ((n + 1 : Nat) : Int) from rfl]
      rw [← hw4]
      refine (A _ h4).mono ?_
      rintro e w5 ⟨xi, xs, xq, xm, xk, rfl, h5, hb5⟩
      have z5 := hb5.size
      have sz5 := h5.sz
      go_wp2_with fail
      refine (must_err (h5.alloc_ _) cl).mono ?_
      rintro e w6 ⟨rfl, m6, hw6⟩
      have h6 := (h5.alloc_ (.cells #[.int .i64 xi, .string xs, .slice xq xm xk] 49)).drew_ m6
      have b6 : But r (w5.alloc (.cells #[.int .i64 xi, .string xs, .slice xq xm xk] 49)) w6 := by rw [hw6]; exact (But.refl r _).drewN m6
      rw [← hw6] at h6
      clear hw6
      have z6 := b6.size
      simp at z6
      have hne5 : ¬ w5.heap.size = r := by omega
      have hne50 : ¬ w5.heap.size = w.heap.size := by omega
      have hne05 : ¬ w.heap.size = w5.heap.size := by omega
      have bR := ((bb4.trans hb5).alloc _).trans b6
      have d0 : w6.cell? ⟨w5.heap.size, 0, none⟩ = some (.int .i64 xi) := by rw [b6.cell (by simp) hne5]; simp
      have d1 : w6.cell? ⟨w5.heap.size, 1, none⟩ = some (.string xs) := by rw [b6.cell (by simp) hne5]; simp
      have d2 : w6.cell? ⟨w5.heap.size, 2, none⟩ = some (.slice xq xm xk) := by rw [b6.cell (by simp) hne5]; simp
      have df : ∀ i, w6.frozen? ⟨w5.heap.size, i, none⟩ = false := fun i => by rw [b6.frozen (by simp) hne5]; simp
      have e0 : w6.cell? ⟨w.heap.size, 0, none⟩ = some (.int .i64 0) := by rw [bR.cell (by simp) hne]; simp
      have e1 : w6.cell? ⟨w.heap.size, 1, none⟩ = some (.string ⟨#[]⟩) := by rw [bR.cell (by simp) hne]; simp
      have e2 : w6.cell? ⟨w.heap.size, 2, none⟩ = some (.slice none 0 0) := by rw [bR.cell (by simp) hne]; simp
      have ef : ∀ i, w6.frozen? ⟨w.heap.size, i, none⟩ = false := fun i => by rw [bR.frozen (by simp) hne]; simp
      have x3 := h6.c3
      have xf := h6.fz
      have h7 := h6.setOpen (q := o) (by omega)
      obtain ⟨w8, hw8⟩ : ∃ w8, w8 = ((((w6.setCell ⟨r, 3, none⟩ (.int .i64 (o : Int))).alloc (.cells #[.int .i64 xi, .string xs, .slice xq xm xk] 49)).setCell ⟨w5.heap.size, 0, none⟩ (.int .i64 op)).setCell ⟨w5.heap.size, 1, none⟩ (.string ⟨#[]⟩)).setCell ⟨w5.heap.size, 2, none⟩ (.slice (some ⟨w6.heap.size, 0, none⟩) 1 1) := ⟨_, rfl⟩
      have h8 : RgE w8 r o c a := by rw [hw8]; exact (((h7.alloc_ _).off (by simp; omega) _).off (by simp; omega) _).off (by simp; omega) _
      have h8d : RgE w8.drew r o c a := h8.drew_ 1
      have kV : Kp (fun k => k ≠ r ∧ k ≠ w5.heap.size) w6 w8 := by rw [hw8]; exact (((((Kp.refl _ w6).setCell (.inl (by simp)) _).alloc _).setCell (.inl (by simp)) _).setCell (.inl (by simp)) _).setCell (.inl (by simp)) _
      have bV : But r ((w.alloc (.cells #[.int .i64 0, .string ⟨#[]⟩, .slice none 0 0] 49)).drewN m1) w8 := by
        rw [hw8]
        exact ((((bR.setCell (.inl rfl) _).alloc _).setCell (.inr (by simp; omega)) _).setCell (.inr (by simp; omega)) _).setCell (.inr (by simp; omega)) _
      have E0 : w8.cell? ⟨w.heap.size, 0, none⟩ = some (.int .i64 0) := by rw [World.cell?_of_block (w := w6) (a := ⟨w.heap.size, 0, none⟩) (kV.block _ (lt_of_cell e0) ⟨hne, hne05⟩)]; exact e0
      have E1 : w8.cell? ⟨w.heap.size, 1, none⟩ = some (.string ⟨#[]⟩) := by rw [World.cell?_of_block (w := w6) (a := ⟨w.heap.size, 1, none⟩) (kV.block _ (lt_of_cell e0) ⟨hne, hne05⟩)]; exact e1
      have E2 : w8.cell? ⟨w.heap.size, 2, none⟩ = some (.slice none 0 0) := by rw [World.cell?_of_block (w := w6) (a := ⟨w.heap.size, 2, none⟩) (kV.block _ (lt_of_cell e0) ⟨hne, hne05⟩)]; exact e2
      have EF : ∀ i, w8.frozen? ⟨w.heap.size, i, none⟩ = false := fun i => by rw [World.frozen?_of_block (w := w6) (a := ⟨w.heap.size, i, none⟩) (kV.block _ (lt_of_cell e0) ⟨hne, hne05⟩)]; exact ef i
      have gcB : ∀ Y i, ((w6.setCell ⟨r, 3, none⟩ (.int .i64 (o : Int))).alloc Y).cell? ⟨w5.heap.size, i, none⟩ = w6.cell? ⟨w5.heap.size, i, none⟩ := fun Y i => by
        rw [World.cell?_alloc_lt _ _ _ (by simp [World.setCell]; omega)]
        exact World.cell?_of_block (w := w6) (a := ⟨w5.heap.size, i, none⟩) (Below.heap_setCell _ _ _ _ hne5)
      have gfB : ∀ Y i, ((w6.setCell ⟨r, 3, none⟩ (.int .i64 (o : Int))).alloc Y).frozen? ⟨w5.heap.size, i, none⟩ = false := fun Y i => by
        rw [World.frozen?_alloc_old _ _ _ (by simp [World.setCell]; omega)]
        rw [World.frozen?_of_block (w := w6) (a := ⟨w5.heap.size, i, none⟩) (Below.heap_setCell _ _ _ _ hne5)]
        exact df i
      have D0 : w8.cell? ⟨w5.heap.size, 0, none⟩ = some (.int .i64 op) := by rw [hw8]; simp [go_sem, gcB, d0]
      have D1 : w8.cell? ⟨w5.heap.size, 1, none⟩ = some (.string ⟨#[]⟩) := by rw [hw8]; simp [go_sem, gcB, d1]
      have D2 : w8.cell? ⟨w5.heap.size, 2, none⟩ = some (.slice (some ⟨w6.heap.size, 0, none⟩) 1 1) := by rw [hw8]; simp [go_sem, gcB, d2]
      clear K A OP hb5 hb2 hb2' hb3 H
      go_wp2_with fail
      rw [← hw8]
      clear hw8
      go_region_with (go_at_call 36; refine (ok_no h8d).mono ?_; rintro e wx ⟨rfl, hwx⟩; obtain rfl := hwx.symm)
      all_goals
        go_wp2_with fail
        refine bodyPost_ret (v := .tuple #[.agg #[.int .i64 op, .string ⟨#[]⟩, .slice (some ⟨w6.heap.size, 0, none⟩) 1 1], .bool false]) (by simp [results, Try.results65, go_sem, E0, E1, E2]) rfl ⟨_, _, _, _, _, rfl, ?_, ?_⟩
        · exact (((h8.off (by simp; omega) _).off (by simp; omega) _).off (by simp; omega) _).drew_ 1
        · exact ((((bb1.trans bV).setCell (.inr (Nat.le_refl _)) _).setCell (.inr (Nat.le_refl _)) _).setCell (.inr (Nat.le_refl _)) _).drew
  | ok x n' p' =>
    rw [hA] at A
    by_cases hs : isS l n' cl = true
    · simp only [if_pos hs]
      rcases hop0 with hop0 | hop0
      · subst hop0
        go_enter Try.func65, Try.ntmps65
        go_wp2_with fail
        refine K.mono ?_
        rintro e w1 ⟨rfl, m1, rfl⟩
        have h1 := (h.alloc_ (.cells #[.int .i64 0, .string ⟨#[]⟩, .slice none 0 0] 49)).drew_ m1
        have bb1 : But r w ((w.alloc (.cells #[.int .i64 0, .string ⟨#[]⟩, .slice none 0 0] 49)).drewN m1) := ((But.refl r w).alloc _).drewN m1
        go_wp2_with fail
        refine (OP _ h1).mono ?_
        rintro e w2 ⟨rfl, hb2⟩
        have hb2' : But r ((w.alloc (.cells #[.int .i64 0, .string ⟨#[]⟩, .slice none 0 0] 49)).drewN m1) w2 := But.of_below hb2
        have h2 := h1.keep hb2
        have q3 := h2.c3
        have qf := h2.fz
        go_wp2_with fail
        refine (rpart_yes h2 hp).mono ?_
        rintro e w3 ⟨rfl, h3, hb3⟩
        go_wp2_with fail
        refine (ok_yes h3).mono ?_
        rintro e wx ⟨rfl, hwx⟩; obtain rfl := hwx.symm
        have r3 := h3.c3
        have r2 := h3.c2
        have rf := h3.fz
        have z2 := hb2.size
        have z3 := hb3.size
        simp at z2
        go_wp2_with fail
        have h4 := (h3.setOpen (q := o + 1) ho1).setNext hn
        have bb4 := ((hb2'.trans hb3).setCell (p := ⟨r, 3, none⟩) (.inl rfl) (.int .i64 ((o + 1 : Nat) : Int))).setCell (p := ⟨r, 2, none⟩) (.inl rfl) (.int .i64 ((n + 1 : Nat) : Int))
        obtain ⟨w4, hw4⟩ : ∃ w4, w4 = (w3.setCell ⟨r, 3, none⟩ (.int .i64 ((o + 1 : Nat) : Int))).setCell ⟨r, 2, none⟩ (.int .i64 ((n + 1 : Nat) : Int)) := ⟨_, rfl⟩
        have z4 : w4.heap.size = w3.heap.size := by rw [hw4]; simp [World.setCell]
        rw [← hw4] at h4 bb4
        try rw [show ((o : Int) + 1) = ((o + 1 : Nat) : Int) from rfl, show ((n : Int) + 1) = ((n + 1 : Nat) : Int) from rfl]
        rw [← hw4]
        refine (A _ h4).mono ?_
        rintro e w5 ⟨v, rfl, hx, h5, hb5⟩
        have z5 := hb5.size
        have sz5 := h5.sz
        have hxx : XV w5 (fun k => w.heap.size + 1 ≤ k) v x := hx.mono fun b o v hs hc => ⟨by omega, hc⟩
        clear hx
        obtain ⟨xi, hxi⟩ : ∃ xi, xi = x.op := ⟨_, rfl⟩
        obtain ⟨xs, hxs⟩ : ∃ xs, xs = x.nm := ⟨_, rfl⟩
        obtain ⟨u, rfl, hl, xq, xk, rfl, hin⟩ := id hxx
        clear hin
        obtain ⟨xm, hxm⟩ : ∃ xm, xm = x.kids.len := ⟨_, rfl⟩
        rw [← hxi, ← hxs, ← hxm] at hxx ⊢
        have HXI := hd hxi
        have HXS := hd hxs
        have HXM := hd hxm
        clear hxi hxs hxm hl
        go_wp2_with fail
        refine (must_yes (h5.alloc_ _) cl hs).mono ?_
        rintro e w6 ⟨rfl, h6, b6⟩
        have z6 := b6.size
        simp at z6
        have hne5 : ¬ w5.heap.size = r := by omega
        have hne50 : ¬ w5.heap.size = w.heap.size := by omega
        have hne05 : ¬ w.heap.size = w5.heap.size := by omega
        have bR := ((bb4.trans hb5).alloc _).trans b6
        have d0 : w6.cell? ⟨w5.heap.size, 0, none⟩ = some (.int .i64 xi) := by rw [b6.cell (by simp) hne5]; simp
        have d1 : w6.cell? ⟨w5.heap.size, 1, none⟩ = some (.string xs) := by rw [b6.cell (by simp) hne5]; simp
        have d2 : w6.cell? ⟨w5.heap.size, 2, none⟩ = some (.slice xq xm xk) := by rw [b6.cell (by simp) hne5]; simp
        have df : ∀ i, w6.frozen? ⟨w5.heap.size, i, none⟩ = false := fun i => by rw [b6.frozen (by simp) hne5]; simp
        have e0 : w6.cell? ⟨w.heap.size, 0, none⟩ = some (.int .i64 0) := by rw [bR.cell (by simp) hne]; simp
        have e1 : w6.cell? ⟨w.heap.size, 1, none⟩ = some (.string ⟨#[]⟩) := by rw [bR.cell (by simp) hne]; simp
        have e2 : w6.cell? ⟨w.heap.size, 2, none⟩ = some (.slice none 0 0) := by rw [bR.cell (by simp) hne]; simp
        have ef : ∀ i, w6.frozen? ⟨w.heap.size, i, none⟩ = false := fun i => by rw [bR.frozen (by simp) hne]; simp
        have x3 := h6.c3
        have xf := h6.fz
        have h7 := h6.setOpen (q := o) (by omega)
        have kx : Kp (fun k => w.heap.size + 1 ≤ k) w5 w6 := ((Kp.refl _ w5).alloc _).trans (Kp.of_but b6 (by omega))
        have h7d : RgS (w6.setCell ⟨r, 3, none⟩ (.int .i64 (o : Int))).drew r ao cap l en (n' + 1) p' o := h7.drew_ 1
        clear K A OP hb5 hb2 hb2' hb3 H
        go_wp2_with fail
        go_region_with (go_at_call 36; refine (ok_yes h7d).mono ?_; rintro e wx ⟨rfl, hwx⟩; obtain rfl := hwx.symm)
        all_goals
          go_wp2_with fail
          refine bodyPost_ret (v := .tuple #[.agg #[.int .i64 xi, .string xs, .slice xq xm xk], .bool true]) (by simp [results, Try.results65, go_sem, e0, e1, e2]) rfl ⟨_, rfl, ?_, ?_, ?_⟩
          · rw [show wrap 0 x = x from if_pos rfl]
            exact hxx.kp (((((kx.setCell (.inl (by simp; omega)) _).setCell (.inl (by simp)) _).setCell (.inl (by simp)) _).setCell (.inl (by simp)) _).drewN 1) (fun k _ h => by omega)
          · exact (((h7.off (by simp; omega) ha _).off (by simp; omega) ha _).off (by simp; omega) ha _).drew_ 1
          · exact ((((bb1.trans (bR.setCell (.inl rfl) _)).setCell (.inr (Nat.le_refl _)) _).setCell (.inr (Nat.le_refl _)) _).setCell (.inr (Nat.le_refl _)) _).drew
      · have hopB : ¬ op = 0 := by omega
        go_enter Try.func65, Try.ntmps65
        go_wp2_with fail
        refine K.mono ?_
        rintro e w1 ⟨rfl, m1, rfl⟩
        have h1 := (h.alloc_ (.cells #[.int .i64 0, .string ⟨#[]⟩, .slice none 0 0] 49)).drew_ m1
        have bb1 : But r w ((w.alloc (.cells #[.int .i64 0, .string ⟨#[]⟩, .slice none 0 0] 49)).drewN m1) := ((But.refl r w).alloc _).drewN m1
        go_wp2_with fail
        refine (OP _ h1).mono ?_
        rintro e w2 ⟨rfl, hb2⟩
        have hb2' : But r ((w.alloc (.cells #[.int .i64 0, .string ⟨#[]⟩, .slice none 0 0] 49)).drewN m1) w2 := But.of_below hb2
        have h2 := h1.keep hb2
        have q3 := h2.c3
        have qf := h2.fz
        go_wp2_with fail
        refine (rpart_yes h2 hp).mono ?_
        rintro e w3 ⟨rfl, h3, hb3⟩
        go_wp2_with fail
        refine (ok_yes h3).mono ?_
        rintro e wx ⟨rfl, hwx⟩; obtain rfl := hwx.symm
        have r3 := h3.c3
        have r2 := h3.c2
        have rf := h3.fz
        have z2 := hb2.size
        have z3 := hb3.size
        simp at z2
        go_wp2_with fail
        have h4 := (h3.setOpen (q := o + 1) ho1).setNext hn
        have bb4 := ((hb2'.trans hb3).setCell (p := ⟨r, 3, none⟩) (.inl rfl) (.int .i64 ((o + 1 : Nat) : Int))).setCell (p := ⟨r, 2, none⟩) (.inl rfl) (.int .i64 ((n + 1 : Nat) : Int))
        obtain ⟨w4, hw4⟩ : ∃ w4, w4 = (w3.setCell ⟨r, 3, none⟩ (.int .i64 ((o + 1 : Nat) : Int))).setCell ⟨r, 2, none⟩ (.int .i64 ((n + 1 : Nat) : Int)) := ⟨_, rfl⟩
        have z4 : w4.heap.size = w3.heap.size := by rw [hw4]; simp [World.setCell]
        rw [← hw4] at h4 bb4
        try rw [show ((o : Int) + 1) = ((o + 1 : Nat) : Int) from rfl, show ((n : Int) + 1) = ((n + 1 : Nat) : Int) from rfl]
        rw [← hw4]
        refine (A _ h4).mono ?_
        rintro e w5 ⟨v, rfl, hx, h5, hb5⟩
        have z5 := hb5.size
        have sz5 := h5.sz
        have hxx : XV w5 (fun k => w.heap.size + 1 ≤ k) v x := hx.mono fun b o v hs hc => ⟨by omega, hc⟩
        clear hx
        obtain ⟨xi, hxi⟩ : ∃ xi, xi = x.op := ⟨_, rfl⟩
        obtain ⟨xs, hxs⟩ : ∃ xs, xs = x.nm := ⟨_, rfl⟩
        obtain ⟨u, rfl, hl, xq, xk, rfl, hin⟩ := id hxx
        clear hin
        obtain ⟨xm, hxm⟩ : ∃ xm, xm = x.kids.len := ⟨_, rfl⟩
        rw [← hxi, ← hxs, ← hxm] at hxx ⊢
        have HXI := hd hxi
        have HXS := hd hxs
        have HXM := hd hxm
        clear hxi hxs hxm hl
        go_wp2_with fail
        refine (must_yes (h5.alloc_ _) cl hs).mono ?_
        rintro e w6 ⟨rfl, h6, b6⟩
        have z6 := b6.size
        simp at z6
        have hne5 : ¬ w5.heap.size = r := by omega
        have hne50 : ¬ w5.heap.size = w.heap.size := by omega
        have hne05 : ¬ w.heap.size = w5.heap.size := by omega
        have bR := ((bb4.trans hb5).alloc _).trans b6
        have d0 : w6.cell? ⟨w5.heap.size, 0, none⟩ = some (.int .i64 xi) := by rw [b6.cell (by simp) hne5]; simp
        have d1 : w6.cell? ⟨w5.heap.size, 1, none⟩ = some (.string xs) := by rw [b6.cell (by simp) hne5]; simp
        have d2 : w6.cell? ⟨w5.heap.size, 2, none⟩ = some (.slice xq xm xk) := by rw [b6.cell (by simp) hne5]; simp
        have df : ∀ i, w6.frozen? ⟨w5.heap.size, i, none⟩ = false := fun i => by rw [b6.frozen (by simp) hne5]; simp
        have e0 : w6.cell? ⟨w.heap.size, 0, none⟩ = some (.int .i64 0) := by rw [bR.cell (by simp) hne]; simp
        have e1 : w6.cell? ⟨w.heap.size, 1, none⟩ = some (.string ⟨#[]⟩) := by rw [bR.cell (by simp) hne]; simp
        have e2 : w6.cell? ⟨w.heap.size, 2, none⟩ = some (.slice none 0 0) := by rw [bR.cell (by simp) hne]; simp
        have ef : ∀ i, w6.frozen? ⟨w.heap.size, i, none⟩ = false := fun i => by rw [bR.frozen (by simp) hne]; simp
        have x3 := h6.c3
        have xf := h6.fz
        have h7 := h6.setOpen (q := o) (by omega)
        have kx : Kp (fun k => w.heap.size + 1 ≤ k) w5 w6 := ((Kp.refl _ w5).alloc _).trans (Kp.of_but b6 (by omega))
        obtain ⟨w8, hw8⟩ : ∃ w8, w8 = ((((w6.setCell ⟨r, 3, none⟩ (.int .i64 (o : Int))).alloc (.cells #[.int .i64 xi, .string xs, .slice xq xm xk] 49)).setCell ⟨w5.heap.size, 0, none⟩ (.int .i64 op)).setCell ⟨w5.heap.size, 1, none⟩ (.string ⟨#[]⟩)).setCell ⟨w5.heap.size, 2, none⟩ (.slice (some ⟨w6.heap.size, 0, none⟩) 1 1) := ⟨_, rfl⟩
        have hao5 := h5.hao _ (Nat.le_refl _)
        have h8 : RgS w8 r ao cap l en (n' + 1) p' o := by rw [hw8]; exact (((h7.alloc_ _).off (by simp; omega) hao5 _).off (by simp; omega) hao5 _).off (by simp; omega) hao5 _
        have h8d : RgS w8.drew r ao cap l en (n' + 1) p' o := h8.drew_ 1
        have kV : Kp (fun k => k ≠ r ∧ k ≠ w5.heap.size) w6 w8 := by rw [hw8]; exact (((((Kp.refl _ w6).setCell (.inl (by simp)) _).alloc _).setCell (.inl (by simp)) _).setCell (.inl (by simp)) _).setCell (.inl (by simp)) _
        have bV : But r ((w.alloc (.cells #[.int .i64 0, .string ⟨#[]⟩, .slice none 0 0] 49)).drewN m1) w8 := by
          rw [hw8]
          exact ((((bR.setCell (.inl rfl) _).alloc _).setCell (.inr (by simp; omega)) _).setCell (.inr (by simp; omega)) _).setCell (.inr (by simp; omega)) _
        have E0 : w8.cell? ⟨w.heap.size, 0, none⟩ = some (.int .i64 0) := by rw [World.cell?_of_block (w := w6) (a := ⟨w.heap.size, 0, none⟩) (kV.block _ (lt_of_cell e0) ⟨hne, hne05⟩)]; exact e0
        have E1 : w8.cell? ⟨w.heap.size, 1, none⟩ = some (.string ⟨#[]⟩) := by rw [World.cell?_of_block (w := w6) (a := ⟨w.heap.size, 1, none⟩) (kV.block _ (lt_of_cell e0) ⟨hne, hne05⟩)]; exact e1
        have E2 : w8.cell? ⟨w.heap.size, 2, none⟩ = some (.slice none 0 0) := by rw [World.cell?_of_block (w := w6) (a := ⟨w.heap.size, 2, none⟩) (kV.block _ (lt_of_cell e0) ⟨hne, hne05⟩)]; exact e2
        have EF : ∀ i, w8.frozen? ⟨w.heap.size, i, none⟩ = false := fun i => by rw [World.frozen?_of_block (w := w6) (a := ⟨w.heap.size, i, none⟩) (kV.block _ (lt_of_cell e0) ⟨hne, hne05⟩)]; exact ef i
        have gcB : ∀ Y i, ((w6.setCell ⟨r, 3, none⟩ (.int .i64 (o : Int))).alloc Y).cell? ⟨w5.heap.size, i, none⟩ = w6.cell? ⟨w5.heap.size, i, none⟩ := fun Y i => by
          rw [World.cell?_alloc_lt _ _ _ (by simp [World.setCell]; omega)]
          exact World.cell?_of_block (w := w6) (a := ⟨w5.heap.size, i, none⟩) (Below.heap_setCell _ _ _ _ hne5)
        have gfB : ∀ Y i, ((w6.setCell ⟨r, 3, none⟩ (.int .i64 (o : Int))).alloc Y).frozen? ⟨w5.heap.size, i, none⟩ = false := fun Y i => by
          rw [World.frozen?_alloc_old _ _ _ (by simp [World.setCell]; omega)]
          rw [World.frozen?_of_block (w := w6) (a := ⟨w5.heap.size, i, none⟩) (Below.heap_setCell _ _ _ _ hne5)]
          exact df i
        have D0 : w8.cell? ⟨w5.heap.size, 0, none⟩ = some (.int .i64 op) := by rw [hw8]; simp [go_sem, gcB, d0]
        have D1 : w8.cell? ⟨w5.heap.size, 1, none⟩ = some (.string ⟨#[]⟩) := by rw [hw8]; simp [go_sem, gcB, d1]
        have D2 : w8.cell? ⟨w5.heap.size, 2, none⟩ = some (.slice (some ⟨w6.heap.size, 0, none⟩) 1 1) := by rw [hw8]; simp [go_sem, gcB, d2]
        have k8n : Kp (fun k => k ≠ w5.heap.size) ((w6.setCell ⟨r, 3, none⟩ (.int .i64 (o : Int))).alloc (.cells #[.int .i64 xi, .string xs, .slice xq xm xk] 49)) w8 := by rw [hw8]; exact (((Kp.refl _ _).setCell (.inl (by simp)) _).setCell (.inl (by simp)) _).setCell (.inl (by simp)) _
        have n8 : ∀ i, w8.cell? ⟨w6.heap.size, i, none⟩ = ((w6.setCell ⟨r, 3, none⟩ (.int .i64 (o : Int))).alloc (.cells #[.int .i64 xi, .string xs, .slice xq xm xk] 49)).cell? ⟨w6.heap.size, i, none⟩ := fun i => World.cell?_of_block (a := ⟨w6.heap.size, i, none⟩) (k8n.block _ (by simp [World.setCell]) (by simp; omega))
        have N0 : w8.cell? ⟨w6.heap.size, 0, none⟩ = some (.int .i64 xi) := by rw [n8]; simp [go_sem]
        have N1 : w8.cell? ⟨w6.heap.size, 1, none⟩ = some (.string xs) := by rw [n8]; simp [go_sem]
        have N2 : w8.cell? ⟨w6.heap.size, 2, none⟩ = some (.slice xq xm xk) := by rw [n8]; simp [go_sem]
        have kx8 : Kp (fun k => w.heap.size + 1 ≤ k ∧ k ≠ w5.heap.size) w5 w8 := by
          rw [hw8]
          exact (((((⟨kx.size, fun k hk hs => kx.block k hk hs.1⟩ : Kp (fun k => w.heap.size + 1 ≤ k ∧ k ≠ w5.heap.size) w5 w6).setCell (.inl (fun hs => by have := hs.1; simp at this; omega)) _).alloc _).setCell (.inl (fun hs => hs.2 rfl)) _).setCell (.inl (fun hs => hs.2 rfl)) _).setCell (.inl (fun hs => hs.2 rfl)) _
        have hxx5 : XV w5 (fun k => w.heap.size + 1 ≤ k ∧ k ≠ w5.heap.size) (.agg #[.int .i64 xi, .string xs, .slice xq xm xk]) x := hxx.kp (Kp.refl _ w5) (fun k hk h => ⟨h, by omega⟩)
        clear K A OP hb5 hb2 hb2' hb3 H
        go_wp2_with fail
        rw [← hw8]
        clear hw8
        go_region_with (go_at_call 36; refine (ok_yes h8d).mono ?_; rintro e wx ⟨rfl, hwx⟩; obtain rfl := hwx.symm)
        all_goals
          go_wp2_with fail
          refine bodyPost_ret (v := .tuple #[.agg #[.int .i64 op, .string ⟨#[]⟩, .slice (some ⟨w6.heap.size, 0, none⟩) 1 1], .bool true]) (by simp [results, Try.results65, go_sem, E0, E1, E2]) rfl ⟨_, rfl, ?_, ?_, ?_⟩
          · rw [show wrap op x = ⟨op, ⟨#[]⟩, Fo.nil.snoc x⟩ from if_neg (by omega)]
            have kf : Kp (fun k => w.heap.size + 1 ≤ k) w8 ((((w8.setCell ⟨w.heap.size, 0, none⟩ (.int .i64 op)).setCell ⟨w.heap.size, 1, none⟩ (.string ⟨#[]⟩)).setCell ⟨w.heap.size, 2, none⟩ (.slice (some ⟨w6.heap.size, 0, none⟩) 1 1)).drew) := ((((Kp.refl _ w8).setCell (.inl (by simp)) _).setCell (.inl (by simp)) _).setCell (.inl (by simp)) _).drewN 1
            have hcf : ∀ i, ((((w8.setCell ⟨w.heap.size, 0, none⟩ (.int .i64 op)).setCell ⟨w.heap.size, 1, none⟩ (.string ⟨#[]⟩)).setCell ⟨w.heap.size, 2, none⟩ (.slice (some ⟨w6.heap.size, 0, none⟩) 1 1)).drew).cell? ⟨w6.heap.size, i, none⟩ = w8.cell? ⟨w6.heap.size, i, none⟩ := fun i => World.cell?_of_block (w := w8) (a := ⟨w6.heap.size, i, none⟩) (kf.block _ (lt_of_cell N0) (by simp; omega))
            refine ⟨_, rfl, FoV_one (u := .slice xq xm xk) (by omega) (by rw [hcf]; exact N0.trans (by rw [HXI.out])) (by rw [hcf]; exact N1.trans (by rw [HXS.out])) (by rw [hcf]; exact N2) ?_⟩
            exact ((hxx5.kp (T := fun k => w.heap.size + 1 ≤ k) kx8 (fun k _ h => h.1)).kp (T := fun k => w.heap.size ≤ k) kf (fun k _ h => by omega)).fov
          · exact (((h8.off (by simp; omega) ha _).off (by simp; omega) ha _).off (by simp; omega) ha _).drew_ 1
          · exact ((((bb1.trans bV).setCell (.inr (Nat.le_refl _)) _).setCell (.inr (Nat.le_refl _)) _).setCell (.inr (Nat.le_refl _)) _).drew
    · simp only [if_neg hs]
      have hs : isS l n' cl = false := by simpa using hs
      rcases hop0 with hop0 | hop0
      · subst hop0
        go_enter Try.func65, Try.ntmps65
        go_wp2_with fail
        refine K.mono ?_
        rintro e w1 ⟨rfl, m1, rfl⟩
        have h1 := (h.alloc_ (.cells #[.int .i64 0, .string ⟨#[]⟩, .slice none 0 0] 49)).drew_ m1
        have bb1 : But r w ((w.alloc (.cells #[.int .i64 0, .string ⟨#[]⟩, .slice none 0 0] 49)).drewN m1) := ((But.refl r w).alloc _).drewN m1
        go_wp2_with fail
        refine (OP _ h1).mono ?_
        rintro e w2 ⟨rfl, hb2⟩
        have hb2' : But r ((w.alloc (.cells #[.int .i64 0, .string ⟨#[]⟩, .slice none 0 0] 49)).drewN m1) w2 := But.of_below hb2
        have h2 := h1.keep hb2
        have q3 := h2.c3
        have qf := h2.fz
        go_wp2_with fail
        refine (rpart_yes h2 hp).mono ?_
        rintro e w3 ⟨rfl, h3, hb3⟩
        go_wp2_with fail
        refine (ok_yes h3).mono ?_
        rintro e wx ⟨rfl, hwx⟩; obtain rfl := hwx.symm
        have r3 := h3.c3
        have r2 := h3.c2
        have rf := h3.fz
        have z2 := hb2.size
        have z3 := hb3.size
        simp at z2
        go_wp2_with fail
        have h4 := (h3.setOpen (q := o + 1) ho1).setNext hn
        have bb4 := ((hb2'.trans hb3).setCell (p := ⟨r, 3, none⟩) (.inl rfl) (.int .i64 ((o + 1 : Nat) : Int))).setCell (p := ⟨r, 2, none⟩) (.inl rfl) (.int .i64 ((n + 1 : Nat) : Int))
        obtain ⟨w4, hw4⟩ : ∃ w4, w4 = (w3.setCell ⟨r, 3, none⟩ (.int .i64 ((o + 1 : Nat) : Int))).setCell ⟨r, 2, none⟩ (.int .i64 ((n + 1 : Nat) : Int)) := ⟨_, rfl⟩
        have z4 : w4.heap.size = w3.heap.size := by rw [hw4]; simp [World.setCell]
        rw [← hw4] at h4 bb4
        try rw [show ((o : Int) + 1) = ((o + 1 : Nat) : Int) from rfl, show ((n : Int) + 1) = ((n + 1 : Nat) : Int) from rfl]
        rw [← hw4]
        refine (A _ h4).mono ?_
        rintro e w5 ⟨v, rfl, hx, h5, hb5⟩
        have z5 := hb5.size
        have sz5 := h5.sz
        have hxx : XV w5 (fun k => w.heap.size + 1 ≤ k) v x := hx.mono fun b o v hs hc => ⟨by omega, hc⟩
        clear hx
        obtain ⟨xi, hxi⟩ : ∃ xi, xi = x.op := ⟨_, rfl⟩
        obtain ⟨xs, hxs⟩ : ∃ xs, xs = x.nm := ⟨_, rfl⟩
        obtain ⟨u, rfl, hl, xq, xk, rfl, hin⟩ := id hxx
        clear hin
        obtain ⟨xm, hxm⟩ : ∃ xm, xm = x.kids.len := ⟨_, rfl⟩
        rw [← hxi, ← hxs, ← hxm] at hxx ⊢
        have HXI := hd hxi
        have HXS := hd hxs
        have HXM := hd hxm
        clear hxi hxs hxm hl
        go_wp2_with fail
        refine (must_no (h5.alloc_ _) cl hs).mono ?_
        rintro e w6 ⟨rfl, h6, b6⟩
        have z6 := b6.size
        simp at z6
        have hne5 : ¬ w5.heap.size = r := by omega
        have hne50 : ¬ w5.heap.size = w.heap.size := by omega
        have hne05 : ¬ w.heap.size = w5.heap.size := by omega
        have bR := ((bb4.trans hb5).alloc _).trans b6
        have d0 : w6.cell? ⟨w5.heap.size, 0, none⟩ = some (.int .i64 xi) := by rw [b6.cell (by simp) hne5]; simp
        have d1 : w6.cell? ⟨w5.heap.size, 1, none⟩ = some (.string xs) := by rw [b6.cell (by simp) hne5]; simp
        have d2 : w6.cell? ⟨w5.heap.size, 2, none⟩ = some (.slice xq xm xk) := by rw [b6.cell (by simp) hne5]; simp
        have df : ∀ i, w6.frozen? ⟨w5.heap.size, i, none⟩ = false := fun i => by rw [b6.frozen (by simp) hne5]; simp
        have e0 : w6.cell? ⟨w.heap.size, 0, none⟩ = some (.int .i64 0) := by rw [bR.cell (by simp) hne]; simp
        have e1 : w6.cell? ⟨w.heap.size, 1, none⟩ = some (.string ⟨#[]⟩) := by rw [bR.cell (by simp) hne]; simp
        have e2 : w6.cell? ⟨w.heap.size, 2, none⟩ = some (.slice none 0 0) := by rw [bR.cell (by simp) hne]; simp
        have ef : ∀ i, w6.frozen? ⟨w.heap.size, i, none⟩ = false := fun i => by rw [bR.frozen (by simp) hne]; simp
        have x3 := h6.c3
        have xf := h6.fz
        have h7 := h6.setOpen (q := o) (by omega)
        have kx : Kp (fun k => w.heap.size + 1 ≤ k) w5 w6 := ((Kp.refl _ w5).alloc _).trans (Kp.of_but b6 (by omega))
        have h7d : RgE (w6.setCell ⟨r, 3, none⟩ (.int .i64 (o : Int))).drew r o (fm l n') (plc l en n') := h7.drew_ 1
        clear K A OP hb5 hb2 hb2' hb3 H
        go_wp2_with fail
        go_region_with (go_at_call 36; refine (ok_no h7d).mono ?_; rintro e wx ⟨rfl, hwx⟩; obtain rfl := hwx.symm)
        all_goals
          go_wp2_with fail
          refine bodyPost_ret (v := .tuple #[.agg #[.int .i64 xi, .string xs, .slice xq xm xk], .bool false]) (by simp [results, Try.results65, go_sem, e0, e1, e2]) rfl ⟨_, _, _, _, _, rfl, ?_, ?_⟩
          · exact (((h7.off (by simp; omega) _).off (by simp; omega) _).off (by simp; omega) _).drew_ 1
          · exact ((((bb1.trans (bR.setCell (.inl rfl) _)).setCell (.inr (Nat.le_refl _)) _).setCell (.inr (Nat.le_refl _)) _).setCell (.inr (Nat.le_refl _)) _).drew
      · have hopB : ¬ op = 0 := by omega
        go_enter Try.func65, Try.ntmps65
        go_wp2_with fail
        refine K.mono ?_
        rintro e w1 ⟨rfl, m1, rfl⟩
        have h1 := (h.alloc_ (.cells #[.int .i64 0, .string ⟨#[]⟩, .slice none 0 0] 49)).drew_ m1
        have bb1 : But r w ((w.alloc (.cells #[.int .i64 0, .string ⟨#[]⟩, .slice none 0 0] 49)).drewN m1) := ((But.refl r w).alloc _).drewN m1
        go_wp2_with fail
        refine (OP _ h1).mono ?_
        rintro e w2 ⟨rfl, hb2⟩
        have hb2' : But r ((w.alloc (.cells #[.int .i64 0, .string ⟨#[]⟩, .slice none 0 0] 49)).drewN m1) w2 := But.of_below hb2
        have h2 := h1.keep hb2
        have q3 := h2.c3
        have qf := h2.fz
        go_wp2_with fail
        refine (rpart_yes h2 hp).mono ?_
        rintro e w3 ⟨rfl, h3, hb3⟩
        go_wp2_with fail
        refine (ok_yes h3).mono ?_
        rintro e wx ⟨rfl, hwx⟩; obtain rfl := hwx.symm
        have r3 := h3.c3
        have r2 := h3.c2
        have rf := h3.fz
        have z2 := hb2.size
        have z3 := hb3.size
        simp at z2
        go_wp2_with fail
        have h4 := (h3.setOpen (q := o + 1) ho1).setNext hn
        have bb4 := ((hb2'.trans hb3).setCell (p := ⟨r, 3, none⟩) (.inl rfl) (.int .i64 ((o + 1 : Nat) : Int))).setCell (p := ⟨r, 2, none⟩) (.inl rfl) (.int .i64 ((n + 1 : Nat) : Int))
        obtain ⟨w4, hw4⟩ : ∃ w4, w4 = (w3.setCell ⟨r, 3, none⟩ (.int .i64 ((o + 1 : Nat) : Int))).setCell ⟨r, 2, none⟩ (.int .i64 ((n + 1 : Nat) : Int)) := ⟨_, rfl⟩
        have z4 : w4.heap.size = w3.heap.size := by rw [hw4]; simp [World.setCell]
        rw [← hw4] at h4 bb4
        try rw [show ((o : Int) + 1) = ((o + 1 : Nat) : Int) from rfl, show ((n : Int) + 1) = ((n + 1 : Nat) : Int) from rfl]
        rw [← hw4]
        refine (A _ h4).mono ?_
        rintro e w5 ⟨v, rfl, hx, h5, hb5⟩
        have z5 := hb5.size
        have sz5 := h5.sz
        have hxx : XV w5 (fun k => w.heap.size + 1 ≤ k) v x := hx.mono fun b o v hs hc => ⟨by omega, hc⟩
        clear hx
        obtain ⟨xi, hxi⟩ : ∃ xi, xi = x.op := ⟨_, rfl⟩
        obtain ⟨xs, hxs⟩ : ∃ xs, xs = x.nm := ⟨_, rfl⟩
        obtain ⟨u, rfl, hl, xq, xk, rfl, hin⟩ := id hxx
        clear hin
        obtain ⟨xm, hxm⟩ : ∃ xm, xm = x.kids.len := ⟨_, rfl⟩
        rw [← hxi, ← hxs, ← hxm] at hxx ⊢
        have HXI := hd hxi
        have HXS := hd hxs
        have HXM := hd hxm
        clear hxi hxs hxm hl
        go_wp2_with fail
        refine (must_no (h5.alloc_ _) cl hs).mono ?_
        rintro e w6 ⟨rfl, h6, b6⟩
        have z6 := b6.size
        simp at z6
        have hne5 : ¬ w5.heap.size = r := by omega
        have hne50 : ¬ w5.heap.size = w.heap.size := by omega
        have hne05 : ¬ w.heap.size = w5.heap.size := by omega
        have bR := ((bb4.trans hb5).alloc _).trans b6
        have d0 : w6.cell? ⟨w5.heap.size, 0, none⟩ = some (.int .i64 xi) := by rw [b6.cell (by simp) hne5]; simp
        have d1 : w6.cell? ⟨w5.heap.size, 1, none⟩ = some (.string xs) := by rw [b6.cell (by simp) hne5]; simp
        have d2 : w6.cell? ⟨w5.heap.size, 2, none⟩ = some (.slice xq xm xk) := by rw [b6.cell (by simp) hne5]; simp
        have df : ∀ i, w6.frozen? ⟨w5.heap.size, i, none⟩ = false := fun i => by rw [b6.frozen (by simp) hne5]; simp
        have e0 : w6.cell? ⟨w.heap.size, 0, none⟩ = some (.int .i64 0) := by rw [bR.cell (by simp) hne]; simp
        have e1 : w6.cell? ⟨w.heap.size, 1, none⟩ = some (.string ⟨#[]⟩) := by rw [bR.cell (by simp) hne]; simp
        have e2 : w6.cell? ⟨w.heap.size, 2, none⟩ = some (.slice none 0 0) := by rw [bR.cell (by simp) hne]; simp
        have ef : ∀ i, w6.frozen? ⟨w.heap.size, i, none⟩ = false := fun i => by rw [bR.frozen (by simp) hne]; simp
        have x3 := h6.c3
        have xf := h6.fz
        have h7 := h6.setOpen (q := o) (by omega)
        have kx : Kp (fun k => w.heap.size + 1 ≤ k) w5 w6 := ((Kp.refl _ w5).alloc _).trans (Kp.of_but b6 (by omega))
        obtain ⟨w8, hw8⟩ : ∃ w8, w8 = ((((w6.setCell ⟨r, 3, none⟩ (.int .i64 (o : Int))).alloc (.cells #[.int .i64 xi, .string xs, .slice xq xm xk] 49)).setCell ⟨w5.heap.size, 0, none⟩ (.int .i64 op)).setCell ⟨w5.heap.size, 1, none⟩ (.string ⟨#[]⟩)).setCell ⟨w5.heap.size, 2, none⟩ (.slice (some ⟨w6.heap.size, 0, none⟩) 1 1) := ⟨_, rfl⟩
        have h8 : RgE w8 r o (fm l n') (plc l en n') := by rw [hw8]; exact (((h7.alloc_ _).off (by simp; omega) _).off (by simp; omega) _).off (by simp; omega) _
        have h8d : RgE w8.drew r o (fm l n') (plc l en n') := h8.drew_ 1
        have kV : Kp (fun k => k ≠ r ∧ k ≠ w5.heap.size) w6 w8 := by rw [hw8]; exact (((((Kp.refl _ w6).setCell (.inl (by simp)) _).alloc _).setCell (.inl (by simp)) _).setCell (.inl (by simp)) _).setCell (.inl (by simp)) _
        have bV : But r ((w.alloc (.cells #[.int .i64 0, .string ⟨#[]⟩, .slice none 0 0] 49)).drewN m1) w8 := by
          rw [hw8]
          exact ((((bR.setCell (.inl rfl) _).alloc _).setCell (.inr (by simp; omega)) _).setCell (.inr (by simp; omega)) _).setCell (.inr (by simp; omega)) _
        have E0 : w8.cell? ⟨w.heap.size, 0, none⟩ = some (.int .i64 0) := by rw [World.cell?_of_block (w := w6) (a := ⟨w.heap.size, 0, none⟩) (kV.block _ (lt_of_cell e0) ⟨hne, hne05⟩)]; exact e0
        have E1 : w8.cell? ⟨w.heap.size, 1, none⟩ = some (.string ⟨#[]⟩) := by rw [World.cell?_of_block (w := w6) (a := ⟨w.heap.size, 1, none⟩) (kV.block _ (lt_of_cell e0) ⟨hne, hne05⟩)]; exact e1
        have E2 : w8.cell? ⟨w.heap.size, 2, none⟩ = some (.slice none 0 0) := by rw [World.cell?_of_block (w := w6) (a := ⟨w.heap.size, 2, none⟩) (kV.block _ (lt_of_cell e0) ⟨hne, hne05⟩)]; exact e2
        have EF : ∀ i, w8.frozen? ⟨w.heap.size, i, none⟩ = false := fun i => by rw [World.frozen?_of_block (w := w6) (a := ⟨w.heap.size, i, none⟩) (kV.block _ (lt_of_cell e0) ⟨hne, hne05⟩)]; exact ef i
        have gcB : ∀ Y i, ((w6.setCell ⟨r, 3, none⟩ (.int .i64 (o : Int))).alloc Y).cell? ⟨w5.heap.size, i, none⟩ = w6.cell? ⟨w5.heap.size, i, none⟩ := fun Y i => by
          rw [World.cell?_alloc_lt _ _ _ (by simp [World.setCell]; omega)]
          exact World.cell?_of_block (w := w6) (a := ⟨w5.heap.size, i, none⟩) (Below.heap_setCell _ _ _ _ hne5)
        have gfB : ∀ Y i, ((w6.setCell ⟨r, 3, none⟩ (.int .i64 (o : Int))).alloc Y).frozen? ⟨w5.heap.size, i, none⟩ = false := fun Y i => by
          rw [World.frozen?_alloc_old _ _ _ (by simp [World.setCell]; omega)]
          rw [World.frozen?_of_block (w := w6) (a := ⟨w5.heap.size, i, none⟩) (Below.heap_setCell _ _ _ _ hne5)]
          exact df i
        have D0 : w8.cell? ⟨w5.heap.size, 0, none⟩ = some (.int .i64 op) := by rw [hw8]; simp [go_sem, gcB, d0]
        have D1 : w8.cell? ⟨w5.heap.size, 1, none⟩ = some (.string ⟨#[]⟩) := by rw [hw8]; simp [go_sem, gcB, d1]
        have D2 : w8.cell? ⟨w5.heap.size, 2, none⟩ = some (.slice (some ⟨w6.heap.size, 0, none⟩) 1 1) := by rw [hw8]; simp [go_sem, gcB, d2]
        clear K A OP hb5 hb2 hb2' hb3 H
        go_wp2_with fail
        rw [← hw8]
        clear hw8
        go_region_with (go_at_call 36; refine (ok_no h8d).mono ?_; rintro e wx ⟨rfl, hwx⟩; obtain rfl := hwx.symm)
        all_goals
          go_wp2_with fail
          refine bodyPost_ret (v := .tuple #[.agg #[.int .i64 op, .string ⟨#[]⟩, .slice (some ⟨w6.heap.size, 0, none⟩) 1 1], .bool false]) (by simp [results, Try.results65, go_sem, E0, E1, E2]) rfl ⟨_, _, _, _, _, rfl, ?_, ?_⟩
          · exact (((h8.off (by simp; omega) _).off (by simp; omega) _).off (by simp; omega) _).drew_ 1
          · exact ((((bb1.trans bV).setCell (.inr (Nat.le_refl _)) _).setCell (.inr (Nat.le_refl _)) _).setCell (.inr (Nat.le_refl _)) _).drew
theorem ritem_step {k : Nat} (H : RAltOK r ao cap l en k) : RItemOK r ao cap l en (k + 1) := by
  intro n p o w h hf
  rw [item]
  by_cases h1 : knd l n = 1
  · rw [if_pos h1]
    by_cases hp : p = 60
    · rw [if_pos hp]; exact ritem_name_no h h1 hp
    · rw [if_neg hp]; exact ritem_name h h1 hp
  rw [if_neg h1]
  by_cases h2 : knd l n = 2
  · rw [if_pos h2]
    by_cases hp : p = 60
    · rw [if_pos hp]; exact ritem_term_no h h2 hp
    · rw [if_neg hp]; exact ritem_term h h2 hp
  rw [if_neg h2]
  by_cases h3 : opn l n = true
  · rw [if_pos h3]
    by_cases ho : o = 40
    · rw [if_pos ho]; exact ritem_deep h h1 h2 h3 ho
    · rw [if_neg ho]
      by_cases hp : p = 60
      · rw [if_pos hp]; exact ritem_many h h1 h2 h3 ho hp
      · rw [if_neg hp]; exact ritem_sign H h h1 h2 h3 ho hp (by omega)
  · rw [if_neg h3]
    exact ritem_none h h1 h2 (by simpa using h3)
end
end Go.Proofs.Ythbbfddclhcoaaa
