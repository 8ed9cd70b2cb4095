/- The lists, the program's way. -/
import Derived.Test.YtlhdppkllmnmkadL11
import Derived.Test.YtlhdppkllmnmkadL12
namespace Go.Proofs.Ytlhdppkllmnmkad.G
open Go.RowKit
/-- A grammar that is right. -/
structure Rgt (g : Gm) (V : Nat) : Prop where
  gv : g.vars = V
  v1 : 1 ≤ V
  st : 0 ≤ g.start ∧ g.start < V
  vr : Vrs V g.rules
  tm : 0 ≤ g.terms ∧ g.terms ≤ 16
  few : g.rules.length ≤ 160
  short : ∀ r ∈ g.rules, r.right.length ≤ 10
theorem ruF_zero {g : Gm} {r : Ru} (h : ruF g r = 0) : r.right.length ≤ 10 ∧ (0 ≤ r.left ∧ r.left < g.vars) ∧ ∀ s ∈ r.right, s < g.vars := by
  unfold ruF at h
  split at h
  · cases h
  · split at h
    next h1 h2 =>
      refine ⟨by omega, h2.1, fun s hs => ?_⟩
      have := List.all_eq_true.1 h2.2 s hs
      simp [syB] at this
      exact this.2
    · cases h
theorem rsF_zero {g : Gm} : ∀ {l : List Ru} {k : Nat}, (rsF g l k).1 = 0 → rsF g l k = (0, 0) ∧ ∀ r ∈ l, ruF g r = 0
  | [], _, _ => ⟨rfl, by simp⟩
  | r :: l, k, h => by
    unfold rsF at h ⊢
    split at h
    next h0 =>
      rw [if_pos h0]
      obtain ⟨h1, h2⟩ := rsF_zero h
      exact ⟨h1, fun x hx => by
        rcases List.mem_cons.1 hx with rfl | hx
        · exact h0
        · exact h2 x hx⟩
    next h0 => exact absurd h h0
theorem rgt_of {g : Gm} (h : (gFl g).1 = 0) : gFl g = (0, 0) ∧ ∃ V, Rgt g V := by
  unfold gFl at h ⊢
  split at h
  next h1 =>
    rw [if_pos h1]
    split at h
    · cases h
    next h2 =>
      rw [if_neg h2]
      obtain ⟨h3, h4⟩ := rsF_zero h
      simp [szB] at h1
      obtain ⟨a1, a2, a3, a4, a5, a6⟩ := h1
      have gv : g.vars = (g.vars.toNat : Int) := by omega
      refine ⟨h3, g.vars.toNat, gv, by omega, by omega, ⟨by omega, fun r hr => ?_⟩, ⟨a3, a4⟩, by omega, fun r hr => (ruF_zero (h4 r hr)).1⟩
      obtain ⟨_, h5, h6⟩ := ruF_zero (h4 r hr)
      rw [← gv]
      exact ⟨h5, h6⟩
  · cases h
set_option maxRecDepth 100000 in
set_option maxHeartbeats 4000000 in
theorem cyclic_any (g : Gm) (V : Nat) (h : Rgt g V) : FndC 141 g (fun v => Led false (Gen false g.rules) g.rules v v) := by
  refine ⟨fun args w => by go_simp, fun va w ha => ?_⟩
  obtain ⟨u, rfl, hr⟩ := ha
  obtain ⟨ao, cap, rfl⟩ := hr.slice
  obtain ⟨W, hW⟩ : ∃ W, W = w.alloc (.cells #[.int .i64 g.vars, .int .i64 g.terms, .int .i64 g.start, .slice ao g.rules.length cap] 24) := ⟨_, rfl⟩
  have hWb : Below w.heap.size w W := by rw [hW]; exact al1 _ _
  have OA := onward_any false _ step_alone g V h.gv h.v1 h.vr _ W ⟨_, rfl, hr.lw hWb⟩
  have hV64 := h.vr.1
  go_enter Try.func141, Try.ntmps141
  go_wp2_with fail
  rw [← hW]
  refine OA.mono ?_
  rintro e w1 ⟨gb, N, rfl, own, hO, k1⟩
  have HO := hd hO
  have hNl := hO.1
  clear hO hW
  have hcl : ∀ j, j < V → w1.cell? ⟨gb, j, none⟩ = some (.int .u64 (U (N.getD j 0#64))) := fun j hj => by rw [World.ownsRow.cellAt own j (by omega), sets_at (by omega)]
  go_wp2_with fail
  go_loopw [3, 9] (fun v i wr => ∃ (k : Nat) (acc : BitVec 64), k ≤ V ∧ i = .int .i64 k ∧ v = .int .u64 (U acc) ∧ Hid (∀ x, hasB acc x = true ↔ (0 ≤ x ∧ x < (k : Int)) ∧ Led false (Gen false g.rules) g.rules x x) ∧ wr = w1) (fun _ i _ => V - (intOf i).toNat)
  case atStart => exact ⟨0, 0#64, Nat.zero_le _, rfl, rfl, hd (fun x => by rw [has_zero]; constructor; intro h; cases h; rintro ⟨h, _⟩; omega), rfl⟩
  case round =>
    obtain ⟨k, acc, hk, rfl, rfl, hacc, rfl⟩ := hrel
    by_cases hlt : k < V
    · have hlt2 : (k : Int) < (V : Int) := by omega
      have c0 := hcl k hlt
      have HA := has_any (N.getD k 0#64) k wr
      have HK : Hid (hasB (N.getD k 0#64) k = true ↔ Led false (Gen false g.rules) g.rules k k) := hd ⟨(HO.out.2 k hlt).1 _, (HO.out.2 k hlt).2.2 hlt _⟩
      clear hcl
      generalize N.getD k 0#64 = z at *
      generalize hasB z k = q at *
      have split : ∀ x : Int, (0 ≤ x ∧ x < ((k + 1 : Nat) : Int)) ↔ (0 ≤ x ∧ x < (k : Int)) ∨ x = k := fun x => by omega
      have HS := hd split
      clear split
      cases q with
      | true =>
        go_wp2_with fail
        refine HA.mono ?_
        rintro e wx ⟨rfl, hwx⟩
        obtain rfl := hwx.symm
        go_wp2_with fail
        refine (with_any acc k wr).mono ?_
        rintro e wx ⟨rfl, hwx⟩
        obtain rfl := hwx.symm
        go_wp2_with fail
        go_roundw
        case rel =>
          refine ⟨k + 1, _, by omega, by go_num, rfl, hd (fun x => ?_), trivial⟩
          rw [has_with, hacc.out, HS.out]
          constructor
          · rintro (⟨h1, h2⟩ | ⟨rfl, _⟩)
            · exact ⟨.inl h1, h2⟩
            · exact ⟨.inr rfl, HK.out.1 trivial⟩
          · rintro ⟨h1 | rfl, h2⟩
            · exact .inl ⟨h1, h2⟩
            · exact .inr ⟨rfl, by omega, by omega⟩
        case measure => simp [intOf]; omega
      | false =>
        go_wp2_with fail
        refine HA.mono ?_
        rintro e wx ⟨rfl, hwx⟩
        obtain rfl := hwx.symm
        go_wp2_with fail
        go_roundw
        case rel =>
          refine ⟨k + 1, acc, by omega, by go_num, rfl, hd (fun x => ?_), trivial⟩
          rw [hacc.out, HS.out]
          constructor
          · rintro ⟨h1, h2⟩
            exact ⟨.inl h1, h2⟩
          · rintro ⟨h1 | rfl, h2⟩
            · exact ⟨h1, h2⟩
            · exact absurd (HK.out.2 h2) (by simp)
        case measure => simp [intOf]; omega
    · have he : Hid (∀ v, hasB acc v = true ↔ Led false (Gen false g.rules) g.rules v v) := hd (fun v => by
        rw [hacc.out]
        refine ⟨fun h => h.2, fun h' => ⟨?_, h'⟩⟩
        have := h.vr.led h'
        omega)
      clear hacc
      go_wp2_with fail
      go_ret
      exact ⟨acc, rfl, he.out, bthen hWb k1⟩
/-- What a list's function answers. -/
def LstR (w w' : World) (g : Gm) (p : Int → Prop) (e : Ending) : Prop :=
  ∃ v l, e = .returned (.tuple #[v, .agg #[.int .i64 (gFl g).1, .int .i64 (gFl g).2]]) ∧ w'.ownsRow w.heap.size 3 1 v l.length (ints l) ∧ l.length ≤ 64 ∧ ((gFl g).1 ≠ 0 → l = []) ∧ ((gFl g).1 = 0 → ∃ r, l = listB r ∧ ∀ v, hasB r v = true ↔ p v) ∧ Below w.heap.size w w'
set_option maxRecDepth 100000 in
set_option maxHeartbeats 4000000 in
theorem listed_any (fid : Nat) (g : Gm) (p : Int → Prop) (hf : ∀ V, Rgt g V → FndC fid g p) (va : Value) (w : World) (ha : GV w All va g) :
    Calls Try.prog 124 #[va, .func (.func fid) #[] #[]] w fun e w' => LstR w w' g p e := by
  obtain ⟨u, rfl, hr⟩ := ha
  obtain ⟨ao, cap, rfl⟩ := hr.slice
  obtain ⟨W, hW⟩ : ∃ W, W = (w.alloc (.cells #[.int .i64 g.vars, .int .i64 g.terms, .int .i64 g.start, .slice ao g.rules.length cap] 24)).alloc (.cells #[.int .i64 0, .int .i64 0] 33) := ⟨_, rfl⟩
  have hWb : Below w.heap.size w W := by rw [hW]; exact al2 _ _ _
  have hW0 : W.cell? ⟨w.heap.size, 0, none⟩ = some (.int .i64 g.vars) := by rw [hW]; simp
  have hW1 : W.cell? ⟨w.heap.size, 1, none⟩ = some (.int .i64 g.terms) := by rw [hW]; simp
  have hW2 : W.cell? ⟨w.heap.size, 2, none⟩ = some (.int .i64 g.start) := by rw [hW]; simp
  have hW3 : W.cell? ⟨w.heap.size, 3, none⟩ = some (.slice ao g.rules.length cap) := by rw [hW]; simp
  have hWr : RB W (w.heap.size + 1) := by rw [hW]; exact ⟨by simp, by simp, fun i => by simp [go_sem]⟩
  have CA := check_any g _ W ⟨_, rfl, hr.lw hWb⟩
  unfold LstR
  by_cases hz : (gFl g).1 = 0
  · obtain ⟨h00, V, hR⟩ := rgt_of hz
    rw [h00] at CA ⊢
    obtain ⟨hcf, hfi⟩ := hf V hR
    unfold Cal at hcf
    clear hz h00 hf
    go_enter Try.func124, Try.ntmps124
    go_wp2_with fail
    rw [← hW]
    have HW := hd hW
    clear hW
    refine CA.mono ?_
    rintro e w1 ⟨rfl, hb1⟩
    obtain ⟨w2, hw2⟩ : ∃ w2, w2 = w1.alloc (.cells #[.int .i64 0, .int .i64 0] 33) := ⟨_, rfl⟩
    have hb2 : Below w1.heap.size w1 w2 := by rw [hw2]; exact al1 _ _
    have c0 : w2.cell? ⟨w1.heap.size, 0, none⟩ = some (.int .i64 0) := by rw [hw2]; simp
    have k2 := bthen hb1 hb2
    have t0 := bkeep k2 hW0
    have t1 := bkeep k2 hW1
    have t2 := bkeep k2 hW2
    have t3 := bkeep k2 hW3
    have tr := hWr.below k2
    have b2 := bthen hWb k2
    have FA := hfi (.agg #[.int .i64 g.vars, .int .i64 g.terms, .int .i64 g.start, .slice ao g.rules.length cap]) w2 ⟨_, rfl, hr.lw b2⟩
    have x0 := alcell (bkeep hb1 hW0) (.cells #[.int .i64 0, .int .i64 0] 33)
    have x1 := alcell (bkeep hb1 hW1) (.cells #[.int .i64 0, .int .i64 0] 33)
    have x2 := alcell (bkeep hb1 hW2) (.cells #[.int .i64 0, .int .i64 0] 33)
    have x3 := alcell (bkeep hb1 hW3) (.cells #[.int .i64 0, .int .i64 0] 33)
    clear hW0 hW1 hW2 hW3 hWr hfi
    go_wp2_with fail
    rw [← hw2]
    clear hw2 x0 x1 x2 x3
    refine FA.mono ?_
    rintro e w3 ⟨r, rfl, hp, hb3⟩
    have HP := hd hp
    clear hp
    go_wp2_with fail
    refine (list_any r w3).mono ?_
    rintro e w4 ⟨v4, rfl, own4, hb4⟩
    obtain ⟨av, cv, rfl⟩ := owns_slice own4
    have hlen : (listB r).length ≤ 64 := upto_len _ _
    have k4 := bthen hb3 hb4
    have rf := tr.below k4
    have q0 := rf.c0
    have q1 := rf.c1
    have qf := rf.fz
    have b4 := bthen b2 k4
    have hz3 : w.heap.size + 1 < w3.heap.size := by have := lt_of_cell (tr.below hb3).c0; omega
    go_wp2_with fail
    refine bodyPost_ret (v := .tuple #[.slice av (listB r).length cv, .agg #[.int .i64 0, .int .i64 0]]) (by simp [results, Try.results124, go_sem, q0, q1]) rfl ?_
    refine ⟨_, listB r, rfl, ?_, hlen, (fun h => absurd rfl h), fun _ => ⟨r, rfl, HP.out⟩, (b4.setCell (p := ⟨w.heap.size + 1, 0, none⟩) (Nat.le_succ _) _).setCell (p := ⟨w.heap.size + 1, 1, none⟩) (Nat.le_succ _) _⟩
    exact owns_mono (owns_setCell (owns_setCell own4 (by show w.heap.size + 1 < w3.heap.size; omega)) (by show w.heap.size + 1 < w3.heap.size; omega)) (by omega)
  · generalize (gFl g).1 = c at *
    generalize (gFl g).2 = a at *
    have hcb : (c != 0) = true := by simpa using hz
    have HZ := hd hz
    clear hz hf
    go_enter Try.func124, Try.ntmps124
    go_wp2_with fail
    rw [← hW]
    have HW := hd hW
    clear hW
    refine CA.mono ?_
    rintro e w1 ⟨rfl, hb1⟩
    obtain ⟨w2, hw2⟩ : ∃ w2, w2 = w1.alloc (.cells #[.int .i64 c, .int .i64 a] 33) := ⟨_, rfl⟩
    have hb2 : Below w1.heap.size w1 w2 := by rw [hw2]; exact al1 _ _
    have c0 : w2.cell? ⟨w1.heap.size, 0, none⟩ = some (.int .i64 c) := by rw [hw2]; simp
    have c1 : w2.cell? ⟨w1.heap.size, 1, none⟩ = some (.int .i64 a) := by rw [hw2]; simp
    have k2 := bthen hb1 hb2
    have tr := hWr.below k2
    have b2 := bthen hWb k2
    have q0 := tr.c0
    have q1 := tr.c1
    have qf := tr.fz
    have hz2 := lt_of_cell q0
    clear hW0 hW1 hW2 hW3 hWr
    go_wp2_with fail
    rw [← hw2]
    clear hw2
    go_wp2_with fail
    go_region
    all_goals
      go_wp2_with fail
      refine bodyPost_ret (v := .tuple #[.slice none 0 0, .agg #[.int .i64 c, .int .i64 a]]) (by simp [results, Try.results124, go_sem, q0, q1]) rfl ?_
      exact ⟨_, [], rfl, World.ownsRow_nil _ _ _ _, by simp, fun _ => rfl, fun h => absurd h HZ.out, ((bthen b2 (drw1 _)).setCell (p := ⟨w.heap.size + 1, 0, none⟩) (Nat.le_succ _) _).setCell (p := ⟨w.heap.size + 1, 1, none⟩) (Nat.le_succ _) _⟩
set_option maxRecDepth 100000 in
set_option maxHeartbeats 4000000 in
theorem nullableF_any (g : Gm) (va : Value) (w : World) (ha : GV w All va g) : Calls Try.prog 88 #[va] w fun e w' => LstR w w' g (Gen false g.rules) e := by
  obtain ⟨u, rfl, hr⟩ := ha
  obtain ⟨ao, cap, rfl⟩ := hr.slice
  obtain ⟨W, hW⟩ : ∃ W, W = (w.alloc (.cells #[.int .i64 g.vars, .int .i64 g.terms, .int .i64 g.start, .slice ao g.rules.length cap] 24)).alloc (.cells #[.int .i64 0, .int .i64 0] 33) := ⟨_, rfl⟩
  have hWb : Below w.heap.size w W := by rw [hW]; exact al2 _ _ _
  have hWz : W.heap.size = w.heap.size + 2 := by rw [hW]; simp
  have hWr : RB W (w.heap.size + 1) := by rw [hW]; exact ⟨by simp, by simp, fun i => by simp [go_sem]⟩
  have LA := listed_any _ g _ (fun V h => nullable_any g h.vr.lfs) _ W ⟨_, rfl, hr.lw hWb⟩
  unfold LstR at LA ⊢
  generalize (gFl g).1 = c at *
  generalize (gFl g).2 = a at *
  go_enter Try.func88, Try.ntmps88
  go_wp2_with fail
  rw [← hW]
  clear hW
  refine LA.mono ?_
  rintro e w1 ⟨v, l, rfl, own, hl, h1, h2, hb1⟩
  have H1 := hd h1
  have H2 := hd h2
  obtain ⟨av, cv, rfl⟩ := owns_slice own
  have rf := hWr.below hb1
  have q0 := rf.c0
  have q1 := rf.c1
  have qf := rf.fz
  have b1 := bthen hWb hb1
  clear h1 h2
  go_wp2_with fail
  refine bodyPost_ret (v := .tuple #[.slice av l.length cv, .agg #[.int .i64 c, .int .i64 a]]) (by simp [results, Try.results88, go_sem, q0, q1]) rfl ?_
  refine ⟨_, l, rfl, ?_, hl, H1.out, H2.out, (b1.setCell (p := ⟨w.heap.size + 1, 0, none⟩) (Nat.le_succ _) _).setCell (p := ⟨w.heap.size + 1, 1, none⟩) (Nat.le_succ _) _⟩
  exact owns_mono (owns_setCell (owns_setCell own (by show w.heap.size + 1 < W.heap.size; omega)) (by show w.heap.size + 1 < W.heap.size; omega)) (by omega)
set_option maxRecDepth 100000 in
set_option maxHeartbeats 4000000 in
theorem cyclicF_any (g : Gm) (va : Value) (w : World) (ha : GV w All va g) : Calls Try.prog 123 #[va] w fun e w' => LstR w w' g (fun v => Led false (Gen false g.rules) g.rules v v) e := by
  obtain ⟨u, rfl, hr⟩ := ha
  obtain ⟨ao, cap, rfl⟩ := hr.slice
  obtain ⟨W, hW⟩ : ∃ W, W = (w.alloc (.cells #[.int .i64 g.vars, .int .i64 g.terms, .int .i64 g.start, .slice ao g.rules.length cap] 24)).alloc (.cells #[.int .i64 0, .int .i64 0] 33) := ⟨_, rfl⟩
  have hWb : Below w.heap.size w W := by rw [hW]; exact al2 _ _ _
  have hWz : W.heap.size = w.heap.size + 2 := by rw [hW]; simp
  have hWr : RB W (w.heap.size + 1) := by rw [hW]; exact ⟨by simp, by simp, fun i => by simp [go_sem]⟩
  have LA := listed_any _ g _ (fun V h => cyclic_any g V h) _ W ⟨_, rfl, hr.lw hWb⟩
  unfold LstR at LA ⊢
  generalize (gFl g).1 = c at *
  generalize (gFl g).2 = a at *
  go_enter Try.func123, Try.ntmps123
  go_wp2_with fail
  rw [← hW]
  clear hW
  refine LA.mono ?_
  rintro e w1 ⟨v, l, rfl, own, hl, h1, h2, hb1⟩
  have H1 := hd h1
  have H2 := hd h2
  obtain ⟨av, cv, rfl⟩ := owns_slice own
  have rf := hWr.below hb1
  have q0 := rf.c0
  have q1 := rf.c1
  have qf := rf.fz
  have b1 := bthen hWb hb1
  clear h1 h2
  go_wp2_with fail
  refine bodyPost_ret (v := .tuple #[.slice av l.length cv, .agg #[.int .i64 c, .int .i64 a]]) (by simp [results, Try.results123, go_sem, q0, q1]) rfl ?_
  refine ⟨_, l, rfl, ?_, hl, H1.out, H2.out, (b1.setCell (p := ⟨w.heap.size + 1, 0, none⟩) (Nat.le_succ _) _).setCell (p := ⟨w.heap.size + 1, 1, none⟩) (Nat.le_succ _) _⟩
  exact owns_mono (owns_setCell (owns_setCell own (by show w.heap.size + 1 < W.heap.size; omega)) (by show w.heap.size + 1 < W.heap.size; omega)) (by omega)
end Go.Proofs.Ytlhdppkllmnmkad.G
