/- Texts laid together: Fr Fd Zhm Zm. -/
import Derived.Test.YtlhdppkllmnmkaeL06
import Derived.Test.YtlhdppkllmnmkaeL07
import Derived.Test.YtlhdppkllmnmkaeL04
import Derived.Test.YtlhdppkllmnmkaeL01
import Derived.Test.YtlhdppkllmnmkaeL05
/- The lists, the program's way. -/
namespace Go.Proofs.Ytlhdppkllmnmkae.G
open Go.RowKit
/-- A grammar that is right. -/
structure Rgt (g : Gm) (V : Nat) : Prop where
  gv : g.vars = V
  v1 : 1 ≤ V
  st : 0 ≤ g.start ∧ g.start < V
  vr : Vrs V g.rules
  tm : 0 ≤ g.terms ∧ g.terms ≤ 16
  few : g.rules.length ≤ 160
  short : ∀ r ∈ g.rules, r.right.length ≤ 10
theorem ruF_zero {g : Gm} {r : Ru} (h : ruF g r = 0) : r.right.length ≤ 10 ∧ (0 ≤ r.left ∧ r.left < g.vars) ∧ ∀ s ∈ r.right, s < g.vars := by
  unfold ruF at h
  split at h
  · cases h
  · split at h
    next h1 h2 =>
      refine ⟨by omega, h2.1, fun s hs => ?_⟩
      have := List.all_eq_true.1 h2.2 s hs
      simp [syB] at this
      exact this.2
    · cases h
theorem rsF_zero {g : Gm} : ∀ {l : List Ru} {k : Nat}, (rsF g l k).1 = 0 → rsF g l k = (0, 0) ∧ ∀ r ∈ l, ruF g r = 0
  | [], _, _ => ⟨rfl, by simp⟩
  | r :: l, k, h => by
    unfold rsF at h ⊢
    split at h
    next h0 =>
      rw [if_pos h0]
      obtain ⟨h1, h2⟩ := rsF_zero h
      exact ⟨h1, fun x hx => by
        rcases List.mem_cons.1 hx with rfl | hx
        · exact h0
        · exact h2 x hx⟩
    next h0 => exact absurd h h0
theorem rgt_of {g : Gm} (h : (gFl g).1 = 0) : gFl g = (0, 0) ∧ ∃ V, Rgt g V := by
  unfold gFl at h ⊢
  split at h
  next h1 =>
    rw [if_pos h1]
    split at h
    · cases h
    next h2 =>
      rw [if_neg h2]
      obtain ⟨h3, h4⟩ := rsF_zero h
      simp [szB] at h1
      obtain ⟨a1, a2, a3, a4, a5, a6⟩ := h1
      have gv : g.vars = (g.vars.toNat : Int) := by omega
      refine ⟨h3, g.vars.toNat, gv, by omega, by omega, ⟨by omega, fun r hr => ?_⟩, ⟨a3, a4⟩, by omega, fun r hr => (ruF_zero (h4 r hr)).1⟩
      obtain ⟨_, h5, h6⟩ := ruF_zero (h4 r hr)
      rw [← gv]
      exact ⟨h5, h6⟩
  · cases h
set_option maxRecDepth 100000 in
set_option maxHeartbeats 4000000 in
theorem cyclic_any (g : Gm) (V : Nat) (h : Rgt g V) : FndC 74 g (fun v => Led false (Gen false g.rules) g.rules v v) := by
  refine ⟨fun args w => by go_simp, fun va w ha => ?_⟩
  obtain ⟨u, rfl, hr⟩ := ha
  obtain ⟨ao, cap, rfl⟩ := hr.slice
  obtain ⟨W, hW⟩ : ∃ W, W = w.alloc (.cells #[.int .i64 g.vars, .int .i64 g.terms, .int .i64 g.start, .slice ao g.rules.length cap] 24) := ⟨_, rfl⟩
  have hWb : Below w.heap.size w W := by rw [hW]; exact al1 _ _
  have OA := onward_any false _ step_alone g V h.gv h.v1 h.vr _ W ⟨_, rfl, hr.lw hWb⟩
  have hV64 := h.vr.1
  go_enter Try.func74, Try.ntmps74
  go_wp2_with fail
  rw [← hW]
  refine OA.mono ?_
  rintro e w1 ⟨gb, N, rfl, own, hO, k1⟩
  have HO := hd hO
  have hNl := hO.1
  clear hO hW
  have hcl : ∀ j, j < V → w1.cell? ⟨gb, j, none⟩ = some (.int .u64 (U (N.getD j 0#64))) := fun j hj => by rw [World.ownsRow.cellAt own j (by omega), sets_at (by omega)]
  go_wp2_with fail
  go_loopw [3, 9] (fun v i wr => ∃ (k : Nat) (acc : BitVec 64), k ≤ V ∧ i = .int .i64 k ∧ v = .int .u64 (U acc) ∧ Hid (∀ x, hasB acc x = true ↔ (0 ≤ x ∧ x < (k : Int)) ∧ Led false (Gen false g.rules) g.rules x x) ∧ wr = w1) (fun _ i _ => V - (intOf i).toNat)
  case atStart => exact ⟨0, 0#64, Nat.zero_le _, rfl, rfl, hd (fun x => by rw [has_zero]; constructor; intro h; cases h; rintro ⟨h, _⟩; omega), rfl⟩
  case round =>
    obtain ⟨k, acc, hk, rfl, rfl, hacc, rfl⟩ := hrel
    by_cases hlt : k < V
    · have hlt2 : (k : Int) < (V : Int) := by omega
      have c0 := hcl k hlt
      have HA := has_any (N.getD k 0#64) k wr
      have HK : Hid (hasB (N.getD k 0#64) k = true ↔ Led false (Gen false g.rules) g.rules k k) := hd ⟨(HO.out.2 k hlt).1 _, (HO.out.2 k hlt).2.2 hlt _⟩
      clear hcl
      generalize N.getD k 0#64 = z at *
      generalize hasB z k = q at *
      have split : ∀ x : Int, (0 ≤ x ∧ x < ((k + 1 : Nat) : Int)) ↔ (0 ≤ x ∧ x < (k : Int)) ∨ x = k := fun x => by omega
      have HS := hd split
      clear split
      cases q with
      | true =>
        go_wp2_with fail
        refine HA.mono ?_
        rintro e wx ⟨rfl, hwx⟩
        obtain rfl := hwx.symm
        go_wp2_with fail
        refine (with_any acc k wr).mono ?_
        rintro e wx ⟨rfl, hwx⟩
        obtain rfl := hwx.symm
        go_wp2_with fail
        go_roundw
        case rel =>
          refine ⟨k + 1, _, by omega, by go_num, rfl, hd (fun x => ?_), trivial⟩
          rw [has_with, hacc.out, HS.out]
          constructor
          · rintro (⟨h1, h2⟩ | ⟨rfl, _⟩)
            · exact ⟨.inl h1, h2⟩
            · exact ⟨.inr rfl, HK.out.1 trivial⟩
          · rintro ⟨h1 | rfl, h2⟩
            · exact .inl ⟨h1, h2⟩
            · exact .inr ⟨rfl, by omega, by omega⟩
        case measure => simp [intOf]; omega
      | false =>
        go_wp2_with fail
        refine HA.mono ?_
        rintro e wx ⟨rfl, hwx⟩
        obtain rfl := hwx.symm
        go_wp2_with fail
        go_roundw
        case rel =>
          refine ⟨k + 1, acc, by omega, by go_num, rfl, hd (fun x => ?_), trivial⟩
          rw [hacc.out, HS.out]
          constructor
          · rintro ⟨h1, h2⟩
            exact ⟨.inl h1, h2⟩
          · rintro ⟨h1 | rfl, h2⟩
            · exact ⟨h1, h2⟩
            · exact absurd (HK.out.2 h2) (by simp)
        case measure => simp [intOf]; omega
    · have he : Hid (∀ v, hasB acc v = true ↔ Led false (Gen false g.rules) g.rules v v) := hd (fun v => by
        rw [hacc.out]
        refine ⟨fun h => h.2, fun h' => ⟨?_, h'⟩⟩
        have := h.vr.led h'
        omega)
      clear hacc
      go_wp2_with fail
      go_ret
      exact ⟨acc, rfl, he.out, bthen hWb k1⟩
/-- What a list's function answers. -/
def LstR (w w' : World) (g : Gm) (p : Int → Prop) (e : Ending) : Prop :=
  ∃ v l, e = .returned (.tuple #[v, .agg #[.int .i64 (gFl g).1, .int .i64 (gFl g).2]]) ∧ w'.ownsRow w.heap.size 3 1 v l.length (ints l) ∧ l.length ≤ 64 ∧ ((gFl g).1 ≠ 0 → l = []) ∧ ((gFl g).1 = 0 → ∃ r, l = listB r ∧ ∀ v, hasB r v = true ↔ p v) ∧ Below w.heap.size w w'
set_option maxRecDepth 100000 in
set_option maxHeartbeats 4000000 in
theorem listed_any (fid : Nat) (g : Gm) (p : Int → Prop) (hf : ∀ V, Rgt g V → FndC fid g p) (va : Value) (w : World) (ha : GV w All va g) :
    Calls Try.prog 55 #[va, .func (.func fid) #[] #[]] w fun e w' => LstR w w' g p e := by
  obtain ⟨u, rfl, hr⟩ := ha
  obtain ⟨ao, cap, rfl⟩ := hr.slice
  obtain ⟨W, hW⟩ : ∃ W, W = (w.alloc (.cells #[.int .i64 g.vars, .int .i64 g.terms, .int .i64 g.start, .slice ao g.rules.length cap] 24)).alloc (.cells #[.int .i64 0, .int .i64 0] 30) := ⟨_, rfl⟩
  have hWb : Below w.heap.size w W := by rw [hW]; exact al2 _ _ _
  have hW0 : W.cell? ⟨w.heap.size, 0, none⟩ = some (.int .i64 g.vars) := by rw [hW]; simp
  have hW1 : W.cell? ⟨w.heap.size, 1, none⟩ = some (.int .i64 g.terms) := by rw [hW]; simp
  have hW2 : W.cell? ⟨w.heap.size, 2, none⟩ = some (.int .i64 g.start) := by rw [hW]; simp
  have hW3 : W.cell? ⟨w.heap.size, 3, none⟩ = some (.slice ao g.rules.length cap) := by rw [hW]; simp
  have hWr : RB W (w.heap.size + 1) := by rw [hW]; exact ⟨by simp, by simp, fun i => by simp [go_sem]⟩
  have CA := check_any g _ W ⟨_, rfl, hr.lw hWb⟩
  unfold LstR
  by_cases hz : (gFl g).1 = 0
  · obtain ⟨h00, V, hR⟩ := rgt_of hz
    rw [h00] at CA ⊢
    obtain ⟨hcf, hfi⟩ := hf V hR
    unfold Cal at hcf
    clear hz h00 hf
    go_enter Try.func55, Try.ntmps55
    go_wp2_with fail
    rw [← hW]
    have HW := hd hW
    clear hW
    refine CA.mono ?_
    rintro e w1 ⟨rfl, hb1⟩
    obtain ⟨w2, hw2⟩ : ∃ w2, w2 = w1.alloc (.cells #[.int .i64 0, .int .i64 0] 30) := ⟨_, rfl⟩
    have hb2 : Below w1.heap.size w1 w2 := by rw [hw2]; exact al1 _ _
    have c0 : w2.cell? ⟨w1.heap.size, 0, none⟩ = some (.int .i64 0) := by rw [hw2]; simp
    have k2 := bthen hb1 hb2
    have t0 := bkeep k2 hW0
    have t1 := bkeep k2 hW1
    have t2 := bkeep k2 hW2
    have t3 := bkeep k2 hW3
    have tr := hWr.below k2
    have b2 := bthen hWb k2
    have FA := hfi (.agg #[.int .i64 g.vars, .int .i64 g.terms, .int .i64 g.start, .slice ao g.rules.length cap]) w2 ⟨_, rfl, hr.lw b2⟩
    have x0 := alcell (bkeep hb1 hW0) (.cells #[.int .i64 0, .int .i64 0] 30)
    have x1 := alcell (bkeep hb1 hW1) (.cells #[.int .i64 0, .int .i64 0] 30)
    have x2 := alcell (bkeep hb1 hW2) (.cells #[.int .i64 0, .int .i64 0] 30)
    have x3 := alcell (bkeep hb1 hW3) (.cells #[.int .i64 0, .int .i64 0] 30)
    clear hW0 hW1 hW2 hW3 hWr hfi
    go_wp2_with fail
    rw [← hw2]
    clear hw2 x0 x1 x2 x3
    refine FA.mono ?_
    rintro e w3 ⟨r, rfl, hp, hb3⟩
    have HP := hd hp
    clear hp
    go_wp2_with fail
    refine (list_any r w3).mono ?_
    rintro e w4 ⟨v4, rfl, own4, hb4⟩
    obtain ⟨av, cv, rfl⟩ := owns_slice own4
    have hlen : (listB r).length ≤ 64 := upto_len _ _
    have k4 := bthen hb3 hb4
    have rf := tr.below k4
    have q0 := rf.c0
    have q1 := rf.c1
    have qf := rf.fz
    have b4 := bthen b2 k4
    have hz3 : w.heap.size + 1 < w3.heap.size := by have := lt_of_cell (tr.below hb3).c0; omega
    go_wp2_with fail
    refine bodyPost_ret (v := .tuple #[.slice av (listB r).length cv, .agg #[.int .i64 0, .int .i64 0]]) (by simp [results, Try.results55, go_sem, q0, q1]) rfl ?_
    refine ⟨_, listB r, rfl, ?_, hlen, (fun h => absurd rfl h), fun _ => ⟨r, rfl, HP.out⟩, (b4.setCell (p := ⟨w.heap.size + 1, 0, none⟩) (Nat.le_succ _) _).setCell (p := ⟨w.heap.size + 1, 1, none⟩) (Nat.le_succ _) _⟩
    exact owns_mono (owns_setCell (owns_setCell own4 (by show w.heap.size + 1 < w3.heap.size; omega)) (by show w.heap.size + 1 < w3.heap.size; omega)) (by omega)
  · generalize (gFl g).1 = c at *
    generalize (gFl g).2 = a at *
    have hcb : (c != 0) = true := by simpa using hz
    have HZ := hd hz
    clear hz hf
    go_enter Try.func55, Try.ntmps55
    go_wp2_with fail
    rw [← hW]
    have HW := hd hW
    clear hW
    refine CA.mono ?_
    rintro e w1 ⟨rfl, hb1⟩
    obtain ⟨w2, hw2⟩ : ∃ w2, w2 = w1.alloc (.cells #[.int .i64 c, .int .i64 a] 30) := ⟨_, rfl⟩
    have hb2 : Below w1.heap.size w1 w2 := by rw [hw2]; exact al1 _ _
    have c0 : w2.cell? ⟨w1.heap.size, 0, none⟩ = some (.int .i64 c) := by rw [hw2]; simp
    have c1 : w2.cell? ⟨w1.heap.size, 1, none⟩ = some (.int .i64 a) := by rw [hw2]; simp
    have k2 := bthen hb1 hb2
    have tr := hWr.below k2
    have b2 := bthen hWb k2
    have q0 := tr.c0
    have q1 := tr.c1
    have qf := tr.fz
    have hz2 := lt_of_cell q0
    clear hW0 hW1 hW2 hW3 hWr
    go_wp2_with fail
    rw [← hw2]
    clear hw2
    go_wp2_with fail
    go_region
    all_goals
      go_wp2_with fail
      refine bodyPost_ret (v := .tuple #[.slice none 0 0, .agg #[.int .i64 c, .int .i64 a]]) (by simp [results, Try.results55, go_sem, q0, q1]) rfl ?_
      exact ⟨_, [], rfl, World.ownsRow_nil _ _ _ _, by simp, fun _ => rfl, fun h => absurd h HZ.out, ((bthen b2 (drw1 _)).setCell (p := ⟨w.heap.size + 1, 0, none⟩) (Nat.le_succ _) _).setCell (p := ⟨w.heap.size + 1, 1, none⟩) (Nat.le_succ _) _⟩
set_option maxRecDepth 100000 in
set_option maxHeartbeats 4000000 in
theorem nullableF_any (g : Gm) (va : Value) (w : World) (ha : GV w All va g) : Calls Try.prog 29 #[va] w fun e w' => LstR w w' g (Gen false g.rules) e := by
  obtain ⟨u, rfl, hr⟩ := ha
  obtain ⟨ao, cap, rfl⟩ := hr.slice
  obtain ⟨W, hW⟩ : ∃ W, W = (w.alloc (.cells #[.int .i64 g.vars, .int .i64 g.terms, .int .i64 g.start, .slice ao g.rules.length cap] 24)).alloc (.cells #[.int .i64 0, .int .i64 0] 30) := ⟨_, rfl⟩
  have hWb : Below w.heap.size w W := by rw [hW]; exact al2 _ _ _
  have hWz : W.heap.size = w.heap.size + 2 := by rw [hW]; simp
  have hWr : RB W (w.heap.size + 1) := by rw [hW]; exact ⟨by simp, by simp, fun i => by simp [go_sem]⟩
  have LA := listed_any _ g _ (fun V h => nullable_any g h.vr.lfs) _ W ⟨_, rfl, hr.lw hWb⟩
  unfold LstR at LA ⊢
  generalize (gFl g).1 = c at *
  generalize (gFl g).2 = a at *
  go_enter Try.func29, Try.ntmps29
  go_wp2_with fail
  rw [← hW]
  clear hW
  refine LA.mono ?_
  rintro e w1 ⟨v, l, rfl, own, hl, h1, h2, hb1⟩
  have H1 := hd h1
  have H2 := hd h2
  obtain ⟨av, cv, rfl⟩ := owns_slice own
  have rf := hWr.below hb1
  have q0 := rf.c0
  have q1 := rf.c1
  have qf := rf.fz
  have b1 := bthen hWb hb1
  clear h1 h2
  go_wp2_with fail
  refine bodyPost_ret (v := .tuple #[.slice av l.length cv, .agg #[.int .i64 c, .int .i64 a]]) (by simp [results, Try.results29, go_sem, q0, q1]) rfl ?_
  refine ⟨_, l, rfl, ?_, hl, H1.out, H2.out, (b1.setCell (p := ⟨w.heap.size + 1, 0, none⟩) (Nat.le_succ _) _).setCell (p := ⟨w.heap.size + 1, 1, none⟩) (Nat.le_succ _) _⟩
  exact owns_mono (owns_setCell (owns_setCell own (by show w.heap.size + 1 < W.heap.size; omega)) (by show w.heap.size + 1 < W.heap.size; omega)) (by omega)
set_option maxRecDepth 100000 in
set_option maxHeartbeats 4000000 in
theorem cyclicF_any (g : Gm) (va : Value) (w : World) (ha : GV w All va g) : Calls Try.prog 54 #[va] w fun e w' => LstR w w' g (fun v => Led false (Gen false g.rules) g.rules v v) e := by
  obtain ⟨u, rfl, hr⟩ := ha
  obtain ⟨ao, cap, rfl⟩ := hr.slice
  obtain ⟨W, hW⟩ : ∃ W, W = (w.alloc (.cells #[.int .i64 g.vars, .int .i64 g.terms, .int .i64 g.start, .slice ao g.rules.length cap] 24)).alloc (.cells #[.int .i64 0, .int .i64 0] 30) := ⟨_, rfl⟩
  have hWb : Below w.heap.size w W := by rw [hW]; exact al2 _ _ _
  have hWz : W.heap.size = w.heap.size + 2 := by rw [hW]; simp
  have hWr : RB W (w.heap.size + 1) := by rw [hW]; exact ⟨by simp, by simp, fun i => by simp [go_sem]⟩
  have LA := listed_any _ g _ (fun V h => cyclic_any g V h) _ W ⟨_, rfl, hr.lw hWb⟩
  unfold LstR at LA ⊢
  generalize (gFl g).1 = c at *
  generalize (gFl g).2 = a at *
  go_enter Try.func54, Try.ntmps54
  go_wp2_with fail
  rw [← hW]
  clear hW
  refine LA.mono ?_
  rintro e w1 ⟨v, l, rfl, own, hl, h1, h2, hb1⟩
  have H1 := hd h1
  have H2 := hd h2
  obtain ⟨av, cv, rfl⟩ := owns_slice own
  have rf := hWr.below hb1
  have q0 := rf.c0
  have q1 := rf.c1
  have qf := rf.fz
  have b1 := bthen hWb hb1
  clear h1 h2
  go_wp2_with fail
  refine bodyPost_ret (v := .tuple #[.slice av l.length cv, .agg #[.int .i64 c, .int .i64 a]]) (by simp [results, Try.results54, go_sem, q0, q1]) rfl ?_
  refine ⟨_, l, rfl, ?_, hl, H1.out, H2.out, (b1.setCell (p := ⟨w.heap.size + 1, 0, none⟩) (Nat.le_succ _) _).setCell (p := ⟨w.heap.size + 1, 1, none⟩) (Nat.le_succ _) _⟩
  exact owns_mono (owns_setCell (owns_setCell own (by show w.heap.size + 1 < W.heap.size; omega)) (by show w.heap.size + 1 < W.heap.size; omega)) (by omega)
end Go.Proofs.Ytlhdppkllmnmkae.G

/- What is so of nonterminals, in the document's way, in mathematics: rounds over a row of yes and no; a list of what is still to be done. -/
namespace Go.Proofs.Ytlhdppkllmnmkae.G

/-! Rows of yes and no. -/
def isAt (is : List Bool) (v : Int) : Bool := decide (0 ≤ v) && is.getD v.toNat false
theorem isAt_set {is : List Bool} {k : Nat} {v : Int} (hk : k < is.length) : isAt (is.set k true) v = true ↔ isAt is v = true ∨ v = k := by
  unfold isAt
  rw [getD_set]
  by_cases h : k = v.toNat
  · by_cases h0 : 0 ≤ v
    · have hv : v = k := by omega
      simp [hv, hk]
    · have hv : ¬ v = k := by omega
      simp [h0, hv]
  · have hv : ¬ v = k := by omega
    simp [h, hv]
theorem isAt_new (n : Nat) (v : Int) : isAt (List.replicate n false) v = false := by
  unfold isAt
  rw [List.getD_eq_getElem?_getD, List.getElem?_replicate]
  split <;> simp
/-! Rounds. -/
/-! What is still to be done. -/
/-- What comes of some, by steps. -/
inductive Cm (I : List Int) (nx : Int → List Int) : Int → Prop
  | ini {v : Int} (h : v ∈ I) : Cm I nx v
  | step {u v : Int} (h : Cm I nx u) (h' : v ∈ nx u) : Cm I nx v
/-- On the way: what is told and what is still to be done comes of them; and of what is told all that comes next is told or still to be done. -/
structure Way (I : List Int) (nx : Int → List Int) (V : Nat) (is : List Bool) (todo : List Int) : Prop where
  len : is.length = V
  snd : ∀ v, isAt is v = true → Cm I nx v
  sndT : ∀ v ∈ todo, Cm I nx v
  ini : ∀ v ∈ I, isAt is v = true ∨ v ∈ todo
  nxt : ∀ u, isAt is u = true → ∀ v ∈ nx u, isAt is v = true ∨ v ∈ todo
theorem Way.start (I : List Int) (nx : Int → List Int) (V : Nat) : Way I nx V (List.replicate V false) I :=
  ⟨by simp, (fun v h => by rw [isAt_new] at h; cases h), fun _ h => .ini h, fun _ h => .inr h, (fun u h => by rw [isAt_new] at h; cases h)⟩
theorem Way.put {I : List Int} {nx : Int → List Int} {V k : Nat} {is : List Bool} {l : List Int} (h : Way I nx V is ((k : Int) :: l)) (hk : k < V) : Way I nx V (is.set k true) (l ++ nx k) := by
  have hl := h.len
  have hkl : k < is.length := by omega
  have hC : Cm I nx k := h.sndT _ (List.mem_cons_self ..)
  have sh : ∀ u, (isAt is u = true ∨ u ∈ (k : Int) :: l) → isAt (is.set k true) u = true ∨ u ∈ l ++ nx k := by
    rintro u (h1 | h1)
    · exact .inl ((isAt_set hkl).2 (.inl h1))
    · rcases List.mem_cons.1 h1 with rfl | h1
      · exact .inl ((isAt_set hkl).2 (.inr rfl))
      · exact .inr (List.mem_append_left _ h1)
  refine ⟨by simpa using hl, fun v hv => ?_, fun v hv => ?_, fun v hv => sh v (h.ini v hv), fun u hu v hv => ?_⟩
  · rcases (isAt_set hkl).1 hv with hv | rfl
    · exact h.snd v hv
    · exact hC
  · rcases List.mem_append.1 hv with hv | hv
    · exact h.sndT v (List.mem_cons_of_mem _ hv)
    · exact .step hC hv
  · rcases (isAt_set hkl).1 hu with hu | rfl
    · exact sh v (h.nxt u hu v hv)
    · exact .inr (List.mem_append_right _ hv)
theorem Way.done {I : List Int} {nx : Int → List Int} {V : Nat} {is : List Bool} (h : Way I nx V is []) (v : Int) : isAt is v = true ↔ Cm I nx v := by
  refine ⟨h.snd v, fun hv => ?_⟩
  induction hv with
  | ini h' => exact (h.ini _ h').resolve_right (by simp)
  | step _ h' ih => exact (h.nxt _ ih _ h').resolve_right (by simp)

/-! What stands in rules of one. -/
/-- Is it so? -/
noncomputable def pB (p : Prop) : Bool := @decide p (Classical.propDecidable p)
theorem pB_iff {p : Prop} : pB p = true ↔ p := by unfold pB; exact @decide_eq_true_iff p (Classical.propDecidable p)
end Go.Proofs.Ytlhdppkllmnmkae.G

/- What is wrong with a grammar and a word. -/
namespace Go.Proofs.Ytlhdppkllmnmkae.G
open Go.RowKit
/-- The first terminal that is none; behind them all, re. -/
def bwF (terms : Int) (re : Int × Int) : List Int → Nat → Int × Int
  | [], _ => re
  | x :: xs, k => if x < 0 ∨ terms ≤ x then (15, (k : Int)) else bwF terms re xs (k + 1)
theorem bwF_at {terms : Int} {re : Int × Int} {W : List Int} {k : Nat} (h : k < W.length) : bwF terms re (W.drop k) k = if W[k] < 0 ∨ terms ≤ W[k] then (15, (k : Int)) else bwF terms re (W.drop (k + 1)) (k + 1) := by
  rw [List.drop_eq_getElem_cons h]; rfl
theorem bwF_end {terms : Int} {re : Int × Int} {W : List Int} {k i : Nat} (h : W.length ≤ k) : bwF terms re (W.drop k) i = re := by rw [List.drop_of_length_le h]; rfl
noncomputable def chFl (g : Gm) (W : List Int) : Int × Int :=
  if (gFl g).1 ≠ 0 then gFl g else if 12 < W.length then (15, -1) else bwF g.terms (if pB (Acy g.rules g.vars.toNat) = true then (0, 0) else (10, -1)) W 0
end Go.Proofs.Ytlhdppkllmnmkae.G

/- A chart: what it is of; how it lies in memory. -/
namespace Go.Proofs.Ytlhdppkllmnmkae.G
open Go.RowKit Go.Maps
theorem cM_ex : ∃ f : Nat → Int, ∀ n, f n = cap 4611686018427387904 n := ⟨_, fun _ => rfl⟩
/-- As far as Many (sealed: nothing unfolds it). -/
noncomputable def cM : Nat → Int := Classical.choose cM_ex
theorem cM_eq (n : Nat) : cM n = cap 4611686018427387904 n := Classical.choose_spec cM_ex n
theorem cM_rng (n : Nat) : 0 ≤ cM n ∧ cM n ≤ 4611686018427387904 := by have := cap_rng 4611686018427387904 n; rw [cM_eq]; omega
theorem cM_add (a b : Nat) : smI (cM a) (cM b) 4611686018427387904 = cM (a + b) := by rw [cM_eq, cM_eq, cM_eq]; exact smI_cap 4611686018427387904 a b
theorem cM_mul (a b : Nat) : prI (cM a) (cM b) 4611686018427387904 = cM (a * b) := by rw [cM_eq, cM_eq, cM_eq]; exact prI_cap (m := 4611686018427387904) (by omega)
theorem cM_zero : cM 0 = 0 := by rw [cM_eq]; exact cap_zero _
theorem cM_one : cM 1 = 1 := by rw [cM_eq]; exact cap_one (by omega)
theorem cM_wf (n : Nat) : (Lit.int .i64 (cM n)).wf = true := by
  have := cM_rng n
  exact WalkArith.wf_i64 (by omega)
/-- A grammar and a word of which there is a chart. -/
structure CkG (g : Gm) (W : List Int) (V : Nat) : Prop where
  rg : Rgt g V
  lo : ∀ r ∈ g.rules, ∀ s ∈ r.right, -16 ≤ s
  wl : W.length ≤ 12
  wr : ∀ x ∈ W, 0 ≤ x ∧ x < 16
  ac : Acy g.rules V
theorem ruF_low {g : Gm} {r : Ru} (ht : g.terms ≤ 16) (h : ruF g r = 0) : ∀ s ∈ r.right, -16 ≤ s := by
  unfold ruF at h
  split at h
  · cases h
  · split at h
    · rename_i h1
      intro s hs
      have := List.all_eq_true.1 h1.2 s hs
      simp [syB] at this
      omega
    · cases h
theorem ckg_of {g : Gm} {W : List Int} (h : (chFl g W).1 = 0) : chFl g W = (0, 0) ∧ ∃ V, CkG g W V := by
  unfold chFl at h ⊢
  split at h
  · rename_i h1; exact absurd h h1
  rename_i h1
  have h1' : (gFl g).1 = 0 := by omega
  rw [if_neg h1]
  obtain ⟨h00, V, hR⟩ := rgt_of h1'
  split at h
  · cases h
  rename_i h2
  rw [if_neg h2]
  have key : ∀ {re : Int × Int} {l : List Int} {k : Nat}, (bwF g.terms re l k).1 = 0 → (∀ x ∈ l, 0 ≤ x ∧ x < g.terms) ∧ bwF g.terms re l k = re := fun {re} l => by
    induction l with
    | nil => exact fun {k} h => ⟨fun x hx => (by cases hx), rfl⟩
    | cons x xs ih =>
      intro k h
      rw [bwF] at h ⊢
      split at h
      · cases h
      · rename_i hc
        rw [if_neg hc]
        obtain ⟨h1, h2⟩ := ih h
        refine ⟨fun y hy => ?_, h2⟩
        rcases List.mem_cons.1 hy with rfl | hy
        · omega
        · exact h1 y hy
  obtain ⟨k1, k2⟩ := key h
  rw [k2] at h ⊢
  by_cases hA : Acy g.rules g.vars.toNat
  · rw [if_pos (pB_iff.2 hA)]
    have hgv : g.vars.toNat = V := by have := hR.gv; omega
    refine ⟨rfl, V, hR, ?_, by omega, fun x hx => ?_, hgv ▸ hA⟩
    · have hz := h1'
      unfold gFl at hz
      split at hz
      · split at hz
        · cases hz
        · exact fun r hr => ruF_low hR.tm.2 ((rsF_zero hz).2 r hr)
      · cases hz
    · have := k1 x hx; have := hR.tm; omega
  · rw [if_neg (fun e => hA (pB_iff.1 e))] at h; cases h
section
variable {g : Gm} {W : List Int} {V : Nat}
theorem CkG.hR (h : CkG g W V) : ∀ r ∈ g.rules, ∀ s ∈ r.right, s < V := fun r hr => (h.rg.vr.2 r hr).2
theorem CkG.small (h : CkG g W V) : Small g.rules := ⟨by have := h.rg.few; omega, fun i hi => by have := h.rg.short _ (List.getElem_mem hi); omega⟩
theorem CkG.at_ (_h : CkG g W V) {r : Nat} (hr : r < g.rules.length) : (g.rules.getD r ⟨0, []⟩) = g.rules[r] := by rw [List.getD_eq_getElem?_getD, List.getElem?_eq_getElem hr]; rfl
/-- What is right of trees, of rows. -/
def GT (g : Gm) (W : List Int) (V : Nat) (key : Value) (n : Int) : Prop := ∃ v i j : Nat, v < V ∧ i ≤ j ∧ j ≤ W.length ∧ key = .agg #[.int .i64 v, .int .i64 i, .int .i64 j] ∧ n = cM (nN g.rules W V v i j)
def rgtR (g : Gm) (r : Nat) : List Int := (g.rules.getD r ⟨0, []⟩).right
def GR (g : Gm) (W : List Int) (V : Nat) (key : Value) (n : Int) : Prop := ∃ r k i j : Nat, r < g.rules.length ∧ k < (rgtR g r).length ∧ i ≤ j ∧ j ≤ W.length ∧ key = .agg #[.int .i64 r, .int .i64 k, .int .i64 i, .int .i64 j] ∧ n = cM (chN (nN g.rules W V) W ((rgtR g r).drop k) i j)
theorem CkG.short (h : CkG g W V) {r : Nat} (hr : r < g.rules.length) : (rgtR g r).length ≤ 10 := by unfold rgtR; rw [h.at_ hr]; exact h.rg.short _ (List.getElem_mem hr)
theorem CkG.sym (h : CkG g W V) {r : Nat} (hr : r < g.rules.length) : ∀ s ∈ rgtR g r, s < V ∧ -16 ≤ s := by
  unfold rgtR; rw [h.at_ hr]
  exact fun s hs => ⟨h.hR _ (List.getElem_mem hr) s hs, h.lo _ (List.getElem_mem hr) s hs⟩
def cde3 : Value → Nat
  | .agg ⟨[.int _ a, .int _ b, .int _ c]⟩ => a.toNat * 169 + b.toNat * 13 + c.toNat
  | _ => 0
def cde4 : Value → Nat
  | .agg ⟨[.int _ a, .int _ b, .int _ c, .int _ d]⟩ => a.toNat * 1690 + b.toNat * 169 + c.toNat * 13 + d.toNat
  | _ => 0
theorem keysT (P : Program) (k : TypeId) (h : CkG g W V) : Keys P k (GT g W V) 10816 := by
  have hV := h.rg.vr.1
  have hW := h.wl
  refine ⟨⟨cde3, ?_, ?_⟩, by unfold maxLen; omega⟩
  · rintro key n ⟨v, i, j, h1, h2, h3, rfl, _⟩
    show (v : Int).toNat * 169 + (i : Int).toNat * 13 + (j : Int).toNat < 10816
    omega
  · rintro x y n m ⟨v, i, j, h1, h2, h3, rfl, _⟩ ⟨v', i', j', h1', h2', h3', rfl, _⟩ e
    have e' : (v : Int).toNat * 169 + (i : Int).toNat * 13 + (j : Int).toNat = (v' : Int).toNat * 169 + (i' : Int).toNat * 13 + (j' : Int).toNat := e
    obtain ⟨rfl, rfl, rfl⟩ : v = v' ∧ i = i' ∧ j = j' := by omega
    rfl
theorem keysR (P : Program) (k : TypeId) (h : CkG g W V) : Keys P k (GR g W V) 270400 := by
  have hL := h.rg.few
  have hW := h.wl
  refine ⟨⟨cde4, ?_, ?_⟩, by unfold maxLen; omega⟩
  · rintro key n ⟨r, q, i, j, h1, h2, h3, h4, rfl, _⟩
    have := h.short h1
    show (r : Int).toNat * 1690 + (q : Int).toNat * 169 + (i : Int).toNat * 13 + (j : Int).toNat < 270400
    omega
  · rintro x y n m ⟨r, q, i, j, h1, h2, h3, h4, rfl, _⟩ ⟨r', q', i', j', h1', h2', h3', h4', rfl, _⟩ e
    have := h.short h1
    have := h.short h1'
    have e' : (r : Int).toNat * 1690 + (q : Int).toNat * 169 + (i : Int).toNat * 13 + (j : Int).toNat = (r' : Int).toNat * 1690 + (q' : Int).toNat * 169 + (i' : Int).toNat * 13 + (j' : Int).toNat := e
    obtain ⟨rfl, rfl, rfl, rfl⟩ : r = r' ∧ q = q' ∧ i = i' ∧ j = j' := by omega
    rfl
end
/-- A chart in memory. -/
structure ChS (w : World) (cb tb rb : Nat) (g : Gm) (W : List Int) (V : Nat) (E : BitVec 64) (vR vW : Value) : Prop where
  c0 : w.cell? ⟨cb, 0, none⟩ = some (.int .i64 g.vars)
  c1 : w.cell? ⟨cb, 1, none⟩ = some (.int .i64 g.terms)
  c2 : w.cell? ⟨cb, 2, none⟩ = some (.int .i64 g.start)
  c3 : w.cell? ⟨cb, 3, none⟩ = some vR
  c4 : w.cell? ⟨cb, 4, none⟩ = some vW
  c5 : w.cell? ⟨cb, 5, none⟩ = some (.int .u64 (U E))
  c6 : w.cell? ⟨cb, 6, none⟩ = some (.map (some tb))
  c7 : w.cell? ⟨cb, 7, none⟩ = some (.map (some rb))
  r : RsV w All vR g.rules
  x : IsV w All vW W
  t : Memo Try.prog 73 3 w tb (GT g W V)
  o : Memo Try.prog 96 3 w rb (GR g W V)
  ne : tb ≠ rb
theorem memo_ne {P : Program} {k ei : TypeId} {G : Value → Int → Prop} {w : World} {b : Nat} (h : Memo P k ei w b G) {c o : Nat} {v : Value} (hc : w.cell? ⟨c, o, none⟩ = some v) : c ≠ b := by
  rintro rfl
  obtain ⟨es, clock, hb, _⟩ := h
  simp [World.cell?, hb] at hc
section
variable {w w' : World} {cb tb rb : Nat} {g : Gm} {W : List Int} {V : Nat} {E : BitVec 64} {vR vW : Value}
theorem ChS.keep (h : ChS w cb tb rb g W V E vR vW) (hk : Kt tb rb w w') {b o : Nat} {v : Value} (hc : w.cell? ⟨b, o, none⟩ = some v) : w'.cell? ⟨b, o, none⟩ = some v :=
  hk.cell hc (memo_ne h.t hc) (memo_ne h.o hc)
theorem ChS.keepA (h : ChS w cb tb rb g W V E vR vW) (hk : Kt tb rb w w') : ∀ b o v, All b → w.cell? ⟨b, o, none⟩ = some v → All b ∧ w'.cell? ⟨b, o, none⟩ = some v := fun _ _ _ _ hc => ⟨trivial, h.keep hk hc⟩
theorem ChS.froz (h : ChS w cb tb rb g W V E vR vW) (hk : Kt tb rb w w') {b o : Nat} {v : Value} (hc : w.cell? ⟨b, o, none⟩ = some v) {p : Nat} : w'.frozen? ⟨b, p, none⟩ = w.frozen? ⟨b, p, none⟩ :=
  hk.frozen (lt_of_cell hc) (memo_ne h.t hc) (memo_ne h.o hc)
theorem ChS.lw (h : ChS w cb tb rb g W V E vR vW) (hb : Below w.heap.size w w') : ChS w' cb tb rb g W V E vR vW :=
  ⟨bkeep hb h.c0, bkeep hb h.c1, bkeep hb h.c2, bkeep hb h.c3, bkeep hb h.c4, bkeep hb h.c5, bkeep hb h.c6, bkeep hb h.c7, h.r.lw hb, h.x.lw hb, h.t.lw hb, h.o.lw hb, h.ne⟩
/-- With maps that were written to. -/
theorem ChS.turn (h : ChS w cb tb rb g W V E vR vW) (hk : Kt tb rb w w') (ht : Memo Try.prog 73 3 w' tb (GT g W V)) (ho : Memo Try.prog 96 3 w' rb (GR g W V)) : ChS w' cb tb rb g W V E vR vW :=
  ⟨h.keep hk h.c0, h.keep hk h.c1, h.keep hk h.c2, h.keep hk h.c3, h.keep hk h.c4, h.keep hk h.c5, h.keep hk h.c6, h.keep hk h.c7, h.r.mono (h.keepA hk), h.x.mono (h.keepA hk), ht, ho, h.ne⟩
/-- A cell that is written to, which is none of the chart's. -/
theorem ChS.setCell (h : ChS w cb tb rb g W V E vR vW) {p o : Nat} {u : Value} (_hp : ∀ q v, w.cell? ⟨p, q, none⟩ = some v → True) (hne : p ≠ cb) (hr : RsV (w.setCell ⟨p, o, none⟩ u) All vR g.rules) (hx : IsV (w.setCell ⟨p, o, none⟩ u) All vW W) (ht : p ≠ tb) (ho : p ≠ rb) : ChS (w.setCell ⟨p, o, none⟩ u) cb tb rb g W V E vR vW := by
  have hc : ∀ i v, w.cell? ⟨cb, i, none⟩ = some v → (w.setCell ⟨p, o, none⟩ u).cell? ⟨cb, i, none⟩ = some v := fun i v h => by
    rw [World.cell?_of_block (w := w) (a := ⟨cb, i, none⟩) (Below.heap_setCell _ _ _ _ (Ne.symm hne))]; exact h
  exact ⟨hc _ _ h.c0, hc _ _ h.c1, hc _ _ h.c2, hc _ _ h.c3, hc _ _ h.c4, hc _ _ h.c5, hc _ _ h.c6, hc _ _ h.c7, hr, hx, h.t.of (Below.heap_setCell _ _ _ _ (Ne.symm ht)), h.o.of (Below.heap_setCell _ _ _ _ (Ne.symm ho)), h.ne⟩
end
/-- How a chart's function ends. -/
def ChR (w : World) (cb tb rb : Nat) (g : Gm) (W : List Int) (V : Nat) (E : BitVec 64) (vR vW : Value) (n : Int) (e : Ending) (w' : World) : Prop := e = .returned (.int .i64 n) ∧ ChS w' cb tb rb g W V E vR vW ∧ Kt tb rb w w'
end Go.Proofs.Ytlhdppkllmnmkae.G
