/- The program's maker: giving up, a new nonterminal, a rule, the ways of an expression. -/
import Derived.Test.YtghplmldnkcpnacL04
import Derived.Defers
import Derived.Recover
namespace Go.Proofs.Ytghplmldnkcpnac
open Go.RowKit G

/-- The maker: what it has, the definition that is gone through, no fault. -/
structure MkS (w : World) (r : Nat) (vn vt : Value) (N T : List ByteArray) (s : Sp) (q : Option Nat) (X : Nat → Prop) (df : Int) : Prop where
  st : StB w r vn vt N T s q X
  c4 : w.cell? ⟨r, 4, none⟩ = some (.int .i64 df)
  c5 : w.cell? ⟨r, 5, none⟩ = some (.int .i64 0)
  c6 : w.cell? ⟨r, 6, none⟩ = some (.int .i64 0)
  nb : s.bad = false
/-- It has given up. -/
def MPan (r : Nat) (q : Option Nat) (df : Int) (w : World) (e : Ending) (w' : World) : Prop :=
  e = .panicked [{ v := .iface 29 (.agg #[.int .i64 6, .int .i64 df]), recovered := false }] ∧ w'.cell? ⟨r, 5, none⟩ = some (.int .i64 6) ∧ w'.cell? ⟨r, 6, none⟩ = some (.int .i64 df) ∧ Fm r q w w'
/-- How a step of the maker ends. -/
def OutM (r : Nat) (vn vt : Value) (N T : List ByteArray) (q : Option Nat) (df : Int) (s' : Sp) (X : Value → Nat → Prop) (w : World) (P : Value → World → Prop) (e : Ending) (w' : World) : Prop :=
  if s'.bad = true then MPan r q df w e w' else ∃ v q', e = .returned v ∧ P v w' ∧ MkS w' r vn vt N T s' q' (X v) df ∧ Fm r q w w' ∧ Own w q q'
section
variable {w w' : World} {r : Nat} {vn vt : Value} {N T : List ByteArray} {s : Sp} {q : Option Nat} {X : Nat → Prop} {df : Int}
theorem MkS.lw (h : MkS w r vn vt N T s q X df) (hb : Below w.heap.size w w') : MkS w' r vn vt N T s q X df := ⟨h.st.lw hb, bkeep hb h.c4, bkeep hb h.c5, bkeep hb h.c6, h.nb⟩
theorem MkS.weak {Y : Nat → Prop} (h : MkS w r vn vt N T s q X df) (hY : ∀ k, Y k → X k) : MkS w r vn vt N T s q Y df := ⟨h.st.weak hY, h.c4, h.c5, h.c6, h.nb⟩
theorem MkS.grow {v v' : Value} (h : MkS w r vn vt N T s q (op1 X v) df) (hg : w.grownBy w' v.ownBlock) (hat : v'.ownBlock = v.ownBlock ∨ v'.ownBlock = some w.heap.size) (hv' : ∀ k, v'.ownBlock = some k → k < w'.heap.size) : MkS w' r vn vt N T s q (op1 X v') df := by
  have hr : ∀ i u, w.cell? ⟨r, i, none⟩ = some u → w'.cell? ⟨r, i, none⟩ = some u := fun i u hu => by
    rw [World.cell?_of_block (w := w) (a := ⟨r, i, none⟩) (hg.block r h.st.sz (fun e => by have := (h.st.xo r (.inr e.symm)).1; omega))]; exact hu
  exact ⟨h.st.grow hg hat hv', hr _ _ h.c4, hr _ _ h.c5, hr _ _ h.c6, h.nb⟩
theorem MkS.open_ {v : Value} (h : MkS w r vn vt N T s q X df) (hb : Below w.heap.size w w') (hv : ∀ k, v.ownBlock = some k → w.heap.size ≤ k ∧ k < w'.heap.size) : MkS w' r vn vt N T s q (op1 X v) df := ⟨h.st.open_ hb hv, bkeep hb h.c4, bkeep hb h.c5, bkeep hb h.c6, h.nb⟩
theorem MPan.pre {q q' : Option Nat} {a : World} {e : Ending} (h : MPan r q' df w e w') (hf : Fm r q a w) (ho : Own a q q') : MPan r q df a e w' := ⟨h.1, h.2.1, h.2.2.1, hf.trans h.2.2.2 ho⟩
theorem OutM.no {s' : Sp} {Y : Value → Nat → Prop} {P : Value → World → Prop} {e : Ending} (h : OutM r vn vt N T q df s' Y w P e w') (hb : s'.bad = true) : MPan r q df w e w' := by rw [OutM, if_pos hb] at h; exact h
theorem OutM.yes {s' : Sp} {Y : Value → Nat → Prop} {P : Value → World → Prop} {e : Ending} (h : OutM r vn vt N T q df s' Y w P e w') (hb : s'.bad = false) : ∃ v q', e = .returned v ∧ P v w' ∧ MkS w' r vn vt N T s' q' (Y v) df ∧ Fm r q w w' ∧ Own w q q' := by rw [OutM, if_neg (by simp [hb])] at h; exact h
theorem OutM_no {s' : Sp} {Y : Value → Nat → Prop} {P : Value → World → Prop} {e : Ending} (hb : s'.bad = true) (h : MPan r q df w e w') : OutM r vn vt N T q df s' Y w P e w' := by rw [OutM, if_pos hb]; exact h
theorem OutM_yes {s' : Sp} {Y : Value → Nat → Prop} {P : Value → World → Prop} {v : Value} {q' : Option Nat} (h1 : P v w') (h2 : MkS w' r vn vt N T s' q' (Y v) df) (h3 : Fm r q w w') (h4 : Own w q q') : OutM r vn vt N T q df s' Y w P (.returned v) w' := by
  rw [OutM, if_neg (by simp [h2.nb])]; exact ⟨v, q', rfl, h1, h2, h3, h4⟩
set_option maxRecDepth 100000 in
set_option maxHeartbeats 1000000 in
theorem mgive_any (h : MkS w r vn vt N T s q X df) : Calls Try.prog 116 #[.pointer (some ⟨r, 0, none⟩)] w (MPan r q df w) := by
  have c4 := h.c4
  have c5 := h.c5
  have c6 := h.c6
  have fz := h.st.fz
  clear h
  go_enter Try.func116, Try.ntmps116
  go_wp2_with fail
  refine ⟨rfl, rfl, ?_, ?_, ((Fm.refl r q w).setCell (.inl rfl) _).setCell (.inl rfl) _⟩
  · simp [go_sem, c5]
  · simp [go_sem, c6]
set_option maxRecDepth 100000 in
set_option maxHeartbeats 1000000 in
theorem fresh_no (h : MkS w r vn vt N T s q X df) (hv : 64 ≤ s.vars) : Calls Try.prog 129 #[.pointer (some ⟨r, 0, none⟩)] w (MPan r q df w) := by
  have A := mgive_any h
  have c2 := h.st.c2
  have hl := h.st.vl
  rw [show s.vars = 64 by omega] at c2
  clear h
  go_enter Try.func129, Try.ntmps129
  go_wp2_with fail
  refine A.mono ?_
  rintro e w1 ⟨rfl, h1, h2, h3⟩
  go_wp2_with fail
  exact ⟨rfl, rfl, h1, h2, h3⟩
set_option maxRecDepth 100000 in
set_option maxHeartbeats 1000000 in
theorem fresh_yes (h : MkS w r vn vt N T s q X df) (hv : ¬ 64 ≤ s.vars) : Calls Try.prog 129 #[.pointer (some ⟨r, 0, none⟩)] w fun e w' => e = .returned (.int .i64 (s.vars : Int)) ∧ MkS w' r vn vt N T s.more q X df ∧ Fm r q w w' := by
  have c2 := h.st.c2
  have fz := h.st.fz
  have n64 : ¬ ((s.vars : Int) = 64) := by omega
  have H : MkS (w.setCell ⟨r, 2, none⟩ (.int .i64 ((s.vars + 1 : Nat) : Int))) r vn vt N T s.more q X df :=
    ⟨h.st.setVars (n := s.vars + 1) (by omega), by rw [World.cell?_setCell_other _ _ _ _ (by simp)]; exact h.c4, by rw [World.cell?_setCell_other _ _ _ _ (by simp)]; exact h.c5, by rw [World.cell?_setCell_other _ _ _ _ (by simp)]; exact h.c6, h.nb⟩
  clear h
  go_enter Try.func129, Try.ntmps129
  go_wp2_with fail
  go_ret
  refine ⟨?_, H, (Fm.refl r q w).setCell (.inl rfl) _⟩
  exact ret_int (by omega)
set_option maxRecDepth 100000 in
set_option maxHeartbeats 4000000 in
theorem mput_no (h : MkS w r vn vt N T s q X df) {v : Int} {u : Value} {l : List Int} (hu : IsV w All u l) (hn : 160 ≤ s.rules.length ∨ 10 < l.length) :
    Calls Try.prog 95 #[.pointer (some ⟨r, 0, none⟩), .int .i64 v, u] w (MPan r q df w) := by
  have A := mgive_any h
  obtain ⟨vr, xs, c3, ho, _⟩ := h.st.c3
  obtain ⟨ao, cap, rfl⟩ := hu.slice
  obtain ⟨aor, capr, rfl⟩ := owns_slice ho
  have hrl := h.st.rl
  have hl := hu.1
  clear h hu ho
  by_cases h160 : s.rules.length = 160
  · rw [h160] at c3
    go_enter Try.func95, Try.ntmps95
    go_wp2_with fail
    refine A.mono ?_
    rintro e w1 ⟨rfl, h1, h2, h3⟩
    go_wp2_with fail
    exact ⟨rfl, rfl, h1, h2, h3⟩
  · have h10 : 10 < l.length := by omega
    have h10' : (10 : Int) < (l.length : Int) := by omega
    have n160 : ¬ ((s.rules.length : Int) = 160) := by omega
    go_enter Try.func95, Try.ntmps95
    go_wp2_with fail
    refine A.mono ?_
    rintro e w1 ⟨rfl, h1, h2, h3⟩
    go_wp2_with fail
    exact ⟨rfl, rfl, h1, h2, h3⟩
set_option maxRecDepth 100000 in
set_option maxHeartbeats 16000000 in
theorem mput_yes (h : MkS w r vn vt N T s q X df) {v : Int} {u : Value} {l : List Int} (hu : IsV w All u l) (h1 : ¬ 160 ≤ s.rules.length) (h2 : ¬ 10 < l.length) :
    Calls Try.prog 95 #[.pointer (some ⟨r, 0, none⟩), .int .i64 v, u] w fun e w' => e = .returned (.tuple #[]) ∧ ∃ q', MkS w' r vn vt N T (s.rule v l) q' X df ∧ Fm r q w w' ∧ Own w q q' := by
  obtain ⟨i0, hi, iz0, iz1, iz2⟩ := info_parts Try.infoRule
  obtain ⟨j0, hj, jz0, jz1, jz2⟩ := info_parts Try.infoInt
  have H := h
  have hOwn := h.st.own
  have hXo := h.st.xo
  obtain ⟨vr, xs, c3, ho, hc, he⟩ := h.st.c3
  have hsz := h.st.sz
  have hfz := h.st.fz
  have hhl : s.rules.length ≤ 160 := h.st.rl
  have hul := hu.1
  obtain ⟨ao, cap, rfl⟩ := hu.slice
  obtain ⟨aor, capr, rfl⟩ := owns_slice ho
  have n160 : ¬ ((s.rules.length : Int) = 160) := by omega
  have n10 : ¬ ((10 : Int) < (l.length : Int)) := by omega
  have cV := hu.lw (G.drw1 w)
  have oV := G.owns_below ho (G.drw1 w)
  have p3 := bkeep (G.drw1 w) c3
  have bD := G.drw1 w
  have zD : w.drew.heap.size = w.heap.size := rfl
  have hTr : True := trivial
  clear h
  go_enter Try.func95, Try.ntmps95
  go_wp2_with fail
  refine wp_region_noPanic ?_
  refine wp_region_held_drew (S := fun _ => True) (by kernel_rfl) hTr ?_
  intro hSw
  obtain ⟨y0, hy0⟩ : ∃ y0, y0 = w.drew := ⟨_, rfl⟩
  rw [← hy0] at cV oV p3 bD zD ⊢
  clear hy0
  refine wpAnyH_take (i := 0) (v := ?v1) rfl (by kernel_rfl) (by kernel_rfl) (by kernel_rfl) (fun _ _ _ h => np_panic h) (Or.inl ⟨by rfl, ?hy1⟩) (by assumption) ?_
  case hy1 => (intro w' hS'; (try dsimp only at hS'); go_simp; try with_reducible rfl)
  simp only [Act.put, List.setIfInBounds_toArray, List.set_cons_zero, List.set_cons_succ, List.getElem_toArray, List.getElem_cons_zero]
  refine wpAnyH_take (i := 1) (v := ?v2) rfl (by kernel_rfl) (by kernel_rfl) (by kernel_rfl) (fun _ _ _ h => np_panic h) (Or.inl ⟨by rfl, ?hy2⟩) (by assumption) ?_
  case hy2 => (intro w' hS'; (try dsimp only at hS'); go_simp; try with_reducible rfl)
  simp only [Act.put, List.setIfInBounds_toArray, List.set_cons_zero, List.set_cons_succ, List.getElem_toArray, List.getElem_cons_succ, List.getElem_cons_zero]
  refine wpAnyH_take (i := 2) (v := ?v3) rfl (by kernel_rfl) (by kernel_rfl) (by kernel_rfl) (fun _ _ _ h => np_panic h) (Or.inl ⟨by rfl, ?hy3⟩) (by assumption) ?_
  case hy3 => (intro w' hS'; (try dsimp only at hS'); go_simp; try with_reducible rfl)
  simp only [Act.put, List.setIfInBounds_toArray, List.set_cons_zero, List.set_cons_succ, List.getElem_toArray, List.getElem_cons_succ, List.getElem_cons_zero]
  refine wpAnyH_take (i := 3) (v := ?v4) rfl (by kernel_rfl) (by kernel_rfl) (by kernel_rfl) (fun _ _ _ h => np_panic h) (Or.inl ⟨by rfl, ?hy4⟩) (by assumption) ?_
  case hy4 => (intro w' hS'; (try dsimp only at hS'); go_simp; try with_reducible rfl)
  simp only [Act.put, List.setIfInBounds_toArray, List.set_cons_zero, List.set_cons_succ, List.getElem_toArray, List.getElem_cons_succ, List.getElem_cons_zero]
  refine wpAnyH_take (i := 5) (v := ?v5) rfl (by kernel_rfl) (by kernel_rfl) (by kernel_rfl) (fun _ _ _ h => np_panic h) (Or.inl ⟨by rfl, ?hy5⟩) (by assumption) ?_
  case hy5 => (intro w' hS'; (try dsimp only at hS'); go_simp; try with_reducible rfl)
  simp only [Act.put, List.setIfInBounds_toArray, List.set_cons_zero, List.set_cons_succ, List.getElem_toArray, List.getElem_cons_succ, List.getElem_cons_zero]
  refine wpAnyH_take (i := 6) (v := ?v6) rfl (by kernel_rfl) (by kernel_rfl) (by kernel_rfl) (fun _ _ _ h => np_panic h) (Or.inl ⟨by rfl, ?hy6⟩) (by assumption) ?_
  case hy6 => (intro w' hS'; (try dsimp only at hS'); go_simp; try with_reducible rfl)
  simp only [Act.put, List.setIfInBounds_toArray, List.set_cons_zero, List.set_cons_succ, List.getElem_toArray, List.getElem_cons_succ, List.getElem_cons_zero]
  refine wpAnyH_ready (rs := [4, 7]) (by kernel_rfl) (by simp) ?_
  refine AllReadyH.cons rfl (fun K hK => ?_) (AllReadyH.cons rfl (fun K hK => ?_) AllReadyH.nil)
  · go_simp
    refine hK.out _ _ trivial ?_
    clear hK K
    intro hSw
    try simp only [Act.put, List.setIfInBounds_toArray, List.set_cons_zero, List.set_cons_succ]
    refine wpAnyH_ready (rs := [7]) (by kernel_rfl) (by simp) ?_
    refine AllReadyH.cons rfl (fun K hK => ?_) AllReadyH.nil
    refine step_ints rfl _ (.tmp 25) 33 rfl y0.heap.size 3 j0 Try.underlying33 hj jz0 jz1 jz2 (.slice none 0 0) 0 [] rfl (World.ownsRow_nil _ _ _ _) G.All (.slice ao l.length cap) l rfl cV (by omega) (Nat.le_refl _) ?_
    intro v5 w5 own5 grow5 hat5
    have g5 := G.grown_below grow5
    have z5 := g5.size
    have u5 : IsV w5 (fun k => w.heap.size ≤ k) v5 l := IsV_owned (by simpa using own5) hul (fun k e => by have := (own5.lt k e).1; omega)
    have o5 := G.owns_below oV g5
    have p5 := bkeep g5 p3
    have b5 := bthen bD g5
    obtain ⟨ao5, cap5, rfl⟩ := u5.slice
    refine hK.out _ _ trivial ?_
    clear hK K
    intro hSw
    simp only [Act.put, List.setIfInBounds_toArray, List.set_cons_zero, List.set_cons_succ, List.getElem_toArray, List.getElem_cons_succ, List.getElem_cons_zero]
    refine wpAnyH_take (i := 8) (v := ?v7) rfl (by kernel_rfl) (by kernel_rfl) (by kernel_rfl) (fun _ _ _ h => np_panic h) (Or.inl ⟨by rfl, ?hy7⟩) (by assumption) ?_
    case hy7 => (intro w' hS'; (try dsimp only at hS'); go_simp; try with_reducible rfl)
    simp only [Act.put, List.setIfInBounds_toArray, List.set_cons_zero, List.set_cons_succ, List.getElem_toArray, List.getElem_cons_succ, List.getElem_cons_zero]
    refine wpAnyH_ready (rs := [9]) (by kernel_rfl) (by simp) ?_
    refine AllReadyH.cons rfl (fun K hK => ?_) AllReadyH.nil
    go_simp
    obtain ⟨w6, hw6⟩ : ∃ w6, w6 = w5.alloc (.cells #[.int .i64 v, .slice ao5 l.length cap5] 37) := ⟨_, rfl⟩
    have g6 : Below w5.heap.size w5 w6 := by rw [hw6]; exact G.al1 _ _
    have o6 := G.owns_below o5 g6
    have p6 := bkeep g6 p5
    have z6 : w6.heap.size = w5.heap.size + 1 := by rw [hw6]; simp
    have n6 : ∀ j u, [Value.int .i64 v, .slice ao5 l.length cap5][j]? = some u → w6.cell? ((⟨w5.heap.size, 0, none⟩ : Addr).add j) = some u := by rw [hw6]; exact cell2_new _ _ _ _ rfl
    rw [← hw6]
    clear hw6
    refine hK.out _ _ trivial ?_
    clear hK K
    intro hSw
    try simp only [Act.put, List.setIfInBounds_toArray, List.set_cons_zero, List.set_cons_succ]
    refine wpAnyH_ready (rs := [10]) (by kernel_rfl) (by simp) ?_
    refine AllReadyH.cons rfl (fun K hK => ?_) AllReadyH.nil
    refine step_own rfl (.tmp 23) (.tmp 28) 22 rfl (r + 1) 37 i0 (.agg #[.int .i64 0, .slice none 0 0]) 2 32 Try.underlying22 hi iz0 iz1 iz2 rfl (by decide) (.slice aor s.rules.length capr) s.rules.length xs rfl o6 ⟨w5.heap.size, 0, none⟩ 1 1 [.int .i64 v, .slice ao5 l.length cap5] rfl rfl n6 (oneRule _ _ _ _) (by unfold maxLen; omega) (by omega) (by omega) ?_
    intro v7 w7 own7 grow7 hat7
    have b6 := bthen b5 g6
    obtain ⟨q', st', fr', ow'⟩ := H.st.put (v := v) (l := l) b6 c3 ho hc he ((u5.mono (fun b o x hs hx => ⟨⟨by omega, fun e => by have := (hOwn b e).2; omega, fun hX => by have := (hXo b hX).2.1; omega⟩, bkeep g6 hx⟩))) own7 grow7 hat7 (by omega)
    have nr : w7.heap[r]? = w6.heap[r]? := grow7.block r (by omega) (fun e => by have := (hOwn r (he ▸ e.symm)).1; omega)
    have m7 : ∀ i, w7.cell? ⟨r, i, none⟩ = w.cell? ⟨r, i, none⟩ := fun i => (World.cell?_of_block (a := ⟨r, i, none⟩) nr).trans (b6.cell (p := ⟨r, i, none⟩) hsz)
    have p7 := (m7 3).trans c3
    have f7 : ∀ i, w7.frozen? ⟨r, i, none⟩ = false := fun i => ((World.frozen?_of_block (a := ⟨r, i, none⟩) nr).trans (b6.frozen (p := ⟨r, i, none⟩) hsz)).trans (hfz i)
    have H' : MkS (w7.setCell ⟨r, 3, none⟩ v7) r vn vt N T (s.rule v l) q' X df := by
      rw [rule_yes H.nb h1 h2]
      exact ⟨st', by rw [World.cell?_setCell_other _ _ _ _ (by simp), m7]; exact H.c4, by rw [World.cell?_setCell_other _ _ _ _ (by simp), m7]; exact H.c5, by rw [World.cell?_setCell_other _ _ _ _ (by simp), m7]; exact H.c6, H.nb⟩
    obtain ⟨ao7, cap7, rfl⟩ := owns_slice own7
    refine hK.out _ _ trivial ?_
    clear hK K
    intro hSw
    simp only [Act.put, List.setIfInBounds_toArray, List.set_cons_zero, List.set_cons_succ, List.getElem_toArray, List.getElem_cons_succ, List.getElem_cons_zero]
    refine wpAnyH_take (i := 11) (v := ?v8) rfl (by kernel_rfl) (by kernel_rfl) (by kernel_rfl) (fun _ _ _ h => np_panic h) (Or.inl ⟨by rfl, ?hy8⟩) (by assumption) ?_
    case hy8 => (intro w' hS'; (try dsimp only at hS'); go_simp; try with_reducible rfl)
    simp only [Act.put, List.setIfInBounds_toArray, List.set_cons_zero, List.set_cons_succ, List.getElem_toArray, List.getElem_cons_succ, List.getElem_cons_zero]
    refine wpAnyH_take (i := 12) (v := ?v9) rfl (by kernel_rfl) (by kernel_rfl) (by kernel_rfl) (fun _ _ _ h => np_panic h) (Or.inl ⟨by rfl, ?hy9⟩) (by assumption) ?_
    case hy9 => (intro w' hS'; (try dsimp only at hS'); go_simp; try with_reducible rfl)
    simp only [Act.put, List.setIfInBounds_toArray, List.set_cons_zero, List.set_cons_succ, List.getElem_toArray, List.getElem_cons_succ, List.getElem_cons_zero]
    refine wpAnyH_ready (rs := [13]) (by kernel_rfl) (by simp) ?_
    refine AllReadyH.cons rfl (fun K hK => ?_) AllReadyH.nil
    go_simp
    refine hK.out _ _ trivial ?_
    clear hK K
    intro hSw
    try simp only [Act.put, List.setIfInBounds_toArray, List.set_cons_zero, List.set_cons_succ]
    refine wpAnyH_done (by kernel_rfl) (NoPanic.normal ?_) _
    go_wp2_with fail
    go_end0
    exact ⟨rfl, q', H', fr', ow'⟩
  · refine step_ints rfl _ (.tmp 25) 33 rfl y0.heap.size 3 j0 Try.underlying33 hj jz0 jz1 jz2 (.slice none 0 0) 0 [] rfl (World.ownsRow_nil _ _ _ _) G.All (.slice ao l.length cap) l rfl cV (by omega) (Nat.le_refl _) ?_
    intro v5 w5 own5 grow5 hat5
    have g5 := G.grown_below grow5
    have z5 := g5.size
    have u5 : IsV w5 (fun k => w.heap.size ≤ k) v5 l := IsV_owned (by simpa using own5) hul (fun k e => by have := (own5.lt k e).1; omega)
    have o5 := G.owns_below oV g5
    have p5 := bkeep g5 p3
    have b5 := bthen bD g5
    obtain ⟨ao5, cap5, rfl⟩ := u5.slice
    refine hK.out _ _ trivial ?_
    clear hK K
    intro hSw
    simp only [Act.put, List.setIfInBounds_toArray, List.set_cons_zero, List.set_cons_succ, List.getElem_toArray, List.getElem_cons_succ, List.getElem_cons_zero]
    refine wpAnyH_take (i := 8) (v := ?v10) rfl (by kernel_rfl) (by kernel_rfl) (by kernel_rfl) (fun _ _ _ h => np_panic h) (Or.inl ⟨by rfl, ?hy10⟩) (by assumption) ?_
    case hy10 => (intro w' hS'; (try dsimp only at hS'); go_simp; try with_reducible rfl)
    simp only [Act.put, List.setIfInBounds_toArray, List.set_cons_zero, List.set_cons_succ, List.getElem_toArray, List.getElem_cons_succ, List.getElem_cons_zero]
    refine wpAnyH_ready (rs := [4, 9]) (by kernel_rfl) (by simp) ?_
    refine AllReadyH.cons rfl (fun K hK => ?_) (AllReadyH.cons rfl (fun K hK => ?_) AllReadyH.nil)
    · go_simp
      refine hK.out _ _ trivial ?_
      clear hK K
      intro hSw
      try simp only [Act.put, List.setIfInBounds_toArray, List.set_cons_zero, List.set_cons_succ]
      refine wpAnyH_ready (rs := [9]) (by kernel_rfl) (by simp) ?_
      refine AllReadyH.cons rfl (fun K hK => ?_) AllReadyH.nil
      go_simp
      obtain ⟨w6, hw6⟩ : ∃ w6, w6 = w5.alloc (.cells #[.int .i64 v, .slice ao5 l.length cap5] 37) := ⟨_, rfl⟩
      have g6 : Below w5.heap.size w5 w6 := by rw [hw6]; exact G.al1 _ _
      have o6 := G.owns_below o5 g6
      have p6 := bkeep g6 p5
      have z6 : w6.heap.size = w5.heap.size + 1 := by rw [hw6]; simp
      have n6 : ∀ j u, [Value.int .i64 v, .slice ao5 l.length cap5][j]? = some u → w6.cell? ((⟨w5.heap.size, 0, none⟩ : Addr).add j) = some u := by rw [hw6]; exact cell2_new _ _ _ _ rfl
      rw [← hw6]
      clear hw6
      refine hK.out _ _ trivial ?_
      clear hK K
      intro hSw
      try simp only [Act.put, List.setIfInBounds_toArray, List.set_cons_zero, List.set_cons_succ]
      refine wpAnyH_ready (rs := [10]) (by kernel_rfl) (by simp) ?_
      refine AllReadyH.cons rfl (fun K hK => ?_) AllReadyH.nil
      refine step_own rfl (.tmp 23) (.tmp 28) 22 rfl (r + 1) 37 i0 (.agg #[.int .i64 0, .slice none 0 0]) 2 32 Try.underlying22 hi iz0 iz1 iz2 rfl (by decide) (.slice aor s.rules.length capr) s.rules.length xs rfl o6 ⟨w5.heap.size, 0, none⟩ 1 1 [.int .i64 v, .slice ao5 l.length cap5] rfl rfl n6 (oneRule _ _ _ _) (by unfold maxLen; omega) (by omega) (by omega) ?_
      intro v7 w7 own7 grow7 hat7
      have b6 := bthen b5 g6
      obtain ⟨q', st', fr', ow'⟩ := H.st.put (v := v) (l := l) b6 c3 ho hc he ((u5.mono (fun b o x hs hx => ⟨⟨by omega, fun e => by have := (hOwn b e).2; omega, fun hX => by have := (hXo b hX).2.1; omega⟩, bkeep g6 hx⟩))) own7 grow7 hat7 (by omega)
      have nr : w7.heap[r]? = w6.heap[r]? := grow7.block r (by omega) (fun e => by have := (hOwn r (he ▸ e.symm)).1; omega)
      have m7 : ∀ i, w7.cell? ⟨r, i, none⟩ = w.cell? ⟨r, i, none⟩ := fun i => (World.cell?_of_block (a := ⟨r, i, none⟩) nr).trans (b6.cell (p := ⟨r, i, none⟩) hsz)
      have p7 := (m7 3).trans c3
      have f7 : ∀ i, w7.frozen? ⟨r, i, none⟩ = false := fun i => ((World.frozen?_of_block (a := ⟨r, i, none⟩) nr).trans (b6.frozen (p := ⟨r, i, none⟩) hsz)).trans (hfz i)
      have H' : MkS (w7.setCell ⟨r, 3, none⟩ v7) r vn vt N T (s.rule v l) q' X df := by
        rw [rule_yes H.nb h1 h2]
        exact ⟨st', by rw [World.cell?_setCell_other _ _ _ _ (by simp), m7]; exact H.c4, by rw [World.cell?_setCell_other _ _ _ _ (by simp), m7]; exact H.c5, by rw [World.cell?_setCell_other _ _ _ _ (by simp), m7]; exact H.c6, H.nb⟩
      obtain ⟨ao7, cap7, rfl⟩ := owns_slice own7
      refine hK.out _ _ trivial ?_
      clear hK K
      intro hSw
      simp only [Act.put, List.setIfInBounds_toArray, List.set_cons_zero, List.set_cons_succ, List.getElem_toArray, List.getElem_cons_succ, List.getElem_cons_zero]
      refine wpAnyH_take (i := 11) (v := ?v11) rfl (by kernel_rfl) (by kernel_rfl) (by kernel_rfl) (fun _ _ _ h => np_panic h) (Or.inl ⟨by rfl, ?hy11⟩) (by assumption) ?_
      case hy11 => (intro w' hS'; (try dsimp only at hS'); go_simp; try with_reducible rfl)
      simp only [Act.put, List.setIfInBounds_toArray, List.set_cons_zero, List.set_cons_succ, List.getElem_toArray, List.getElem_cons_succ, List.getElem_cons_zero]
      refine wpAnyH_take (i := 12) (v := ?v12) rfl (by kernel_rfl) (by kernel_rfl) (by kernel_rfl) (fun _ _ _ h => np_panic h) (Or.inl ⟨by rfl, ?hy12⟩) (by assumption) ?_
      case hy12 => (intro w' hS'; (try dsimp only at hS'); go_simp; try with_reducible rfl)
      simp only [Act.put, List.setIfInBounds_toArray, List.set_cons_zero, List.set_cons_succ, List.getElem_toArray, List.getElem_cons_succ, List.getElem_cons_zero]
      refine wpAnyH_ready (rs := [13]) (by kernel_rfl) (by simp) ?_
      refine AllReadyH.cons rfl (fun K hK => ?_) AllReadyH.nil
      go_simp
      refine hK.out _ _ trivial ?_
      clear hK K
      intro hSw
      try simp only [Act.put, List.setIfInBounds_toArray, List.set_cons_zero, List.set_cons_succ]
      refine wpAnyH_done (by kernel_rfl) (NoPanic.normal ?_) _
      go_wp2_with fail
      go_end0
      exact ⟨rfl, q', H', fr', ow'⟩
    · go_simp
      obtain ⟨w6, hw6⟩ : ∃ w6, w6 = w5.alloc (.cells #[.int .i64 v, .slice ao5 l.length cap5] 37) := ⟨_, rfl⟩
      have g6 : Below w5.heap.size w5 w6 := by rw [hw6]; exact G.al1 _ _
      have o6 := G.owns_below o5 g6
      have p6 := bkeep g6 p5
      have z6 : w6.heap.size = w5.heap.size + 1 := by rw [hw6]; simp
      have n6 : ∀ j u, [Value.int .i64 v, .slice ao5 l.length cap5][j]? = some u → w6.cell? ((⟨w5.heap.size, 0, none⟩ : Addr).add j) = some u := by rw [hw6]; exact cell2_new _ _ _ _ rfl
      rw [← hw6]
      clear hw6
      refine hK.out _ _ trivial ?_
      clear hK K
      intro hSw
      try simp only [Act.put, List.setIfInBounds_toArray, List.set_cons_zero, List.set_cons_succ]
      refine wpAnyH_ready (rs := [4]) (by kernel_rfl) (by simp) ?_
      refine AllReadyH.cons rfl (fun K hK => ?_) AllReadyH.nil
      go_simp
      refine hK.out _ _ trivial ?_
      clear hK K
      intro hSw
      try simp only [Act.put, List.setIfInBounds_toArray, List.set_cons_zero, List.set_cons_succ]
      refine wpAnyH_ready (rs := [10]) (by kernel_rfl) (by simp) ?_
      refine AllReadyH.cons rfl (fun K hK => ?_) AllReadyH.nil
      refine step_own rfl (.tmp 23) (.tmp 28) 22 rfl (r + 1) 37 i0 (.agg #[.int .i64 0, .slice none 0 0]) 2 32 Try.underlying22 hi iz0 iz1 iz2 rfl (by decide) (.slice aor s.rules.length capr) s.rules.length xs rfl o6 ⟨w5.heap.size, 0, none⟩ 1 1 [.int .i64 v, .slice ao5 l.length cap5] rfl rfl n6 (oneRule _ _ _ _) (by unfold maxLen; omega) (by omega) (by omega) ?_
      intro v7 w7 own7 grow7 hat7
      have b6 := bthen b5 g6
      obtain ⟨q', st', fr', ow'⟩ := H.st.put (v := v) (l := l) b6 c3 ho hc he ((u5.mono (fun b o x hs hx => ⟨⟨by omega, fun e => by have := (hOwn b e).2; omega, fun hX => by have := (hXo b hX).2.1; omega⟩, bkeep g6 hx⟩))) own7 grow7 hat7 (by omega)
      have nr : w7.heap[r]? = w6.heap[r]? := grow7.block r (by omega) (fun e => by have := (hOwn r (he ▸ e.symm)).1; omega)
      have m7 : ∀ i, w7.cell? ⟨r, i, none⟩ = w.cell? ⟨r, i, none⟩ := fun i => (World.cell?_of_block (a := ⟨r, i, none⟩) nr).trans (b6.cell (p := ⟨r, i, none⟩) hsz)
      have p7 := (m7 3).trans c3
      have f7 : ∀ i, w7.frozen? ⟨r, i, none⟩ = false := fun i => ((World.frozen?_of_block (a := ⟨r, i, none⟩) nr).trans (b6.frozen (p := ⟨r, i, none⟩) hsz)).trans (hfz i)
      have H' : MkS (w7.setCell ⟨r, 3, none⟩ v7) r vn vt N T (s.rule v l) q' X df := by
        rw [rule_yes H.nb h1 h2]
        exact ⟨st', by rw [World.cell?_setCell_other _ _ _ _ (by simp), m7]; exact H.c4, by rw [World.cell?_setCell_other _ _ _ _ (by simp), m7]; exact H.c5, by rw [World.cell?_setCell_other _ _ _ _ (by simp), m7]; exact H.c6, H.nb⟩
      obtain ⟨ao7, cap7, rfl⟩ := owns_slice own7
      refine hK.out _ _ trivial ?_
      clear hK K
      intro hSw
      simp only [Act.put, List.setIfInBounds_toArray, List.set_cons_zero, List.set_cons_succ, List.getElem_toArray, List.getElem_cons_succ, List.getElem_cons_zero]
      refine wpAnyH_take (i := 11) (v := ?v13) rfl (by kernel_rfl) (by kernel_rfl) (by kernel_rfl) (fun _ _ _ h => np_panic h) (Or.inl ⟨by rfl, ?hy13⟩) (by assumption) ?_
      case hy13 => (intro w' hS'; (try dsimp only at hS'); go_simp; try with_reducible rfl)
      simp only [Act.put, List.setIfInBounds_toArray, List.set_cons_zero, List.set_cons_succ, List.getElem_toArray, List.getElem_cons_succ, List.getElem_cons_zero]
      refine wpAnyH_take (i := 12) (v := ?v14) rfl (by kernel_rfl) (by kernel_rfl) (by kernel_rfl) (fun _ _ _ h => np_panic h) (Or.inl ⟨by rfl, ?hy14⟩) (by assumption) ?_
      case hy14 => (intro w' hS'; (try dsimp only at hS'); go_simp; try with_reducible rfl)
      simp only [Act.put, List.setIfInBounds_toArray, List.set_cons_zero, List.set_cons_succ, List.getElem_toArray, List.getElem_cons_succ, List.getElem_cons_zero]
      refine wpAnyH_ready (rs := [13]) (by kernel_rfl) (by simp) ?_
      refine AllReadyH.cons rfl (fun K hK => ?_) AllReadyH.nil
      go_simp
      refine hK.out _ _ trivial ?_
      clear hK K
      intro hSw
      try simp only [Act.put, List.setIfInBounds_toArray, List.set_cons_zero, List.set_cons_succ]
      refine wpAnyH_done (by kernel_rfl) (NoPanic.normal ?_) _
      go_wp2_with fail
      go_end0
      exact ⟨rfl, q', H', fr', ow'⟩
end
end Go.Proofs.Ytghplmldnkcpnac
