/- A forest's own: the k-th tree, the rank; what they tell. -/
import Derived.Test.YtlhdppkllmnmkaeL16
namespace Go.Proofs.Ytlhdppkllmnmkae.G
open Go.RowKit Go.Maps
/-- How a telling ends: why it has given up, or what it tells. -/
def TellR (fb tb rb : Nat) (P : World → Value → World → Prop) (fl : Int) (u : World) (e : Ending) (w' : World) : Prop :=
  (fl ≠ 0 ∧ FPan tb rb fb fl u e w') ∨ (fl = 0 ∧ ∃ v, e = .returned v ∧ P u v w' ∧ w'.cell? ⟨fb, 7, none⟩ = some (.int .i64 0) ∧ w'.cell? ⟨fb, 8, none⟩ = some (.int .i64 0) ∧ Kf tb rb fb u w')
section
variable {fb cb tb rb : Nat} {g : Gm} {W : List Int} {V : Nat} {E : BitVec 64} {vR vW vg : Value} {room : Nat} {w : World}
theorem TellR_no {P : World → Value → World → Prop} {fl : Int} {u w' : World} {e : Ending} (hf : fl ≠ 0) (h : FPan tb rb fb fl u e w') : TellR fb tb rb P fl u e w' := .inl ⟨hf, h⟩
theorem TellR_yes {P : World → Value → World → Prop} {u w' : World} {v : Value} {rm : Nat} (hF : FoS w' fb cb tb rb g W V E vR vW vg rm) (h : P u v w') (hk : Kf tb rb fb u w') : TellR fb tb rb P 0 u (.returned v) w' := .inr ⟨rfl, v, rfl, h, hF.f0, hF.f1, hk⟩
/-- The list: its fault. -/
def lsFl (g : Gm) (W : List Int) (V : Nat) : Int := if 200 < nAll g W V then 6 else if okL (Trs g.rules W V g.start 0 W.length) then 0 else 6
def lsP (g : Gm) (W : List Int) (V : Nat) (u : World) (v : Value) (w' : World) : Prop := TfV w' (fun k => u.heap.size ≤ k) v (lstT (Trs g.rules W V g.start 0 W.length))
theorem list_tell (hG : CkG g W V) (hE : ∀ v : Int, hasB E v = true ↔ Nul g.rules v) (hF : FoS w fb cb tb rb g W V E vR vW vg room) :
    Calls Try.prog 50 #[.pointer (some ⟨fb, 0, none⟩)] w (TellR fb tb rb (lsP g W V) (lsFl g W V) w) := by
  unfold lsFl
  by_cases h : 200 < nAll g W V
  · rw [if_pos h]
    exact (list_many hG hE h hF).mono fun e w' he => TellR_no (by decide) he
  · rw [if_neg h]
    refine (list_few hG hE h hF).mono fun e w' he => ?_
    unfold FlsR at he
    by_cases ho : okL (Trs g.rules W V g.start 0 W.length)
    · rw [if_pos ho] at he ⊢
      obtain ⟨v, rm, rfl, h1, h2, h3⟩ := he
      exact TellR_yes h2 h1 h3
    · rw [if_neg ho] at he ⊢
      exact TellR_no (by decide) he
/-- The k-th tree: its fault. -/
def atFl (g : Gm) (W : List Int) (V : Nat) (k : Int) : Int := if 4611686018427387904 ≤ nAll g W V then 6 else if k < 0 ∨ (nAll g W V : Int) ≤ k then 9 else if ((Trs g.rules W V g.start 0 W.length).getD k.toNat ⟨0, .nil⟩).sz ≤ 400 then 0 else 6
def atP (g : Gm) (W : List Int) (V : Nat) (k : Int) (u : World) (v : Value) (w' : World) : Prop := TrV w' (fun k => u.heap.size ≤ k) v ((Trs g.rules W V g.start 0 W.length).getD k.toNat ⟨0, .nil⟩)
theorem all_len (hG : CkG g W V) : (Trs g.rules W V g.start 0 W.length).length = nAll g W V := by
  have := nN_len (R := g.rules) (W := W) (V := V) g.start.toNat 0 W.length
  rw [Int.toNat_of_nonneg hG.rg.st.1] at this
  exact this.symm
set_option maxRecDepth 100000 in
set_option maxHeartbeats 1000000 in
theorem at_many (hG : CkG g W V) (hE : ∀ v : Int, hasB E v = true ↔ Nul g.rules v) (k : Int) (h : 4611686018427387904 ≤ nAll g W V) (hF : FoS w fb cb tb rb g W V E vR vW vg room) :
    Calls Try.prog 42 #[.pointer (some ⟨fb, 0, none⟩), .int .i64 k] w (FPan tb rb fb 6 w) := by
  have hb := al1 w (.cells #[.int .i64 0, .slice none 0 0] 44)
  have AM := atMost_no hG hE (most := 4611686018427387903) (by rw [cM_full.2 h]; omega) (hF.lw hb)
  clear hF h
  go_enter Try.func42, Try.ntmps42
  go_wp2_with fail
  refine AM.mono ?_
  rintro e w2 ⟨rfl, h1, h2, h3⟩
  go_wp2_with fail
  exact ⟨rfl, rfl, h1, h2, (Kf.of_below hb).trans h3⟩
set_option maxRecDepth 100000 in
set_option maxHeartbeats 1000000 in
theorem at_out (hG : CkG g W V) (hE : ∀ v : Int, hasB E v = true ↔ Nul g.rules v) (k : Int) (h : nAll g W V < 4611686018427387904) (hk : k < 0 ∨ (nAll g W V : Int) ≤ k) (hF : FoS w fb cb tb rb g W V E vR vW vg room) :
    Calls Try.prog 42 #[.pointer (some ⟨fb, 0, none⟩), .int .i64 k] w (FPan tb rb fb 9 w) := by
  have hb := al1 w (.cells #[.int .i64 0, .slice none 0 0] 44)
  have AM := atMost_yes hG hE (most := 4611686018427387903) (by rw [cM_lt h]; omega) (hF.lw hb)
  rw [cM_lt h] at AM
  generalize nAll g W V = N at *
  clear hF
  by_cases h0 : k < 0
  · have d0 : decide (k < 0) = true := decide_eq_true h0
    go_enter Try.func42, Try.ntmps42
    go_wp2_with fail
    refine AM.mono ?_
    rintro e w2 ⟨rfl, F2, kt2⟩
    have kf2 := Kf.of_kt (f := fb) kt2
    have GA := fgive_any 9 F2
    go_wp2_with fail
    refine GA.mono ?_
    rintro e w3 ⟨rfl, h1, h2, h3⟩
    go_wp2_with fail
    exact ⟨rfl, rfl, h1, h2, (Kf.of_below hb).trans (kf2.trans h3)⟩
  · have d0 : decide (k < 0) = false := decide_eq_false h0
    have h1 : (N : Int) ≤ k := by omega
    have d1 : decide ((N : Int) ≤ k) = true := decide_eq_true h1
    go_enter Try.func42, Try.ntmps42
    go_wp2_with fail
    refine AM.mono ?_
    rintro e w2 ⟨rfl, F2, kt2⟩
    have kf2 := Kf.of_kt (f := fb) kt2
    have GA := fgive_any 9 F2
    go_wp2_with fail
    refine GA.mono ?_
    rintro e w3 ⟨rfl, h1, h2, h3⟩
    go_wp2_with fail
    exact ⟨rfl, rfl, h1, h2, (Kf.of_below hb).trans (kf2.trans h3)⟩
set_option maxRecDepth 100000 in
set_option maxHeartbeats 1000000 in
theorem at_in (hG : CkG g W V) (hE : ∀ v : Int, hasB E v = true ↔ Nul g.rules v) (k : Nat) (t : Tr) (h : nAll g W V < 4611686018427387904) (hk : k < nAll g W V) (ht : (Trs g.rules W V g.start 0 W.length)[k]? = some t) (hF : FoS w fb cb tb rb g W V E vR vW vg room) :
    Calls Try.prog 42 #[.pointer (some ⟨fb, 0, none⟩), .int .i64 k] w (OutT fb cb tb rb g W V E vR vW vg t 400 w) := by
  obtain ⟨Y, hY⟩ : ∃ Y, Y = w.alloc (.cells #[.int .i64 0, .slice none 0 0] 44) := ⟨_, rfl⟩
  have hb : Below w.heap.size w Y := by rw [hY]; exact al1 _ _
  have y0 : Y.cell? ⟨w.heap.size, 0, none⟩ = some (.int .i64 0) := by rw [hY]; exact al_c0 rfl
  have y1 : Y.cell? ⟨w.heap.size, 1, none⟩ = some (.slice none 0 0) := by rw [hY]; exact al_c1 rfl
  have yf : ∀ i, Y.frozen? ⟨w.heap.size, i, none⟩ = false := fun i => by rw [hY]; exact al_fz rfl i
  obtain ⟨l1, l2, l3⟩ := hF.lt
  have AM := atMost_yes hG hE (most := 4611686018427387903) (by rw [cM_lt h]; omega) (hF.lw hb)
  rw [cM_lt h] at AM
  have WH := fun u rm (hu : FoS u fb cb tb rb g W V E vR vW vg rm) => whole_any hG hE ht h hu
  have HF0 := hd hF
  have HB := hd hb
  have n0 : ¬ (k : Int) < 0 := by omega
  have n1 : ¬ ((nAll g W V : Nat) : Int) ≤ (k : Int) := by omega
  have d0 : decide ((k : Int) < 0) = false := decide_eq_false n0
  have d1 : decide (((nAll g W V : Nat) : Int) ≤ (k : Int)) = false := decide_eq_false n1
  generalize nAll g W V = N at *
  clear hF ht
  go_enter Try.func42, Try.ntmps42
  go_wp2_with fail
  rw [← hY]
  have HY := hd hY
  clear hY
  refine AM.mono ?_
  rintro e w2 ⟨rfl, F2, kt2⟩
  have kf2 := Kf.of_kt (f := fb) kt2
  have WA := WH w2 _ F2
  go_wp2_with fail
  refine WA.mono ?_
  intro e w3 hO
  unfold OutT at hO
  by_cases hsz : t.sz ≤ 400
  · rw [if_pos hsz] at hO
    obtain ⟨v3, rfl, ⟨u3, rfl, hu3⟩, F3, kf3⟩ := hO
    obtain ⟨a3, c3, rfl, _⟩ := id hu3.slice
    have kf03 := kf2.trans kf3
    have zY := lt_of_cell y0
    have x0 := kf03.cell y0 (by omega) (by omega) (by omega)
    have x1 := kf03.cell y1 (by omega) (by omega) (by omega)
    have xf : ∀ i, w3.frozen? ⟨w.heap.size, i, none⟩ = false := fun i => (World.frozen?_of_block (a := ⟨w.heap.size, i, none⟩) (kf03.block w.heap.size (by omega) (by omega) (by omega) (by omega))).trans (yf i)
    have z2 := kf2.size
    have z3 : w.heap.size < w3.heap.size := lt_of_cell x0
    have kf4 : Kf tb rb fb w ((w3.setCell ⟨w.heap.size, 0, none⟩ (.int .i64 t.rule)).setCell ⟨w.heap.size, 1, none⟩ (.slice a3 t.kids.len c3)) := (((Kf.of_below hb).trans kf03).setCell (x := ⟨w.heap.size, 0, none⟩) (Nat.le_refl _) _).setCell (x := ⟨w.heap.size, 1, none⟩) (Nat.le_refl _) _
    have F4 := FoS.ahead HF0.out kf4 F3 ((setc_ne (by omega)).trans (setc_ne (by omega))) ((setc_ne (by omega)).trans (setc_ne (by omega))) ((setc_ne (by omega)).trans (setc_ne (by omega)))
    have hfv : TfV ((w3.setCell ⟨w.heap.size, 0, none⟩ (.int .i64 t.rule)).setCell ⟨w.heap.size, 1, none⟩ (.slice a3 t.kids.len c3)) (fun k => w.heap.size ≤ k) (.slice a3 t.kids.len c3) t.kids := hu3.kp (((Kp.refl _ w3).setCell (.inl (by show ¬ (_ ≤ w.heap.size); omega)) _).setCell (.inl (by show ¬ (_ ≤ w.heap.size); omega)) _) (fun q _ h => by have : w2.heap.size ≤ q := h; omega)
    clear hu3
    go_wp2_with fail
    refine bodyPost_ret (v := .agg #[.int .i64 t.rule, .slice a3 t.kids.len c3]) (by simp [results, Try.results42, go_sem, x0, x1]) rfl ?_
    unfold OutT
    rw [if_pos hsz]
    exact ⟨_, rfl, ⟨_, rfl, hfv⟩, F4, kf4⟩
  · rw [if_neg hsz] at hO
    obtain ⟨rfl, p7, p8, kf3⟩ := hO
    go_wp2_with fail
    refine ⟨rfl, ?_⟩
    unfold OutT
    rw [if_neg hsz]
    exact ⟨rfl, p7, p8, (Kf.of_below HB.out).trans (kf2.trans kf3)⟩
theorem at_tell (hG : CkG g W V) (hE : ∀ v : Int, hasB E v = true ↔ Nul g.rules v) (k : Int) (hF : FoS w fb cb tb rb g W V E vR vW vg room) :
    Calls Try.prog 42 #[.pointer (some ⟨fb, 0, none⟩), .int .i64 k] w (TellR fb tb rb (atP g W V k) (atFl g W V k) w) := by
  unfold atFl
  by_cases h : 4611686018427387904 ≤ nAll g W V
  · rw [if_pos h]
    exact (at_many hG hE k h hF).mono fun e w' he => TellR_no (by decide) he
  · rw [if_neg h]
    by_cases hk : k < 0 ∨ (nAll g W V : Int) ≤ k
    · rw [if_pos hk]
      exact (at_out hG hE k (by omega) hk hF).mono fun e w' he => TellR_no (by decide) he
    · rw [if_neg hk]
      obtain ⟨n, rfl⟩ : ∃ n : Nat, k = n := ⟨k.toNat, by omega⟩
      have hn : n < (Trs g.rules W V g.start 0 W.length).length := by rw [all_len hG]; omega
      have hg : (Trs g.rules W V g.start 0 W.length).getD (n : Int).toNat ⟨0, .nil⟩ = (Trs g.rules W V g.start 0 W.length)[n] := by
        rw [Int.toNat_natCast, List.getD_eq_getElem?_getD, List.getElem?_eq_getElem hn]; rfl
      unfold atP
      rw [hg]
      refine (at_in hG hE n _ (by omega) (by omega) (List.getElem?_eq_getElem hn) hF).mono fun e w' he => ?_
      unfold OutT at he
      by_cases ho : (Trs g.rules W V g.start 0 W.length)[n].sz ≤ 400
      · rw [if_pos ho] at he ⊢
        obtain ⟨v, rfl, h1, h2, h3⟩ := he
        exact TellR_yes h2 h1 h3
      · rw [if_neg ho] at he ⊢
        exact TellR_no (by decide) he
/-- The rank: its fault. -/
def rkFl (g : Gm) (W : List Int) (V : Nat) : Int := if 4611686018427387904 ≤ nAll g W V then 6 else 0
def rkP (g : Gm) (W : List Int) (V : Nat) (t : Tr) (_u : World) (v : Value) (_w' : World) : Prop := ∃ n : Nat, v = .int .i64 n ∧ (Trs g.rules W V g.start 0 W.length)[n]? = some t
set_option maxRecDepth 100000 in
set_option maxHeartbeats 1000000 in
theorem rank_tell (hG : CkG g W V) (hE : ∀ v : Int, hasB E v = true ↔ Nul g.rules v) (t : Tr) (vt : Value) (ht : TrV w All vt t) (hex : ∃ n : Nat, (Trs g.rules W V g.start 0 W.length)[n]? = some t) (hF : FoS w fb cb tb rb g W V E vR vW vg room) :
    Calls Try.prog 47 #[.pointer (some ⟨fb, 0, none⟩), vt] w (TellR fb tb rb (rkP g W V t) (rkFl g W V) w) := by
  obtain ⟨u0, rfl, hx⟩ := ht
  obtain ⟨ao, cap, rfl, hcp⟩ := hx.slice
  obtain ⟨Y, hY⟩ : ∃ Y, Y = w.alloc (.cells #[.int .i64 t.rule, .slice ao t.kids.len cap] 44) := ⟨_, rfl⟩
  have hb : Below w.heap.size w Y := by rw [hY]; exact al1 _ _
  have y0 : Y.cell? ⟨w.heap.size, 0, none⟩ = some (.int .i64 t.rule) := by rw [hY]; exact al_c0 rfl
  have y1 : Y.cell? ⟨w.heap.size, 1, none⟩ = some (.slice ao t.kids.len cap) := by rw [hY]; exact al_c1 rfl
  obtain ⟨l1, l2, l3⟩ := hF.lt
  have FY := hF.lw hb
  unfold rkFl
  by_cases h : 4611686018427387904 ≤ nAll g W V
  · rw [if_pos h]
    have AM := atMost_no hG hE (most := 4611686018427387903) (by rw [cM_full.2 h]; omega) FY
    clear hF h FY
    go_enter Try.func47, Try.ntmps47
    go_wp2_with fail
    rw [← hY]
    refine AM.mono ?_
    rintro e w2 ⟨rfl, h1, h2, h3⟩
    have HY := hd hY
    clear hY
    go_wp2_with fail
    exact ⟨rfl, TellR_no (by decide) ⟨rfl, h1, h2, (Kf.of_below hb).trans h3⟩⟩
  · rw [if_neg h]
    have hst := hG.rg.st
    obtain ⟨s, hs⟩ : ∃ s : Nat, g.start = s := ⟨g.start.toNat, by omega⟩
    have hMs : nN g.rules W V s 0 W.length < 4611686018427387904 := by have : nAll g W V < 4611686018427387904 := by omega
                                                                       unfold nAll at this; rwa [show g.start.toNat = s by omega] at this
    have AM := atMost_yes hG hE (most := 4611686018427387903) (by rw [cM_lt (by omega)]; omega) FY
    generalize cM (nAll g W V) = c at *
    rw [hs] at hex
    have NA := fun u v (hu : ChS u cb tb rb g W V E vR vW) (hp : FoP u fb cb g W.length vg) (hv : TrV u All v t) => number_any hG hE t s 0 W.length v u (by omega) (Nat.zero_le _) (Nat.le_refl _) hex hMs hu hp hv
    have hP : ∀ n : Nat, (Trs g.rules W V (s : Int) 0 W.length)[n]? = some t → rkP g W V t w (.int .i64 n) w := fun n hn => ⟨n, rfl, by rw [hs]; exact hn⟩
    have HP := hd hP
    clear hF h hP hex hMs hst hs
    go_enter Try.func47, Try.ntmps47
    go_wp2_with fail
    rw [← hY]
    refine AM.mono ?_
    rintro e w2 ⟨rfl, F2, kt2⟩
    have kf2 := Kf.of_kt (f := fb) kt2
    have HY := hd hY
    have zY := lt_of_cell y0
    have x0 := FY.ch.keep kt2 y0
    have x1 := FY.ch.keep kt2 y1
    have bD := drw1 w2
    have FD := F2.lw bD
    have kD := kf2.trans (Kf.of_below bD)
    have hxD : TfV w2.drew All (.slice ao t.kids.len cap) t.kids := ((hx.lw hb).mono (FY.ch.keepA kt2)).lw bD
    have eP : w2.drew.cell? ⟨fb, 5, none⟩ = some (.int .i64 W.length) ∧ w2.drew.cell? ⟨w.heap.size, 0, none⟩ = some (.int .i64 t.rule) ∧ w2.drew.cell? ⟨w.heap.size, 1, none⟩ = some (.slice ao t.kids.len cap) := ⟨FD.fp.l, x0, x1⟩
    clear hY AM FY
    go_wp2_with fail
    refine wp_region_noPanic ?_
    refine wp_region_held_drew (S := fun w' => w'.cell? ⟨fb, 5, none⟩ = some (.int .i64 W.length) ∧ w'.cell? ⟨w.heap.size, 0, none⟩ = some (.int .i64 t.rule) ∧ w'.cell? ⟨w.heap.size, 1, none⟩ = some (.slice ao t.kids.len cap)) (by kernel_rfl) eP ?_
    intro hSw
    obtain ⟨y0, hy0⟩ : ∃ y0, y0 = w2.drew := ⟨_, rfl⟩
    rw [← hy0] at hSw FD kD hxD ⊢
    clear hy0
    refine wpAnyH_take (i := 0) (v := ?v1) rfl (by kernel_rfl) (by kernel_rfl) (by kernel_rfl) (fun _ _ _ h => np_panic h) (Or.inl ⟨by rfl, ?hy1⟩) (by assumption) ?_
    case hy1 => (intro w' hS'; (try dsimp only at hS'); go_simp; try with_reducible rfl)
    simp only [Act.put, List.setIfInBounds_toArray, List.set_cons_zero, List.set_cons_succ, List.getElem_toArray, List.getElem_cons_zero]
    refine wpAnyH_take (i := 1) (v := ?v2) rfl (by kernel_rfl) (by kernel_rfl) (by kernel_rfl) (fun _ _ _ h => np_panic h) (Or.inl ⟨by rfl, ?hy2⟩) (by assumption) ?_
    case hy2 => (intro w' hS'; (try dsimp only at hS'); go_simp; try with_reducible rfl)
    simp only [Act.put, List.setIfInBounds_toArray, List.set_cons_zero, List.set_cons_succ, List.getElem_toArray, List.getElem_cons_succ, List.getElem_cons_zero]
    refine wpAnyH_take (i := 2) (v := ?v3) rfl (by kernel_rfl) (by kernel_rfl) (by kernel_rfl) (fun _ _ _ h => np_panic h) (Or.inl ⟨by rfl, ?hy3⟩) (by assumption) ?_
    case hy3 => (intro w' hS'; (try dsimp only at hS'); go_simp; try with_reducible rfl)
    simp only [Act.put, List.setIfInBounds_toArray, List.set_cons_zero, List.set_cons_succ, List.getElem_toArray, List.getElem_cons_succ, List.getElem_cons_zero]
    refine wpAnyH_take (i := 3) (v := ?v4) rfl (by kernel_rfl) (by kernel_rfl) (by kernel_rfl) (fun _ _ _ h => np_panic h) (Or.inl ⟨by rfl, ?hy4⟩) (by assumption) ?_
    case hy4 => (intro w' hS'; (try dsimp only at hS'); go_simp; try with_reducible rfl)
    simp only [Act.put, List.setIfInBounds_toArray, List.set_cons_zero, List.set_cons_succ, List.getElem_toArray, List.getElem_cons_succ, List.getElem_cons_zero]
    refine wpAnyH_take (i := 4) (v := ?v5) rfl (by kernel_rfl) (by kernel_rfl) (by kernel_rfl) (fun _ _ _ h => np_panic h) (Or.inl ⟨by rfl, ?hy5⟩) (by assumption) ?_
    case hy5 => (intro w' hS'; (try dsimp only at hS'); go_simp; try with_reducible rfl)
    simp only [Act.put, List.setIfInBounds_toArray, List.set_cons_zero, List.set_cons_succ, List.getElem_toArray, List.getElem_cons_succ, List.getElem_cons_zero]
    refine wpAnyH_take (i := 5) (v := ?v6) rfl (by kernel_rfl) (by kernel_rfl) (by kernel_rfl) (fun _ _ _ h => np_panic h) (Or.inl ⟨by rfl, ?hy6⟩) (by assumption) ?_
    case hy6 => (intro w' hS'; (try dsimp only at hS'); go_simp; try with_reducible rfl)
    simp only [Act.put, List.setIfInBounds_toArray, List.set_cons_zero, List.set_cons_succ, List.getElem_toArray, List.getElem_cons_succ, List.getElem_cons_zero]
    refine wpAnyH_ready (rs := [6]) (by kernel_rfl) (by simp) ?_
    refine AllReadyH.cons rfl (fun K hK => ?_) AllReadyH.nil
    go_simp
    go_at_call 69
    refine (NA _ _ FD.ch FD.fp (TrV_mk hxD)).mono ?_
    rintro e w3 ⟨n, rfl, hn, hs3, kt3⟩
    have e3 : w3.cell? ⟨fb, 5, none⟩ = some (.int .i64 W.length) ∧ w3.cell? ⟨w.heap.size, 0, none⟩ = some (.int .i64 t.rule) ∧ w3.cell? ⟨w.heap.size, 1, none⟩ = some (.slice ao t.kids.len cap) := ⟨FD.ch.keep kt3 hSw.1, FD.ch.keep kt3 hSw.2.1, FD.ch.keep kt3 hSw.2.2⟩
    refine hK.out _ _ e3 ?_
    clear hK K
    intro hSw
    try simp only [Act.put, List.setIfInBounds_toArray, List.set_cons_zero, List.set_cons_succ, List.getElem_toArray, List.getElem_cons_succ, List.getElem_cons_zero]
    refine wpAnyH_take (i := 7) (v := ?v7) rfl (by kernel_rfl) (by kernel_rfl) (by kernel_rfl) (fun _ _ _ h => np_panic h) (Or.inl ⟨by rfl, ?hy7⟩) (by assumption) ?_
    case hy7 => (intro w' hS'; (try dsimp only at hS'); go_simp; try with_reducible rfl)
    simp only [Act.put, List.setIfInBounds_toArray, List.set_cons_zero, List.set_cons_succ, List.getElem_toArray, List.getElem_cons_succ, List.getElem_cons_zero]
    refine wpAnyH_done (by kernel_rfl) (NoPanic.normal ?_) _
    go_wp2_with fail
    go_ret
    exact TellR_yes (FD.kt hs3 kt3) (HP.out n hn) ((Kf.of_below hb).trans (kD.trans (Kf.of_kt kt3)))
end
end Go.Proofs.Ytlhdppkllmnmkae.G
