/- A forest's own: at most so many, a whole tree, the list, the k-th, the rank. -/
import Derived.Test.YtlhdppkllmnmkaeL15
namespace Go.Proofs.Ytlhdppkllmnmkae.G
open Go.RowKit Go.Maps
section
variable {fb cb tb rb : Nat} {g : Gm} {W : List Int} {V : Nat} {E : BitVec 64} {vR vW vg : Value} {room : Nat} {w : World}
/-- How many trees the word has. -/
def nAll (g : Gm) (W : List Int) (V : Nat) : Nat := nN g.rules W V g.start.toNat 0 W.length
theorem ofZ_all (hG : CkG g W V) : ofZ g W V g.start 0 (W.length : Nat) = cM (nAll g W V) := by
  have h := hG.rg.st
  have := ofZ_nat (g := g) (W := W) (V := V) (v := g.start.toNat) (i := 0) (j := W.length) (by omega) (Nat.zero_le _) (Nat.le_refl _)
  rw [Int.toNat_of_nonneg h.1] at this
  exact this
set_option maxRecDepth 100000 in
set_option maxHeartbeats 1000000 in
theorem atMost_no (hG : CkG g W V) (hE : ∀ v : Int, hasB E v = true ↔ Nul g.rules v) {most : Int} (h : most < cM (nAll g W V)) (hF : FoS w fb cb tb rb g W V E vR vW vg room) :
    Calls Try.prog 63 #[.pointer (some ⟨fb, 0, none⟩), .int .i64 most] w (FPan tb rb fb 6 w) := by
  have CA := Count_any hG hE w hF.ch
  rw [ofZ_all hG] at CA
  have p0 := hF.fp.p
  generalize cM (nAll g W V) = n at *
  go_enter Try.func63, Try.ntmps63
  go_wp2_with fail
  refine CA.mono ?_
  rintro e w1 ⟨rfl, hs1, kt1⟩
  have GA := fgive_any 6 (hF.kt hs1 kt1)
  go_wp2_with fail
  refine GA.mono ?_
  rintro e w2 ⟨rfl, h1, h2, h3⟩
  go_wp2_with fail
  exact ⟨rfl, rfl, h1, h2, (Kf.of_kt kt1).trans h3⟩
set_option maxRecDepth 100000 in
set_option maxHeartbeats 1000000 in
theorem atMost_yes (hG : CkG g W V) (hE : ∀ v : Int, hasB E v = true ↔ Nul g.rules v) {most : Int} (h : ¬ most < cM (nAll g W V)) (hF : FoS w fb cb tb rb g W V E vR vW vg room) :
    Calls Try.prog 63 #[.pointer (some ⟨fb, 0, none⟩), .int .i64 most] w fun e w' => e = .returned (.int .i64 (cM (nAll g W V))) ∧ FoS w' fb cb tb rb g W V E vR vW vg room ∧ Kt tb rb w w' := by
  have CA := Count_any hG hE w hF.ch
  rw [ofZ_all hG] at CA
  have p0 := hF.fp.p
  generalize cM (nAll g W V) = n at *
  go_enter Try.func63, Try.ntmps63
  go_wp2_with fail
  refine CA.mono ?_
  rintro e w1 ⟨rfl, hs1, kt1⟩
  go_wp2_with fail
  go_ret
  exact ⟨rfl, hF.kt hs1 kt1, kt1⟩
set_option maxRecDepth 100000 in
set_option maxHeartbeats 1000000 in
theorem whole_any (hG : CkG g W V) (hE : ∀ v : Int, hasB E v = true ↔ Nul g.rules v) {n : Nat} {t : Tr} (ht : (Trs g.rules W V g.start 0 W.length)[n]? = some t) (hM : nAll g W V < 4611686018427387904) (hF : FoS w fb cb tb rb g W V E vR vW vg room) :
    Calls Try.prog 65 #[.pointer (some ⟨fb, 0, none⟩), .int .i64 n] w (OutT fb cb tb rb g W V E vR vW vg t 400 w) := by
  have hst := hG.rg.st
  obtain ⟨s, hs⟩ : ∃ s : Nat, g.start = s := ⟨g.start.toNat, by omega⟩
  have hMs : nN g.rules W V s 0 W.length < 4611686018427387904 := by unfold nAll at hM; rwa [show g.start.toNat = s by omega] at hM
  have r6 := hF.rm
  have fz6 := hF.fz 6
  have HF0 := hd hF
  obtain ⟨l1, l2, l3⟩ := hF.lt
  obtain ⟨Y, hY⟩ : ∃ Y, Y = (w.setCell ⟨fb, 6, none⟩ (.int .i64 400)).alloc (.cells #[.int .i64 0, .slice none 0 0] 44) := ⟨_, rfl⟩
  have FY : FoS Y fb cb tb rb g W V E vR vW vg 400 := by rw [hY]; exact (hF.setRoom 400).lw (al1 _ _)
  have kY : Kf tb rb fb w Y := by rw [hY]; exact ((Kf.refl tb rb fb w).setF _).alloc _
  have hsz0 : (w.setCell ⟨fb, 6, none⟩ (.int .i64 400)).heap.size = w.heap.size := by simp [World.setCell]
  have y0 : Y.cell? ⟨w.heap.size, 0, none⟩ = some (.int .i64 0) := by rw [hY]; exact al_c0 hsz0
  have y1 : Y.cell? ⟨w.heap.size, 1, none⟩ = some (.slice none 0 0) := by rw [hY]; exact al_c1 hsz0
  have yf : ∀ i, Y.frozen? ⟨w.heap.size, i, none⟩ = false := fun i => by rw [hY]; exact al_fz hsz0 i
  clear hsz0
  have zY := lt_of_cell y0
  have bD := drw1 Y
  have FD := FY.lw bD
  have kD : Kf tb rb fb w Y.drew := kY.trans (Kf.of_below bD)
  rw [hs] at ht
  have TA := trR_all hG hE 400 (by omega) s 0 W.length n t Y.drew (by omega) (Nat.zero_le _) (Nat.le_refl _) ht hMs FD
  have q0 : Y.drew.cell? ⟨w.heap.size, 0, none⟩ = _ := y0
  have q1 : Y.drew.cell? ⟨w.heap.size, 1, none⟩ = _ := y1
  have qf : ∀ i, Y.drew.frozen? ⟨w.heap.size, i, none⟩ = false := yf
  have e3 : Y.drew.cell? ⟨fb, 3, none⟩ = some (.int .i64 s) := by rw [← hs]; exact FD.fp.s
  have e5 : Y.drew.cell? ⟨fb, 5, none⟩ = some (.int .i64 W.length) := FD.fp.l
  have HS := hd hs
  have eP : Y.drew.cell? ⟨fb, 3, none⟩ = some (.int .i64 s) ∧ Y.drew.cell? ⟨fb, 5, none⟩ = some (.int .i64 W.length) := ⟨e3, e5⟩
  clear hF FY ht hMs hM hs hst y0 y1 yf e3 e5
  unfold OutT at TA
  by_cases hsz : t.sz ≤ 400
  · simp only [if_pos hsz] at TA
    go_enter Try.func65, Try.ntmps65
    go_wp2_with fail
    rw [← hY]
    have HY := hd hY
    clear hY
    refine wp_region_held_drew (S := fun w' => w'.cell? ⟨fb, 3, none⟩ = some (.int .i64 s) ∧ w'.cell? ⟨fb, 5, none⟩ = some (.int .i64 W.length)) (by kernel_rfl) eP ?_
    intro hSw
    obtain ⟨y0, hy0⟩ : ∃ y0, y0 = Y.drew := ⟨_, rfl⟩
    rw [← hy0] at hSw TA kD q0 q1 qf bD FD ⊢
    clear hy0
    refine wpAnyH_take (i := 0) (v := ?v1) rfl (by kernel_rfl) (by kernel_rfl) (by kernel_rfl) (fun _ _ _ h => h) (Or.inl ⟨by rfl, ?hy1⟩) (by assumption) ?_
    case hy1 => (intro w' hS'; (try dsimp only at hS'); go_simp; try with_reducible rfl)
    simp only [Act.put, List.setIfInBounds_toArray, List.set_cons_zero, List.set_cons_succ, List.getElem_toArray, List.getElem_cons_zero]
    refine wpAnyH_take (i := 1) (v := ?v2) rfl (by kernel_rfl) (by kernel_rfl) (by kernel_rfl) (fun _ _ _ h => h) (Or.inl ⟨by rfl, ?hy2⟩) (by assumption) ?_
    case hy2 => (intro w' hS'; (try dsimp only at hS'); go_simp; try with_reducible rfl)
    simp only [Act.put, List.setIfInBounds_toArray, List.set_cons_zero, List.set_cons_succ, List.getElem_toArray, List.getElem_cons_succ, List.getElem_cons_zero]
    refine wpAnyH_take (i := 2) (v := ?v3) rfl (by kernel_rfl) (by kernel_rfl) (by kernel_rfl) (fun _ _ _ h => h) (Or.inl ⟨by rfl, ?hy3⟩) (by assumption) ?_
    case hy3 => (intro w' hS'; (try dsimp only at hS'); go_simp; try with_reducible rfl)
    simp only [Act.put, List.setIfInBounds_toArray, List.set_cons_zero, List.set_cons_succ, List.getElem_toArray, List.getElem_cons_succ, List.getElem_cons_zero]
    refine wpAnyH_take (i := 3) (v := ?v4) rfl (by kernel_rfl) (by kernel_rfl) (by kernel_rfl) (fun _ _ _ h => h) (Or.inl ⟨by rfl, ?hy4⟩) (by assumption) ?_
    case hy4 => (intro w' hS'; (try dsimp only at hS'); go_simp; try with_reducible rfl)
    simp only [Act.put, List.setIfInBounds_toArray, List.set_cons_zero, List.set_cons_succ, List.getElem_toArray, List.getElem_cons_succ, List.getElem_cons_zero]
    refine wpAnyH_take (i := 4) (v := ?v5) rfl (by kernel_rfl) (by kernel_rfl) (by kernel_rfl) (fun _ _ _ h => h) (Or.inl ⟨by rfl, ?hy5⟩) (by assumption) ?_
    case hy5 => (intro w' hS'; (try dsimp only at hS'); go_simp; try with_reducible rfl)
    simp only [Act.put, List.setIfInBounds_toArray, List.set_cons_zero, List.set_cons_succ, List.getElem_toArray, List.getElem_cons_succ, List.getElem_cons_zero]
    refine wpAnyH_take (i := 5) (v := ?v6) rfl (by kernel_rfl) (by kernel_rfl) (by kernel_rfl) (fun _ _ _ h => h) (Or.inl ⟨by rfl, ?hy6⟩) (by assumption) ?_
    case hy6 => (intro w' hS'; (try dsimp only at hS'); go_simp; try with_reducible rfl)
    simp only [Act.put, List.setIfInBounds_toArray, List.set_cons_zero, List.set_cons_succ, List.getElem_toArray, List.getElem_cons_succ, List.getElem_cons_zero]
    refine wpAnyH_take (i := 6) (v := ?v7) rfl (by kernel_rfl) (by kernel_rfl) (by kernel_rfl) (fun _ _ _ h => h) (Or.inl ⟨by rfl, ?hy7⟩) (by assumption) ?_
    case hy7 => (intro w' hS'; (try dsimp only at hS'); go_simp; try with_reducible rfl)
    simp only [Act.put, List.setIfInBounds_toArray, List.set_cons_zero, List.set_cons_succ, List.getElem_toArray, List.getElem_cons_succ, List.getElem_cons_zero]
    refine wpAnyH_take (i := 7) (v := ?v8) rfl (by kernel_rfl) (by kernel_rfl) (by kernel_rfl) (fun _ _ _ h => h) (Or.inl ⟨by rfl, ?hy8⟩) (by assumption) ?_
    case hy8 => (intro w' hS'; (try dsimp only at hS'); go_simp; try with_reducible rfl)
    simp only [Act.put, List.setIfInBounds_toArray, List.set_cons_zero, List.set_cons_succ, List.getElem_toArray, List.getElem_cons_succ, List.getElem_cons_zero]
    refine wpAnyH_take (i := 8) (v := ?v9) rfl (by kernel_rfl) (by kernel_rfl) (by kernel_rfl) (fun _ _ _ h => h) (Or.inl ⟨by rfl, ?hy9⟩) (by assumption) ?_
    case hy9 => (intro w' hS'; (try dsimp only at hS'); go_simp; try with_reducible rfl)
    simp only [Act.put, List.setIfInBounds_toArray, List.set_cons_zero, List.set_cons_succ, List.getElem_toArray, List.getElem_cons_succ, List.getElem_cons_zero]
    refine wpAnyH_take (i := 9) (v := ?v10) rfl (by kernel_rfl) (by kernel_rfl) (by kernel_rfl) (fun _ _ _ h => h) (Or.inl ⟨by rfl, ?hy10⟩) (by assumption) ?_
    case hy10 => (intro w' hS'; (try dsimp only at hS'); go_simp; try with_reducible rfl)
    simp only [Act.put, List.setIfInBounds_toArray, List.set_cons_zero, List.set_cons_succ, List.getElem_toArray, List.getElem_cons_succ, List.getElem_cons_zero]
    refine wpAnyH_take (i := 10) (v := ?v11) rfl (by kernel_rfl) (by kernel_rfl) (by kernel_rfl) (fun _ _ _ h => h) (Or.inl ⟨by rfl, ?hy11⟩) (by assumption) ?_
    case hy11 => (intro w' hS'; (try dsimp only at hS'); go_simp; try with_reducible rfl)
    simp only [Act.put, List.setIfInBounds_toArray, List.set_cons_zero, List.set_cons_succ, List.getElem_toArray, List.getElem_cons_succ, List.getElem_cons_zero]
    refine wpAnyH_ready (rs := [11]) (by kernel_rfl) (by simp) ?_
    refine AllReadyH.cons rfl (fun K hK => ?_) AllReadyH.nil
    go_simp
    go_at_call 78
    refine TA.mono ?_
    rintro e w2 ⟨v2, rfl, ⟨u2, rfl, hu2⟩, F2, kf2⟩
    obtain ⟨a2, c2, rfl, _⟩ := id hu2.slice
    have x0 := kf2.cell q0 (by omega) (by omega) (by omega)
    have x1 := kf2.cell q1 (by omega) (by omega) (by omega)
    have zD := bD.size
    have xf : ∀ i, w2.frozen? ⟨w.heap.size, i, none⟩ = false := fun i => (World.frozen?_of_block (a := ⟨w.heap.size, i, none⟩) (kf2.block w.heap.size (by omega) (by omega) (by omega) (by omega))).trans (qf i)
    have z2 : w.heap.size < w2.heap.size := lt_of_cell x0
    obtain ⟨Z, hZ⟩ : ∃ Z, Z = (w2.setCell ⟨w.heap.size, 0, none⟩ (.int .i64 t.rule)).setCell ⟨w.heap.size, 1, none⟩ (.slice a2 t.kids.len c2) := ⟨_, rfl⟩
    have kf4 : Kf tb rb fb w Z := by rw [hZ]; exact ((kD.trans kf2).setCell (x := ⟨w.heap.size, 0, none⟩) (Nat.le_refl _) _).setCell (x := ⟨w.heap.size, 1, none⟩) (Nat.le_refl _) _
    have F4 : FoS Z fb cb tb rb g W V E vR vW vg (400 - t.sz) := FoS.ahead HF0.out kf4 F2 (by rw [hZ]; exact (setc_ne (by omega)).trans (setc_ne (by omega))) (by rw [hZ]; exact (setc_ne (by omega)).trans (setc_ne (by omega))) (by rw [hZ]; exact (setc_ne (by omega)).trans (setc_ne (by omega)))
    have zy0 := lt_of_cell q0
    have hfv : TfV Z (fun k => w.heap.size ≤ k) (.slice a2 t.kids.len c2) t.kids := by rw [hZ]; exact hu2.kp (((Kp.refl _ w2).setCell (.inl (by show ¬ (_ ≤ w.heap.size); omega)) _).setCell (.inl (by show ¬ (_ ≤ w.heap.size); omega)) _) (fun q _ h => by have := h; omega)
    have e2 : w2.cell? ⟨fb, 3, none⟩ = some (.int .i64 s) ∧ w2.cell? ⟨fb, 5, none⟩ = some (.int .i64 W.length) := ⟨by rw [← HS.out]; exact F2.fp.s, F2.fp.l⟩
    have e4 : Z.cell? ⟨fb, 3, none⟩ = some (.int .i64 s) ∧ Z.cell? ⟨fb, 5, none⟩ = some (.int .i64 W.length) := ⟨by rw [← HS.out]; exact F4.fp.s, F4.fp.l⟩
    refine hK.out _ _ e2 ?_
    clear hK K
    intro hSw
    try simp only [Act.put, List.setIfInBounds_toArray, List.set_cons_zero, List.set_cons_succ, List.getElem_toArray, List.getElem_cons_succ, List.getElem_cons_zero]
    refine wpAnyH_ready (rs := [12]) (by kernel_rfl) (by simp) ?_
    refine AllReadyH.cons rfl (fun K hK => ?_) AllReadyH.nil
    go_simp
    rw [← hZ]
    refine hK.out _ _ e4 ?_
    clear hK K
    intro hSw
    try simp only [Act.put, List.setIfInBounds_toArray, List.set_cons_zero, List.set_cons_succ, List.getElem_toArray, List.getElem_cons_succ, List.getElem_cons_zero]
    refine wpAnyH_done (by kernel_rfl) ?_ _
    have hZZ := hd hZ
    have z0 : Z.cell? ⟨w.heap.size, 0, none⟩ = some (.int .i64 t.rule) := by rw [hZ]; exact set_off (set_same x0) (by decide)
    have z1 : Z.cell? ⟨w.heap.size, 1, none⟩ = some (.slice a2 t.kids.len c2) := by rw [hZ]; exact set_same (set_off x1 (by decide))
    clear hZ
    go_wp2_with fail
    refine bodyPost_ret (v := .agg #[.int .i64 t.rule, .slice a2 t.kids.len c2]) (by simp [results, Try.results65, go_sem, z0, z1]) rfl ?_
    unfold OutT
    rw [if_pos hsz]
    exact ⟨_, rfl, ⟨_, rfl, hfv⟩, F4, kf4⟩
  · simp only [if_neg hsz] at TA
    go_enter Try.func65, Try.ntmps65
    go_wp2_with fail
    rw [← hY]
    have HY := hd hY
    clear hY
    refine wp_region_held_drew (S := fun w' => w'.cell? ⟨fb, 3, none⟩ = some (.int .i64 s) ∧ w'.cell? ⟨fb, 5, none⟩ = some (.int .i64 W.length)) (by kernel_rfl) eP ?_
    intro hSw
    obtain ⟨y0, hy0⟩ : ∃ y0, y0 = Y.drew := ⟨_, rfl⟩
    rw [← hy0] at hSw TA kD q0 q1 qf bD FD ⊢
    clear hy0
    refine wpAnyH_take (i := 0) (v := ?v1) rfl (by kernel_rfl) (by kernel_rfl) (by kernel_rfl) (fun _ _ _ h => h) (Or.inl ⟨by rfl, ?hy1⟩) (by assumption) ?_
    case hy1 => (intro w' hS'; (try dsimp only at hS'); go_simp; try with_reducible rfl)
    simp only [Act.put, List.setIfInBounds_toArray, List.set_cons_zero, List.set_cons_succ, List.getElem_toArray, List.getElem_cons_zero]
    refine wpAnyH_take (i := 1) (v := ?v2) rfl (by kernel_rfl) (by kernel_rfl) (by kernel_rfl) (fun _ _ _ h => h) (Or.inl ⟨by rfl, ?hy2⟩) (by assumption) ?_
    case hy2 => (intro w' hS'; (try dsimp only at hS'); go_simp; try with_reducible rfl)
    simp only [Act.put, List.setIfInBounds_toArray, List.set_cons_zero, List.set_cons_succ, List.getElem_toArray, List.getElem_cons_succ, List.getElem_cons_zero]
    refine wpAnyH_take (i := 2) (v := ?v3) rfl (by kernel_rfl) (by kernel_rfl) (by kernel_rfl) (fun _ _ _ h => h) (Or.inl ⟨by rfl, ?hy3⟩) (by assumption) ?_
    case hy3 => (intro w' hS'; (try dsimp only at hS'); go_simp; try with_reducible rfl)
    simp only [Act.put, List.setIfInBounds_toArray, List.set_cons_zero, List.set_cons_succ, List.getElem_toArray, List.getElem_cons_succ, List.getElem_cons_zero]
    refine wpAnyH_take (i := 3) (v := ?v4) rfl (by kernel_rfl) (by kernel_rfl) (by kernel_rfl) (fun _ _ _ h => h) (Or.inl ⟨by rfl, ?hy4⟩) (by assumption) ?_
    case hy4 => (intro w' hS'; (try dsimp only at hS'); go_simp; try with_reducible rfl)
    simp only [Act.put, List.setIfInBounds_toArray, List.set_cons_zero, List.set_cons_succ, List.getElem_toArray, List.getElem_cons_succ, List.getElem_cons_zero]
    refine wpAnyH_take (i := 4) (v := ?v5) rfl (by kernel_rfl) (by kernel_rfl) (by kernel_rfl) (fun _ _ _ h => h) (Or.inl ⟨by rfl, ?hy5⟩) (by assumption) ?_
    case hy5 => (intro w' hS'; (try dsimp only at hS'); go_simp; try with_reducible rfl)
    simp only [Act.put, List.setIfInBounds_toArray, List.set_cons_zero, List.set_cons_succ, List.getElem_toArray, List.getElem_cons_succ, List.getElem_cons_zero]
    refine wpAnyH_take (i := 5) (v := ?v6) rfl (by kernel_rfl) (by kernel_rfl) (by kernel_rfl) (fun _ _ _ h => h) (Or.inl ⟨by rfl, ?hy6⟩) (by assumption) ?_
    case hy6 => (intro w' hS'; (try dsimp only at hS'); go_simp; try with_reducible rfl)
    simp only [Act.put, List.setIfInBounds_toArray, List.set_cons_zero, List.set_cons_succ, List.getElem_toArray, List.getElem_cons_succ, List.getElem_cons_zero]
    refine wpAnyH_take (i := 6) (v := ?v7) rfl (by kernel_rfl) (by kernel_rfl) (by kernel_rfl) (fun _ _ _ h => h) (Or.inl ⟨by rfl, ?hy7⟩) (by assumption) ?_
    case hy7 => (intro w' hS'; (try dsimp only at hS'); go_simp; try with_reducible rfl)
    simp only [Act.put, List.setIfInBounds_toArray, List.set_cons_zero, List.set_cons_succ, List.getElem_toArray, List.getElem_cons_succ, List.getElem_cons_zero]
    refine wpAnyH_take (i := 7) (v := ?v8) rfl (by kernel_rfl) (by kernel_rfl) (by kernel_rfl) (fun _ _ _ h => h) (Or.inl ⟨by rfl, ?hy8⟩) (by assumption) ?_
    case hy8 => (intro w' hS'; (try dsimp only at hS'); go_simp; try with_reducible rfl)
    simp only [Act.put, List.setIfInBounds_toArray, List.set_cons_zero, List.set_cons_succ, List.getElem_toArray, List.getElem_cons_succ, List.getElem_cons_zero]
    refine wpAnyH_take (i := 8) (v := ?v9) rfl (by kernel_rfl) (by kernel_rfl) (by kernel_rfl) (fun _ _ _ h => h) (Or.inl ⟨by rfl, ?hy9⟩) (by assumption) ?_
    case hy9 => (intro w' hS'; (try dsimp only at hS'); go_simp; try with_reducible rfl)
    simp only [Act.put, List.setIfInBounds_toArray, List.set_cons_zero, List.set_cons_succ, List.getElem_toArray, List.getElem_cons_succ, List.getElem_cons_zero]
    refine wpAnyH_take (i := 9) (v := ?v10) rfl (by kernel_rfl) (by kernel_rfl) (by kernel_rfl) (fun _ _ _ h => h) (Or.inl ⟨by rfl, ?hy10⟩) (by assumption) ?_
    case hy10 => (intro w' hS'; (try dsimp only at hS'); go_simp; try with_reducible rfl)
    simp only [Act.put, List.setIfInBounds_toArray, List.set_cons_zero, List.set_cons_succ, List.getElem_toArray, List.getElem_cons_succ, List.getElem_cons_zero]
    refine wpAnyH_take (i := 10) (v := ?v11) rfl (by kernel_rfl) (by kernel_rfl) (by kernel_rfl) (fun _ _ _ h => h) (Or.inl ⟨by rfl, ?hy11⟩) (by assumption) ?_
    case hy11 => (intro w' hS'; (try dsimp only at hS'); go_simp; try with_reducible rfl)
    simp only [Act.put, List.setIfInBounds_toArray, List.set_cons_zero, List.set_cons_succ, List.getElem_toArray, List.getElem_cons_succ, List.getElem_cons_zero]
    refine wpAnyH_ready (rs := [11]) (by kernel_rfl) (by simp) ?_
    refine AllReadyH.cons rfl (fun K hK => ?_) AllReadyH.nil
    go_simp
    go_at_call 78
    refine TA.mono ?_
    rintro e w2 ⟨rfl, p7, p8, kf2⟩
    refine ⟨rfl, ?_⟩
    unfold OutT
    rw [if_neg hsz]
    exact ⟨rfl, p7, p8, kD.trans kf2⟩
/-- The list of so many trees. -/
def lstT : List Tr → Tf
  | [] => .nil
  | t :: ts => .cons t.rule t.kids (lstT ts)
theorem lstT_len : ∀ l : List Tr, (lstT l).len = l.length
  | [] => rfl
  | _ :: ts => by simp only [lstT, Tf.len, List.length_cons]; rw [lstT_len ts]
theorem lstT_at : ∀ (l : List Tr) (i : Nat) (h : i < l.length), (lstT l).at_ i = l[i]
  | _ :: _, 0, _ => rfl
  | _ :: ts, i + 1, h => lstT_at ts i (by simpa using h)
/-- Are they small enough to be told? -/
def okL (l : List Tr) : Prop := ∀ t ∈ l, t.sz ≤ 400
instance (l : List Tr) : Decidable (okL l) := inferInstanceAs (Decidable (∀ t ∈ l, t.sz ≤ 400))
/-- How a list comes. -/
def FlsR (fb cb tb rb : Nat) (g : Gm) (W : List Int) (V : Nat) (E : BitVec 64) (vR vW vg : Value) (L : List Tr) (w : World) (e : Ending) (w' : World) : Prop :=
  if okL L then (∃ v room', e = .returned v ∧ TfV w' (fun k => w.heap.size ≤ k) v (lstT L) ∧ FoS w' fb cb tb rb g W V E vR vW vg room' ∧ Kf tb rb fb w w') else FPan tb rb fb 6 w e w'
set_option maxRecDepth 100000 in
set_option maxHeartbeats 1000000 in
theorem list_many (hG : CkG g W V) (hE : ∀ v : Int, hasB E v = true ↔ Nul g.rules v) (h : 200 < nAll g W V) (hF : FoS w fb cb tb rb g W V E vR vW vg room) :
    Calls Try.prog 50 #[.pointer (some ⟨fb, 0, none⟩)] w (FPan tb rb fb 6 w) := by
  have AM := atMost_no hG hE (most := 200) ((cM_gt (n := 200) (by omega)).2 h) hF
  go_enter Try.func50, Try.ntmps50
  go_wp2_with fail
  refine AM.mono ?_
  rintro e w2 ⟨rfl, h1, h2, h3⟩
  go_wp2_with fail
  exact ⟨rfl, rfl, h1, h2, h3⟩
set_option maxRecDepth 100000 in
set_option maxHeartbeats 1000000 in
theorem list_few (hG : CkG g W V) (hE : ∀ v : Int, hasB E v = true ↔ Nul g.rules v) (h : ¬ 200 < nAll g W V) (hF : FoS w fb cb tb rb g W V E vR vW vg room) :
    Calls Try.prog 50 #[.pointer (some ⟨fb, 0, none⟩)] w (FlsR fb cb tb rb g W V E vR vW vg (Trs g.rules W V g.start 0 W.length) w) := by
  obtain ⟨i0, hi, iz0, iz1, iz2⟩ := info_parts Try.infoTree
  have hlen : (Trs g.rules W V g.start 0 W.length).length = nAll g W V := by
    have := nN_len (R := g.rules) (W := W) (V := V) g.start.toNat 0 W.length
    rw [Int.toNat_of_nonneg hG.rg.st.1] at this
    exact this.symm
  have AM := atMost_yes hG hE (most := 200) (fun hh => h ((cM_gt (n := 200) (by omega)).1 hh)) hF
  rw [cM_lt (show nAll g W V < 4611686018427387904 by omega)] at AM
  obtain ⟨N, hN⟩ : ∃ N, N = nAll g W V := ⟨_, rfl⟩
  have WH := fun n (t : Tr) (ht : (Trs g.rules W V g.start 0 W.length)[n]? = some t) u rm (hu : FoS u fb cb tb rb g W V E vR vW vg rm) => whole_any hG hE ht (by omega) hu
  obtain ⟨L, hL⟩ : ∃ L, L = Trs g.rules W V g.start 0 W.length := ⟨_, rfl⟩
  rw [← hL] at hlen WH ⊢
  rw [← hN] at AM hlen h
  obtain ⟨l1, l2, l3⟩ := hF.lt
  clear hL hN
  go_enter Try.func50, Try.ntmps50
  go_wp2_with fail
  refine AM.mono ?_
  rintro e w1 ⟨rfl, F1, kt1⟩
  have kf1 : Kf tb rb fb w w1 := Kf.of_kt kt1
  go_wp2_with fail
  go_loopw [3, 7] (fun vv kk wr => ∃ (k rm : Nat) (acc : Tf) (xs : List Value) (v : Value), v = vv ∧ k ≤ N ∧ kk = .int .i64 k ∧ acc.len = k ∧ Hid (∀ q (hq : q < L.length), q < k → acc.at_ q = L[q] ∧ L[q].sz ≤ 400) ∧ wr.ownsRow w.heap.size 44 2 v acc.len xs ∧ TC wr (fun q => w.heap.size ≤ q ∧ v.ownBlock ≠ some q) xs acc ∧ FoS wr fb cb tb rb g W V E vR vW vg rm ∧ Kf tb rb fb w wr) (fun _ kk _ => N - (intOf kk).toNat)
  case atStart => exact ⟨0, room, .nil, [], _, rfl, Nat.zero_le _, rfl, rfl, hd (fun _ _ h => absurd h (Nat.not_lt_zero _)), World.ownsRow_nil _ _ _ _, trivial, F1, kf1⟩
  case round =>
    obtain ⟨k, rm, acc, xs, v, rfl, hk, rfl, hal, hac, hown, hfc, hFr, hkf⟩ := hrel
    have hz := hkf.size
    by_cases hlt : k < N
    · have hkL : k < L.length := by omega
      have WA := WH k L[k] (List.getElem?_eq_getElem hkL) wr rm hFr
      have HKL := hd hkL
      have hvl : ∀ q, v.ownBlock = some q → w.heap.size ≤ q ∧ q < wr.heap.size := fun q e => hown.lt q e
      obtain ⟨aov, capv, rfl⟩ := owns_slice hown
      by_cases hsz : L[k].sz ≤ 400
      · have hac' : Hid (∀ q (hq : q < L.length), q < k + 1 → (acc.snoc L[k]).at_ q = L[q] ∧ L[q].sz ≤ 400) := hd (fun q hq hqk => by
          by_cases e : q = k
          · subst e
            refine ⟨?_, hsz⟩
            have := Tf.snoc_last acc L[q]
            rwa [hal] at this
          · rw [Tf.snoc_at _ _ _ (by omega)]; exact hac.out q hq (by omega))
        clear hac WH
        generalize L[k] = t at *
        rw [hal] at hown hvl
        have HAL := hd hal
        clear hal
        go_wp2_with fail
        rw [HAL.out]
        refine WA.mono ?_
        intro e w4 hO
        unfold OutT at hO
        rw [if_pos hsz] at hO
        obtain ⟨_, rfl, ⟨u2, rfl, hu2⟩, F4, kf4⟩ := hO
        have hown4 := owns_kf hown kf4 l2 l3 l1
        have z4 := kf4.size
        obtain ⟨ao2, cap2, rfl, _⟩ := id hu2.slice
        go_wp2_with (first | (at_builtin; go_must (refine wpList_append_own_at _ rfl _ _ 42 rfl w.heap.size 44 i0 (.agg #[.int .i64 0, .slice none 0 0]) 2 32 Try.underlying42 hi iz0 iz1 iz2 rfl (by decide) _ _ _ rfl (hown4.alloc _) ⟨w4.heap.size, 0, none⟩ 1 1 [.int .i64 t.rule, .slice ao2 t.kids.len cap2] rfl rfl (cell2_new _ _ _ _ (by simp)) (oneRule _ _ _ _) (by unfold maxLen; omega) (by omega) (by simp; omega) ?_)))
        intro v1 W1 own1 grow1 _ hat
        rw [HAL.out] at hfc
        have fc1 : TC W1 (fun q => w.heap.size ≤ q ∧ v1.ownBlock ≠ some q) (xs ++ [.int .i64 t.rule, .slice ao2 t.kids.len cap2]) (acc.snoc t) := by
          refine TC_step (w1 := w4) (g := w4.heap.size + 1) (x := t) hfc (hu2.mono (keep_all (Below.refl _ _) fun q hq => hq)) (by omega) (by omega) ?_ ?_ (fun q e => (hvl q e).2) (by omega) (by simpa using hat)
          · have kk1 : Kp (fun q => w.heap.size ≤ q ∧ (Value.slice aov k capv).ownBlock ≠ some q) wr w4 := ⟨kf4.size, fun q hq hs => kf4.block q hq (by omega) (by omega) (by omega)⟩
            exact (kk1.alloc _).grown grow1 (fun q e => .inl fun hs => hs.2 e)
          · exact ((Kp.refl _ w4).alloc _).grown grow1 (fun q e => .inl fun hs => by have := (hvl q e).2; omega)
        have kf5 : Kf tb rb fb w W1 := ((hkf.trans kf4).alloc _).grown grow1 (fun q e => (hvl q e).1)
        have F5 : FoS W1 fb cb tb rb g W V E vR vW vg (400 - t.sz) := hF.grown kf5 (F4.lw (al1 w4 _)) grow1 (fun q e => (hvl q e).1)
        clear hown hown4 hfc
        go_wp2_with fail
        go_roundw
        case rel => exact ⟨k + 1, 400 - t.sz, acc.snoc t, _, _, rfl, by omega, by go_num, by rw [Tf.len_snoc, HAL.out], hac', by rw [Tf.len_snoc, HAL.out]; exact own1, fc1, F5, kf5⟩
        case measure => simp [intOf]; omega
      · have hno : Hid (¬ okL L) := hd (fun hh => hsz (hh _ (List.getElem_mem hkL)))
        clear hac WH
        generalize L[k] = t at *
        go_wp2_with fail
        refine WA.mono ?_
        intro e w2 hO
        unfold OutT at hO
        rw [if_neg hsz] at hO
        obtain ⟨rfl, h1, h2, h3⟩ := hO
        go_wp2_with fail
        refine ⟨rfl, ?_⟩
        unfold FlsR
        rw [if_neg hno.out]
        exact ⟨rfl, h1, h2, hkf.trans h3⟩
    · have hkN : k = N := by omega
      have hacc : acc = lstT L := Tf.ext_at _ _ (by rw [lstT_len]; omega) (fun q hq => by
        have hqL : q < L.length := by omega
        rw [lstT_at L q hqL]; exact (hac.out q hqL (by omega)).1)
      have hok : Hid (okL L) := hd (fun t ht => by
        obtain ⟨q, hq, rfl⟩ := List.mem_iff_getElem.1 ht
        exact (hac.out q hq (by omega)).2)
      have hfv := TfV_owned (T := fun q => w.heap.size ≤ q) hown hfc (fun _ h => h.1) (fun q h => (hown.lt q h).1) (by omega)
      rw [hacc] at hfv
      obtain ⟨aov, capv, rfl⟩ := owns_slice hown
      have HFV := hd hfv
      have HKN := hd hkN
      clear hown hfc hac hfv hacc hkN
      go_wp2_with fail
      go_ret
      unfold FlsR
      rw [if_pos hok.out]
      exact ⟨_, rm, rfl, HFV.out, hFr, hkf⟩
end
end Go.Proofs.Ytlhdppkllmnmkae.G
