/- Proved: for every text and number DefsTurns returns true (definitions turned round are right just if they were, and have the same terminals; what may not be printed has render's fault), and the text reads as before. No condition. -/
import Derived.Test.YtdikjhfnmkejcabTn
import Derived.Test.YtdikjhfnmkejcabOw
import Derived.Deep.RegionHeld3
import Derived.Deep.RegionHeldLaw
import Derived.Test.YtdikjhfnmkejcabRows
import Derived.ProofKit
import Derived.OpenShut
import Derived.ShutString
import Derived.ChangeOld
namespace Go.Proofs.Ytdikjhfnmkejcab.defsTurns
open Go.Proofs.Ytdikjhfnmkejcab
open Go.ChangeShapes Go.WideShapes Go.ChangeAt Go.RowKit

theorem own : ownKnob Try.prog.godebug = none := by kernel_rfl
theorem laidOut : laidOutB Try.prog = true := by kernel_rfl
theorem lw {w w' : World} {v : Value} {x : List Df} (h : DsV w All v x) (hb : Below w.heap.size w w') : DsV w' All v x := h.kp (Kp.of_below hb) (fun _ _ h => h)
set_option maxRecDepth 100000 in
set_option maxHeartbeats 16000000 in
theorem walk (ds : List Df) (ao : Option Addr) (cap : Nat) (n : Int) (w : World) (hA : DsV w All (.slice ao ds.length cap) ds) (hcap : ds.length ≤ cap) :
    Calls Try.prog 8 #[.agg #[.slice ao ds.length cap], .int .i64 n] w fun e w' => e = .returned (.bool true) ∧ Below w.heap.size w w' := by
  have GA := fun w' (hb : Below w.heap.size w w') => grt_all ds _ w' (lw hA hb)
  have hl := hA.1
  go_enter Try.func8, Try.ntmps8
  go_wp2_with fail
  refine (dbegun_any _).mono ?_
  rintro e w1 ⟨rfl, hb1⟩
  have e0 : w1.cell? ⟨w.heap.size, 0, none⟩ = some (.slice ao ds.length cap) := bkeep hb1 (by simp)
  have bel1 : Below w.heap.size w w1 := (al1 _ _).trans (hb1.mono (by simp))
  clear hb1
  go_wp2_with fail
  refine (GA _ bel1).mono ?_
  rintro e w2 ⟨q, rfl, hq, hb2⟩
  have bel2 : Below w.heap.size w w2 := bel1.trans (hb2.mono bel1.size)
  have f0 := bkeep hb2 e0
  cases q with
  | true =>
    go_wp2_with fail
    go_ret
    exact ⟨rfl, bel2⟩
  | false =>
  by_cases h0 : ds.length = 0
  · have hb0 : ((ds.length : Int) == 0) = true := by rw [h0]; rfl
    go_wp2_with fail
    go_ret
    exact ⟨rfl, bel2⟩
  have hb0 : ((ds.length : Int) == 0) = false := by rw [beq_eq_false_iff_ne]; omega
  obtain ⟨h60, hsz⟩ := hq rfl
  clear GA hq hb2 e0
  have HSZ := hd hsz
  clear hsz
  obtain ⟨k, hk, hke⟩ := turn_num n h0 h60
  obtain ⟨_, ao', cap', e, h0' | ⟨b, o, e2, hin⟩⟩ := id hA
  · exact absurd h0' h0
  simp at e
  obtain ⟨rfl, rfl⟩ := e
  subst e2
  obtain ⟨xs1, x1, x2, x3, x4⟩ := (hin.drop k).cells
  obtain ⟨xs2, y1, y2, y3, y4⟩ := (hin.take k).cells
  obtain ⟨i0, hi, iz0, iz1, iz2⟩ := info_parts Try.infoDef
  obtain ⟨W3, hW3⟩ : ∃ W3, W3 = w2.alloc (.cells #[.slice none 0 0] 24) := ⟨_, rfl⟩
  have z3 : W3.heap.size = w2.heap.size + 1 := by rw [hW3]; simp
  have b3 : Below w2.heap.size w2 W3 := by rw [hW3]; exact al1 _ _
  have u0 : W3.cell? ⟨w2.heap.size, 0, none⟩ = some (.slice none 0 0) := by rw [hW3]; simp
  have uf : W3.frozen? ⟨w2.heap.size, 0, none⟩ = false := by rw [hW3]; simp [go_sem]
  have t3 := bkeep b3 f0
  have bel3 : Below w.heap.size w W3 := bel2.trans (b3.mono bel2.size)
  have z2 := bel2.size
  have z2l : w.heap.size < w2.heap.size := lt_of_cell f0
  go_wp2_with fail
  rw [← hW3, hke]
  have HW3 := hd hW3
  clear hW3 hke
  have k1 : k ≤ ds.length := by omega
  have k2 : k ≤ cap := by omega
  have k3 : (0 : Int) ≤ (k : Int) := by omega
  have k4 : (k : Int) ≤ (ds.length : Int) := by omega
  have k5 : (k : Int) ≤ (cap : Int) := by omega
  have k6 : (ds.length : Int) ≤ (cap : Int) := by omega
  have bd : Below w.heap.size w W3.drew := bel3.drew
  have ud : W3.drew.cell? ⟨w2.heap.size, 0, none⟩ = some (.slice none 0 0) := u0
  have ufd : W3.drew.frozen? ⟨w2.heap.size, 0, none⟩ = false := uf
  have zd : W3.drew.heap.size = w2.heap.size + 1 := z3
  have tdr : W3.drew.cell? ⟨w.heap.size, 0, none⟩ = some (.slice (some ⟨b, o, none⟩) ds.length cap) := t3
  have hld : (ds.drop k).length = ds.length - k := List.length_drop
  have hlt : (ds.take k).length = k := by rw [List.length_take]; omega
  rw [hld] at x1
  rw [hlt] at y1
  have k7 : ¬ cap = k := by omega
  have hsum : 0 + (ds.length - k) + k = ds.length := by omega
  refine region_cut (fun a a' w' => ∃ (x36 x37 : Value) (aov : Option Addr) (capv : Nat), a' = ((((((((((((a.put (some 31) (.pointer (some ⟨w2.heap.size, 0, none⟩))).put (some 32) (.slice none 0 0)).put (some 33) (.pointer (some ⟨w.heap.size, 0, none⟩))).put (some 34) (.slice (some ⟨b, o, none⟩) ds.length cap)).put (some 35) (.int .i64 k)).put (some 36) x36).put (some 37) x37).put (some 38) (.pointer (some ⟨w.heap.size, 0, none⟩))).put (some 39) (.slice (some ⟨b, o, none⟩) ds.length cap)).put (some 40) (.int .i64 k)).put (some 41) (.slice (some ⟨b, o, none⟩) k cap)).put (some 42) (.slice aov ds.length capv)).put (some 43) (.pointer (some ⟨w2.heap.size, 0, none⟩)) ∧
      w'.cell? ⟨w2.heap.size, 0, none⟩ = some (.slice aov ds.length capv) ∧ w'.cell? ⟨w.heap.size, 0, none⟩ = some (.slice (some ⟨b, o, none⟩) ds.length cap) ∧ DsV w' All (.slice aov ds.length capv) (ds.drop k ++ ds.take k) ∧ Below w.heap.size w w') ?_ ?_
  · refine wp_region_held_drew (S := fun w' => w'.cell? ⟨w.heap.size, 0, none⟩ = some (.slice (some ⟨b, o, none⟩) ds.length cap)) (by kernel_rfl) tdr ?_
    intro hSw
    refine wpAnyH_take (i := 0) (v := ?v1) rfl (by kernel_rfl) (by kernel_rfl) (by kernel_rfl) (fun _ _ _ h => h) (Or.inl ⟨by rfl, ?hy1⟩) (by assumption) ?_
    case hy1 => (intro w' hS'; (try dsimp only at hS'); go_simp; try with_reducible rfl)
    refine wpAnyH_take (i := 2) (v := ?v2) rfl (by kernel_rfl) (by kernel_rfl) (by kernel_rfl) (fun _ _ _ h => h) (Or.inl ⟨by rfl, ?hy2⟩) (by assumption) ?_
    case hy2 => (intro w' hS'; (try dsimp only at hS'); go_simp; try with_reducible rfl)
    refine wpAnyH_take (i := 3) (v := ?v3) rfl (by kernel_rfl) (by kernel_rfl) (by kernel_rfl) (fun _ _ _ h => h) (Or.inl ⟨by rfl, ?hy3⟩) (by assumption) ?_
    case hy3 => (intro w' hS'; (try dsimp only at hS'); go_simp; try with_reducible rfl)
    refine wpAnyH_take (i := 4) (v := ?v4) rfl (by kernel_rfl) (by kernel_rfl) (by kernel_rfl) (fun _ _ _ h => h) (Or.inl ⟨by rfl, ?hy4⟩) (by assumption) ?_
    case hy4 => (intro w' hS'; (try dsimp only at hS'); go_simp; try with_reducible rfl)
    refine wpAnyH_take (i := 5) (v := ?v5) rfl (by kernel_rfl) (by kernel_rfl) (by kernel_rfl) (fun _ _ _ h => h) (Or.inl ⟨by rfl, ?hy5⟩) (by assumption) ?_
    case hy5 => (intro w' hS'; (try dsimp only at hS'); go_simp; try with_reducible rfl)
    refine wpAnyH_take (i := 7) (v := ?v6) rfl (by kernel_rfl) (by kernel_rfl) (by kernel_rfl) (fun _ _ _ h => h) (Or.inl ⟨by rfl, ?hy6⟩) (by assumption) ?_
    case hy6 => (intro w' hS'; (try dsimp only at hS'); go_simp; try with_reducible rfl)
    refine wpAnyH_take (i := 8) (v := ?v7) rfl (by kernel_rfl) (by kernel_rfl) (by kernel_rfl) (fun _ _ _ h => h) (Or.inl ⟨by rfl, ?hy7⟩) (by assumption) ?_
    case hy7 => (intro w' hS'; (try dsimp only at hS'); go_simp; try with_reducible rfl)
    refine wpAnyH_take (i := 9) (v := ?v8) rfl (by kernel_rfl) (by kernel_rfl) (by kernel_rfl) (fun _ _ _ h => h) (Or.inl ⟨by rfl, ?hy8⟩) (by assumption) ?_
    case hy8 => (intro w' hS'; (try dsimp only at hS'); go_simp; try with_reducible rfl)
    refine wpAnyH_take (i := 10) (v := ?v9) rfl (by kernel_rfl) (by kernel_rfl) (by kernel_rfl) (fun _ _ _ h => h) (Or.inl ⟨by rfl, ?hy9⟩) (by assumption) ?_
    case hy9 => (intro w' hS'; (try dsimp only at hS'); go_simp; try with_reducible rfl)
    refine wpAnyH_ready (rs := [1]) (by kernel_rfl) (by simp) ?_
    refine AllReadyH.cons rfl (fun K hK => ?_) AllReadyH.nil
    go_simp
    refine hK.out _ _ hSw ?_
    clear hK K
    intro hSw
    try simp only [Act.put, List.setIfInBounds_toArray, List.set_cons_zero, List.set_cons_succ]
    refine wpAnyH_ready (rs := [6]) (by kernel_rfl) (by simp) ?_
    refine AllReadyH.cons rfl (fun K hK => ?_) AllReadyH.nil
    refine step_own rfl (.tmp 32) (.tmp 36) 22 rfl (w2.heap.size + 1) 50 i0 (.agg #[.string ⟨#[]⟩, .int .i64 0, .int .i64 0, .string ⟨#[]⟩, .slice none 0 0]) 5 72 Try.underlying22 hi iz0 iz1 iz2 rfl (by decide) (.slice none 0 0) 0 [] (by simp [Act.eval]) (World.ownsRow_nil _ _ _ _) ⟨b, o + k * 5, none⟩ (ds.length - k) (cap - k) xs1 (by simp [Act.eval]) x1 (fun j u hj => by rw [addr_add]; exact bkeep bd (x4 j u hj)) x3 (by unfold maxLen; omega) (by omega) (by omega) ?_
    intro v5 w5 own5 grow5 hat5
    have b5 := grown_below grow5
    have S5 := bkeep b5 tdr
    have u5 := bkeep b5 ud
    have f5 : w5.frozen? ⟨w2.heap.size, 0, none⟩ = false := (World.frozen?_of_block (a := ⟨w2.heap.size, 0, none⟩) (b5.block w2.heap.size (by omega))).trans ufd
    have bel5 : Below w.heap.size w w5 := bd.trans (b5.mono bd.size)
    obtain ⟨ao5, cap5, rfl⟩ := owns_slice own5
    refine hK.out _ _ S5 ?_
    clear hK K
    intro hSw
    try simp only [Act.put, List.setIfInBounds_toArray]
    refine wpAnyH_ready (rs := [11]) (by kernel_rfl) (by simp) ?_
    refine AllReadyH.cons rfl (fun K hK => ?_) AllReadyH.nil
    refine step_own rfl (.tmp 37) (.tmp 41) 22 rfl (w2.heap.size + 1) 50 i0 (.agg #[.string ⟨#[]⟩, .int .i64 0, .int .i64 0, .string ⟨#[]⟩, .slice none 0 0]) 5 72 Try.underlying22 hi iz0 iz1 iz2 rfl (by decide) _ _ _ rfl own5 ⟨b, o, none⟩ k cap xs2 rfl y1 (fun j u hj => by rw [addr_add]; exact bkeep bel5 (y4 j u hj)) y3 (by unfold maxLen; omega) (by omega) (by have := b5.size; omega) ?_
    intro v6 w6 own6 grow6 hat6
    have nr : ∀ q, q < w2.heap.size + 1 → w6.heap[q]? = w5.heap[q]? := fun q hq => grow6.block q (by have := b5.size; omega) (fun e => by have := (own5.lt q e.symm).1; omega)
    have S6 := (World.cell?_of_block (a := ⟨w.heap.size, 0, none⟩) (nr w.heap.size (by omega))).trans S5
    have u6 := (World.cell?_of_block (a := ⟨w2.heap.size, 0, none⟩) (nr w2.heap.size (by omega))).trans u5
    have f6 := (World.frozen?_of_block (a := ⟨w2.heap.size, 0, none⟩) (nr w2.heap.size (by omega))).trans f5
    have bel6 : Below w.heap.size w w6 := bel5.grown grow6 bel5.size (fun q e => by have := (own5.lt q e).1; omega)
    obtain ⟨ao6, cap6, rfl⟩ := owns_slice own6
    rw [hsum] at own6
    refine hK.out _ _ S6 ?_
    clear hK K
    intro hSw
    try simp only [Act.put]
    refine wpAnyH_take (i := 12) (v := ?v10) rfl (by kernel_rfl) (by kernel_rfl) (by kernel_rfl) (fun _ _ _ h => h) (Or.inl ⟨by rfl, ?hy10⟩) (by assumption) ?_
    case hy10 => (intro w' hS'; (try dsimp only at hS'); go_simp; try with_reducible rfl)
    refine wpAnyH_ready (rs := [13]) (by kernel_rfl) (by simp) ?_
    refine AllReadyH.cons rfl (fun K hK => ?_) AllReadyH.nil
    go_simp
    have S7 : (w6.setCell ⟨w2.heap.size, 0, none⟩ (.slice ao6 ds.length cap6)).cell? ⟨w.heap.size, 0, none⟩ = some (.slice (some ⟨b, o, none⟩) ds.length cap) := (World.cell?_setCell_other _ _ _ _ (by simp <;> omega)).trans S6
    refine hK.out _ _ S7 ?_
    clear hK K
    intro hSw
    try simp only [Act.put, List.setIfInBounds_toArray, List.set_cons_zero, List.set_cons_succ]
    refine wpAnyH_done (by kernel_rfl) ?_ _
    refine ⟨.slice (some ⟨b, o + k * 5, none⟩) (ds.length - k) (cap - k), .slice ao5 (0 + (ds.length - k)) cap5, ao6, cap6, by simp, World.cell?_setCell_same _ _ _ u6, S7, ?_, bel6.setCell (p := ⟨w2.heap.size, 0, none⟩) z2 _⟩
    have hc6 : DC (w6.setCell ⟨w2.heap.size, 0, none⟩ (.slice ao6 ds.length cap6)) All (xs1 ++ xs2) (ds.drop k ++ ds.take k) := (x2.app y2).kp (Kp.of_below (bel6.setCell (p := ⟨w2.heap.size, 0, none⟩) z2 _)) (fun _ _ h => h)
    have hle : (ds.drop k ++ ds.take k).length = ds.length := by rw [List.length_append, hld, hlt]; omega
    have := DsV_owned (T := All) (f := ds.drop k ++ ds.take k) (by rw [hle]; exact owns_setCell (a := ⟨w2.heap.size, 0, none⟩) own6 (by show w2.heap.size < w2.heap.size + 1; omega)) hc6 (fun _ h => h) (fun _ _ => trivial) (by omega)
    exact this
  rintro a4 w4 ⟨x36, x37, aov, capv, rfl, u4, t4, hes, bel4⟩
  simp only [Act.put, List.setIfInBounds_toArray, List.set_cons_zero, List.set_cons_succ]
  have hp := turn_perm ds k
  have hsz := HSZ.out
  have hle : (ds.drop k ++ ds.take k).length ≤ 60 := by rw [← hp.length_eq]; exact h60
  have hse : ∀ d ∈ ds.drop k ++ ds.take k, d.e.sz ≤ 3000 ∧ d.sh := fun d hd => hsz d (hp.mem_iff.2 hd)
  have hA4 := lw hA bel4
  have CT := fun w' (hb : Below w4.heap.size w4 w') => dcheck_any ds _ w' (lw hA4 hb) h60 hsz
  have CU := fun w' (hb : Below w4.heap.size w4 w') => dcheck_any _ _ w' (lw hes hb) hle hse
  have RT := fun w' (hb : Below w4.heap.size w4 w') => check_any ds _ w' (lw hA4 hb) (fun d hd => (hsz d hd).2)
  have TT := fun w' (hb : Below w4.heap.size w4 w') => terms_any ds _ w' (lw hA4 hb) h60 hsz
  have TU := fun w' (hb : Below w4.heap.size w4 w') => terms_any _ _ w' (lw hes hb) hle hse
  have htp := trms_perm hp
  have htl := trms_len h60 (fun d hd => (hsz d hd).1)
  have hF0 := dfl_perm hp
  have hFH : (rflt ds).1 ≠ 0 → dfl ds = rflt ds := dfl_bad
  have hGH : (rflt ds).1 ≠ 0 → (dfl (ds.drop k ++ ds.take k)).1 ≠ 0 := fun h => by
    have h' : (rflt (ds.drop k ++ ds.take k)).1 ≠ 0 := fun e => h ((rflt_perm hp).2 e)
    rw [dfl_bad h']; exact h'
  generalize dfl ds = F at *
  generalize dfl (ds.drop k ++ ds.take k) = G at *
  generalize rflt ds = R at *
  generalize trms ds = T at *
  generalize trms (ds.drop k ++ ds.take k) = T' at *
  obtain ⟨F1, F2⟩ := F
  obtain ⟨G1, G2⟩ := G
  obtain ⟨R1, R2⟩ := R
  simp only at hF0 hFH hGH CT CU RT
  have HF0 := hd hF0
  have HFH := hd hFH
  have HGH := hd hGH
  have HTP := hd htp
  have tlt : w.heap.size < w4.heap.size := lt_of_cell t4
  have ult : w2.heap.size < w4.heap.size := lt_of_cell u4
  have hS0 : Below w4.heap.size w4 w4.drew ∧ w4.drew.cell? ⟨w.heap.size, 0, none⟩ = some (.slice (some ⟨b, o, none⟩) ds.length cap) ∧ w4.drew.cell? ⟨w2.heap.size, 0, none⟩ = some (.slice aov ds.length capv) := ⟨drw1 w4, t4, u4⟩
  clear hF0 hFH hGH htp hes hA4 hA hin hse hle hp hsz x1 x2 x3 x4 y1 y2 y3 y4 xs1 xs2 u0 uf t3 f0 bel3 bd ud ufd zd tdr hld hlt hsum b3 z3 bel1 bel2 iz0 iz1 iz2 hi i0
  go_wp2_with fail
  refine region_cut (fun a a' w' => ∃ (p7 p8 : Nat), a' = (((((a.put (some 44) (.agg #[.slice (some ⟨b, o, none⟩) ds.length cap])).put (some 45) (.agg #[.int .i64 F1, .int .i64 F2])).put (some 46) (.agg #[.slice aov ds.length capv])).put (some 47) (.agg #[.int .i64 G1, .int .i64 G2])).put (some 7) (.pointer (some ⟨p7, 0, none⟩))).put (some 8) (.pointer (some ⟨p8, 0, none⟩)) ∧
      w'.cell? ⟨p7, 0, none⟩ = some (.int .i64 F1) ∧ w'.cell? ⟨p7, 1, none⟩ = some (.int .i64 F2) ∧ w'.cell? ⟨p8, 0, none⟩ = some (.int .i64 G1) ∧ w'.cell? ⟨p8, 1, none⟩ = some (.int .i64 G2) ∧
      (Below w4.heap.size w4 w' ∧ w'.cell? ⟨w.heap.size, 0, none⟩ = some (.slice (some ⟨b, o, none⟩) ds.length cap) ∧ w'.cell? ⟨w2.heap.size, 0, none⟩ = some (.slice aov ds.length capv))) ?_ ?_
  · refine wp_region_held_drew (S := fun w' => Below w4.heap.size w4 w' ∧ w'.cell? ⟨w.heap.size, 0, none⟩ = some (.slice (some ⟨b, o, none⟩) ds.length cap) ∧ w'.cell? ⟨w2.heap.size, 0, none⟩ = some (.slice aov ds.length capv)) (by kernel_rfl) hS0 ?_
    intro hSw
    obtain ⟨y0, hy0⟩ : ∃ y0, y0 = w4.drew := ⟨_, rfl⟩
    rw [← hy0] at hSw ⊢
    have hSy0 := hSw
    clear hy0
    refine wpAnyH_take (i := 0) (v := ?v11) rfl (by kernel_rfl) (by kernel_rfl) (by kernel_rfl) (fun _ _ _ h => h) (Or.inl ⟨by rfl, ?hy11⟩) (by assumption) ?_
    case hy11 => (intro w' hS'; (try dsimp only at hS'); go_simp; try with_reducible rfl)
    refine wpAnyH_take (i := 2) (v := ?v12) rfl (by kernel_rfl) (by kernel_rfl) (by kernel_rfl) (fun _ _ _ h => h) (Or.inl ⟨by rfl, ?hy12⟩) (by assumption) ?_
    case hy12 => (intro w' hS'; (try dsimp only at hS'); go_simp; try with_reducible rfl)
    refine wpAnyH_ready (rs := [1, 4, 5]) (by kernel_rfl) (by simp) ?_
    refine AllReadyH.cons rfl (fun K hK => ?_) (AllReadyH.cons rfl (fun K hK => ?_) (AllReadyH.cons rfl (fun K hK => ?_) AllReadyH.nil))
    · go_simp
      go_at_call 18
      refine (CT _ hSy0.1).mono ?_
      rintro e y1 ⟨rfl, hby1⟩
      have hSy1 := stk (Stp.mk hby1) hSy0
      refine hK.out _ _ hSy1 ?_
      clear hK K
      intro hSw
      try simp only [Act.put, List.setIfInBounds_toArray, List.set_cons_zero, List.set_cons_succ]
      refine wpAnyH_ready (rs := [3, 4, 5]) (by kernel_rfl) (by simp) ?_
      refine AllReadyH.cons rfl (fun K hK => ?_) (AllReadyH.cons rfl (fun K hK => ?_) (AllReadyH.cons rfl (fun K hK => ?_) AllReadyH.nil))
      · go_simp
        go_at_call 18
        refine (CU _ hSy1.1).mono ?_
        rintro e y2 ⟨rfl, hby2⟩
        have hSy2 := stk (Stp.mk hby2) hSy1
        refine hK.out _ _ hSy2 ?_
        clear hK K
        intro hSw
        try simp only [Act.put, List.setIfInBounds_toArray, List.set_cons_zero, List.set_cons_succ]
        refine wpAnyH_ready (rs := [4, 5]) (by kernel_rfl) (by simp) ?_
        refine AllReadyH.cons rfl (fun K hK => ?_) (AllReadyH.cons rfl (fun K hK => ?_) AllReadyH.nil)
        · go_simp
          obtain ⟨y3, hyy3⟩ : ∃ y3, y3 = y2.alloc (.cells #[.int .i64 0, .int .i64 0] 28) := ⟨_, rfl⟩
          have hby3 : Below y2.heap.size y2 y3 := by rw [hyy3]; exact al1 _ _
          obtain ⟨p7, hp7⟩ : ∃ p7, p7 = y2.heap.size := ⟨_, rfl⟩
          have r7y3 : RB y3 p7 := by rw [hyy3, hp7]; exact ⟨by simp, by simp, fun i => by simp [go_sem]⟩
          have l7 : w4.heap.size ≤ p7 := by rw [hp7]; exact hSy2.1.size
          have hSy3 := stk (Stp.mk hby3) hSy2
          rw [← hyy3, ← hp7]
          clear hyy3 hp7
          refine hK.out _ _ hSy3 ?_
          clear hK K
          intro hSw
          try simp only [Act.put, List.setIfInBounds_toArray, List.set_cons_zero, List.set_cons_succ]
          refine wpAnyH_ready (rs := [5]) (by kernel_rfl) (by simp) ?_
          refine AllReadyH.cons rfl (fun K hK => ?_) AllReadyH.nil
          go_simp
          obtain ⟨y4, hyy4⟩ : ∃ y4, y4 = y3.alloc (.cells #[.int .i64 0, .int .i64 0] 28) := ⟨_, rfl⟩
          have hby4 : Below y3.heap.size y3 y4 := by rw [hyy4]; exact al1 _ _
          obtain ⟨p8, hp8⟩ : ∃ p8, p8 = y3.heap.size := ⟨_, rfl⟩
          have r8y4 : RB y4 p8 := by rw [hyy4, hp8]; exact ⟨by simp, by simp, fun i => by simp [go_sem]⟩
          have l8 : w4.heap.size ≤ p8 := by rw [hp8]; exact hSy3.1.size
          have hSy4 := stk (Stp.mk hby4) hSy3
          have r7y4 := r7y3.below hby4
          have n87 : p8 ≠ p7 := by rw [hp8]; exact Nat.ne_of_gt (lt_of_cell r7y3.c0)
          rw [← hyy4, ← hp8]
          clear hyy4 hp8
          refine hK.out _ _ hSy4 ?_
          clear hK K
          intro hSw
          try simp only [Act.put, List.setIfInBounds_toArray, List.set_cons_zero, List.set_cons_succ]
          have c70 := r7y4.c0
          have c71 := r7y4.c1
          have c7f := r7y4.fz
          refine wpAnyH_ready (rs := [6]) (by kernel_rfl) (by simp) ?_
          refine AllReadyH.cons rfl (fun K hK => ?_) AllReadyH.nil
          go_simp
          obtain ⟨z1, hz1⟩ : ∃ z1, z1 = (y4.setCell ⟨p7, 0, none⟩ (.int .i64 F1)).setCell ⟨p7, 1, none⟩ (.int .i64 F2) := ⟨_, rfl⟩
          have st1 := two_set (F1 := F1) (F2 := F2) r7y4 hSy4 l7 tlt ult hz1
          have r8z := two_set_other r8y4 (n87) hz1
          rw [← hz1]
          clear hz1
          refine hK.out _ _ st1.1 ?_
          clear hK K
          intro hSw
          try simp only [Act.put, List.setIfInBounds_toArray, List.set_cons_zero, List.set_cons_succ]
          have c80 := r8z.c0
          have c81 := r8z.c1
          have c8f := r8z.fz
          refine wpAnyH_ready (rs := [7]) (by kernel_rfl) (by simp) ?_
          refine AllReadyH.cons rfl (fun K hK => ?_) AllReadyH.nil
          go_simp
          obtain ⟨z2', hz2⟩ : ∃ z2', z2' = (z1.setCell ⟨p8, 0, none⟩ (.int .i64 G1)).setCell ⟨p8, 1, none⟩ (.int .i64 G2) := ⟨_, rfl⟩
          have st2 := two_set (F1 := G1) (F2 := G2) r8z st1.1 l8 tlt ult hz2
          have k7 := two_set_keep st1.2 (fun e => n87 e.symm) hz2
          rw [← hz2]
          clear hz2
          refine hK.out _ _ st2.1 ?_
          clear hK K
          intro hSw
          try simp only [Act.put, List.setIfInBounds_toArray, List.set_cons_zero, List.set_cons_succ]
          refine wpAnyH_done (by kernel_rfl) ?_ _
          exact ⟨p7, p8, rfl, k7.1, k7.2, st2.2.1, st2.2.2, st2.1⟩
        · go_simp
          obtain ⟨y3, hyy3⟩ : ∃ y3, y3 = y2.alloc (.cells #[.int .i64 0, .int .i64 0] 28) := ⟨_, rfl⟩
          have hby3 : Below y2.heap.size y2 y3 := by rw [hyy3]; exact al1 _ _
          obtain ⟨p8, hp8⟩ : ∃ p8, p8 = y2.heap.size := ⟨_, rfl⟩
          have r8y3 : RB y3 p8 := by rw [hyy3, hp8]; exact ⟨by simp, by simp, fun i => by simp [go_sem]⟩
          have l8 : w4.heap.size ≤ p8 := by rw [hp8]; exact hSy2.1.size
          have hSy3 := stk (Stp.mk hby3) hSy2
          rw [← hyy3, ← hp8]
          clear hyy3 hp8
          refine hK.out _ _ hSy3 ?_
          clear hK K
          intro hSw
          try simp only [Act.put, List.setIfInBounds_toArray, List.set_cons_zero, List.set_cons_succ]
          refine wpAnyH_ready (rs := [4]) (by kernel_rfl) (by simp) ?_
          refine AllReadyH.cons rfl (fun K hK => ?_) AllReadyH.nil
          go_simp
          obtain ⟨y4, hyy4⟩ : ∃ y4, y4 = y3.alloc (.cells #[.int .i64 0, .int .i64 0] 28) := ⟨_, rfl⟩
          have hby4 : Below y3.heap.size y3 y4 := by rw [hyy4]; exact al1 _ _
          obtain ⟨p7, hp7⟩ : ∃ p7, p7 = y3.heap.size := ⟨_, rfl⟩
          have r7y4 : RB y4 p7 := by rw [hyy4, hp7]; exact ⟨by simp, by simp, fun i => by simp [go_sem]⟩
          have l7 : w4.heap.size ≤ p7 := by rw [hp7]; exact hSy3.1.size
          have hSy4 := stk (Stp.mk hby4) hSy3
          have r8y4 := r8y3.below hby4
          have n78 : p7 ≠ p8 := by rw [hp7]; exact Nat.ne_of_gt (lt_of_cell r8y3.c0)
          rw [← hyy4, ← hp7]
          clear hyy4 hp7
          refine hK.out _ _ hSy4 ?_
          clear hK K
          intro hSw
          try simp only [Act.put, List.setIfInBounds_toArray, List.set_cons_zero, List.set_cons_succ]
          have c70 := r7y4.c0
          have c71 := r7y4.c1
          have c7f := r7y4.fz
          refine wpAnyH_ready (rs := [6]) (by kernel_rfl) (by simp) ?_
          refine AllReadyH.cons rfl (fun K hK => ?_) AllReadyH.nil
          go_simp
          obtain ⟨z1, hz1⟩ : ∃ z1, z1 = (y4.setCell ⟨p7, 0, none⟩ (.int .i64 F1)).setCell ⟨p7, 1, none⟩ (.int .i64 F2) := ⟨_, rfl⟩
          have st1 := two_set (F1 := F1) (F2 := F2) r7y4 hSy4 l7 tlt ult hz1
          have r8z := two_set_other r8y4 (fun e => n78 e.symm) hz1
          rw [← hz1]
          clear hz1
          refine hK.out _ _ st1.1 ?_
          clear hK K
          intro hSw
          try simp only [Act.put, List.setIfInBounds_toArray, List.set_cons_zero, List.set_cons_succ]
          have c80 := r8z.c0
          have c81 := r8z.c1
          have c8f := r8z.fz
          refine wpAnyH_ready (rs := [7]) (by kernel_rfl) (by simp) ?_
          refine AllReadyH.cons rfl (fun K hK => ?_) AllReadyH.nil
          go_simp
          obtain ⟨z2', hz2⟩ : ∃ z2', z2' = (z1.setCell ⟨p8, 0, none⟩ (.int .i64 G1)).setCell ⟨p8, 1, none⟩ (.int .i64 G2) := ⟨_, rfl⟩
          have st2 := two_set (F1 := G1) (F2 := G2) r8z st1.1 l8 tlt ult hz2
          have k7 := two_set_keep st1.2 (n78) hz2
          rw [← hz2]
          clear hz2
          refine hK.out _ _ st2.1 ?_
          clear hK K
          intro hSw
          try simp only [Act.put, List.setIfInBounds_toArray, List.set_cons_zero, List.set_cons_succ]
          refine wpAnyH_done (by kernel_rfl) ?_ _
          exact ⟨p7, p8, rfl, k7.1, k7.2, st2.2.1, st2.2.2, st2.1⟩
      · go_simp
        obtain ⟨y2, hyy2⟩ : ∃ y2, y2 = y1.alloc (.cells #[.int .i64 0, .int .i64 0] 28) := ⟨_, rfl⟩
        have hby2 : Below y1.heap.size y1 y2 := by rw [hyy2]; exact al1 _ _
        obtain ⟨p7, hp7⟩ : ∃ p7, p7 = y1.heap.size := ⟨_, rfl⟩
        have r7y2 : RB y2 p7 := by rw [hyy2, hp7]; exact ⟨by simp, by simp, fun i => by simp [go_sem]⟩
        have l7 : w4.heap.size ≤ p7 := by rw [hp7]; exact hSy1.1.size
        have hSy2 := stk (Stp.mk hby2) hSy1
        rw [← hyy2, ← hp7]
        clear hyy2 hp7
        refine hK.out _ _ hSy2 ?_
        clear hK K
        intro hSw
        try simp only [Act.put, List.setIfInBounds_toArray, List.set_cons_zero, List.set_cons_succ]
        refine wpAnyH_ready (rs := [3, 5]) (by kernel_rfl) (by simp) ?_
        refine AllReadyH.cons rfl (fun K hK => ?_) (AllReadyH.cons rfl (fun K hK => ?_) AllReadyH.nil)
        · go_simp
          go_at_call 18
          refine (CU _ hSy2.1).mono ?_
          rintro e y3 ⟨rfl, hby3⟩
          have hSy3 := stk (Stp.mk hby3) hSy2
          have r7y3 := r7y2.below hby3
          refine hK.out _ _ hSy3 ?_
          clear hK K
          intro hSw
          try simp only [Act.put, List.setIfInBounds_toArray, List.set_cons_zero, List.set_cons_succ]
          refine wpAnyH_ready (rs := [5]) (by kernel_rfl) (by simp) ?_
          refine AllReadyH.cons rfl (fun K hK => ?_) AllReadyH.nil
          go_simp
          obtain ⟨y4, hyy4⟩ : ∃ y4, y4 = y3.alloc (.cells #[.int .i64 0, .int .i64 0] 28) := ⟨_, rfl⟩
          have hby4 : Below y3.heap.size y3 y4 := by rw [hyy4]; exact al1 _ _
          obtain ⟨p8, hp8⟩ : ∃ p8, p8 = y3.heap.size := ⟨_, rfl⟩
          have r8y4 : RB y4 p8 := by rw [hyy4, hp8]; exact ⟨by simp, by simp, fun i => by simp [go_sem]⟩
          have l8 : w4.heap.size ≤ p8 := by rw [hp8]; exact hSy3.1.size
          have hSy4 := stk (Stp.mk hby4) hSy3
          have r7y4 := r7y3.below hby4
          have n87 : p8 ≠ p7 := by rw [hp8]; exact Nat.ne_of_gt (lt_of_cell r7y3.c0)
          rw [← hyy4, ← hp8]
          clear hyy4 hp8
          refine hK.out _ _ hSy4 ?_
          clear hK K
          intro hSw
          try simp only [Act.put, List.setIfInBounds_toArray, List.set_cons_zero, List.set_cons_succ]
          have c70 := r7y4.c0
          have c71 := r7y4.c1
          have c7f := r7y4.fz
          refine wpAnyH_ready (rs := [6]) (by kernel_rfl) (by simp) ?_
          refine AllReadyH.cons rfl (fun K hK => ?_) AllReadyH.nil
          go_simp
          obtain ⟨z1, hz1⟩ : ∃ z1, z1 = (y4.setCell ⟨p7, 0, none⟩ (.int .i64 F1)).setCell ⟨p7, 1, none⟩ (.int .i64 F2) := ⟨_, rfl⟩
          have st1 := two_set (F1 := F1) (F2 := F2) r7y4 hSy4 l7 tlt ult hz1
          have r8z := two_set_other r8y4 (n87) hz1
          rw [← hz1]
          clear hz1
          refine hK.out _ _ st1.1 ?_
          clear hK K
          intro hSw
          try simp only [Act.put, List.setIfInBounds_toArray, List.set_cons_zero, List.set_cons_succ]
          have c80 := r8z.c0
          have c81 := r8z.c1
          have c8f := r8z.fz
          refine wpAnyH_ready (rs := [7]) (by kernel_rfl) (by simp) ?_
          refine AllReadyH.cons rfl (fun K hK => ?_) AllReadyH.nil
          go_simp
          obtain ⟨z2', hz2⟩ : ∃ z2', z2' = (z1.setCell ⟨p8, 0, none⟩ (.int .i64 G1)).setCell ⟨p8, 1, none⟩ (.int .i64 G2) := ⟨_, rfl⟩
          have st2 := two_set (F1 := G1) (F2 := G2) r8z st1.1 l8 tlt ult hz2
          have k7 := two_set_keep st1.2 (fun e => n87 e.symm) hz2
          rw [← hz2]
          clear hz2
          refine hK.out _ _ st2.1 ?_
          clear hK K
          intro hSw
          try simp only [Act.put, List.setIfInBounds_toArray, List.set_cons_zero, List.set_cons_succ]
          refine wpAnyH_done (by kernel_rfl) ?_ _
          exact ⟨p7, p8, rfl, k7.1, k7.2, st2.2.1, st2.2.2, st2.1⟩
        · go_simp
          obtain ⟨y3, hyy3⟩ : ∃ y3, y3 = y2.alloc (.cells #[.int .i64 0, .int .i64 0] 28) := ⟨_, rfl⟩
          have hby3 : Below y2.heap.size y2 y3 := by rw [hyy3]; exact al1 _ _
          obtain ⟨p8, hp8⟩ : ∃ p8, p8 = y2.heap.size := ⟨_, rfl⟩
          have r8y3 : RB y3 p8 := by rw [hyy3, hp8]; exact ⟨by simp, by simp, fun i => by simp [go_sem]⟩
          have l8 : w4.heap.size ≤ p8 := by rw [hp8]; exact hSy2.1.size
          have hSy3 := stk (Stp.mk hby3) hSy2
          have r7y3 := r7y2.below hby3
          have n87 : p8 ≠ p7 := by rw [hp8]; exact Nat.ne_of_gt (lt_of_cell r7y2.c0)
          rw [← hyy3, ← hp8]
          clear hyy3 hp8
          refine hK.out _ _ hSy3 ?_
          clear hK K
          intro hSw
          try simp only [Act.put, List.setIfInBounds_toArray, List.set_cons_zero, List.set_cons_succ]
          refine wpAnyH_ready (rs := [3]) (by kernel_rfl) (by simp) ?_
          refine AllReadyH.cons rfl (fun K hK => ?_) AllReadyH.nil
          go_simp
          go_at_call 18
          refine (CU _ hSy3.1).mono ?_
          rintro e y4 ⟨rfl, hby4⟩
          have hSy4 := stk (Stp.mk hby4) hSy3
          have r7y4 := r7y3.below hby4
          have r8y4 := r8y3.below hby4
          refine hK.out _ _ hSy4 ?_
          clear hK K
          intro hSw
          try simp only [Act.put, List.setIfInBounds_toArray, List.set_cons_zero, List.set_cons_succ]
          have c70 := r7y4.c0
          have c71 := r7y4.c1
          have c7f := r7y4.fz
          refine wpAnyH_ready (rs := [6]) (by kernel_rfl) (by simp) ?_
          refine AllReadyH.cons rfl (fun K hK => ?_) AllReadyH.nil
          go_simp
          obtain ⟨z1, hz1⟩ : ∃ z1, z1 = (y4.setCell ⟨p7, 0, none⟩ (.int .i64 F1)).setCell ⟨p7, 1, none⟩ (.int .i64 F2) := ⟨_, rfl⟩
          have st1 := two_set (F1 := F1) (F2 := F2) r7y4 hSy4 l7 tlt ult hz1
          have r8z := two_set_other r8y4 (n87) hz1
          rw [← hz1]
          clear hz1
          refine hK.out _ _ st1.1 ?_
          clear hK K
          intro hSw
          try simp only [Act.put, List.setIfInBounds_toArray, List.set_cons_zero, List.set_cons_succ]
          have c80 := r8z.c0
          have c81 := r8z.c1
          have c8f := r8z.fz
          refine wpAnyH_ready (rs := [7]) (by kernel_rfl) (by simp) ?_
          refine AllReadyH.cons rfl (fun K hK => ?_) AllReadyH.nil
          go_simp
          obtain ⟨z2', hz2⟩ : ∃ z2', z2' = (z1.setCell ⟨p8, 0, none⟩ (.int .i64 G1)).setCell ⟨p8, 1, none⟩ (.int .i64 G2) := ⟨_, rfl⟩
          have st2 := two_set (F1 := G1) (F2 := G2) r8z st1.1 l8 tlt ult hz2
          have k7 := two_set_keep st1.2 (fun e => n87 e.symm) hz2
          rw [← hz2]
          clear hz2
          refine hK.out _ _ st2.1 ?_
          clear hK K
          intro hSw
          try simp only [Act.put, List.setIfInBounds_toArray, List.set_cons_zero, List.set_cons_succ]
          refine wpAnyH_done (by kernel_rfl) ?_ _
          exact ⟨p7, p8, rfl, k7.1, k7.2, st2.2.1, st2.2.2, st2.1⟩
      · go_simp
        obtain ⟨y2, hyy2⟩ : ∃ y2, y2 = y1.alloc (.cells #[.int .i64 0, .int .i64 0] 28) := ⟨_, rfl⟩
        have hby2 : Below y1.heap.size y1 y2 := by rw [hyy2]; exact al1 _ _
        obtain ⟨p8, hp8⟩ : ∃ p8, p8 = y1.heap.size := ⟨_, rfl⟩
        have r8y2 : RB y2 p8 := by rw [hyy2, hp8]; exact ⟨by simp, by simp, fun i => by simp [go_sem]⟩
        have l8 : w4.heap.size ≤ p8 := by rw [hp8]; exact hSy1.1.size
        have hSy2 := stk (Stp.mk hby2) hSy1
        rw [← hyy2, ← hp8]
        clear hyy2 hp8
        refine hK.out _ _ hSy2 ?_
        clear hK K
        intro hSw
        try simp only [Act.put, List.setIfInBounds_toArray, List.set_cons_zero, List.set_cons_succ]
        refine wpAnyH_ready (rs := [3, 4]) (by kernel_rfl) (by simp) ?_
        refine AllReadyH.cons rfl (fun K hK => ?_) (AllReadyH.cons rfl (fun K hK => ?_) AllReadyH.nil)
        · go_simp
          go_at_call 18
          refine (CU _ hSy2.1).mono ?_
          rintro e y3 ⟨rfl, hby3⟩
          have hSy3 := stk (Stp.mk hby3) hSy2
          have r8y3 := r8y2.below hby3
          refine hK.out _ _ hSy3 ?_
          clear hK K
          intro hSw
          try simp only [Act.put, List.setIfInBounds_toArray, List.set_cons_zero, List.set_cons_succ]
          refine wpAnyH_ready (rs := [4]) (by kernel_rfl) (by simp) ?_
          refine AllReadyH.cons rfl (fun K hK => ?_) AllReadyH.nil
          go_simp
          obtain ⟨y4, hyy4⟩ : ∃ y4, y4 = y3.alloc (.cells #[.int .i64 0, .int .i64 0] 28) := ⟨_, rfl⟩
          have hby4 : Below y3.heap.size y3 y4 := by rw [hyy4]; exact al1 _ _
          obtain ⟨p7, hp7⟩ : ∃ p7, p7 = y3.heap.size := ⟨_, rfl⟩
          have r7y4 : RB y4 p7 := by rw [hyy4, hp7]; exact ⟨by simp, by simp, fun i => by simp [go_sem]⟩
          have l7 : w4.heap.size ≤ p7 := by rw [hp7]; exact hSy3.1.size
          have hSy4 := stk (Stp.mk hby4) hSy3
          have r8y4 := r8y3.below hby4
          have n78 : p7 ≠ p8 := by rw [hp7]; exact Nat.ne_of_gt (lt_of_cell r8y3.c0)
          rw [← hyy4, ← hp7]
          clear hyy4 hp7
          refine hK.out _ _ hSy4 ?_
          clear hK K
          intro hSw
          try simp only [Act.put, List.setIfInBounds_toArray, List.set_cons_zero, List.set_cons_succ]
          have c70 := r7y4.c0
          have c71 := r7y4.c1
          have c7f := r7y4.fz
          refine wpAnyH_ready (rs := [6]) (by kernel_rfl) (by simp) ?_
          refine AllReadyH.cons rfl (fun K hK => ?_) AllReadyH.nil
          go_simp
          obtain ⟨z1, hz1⟩ : ∃ z1, z1 = (y4.setCell ⟨p7, 0, none⟩ (.int .i64 F1)).setCell ⟨p7, 1, none⟩ (.int .i64 F2) := ⟨_, rfl⟩
          have st1 := two_set (F1 := F1) (F2 := F2) r7y4 hSy4 l7 tlt ult hz1
          have r8z := two_set_other r8y4 (fun e => n78 e.symm) hz1
          rw [← hz1]
          clear hz1
          refine hK.out _ _ st1.1 ?_
          clear hK K
          intro hSw
          try simp only [Act.put, List.setIfInBounds_toArray, List.set_cons_zero, List.set_cons_succ]
          have c80 := r8z.c0
          have c81 := r8z.c1
          have c8f := r8z.fz
          refine wpAnyH_ready (rs := [7]) (by kernel_rfl) (by simp) ?_
          refine AllReadyH.cons rfl (fun K hK => ?_) AllReadyH.nil
          go_simp
          obtain ⟨z2', hz2⟩ : ∃ z2', z2' = (z1.setCell ⟨p8, 0, none⟩ (.int .i64 G1)).setCell ⟨p8, 1, none⟩ (.int .i64 G2) := ⟨_, rfl⟩
          have st2 := two_set (F1 := G1) (F2 := G2) r8z st1.1 l8 tlt ult hz2
          have k7 := two_set_keep st1.2 (n78) hz2
          rw [← hz2]
          clear hz2
          refine hK.out _ _ st2.1 ?_
          clear hK K
          intro hSw
          try simp only [Act.put, List.setIfInBounds_toArray, List.set_cons_zero, List.set_cons_succ]
          refine wpAnyH_done (by kernel_rfl) ?_ _
          exact ⟨p7, p8, rfl, k7.1, k7.2, st2.2.1, st2.2.2, st2.1⟩
        · go_simp
          obtain ⟨y3, hyy3⟩ : ∃ y3, y3 = y2.alloc (.cells #[.int .i64 0, .int .i64 0] 28) := ⟨_, rfl⟩
          have hby3 : Below y2.heap.size y2 y3 := by rw [hyy3]; exact al1 _ _
          obtain ⟨p7, hp7⟩ : ∃ p7, p7 = y2.heap.size := ⟨_, rfl⟩
          have r7y3 : RB y3 p7 := by rw [hyy3, hp7]; exact ⟨by simp, by simp, fun i => by simp [go_sem]⟩
          have l7 : w4.heap.size ≤ p7 := by rw [hp7]; exact hSy2.1.size
          have hSy3 := stk (Stp.mk hby3) hSy2
          have r8y3 := r8y2.below hby3
          have n78 : p7 ≠ p8 := by rw [hp7]; exact Nat.ne_of_gt (lt_of_cell r8y2.c0)
          rw [← hyy3, ← hp7]
          clear hyy3 hp7
          refine hK.out _ _ hSy3 ?_
          clear hK K
          intro hSw
          try simp only [Act.put, List.setIfInBounds_toArray, List.set_cons_zero, List.set_cons_succ]
          refine wpAnyH_ready (rs := [3]) (by kernel_rfl) (by simp) ?_
          refine AllReadyH.cons rfl (fun K hK => ?_) AllReadyH.nil
          go_simp
          go_at_call 18
          refine (CU _ hSy3.1).mono ?_
          rintro e y4 ⟨rfl, hby4⟩
          have hSy4 := stk (Stp.mk hby4) hSy3
          have r8y4 := r8y3.below hby4
          have r7y4 := r7y3.below hby4
          refine hK.out _ _ hSy4 ?_
          clear hK K
          intro hSw
          try simp only [Act.put, List.setIfInBounds_toArray, List.set_cons_zero, List.set_cons_succ]
          have c70 := r7y4.c0
          have c71 := r7y4.c1
          have c7f := r7y4.fz
          refine wpAnyH_ready (rs := [6]) (by kernel_rfl) (by simp) ?_
          refine AllReadyH.cons rfl (fun K hK => ?_) AllReadyH.nil
          go_simp
          obtain ⟨z1, hz1⟩ : ∃ z1, z1 = (y4.setCell ⟨p7, 0, none⟩ (.int .i64 F1)).setCell ⟨p7, 1, none⟩ (.int .i64 F2) := ⟨_, rfl⟩
          have st1 := two_set (F1 := F1) (F2 := F2) r7y4 hSy4 l7 tlt ult hz1
          have r8z := two_set_other r8y4 (fun e => n78 e.symm) hz1
          rw [← hz1]
          clear hz1
          refine hK.out _ _ st1.1 ?_
          clear hK K
          intro hSw
          try simp only [Act.put, List.setIfInBounds_toArray, List.set_cons_zero, List.set_cons_succ]
          have c80 := r8z.c0
          have c81 := r8z.c1
          have c8f := r8z.fz
          refine wpAnyH_ready (rs := [7]) (by kernel_rfl) (by simp) ?_
          refine AllReadyH.cons rfl (fun K hK => ?_) AllReadyH.nil
          go_simp
          obtain ⟨z2', hz2⟩ : ∃ z2', z2' = (z1.setCell ⟨p8, 0, none⟩ (.int .i64 G1)).setCell ⟨p8, 1, none⟩ (.int .i64 G2) := ⟨_, rfl⟩
          have st2 := two_set (F1 := G1) (F2 := G2) r8z st1.1 l8 tlt ult hz2
          have k7 := two_set_keep st1.2 (n78) hz2
          rw [← hz2]
          clear hz2
          refine hK.out _ _ st2.1 ?_
          clear hK K
          intro hSw
          try simp only [Act.put, List.setIfInBounds_toArray, List.set_cons_zero, List.set_cons_succ]
          refine wpAnyH_done (by kernel_rfl) ?_ _
          exact ⟨p7, p8, rfl, k7.1, k7.2, st2.2.1, st2.2.2, st2.1⟩
    · go_simp
      obtain ⟨y1, hyy1⟩ : ∃ y1, y1 = y0.alloc (.cells #[.int .i64 0, .int .i64 0] 28) := ⟨_, rfl⟩
      have hby1 : Below y0.heap.size y0 y1 := by rw [hyy1]; exact al1 _ _
      obtain ⟨p7, hp7⟩ : ∃ p7, p7 = y0.heap.size := ⟨_, rfl⟩
      have r7y1 : RB y1 p7 := by rw [hyy1, hp7]; exact ⟨by simp, by simp, fun i => by simp [go_sem]⟩
      have l7 : w4.heap.size ≤ p7 := by rw [hp7]; exact hSy0.1.size
      have hSy1 := stk (Stp.mk hby1) hSy0
      rw [← hyy1, ← hp7]
      clear hyy1 hp7
      refine hK.out _ _ hSy1 ?_
      clear hK K
      intro hSw
      try simp only [Act.put, List.setIfInBounds_toArray, List.set_cons_zero, List.set_cons_succ]
      refine wpAnyH_ready (rs := [1, 5]) (by kernel_rfl) (by simp) ?_
      refine AllReadyH.cons rfl (fun K hK => ?_) (AllReadyH.cons rfl (fun K hK => ?_) AllReadyH.nil)
      · go_simp
        go_at_call 18
        refine (CT _ hSy1.1).mono ?_
        rintro e y2 ⟨rfl, hby2⟩
        have hSy2 := stk (Stp.mk hby2) hSy1
        have r7y2 := r7y1.below hby2
        refine hK.out _ _ hSy2 ?_
        clear hK K
        intro hSw
        try simp only [Act.put, List.setIfInBounds_toArray, List.set_cons_zero, List.set_cons_succ]
        refine wpAnyH_ready (rs := [3, 5]) (by kernel_rfl) (by simp) ?_
        refine AllReadyH.cons rfl (fun K hK => ?_) (AllReadyH.cons rfl (fun K hK => ?_) AllReadyH.nil)
        · go_simp
          go_at_call 18
          refine (CU _ hSy2.1).mono ?_
          rintro e y3 ⟨rfl, hby3⟩
          have hSy3 := stk (Stp.mk hby3) hSy2
          have r7y3 := r7y2.below hby3
          refine hK.out _ _ hSy3 ?_
          clear hK K
          intro hSw
          try simp only [Act.put, List.setIfInBounds_toArray, List.set_cons_zero, List.set_cons_succ]
          refine wpAnyH_ready (rs := [5]) (by kernel_rfl) (by simp) ?_
          refine AllReadyH.cons rfl (fun K hK => ?_) AllReadyH.nil
          go_simp
          obtain ⟨y4, hyy4⟩ : ∃ y4, y4 = y3.alloc (.cells #[.int .i64 0, .int .i64 0] 28) := ⟨_, rfl⟩
          have hby4 : Below y3.heap.size y3 y4 := by rw [hyy4]; exact al1 _ _
          obtain ⟨p8, hp8⟩ : ∃ p8, p8 = y3.heap.size := ⟨_, rfl⟩
          have r8y4 : RB y4 p8 := by rw [hyy4, hp8]; exact ⟨by simp, by simp, fun i => by simp [go_sem]⟩
          have l8 : w4.heap.size ≤ p8 := by rw [hp8]; exact hSy3.1.size
          have hSy4 := stk (Stp.mk hby4) hSy3
          have r7y4 := r7y3.below hby4
          have n87 : p8 ≠ p7 := by rw [hp8]; exact Nat.ne_of_gt (lt_of_cell r7y3.c0)
          rw [← hyy4, ← hp8]
          clear hyy4 hp8
          refine hK.out _ _ hSy4 ?_
          clear hK K
          intro hSw
          try simp only [Act.put, List.setIfInBounds_toArray, List.set_cons_zero, List.set_cons_succ]
          have c70 := r7y4.c0
          have c71 := r7y4.c1
          have c7f := r7y4.fz
          refine wpAnyH_ready (rs := [6]) (by kernel_rfl) (by simp) ?_
          refine AllReadyH.cons rfl (fun K hK => ?_) AllReadyH.nil
          go_simp
          obtain ⟨z1, hz1⟩ : ∃ z1, z1 = (y4.setCell ⟨p7, 0, none⟩ (.int .i64 F1)).setCell ⟨p7, 1, none⟩ (.int .i64 F2) := ⟨_, rfl⟩
          have st1 := two_set (F1 := F1) (F2 := F2) r7y4 hSy4 l7 tlt ult hz1
          have r8z := two_set_other r8y4 (n87) hz1
          rw [← hz1]
          clear hz1
          refine hK.out _ _ st1.1 ?_
          clear hK K
          intro hSw
          try simp only [Act.put, List.setIfInBounds_toArray, List.set_cons_zero, List.set_cons_succ]
          have c80 := r8z.c0
          have c81 := r8z.c1
          have c8f := r8z.fz
          refine wpAnyH_ready (rs := [7]) (by kernel_rfl) (by simp) ?_
          refine AllReadyH.cons rfl (fun K hK => ?_) AllReadyH.nil
          go_simp
          obtain ⟨z2', hz2⟩ : ∃ z2', z2' = (z1.setCell ⟨p8, 0, none⟩ (.int .i64 G1)).setCell ⟨p8, 1, none⟩ (.int .i64 G2) := ⟨_, rfl⟩
          have st2 := two_set (F1 := G1) (F2 := G2) r8z st1.1 l8 tlt ult hz2
          have k7 := two_set_keep st1.2 (fun e => n87 e.symm) hz2
          rw [← hz2]
          clear hz2
          refine hK.out _ _ st2.1 ?_
          clear hK K
          intro hSw
          try simp only [Act.put, List.setIfInBounds_toArray, List.set_cons_zero, List.set_cons_succ]
          refine wpAnyH_done (by kernel_rfl) ?_ _
          exact ⟨p7, p8, rfl, k7.1, k7.2, st2.2.1, st2.2.2, st2.1⟩
        · go_simp
          obtain ⟨y3, hyy3⟩ : ∃ y3, y3 = y2.alloc (.cells #[.int .i64 0, .int .i64 0] 28) := ⟨_, rfl⟩
          have hby3 : Below y2.heap.size y2 y3 := by rw [hyy3]; exact al1 _ _
          obtain ⟨p8, hp8⟩ : ∃ p8, p8 = y2.heap.size := ⟨_, rfl⟩
          have r8y3 : RB y3 p8 := by rw [hyy3, hp8]; exact ⟨by simp, by simp, fun i => by simp [go_sem]⟩
          have l8 : w4.heap.size ≤ p8 := by rw [hp8]; exact hSy2.1.size
          have hSy3 := stk (Stp.mk hby3) hSy2
          have r7y3 := r7y2.below hby3
          have n87 : p8 ≠ p7 := by rw [hp8]; exact Nat.ne_of_gt (lt_of_cell r7y2.c0)
          rw [← hyy3, ← hp8]
          clear hyy3 hp8
          refine hK.out _ _ hSy3 ?_
          clear hK K
          intro hSw
          try simp only [Act.put, List.setIfInBounds_toArray, List.set_cons_zero, List.set_cons_succ]
          refine wpAnyH_ready (rs := [3]) (by kernel_rfl) (by simp) ?_
          refine AllReadyH.cons rfl (fun K hK => ?_) AllReadyH.nil
          go_simp
          go_at_call 18
          refine (CU _ hSy3.1).mono ?_
          rintro e y4 ⟨rfl, hby4⟩
          have hSy4 := stk (Stp.mk hby4) hSy3
          have r7y4 := r7y3.below hby4
          have r8y4 := r8y3.below hby4
          refine hK.out _ _ hSy4 ?_
          clear hK K
          intro hSw
          try simp only [Act.put, List.setIfInBounds_toArray, List.set_cons_zero, List.set_cons_succ]
          have c70 := r7y4.c0
          have c71 := r7y4.c1
          have c7f := r7y4.fz
          refine wpAnyH_ready (rs := [6]) (by kernel_rfl) (by simp) ?_
          refine AllReadyH.cons rfl (fun K hK => ?_) AllReadyH.nil
          go_simp
          obtain ⟨z1, hz1⟩ : ∃ z1, z1 = (y4.setCell ⟨p7, 0, none⟩ (.int .i64 F1)).setCell ⟨p7, 1, none⟩ (.int .i64 F2) := ⟨_, rfl⟩
          have st1 := two_set (F1 := F1) (F2 := F2) r7y4 hSy4 l7 tlt ult hz1
          have r8z := two_set_other r8y4 (n87) hz1
          rw [← hz1]
          clear hz1
          refine hK.out _ _ st1.1 ?_
          clear hK K
          intro hSw
          try simp only [Act.put, List.setIfInBounds_toArray, List.set_cons_zero, List.set_cons_succ]
          have c80 := r8z.c0
          have c81 := r8z.c1
          have c8f := r8z.fz
          refine wpAnyH_ready (rs := [7]) (by kernel_rfl) (by simp) ?_
          refine AllReadyH.cons rfl (fun K hK => ?_) AllReadyH.nil
          go_simp
          obtain ⟨z2', hz2⟩ : ∃ z2', z2' = (z1.setCell ⟨p8, 0, none⟩ (.int .i64 G1)).setCell ⟨p8, 1, none⟩ (.int .i64 G2) := ⟨_, rfl⟩
          have st2 := two_set (F1 := G1) (F2 := G2) r8z st1.1 l8 tlt ult hz2
          have k7 := two_set_keep st1.2 (fun e => n87 e.symm) hz2
          rw [← hz2]
          clear hz2
          refine hK.out _ _ st2.1 ?_
          clear hK K
          intro hSw
          try simp only [Act.put, List.setIfInBounds_toArray, List.set_cons_zero, List.set_cons_succ]
          refine wpAnyH_done (by kernel_rfl) ?_ _
          exact ⟨p7, p8, rfl, k7.1, k7.2, st2.2.1, st2.2.2, st2.1⟩
      · go_simp
        obtain ⟨y2, hyy2⟩ : ∃ y2, y2 = y1.alloc (.cells #[.int .i64 0, .int .i64 0] 28) := ⟨_, rfl⟩
        have hby2 : Below y1.heap.size y1 y2 := by rw [hyy2]; exact al1 _ _
        obtain ⟨p8, hp8⟩ : ∃ p8, p8 = y1.heap.size := ⟨_, rfl⟩
        have r8y2 : RB y2 p8 := by rw [hyy2, hp8]; exact ⟨by simp, by simp, fun i => by simp [go_sem]⟩
        have l8 : w4.heap.size ≤ p8 := by rw [hp8]; exact hSy1.1.size
        have hSy2 := stk (Stp.mk hby2) hSy1
        have r7y2 := r7y1.below hby2
        have n87 : p8 ≠ p7 := by rw [hp8]; exact Nat.ne_of_gt (lt_of_cell r7y1.c0)
        rw [← hyy2, ← hp8]
        clear hyy2 hp8
        refine hK.out _ _ hSy2 ?_
        clear hK K
        intro hSw
        try simp only [Act.put, List.setIfInBounds_toArray, List.set_cons_zero, List.set_cons_succ]
        refine wpAnyH_ready (rs := [1]) (by kernel_rfl) (by simp) ?_
        refine AllReadyH.cons rfl (fun K hK => ?_) AllReadyH.nil
        go_simp
        go_at_call 18
        refine (CT _ hSy2.1).mono ?_
        rintro e y3 ⟨rfl, hby3⟩
        have hSy3 := stk (Stp.mk hby3) hSy2
        have r7y3 := r7y2.below hby3
        have r8y3 := r8y2.below hby3
        refine hK.out _ _ hSy3 ?_
        clear hK K
        intro hSw
        try simp only [Act.put, List.setIfInBounds_toArray, List.set_cons_zero, List.set_cons_succ]
        refine wpAnyH_ready (rs := [3]) (by kernel_rfl) (by simp) ?_
        refine AllReadyH.cons rfl (fun K hK => ?_) AllReadyH.nil
        go_simp
        go_at_call 18
        refine (CU _ hSy3.1).mono ?_
        rintro e y4 ⟨rfl, hby4⟩
        have hSy4 := stk (Stp.mk hby4) hSy3
        have r7y4 := r7y3.below hby4
        have r8y4 := r8y3.below hby4
        refine hK.out _ _ hSy4 ?_
        clear hK K
        intro hSw
        try simp only [Act.put, List.setIfInBounds_toArray, List.set_cons_zero, List.set_cons_succ]
        have c70 := r7y4.c0
        have c71 := r7y4.c1
        have c7f := r7y4.fz
        refine wpAnyH_ready (rs := [6]) (by kernel_rfl) (by simp) ?_
        refine AllReadyH.cons rfl (fun K hK => ?_) AllReadyH.nil
        go_simp
        obtain ⟨z1, hz1⟩ : ∃ z1, z1 = (y4.setCell ⟨p7, 0, none⟩ (.int .i64 F1)).setCell ⟨p7, 1, none⟩ (.int .i64 F2) := ⟨_, rfl⟩
        have st1 := two_set (F1 := F1) (F2 := F2) r7y4 hSy4 l7 tlt ult hz1
        have r8z := two_set_other r8y4 (n87) hz1
        rw [← hz1]
        clear hz1
        refine hK.out _ _ st1.1 ?_
        clear hK K
        intro hSw
        try simp only [Act.put, List.setIfInBounds_toArray, List.set_cons_zero, List.set_cons_succ]
        have c80 := r8z.c0
        have c81 := r8z.c1
        have c8f := r8z.fz
        refine wpAnyH_ready (rs := [7]) (by kernel_rfl) (by simp) ?_
        refine AllReadyH.cons rfl (fun K hK => ?_) AllReadyH.nil
        go_simp
        obtain ⟨z2', hz2⟩ : ∃ z2', z2' = (z1.setCell ⟨p8, 0, none⟩ (.int .i64 G1)).setCell ⟨p8, 1, none⟩ (.int .i64 G2) := ⟨_, rfl⟩
        have st2 := two_set (F1 := G1) (F2 := G2) r8z st1.1 l8 tlt ult hz2
        have k7 := two_set_keep st1.2 (fun e => n87 e.symm) hz2
        rw [← hz2]
        clear hz2
        refine hK.out _ _ st2.1 ?_
        clear hK K
        intro hSw
        try simp only [Act.put, List.setIfInBounds_toArray, List.set_cons_zero, List.set_cons_succ]
        refine wpAnyH_done (by kernel_rfl) ?_ _
        exact ⟨p7, p8, rfl, k7.1, k7.2, st2.2.1, st2.2.2, st2.1⟩
    · go_simp
      obtain ⟨y1, hyy1⟩ : ∃ y1, y1 = y0.alloc (.cells #[.int .i64 0, .int .i64 0] 28) := ⟨_, rfl⟩
      have hby1 : Below y0.heap.size y0 y1 := by rw [hyy1]; exact al1 _ _
      obtain ⟨p8, hp8⟩ : ∃ p8, p8 = y0.heap.size := ⟨_, rfl⟩
      have r8y1 : RB y1 p8 := by rw [hyy1, hp8]; exact ⟨by simp, by simp, fun i => by simp [go_sem]⟩
      have l8 : w4.heap.size ≤ p8 := by rw [hp8]; exact hSy0.1.size
      have hSy1 := stk (Stp.mk hby1) hSy0
      rw [← hyy1, ← hp8]
      clear hyy1 hp8
      refine hK.out _ _ hSy1 ?_
      clear hK K
      intro hSw
      try simp only [Act.put, List.setIfInBounds_toArray, List.set_cons_zero, List.set_cons_succ]
      refine wpAnyH_ready (rs := [1, 4]) (by kernel_rfl) (by simp) ?_
      refine AllReadyH.cons rfl (fun K hK => ?_) (AllReadyH.cons rfl (fun K hK => ?_) AllReadyH.nil)
      · go_simp
        go_at_call 18
        refine (CT _ hSy1.1).mono ?_
        rintro e y2 ⟨rfl, hby2⟩
        have hSy2 := stk (Stp.mk hby2) hSy1
        have r8y2 := r8y1.below hby2
        refine hK.out _ _ hSy2 ?_
        clear hK K
        intro hSw
        try simp only [Act.put, List.setIfInBounds_toArray, List.set_cons_zero, List.set_cons_succ]
        refine wpAnyH_ready (rs := [3, 4]) (by kernel_rfl) (by simp) ?_
        refine AllReadyH.cons rfl (fun K hK => ?_) (AllReadyH.cons rfl (fun K hK => ?_) AllReadyH.nil)
        · go_simp
          go_at_call 18
          refine (CU _ hSy2.1).mono ?_
          rintro e y3 ⟨rfl, hby3⟩
          have hSy3 := stk (Stp.mk hby3) hSy2
          have r8y3 := r8y2.below hby3
          refine hK.out _ _ hSy3 ?_
          clear hK K
          intro hSw
          try simp only [Act.put, List.setIfInBounds_toArray, List.set_cons_zero, List.set_cons_succ]
          refine wpAnyH_ready (rs := [4]) (by kernel_rfl) (by simp) ?_
          refine AllReadyH.cons rfl (fun K hK => ?_) AllReadyH.nil
          go_simp
          obtain ⟨y4, hyy4⟩ : ∃ y4, y4 = y3.alloc (.cells #[.int .i64 0, .int .i64 0] 28) := ⟨_, rfl⟩
          have hby4 : Below y3.heap.size y3 y4 := by rw [hyy4]; exact al1 _ _
          obtain ⟨p7, hp7⟩ : ∃ p7, p7 = y3.heap.size := ⟨_, rfl⟩
          have r7y4 : RB y4 p7 := by rw [hyy4, hp7]; exact ⟨by simp, by simp, fun i => by simp [go_sem]⟩
          have l7 : w4.heap.size ≤ p7 := by rw [hp7]; exact hSy3.1.size
          have hSy4 := stk (Stp.mk hby4) hSy3
          have r8y4 := r8y3.below hby4
          have n78 : p7 ≠ p8 := by rw [hp7]; exact Nat.ne_of_gt (lt_of_cell r8y3.c0)
          rw [← hyy4, ← hp7]
          clear hyy4 hp7
          refine hK.out _ _ hSy4 ?_
          clear hK K
          intro hSw
          try simp only [Act.put, List.setIfInBounds_toArray, List.set_cons_zero, List.set_cons_succ]
          have c70 := r7y4.c0
          have c71 := r7y4.c1
          have c7f := r7y4.fz
          refine wpAnyH_ready (rs := [6]) (by kernel_rfl) (by simp) ?_
          refine AllReadyH.cons rfl (fun K hK => ?_) AllReadyH.nil
          go_simp
          obtain ⟨z1, hz1⟩ : ∃ z1, z1 = (y4.setCell ⟨p7, 0, none⟩ (.int .i64 F1)).setCell ⟨p7, 1, none⟩ (.int .i64 F2) := ⟨_, rfl⟩
          have st1 := two_set (F1 := F1) (F2 := F2) r7y4 hSy4 l7 tlt ult hz1
          have r8z := two_set_other r8y4 (fun e => n78 e.symm) hz1
          rw [← hz1]
          clear hz1
          refine hK.out _ _ st1.1 ?_
          clear hK K
          intro hSw
          try simp only [Act.put, List.setIfInBounds_toArray, List.set_cons_zero, List.set_cons_succ]
          have c80 := r8z.c0
          have c81 := r8z.c1
          have c8f := r8z.fz
          refine wpAnyH_ready (rs := [7]) (by kernel_rfl) (by simp) ?_
          refine AllReadyH.cons rfl (fun K hK => ?_) AllReadyH.nil
          go_simp
          obtain ⟨z2', hz2⟩ : ∃ z2', z2' = (z1.setCell ⟨p8, 0, none⟩ (.int .i64 G1)).setCell ⟨p8, 1, none⟩ (.int .i64 G2) := ⟨_, rfl⟩
          have st2 := two_set (F1 := G1) (F2 := G2) r8z st1.1 l8 tlt ult hz2
          have k7 := two_set_keep st1.2 (n78) hz2
          rw [← hz2]
          clear hz2
          refine hK.out _ _ st2.1 ?_
          clear hK K
          intro hSw
          try simp only [Act.put, List.setIfInBounds_toArray, List.set_cons_zero, List.set_cons_succ]
          refine wpAnyH_done (by kernel_rfl) ?_ _
          exact ⟨p7, p8, rfl, k7.1, k7.2, st2.2.1, st2.2.2, st2.1⟩
        · go_simp
          obtain ⟨y3, hyy3⟩ : ∃ y3, y3 = y2.alloc (.cells #[.int .i64 0, .int .i64 0] 28) := ⟨_, rfl⟩
          have hby3 : Below y2.heap.size y2 y3 := by rw [hyy3]; exact al1 _ _
          obtain ⟨p7, hp7⟩ : ∃ p7, p7 = y2.heap.size := ⟨_, rfl⟩
          have r7y3 : RB y3 p7 := by rw [hyy3, hp7]; exact ⟨by simp, by simp, fun i => by simp [go_sem]⟩
          have l7 : w4.heap.size ≤ p7 := by rw [hp7]; exact hSy2.1.size
          have hSy3 := stk (Stp.mk hby3) hSy2
          have r8y3 := r8y2.below hby3
          have n78 : p7 ≠ p8 := by rw [hp7]; exact Nat.ne_of_gt (lt_of_cell r8y2.c0)
          rw [← hyy3, ← hp7]
          clear hyy3 hp7
          refine hK.out _ _ hSy3 ?_
          clear hK K
          intro hSw
          try simp only [Act.put, List.setIfInBounds_toArray, List.set_cons_zero, List.set_cons_succ]
          refine wpAnyH_ready (rs := [3]) (by kernel_rfl) (by simp) ?_
          refine AllReadyH.cons rfl (fun K hK => ?_) AllReadyH.nil
          go_simp
          go_at_call 18
          refine (CU _ hSy3.1).mono ?_
          rintro e y4 ⟨rfl, hby4⟩
          have hSy4 := stk (Stp.mk hby4) hSy3
          have r8y4 := r8y3.below hby4
          have r7y4 := r7y3.below hby4
          refine hK.out _ _ hSy4 ?_
          clear hK K
          intro hSw
          try simp only [Act.put, List.setIfInBounds_toArray, List.set_cons_zero, List.set_cons_succ]
          have c70 := r7y4.c0
          have c71 := r7y4.c1
          have c7f := r7y4.fz
          refine wpAnyH_ready (rs := [6]) (by kernel_rfl) (by simp) ?_
          refine AllReadyH.cons rfl (fun K hK => ?_) AllReadyH.nil
          go_simp
          obtain ⟨z1, hz1⟩ : ∃ z1, z1 = (y4.setCell ⟨p7, 0, none⟩ (.int .i64 F1)).setCell ⟨p7, 1, none⟩ (.int .i64 F2) := ⟨_, rfl⟩
          have st1 := two_set (F1 := F1) (F2 := F2) r7y4 hSy4 l7 tlt ult hz1
          have r8z := two_set_other r8y4 (fun e => n78 e.symm) hz1
          rw [← hz1]
          clear hz1
          refine hK.out _ _ st1.1 ?_
          clear hK K
          intro hSw
          try simp only [Act.put, List.setIfInBounds_toArray, List.set_cons_zero, List.set_cons_succ]
          have c80 := r8z.c0
          have c81 := r8z.c1
          have c8f := r8z.fz
          refine wpAnyH_ready (rs := [7]) (by kernel_rfl) (by simp) ?_
          refine AllReadyH.cons rfl (fun K hK => ?_) AllReadyH.nil
          go_simp
          obtain ⟨z2', hz2⟩ : ∃ z2', z2' = (z1.setCell ⟨p8, 0, none⟩ (.int .i64 G1)).setCell ⟨p8, 1, none⟩ (.int .i64 G2) := ⟨_, rfl⟩
          have st2 := two_set (F1 := G1) (F2 := G2) r8z st1.1 l8 tlt ult hz2
          have k7 := two_set_keep st1.2 (n78) hz2
          rw [← hz2]
          clear hz2
          refine hK.out _ _ st2.1 ?_
          clear hK K
          intro hSw
          try simp only [Act.put, List.setIfInBounds_toArray, List.set_cons_zero, List.set_cons_succ]
          refine wpAnyH_done (by kernel_rfl) ?_ _
          exact ⟨p7, p8, rfl, k7.1, k7.2, st2.2.1, st2.2.2, st2.1⟩
      · go_simp
        obtain ⟨y2, hyy2⟩ : ∃ y2, y2 = y1.alloc (.cells #[.int .i64 0, .int .i64 0] 28) := ⟨_, rfl⟩
        have hby2 : Below y1.heap.size y1 y2 := by rw [hyy2]; exact al1 _ _
        obtain ⟨p7, hp7⟩ : ∃ p7, p7 = y1.heap.size := ⟨_, rfl⟩
        have r7y2 : RB y2 p7 := by rw [hyy2, hp7]; exact ⟨by simp, by simp, fun i => by simp [go_sem]⟩
        have l7 : w4.heap.size ≤ p7 := by rw [hp7]; exact hSy1.1.size
        have hSy2 := stk (Stp.mk hby2) hSy1
        have r8y2 := r8y1.below hby2
        have n78 : p7 ≠ p8 := by rw [hp7]; exact Nat.ne_of_gt (lt_of_cell r8y1.c0)
        rw [← hyy2, ← hp7]
        clear hyy2 hp7
        refine hK.out _ _ hSy2 ?_
        clear hK K
        intro hSw
        try simp only [Act.put, List.setIfInBounds_toArray, List.set_cons_zero, List.set_cons_succ]
        refine wpAnyH_ready (rs := [1]) (by kernel_rfl) (by simp) ?_
        refine AllReadyH.cons rfl (fun K hK => ?_) AllReadyH.nil
        go_simp
        go_at_call 18
        refine (CT _ hSy2.1).mono ?_
        rintro e y3 ⟨rfl, hby3⟩
        have hSy3 := stk (Stp.mk hby3) hSy2
        have r8y3 := r8y2.below hby3
        have r7y3 := r7y2.below hby3
        refine hK.out _ _ hSy3 ?_
        clear hK K
        intro hSw
        try simp only [Act.put, List.setIfInBounds_toArray, List.set_cons_zero, List.set_cons_succ]
        refine wpAnyH_ready (rs := [3]) (by kernel_rfl) (by simp) ?_
        refine AllReadyH.cons rfl (fun K hK => ?_) AllReadyH.nil
        go_simp
        go_at_call 18
        refine (CU _ hSy3.1).mono ?_
        rintro e y4 ⟨rfl, hby4⟩
        have hSy4 := stk (Stp.mk hby4) hSy3
        have r8y4 := r8y3.below hby4
        have r7y4 := r7y3.below hby4
        refine hK.out _ _ hSy4 ?_
        clear hK K
        intro hSw
        try simp only [Act.put, List.setIfInBounds_toArray, List.set_cons_zero, List.set_cons_succ]
        have c70 := r7y4.c0
        have c71 := r7y4.c1
        have c7f := r7y4.fz
        refine wpAnyH_ready (rs := [6]) (by kernel_rfl) (by simp) ?_
        refine AllReadyH.cons rfl (fun K hK => ?_) AllReadyH.nil
        go_simp
        obtain ⟨z1, hz1⟩ : ∃ z1, z1 = (y4.setCell ⟨p7, 0, none⟩ (.int .i64 F1)).setCell ⟨p7, 1, none⟩ (.int .i64 F2) := ⟨_, rfl⟩
        have st1 := two_set (F1 := F1) (F2 := F2) r7y4 hSy4 l7 tlt ult hz1
        have r8z := two_set_other r8y4 (fun e => n78 e.symm) hz1
        rw [← hz1]
        clear hz1
        refine hK.out _ _ st1.1 ?_
        clear hK K
        intro hSw
        try simp only [Act.put, List.setIfInBounds_toArray, List.set_cons_zero, List.set_cons_succ]
        have c80 := r8z.c0
        have c81 := r8z.c1
        have c8f := r8z.fz
        refine wpAnyH_ready (rs := [7]) (by kernel_rfl) (by simp) ?_
        refine AllReadyH.cons rfl (fun K hK => ?_) AllReadyH.nil
        go_simp
        obtain ⟨z2', hz2⟩ : ∃ z2', z2' = (z1.setCell ⟨p8, 0, none⟩ (.int .i64 G1)).setCell ⟨p8, 1, none⟩ (.int .i64 G2) := ⟨_, rfl⟩
        have st2 := two_set (F1 := G1) (F2 := G2) r8z st1.1 l8 tlt ult hz2
        have k7 := two_set_keep st1.2 (n78) hz2
        rw [← hz2]
        clear hz2
        refine hK.out _ _ st2.1 ?_
        clear hK K
        intro hSw
        try simp only [Act.put, List.setIfInBounds_toArray, List.set_cons_zero, List.set_cons_succ]
        refine wpAnyH_done (by kernel_rfl) ?_ _
        exact ⟨p7, p8, rfl, k7.1, k7.2, st2.2.1, st2.2.2, st2.1⟩
  rintro a5 w5 ⟨p7, p8, rfl, c70, c71, c80, c81, b5, t5, u5⟩
  simp only [Act.put, List.setIfInBounds_toArray, List.set_cons_zero, List.set_cons_succ]
  go_wp2_with fail
  refine (RT _ b5).mono ?_
  rintro e w6 ⟨rfl, hb6⟩
  obtain ⟨w7, hw7⟩ : ∃ w7, w7 = w6.alloc (.cells #[.int .i64 R1, .int .i64 R2] 28) := ⟨_, rfl⟩
  have b67 : Below w6.heap.size w6 w7 := by rw [hw7]; exact al1 _ _
  have b57 : Below w5.heap.size w5 w7 := hb6.trans (b67.mono hb6.size)
  have d70 := bkeep b57 c70
  have d71 := bkeep b57 c71
  have d80 := bkeep b57 c80
  have d81 := bkeep b57 c81
  have t7 := bkeep b57 t5
  have u7 := bkeep b57 u5
  have h70 : w7.cell? ⟨w6.heap.size, 0, none⟩ = some (.int .i64 R1) := by rw [hw7]; simp
  have h71 : w7.cell? ⟨w6.heap.size, 1, none⟩ = some (.int .i64 R2) := by rw [hw7]; simp
  have b47 : Below w4.heap.size w4 w7 := b5.trans (b57.mono b5.size)
  have bel7 : Below w.heap.size w w7 := bel4.trans (b47.mono bel4.size)
  rw [hw7] at d70 d71 d80 d81 t7 h70 h71
  by_cases hR : R1 = 0
  rotate_left
  · have hRb : (R1 != 0) = true := by simpa using hR
    have hGb : (G1 != 0) = true := by simpa using HGH.out hR
    have hFR := HFH.out hR
    simp only [Prod.mk.injEq] at hFR
    obtain ⟨rfl, rfl⟩ := hFR
    clear HF0 HFH HGH HTP
    go_wp2_with fail
    go_ret
    exact ⟨rfl, by rw [← hw7]; exact bel7⟩
  subst hR
  have hTl : T.length ≤ 9223372036854775807 := by omega
  have hTe := HTP.out.1
  have hTl' : T'.length ≤ 9223372036854775807 := by omega
  have HTE := hd hTe
  clear hTe
  have g7 : Below w7.heap.size w7 w7 ∧ w7.cell? ⟨w.heap.size, 0, none⟩ = some (.slice (some ⟨b, o, none⟩) ds.length cap) ∧ w7.cell? ⟨w2.heap.size, 0, none⟩ = some (.slice aov ds.length capv) := ⟨Below.refl _ _, by rw [hw7]; exact t7, u7⟩
  have st0 : Stp w7 w7.drew := ⟨drw1 w7⟩
  have hL : ∀ z, Below w7.heap.size w7 z → Below w4.heap.size w4 z := fun z hz => b47.trans (hz.mono b47.size)
  go_wp2_with fail
  rw [← hw7]
  rw [← hw7] at d70 d71 d80 d81
  have HW7 := hd hw7
  clear hw7 h70 h71 t7 u7 t5 u5 hb6 b67 b57 c70 c71 c80 c81
  go_region_held3 (fun w' => Below w7.heap.size w7 w' ∧ w'.cell? ⟨w.heap.size, 0, none⟩ = some (.slice (some ⟨b, o, none⟩) ds.length cap) ∧ w'.cell? ⟨w2.heap.size, 0, none⟩ = some (.slice aov ds.length capv))
    (exact stk (by assumption) (by assumption))
    (first
      | (go_at_call 23; have s8q := s8; refine (TU _ (hL _ (And.left (by assumption)))).mono ?_; rintro e w9 ⟨v9, rfl, own9, hb9⟩; have st9 := Stp.mk hb9; have s9 := SsV_owned own9 hTl'; have s8' := s8q.below hb9; clear s8q; obtain ⟨ao9, cap9, rfl⟩ := owns_slice own9; clear own9 hb9)
      | (go_at_call 23; refine (TT _ (hL _ (And.left (by assumption)))).mono ?_; rintro e w8 ⟨v8, rfl, own8, hb8⟩; have st8 := Stp.mk hb8; have s8 := SsV_owned own8 hTl; obtain ⟨ao8, cap8, rfl⟩ := owns_slice own8; clear own8 hb8))
  have h9 : Below w7.heap.size w7 w9 := And.left (by assumption)
  have e70 := bkeep h9 d70
  have e80 := bkeep h9 d80
  have bel9 : Below w.heap.size w w9 := bel7.trans (h9.mono bel7.size)
  clear CT CU RT TT TU hL st0 st8 st9 g7 hS0 d70 d71 d80 d81 b47 bel7 h9 s8 HFH HGH HW7 HSZ HW3 hl
  have hTb : ((T.length : Int) == (T'.length : Int)) = true := by rw [HTE.out]; simp
  go_wp2_with fail
  go_loopw [12] (fun i wr => ∃ j : Nat, j ≤ T.length ∧ i = .int .i64 j ∧ wr = w9) (fun i _ => T.length - (intOf i).toNat)
  case atStart => exact ⟨0, Nat.zero_le _, rfl, rfl⟩
  case round =>
    obtain ⟨j, hj, rfl, rfl⟩ := hrel
    by_cases hlt : j < T.length
    · obtain ⟨b8, o8, rfl, c8⟩ := s8'.at_ hlt
      have PO := placeOf_any T' T[j] _ _ s9
      have hwn : 0 ≤ whr T' T[j] := (whr_mem T' T[j]).2 (HTP.out.2 _ (List.getElem_mem hlt))
      generalize whr T' T[j] = r at *
      have hrn : ¬ r < 0 := by omega
      generalize T[j] = tj at *
      clear s8' s9
      go_wp2_with fail
      refine PO.mono ?_
      rintro e wx ⟨rfl, hwx⟩
      obtain rfl := hwx.symm
      go_wp2_with fail
      go_roundw
      case rel => exact ⟨j + 1, by omega, by go_num, trivial⟩
      case measure => simp [intOf]; omega
    · by_cases hF : F1 = 0
      · have hG := HF0.out.1 hF
        subst hF hG
        go_wp2_with fail
        go_ret
        exact ⟨rfl, bel9⟩
      · have hFb : (F1 == 0) = false := by simpa using hF
        have hGb : (G1 == 0) = false := by simpa using fun h => hF (HF0.out.2 h)
        go_wp2_with fail
        go_ret
        exact ⟨rfl, bel9⟩

set_option maxRecDepth 100000 in
theorem lifted (os : Os) (started : os.Started) (H : Type) (enc : TypeId × Value → H) :
    ReturnsInHanded {} Try.checked os 8 .any (Rows.defsTurnsSpec.pre6 enc Try.prog Try.f8 Rows.defsTurnsRow.domain false) (Rows.defsTurnsSpec.post enc Try.prog Try.f8 false true false false) := by
  refine returnsInHanded_of_change (C := Try.checked) own started (by kernel_rfl) Try.func8
    (ChangeSpec.witness6 (enc := enc) (C := Try.checked) false ⟨#[], #[.agg #[.slice none 0 0], .int .i64 0], []⟩ 8 (by kernel_rfl) (by kernel_rfl) (by kernel_rfl) (by kernel_rfl)) ?_
  intro W base args ds gs before hval0 hW hcnd _
  have hval : ∀ (j : Nat) t v, Try.f8.params[j]? = some t → args[j]? = some v → Value.okWide Try.prog W .any base t v := hval0
  have hW' := hW
  obtain ⟨p, q, hA0, hV, rfl, hfz, hnd⟩ := hW
  have hA : DataW.TrodAll enc Try.prog W 0 (fun _ => true) true Try.f8.params.toList args.toList ds p := hA0
  rw [Try.params8] at hA hval
  obtain ⟨v0, vs0, d0, ds0, p0, q0, hargs, rfl, rfl, h0, r0⟩ := trodAll_cons hA
  obtain ⟨v1, vs1, d1, ds1, p1, q1, rfl, rfl, rfl, h1, r1⟩ := trodAll_cons r0
  obtain ⟨rfl, rfl, rfl⟩ := trodAll_nil r1
  obtain rfl : args = #[v0, v1] := by cases args; simp_all
  obtain ⟨rfl, rfl⟩ := trodVars_none hV
  have k0 := h0
  have k1 := h1
  have lt0 : ∀ x ∈ p0, x.block < W.heap.size := by obtain ⟨m, hm⟩ := k0; exact DataW.trod_lt m _ _ _ hm
  have lt1 : ∀ x ∈ p1, x.block < W.heap.size := by obtain ⟨m, hm⟩ := k1; exact DataW.trod_lt m _ _ _ hm
  obtain ⟨xs, ua, rfl, hxs⟩ := open_text (hval 0 24 v0 rfl rfl) h0
  obtain ⟨n, rfl⟩ := okWide_int Try.underlying3 (hval 1 3 v1 rfl rfl)
  obtain ⟨_, ao, cap, rfl, _⟩ := id hxs
  have hcap := (open_cap k0).1
  clear hA0 hval0
  refine (walk xs ao cap n W hxs hcap).mono fun e W' ⟨he, bel⟩ => ?_
  subst he
  exact ⟨_, rfl, _, _, _, [], _, [], hW', trodAll_mk1 (shut_bool Try.underlying4 _), (trodAll_cons_mk (Below.trod laidOut (by kernel_rfl) (of_decide_eq_true (by kernel_rfl)) k0 bel lt0) (trodAll_cons_mk (Below.trod laidOut (by kernel_rfl) (of_decide_eq_true (by kernel_rfl)) k1 bel lt1) trodAll_mk0)), rfl, bel.frame _, fun h => by cases h⟩

theorem stands : Rows.defsTurnsRow.holds Try.pinned (OpenSpec.ofChange Rows.defsTurnsSpec) :=
  OpenClaim.holds_of_wide 8 Try.f8 rfl rfl rfl rfl rfl rfl rfl ⟨rfl, rfl, rfl, rfl, rfl⟩ rfl rfl rfl rfl rfl (by kernel_rfl) Try.func8 (by kernel_rfl)
    (of_decide_eq_true (by kernel_rfl)) (by unfold Func.isWrapper; first | (rw [if_pos (by decide +kernel)]; kernel_rfl) | (rw [if_neg (by decide +kernel)]; exact ⟨rfl, rfl⟩))
    (fun os started H enc _ => lifted os started H enc)

theorem proved : Rows.DefsTurnsSaid := stands
#print axioms proved
end Go.Proofs.Ytdikjhfnmkejcab.defsTurns
