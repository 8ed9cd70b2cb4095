/- What is wrong with a grammar and a word: the program's check. -/
import Derived.Test.YtlhdppkllmnmkadL14
import Derived.Test.YtlhdppkllmnmkadL09
import Derived.Test.YtlhdppkllmnmkadL12
import Derived.Test.YtlhdppkllmnmkadL13
namespace Go.Proofs.Ytlhdppkllmnmkad.G
open Go.RowKit
/-- Where the first terminal is that is none. -/
def IxR (terms : Int) (W : List Int) (r : Int) : Prop := (0 ≤ r → ∀ re, bwF terms re W 0 = (15, r)) ∧ (r < 0 → ∀ re, bwF terms re W 0 = re)
theorem bw_hit {terms : Int} {W : List Int} {k : Nat} (hk : k < W.length) (hb : W[k] < 0 ∨ terms ≤ W[k]) (hall : ∀ re, bwF terms re W 0 = bwF terms re (W.drop k) k) : IxR terms W (k : Int) :=
  ⟨fun _ re => by rw [hall, bwF_at hk, if_pos hb], fun h => by omega⟩
set_option maxRecDepth 100000 in
set_option maxHeartbeats 4000000 in
theorem chk1_any (n t : Int) (b : Nat) (w : World) (hb : w.cell? ⟨b, 1, none⟩ = some (.int .i64 t)) :
    Calls Try.prog 122 #[.int .i64 n, .pointer (some ⟨b, 0, none⟩)] w fun e w' => e = .returned (.bool (decide (n < 0) || decide (t ≤ n))) ∧ w' = w := by
  by_cases h : n < 0
  · have h1 : decide (n < 0) = true := decide_eq_true h
    go_enter Try.func122, Try.ntmps122
    go_wp2_with fail
    go_ret
    exact ⟨ret_bool (by rw [h1]; rfl), rfl⟩
  · have h1 : decide (n < 0) = false := decide_eq_false h
    go_enter Try.func122, Try.ntmps122
    go_wp2_with fail
    go_ret
    exact ⟨ret_bool (by first | (simp; done) | (simp; omega)), rfl⟩
set_option maxRecDepth 100000 in
set_option maxHeartbeats 4000000 in
theorem chIndex_any (W : List Int) (va : Value) (t : Int) (bk : Nat) (w : World) (ha : IsV w All va W) (hk : w.cell? ⟨bk, 1, none⟩ = some (.int .i64 t)) :
    Calls Try.prog 121 #[va, .func (.func 122) #[] #[.pointer (some ⟨bk, 0, none⟩)]] w fun e w' => ∃ r : Int, e = .returned (.int .i64 r) ∧ IxR t W r ∧ w' = w := by
  have AA := fun n => chk1_any n t bk w hk
  obtain ⟨ao, cap, rfl⟩ := ha.slice
  have hl := ha.1
  go_enter Try.func121, Try.ntmps121
  go_wp2_with fail
  go_loopw [8] (fun i wr => ∃ k : Nat, k ≤ W.length ∧ i = .int .i64 k ∧ Hid (∀ re, bwF t re W 0 = bwF t re (W.drop k) k) ∧ wr = w) (fun i _ => W.length - (intOf i).toNat)
  case atStart => exact ⟨0, Nat.zero_le _, rfl, hd (fun re => by rw [List.drop_zero]), rfl⟩
  case round =>
    obtain ⟨k, hk', rfl, hall, rfl⟩ := hrel
    by_cases hlt : k < W.length
    · obtain ⟨b, o, rfl, c0⟩ := ha.at_ hlt
      have AK := AA W[k]
      by_cases hx : W[k] < 0 ∨ t ≤ W[k]
      · have HH := hd (bw_hit hlt hx hall.out)
        have hq : (decide (W[k] < 0) || decide (t ≤ W[k])) = true := by simp only [Bool.or_eq_true, decide_eq_true_eq]; exact hx
        rw [hq] at AK
        clear hx hq hall AA
        generalize W[k] = x at *
        go_wp2_with fail
        refine AK.mono ?_
        rintro e wx ⟨rfl, hwx⟩
        obtain rfl := hwx.symm
        go_wp2_with fail
        go_ret
        exact ⟨(k : Int), rfl, HH.out, rfl⟩
      · have HN : Hid (∀ re, bwF t re W 0 = bwF t re (W.drop (k + 1)) (k + 1)) := hd (fun re => by rw [hall.out, bwF_at hlt, if_neg hx])
        have hq : (decide (W[k] < 0) || decide (t ≤ W[k])) = false := by rw [← Bool.not_eq_true]; simp only [Bool.or_eq_true, decide_eq_true_eq]; exact hx
        rw [hq] at AK
        clear hx hq hall AA
        generalize W[k] = x at *
        go_wp2_with fail
        refine AK.mono ?_
        rintro e wx ⟨rfl, hwx⟩
        obtain rfl := hwx.symm
        go_wp2_with fail
        go_roundw
        case rel => exact ⟨k + 1, by omega, by go_num, HN, trivial⟩
        case measure => simp [intOf]; omega
    · have HR : Hid (IxR t W (-1)) := hd ⟨fun h => by omega, fun _ re => by rw [hall.out, bwF_end (by omega)]⟩
      clear hall AA
      go_wp2_with fail
      go_ret
      exact ⟨-1, rfl, HR.out, rfl⟩
theorem acy_nil {g : Gm} {V : Nat} (hR : Rgt g V) {l : List Int} (hl : ∃ r, l = listB r ∧ ∀ v, hasB r v = true ↔ Led false (Gen false g.rules) g.rules v v) : l = [] ↔ Acy g.rules g.vars.toNat := by
  obtain ⟨r, rfl, hr⟩ := hl
  have hgv : g.vars.toNat = V := by have := hR.gv; omega
  rw [hgv]
  constructor
  · intro h v hv hL
    have := mem_listB.2 ((hr _).2 hL)
    rw [h] at this; cases this
  · intro h
    cases e : listB r with
    | nil => rfl
    | cons x l =>
      have hx : x ∈ listB r := by rw [e]; simp
      have hL := (hr x).1 (mem_listB.1 hx)
      have hx2 := hR.vr.led hL
      obtain ⟨u, rfl⟩ : ∃ u : Nat, x = u := ⟨x.toNat, by omega⟩
      exact absurd hL (h u (by omega))
set_option maxRecDepth 100000 in
set_option maxHeartbeats 4000000 in
theorem ccheck_any (g : Gm) (W : List Int) (va vw : Value) (w : World) (hg : GV w All va g) (hw : IsV w All vw W) :
    Calls Try.prog 86 #[va, vw] w fun e w' => e = .returned (.agg #[.int .i64 (chFl g W).1, .int .i64 (chFl g W).2]) ∧ Below w.heap.size w w' := by
  obtain ⟨R, hR⟩ : ∃ R, R = chFl g W := ⟨_, rfl⟩
  rw [← hR]
  unfold chFl at hR
  have CK := fun w' (hb : Below w.heap.size w w') => check_any g va w' (hg.lw hb)
  have CY := fun w' (hb : Below w.heap.size w w') => cyclicF_any g va w' (hg.lw hb)
  have IX := fun b w' (hb : Below w.heap.size w w') hk => chIndex_any W vw g.terms b w' (hw.lw hb) hk
  have hrg := fun h => rgt_of (g := g) h
  unfold LstR at CY
  obtain ⟨D1, D2, hD⟩ : ∃ a b, gFl g = (a, b) := ⟨_, _, rfl⟩
  rw [hD] at CK CY hR hrg
  simp only at CK CY hR hrg
  obtain ⟨ua, rfl, ra⟩ := hg
  obtain ⟨ao, cap, rfl⟩ := ra.slice
  obtain ⟨aw, cw, rfl⟩ := hw.slice
  obtain ⟨Z, hZ⟩ : ∃ Z, Z = (w.alloc (.cells #[.int .i64 g.vars, .int .i64 g.terms, .int .i64 g.start, .slice ao g.rules.length cap] 24)).alloc (.cells #[.int .i64 0, .int .i64 0] 33) := ⟨_, rfl⟩
  have hZb : Below w.heap.size w Z := by rw [hZ]; exact al2 _ _ _
  have x0 : Z.cell? ⟨w.heap.size, 0, none⟩ = some (.int .i64 g.vars) := by rw [hZ]; simp
  have x1 : Z.cell? ⟨w.heap.size, 1, none⟩ = some (.int .i64 g.terms) := by rw [hZ]; simp
  have x2 : Z.cell? ⟨w.heap.size, 2, none⟩ = some (.int .i64 g.start) := by rw [hZ]; simp
  have x3 : Z.cell? ⟨w.heap.size, 3, none⟩ = some (.slice ao g.rules.length cap) := by rw [hZ]; simp
  have hZr : RB Z (w.heap.size + 1) := by rw [hZ]; exact ⟨by simp, by simp, fun i => by simp [go_sem]⟩
  have CW := CK Z hZb
  have HR := hd hR
  have HRG := hd hrg
  have HCY := hd CY
  have HIX := hd IX
  clear hR hrg CK CY IX
  go_enter Try.func86, Try.ntmps86
  go_wp2_with fail
  rw [← hZ]
  have HZ := hd hZ
  clear hZ
  refine CW.mono ?_
  rintro e w1 ⟨rfl, hb1⟩
  obtain ⟨V1, hV1⟩ : ∃ V1, V1 = w1.alloc (.cells #[.int .i64 D1, .int .i64 D2] 33) := ⟨_, rfl⟩
  have hVb : Below w1.heap.size w1 V1 := by rw [hV1]; exact al1 _ _
  have bZ := bthen hb1 hVb
  have bV := bthen hZb bZ
  have tr := hZr.below hb1
  by_cases hc : D1 = 0
  rotate_left
  · have hr : R = (D1, D2) := HR.out.trans (if_pos hc)
    subst hr
    have hcb : (D1 != 0) = true := by simpa using hc
    clear hc
    have q0 := alcell tr.c0 (.cells #[.int .i64 D1, .int .i64 D2] 33)
    have q1 := alcell tr.c1 (.cells #[.int .i64 D1, .int .i64 D2] 33)
    have qf := (tr.below (al1 w1 (.cells #[.int .i64 D1, .int .i64 D2] 33))).fz
    go_wp2_with fail
    refine bodyPost_ret (v := .agg #[.int .i64 D1, .int .i64 D2]) (by simp [results, Try.results86, go_sem, q0, q1]) rfl ⟨rfl, ?_⟩
    rw [← hV1]
    exact (bV.setCell (p := ⟨w.heap.size + 1, 0, none⟩) (by show w.heap.size ≤ w.heap.size + 1; omega) _).setCell (p := ⟨w.heap.size + 1, 1, none⟩) (by show w.heap.size ≤ w.heap.size + 1; omega) _
  subst hc
  obtain ⟨hD2, V, hV⟩ := HRG.out rfl
  have HR1 := hd (HR.out.trans (if_neg (by simp)))
  have HV := hd hV
  clear HR HRG CW hD2 hV
  have tV := tr.below hVb
  by_cases h12 : 12 < W.length
  · have hr : R = (15, -1) := HR1.out.trans (if_pos h12)
    subst hr
    have hr12 : (12 : Int) < (W.length : Int) := by omega
    have q0 := alcell tr.c0 (.cells #[.int .i64 0, .int .i64 D2] 33)
    have q1 := alcell tr.c1 (.cells #[.int .i64 0, .int .i64 D2] 33)
    have qf := (tr.below (al1 w1 (.cells #[.int .i64 0, .int .i64 D2] 33))).fz
    go_wp2_with fail
    refine bodyPost_ret (v := .agg #[.int .i64 15, .int .i64 (-1)]) (by simp [results, Try.results86, go_sem, q0, q1]) rfl ⟨rfl, ?_⟩
    rw [← hV1]
    exact (bV.setCell (p := ⟨w.heap.size + 1, 0, none⟩) (by show w.heap.size ≤ w.heap.size + 1; omega) _).setCell (p := ⟨w.heap.size + 1, 1, none⟩) (by show w.heap.size ≤ w.heap.size + 1; omega) _
  obtain ⟨RE, hRE⟩ : ∃ RE : Int × Int, RE = (if pB (Acy g.rules g.vars.toNat) = true then (0, 0) else (10, -1)) := ⟨_, rfl⟩
  have HR2 : Hid (R = bwF g.terms RE W 0) := hd (by rw [hRE]; exact HR1.out.trans (if_neg h12))
  have HRE := hd hRE
  have hn12 : ¬ ((12 : Int) < (W.length : Int)) := by omega
  clear HR1 hRE
  have IXV := HIX.out w.heap.size V1 bV (bkeep bZ x1)
  go_wp2_with fail
  rw [← hV1]
  have HV1 := hd hV1
  clear hV1
  refine IXV.mono ?_
  rintro e wx ⟨r, rfl, hix, hwx⟩
  obtain rfl := hwx.symm
  have HX := hd hix
  clear hix
  by_cases hr0 : 0 ≤ r
  · have hr := HR2.out.trans (HX.out.1 hr0 RE)
    subst hr
    have q0 := tV.c0
    have q1 := tV.c1
    have qf := tV.fz
    clear HX HIX HCY
    go_wp2_with fail
    refine bodyPost_ret (v := .agg #[.int .i64 15, .int .i64 r]) (by simp [results, Try.results86, go_sem, q0, q1]) rfl ⟨rfl, ?_⟩
    exact (bV.setCell (p := ⟨w.heap.size + 1, 0, none⟩) (by show w.heap.size ≤ w.heap.size + 1; omega) _).setCell (p := ⟨w.heap.size + 1, 1, none⟩) (by show w.heap.size ≤ w.heap.size + 1; omega) _
  have hr := (HR2.out.trans (HX.out.2 (by omega) RE)).trans HRE.out
  have HRR := hd hr
  have CV := HCY.out V1 bV
  have d0 := bkeep bZ x0
  have d1 := bkeep bZ x1
  have d2 := bkeep bZ x2
  have d3 := bkeep bZ x3
  clear HX HIX HCY hr HR2 HRE
  go_wp2_with fail
  refine CV.mono ?_
  rintro e w5 ⟨v5, l, rfl, own5, hl64, _, hl5, hb5⟩
  obtain ⟨a5, c5, rfl⟩ := owns_slice own5
  have hlq := acy_nil HV.out (hl5 trivial)
  obtain ⟨w6, hw6⟩ : ∃ w6, w6 = w5.alloc (.cells #[.int .i64 0, .int .i64 D2] 33) := ⟨_, rfl⟩
  have hb6 : Below w5.heap.size w5 w6 := by rw [hw6]; exact al1 _ _
  have b6 := bthen (bthen bV hb5) hb6
  have t6 := (tV.below hb5).below hb6
  clear own5 hl5 CV
  have q0 : (w5.alloc (.cells #[.int .i64 0, .int .i64 D2] 33)).cell? ⟨w.heap.size + 1, 0, none⟩ = some (.int .i64 0) := hw6 ▸ t6.c0
  have q1 : (w5.alloc (.cells #[.int .i64 0, .int .i64 D2] 33)).cell? ⟨w.heap.size + 1, 1, none⟩ = some (.int .i64 0) := hw6 ▸ t6.c1
  have qf : ∀ i, (w5.alloc (.cells #[.int .i64 0, .int .i64 D2] 33)).frozen? ⟨w.heap.size + 1, i, none⟩ = false := hw6 ▸ t6.fz
  by_cases hA : Acy g.rules g.vars.toNat
  · have hl0 : l = [] := hlq.2 hA
    have hr : R = (0, 0) := HRR.out.trans (if_pos (pB_iff.2 hA))
    subst hl0 hr
    clear hA hlq
    go_wp2_with fail
    refine bodyPost_ret (v := .agg #[.int .i64 0, .int .i64 0]) (by simp [results, Try.results86, go_sem, q0, q1]) rfl ⟨rfl, ?_⟩
    rw [← hw6]
    exact (b6.setCell (p := ⟨w.heap.size + 1, 0, none⟩) (by show w.heap.size ≤ w.heap.size + 1; omega) _).setCell (p := ⟨w.heap.size + 1, 1, none⟩) (by show w.heap.size ≤ w.heap.size + 1; omega) _
  · have hln : l ≠ [] := fun h => hA (hlq.1 h)
    have hr : R = (10, -1) := HRR.out.trans (if_neg (fun h => hA (pB_iff.1 h)))
    have hl0 : 0 < l.length := List.length_pos_iff.2 hln
    subst hr
    clear hA hlq hln
    go_wp2_with fail
    refine bodyPost_ret (v := .agg #[.int .i64 10, .int .i64 (-1)]) (by simp [results, Try.results86, go_sem, q0, q1]) rfl ⟨rfl, ?_⟩
    rw [← hw6]
    exact (b6.setCell (p := ⟨w.heap.size + 1, 0, none⟩) (by show w.heap.size ≤ w.heap.size + 1; omega) _).setCell (p := ⟨w.heap.size + 1, 1, none⟩) (by show w.heap.size ≤ w.heap.size + 1; omega) _
end Go.Proofs.Ytlhdppkllmnmkad.G
