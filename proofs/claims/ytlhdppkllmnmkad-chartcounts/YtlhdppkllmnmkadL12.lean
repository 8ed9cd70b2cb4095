/- What is wrong with a grammar, the program's way: gram.Check. -/
import Derived.Test.YtlhdppkllmnmkadL04
namespace Go.Proofs.Ytlhdppkllmnmkad.G
open Go.RowKit
theorem ruF_wb {g : Gm} {r : Ru} (h : ¬ 10 < r.right.length) : ruF g r = if (wb 0 (g.vars - 1) r.left && r.right.all (wb (-g.terms) (g.vars - 1))) = true then 0 else 9 := by
  have e : wb (-g.terms) (g.vars - 1) = syB g := by
    funext s
    unfold wb syB
    rw [Bool.eq_iff_iff]
    simp
    omega
  unfold ruF
  rw [if_neg h, e]
  have e2 : ((0 ≤ r.left ∧ r.left < g.vars) ∧ r.right.all (syB g) = true) ↔ (wb 0 (g.vars - 1) r.left && r.right.all (syB g)) = true := by
    rw [Bool.and_eq_true, wb_iff]
    constructor
    · rintro ⟨⟨a, b⟩, c⟩; exact ⟨⟨a, by omega⟩, c⟩
    · rintro ⟨⟨a, b⟩, c⟩; exact ⟨⟨a, by omega⟩, c⟩
  by_cases h2 : (wb 0 (g.vars - 1) r.left && r.right.all (syB g)) = true
  · rw [if_pos h2, if_pos (e2.2 h2)]
  · rw [if_neg h2, if_neg (fun h => h2 (e2.1 h))]
set_option maxRecDepth 100000 in
set_option maxHeartbeats 16000000 in
theorem check_any (g : Gm) (va : Value) (w : World) (ha : GV w All va g) :
    Calls Try.prog 58 #[va] w fun e w' => e = .returned (.agg #[.int .i64 (gFl g).1, .int .i64 (gFl g).2]) ∧ Below w.heap.size w w' := by
  obtain ⟨ua, rfl, ra⟩ := ha
  obtain ⟨ao, cap, rfl⟩ := ra.slice
  have hl := ra.1
  obtain ⟨W, hW⟩ : ∃ W, W = (w.alloc (.cells #[.int .i64 g.vars, .int .i64 g.terms, .int .i64 g.start, .slice ao g.rules.length cap] 24)).alloc (.cells #[.int .i64 0, .int .i64 0] 33) := ⟨_, rfl⟩
  have hWz : W.heap.size = w.heap.size + 2 := by rw [hW]; simp
  have hWb : Below w.heap.size w W := by rw [hW]; exact al2 _ _ _
  have hW0 : W.cell? ⟨w.heap.size, 0, none⟩ = some (.int .i64 g.vars) := by rw [hW]; simp
  have hW1 : W.cell? ⟨w.heap.size, 1, none⟩ = some (.int .i64 g.terms) := by rw [hW]; simp
  have hW3 : W.cell? ⟨w.heap.size, 3, none⟩ = some (.slice ao g.rules.length cap) := by rw [hW]; simp
  have hWr : RB W (w.heap.size + 1) := by rw [hW]; exact ⟨by simp, by simp, fun i => by simp [go_sem]⟩
  have SA := sized_any g ao g.rules.length cap W
  have HR : Hid (gFl g = if szB g then if 160 < g.rules.length then (6, -1) else rsF g (g.rules.drop 0) 0 else (9, -1)) := hd rfl
  have HS : Hid (szB g = true → 1 ≤ g.vars ∧ g.vars ≤ 64 ∧ 0 ≤ g.terms ∧ g.terms ≤ 16) := hd (fun h => by unfold szB at h; simp at h; omega)
  generalize gFl g = R at *
  generalize szB g = q at *
  cases q with
  | false =>
    have hr : R = (9, -1) := HR.out
    subst hr
    go_enter Try.func58, Try.ntmps58
    go_wp2_with fail
    rw [← hW]
    have HW := hd hW
    clear hW
    refine SA.mono ?_
    rintro e w1 ⟨rfl, hb1⟩
    have rf := hWr.below hb1
    have q0 := rf.c0
    have q1 := rf.c1
    have qf := rf.fz
    have bf : Below w.heap.size w w1 := bthen hWb hb1
    go_wp2_with fail
    refine bodyPost_ret (v := .agg #[.int .i64 9, .int .i64 (-1)]) (by simp [results, Try.results58, go_sem, q0, q1]) rfl ⟨rfl, ?_⟩
    exact (bf.setCell (p := ⟨w.heap.size + 1, 0, none⟩) (Nat.le_succ _) _).setCell (p := ⟨w.heap.size + 1, 1, none⟩) (Nat.le_succ _) _
  | true =>
  obtain ⟨s1, s2, s3, s4⟩ := HS.out rfl
  by_cases h16 : 160 < g.rules.length
  · have hr : R = (6, -1) := by rw [HR.out]; simp [h16]
    subst hr
    go_enter Try.func58, Try.ntmps58
    go_wp2_with fail
    rw [← hW]
    have HW := hd hW
    clear hW
    refine SA.mono ?_
    rintro e w1 ⟨rfl, hb1⟩
    have t3 := bkeep hb1 hW3
    have rf := hWr.below hb1
    have q0 := rf.c0
    have q1 := rf.c1
    have qf := rf.fz
    have bf : Below w.heap.size w w1 := bthen hWb hb1
    go_wp2_with fail
    refine bodyPost_ret (v := .agg #[.int .i64 6, .int .i64 (-1)]) (by simp [results, Try.results58, go_sem, q0, q1]) rfl ⟨rfl, ?_⟩
    exact (bf.setCell (p := ⟨w.heap.size + 1, 0, none⟩) (Nat.le_succ _) _).setCell (p := ⟨w.heap.size + 1, 1, none⟩) (Nat.le_succ _) _
  have HR0 : Hid (R = rsF g (g.rules.drop 0) 0) := hd (by rw [HR.out]; simp [h16])
  clear HR HS
  go_enter Try.func58, Try.ntmps58
  go_wp2_with fail
  rw [← hW]
  have HW := hd hW
  clear hW
  refine SA.mono ?_
  rintro e w1 ⟨rfl, hb1⟩
  have b1 : Below w.heap.size w w1 := bthen hWb hb1
  have t0 := bkeep hb1 hW0
  have t1 := bkeep hb1 hW1
  have t3 := bkeep hb1 hW3
  have tr := hWr.below hb1
  clear hb1 hW0 hW1 hW3 hWr hWb SA
  go_wp2_with fail
  refine (within_any _ _ _).mono ?_
  rintro e w2 ⟨l1, l2, rfl, p1, p2, hb2⟩
  have b2 := bthen b1 hb2
  have u0 := bkeep hb2 t0
  have u1 := bkeep hb2 t1
  have u3 := bkeep hb2 t3
  have ur := tr.below hb2
  clear t0 t1 t3 tr hb2 b1
  go_wp2_with fail
  refine (within_any _ _ _).mono ?_
  rintro e w3 ⟨m1, m2, rfl, r1, r2, hb3⟩
  have b3 := bthen b2 hb3
  have v3 := bkeep hb3 u3
  have vr := ur.below hb3
  have k1 := bkeep hb3 p1
  have k2 := bkeep hb3 p2
  clear u0 u1 u3 ur hb3 b2 p1 p2
  go_wp2_with fail
  go_loopw [30] (fun i wr => ∃ k : Nat, k ≤ g.rules.length ∧ i = .int .i64 k ∧ Hid (R = rsF g (g.rules.drop k) k) ∧ Below w3.heap.size w3 wr) (fun i _ => g.rules.length - (intOf i).toNat)
  case atStart => exact ⟨0, Nat.zero_le _, rfl, HR0, Below.refl _ _⟩
  case round =>
    obtain ⟨k, hk, rfl, hR, hb⟩ := hrel
    have bel : Below w.heap.size w wr := bthen b3 hb
    have tr := vr.below hb
    by_cases hlt : k < g.rules.length
    · obtain ⟨b, o, rfl, c0, ar, cr, c1, hc⟩ := (ra.lw bel).at_ hlt
      have HR1 : Hid (R = if ruF g g.rules[k] = 0 then rsF g (g.rules.drop (k + 1)) (k + 1) else (ruF g g.rules[k], (k : Int))) := hd (by rw [hR.out, rsF_at hlt])
      clear hR
      generalize g.rules[k] = x at *
      have hxl := hc.1
      obtain ⟨V, hV⟩ : ∃ V, V = wr.alloc (.cells #[.int .i64 x.left, .slice ar x.right.length cr] 77) := ⟨_, rfl⟩
      have hVb : Below wr.heap.size wr V := by rw [hV]; exact al1 _ _
      have hV1 : V.cell? ⟨wr.heap.size, 1, none⟩ = some (.slice ar x.right.length cr) := by rw [hV]; simp
      have hV0 : V.cell? ⟨wr.heap.size, 0, none⟩ = some (.int .i64 x.left) := by rw [hV]; simp
      have belV : Below w.heap.size w V := bthen bel hVb
      have tV := tr.below hVb
      have cV := hc.lw hVb
      have kV1 := bkeep hVb (bkeep hb k1)
      have kV2 := bkeep hVb (bkeep hb k2)
      have rV1 := bkeep hVb (bkeep hb r1)
      have rV2 := bkeep hVb (bkeep hb r2)
      by_cases h10 : 10 < x.right.length
      · have hRx : R = (6, (k : Int)) := by rw [HR1.out, ruF_many h10]; rfl
        subst hRx
        have q0 := tV.c0
        have q1 := tV.c1
        have qf := tV.fz
        have e0 := alcell tr.c0 (.cells #[.int .i64 x.left, .slice ar x.right.length cr] 77)
        have e1 := alcell tr.c1 (.cells #[.int .i64 x.left, .slice ar x.right.length cr] 77)
        have ef : ∀ i, (wr.alloc (.cells #[.int .i64 x.left, .slice ar x.right.length cr] 77)).frozen? ⟨w.heap.size + 1, i, none⟩ = false := by rw [← hV]; exact qf
        go_wp2_with fail
        refine bodyPost_ret (v := .agg #[.int .i64 6, .int .i64 k]) (by simp [results, Try.results58, go_sem, e0, e1]) rfl ⟨rfl, ?_⟩
        rw [← hV]
        exact (belV.setCell (p := ⟨w.heap.size + 1, 0, none⟩) (Nat.le_succ _) _).setCell (p := ⟨w.heap.size + 1, 1, none⟩) (Nat.le_succ _) _
      have HX := hd (ruF_wb (g := g) (r := x) h10)
      obtain ⟨qL, EL⟩ : ∃ q, wb 0 (g.vars - 1) x.left = q := ⟨_, rfl⟩
      obtain ⟨qA, EA⟩ : ∃ q, x.right.all (wb (-g.terms) (g.vars - 1)) = q := ⟨_, rfl⟩
      rw [EL, EA] at HX
      have AA := fun w' (h : Below V.heap.size V w') => all_any (-g.terms) (g.vars - 1) x.right (.slice ar x.right.length cr) (.func (.func 133) #[] #[.pointer (some ⟨m1, 0, none⟩), .pointer (some ⟨m2, 0, none⟩)]) w' (cV.lw h) ⟨m1, m2, rfl, bkeep h rV1, bkeep h rV2⟩
      rw [EA] at AA
      have HEL := hd EL
      clear EL EA
      cases qL with
      | false =>
        have hRx : R = (9, (k : Int)) := by
          have hx : ruF g x = 9 := HX.out
          rw [HR1.out, hx]; rfl
        subst hRx
        go_wp2_with fail
        rw [← hV]
        have HV := hd hV
        clear hV
        refine (within1_q HEL.out kV1 kV2).mono ?_
        rintro e w5 ⟨rfl, hb5⟩
        have rf := tV.below hb5
        have q0 := rf.c0
        have q1 := rf.c1
        have qf := rf.fz
        have bf := bthen belV hb5
        go_wp2_with fail
        refine bodyPost_ret (v := .agg #[.int .i64 9, .int .i64 k]) (by simp [results, Try.results58, go_sem, q0, q1]) rfl ⟨rfl, ?_⟩
        exact (bf.setCell (p := ⟨w.heap.size + 1, 0, none⟩) (Nat.le_succ _) _).setCell (p := ⟨w.heap.size + 1, 1, none⟩) (Nat.le_succ _) _
      | true =>
      cases qA with
      | false =>
        have hRx : R = (9, (k : Int)) := by
          have hx : ruF g x = 9 := HX.out
          rw [HR1.out, hx]; rfl
        subst hRx
        go_wp2_with fail
        rw [← hV]
        have HV := hd hV
        clear hV
        refine (within1_q HEL.out kV1 kV2).mono ?_
        rintro e w5 ⟨rfl, hb5⟩
        have x1 := bkeep hb5 hV1
        go_wp2_with fail
        refine (AA _ hb5).mono ?_
        rintro e w6 ⟨rfl, hb6⟩
        have rf := (tV.below hb5).below hb6
        have q0 := rf.c0
        have q1 := rf.c1
        have qf := rf.fz
        have bf := bthen belV (bthen hb5 hb6)
        go_wp2_with fail
        refine bodyPost_ret (v := .agg #[.int .i64 9, .int .i64 k]) (by simp [results, Try.results58, go_sem, q0, q1]) rfl ⟨rfl, ?_⟩
        exact (bf.setCell (p := ⟨w.heap.size + 1, 0, none⟩) (Nat.le_succ _) _).setCell (p := ⟨w.heap.size + 1, 1, none⟩) (Nat.le_succ _) _
      | true =>
        have HR2 : Hid (R = rsF g (g.rules.drop (k + 1)) (k + 1)) := hd (by
          have hx : ruF g x = 0 := HX.out
          rw [HR1.out, if_pos hx])
        go_wp2_with fail
        rw [← hV]
        have HV := hd hV
        clear hV
        refine (within1_q HEL.out kV1 kV2).mono ?_
        rintro e w5 ⟨rfl, hb5⟩
        have x1 := bkeep hb5 hV1
        go_wp2_with fail
        refine (AA _ hb5).mono ?_
        rintro e w6 ⟨rfl, hb6⟩
        have bz := bthen hb (bthen hVb (bthen hb5 hb6))
        go_wp2_with fail
        go_roundw
        case rel => exact ⟨k + 1, by omega, by go_num, HR2, bz⟩
        case measure => simp [intOf]; omega
    · have hRx : R = (0, 0) := by rw [hR.out, rsF_end (by omega)]
      subst hRx
      have q0 := tr.c0
      have q1 := tr.c1
      have qf := tr.fz
      go_wp2_with fail
      refine bodyPost_ret (v := .agg #[.int .i64 0, .int .i64 0]) (by simp [results, Try.results58, go_sem, q0, q1]) rfl ⟨rfl, ?_⟩
      exact (bel.setCell (p := ⟨w.heap.size + 1, 0, none⟩) (Nat.le_succ _) _).setCell (p := ⟨w.heap.size + 1, 1, none⟩) (Nat.le_succ _) _
end Go.Proofs.Ytlhdppkllmnmkad.G
