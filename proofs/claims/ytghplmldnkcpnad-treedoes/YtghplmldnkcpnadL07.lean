/- What is wrong with a tree: tree.Check, and the document's. -/
import Derived.Test.YtghplmldnkcpnadL06
import Derived.Test.YtghplmldnkcpnadL04
namespace Go.Proofs.Ytghplmldnkcpnad.G
open Go.RowKit
def tFl (g : Gm) (t : Tr) (v : Int) : Int × Int := if (gFl g).1 ≠ 0 then gFl g else if 400 < t.sz then (6, -1) else if fitT g.rules t v = true then (0, 0) else (13, -1)
theorem spI_neg (s : Nat) : decide (spI s 400 < 0) = decide (400 < s) := by unfold spI; rw [decide_eq_decide]; split <;> omega
theorem tFl_bad {g : Gm} {t : Tr} {v a b : Int} (h : gFl g = (a, b)) (ha : a ≠ 0) : tFl g t v = (a, b) := by unfold tFl; rw [h, if_pos ha]
theorem tFl_many {g : Gm} {t : Tr} {v b : Int} (h : gFl g = (0, b)) (h4 : 400 < t.sz) : tFl g t v = (6, -1) := by unfold tFl; rw [h, if_neg (by simp), if_pos h4]
theorem tFl_fit {g : Gm} {t : Tr} {v b : Int} (h : gFl g = (0, b)) (h4 : ¬ 400 < t.sz) (hf : fitT g.rules t v = true) : tFl g t v = (0, 0) := by unfold tFl; rw [h, if_neg (by simp), if_neg h4, if_pos hf]
theorem tFl_not {g : Gm} {t : Tr} {v b : Int} (h : gFl g = (0, b)) (h4 : ¬ 400 < t.sz) (hf : fitT g.rules t v = false) : tFl g t v = (13, -1) := by unfold tFl; rw [h, if_neg (by simp), if_neg h4, if_neg (by simp [hf])]
theorem TfV_one {w : World} {b : Nat} {t : Tr} {u : Value} (c0 : w.cell? ⟨b, 0, none⟩ = some (.int .i64 t.rule)) (c1 : w.cell? ⟨b, 1, none⟩ = some u) (hu : TfV w All u t.kids) : TfV w All (.slice (some ⟨b, 0, none⟩) 1 1) (.cons t.rule t.kids .nil) := by
  obtain ⟨h1, ao, cap, rfl, h3, h4, h5⟩ := hu
  exact ⟨by simp [Tf.len], _, 1, rfl, by simp [Tf.len], (fun h => by cases h), .inr ⟨b, 0, rfl, trivial, c0, ⟨h1, ao, cap, c1, h3, h4, h5⟩, trivial⟩⟩
theorem ndz (s : Nat) : decide ((400 : Int) < ((min (1 + s + 0) (400 + 1) : Nat) : Int)) = decide (400 < 1 + s) := by rw [decide_eq_decide]; omega
set_option maxRecDepth 100000 in
set_option maxHeartbeats 16000000 in
theorem tcheck_any (g : Gm) (t : Tr) (v : Int) (va vt : Value) (w : World) (hg : GV w All va g) (ht : TrV w All vt t) (hs : Small g.rules) :
    Calls Try.prog 13 #[va, vt, .int .i64 v] w fun e w' => e = .returned (.agg #[.int .i64 (tFl g t v).1, .int .i64 (tFl g t v).2]) ∧ Below w.heap.size w w' := by
  obtain ⟨R, hR0⟩ : ∃ R, R = tFl g t v := ⟨_, rfl⟩
  have hR := hd hR0
  rw [← hR0]
  clear hR0
  have CK := fun w' (hb : Below w.heap.size w w') => check_any g va w' (hg.lw hb)
  have SP := fun w' (hb : Below w.heap.size w w') => spare_any t vt w' 400 (ht.lw hb) (by omega) (by omega)
  have FT := fun w' (hb : Below w.heap.size w w') => fits_any t g va vt v w' (hg.lw hb) (ht.lw hb) hs
  obtain ⟨D1, D2, hD⟩ : ∃ a b, gFl g = (a, b) := ⟨_, _, rfl⟩
  rw [hD] at CK
  simp only at CK
  have hsp := spI_neg t.sz
  obtain ⟨ua, rfl, ra⟩ := hg
  obtain ⟨ut, rfl, kt⟩ := ht
  obtain ⟨ao, cap, rfl⟩ := ra.slice
  obtain ⟨at_, ct, rfl, _⟩ := kt.slice
  obtain ⟨W, hW⟩ : ∃ W, W = ((w.alloc (.cells #[.int .i64 g.vars, .int .i64 g.terms, .int .i64 g.start, .slice ao g.rules.length cap] 24)).alloc (.cells #[.int .i64 t.rule, .slice at_ t.kids.len ct] 27)).alloc (.cells #[.int .i64 0, .int .i64 0] 33) := ⟨_, rfl⟩
  have hWb : Below w.heap.size w W := by rw [hW]; exact (al2 w _ _).alloc (by simp <;> omega) _
  have x0 : W.cell? ⟨w.heap.size, 0, none⟩ = some (.int .i64 g.vars) := by rw [hW]; simp [go_sem]
  have x1 : W.cell? ⟨w.heap.size, 1, none⟩ = some (.int .i64 g.terms) := by rw [hW]; simp [go_sem]
  have x2 : W.cell? ⟨w.heap.size, 2, none⟩ = some (.int .i64 g.start) := by rw [hW]; simp [go_sem]
  have x3 : W.cell? ⟨w.heap.size, 3, none⟩ = some (.slice ao g.rules.length cap) := by rw [hW]; simp [go_sem]
  have y0 : W.cell? ⟨w.heap.size + 1, 0, none⟩ = some (.int .i64 t.rule) := by rw [hW]; simp [go_sem]
  have y1 : W.cell? ⟨w.heap.size + 1, 1, none⟩ = some (.slice at_ t.kids.len ct) := by rw [hW]; simp [go_sem]
  have hWr : RB W (w.heap.size + 2) := by rw [hW]; exact ⟨by simp [go_sem], by simp [go_sem], fun i => by simp [go_sem]⟩
  have CW := CK W hWb
  go_enter Try.func13, Try.ntmps13
  go_wp2_with fail
  rw [← hW]
  have HW := hd hW
  clear hW
  refine CW.mono ?_
  rintro e w1 ⟨rfl, hb1⟩
  obtain ⟨V, hV⟩ : ∃ V, V = w1.alloc (.cells #[.int .i64 D1, .int .i64 D2] 33) := ⟨_, rfl⟩
  have hVb : Below w1.heap.size w1 V := by rw [hV]; exact al1 _ _
  have bW := bthen hb1 hVb
  have bV := bthen hWb bW
  have tr := hWr.below hb1
  by_cases hc : D1 = 0
  rotate_left
  · have hr : R = (D1, D2) := hR.out.trans (tFl_bad hD hc)
    subst hr
    have hcb : (D1 != 0) = true := by simpa using hc
    have HD := hd hD
    clear hc hD
    have q0 := alcell tr.c0 (.cells #[.int .i64 D1, .int .i64 D2] 33)
    have q1 := alcell tr.c1 (.cells #[.int .i64 D1, .int .i64 D2] 33)
    have qf := (tr.below (al1 w1 (.cells #[.int .i64 D1, .int .i64 D2] 33))).fz
    go_wp2_with fail
    refine bodyPost_ret (v := .agg #[.int .i64 D1, .int .i64 D2]) (by simp [results, Try.results13, go_sem, q0, q1]) rfl ⟨rfl, ?_⟩
    rw [← hV]
    exact (bV.setCell (p := ⟨w.heap.size + 2, 0, none⟩) (by show w.heap.size ≤ w.heap.size + 2; omega) _).setCell (p := ⟨w.heap.size + 2, 1, none⟩) (by show w.heap.size ≤ w.heap.size + 2; omega) _
  subst hc
  have u0 := alcell (bkeep hb1 y0) (.cells #[.int .i64 0, .int .i64 D2] 33)
  have u1 := alcell (bkeep hb1 y1) (.cells #[.int .i64 0, .int .i64 D2] 33)
  have SV := SP V bV
  generalize spI t.sz 400 = s at *
  have hDD := hd hD
  have Hsp := hd hsp
  clear hsp CW
  go_wp2_with fail
  rw [← hV]
  have HV := hd hV
  clear hV
  refine SV.mono ?_
  rintro e w2 ⟨rfl, hb2⟩
  have b2 := bthen bV hb2
  have b2W := bthen bW hb2
  have t2 := (tr.below hVb).below hb2
  by_cases h4 : 400 < t.sz
  · have hsb : decide (s < 0) = true := by rw [Hsp.out]; simpa using h4
    have hr : R = (6, -1) := hR.out.trans (tFl_many hDD.out h4)
    subst hr
    have q0 := t2.c0
    have q1 := t2.c1
    have qf := t2.fz
    clear h4 hD
    go_wp2_with fail
    refine bodyPost_ret (v := .agg #[.int .i64 6, .int .i64 (-1)]) (by simp [results, Try.results13, go_sem, q0, q1]) rfl ⟨rfl, ?_⟩
    exact (b2.setCell (p := ⟨w.heap.size + 2, 0, none⟩) (by show w.heap.size ≤ w.heap.size + 2; omega) _).setCell (p := ⟨w.heap.size + 2, 1, none⟩) (by show w.heap.size ≤ w.heap.size + 2; omega) _
  have hsb : decide (s < 0) = false := by rw [Hsp.out]; simpa using h4
  have z0 := bkeep b2W x0
  have z1 := bkeep b2W x1
  have z2 := bkeep b2W x2
  have z3 := bkeep b2W x3
  have z4 := bkeep b2W y0
  have z5 := bkeep b2W y1
  have F2 := FT w2 b2
  have hF := @tFl_fit g t v D2 hDD.out h4
  have hN := @tFl_not g t v D2 hDD.out h4
  have HF := hd hF
  have HN := hd hN
  have H4 := hd h4
  clear h4 hD hF hN SP FT CK u0 u1 x0 x1 x2 x3 y0 y1
  generalize fitT g.rules t v = q at *
  go_wp2_with fail
  refine F2.mono ?_
  rintro e w3 ⟨rfl, hb3⟩
  have b3 := bthen b2 hb3
  have t3 := t2.below hb3
  have q0 := t3.c0
  have q1 := t3.c1
  have qf := t3.fz
  cases q with
  | true =>
    have hr : R = (0, 0) := hR.out.trans (HF.out rfl)
    subst hr
    go_wp2_with fail
    refine bodyPost_ret (v := .agg #[.int .i64 0, .int .i64 0]) (by simp [results, Try.results13, go_sem, q0, q1]) rfl ⟨rfl, ?_⟩
    exact (b3.setCell (p := ⟨w.heap.size + 2, 0, none⟩) (by show w.heap.size ≤ w.heap.size + 2; omega) _).setCell (p := ⟨w.heap.size + 2, 1, none⟩) (by show w.heap.size ≤ w.heap.size + 2; omega) _
  | false =>
    have hr : R = (13, -1) := hR.out.trans (HN.out rfl)
    subst hr
    go_wp2_with fail
    refine bodyPost_ret (v := .agg #[.int .i64 13, .int .i64 (-1)]) (by simp [results, Try.results13, go_sem, q0, q1]) rfl ⟨rfl, ?_⟩
    exact (b3.setCell (p := ⟨w.heap.size + 2, 0, none⟩) (by show w.heap.size ≤ w.heap.size + 2; omega) _).setCell (p := ⟨w.heap.size + 2, 1, none⟩) (by show w.heap.size ≤ w.heap.size + 2; omega) _
set_option maxRecDepth 100000 in
set_option maxHeartbeats 16000000 in
theorem treeFault_any (g : Gm) (t : Tr) (v : Int) (va vt : Value) (w : World) (hg : GV w All va g) (ht : TrV w All vt t) (hs : Small g.rules) :
    Calls Try.prog 9 #[va, vt, .int .i64 v] w fun e w' => e = .returned (.agg #[.int .i64 (tFl g t v).1, .int .i64 (tFl g t v).2]) ∧ Below w.heap.size w w' := by
  obtain ⟨R, hR0⟩ : ∃ R, R = tFl g t v := ⟨_, rfl⟩
  have hR := hd hR0
  rw [← hR0]
  clear hR0
  have CK := fun w' (hb : Below w.heap.size w w') => gramFault_any g va w' (hg.lw hb)
  have FT := fun w' (hb : Below w.heap.size w w') => isTree_any t g va vt v w' (hg.lw hb) (ht.lw hb) hs
  obtain ⟨D1, D2, hD⟩ : ∃ a b, gFl g = (a, b) := ⟨_, _, rfl⟩
  rw [hD] at CK
  simp only at CK
  have hsp := ndz t.kids.sz
  obtain ⟨ua, rfl, ra⟩ := hg
  obtain ⟨ut, rfl, kt⟩ := ht
  obtain ⟨ao, cap, rfl⟩ := ra.slice
  obtain ⟨at_, ct, rfl, _⟩ := kt.slice
  obtain ⟨W, hW⟩ : ∃ W, W = ((w.alloc (.cells #[.int .i64 g.vars, .int .i64 g.terms, .int .i64 g.start, .slice ao g.rules.length cap] 24)).alloc (.cells #[.int .i64 t.rule, .slice at_ t.kids.len ct] 27)).alloc (.cells #[.int .i64 0, .int .i64 0] 33) := ⟨_, rfl⟩
  have hWb : Below w.heap.size w W := by rw [hW]; exact (al2 w _ _).alloc (by simp <;> omega) _
  have x0 : W.cell? ⟨w.heap.size, 0, none⟩ = some (.int .i64 g.vars) := by rw [hW]; simp [go_sem]
  have x1 : W.cell? ⟨w.heap.size, 1, none⟩ = some (.int .i64 g.terms) := by rw [hW]; simp [go_sem]
  have x2 : W.cell? ⟨w.heap.size, 2, none⟩ = some (.int .i64 g.start) := by rw [hW]; simp [go_sem]
  have x3 : W.cell? ⟨w.heap.size, 3, none⟩ = some (.slice ao g.rules.length cap) := by rw [hW]; simp [go_sem]
  have y0 : W.cell? ⟨w.heap.size + 1, 0, none⟩ = some (.int .i64 t.rule) := by rw [hW]; simp [go_sem]
  have y1 : W.cell? ⟨w.heap.size + 1, 1, none⟩ = some (.slice at_ t.kids.len ct) := by rw [hW]; simp [go_sem]
  have hWr : RB W (w.heap.size + 2) := by rw [hW]; exact ⟨by simp [go_sem], by simp [go_sem], fun i => by simp [go_sem]⟩
  have CW := CK W hWb
  go_enter Try.func9, Try.ntmps9
  go_wp2_with fail
  rw [← hW]
  have HW := hd hW
  clear hW
  refine CW.mono ?_
  rintro e w1 ⟨rfl, hb1⟩
  obtain ⟨V, hV⟩ : ∃ V, V = w1.alloc (.cells #[.int .i64 D1, .int .i64 D2] 33) := ⟨_, rfl⟩
  have hVb : Below w1.heap.size w1 V := by rw [hV]; exact al1 _ _
  have bW := bthen hb1 hVb
  have bV := bthen hWb bW
  have tr := hWr.below hb1
  by_cases hc : D1 = 0
  rotate_left
  · have hr : R = (D1, D2) := hR.out.trans (tFl_bad hD hc)
    subst hr
    have hcb : (D1 != 0) = true := by simpa using hc
    have HD := hd hD
    clear hc hD
    have q0 := alcell tr.c0 (.cells #[.int .i64 D1, .int .i64 D2] 33)
    have q1 := alcell tr.c1 (.cells #[.int .i64 D1, .int .i64 D2] 33)
    have qf := (tr.below (al1 w1 (.cells #[.int .i64 D1, .int .i64 D2] 33))).fz
    go_wp2_with fail
    refine bodyPost_ret (v := .agg #[.int .i64 D1, .int .i64 D2]) (by simp [results, Try.results9, go_sem, q0, q1]) rfl ⟨rfl, ?_⟩
    rw [← hV]
    exact (bV.setCell (p := ⟨w.heap.size + 2, 0, none⟩) (by show w.heap.size ≤ w.heap.size + 2; omega) _).setCell (p := ⟨w.heap.size + 2, 1, none⟩) (by show w.heap.size ≤ w.heap.size + 2; omega) _
  subst hc
  have u0 := alcell (bkeep hb1 y0) (.cells #[.int .i64 0, .int .i64 D2] 33)
  have u1 := alcell (bkeep hb1 y1) (.cells #[.int .i64 0, .int .i64 D2] 33)
  obtain ⟨V2, hV2⟩ : ∃ V2, V2 = V.alloc (.cells #[.int .i64 t.rule, .slice at_ t.kids.len ct] 27) := ⟨_, rfl⟩
  have hV2b : Below V.heap.size V V2 := by rw [hV2]; exact al1 _ _
  have n0 : V2.cell? ⟨V.heap.size, 0, none⟩ = some (.int .i64 t.rule) := by rw [hV2]; simp
  have n1 : V2.cell? ⟨V.heap.size, 1, none⟩ = some (.slice at_ t.kids.len ct) := by rw [hV2]; simp
  have hVz : V.heap.size = w1.heap.size + 1 := by rw [hV]; simp
  have SV := nodesOf_any (.cons t.rule t.kids .nil) (.slice (some ⟨V.heap.size, 0, none⟩) 1 1) V2 400 (TfV_one n0 n1 (kt.lw (bthen bV hV2b))) (by omega)
  have hsz : (Tf.cons t.rule t.kids .nil).sz = 1 + t.kids.sz + 0 := rfl
  rw [hsz] at SV
  generalize ((min (1 + t.kids.sz + 0) (400 + 1) : Nat) : Int) = s at *
  have hDD := hd hD
  have Hsp := hd hsp
  clear hsp CW hsz
  have bVV := bthen bW hV2b
  have bVV' := bthen bV hV2b
  rw [hVz] at SV
  go_wp2_with fail
  rw [← hV, ← hV2]
  have HV := hd hV
  have HV2 := hd hV2
  clear hV hV2
  refine SV.mono ?_
  rintro e w2 ⟨rfl, hb2⟩
  have b2 := bthen bVV' hb2
  have b2W := bthen bVV hb2
  have t2 := ((tr.below hVb).below hV2b).below hb2
  have hts : t.sz = 1 + t.kids.sz := rfl
  by_cases h4 : 400 < t.sz
  · have h4' := hts ▸ h4
    have hsb : decide (400 < s) = true := by rw [Hsp.out]; simpa using h4'
    have hr : R = (6, -1) := hR.out.trans (tFl_many hDD.out h4)
    subst hr
    clear h4 h4' hD hts
    go_wp2_with fail
    refine (rF_any _ _ _).mono ?_
    rintro e wf ⟨rfl, hbf⟩
    have rf := t2.below hbf
    have q0 := rf.c0
    have q1 := rf.c1
    have qf := rf.fz
    have bf := bthen b2 hbf
    go_wp2_with fail
    refine bodyPost_ret (v := .agg #[.int .i64 6, .int .i64 (-1)]) (by simp [results, Try.results9, go_sem, q0, q1]) rfl ⟨rfl, ?_⟩
    exact (bf.setCell (p := ⟨w.heap.size + 2, 0, none⟩) (by show w.heap.size ≤ w.heap.size + 2; omega) _).setCell (p := ⟨w.heap.size + 2, 1, none⟩) (by show w.heap.size ≤ w.heap.size + 2; omega) _
  have h4' := hts ▸ h4
  have hsb : decide (400 < s) = false := by rw [Hsp.out]; simpa using h4'
  have z0 := bkeep b2W x0
  have z1 := bkeep b2W x1
  have z2 := bkeep b2W x2
  have z3 := bkeep b2W x3
  have z4 := bkeep b2W y0
  have z5 := bkeep b2W y1
  have F2 := FT w2 b2
  have hF := @tFl_fit g t v D2 hDD.out h4
  have hN := @tFl_not g t v D2 hDD.out h4
  have HF := hd hF
  have HN := hd hN
  have H4 := hd h4
  clear h4 h4' hts hD hF hN FT CK u0 u1 x0 x1 x2 x3 y0 y1
  generalize fitT g.rules t v = q at *
  go_wp2_with fail
  refine F2.mono ?_
  rintro e w3 ⟨rfl, hb3⟩
  have b3 := bthen b2 hb3
  have t3 := t2.below hb3
  have q0 := t3.c0
  have q1 := t3.c1
  have qf := t3.fz
  cases q with
  | true =>
    have hr : R = (0, 0) := hR.out.trans (HF.out rfl)
    subst hr
    go_wp2_with fail
    refine bodyPost_ret (v := .agg #[.int .i64 0, .int .i64 0]) (by simp [results, Try.results9, go_sem, q0, q1]) rfl ⟨rfl, ?_⟩
    exact (b3.setCell (p := ⟨w.heap.size + 2, 0, none⟩) (by show w.heap.size ≤ w.heap.size + 2; omega) _).setCell (p := ⟨w.heap.size + 2, 1, none⟩) (by show w.heap.size ≤ w.heap.size + 2; omega) _
  | false =>
    have hr : R = (13, -1) := hR.out.trans (HN.out rfl)
    subst hr
    go_wp2_with fail
    refine (rF_any _ _ _).mono ?_
    rintro e wf ⟨rfl, hbf⟩
    have rf := t3.below hbf
    have q0 := rf.c0
    have q1 := rf.c1
    have qf := rf.fz
    have bf := bthen b3 hbf
    go_wp2_with fail
    refine bodyPost_ret (v := .agg #[.int .i64 13, .int .i64 (-1)]) (by simp [results, Try.results9, go_sem, q0, q1]) rfl ⟨rfl, ?_⟩
    exact (bf.setCell (p := ⟨w.heap.size + 2, 0, none⟩) (by show w.heap.size ≤ w.heap.size + 2; omega) _).setCell (p := ⟨w.heap.size + 2, 1, none⟩) (by show w.heap.size ≤ w.heap.size + 2; omega) _
end Go.Proofs.Ytghplmldnkcpnad.G
