/- Texts laid together: Gf El. -/
import Derived.Test.YtcanphhmflbdmacL08
import Derived.Test.YtcanphhmflbdmacL28
import Derived.Test.YtcanphhmflbdmacL30
/- What is wrong with a grammar, in the document's way. -/
namespace Go.Proofs.Ytcanphhmflbdmac.G
open Go.RowKit
theorem gFl_no {g : Gm} (h : ¬ (1 ≤ g.vars ∧ g.vars ≤ 64 ∧ 0 ≤ g.terms ∧ g.terms ≤ 16 ∧ 0 ≤ g.start ∧ g.start < g.vars)) : gFl g = (9, -1) := by
  unfold gFl szB; rw [if_neg (by simpa using h)]
theorem gFl_many {g : Gm} (h : 1 ≤ g.vars ∧ g.vars ≤ 64 ∧ 0 ≤ g.terms ∧ g.terms ≤ 16 ∧ 0 ≤ g.start ∧ g.start < g.vars) (h1 : 160 < g.rules.length) : gFl g = (6, -1) := by
  unfold gFl szB; rw [if_pos (by simpa using h), if_pos h1]
theorem gFl_rest {g : Gm} (h : 1 ≤ g.vars ∧ g.vars ≤ 64 ∧ 0 ≤ g.terms ∧ g.terms ≤ 16 ∧ 0 ≤ g.start ∧ g.start < g.vars) (h1 : ¬ 160 < g.rules.length) : gFl g = rsF g (g.rules.drop 0) 0 := by
  unfold gFl szB; rw [if_pos (by simpa using h), if_neg h1]; rfl
theorem ruF_many {g : Gm} {r : Ru} (h : 10 < r.right.length) : ruF g r = 6 := if_pos h
theorem ruF_left {g : Gm} {r : Ru} (h : ¬ 10 < r.right.length) (h1 : ¬ (0 ≤ r.left ∧ r.left < g.vars)) : ruF g r = 9 := by
  unfold ruF; rw [if_neg h, if_neg (fun h => h1 h.1)]
theorem ruF_sym {g : Gm} {r : Ru} (h : ¬ 10 < r.right.length) {j : Nat} (hj : j < r.right.length) (h1 : ¬ (-g.terms ≤ r.right[j] ∧ r.right[j] < g.vars)) : ruF g r = 9 := by
  unfold ruF; rw [if_neg h, if_neg]
  intro ⟨_, h2⟩
  rw [List.all_eq_true] at h2
  have := h2 _ (List.getElem_mem hj)
  simp [syB] at this
  omega
theorem ruF_ok {g : Gm} {r : Ru} (h : ¬ 10 < r.right.length) (h1 : 0 ≤ r.left ∧ r.left < g.vars) (h2 : ∀ j (h : j < r.right.length), -g.terms ≤ r.right[j] ∧ r.right[j] < g.vars) : ruF g r = 0 := by
  unfold ruF; rw [if_neg h, if_pos]
  refine ⟨h1, ?_⟩
  rw [List.all_eq_true]
  intro x hx
  obtain ⟨j, hj, rfl⟩ := List.mem_iff_getElem.1 hx
  simpa [syB] using h2 j hj
set_option maxRecDepth 100000 in
set_option maxHeartbeats 16000000 in
theorem gramFault_any (g : Gm) (va : Value) (w : World) (ha : GV w All va g) :
    Calls Try.prog 10 #[va] w fun e w' => e = .returned (.agg #[.int .i64 (gFl g).1, .int .i64 (gFl g).2]) ∧ Below w.heap.size w w' := by
  obtain ⟨ua, rfl, ra⟩ := ha
  obtain ⟨ao, cap, rfl⟩ := ra.slice
  have hl := ra.1
  obtain ⟨W, hW⟩ : ∃ W, W = (w.alloc (.cells #[.int .i64 g.vars, .int .i64 g.terms, .int .i64 g.start, .slice ao g.rules.length cap] 24)).alloc (.cells #[.int .i64 0, .int .i64 0] 29) := ⟨_, rfl⟩
  have hWz : W.heap.size = w.heap.size + 2 := by rw [hW]; simp
  have hWb : Below w.heap.size w W := by rw [hW]; exact al2 _ _ _
  have hW0 : W.cell? ⟨w.heap.size, 0, none⟩ = some (.int .i64 g.vars) := by rw [hW]; simp
  have hW1 : W.cell? ⟨w.heap.size, 1, none⟩ = some (.int .i64 g.terms) := by rw [hW]; simp
  have hW3 : W.cell? ⟨w.heap.size, 3, none⟩ = some (.slice ao g.rules.length cap) := by rw [hW]; simp
  have hWr : RB W (w.heap.size + 1) := by rw [hW]; exact ⟨by simp, by simp, fun i => by simp [go_sem]⟩
  by_cases hs : 1 ≤ g.vars ∧ g.vars ≤ 64 ∧ 0 ≤ g.terms ∧ g.terms ≤ 16 ∧ 0 ≤ g.start ∧ g.start < g.vars
  rotate_left
  · rw [gFl_no hs]
    have hs' : (g.vars < 1) ∨ (1 ≤ g.vars ∧ 64 < g.vars) ∨ (1 ≤ g.vars ∧ g.vars ≤ 64 ∧ g.terms < 0) ∨ (1 ≤ g.vars ∧ g.vars ≤ 64 ∧ 0 ≤ g.terms ∧ 16 < g.terms) ∨ (1 ≤ g.vars ∧ g.vars ≤ 64 ∧ 0 ≤ g.terms ∧ g.terms ≤ 16 ∧ g.start < 0) ∨ (1 ≤ g.vars ∧ g.vars ≤ 64 ∧ 0 ≤ g.terms ∧ g.terms ≤ 16 ∧ 0 ≤ g.start ∧ g.vars ≤ g.start) := by omega
    clear hs
    rcases hs' with h1 | ⟨h1, h2⟩ | ⟨h1, h2, h3⟩ | ⟨h1, h2, h3, h4⟩ | ⟨h1, h2, h3, h4, h5⟩ | ⟨h1, h2, h3, h4, h5, h6⟩
    all_goals
      go_enter Try.func10, Try.ntmps10
      go_wp2_with fail
      rw [← hW]
      have HW := hd hW
      clear hW
      refine (rF_any _ _ _).mono ?_
      rintro e wf ⟨rfl, hbf⟩
      have rf := hWr.below hbf
      have q0 := rf.c0
      have q1 := rf.c1
      have qf := rf.fz
      have bf : Below w.heap.size w wf := bthen hWb hbf
      go_wp2_with fail
      refine bodyPost_ret (v := .agg #[.int .i64 9, .int .i64 (-1)]) (by simp [results, Try.results10, go_sem, q0, q1]) rfl ⟨rfl, ?_⟩
      exact (bf.setCell (p := ⟨w.heap.size + 1, 0, none⟩) (Nat.le_succ _) _).setCell (p := ⟨w.heap.size + 1, 1, none⟩) (Nat.le_succ _) _
  have HS := hd hs
  obtain ⟨s1, s2, s3, s4, s5, s6⟩ := hs
  by_cases h16 : 160 < g.rules.length
  · rw [gFl_many HS.out h16]
    go_enter Try.func10, Try.ntmps10
    go_wp2_with fail
    rw [← hW]
    have HW := hd hW
    clear hW
    refine (rF_any _ _ _).mono ?_
    rintro e wf ⟨rfl, hbf⟩
    have rf := hWr.below hbf
    have q0 := rf.c0
    have q1 := rf.c1
    have qf := rf.fz
    have bf : Below w.heap.size w wf := bthen hWb hbf
    go_wp2_with fail
    refine bodyPost_ret (v := .agg #[.int .i64 6, .int .i64 (-1)]) (by simp [results, Try.results10, go_sem, q0, q1]) rfl ⟨rfl, ?_⟩
    exact (bf.setCell (p := ⟨w.heap.size + 1, 0, none⟩) (Nat.le_succ _) _).setCell (p := ⟨w.heap.size + 1, 1, none⟩) (Nat.le_succ _) _
  have HR0 := hd (gFl_rest HS.out h16)
  generalize gFl g = R at *
  go_enter Try.func10, Try.ntmps10
  go_wp2_with fail
  rw [← hW]
  have HW := hd hW
  clear hW
  go_loopw [3] (fun i wr => ∃ k : Nat, k ≤ g.rules.length ∧ i = .int .i64 k ∧ Hid (R = rsF g (g.rules.drop k) k) ∧ Below W.heap.size W wr) (fun i _ => g.rules.length - (intOf i).toNat)
  case atStart => exact ⟨0, Nat.zero_le _, rfl, HR0, Below.refl _ _⟩
  case round =>
    obtain ⟨k, hk, rfl, hR, hb⟩ := hrel
    have bel : Below w.heap.size w wr := bthen hWb hb
    have t0 := bkeep hb hW0
    have t1 := bkeep hb hW1
    have t3 := bkeep hb hW3
    have tr := hWr.below hb
    by_cases hlt : k < g.rules.length
    · obtain ⟨b, o, rfl, c0, ar, cr, c1, hc⟩ := (ra.lw bel).at_ hlt
      have HR1 : Hid (R = if ruF g g.rules[k] = 0 then rsF g (g.rules.drop (k + 1)) (k + 1) else (ruF g g.rules[k], (k : Int))) := hd (by rw [hR.out, rsF_at hlt])
      clear hR
      generalize g.rules[k] = x at *
      have hxl := hc.1
      obtain ⟨V, hV⟩ : ∃ V, V = wr.alloc (.cells #[.int .i64 x.left, .slice ar x.right.length cr] 37) := ⟨_, rfl⟩
      have hVb : Below wr.heap.size wr V := by rw [hV]; exact al1 _ _
      have hV0 : V.cell? ⟨wr.heap.size, 0, none⟩ = some (.int .i64 x.left) := by rw [hV]; simp
      have hV1 : V.cell? ⟨wr.heap.size, 1, none⟩ = some (.slice ar x.right.length cr) := by rw [hV]; simp
      have belV : Below w.heap.size w V := bthen bel hVb
      have tV := tr.below hVb
      have a0 := alcell t0 (.cells #[.int .i64 x.left, .slice ar x.right.length cr] 37)
      have u0 := bkeep hVb t0
      have u1 := bkeep hVb t1
      have cV := hc.lw hVb
      by_cases h10 : 10 < x.right.length
      · have hRx : R = (6, (k : Int)) := by rw [HR1.out, ruF_many h10]; rfl
        subst hRx
        go_wp2_with fail
        rw [← hV]
        have HV := hd hV
        clear hV
        refine (rF_any _ _ _).mono ?_
        rintro e wf ⟨rfl, hbf⟩
        have rf := tV.below hbf
        have q0 := rf.c0
        have q1 := rf.c1
        have qf := rf.fz
        have bf : Below w.heap.size w wf := bthen belV hbf
        go_wp2_with fail
        refine bodyPost_ret (v := .agg #[.int .i64 6, .int .i64 k]) (by simp [results, Try.results10, go_sem, q0, q1]) rfl ⟨rfl, ?_⟩
        exact (bf.setCell (p := ⟨w.heap.size + 1, 0, none⟩) (Nat.le_succ _) _).setCell (p := ⟨w.heap.size + 1, 1, none⟩) (Nat.le_succ _) _
      by_cases hL : 0 ≤ x.left ∧ x.left < g.vars
      rotate_left
      · have hRx : R = (9, (k : Int)) := by rw [HR1.out, ruF_left h10 hL]; rfl
        subst hRx
        have hL' : x.left < 0 ∨ (0 ≤ x.left ∧ g.vars ≤ x.left) := by omega
        clear hL
        rcases hL' with hL | ⟨hL, hL1⟩
        all_goals
          go_wp2_with fail
          rw [← hV]
          have HV := hd hV
          clear hV
          refine (rF_any _ _ _).mono ?_
          rintro e wf ⟨rfl, hbf⟩
          have rf := tV.below hbf
          have q0 := rf.c0
          have q1 := rf.c1
          have qf := rf.fz
          have bf : Below w.heap.size w wf := bthen belV hbf
          go_wp2_with fail
          refine bodyPost_ret (v := .agg #[.int .i64 9, .int .i64 k]) (by simp [results, Try.results10, go_sem, q0, q1]) rfl ⟨rfl, ?_⟩
          exact (bf.setCell (p := ⟨w.heap.size + 1, 0, none⟩) (Nat.le_succ _) _).setCell (p := ⟨w.heap.size + 1, 1, none⟩) (Nat.le_succ _) _
      obtain ⟨hL0, hL1⟩ := hL
      go_wp2_with fail
      rw [← hV]
      have HV := hd hV
      clear hV
      go_loopw [5] (fun i wj => ∃ j : Nat, j ≤ x.right.length ∧ i = .int .i64 j ∧ Hid (∀ q (h : q < x.right.length), q < j → -g.terms ≤ x.right[q] ∧ x.right[q] < g.vars) ∧ Below V.heap.size V wj) (fun i _ => x.right.length - (intOf i).toNat)
      case atStart => exact ⟨0, Nat.zero_le _, rfl, hd (fun q _ hq => absurd hq (Nat.not_lt_zero _)), Below.refl _ _⟩
      case round =>
        rename World => wj
        obtain ⟨j, hj, rfl, hall, hbj⟩ := hrel
        have v0 := bkeep hbj u0
        have v1 := bkeep hbj u1
        have y0 := bkeep hbj hV0
        have y1 := bkeep hbj hV1
        by_cases hjl : j < x.right.length
        · obtain ⟨br, or', rfl, z0⟩ := (cV.lw hbj).at_ hjl
          have HN := hd (ruF_sym h10 (g := g) hjl)
          have HY : Hid (-g.terms ≤ x.right[j] ∧ x.right[j] < g.vars → ∀ q (h : q < x.right.length), q < j + 1 → -g.terms ≤ x.right[q] ∧ x.right[q] < g.vars) := hd (fun e q h hq => by
            by_cases eq : q = j
            · subst eq; exact e
            · exact hall.out q h (by omega))
          generalize x.right[j] = s at *
          have r0 := fun z : Wd wj => z.cell v0
          have r1 := fun z : Wd wj => z.cell v1
          have p0 := fun z : Wd wj => z.cell y0
          have p1 := fun z : Wd wj => z.cell y1
          have e0 := fun z : Wd wj => z.cell z0
          have wne : Nonempty (Wd wj) := Wd.ne _
          have HJL := hd hjl
          by_cases hok : -g.terms ≤ s ∧ s < g.vars
          · have HY' := hd (HY.out hok)
            obtain ⟨k1, k2⟩ := hok
            have g1 : decide (s < -g.terms) = false := by simpa using k1
            have g2 : decide (g.vars ≤ s) = false := by simpa using k2
            go_wp2_with fail
            refine region_quiet_lit (C := fun w' => ∃ z : Wd wj, w' = z.u) (by kernel_rfl) (by kernel_rfl) (Wd.drawn _) ?_
            iterate 19 (go_big_quiet_step (fail))
            refine wpQuiet_nil ?_
            intro _ hw'
            obtain ⟨z, hw''⟩ := hw'
            subst hw''
            have bz := bthen hbj z.h
            go_wp2_with fail
            go_roundw
            case rel => exact ⟨j + 1, by omega, by go_num, HY', bz⟩
            case measure => simp [intOf]; omega
          · have hRx : R = (9, (k : Int)) := by rw [HR1.out, HN.out hok]; rfl
            subst hRx
            have hok' : s < -g.terms ∨ (-g.terms ≤ s ∧ g.vars ≤ s) := by omega
            clear hok
            rcases hok' with k1 | ⟨k1, k2⟩
            · have g1 : decide (s < -g.terms) = true := by simpa using k1
              go_wp2_with fail
              refine region_quiet_lit (C := fun w' => ∃ z : Wd wj, w' = z.u) (by kernel_rfl) (by kernel_rfl) (Wd.drawn _) ?_
              iterate 19 (go_big_quiet_step (fail))
              refine wpQuiet_nil ?_
              intro _ hw'
              obtain ⟨z, hw''⟩ := hw'
              subst hw''
              have bz := bthen belV (bthen hbj z.h)
              have tz := (tV.below hbj).below z.h
              go_wp2_with fail
              refine (rF_any _ _ _).mono ?_
              rintro e wf ⟨rfl, hbf⟩
              have rf := tz.below hbf
              have q0 := rf.c0
              have q1 := rf.c1
              have qf := rf.fz
              have bf : Below w.heap.size w wf := bthen bz hbf
              go_wp2_with fail
              refine bodyPost_ret (v := .agg #[.int .i64 9, .int .i64 k]) (by simp [results, Try.results10, go_sem, q0, q1]) rfl ⟨rfl, ?_⟩
              exact (bf.setCell (p := ⟨w.heap.size + 1, 0, none⟩) (Nat.le_succ _) _).setCell (p := ⟨w.heap.size + 1, 1, none⟩) (Nat.le_succ _) _
            · have g1 : decide (s < -g.terms) = false := by simpa using k1
              have g2 : decide (g.vars ≤ s) = true := by simpa using k2
              go_wp2_with fail
              refine region_quiet_lit (C := fun w' => ∃ z : Wd wj, w' = z.u) (by kernel_rfl) (by kernel_rfl) (Wd.drawn _) ?_
              iterate 19 (go_big_quiet_step (fail))
              refine wpQuiet_nil ?_
              intro _ hw'
              obtain ⟨z, hw''⟩ := hw'
              subst hw''
              have bz := bthen belV (bthen hbj z.h)
              have tz := (tV.below hbj).below z.h
              go_wp2_with fail
              refine (rF_any _ _ _).mono ?_
              rintro e wf ⟨rfl, hbf⟩
              have rf := tz.below hbf
              have q0 := rf.c0
              have q1 := rf.c1
              have qf := rf.fz
              have bf : Below w.heap.size w wf := bthen bz hbf
              go_wp2_with fail
              refine bodyPost_ret (v := .agg #[.int .i64 9, .int .i64 k]) (by simp [results, Try.results10, go_sem, q0, q1]) rfl ⟨rfl, ?_⟩
              exact (bf.setCell (p := ⟨w.heap.size + 1, 0, none⟩) (Nat.le_succ _) _).setCell (p := ⟨w.heap.size + 1, 1, none⟩) (Nat.le_succ _) _
        · have HR2 : Hid (R = rsF g (g.rules.drop (k + 1)) (k + 1)) := hd (by rw [HR1.out, if_pos (ruF_ok h10 ⟨hL0, hL1⟩ (fun q h => hall.out q h (by omega)))])
          have bz := bthen hb (bthen hVb hbj)
          go_wp2_with fail
          go_roundw
          case rel => exact ⟨k + 1, by omega, by go_num, HR2, bz⟩
          case measure => simp [intOf]; omega
    · have hRx : R = (0, 0) := by rw [hR.out, rsF_end (by omega)]
      subst hRx
      have q0 := tr.c0
      have q1 := tr.c1
      have qf := tr.fz
      go_wp2_with fail
      refine bodyPost_ret (v := .agg #[.int .i64 0, .int .i64 0]) (by simp [results, Try.results10, go_sem, q0, q1]) rfl ⟨rfl, ?_⟩
      exact (bel.setCell (p := ⟨w.heap.size + 1, 0, none⟩) (Nat.le_succ _) _).setCell (p := ⟨w.heap.size + 1, 1, none⟩) (Nat.le_succ _) _
end Go.Proofs.Ytcanphhmflbdmac.G

/- Make and Expanded, whole; the laws' own beginning. -/
namespace Go.Proofs.Ytcanphhmflbdmac
open Go.RowKit G
def exN (ds : List Df) : List ByteArray := if (exF ds).1 = 0 then nms ds else []
def exT (ds : List Df) : List ByteArray := if (exF ds).1 = 0 then trms ds else []
theorem ex_wrong {ds : List Df} (h : (dfl ds).1 ≠ 0) : exGm ds = ⟨0, 0, 0, []⟩ ∧ exF ds = dfl ds ∧ exN ds = [] ∧ exT ds = [] := by
  have h1 : exF ds = dfl ds := if_pos h
  refine ⟨if_pos h, h1, ?_, ?_⟩
  · unfold exN; rw [h1, if_neg h]
  · unfold exT; rw [h1, if_neg h]
theorem ex_many {ds : List Df} (h : (dfl ds).1 = 0) (hb : (exA ds).1.bad = true) : exGm ds = ⟨0, 0, 0, []⟩ ∧ exF ds = (6, (exA ds).2) ∧ exN ds = [] ∧ exT ds = [] := by
  have h1 : exF ds = (6, (exA ds).2) := by unfold exF; rw [if_neg (by simpa using h), if_pos hb]
  refine ⟨by unfold exGm; rw [if_neg (by simpa using h), if_pos hb], h1, ?_, ?_⟩
  · unfold exN; rw [h1]; rfl
  · unfold exT; rw [h1]; rfl
theorem ex_good {ds : List Df} (h : (dfl ds).1 = 0) (hb : (exA ds).1.bad = false) : exGm ds = ⟨(exA ds).1.vars, (trms ds).length, 0, (exA ds).1.rules⟩ ∧ exF ds = (0, 0) ∧ exN ds = nms ds ∧ exT ds = trms ds := by
  have h1 : exF ds = (0, 0) := by unfold exF; rw [if_neg (by simpa using h), if_neg (by simp [hb])]
  refine ⟨by unfold exGm; rw [if_neg (by simpa using h), if_neg (by simp [hb])], h1, ?_, ?_⟩
  · unfold exN; rw [h1]; rfl
  · unfold exT; rw [h1]; rfl
theorem exF_right {ds : List Df} (h : (exF ds).1 = 0) : (dfl ds).1 = 0 ∧ (exA ds).1.bad = false ∧ (gFl (exGm ds)).1 = 0 := by
  by_cases h0 : (dfl ds).1 = 0
  · cases hb : (exA ds).1.bad with
    | true => rw [(ex_many h0 hb).2.1] at h; cases h
    | false => exact ⟨h0, rfl, exGm_right h0 hb⟩
  · rw [(ex_wrong h0).2.1] at h; exact absurd h h0
theorem exGm_rl (ds : List Df) : (exGm ds).rules.length ≤ 160 := by
  by_cases h0 : (dfl ds).1 = 0
  · cases hb : (exA ds).1.bad with
    | true => rw [(ex_many h0 hb).1]; simp
    | false => rw [(ex_good h0 hb).1]; exact (exA_ok h0).1.rl
  · rw [(ex_wrong h0).1]; simp
theorem make_all (ds : List Df) (va : Value) (w : World) (hx : DsV w All va ds) (h60 : ds.length ≤ 60) (hs : ∀ d ∈ ds, d.e.sz ≤ 3000 ∧ d.sh) :
    Calls Try.prog 22 #[.agg #[va]] w fun e w' => ∃ vr vn vt, e = .returned (.tuple #[.agg #[.int .i64 (exGm ds).vars, .int .i64 (exGm ds).terms, .int .i64 (exGm ds).start, vr, vn, vt], .agg #[.int .i64 (exF ds).1, .int .i64 (exF ds).2]]) ∧ RsV w' (fun k => w.heap.size ≤ k) vr (exGm ds).rules ∧ SsV w' vn (exN ds) ∧ SsV w' vt (exT ds) ∧ Below w.heap.size w w' := by
  by_cases h0 : (dfl ds).1 = 0
  · refine (make_good ds va w hx h60 hs h0).mono fun e w' h => ?_
    cases hb : (exA ds).1.bad with
    | true =>
      rw [if_pos hb] at h
      obtain ⟨rfl, hbel⟩ := h
      obtain ⟨e1, e2, e3, e4⟩ := ex_many h0 hb
      rw [e1, e2, e3, e4]
      exact ⟨_, _, _, rfl, RsV_nil _ _, SsV_nil _, SsV_nil _, hbel⟩
    | false =>
      rw [if_neg (by simp [hb])] at h
      obtain ⟨vr, vn, vt, rfl, h1, h2, h3, h4⟩ := h
      obtain ⟨e1, e2, e3, e4⟩ := ex_good h0 hb
      rw [e1, e2, e3, e4]
      exact ⟨vr, vn, vt, rfl, h1, h2, h3, h4⟩
  · refine (make_wrong ds va w hx h60 hs h0).mono fun e w' ⟨h1, hbel⟩ => ?_
    obtain ⟨e1, e2, e3, e4⟩ := ex_wrong h0
    rw [e1, e2, e3, e4]
    exact ⟨_, _, _, h1, RsV_nil _ _, SsV_nil _, SsV_nil _, hbel⟩
theorem expanded_all (ds : List Df) (va : Value) (w : World) (hx : DsV w All va ds) (h60 : ds.length ≤ 60) (hs : ∀ d ∈ ds, d.e.sz ≤ 3000 ∧ d.sh) :
    Calls Try.prog 23 #[.agg #[va]] w (ExD w (exGm ds) (exF ds)) := by
  by_cases h0 : (dfl ds).1 = 0
  · refine (expanded_good ds va w hx h60 hs h0).mono fun e w' h => ?_
    cases hb : (exA ds).1.bad with
    | true =>
      rw [if_pos hb] at h
      obtain ⟨e1, e2, _, _⟩ := ex_many h0 hb
      rw [e1, e2]; exact h
    | false =>
      rw [if_neg (by simp [hb])] at h
      obtain ⟨e1, e2, _, _⟩ := ex_good h0 hb
      rw [e1, e2]; exact h
  · have h := expanded_wrong ds va w hx h60 hs h0
    obtain ⟨e1, e2, _, _⟩ := ex_wrong h0
    rw [e1, e2]; exact h
/-- The text that is looked at first. -/
def ebD : List Df := [⟨⟨#[83]⟩, 0, ⟨6, ⟨#[]⟩, .cons 1 ⟨#[97]⟩ .nil .nil⟩⟩]
theorem exF_eb : exF ebD = (0, 0) := by kernel_rfl
theorem exGm_eb : exGm ebD = ⟨2, 1, 0, [⟨1, []⟩, ⟨1, [-1, 1]⟩, ⟨0, [1]⟩]⟩ := by kernel_rfl
theorem ok_eb : ∀ d ∈ ebD, d.e.sz ≤ 3000 ∧ d.sh := by
  intro d hd
  simp only [ebD, List.mem_cons, List.not_mem_nil, or_false] at hd
  subst hd
  simp [Df.sh, Xp.sh, Fo.sh, Xp.sz, Fo.sz, ByteArray.size]
set_option maxRecDepth 100000 in
set_option maxHeartbeats 2000000 in
theorem some_any (w : World) : Calls Try.prog 37 #[] w fun e w' => ∃ v, e = .returned (.agg #[v]) ∧ DsV w' All v ebD ∧ Below w.heap.size w w' := by
  obtain ⟨W, hW⟩ : ∃ W, W = ((((w.alloc (.cells #[.slice (some ⟨w.heap.size + 1 + 1 + 1, 0, none⟩) 1 1] 42)).alloc (.cells #[.int .i64 1, .string ⟨#[97]⟩, .slice none 0 0] 64)).alloc (.cells #[.int .i64 1, .string ⟨#[97]⟩, .slice none 0 0] 64)).alloc (.cells #[.string ⟨#[83]⟩, .int .i64 0, .int .i64 6, .string ⟨#[]⟩, .slice (some ⟨w.heap.size + 1 + 1, 0, none⟩) 1 1] 66)) := ⟨_, rfl⟩
  have bW : Below w.heap.size w W := by rw [hW]; exact bthen (al2 w _ _) (al2 _ _ _)
  have t0 : W.cell? ⟨w.heap.size, 0, none⟩ = some (.slice (some ⟨w.heap.size + 1 + 1 + 1, 0, none⟩) 1 1) := by rw [hW]; simp [go_sem]
  have hD : DsV W All (.slice (some ⟨w.heap.size + 1 + 1 + 1, 0, none⟩) 1 1) ebD := by
    refine ⟨by simp [ebD], _, 1, rfl, .inr ⟨_, _, rfl, ?_⟩⟩
    refine ⟨trivial, by rw [hW]; simp [go_sem], by rw [hW]; simp [go_sem], ⟨by rw [hW]; simp [go_sem], by rw [hW]; simp [go_sem], .slice (some ⟨w.heap.size + 1 + 1, 0, none⟩) 1 1, by rw [hW]; simp [go_sem], ?_⟩, trivial⟩
    refine ⟨by simp [Fo.len], _, 1, rfl, .inr ⟨_, _, rfl, ?_⟩⟩
    exact ⟨trivial, by rw [hW]; simp [go_sem], by rw [hW]; simp [go_sem], ⟨by simp [Fo.len], none, 0, by rw [hW]; simp [go_sem, Fo.len], .inl rfl⟩, trivial⟩
  go_enter Try.func37, Try.ntmps37
  go_wp2_with fail
  rw [← hW]
  exact bodyPost_ret (v := .agg #[.slice (some ⟨w.heap.size + 1 + 1 + 1, 0, none⟩) 1 1]) (by simp [results, Try.results37, go_sem, t0]) rfl ⟨_, rfl, hD, bW⟩
theorem IsV_two (w : World) (a b : Int) (t : TypeId) : IsV (w.alloc (.cells #[.int .i64 a, .int .i64 b] t)) G.All (.slice (some ⟨w.heap.size, 0, none⟩) 2 2) [a, b] :=
  ⟨by simp, _, 2, rfl, Nat.le_refl _, (fun h => by cases h), .inr ⟨w.heap.size, 0, rfl, trivial, fun i hi => by
    match i, hi with
    | 0, _ => simp
    | 1, _ => simp
    | n + 2, hi => exact absurd hi (by simp)⟩⟩
set_option maxRecDepth 100000 in
set_option maxHeartbeats 4000000 in
theorem ebegun_any (w : World) : Calls Try.prog 19 #[] w fun e w' => e = .returned (.bool true) ∧ Below w.heap.size w w' := by
  have MA := fun w1 v h => make_all ebD v w1 h (by simp [ebD]) ok_eb
  rw [exGm_eb, exF_eb] at MA
  go_enter Try.func19, Try.ntmps19
  go_wp2_with fail
  refine (some_any w).mono ?_
  rintro e w1 ⟨v1, rfl, hd1, hb1⟩
  go_wp2_with fail
  refine (MA w1 v1 hd1).mono ?_
  rintro e w2 ⟨vr, vn, vt, rfl, rs, sn, st, hb2⟩
  obtain ⟨aor, capr, rfl⟩ := rs.slice
  obtain ⟨aon, capn, rfl⟩ := sn.slice
  obtain ⟨aot, capt, rfl⟩ := st.slice
  generalize (exN ebD).length = n1 at *
  generalize (exT ebD).length = n2 at *
  clear sn st MA
  obtain ⟨b, o, rfl, c0, ar, cr, c1, iv⟩ := rs.at_ (k := 1) (by simp)
  simp only [List.getElem_cons_succ, List.getElem_cons_zero, List.length_cons, List.length_nil, Nat.zero_add, Nat.one_mul, Nat.reduceAdd] at c0 c1 iv
  clear rs
  have hbz := lt_of_cell c0
  obtain ⟨W, hW⟩ : ∃ W, W = (w2.alloc (.cells #[.int .i64 2, .int .i64 1, .int .i64 0, .slice (some ⟨b, o, none⟩) 3 capr, .slice aon n1 capn, .slice aot n2 capt] 47)).alloc (.cells #[.int .i64 0, .int .i64 0] 29) := ⟨_, rfl⟩
  have bW : Below w2.heap.size w2 W := by rw [hW]; exact al2 _ _ _
  have zW : W.heap.size = w2.heap.size + 1 + 1 := by rw [hW]; simp
  have SI := sameInts_any [-1, 1] [-1, 1] _ _ (W.alloc (.cells #[.int .i64 (-1), .int .i64 1] 3)) ((iv.lw (bthen bW (al1 _ _))).all) (IsV_two _ _ _ _)
  rw [zW] at SI
  have bE : Below w.heap.size w (W.alloc (.cells #[.int .i64 (-1), .int .i64 1] 3)) := bthen (bthen hb1 hb2) (bthen bW (al1 _ _))
  go_wp2_with fail
  rw [← hW]
  refine SI.mono ?_
  rintro e w3 ⟨rfl, hb3⟩
  go_wp2_with fail
  go_ret
  exact ⟨rfl, bthen bE hb3⟩
end Go.Proofs.Ytcanphhmflbdmac
