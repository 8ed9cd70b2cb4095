/- Texts laid together: Tc Ge Gq Gf Gp. -/
import Derived.Test.YtghplmldnkcpnadL02
/- The order of trees: what it is, the program's way, the document's way. -/
namespace Go.Proofs.Ytghplmldnkcpnad.G
open Go.RowKit
def cmpI (x y : Int) : Int := if x < y then -1 else if y < x then 1 else 0
/-- Rows of trees, tree by tree; where one has no more, it is the lower one. -/
def ordF : Tf → Tf → Int
  | .nil, .nil => 0
  | .nil, .cons .. => -1
  | .cons .., .nil => 1
  | .cons r k rest, .cons r' k' rest' => if r < r' then -1 else if r' < r then 1 else if ordF k k' = 0 then ordF rest rest' else ordF k k'
def ordT (a b : Tr) : Int := if a.rule < b.rule then -1 else if b.rule < a.rule then 1 else ordF a.kids b.kids
theorem ordF_cons (r r' : Int) (k k' rest rest' : Tf) : ordF (.cons r k rest) (.cons r' k' rest') = if ordT ⟨r, k⟩ ⟨r', k'⟩ = 0 then ordF rest rest' else ordT ⟨r, k⟩ ⟨r', k'⟩ := by
  simp only [ordF, ordT]
  by_cases h1 : r < r'
  · simp [h1]
  · by_cases h2 : r' < r
    · simp [h1, h2]
    · simp [h1, h2]
theorem ordF_refl : ∀ f : Tf, ordF f f = 0
  | .nil => rfl
  | .cons r k rest => by
    have h1 := ordF_refl k
    have h2 := ordF_refl rest
    simp [ordF, h1, h2]
theorem ordF_eq : ∀ f g : Tf, ordF f g = 0 → f = g
  | .nil, .nil, _ => rfl
  | .nil, .cons .., h => by simp [ordF] at h
  | .cons .., .nil, h => by simp [ordF] at h
  | .cons r k rest, .cons r' k' rest', h => by
    simp only [ordF] at h
    split at h
    · omega
    · split at h
      · omega
      · split at h
        · rename_i h1 h2 h3
          have e1 := ordF_eq k k' h3
          have e2 := ordF_eq rest rest' h
          have e3 : r = r' := by omega
          subst e1 e2 e3
          rfl
        · rename_i h3
          exact absurd h h3
theorem ordT_refl (a : Tr) : ordT a a = 0 := by simp [ordT, ordF_refl]
theorem ordT_eq {a b : Tr} (h : ordT a b = 0) : a = b := by
  unfold ordT at h
  split at h
  · omega
  · split at h
    · omega
    · obtain ⟨r, k⟩ := a
      obtain ⟨r', k'⟩ := b
      have := ordF_eq _ _ h
      simp only at *
      rw [this, show r = r' by omega]
theorem ordT_zero {a b : Tr} : ordT a b = 0 ↔ a = b := ⟨ordT_eq, fun e => by rw [e]; exact ordT_refl _⟩
theorem ordF_at {f g : Tf} {k : Nat} (h1 : k < f.len) (h2 : k < g.len) : ordF (f.drp k) (g.drp k) = if ordT (f.at_ k) (g.at_ k) = 0 then ordF (f.drp (k + 1)) (g.drp (k + 1)) else ordT (f.at_ k) (g.at_ k) := by
  rw [Tf.drp_at h1, Tf.drp_at h2, ordF_cons]
theorem ordF_more {f g : Tf} {k : Nat} (h1 : k < f.len) (h2 : g.len ≤ k) : ordF (f.drp k) (g.drp k) = 1 := by rw [Tf.drp_at h1, Tf.drp_end h2]; rfl
theorem ordF_less {f g : Tf} {k : Nat} (h1 : f.len ≤ k) (h2 : k < g.len) : ordF (f.drp k) (g.drp k) = -1 := by rw [Tf.drp_at h2, Tf.drp_end h1]; rfl
theorem ordF_end {f g : Tf} {k : Nat} (h1 : f.len ≤ k) (h2 : g.len ≤ k) : ordF (f.drp k) (g.drp k) = 0 := by rw [Tf.drp_end h1, Tf.drp_end h2]; rfl

/-! The program's. -/
set_option maxRecDepth 100000 in
set_option maxHeartbeats 4000000 in
theorem isNaN_any (x : Int) (w : World) : Calls Try.prog 36 #[.int .i64 x] w fun e w' => e = .returned (.bool false) ∧ w' = w := by
  go_enter Try.func36, Try.ntmps36
  go_wp2_with fail
  go_ret
  exact ⟨by simp, rfl⟩
set_option maxRecDepth 100000 in
set_option maxHeartbeats 4000000 in
theorem cmp_any (x y : Int) (w : World) : Calls Try.prog 27 #[.int .i64 x, .int .i64 y] w fun e w' => e = .returned (.int .i64 (cmpI x y)) ∧ w' = w := by
  have NX := isNaN_any x w
  have NY := isNaN_any y w
  obtain ⟨R, hR⟩ : ∃ R, R = cmpI x y := ⟨_, rfl⟩
  rw [← hR]
  by_cases h1 : x < y
  · have hR' : Hid (R = -1) := hd (by rw [hR]; unfold cmpI; rw [if_pos h1])
    clear hR
    go_enter Try.func27, Try.ntmps27
    go_wp2_with fail
    refine NX.mono ?_
    rintro e wx ⟨rfl, hwx⟩
    obtain rfl := hwx.symm
    go_wp2_with fail
    refine NY.mono ?_
    rintro e wx ⟨rfl, hwx⟩
    obtain rfl := hwx.symm
    go_wp2_with fail
    go_ret
    exact ⟨ret_int hR'.out.symm, rfl⟩
  · by_cases h2 : y < x
    · have hR' : Hid (R = 1) := hd (by rw [hR]; unfold cmpI; rw [if_neg h1, if_pos h2])
      clear hR
      go_enter Try.func27, Try.ntmps27
      go_wp2_with fail
      refine NX.mono ?_
      rintro e wx ⟨rfl, hwx⟩
      obtain rfl := hwx.symm
      go_wp2_with fail
      refine NY.mono ?_
      rintro e wx ⟨rfl, hwx⟩
      obtain rfl := hwx.symm
      go_wp2_with fail
      go_ret
      exact ⟨ret_int hR'.out.symm, rfl⟩
    · have hR' : Hid (R = 0) := hd (by rw [hR]; unfold cmpI; rw [if_neg h1, if_neg h2])
      clear hR
      go_enter Try.func27, Try.ntmps27
      go_wp2_with fail
      refine NX.mono ?_
      rintro e wx ⟨rfl, hwx⟩
      obtain rfl := hwx.symm
      go_wp2_with fail
      refine NY.mono ?_
      rintro e wx ⟨rfl, hwx⟩
      obtain rfl := hwx.symm
      go_wp2_with fail
      go_ret
      exact ⟨ret_int hR'.out.symm, rfl⟩
def OrOK (a : Tr) : Prop := ∀ (b : Tr) (va vb : Value) (w : World), TrV w All va a → TrV w All vb b →
  Calls Try.prog 14 #[va, vb] w fun e w' => e = .returned (.int .i64 (ordT a b)) ∧ Below w.heap.size w w'
set_option maxRecDepth 100000 in
set_option maxHeartbeats 8000000 in
theorem compareFunc_any (f g : Tf) (va vb : Value) (w : World) (ih : ∀ i, i < f.len → OrOK (f.at_ i)) (ha : TfV w All va f) (hb : TfV w All vb g) :
    Calls Try.prog 28 #[va, vb, .func (.func 14) #[] #[]] w fun e w' => e = .returned (.int .i64 (ordF f g)) ∧ Below w.heap.size w w' := by
  obtain ⟨ao, cap, rfl, _⟩ := ha.slice
  obtain ⟨ao', cap', rfl, _⟩ := hb.slice
  have hl := ha.1
  have hm := hb.1
  obtain ⟨R, hR⟩ : ∃ R, R = ordF f g := ⟨_, rfl⟩
  rw [← hR]
  go_enter Try.func28, Try.ntmps28
  go_wp2_with fail
  go_loopw [13] (fun i wr => ∃ k : Nat, k ≤ f.len ∧ k ≤ g.len ∧ i = .int .i64 k ∧ Hid (R = ordF (f.drp k) (g.drp k)) ∧ Below w.heap.size w wr) (fun i _ => f.len - (intOf i).toNat)
  case atStart => exact ⟨0, Nat.zero_le _, Nat.zero_le _, rfl, hd (by rw [hR, Tf.drp_zero, Tf.drp_zero]), Below.refl _ _⟩
  case round =>
    obtain ⟨k, hk, hk', rfl, hinv, bel⟩ := hrel
    clear hR
    by_cases hlt : k < f.len
    · obtain ⟨b, o, rfl, _, c0, aq, cq, c1, hq⟩ := (ha.lw bel).at_ hlt
      by_cases hlt' : k < g.len
      · obtain ⟨b', o', rfl, _, d0, ar, cr, d1, hr⟩ := (hb.lw bel).at_ hlt'
        have HI := hd (hinv.out.trans (ordF_at hlt hlt'))
        have IH := ih k hlt (g.at_ k)
        clear hinv
        generalize f.at_ k = x at *
        generalize g.at_ k = y at *
        obtain ⟨V, hV⟩ : ∃ V, V = (wr.alloc (.cells #[.int .i64 x.rule, .slice aq x.kids.len cq] 27)).alloc (.cells #[.int .i64 y.rule, .slice ar y.kids.len cr] 27) := ⟨_, rfl⟩
        have hVb : Below wr.heap.size wr V := by rw [hV]; exact al2 _ _ _
        have SR := IH _ _ V (TrV_mk (hq.lw hVb)) (TrV_mk (hr.lw hVb))
        have d0' := alcell d0 (.cells #[.int .i64 x.rule, .slice aq x.kids.len cq] 27)
        have d1' := alcell d1 (.cells #[.int .i64 x.rule, .slice aq x.kids.len cq] 27)
        generalize ordT x y = z at *
        by_cases hz : z = 0
        · have HI' := hd (HI.out.trans (if_pos hz))
          subst hz
          go_wp2_with fail
          rw [← hV]
          refine SR.mono ?_
          rintro e w1 ⟨rfl, hb1⟩
          have HV := hd hV
          clear hV
          have bz := bthen bel (bthen hVb hb1)
          go_wp2_with fail
          go_roundw
          case rel => exact ⟨k + 1, by omega, by omega, by go_num, HI', bz⟩
          case measure => simp [intOf]; omega
        · have HI' := hd (HI.out.trans (if_neg hz))
          have hzb : (z != 0) = true := by simpa using hz
          clear hz
          go_wp2_with fail
          rw [← hV]
          refine SR.mono ?_
          rintro e w1 ⟨rfl, hb1⟩
          have HV := hd hV
          clear hV
          have bz := bthen bel (bthen hVb hb1)
          go_wp2_with fail
          go_ret
          exact ⟨ret_int HI'.out.symm, bz⟩
      · have HI := hd (hinv.out.trans (ordF_more hlt (by omega)))
        generalize f.at_ k = x at *
        have bz : Below w.heap.size w (wr.alloc (.cells #[.int .i64 x.rule, .slice aq x.kids.len cq] 27)) := bthen bel (al1 _ _)
        go_wp2_with fail
        go_ret
        exact ⟨ret_int HI.out.symm, bz⟩
    · by_cases hlt' : k < g.len
      · have HI := hd (hinv.out.trans (ordF_less (by omega) hlt'))
        go_wp2_with fail
        go_ret
        exact ⟨ret_int HI.out.symm, bel⟩
      · have HI := hd (hinv.out.trans (ordF_end (by omega) (by omega)))
        go_wp2_with fail
        go_ret
        exact ⟨ret_int HI.out.symm, bel⟩
set_option maxRecDepth 100000 in
set_option maxHeartbeats 8000000 in
theorem or_head (a : Tr) (ih : ∀ i, i < a.kids.len → OrOK (a.kids.at_ i)) : OrOK a := by
  intro b va vb w ha hb
  obtain ⟨ua, rfl, ka⟩ := ha
  obtain ⟨ub, rfl, kb⟩ := hb
  obtain ⟨ao, cap, rfl, _⟩ := ka.slice
  obtain ⟨ao', cap', rfl, _⟩ := kb.slice
  obtain ⟨W, hW⟩ : ∃ W, W = (w.alloc (.cells #[.int .i64 a.rule, .slice ao a.kids.len cap] 27)).alloc (.cells #[.int .i64 b.rule, .slice ao' b.kids.len cap'] 27) := ⟨_, rfl⟩
  have hWb : Below w.heap.size w W := by rw [hW]; exact al2 _ _ _
  have CF := compareFunc_any a.kids b.kids _ _ W ih (ka.lw hWb) (kb.lw hWb)
  have CI := cmp_any a.rule b.rule W
  by_cases h : a.rule = b.rule
  · have hR : Hid (ordT a b = ordF a.kids b.kids) := hd (by unfold ordT; rw [if_neg (by omega), if_neg (by omega)])
    have hb' : (a.rule != b.rule) = false := by simpa using h
    generalize ordT a b = R at *
    generalize ordF a.kids b.kids = z at *
    clear h CI
    go_enter Try.func14, Try.ntmps14
    go_wp2_with fail
    rw [← hW]
    refine CF.mono ?_
    rintro e w1 ⟨rfl, hb1⟩
    have bz := bthen hWb hb1
    have HW := hd hW
    clear hW
    go_wp2_with fail
    go_ret
    exact ⟨ret_int hR.out.symm, bz⟩
  · have hR : Hid (ordT a b = cmpI a.rule b.rule) := hd (by unfold ordT cmpI; split; rfl; split; rfl; omega)
    have hb' : (a.rule != b.rule) = true := by simpa using h
    generalize ordT a b = R at *
    generalize cmpI a.rule b.rule = z at *
    clear h CF
    go_enter Try.func14, Try.ntmps14
    go_wp2_with fail
    rw [← hW]
    refine CI.mono ?_
    rintro e w1 ⟨rfl, hb1⟩
    obtain rfl := hb1.symm
    have HW := hd hW
    clear hW
    go_wp2_with fail
    go_ret
    exact ⟨ret_int hR.out.symm, hWb⟩
theorem or_all : ∀ (f : Tf) (i : Nat), i < f.len → OrOK (f.at_ i)
  | .nil, _, h => absurd h (Nat.not_lt_zero _)
  | .cons rule kids _, 0, _ => or_head ⟨rule, kids⟩ (or_all kids)
  | .cons _ _ rest, i + 1, h => or_all rest i (by simpa [Tf.len] using h)
theorem order_any (a : Tr) : OrOK a := or_head a (or_all a.kids)

/-! The document's. -/
def OfOK (a : Tr) : Prop := ∀ (b : Tr) (va vb : Value) (w : World), TrV w All va a → TrV w All vb b →
  Calls Try.prog 15 #[va, vb] w fun e w' => e = .returned (.int .i64 (ordT a b)) ∧ Below w.heap.size w w'
set_option maxRecDepth 100000 in
set_option maxHeartbeats 8000000 in
theorem of_head (a : Tr) (ih : ∀ i, i < a.kids.len → OfOK (a.kids.at_ i)) : OfOK a := by
  intro b va vb w ha hb
  obtain ⟨ua, rfl, ka⟩ := ha
  obtain ⟨ub, rfl, kb⟩ := hb
  obtain ⟨ao, cap, rfl, _⟩ := ka.slice
  obtain ⟨ao', cap', rfl, _⟩ := kb.slice
  have hl := ka.1
  have hm := kb.1
  obtain ⟨W, hW⟩ : ∃ W, W = (w.alloc (.cells #[.int .i64 a.rule, .slice ao a.kids.len cap] 27)).alloc (.cells #[.int .i64 b.rule, .slice ao' b.kids.len cap'] 27) := ⟨_, rfl⟩
  have hWb : Below w.heap.size w W := by rw [hW]; exact al2 _ _ _
  have x1 : W.cell? ⟨w.heap.size, 1, none⟩ = some (.slice ao a.kids.len cap) := by rw [hW]; simp
  have y1 : W.cell? ⟨w.heap.size + 1, 1, none⟩ = some (.slice ao' b.kids.len cap') := by rw [hW]; simp
  by_cases h1 : a.rule < b.rule
  · have hR : Hid (ordT a b = -1) := hd (by unfold ordT; rw [if_pos h1])
    go_enter Try.func15, Try.ntmps15
    go_wp2_with fail
    rw [← hW]
    go_ret
    exact ⟨ret_int hR.out.symm, hWb⟩
  by_cases h2 : b.rule < a.rule
  · have hR : Hid (ordT a b = 1) := hd (by unfold ordT; rw [if_neg h1, if_pos h2])
    go_enter Try.func15, Try.ntmps15
    go_wp2_with fail
    rw [← hW]
    go_ret
    exact ⟨ret_int hR.out.symm, hWb⟩
  have hR : ordT a b = ordF (a.kids.drp 0) (b.kids.drp 0) := by unfold ordT; rw [if_neg h1, if_neg h2, Tf.drp_zero, Tf.drp_zero]
  generalize ordT a b = R at *
  go_enter Try.func15, Try.ntmps15
  go_wp2_with fail
  rw [← hW]
  have HW := hd hW
  clear hW h1 h2
  go_loopw [5] (fun i wr => ∃ k : Nat, k ≤ a.kids.len ∧ k ≤ b.kids.len ∧ i = .int .i64 k ∧ Hid (R = ordF (a.kids.drp k) (b.kids.drp k)) ∧ Below W.heap.size W wr) (fun i _ => a.kids.len - (intOf i).toNat)
  case atStart => exact ⟨0, Nat.zero_le _, Nat.zero_le _, rfl, hd hR, Below.refl _ _⟩
  case round =>
    obtain ⟨k, hk, hk', rfl, hinv, hbl⟩ := hrel
    clear hR
    have bel := bthen hWb hbl
    have s1 := bkeep hbl x1
    have t1 := bkeep hbl y1
    by_cases hlt : k < a.kids.len
    · by_cases hlt' : k < b.kids.len
      · obtain ⟨b1, o1, rfl, _, c0, aq, cq, c1, hq⟩ := (ka.lw bel).at_ hlt
        obtain ⟨b2, o2, rfl, _, d0, ar, cr, d1, hr⟩ := (kb.lw bel).at_ hlt'
        have HI := hd (hinv.out.trans (ordF_at hlt hlt'))
        have IH := ih k hlt (b.kids.at_ k)
        clear hinv
        generalize a.kids.at_ k = x at *
        generalize b.kids.at_ k = y at *
        have SI := fun z : Wd wr => IH _ _ z.u (TrV_mk (hq.lw z.h)) (TrV_mk (hr.lw z.h))
        have NE := Wd.ne wr
        have sz1 := fun z : Wd wr => z.cell s1
        have tz1 := fun z : Wd wr => z.cell t1
        have cz0 := fun z : Wd wr => z.cell c0
        have cz1 := fun z : Wd wr => z.cell c1
        have dz0 := fun z : Wd wr => z.cell d0
        have dz1 := fun z : Wd wr => z.cell d1
        clear hq hr
        generalize ordT x y = z at *
        by_cases hz : z = 0
        · have HI' := hd (HI.out.trans (if_pos hz))
          subst hz
          go_wp2_with fail
          refine region_quiet_lit (C := fun w' => ∃ z : Wd wr, w' = z.u) (by kernel_rfl) (by kernel_rfl) (Wd.drawn _) ?_
          iterate 10 (go_big_quiet_step (fail))
          go_big_quiet_step (exact calls_wd (SI _))
          iterate 1 (go_big_quiet_step (fail))
          refine wpQuiet_nil ?_
          intro _ hw'
          obtain ⟨z, hw''⟩ := hw'
          subst hw''
          have bz := bthen hbl z.h
          go_wp2_with fail
          go_roundw
          case rel => exact ⟨k + 1, by omega, by omega, by go_num, HI', bz⟩
          case measure => simp [intOf]; omega
        · have HI' := hd (HI.out.trans (if_neg hz))
          have hzb : (z != 0) = true := by simpa using hz
          clear hz
          go_wp2_with fail
          refine region_quiet_lit (C := fun w' => ∃ z : Wd wr, w' = z.u) (by kernel_rfl) (by kernel_rfl) (Wd.drawn _) ?_
          iterate 10 (go_big_quiet_step (fail))
          go_big_quiet_step (exact calls_wd (SI _))
          iterate 1 (go_big_quiet_step (fail))
          refine wpQuiet_nil ?_
          intro _ hw'
          obtain ⟨z, hw''⟩ := hw'
          subst hw''
          have bz := bthen bel z.h
          go_wp2_with fail
          go_ret
          exact ⟨ret_int HI'.out.symm, bz⟩
      · have HI := hd (hinv.out.trans (ordF_more hlt (by omega)))
        go_wp2_with fail
        go_ret
        exact ⟨ret_int HI.out.symm, bel⟩
    · by_cases hlt' : k < b.kids.len
      · have HI := hd (hinv.out.trans (ordF_less (by omega) hlt'))
        go_wp2_with fail
        go_ret
        exact ⟨ret_int HI.out.symm, bel⟩
      · have HI := hd (hinv.out.trans (ordF_end (by omega) (by omega)))
        go_wp2_with fail
        go_ret
        exact ⟨ret_int HI.out.symm, bel⟩
theorem of_all : ∀ (f : Tf) (i : Nat), i < f.len → OfOK (f.at_ i)
  | .nil, _, h => absurd h (Nat.not_lt_zero _)
  | .cons rule kids _, 0, _ => of_head ⟨rule, kids⟩ (of_all kids)
  | .cons _ _ rest, i + 1, h => of_all rest i (by simpa [Tf.len] using h)
theorem orderOf_any (a : Tr) : OfOK a := of_head a (of_all a.kids)
set_option maxRecDepth 100000 in
set_option maxHeartbeats 8000000 in
theorem sameTree_any (a b : Tr) (va vb : Value) (w : World) (ha : TrV w All va a) (hb : TrV w All vb b) :
    Calls Try.prog 16 #[va, vb] w fun e w' => e = .returned (.bool (decide (a = b))) ∧ Below w.heap.size w w' := by
  have hR : Hid (decide (a = b) = (ordT a b == 0)) := hd (by
    by_cases h : a = b
    · rw [decide_eq_true h, ordT_zero.2 h]; rfl
    · rw [decide_eq_false h]
      have : ¬ ordT a b = 0 := fun e => h (ordT_eq e)
      simpa using this)
  have OA := fun w' (hw : Below w.heap.size w w') => orderOf_any a b va vb w' (ha.lw hw) (hb.lw hw)
  generalize ordT a b = z at *
  obtain ⟨ua, rfl, ka⟩ := ha
  obtain ⟨ub, rfl, kb⟩ := hb
  obtain ⟨ao, cap, rfl, _⟩ := ka.slice
  obtain ⟨ao', cap', rfl, _⟩ := kb.slice
  obtain ⟨W, hW⟩ : ∃ W, W = (w.alloc (.cells #[.int .i64 a.rule, .slice ao a.kids.len cap] 27)).alloc (.cells #[.int .i64 b.rule, .slice ao' b.kids.len cap'] 27) := ⟨_, rfl⟩
  have hWb : Below w.heap.size w W := by rw [hW]; exact al2 _ _ _
  have OW := OA W hWb
  generalize decide (a = b) = q at *
  go_enter Try.func16, Try.ntmps16
  go_wp2_with fail
  rw [← hW]
  refine OW.mono ?_
  rintro e w1 ⟨rfl, hb1⟩
  have bz := bthen hWb hb1
  have HW := hd hW
  clear hW
  go_wp2_with fail
  go_ret
  exact ⟨ret_bool hR.out.symm, bz⟩
end Go.Proofs.Ytghplmldnkcpnad.G

/- Grammars, in the document's way: two that are the same; what is wrong with one. -/
namespace Go.Proofs.Ytghplmldnkcpnad.G
open Go.RowKit

/-- Vars, Terms and Start are as they should be. -/
def szB (g : Gm) : Bool := decide (1 ≤ g.vars ∧ g.vars ≤ 64 ∧ 0 ≤ g.terms ∧ g.terms ≤ 16 ∧ 0 ≤ g.start ∧ g.start < g.vars)
/-- A symbol. -/
def syB (g : Gm) (s : Int) : Bool := decide (-g.terms ≤ s ∧ s < g.vars)
def ruF (g : Gm) (r : Ru) : Int := if 10 < r.right.length then 6 else if (0 ≤ r.left ∧ r.left < g.vars) ∧ r.right.all (syB g) = true then 0 else 9
def rsF (g : Gm) : List Ru → Nat → Int × Int
  | [], _ => (0, 0)
  | r :: l, k => if ruF g r = 0 then rsF g l (k + 1) else (ruF g r, (k : Int))
/-- What is wrong with a grammar. -/
def gFl (g : Gm) : Int × Int := if szB g then if 160 < g.rules.length then (6, -1) else rsF g g.rules 0 else (9, -1)
theorem rsF_at {g : Gm} {l : List Ru} {k : Nat} (h : k < l.length) : rsF g (l.drop k) k = if ruF g l[k] = 0 then rsF g (l.drop (k + 1)) (k + 1) else (ruF g l[k], (k : Int)) := by
  rw [List.drop_eq_getElem_cons h]; rfl
theorem rsF_end {g : Gm} {l : List Ru} {k : Nat} (h : l.length ≤ k) : rsF g (l.drop k) k = (0, 0) := by
  rw [List.drop_of_length_le h]; rfl
set_option maxRecDepth 100000 in
set_option maxHeartbeats 4000000 in
theorem rF_any (a b : Int) (w : World) :
    Calls Try.prog 21 #[.int .i64 a, .int .i64 b] w fun e w' => e = .returned (.agg #[.int .i64 a, .int .i64 b]) ∧ Below w.heap.size w w' := by
  go_enter Try.func21, Try.ntmps21
  go_wp2_with fail
  refine bodyPost_ret (v := .agg #[.int .i64 a, .int .i64 b]) (by simp [results, Try.results21, go_sem]) rfl ⟨rfl, al1 _ _⟩
end Go.Proofs.Ytghplmldnkcpnad.G

/- Grammars, the program's way: two that are the same; kids; the rules of a nonterminal. -/
namespace Go.Proofs.Ytghplmldnkcpnad.G
open Go.RowKit
set_option maxRecDepth 100000 in
set_option maxHeartbeats 4000000 in
theorem kids_any (x : Ru) (ar : Option Addr) (cr : Nat) (w : World) (ha : IsV w All (.slice ar x.right.length cr) x.right) (h6 : x.right.length ≤ 1000000) :
    Calls Try.prog 34 #[.agg #[.int .i64 x.left, .slice ar x.right.length cr]] w fun e w' => ∃ v, e = .returned v ∧ w'.ownsRow w.heap.size 3 1 v (kidsL x.right).length (ints (kidsL x.right)) ∧ Below w.heap.size w w' := by
  obtain ⟨i0, hi, iz0, iz1, iz2⟩ := info_parts Try.infoInt
  obtain ⟨W, hW⟩ : ∃ W, W = w.alloc (.cells #[.int .i64 x.left, .slice ar x.right.length cr] 46) := ⟨_, rfl⟩
  have hWz : W.heap.size = w.heap.size + 1 := by rw [hW]; simp
  have hWb : Below w.heap.size w W := by rw [hW]; exact al1 _ _
  generalize x.right = l at *
  go_enter Try.func34, Try.ntmps34
  go_wp2_with fail
  rw [← hW]
  have HW := hd hW
  clear hW
  go_loopw [3, 9] (fun v i wr => ∃ (k : Nat) (acc : List Int), k ≤ l.length ∧ i = .int .i64 k ∧ Hid (acc = kidsL (l.take k)) ∧ acc.length ≤ k ∧ wr.ownsRow (w.heap.size + 1) 3 1 v acc.length (ints acc) ∧ Below W.heap.size W wr) (fun _ i _ => l.length - (intOf i).toNat)
  case atStart => exact ⟨0, [], Nat.zero_le _, rfl, hd (by simp [kidsL]), Nat.le_refl _, World.ownsRow_nil _ _ _ _, Below.refl _ _⟩
  case round =>
    obtain ⟨k, acc, hk, rfl, hacc, hal, hown, hb⟩ := hrel
    have hz := hb.size
    have bel : Below w.heap.size w wr := bthen hWb hb
    by_cases hlt : k < l.length
    · obtain ⟨b, o, rfl, c0⟩ := (ha.lw bel).at_ hlt
      have HY : Hid (0 ≤ l[k] → acc ++ [l[k]] = kidsL (l.take (k + 1))) := hd (fun e => by rw [hacc.out, kidsL_yes hlt e])
      have HN : Hid (¬ 0 ≤ l[k] → acc = kidsL (l.take (k + 1))) := hd (fun e => by rw [hacc.out, kidsL_no hlt e])
      clear hacc
      generalize l[k] = x at *
      obtain ⟨aov, capv, rfl⟩ := owns_slice hown
      by_cases hx : 0 ≤ x
      · go_wp2_with (first | (at_builtin; go_must (refine wpList_append_own _ rfl _ _ 35 rfl (w.heap.size + 1) 3 i0 (.int .i64 0) 1 8 Try.underlying35 hi iz0 iz1 iz2 rfl (by decide) _ _ _ rfl (hown.alloc _) ⟨wr.heap.size, 0, none⟩ 1 1 [.int .i64 x] rfl rfl (cell_one_at _ _ _ (by simp)) (oneInts [x]) (by unfold maxLen; omega) (by omega) (by simp <;> omega) ?_)))
        intro v1 W1 own1 grow1 _
        go_wp2_with fail
        go_roundw
        case rel => exact ⟨k + 1, acc ++ [x], by omega, by go_num, hd (HY.out hx), by simp; omega, by simpa [ints] using own1, (hb.alloc hz _).grown grow1 (by simp <;> omega) (fun j hj => by have := (hown.lt j hj).1; omega)⟩
        case measure => simp [intOf]; omega
      · go_wp2_with fail
        go_roundw
        case rel => exact ⟨k + 1, acc, by omega, by go_num, hd (HN.out hx), by omega, hown, hb⟩
        case measure => simp [intOf]; omega
    · have he : acc = kidsL l := by rw [hacc.out, List.take_of_length_le (by omega)]
      rw [he] at hown
      clear hacc hal
      go_wp2_with fail
      go_ret
      exact ⟨_, rfl, owns_mono hown (by omega), bel⟩
end Go.Proofs.Ytghplmldnkcpnad.G

/- What is wrong with a grammar, in the document's way. -/
namespace Go.Proofs.Ytghplmldnkcpnad.G
open Go.RowKit
theorem gFl_no {g : Gm} (h : ¬ (1 ≤ g.vars ∧ g.vars ≤ 64 ∧ 0 ≤ g.terms ∧ g.terms ≤ 16 ∧ 0 ≤ g.start ∧ g.start < g.vars)) : gFl g = (9, -1) := by
  unfold gFl szB; rw [if_neg (by simpa using h)]
theorem gFl_many {g : Gm} (h : 1 ≤ g.vars ∧ g.vars ≤ 64 ∧ 0 ≤ g.terms ∧ g.terms ≤ 16 ∧ 0 ≤ g.start ∧ g.start < g.vars) (h1 : 160 < g.rules.length) : gFl g = (6, -1) := by
  unfold gFl szB; rw [if_pos (by simpa using h), if_pos h1]
theorem gFl_rest {g : Gm} (h : 1 ≤ g.vars ∧ g.vars ≤ 64 ∧ 0 ≤ g.terms ∧ g.terms ≤ 16 ∧ 0 ≤ g.start ∧ g.start < g.vars) (h1 : ¬ 160 < g.rules.length) : gFl g = rsF g (g.rules.drop 0) 0 := by
  unfold gFl szB; rw [if_pos (by simpa using h), if_neg h1]; rfl
theorem ruF_many {g : Gm} {r : Ru} (h : 10 < r.right.length) : ruF g r = 6 := if_pos h
theorem ruF_left {g : Gm} {r : Ru} (h : ¬ 10 < r.right.length) (h1 : ¬ (0 ≤ r.left ∧ r.left < g.vars)) : ruF g r = 9 := by
  unfold ruF; rw [if_neg h, if_neg (fun h => h1 h.1)]
theorem ruF_sym {g : Gm} {r : Ru} (h : ¬ 10 < r.right.length) {j : Nat} (hj : j < r.right.length) (h1 : ¬ (-g.terms ≤ r.right[j] ∧ r.right[j] < g.vars)) : ruF g r = 9 := by
  unfold ruF; rw [if_neg h, if_neg]
  intro ⟨_, h2⟩
  rw [List.all_eq_true] at h2
  have := h2 _ (List.getElem_mem hj)
  simp [syB] at this
  omega
theorem ruF_ok {g : Gm} {r : Ru} (h : ¬ 10 < r.right.length) (h1 : 0 ≤ r.left ∧ r.left < g.vars) (h2 : ∀ j (h : j < r.right.length), -g.terms ≤ r.right[j] ∧ r.right[j] < g.vars) : ruF g r = 0 := by
  unfold ruF; rw [if_neg h, if_pos]
  refine ⟨h1, ?_⟩
  rw [List.all_eq_true]
  intro x hx
  obtain ⟨j, hj, rfl⟩ := List.mem_iff_getElem.1 hx
  simpa [syB] using h2 j hj
set_option maxRecDepth 100000 in
set_option maxHeartbeats 16000000 in
theorem gramFault_any (g : Gm) (va : Value) (w : World) (ha : GV w All va g) :
    Calls Try.prog 20 #[va] w fun e w' => e = .returned (.agg #[.int .i64 (gFl g).1, .int .i64 (gFl g).2]) ∧ Below w.heap.size w w' := by
  obtain ⟨ua, rfl, ra⟩ := ha
  obtain ⟨ao, cap, rfl⟩ := ra.slice
  have hl := ra.1
  obtain ⟨W, hW⟩ : ∃ W, W = (w.alloc (.cells #[.int .i64 g.vars, .int .i64 g.terms, .int .i64 g.start, .slice ao g.rules.length cap] 24)).alloc (.cells #[.int .i64 0, .int .i64 0] 33) := ⟨_, rfl⟩
  have hWz : W.heap.size = w.heap.size + 2 := by rw [hW]; simp
  have hWb : Below w.heap.size w W := by rw [hW]; exact al2 _ _ _
  have hW0 : W.cell? ⟨w.heap.size, 0, none⟩ = some (.int .i64 g.vars) := by rw [hW]; simp
  have hW1 : W.cell? ⟨w.heap.size, 1, none⟩ = some (.int .i64 g.terms) := by rw [hW]; simp
  have hW3 : W.cell? ⟨w.heap.size, 3, none⟩ = some (.slice ao g.rules.length cap) := by rw [hW]; simp
  have hWr : RB W (w.heap.size + 1) := by rw [hW]; exact ⟨by simp, by simp, fun i => by simp [go_sem]⟩
  by_cases hs : 1 ≤ g.vars ∧ g.vars ≤ 64 ∧ 0 ≤ g.terms ∧ g.terms ≤ 16 ∧ 0 ≤ g.start ∧ g.start < g.vars
  rotate_left
  · rw [gFl_no hs]
    have hs' : (g.vars < 1) ∨ (1 ≤ g.vars ∧ 64 < g.vars) ∨ (1 ≤ g.vars ∧ g.vars ≤ 64 ∧ g.terms < 0) ∨ (1 ≤ g.vars ∧ g.vars ≤ 64 ∧ 0 ≤ g.terms ∧ 16 < g.terms) ∨ (1 ≤ g.vars ∧ g.vars ≤ 64 ∧ 0 ≤ g.terms ∧ g.terms ≤ 16 ∧ g.start < 0) ∨ (1 ≤ g.vars ∧ g.vars ≤ 64 ∧ 0 ≤ g.terms ∧ g.terms ≤ 16 ∧ 0 ≤ g.start ∧ g.vars ≤ g.start) := by omega
    clear hs
    rcases hs' with h1 | ⟨h1, h2⟩ | ⟨h1, h2, h3⟩ | ⟨h1, h2, h3, h4⟩ | ⟨h1, h2, h3, h4, h5⟩ | ⟨h1, h2, h3, h4, h5, h6⟩
    all_goals
      go_enter Try.func20, Try.ntmps20
      go_wp2_with fail
      rw [← hW]
      have HW := hd hW
      clear hW
      refine (rF_any _ _ _).mono ?_
      rintro e wf ⟨rfl, hbf⟩
      have rf := hWr.below hbf
      have q0 := rf.c0
      have q1 := rf.c1
      have qf := rf.fz
      have bf : Below w.heap.size w wf := bthen hWb hbf
      go_wp2_with fail
      refine bodyPost_ret (v := .agg #[.int .i64 9, .int .i64 (-1)]) (by simp [results, Try.results20, go_sem, q0, q1]) rfl ⟨rfl, ?_⟩
      exact (bf.setCell (p := ⟨w.heap.size + 1, 0, none⟩) (Nat.le_succ _) _).setCell (p := ⟨w.heap.size + 1, 1, none⟩) (Nat.le_succ _) _
  have HS := hd hs
  obtain ⟨s1, s2, s3, s4, s5, s6⟩ := hs
  by_cases h16 : 160 < g.rules.length
  · rw [gFl_many HS.out h16]
    go_enter Try.func20, Try.ntmps20
    go_wp2_with fail
    rw [← hW]
    have HW := hd hW
    clear hW
    refine (rF_any _ _ _).mono ?_
    rintro e wf ⟨rfl, hbf⟩
    have rf := hWr.below hbf
    have q0 := rf.c0
    have q1 := rf.c1
    have qf := rf.fz
    have bf : Below w.heap.size w wf := bthen hWb hbf
    go_wp2_with fail
    refine bodyPost_ret (v := .agg #[.int .i64 6, .int .i64 (-1)]) (by simp [results, Try.results20, go_sem, q0, q1]) rfl ⟨rfl, ?_⟩
    exact (bf.setCell (p := ⟨w.heap.size + 1, 0, none⟩) (Nat.le_succ _) _).setCell (p := ⟨w.heap.size + 1, 1, none⟩) (Nat.le_succ _) _
  have HR0 := hd (gFl_rest HS.out h16)
  generalize gFl g = R at *
  go_enter Try.func20, Try.ntmps20
  go_wp2_with fail
  rw [← hW]
  have HW := hd hW
  clear hW
  go_loopw [3] (fun i wr => ∃ k : Nat, k ≤ g.rules.length ∧ i = .int .i64 k ∧ Hid (R = rsF g (g.rules.drop k) k) ∧ Below W.heap.size W wr) (fun i _ => g.rules.length - (intOf i).toNat)
  case atStart => exact ⟨0, Nat.zero_le _, rfl, HR0, Below.refl _ _⟩
  case round =>
    obtain ⟨k, hk, rfl, hR, hb⟩ := hrel
    have bel : Below w.heap.size w wr := bthen hWb hb
    have t0 := bkeep hb hW0
    have t1 := bkeep hb hW1
    have t3 := bkeep hb hW3
    have tr := hWr.below hb
    by_cases hlt : k < g.rules.length
    · obtain ⟨b, o, rfl, c0, ar, cr, c1, hc⟩ := (ra.lw bel).at_ hlt
      have HR1 : Hid (R = if ruF g g.rules[k] = 0 then rsF g (g.rules.drop (k + 1)) (k + 1) else (ruF g g.rules[k], (k : Int))) := hd (by rw [hR.out, rsF_at hlt])
      clear hR
      generalize g.rules[k] = x at *
      have hxl := hc.1
      obtain ⟨V, hV⟩ : ∃ V, V = wr.alloc (.cells #[.int .i64 x.left, .slice ar x.right.length cr] 46) := ⟨_, rfl⟩
      have hVb : Below wr.heap.size wr V := by rw [hV]; exact al1 _ _
      have hV0 : V.cell? ⟨wr.heap.size, 0, none⟩ = some (.int .i64 x.left) := by rw [hV]; simp
      have hV1 : V.cell? ⟨wr.heap.size, 1, none⟩ = some (.slice ar x.right.length cr) := by rw [hV]; simp
      have belV : Below w.heap.size w V := bthen bel hVb
      have tV := tr.below hVb
      have a0 := alcell t0 (.cells #[.int .i64 x.left, .slice ar x.right.length cr] 46)
      have u0 := bkeep hVb t0
      have u1 := bkeep hVb t1
      have cV := hc.lw hVb
      by_cases h10 : 10 < x.right.length
      · have hRx : R = (6, (k : Int)) := by rw [HR1.out, ruF_many h10]; rfl
        subst hRx
        go_wp2_with fail
        rw [← hV]
        have HV := hd hV
        clear hV
        refine (rF_any _ _ _).mono ?_
        rintro e wf ⟨rfl, hbf⟩
        have rf := tV.below hbf
        have q0 := rf.c0
        have q1 := rf.c1
        have qf := rf.fz
        have bf : Below w.heap.size w wf := bthen belV hbf
        go_wp2_with fail
        refine bodyPost_ret (v := .agg #[.int .i64 6, .int .i64 k]) (by simp [results, Try.results20, go_sem, q0, q1]) rfl ⟨rfl, ?_⟩
        exact (bf.setCell (p := ⟨w.heap.size + 1, 0, none⟩) (Nat.le_succ _) _).setCell (p := ⟨w.heap.size + 1, 1, none⟩) (Nat.le_succ _) _
      by_cases hL : 0 ≤ x.left ∧ x.left < g.vars
      rotate_left
      · have hRx : R = (9, (k : Int)) := by rw [HR1.out, ruF_left h10 hL]; rfl
        subst hRx
        have hL' : x.left < 0 ∨ (0 ≤ x.left ∧ g.vars ≤ x.left) := by omega
        clear hL
        rcases hL' with hL | ⟨hL, hL1⟩
        all_goals
          go_wp2_with fail
          rw [← hV]
          have HV := hd hV
          clear hV
          refine (rF_any _ _ _).mono ?_
          rintro e wf ⟨rfl, hbf⟩
          have rf := tV.below hbf
          have q0 := rf.c0
          have q1 := rf.c1
          have qf := rf.fz
          have bf : Below w.heap.size w wf := bthen belV hbf
          go_wp2_with fail
          refine bodyPost_ret (v := .agg #[.int .i64 9, .int .i64 k]) (by simp [results, Try.results20, go_sem, q0, q1]) rfl ⟨rfl, ?_⟩
          exact (bf.setCell (p := ⟨w.heap.size + 1, 0, none⟩) (Nat.le_succ _) _).setCell (p := ⟨w.heap.size + 1, 1, none⟩) (Nat.le_succ _) _
      obtain ⟨hL0, hL1⟩ := hL
      go_wp2_with fail
      rw [← hV]
      have HV := hd hV
      clear hV
      go_loopw [5] (fun i wj => ∃ j : Nat, j ≤ x.right.length ∧ i = .int .i64 j ∧ Hid (∀ q (h : q < x.right.length), q < j → -g.terms ≤ x.right[q] ∧ x.right[q] < g.vars) ∧ Below V.heap.size V wj) (fun i _ => x.right.length - (intOf i).toNat)
      case atStart => exact ⟨0, Nat.zero_le _, rfl, hd (fun q _ hq => absurd hq (Nat.not_lt_zero _)), Below.refl _ _⟩
      case round =>
        rename World => wj
        obtain ⟨j, hj, rfl, hall, hbj⟩ := hrel
        have v0 := bkeep hbj u0
        have v1 := bkeep hbj u1
        have y0 := bkeep hbj hV0
        have y1 := bkeep hbj hV1
        by_cases hjl : j < x.right.length
        · obtain ⟨br, or', rfl, z0⟩ := (cV.lw hbj).at_ hjl
          have HN := hd (ruF_sym h10 (g := g) hjl)
          have HY : Hid (-g.terms ≤ x.right[j] ∧ x.right[j] < g.vars → ∀ q (h : q < x.right.length), q < j + 1 → -g.terms ≤ x.right[q] ∧ x.right[q] < g.vars) := hd (fun e q h hq => by
            by_cases eq : q = j
            · subst eq; exact e
            · exact hall.out q h (by omega))
          generalize x.right[j] = s at *
          have r0 := fun z : Wd wj => z.cell v0
          have r1 := fun z : Wd wj => z.cell v1
          have p0 := fun z : Wd wj => z.cell y0
          have p1 := fun z : Wd wj => z.cell y1
          have e0 := fun z : Wd wj => z.cell z0
          have wne : Nonempty (Wd wj) := Wd.ne _
          have HJL := hd hjl
          by_cases hok : -g.terms ≤ s ∧ s < g.vars
          · have HY' := hd (HY.out hok)
            obtain ⟨k1, k2⟩ := hok
            have g1 : decide (s < -g.terms) = false := by simpa using k1
            have g2 : decide (g.vars ≤ s) = false := by simpa using k2
            go_wp2_with fail
            refine region_quiet_lit (C := fun w' => ∃ z : Wd wj, w' = z.u) (by kernel_rfl) (by kernel_rfl) (Wd.drawn _) ?_
            iterate 19 (go_big_quiet_step (fail))
            refine wpQuiet_nil ?_
            intro _ hw'
            obtain ⟨z, hw''⟩ := hw'
            subst hw''
            have bz := bthen hbj z.h
            go_wp2_with fail
            go_roundw
            case rel => exact ⟨j + 1, by omega, by go_num, HY', bz⟩
            case measure => simp [intOf]; omega
          · have hRx : R = (9, (k : Int)) := by rw [HR1.out, HN.out hok]; rfl
            subst hRx
            have hok' : s < -g.terms ∨ (-g.terms ≤ s ∧ g.vars ≤ s) := by omega
            clear hok
            rcases hok' with k1 | ⟨k1, k2⟩
            · have g1 : decide (s < -g.terms) = true := by simpa using k1
              go_wp2_with fail
              refine region_quiet_lit (C := fun w' => ∃ z : Wd wj, w' = z.u) (by kernel_rfl) (by kernel_rfl) (Wd.drawn _) ?_
              iterate 19 (go_big_quiet_step (fail))
              refine wpQuiet_nil ?_
              intro _ hw'
              obtain ⟨z, hw''⟩ := hw'
              subst hw''
              have bz := bthen belV (bthen hbj z.h)
              have tz := (tV.below hbj).below z.h
              go_wp2_with fail
              refine (rF_any _ _ _).mono ?_
              rintro e wf ⟨rfl, hbf⟩
              have rf := tz.below hbf
              have q0 := rf.c0
              have q1 := rf.c1
              have qf := rf.fz
              have bf : Below w.heap.size w wf := bthen bz hbf
              go_wp2_with fail
              refine bodyPost_ret (v := .agg #[.int .i64 9, .int .i64 k]) (by simp [results, Try.results20, go_sem, q0, q1]) rfl ⟨rfl, ?_⟩
              exact (bf.setCell (p := ⟨w.heap.size + 1, 0, none⟩) (Nat.le_succ _) _).setCell (p := ⟨w.heap.size + 1, 1, none⟩) (Nat.le_succ _) _
            · have g1 : decide (s < -g.terms) = false := by simpa using k1
              have g2 : decide (g.vars ≤ s) = true := by simpa using k2
              go_wp2_with fail
              refine region_quiet_lit (C := fun w' => ∃ z : Wd wj, w' = z.u) (by kernel_rfl) (by kernel_rfl) (Wd.drawn _) ?_
              iterate 19 (go_big_quiet_step (fail))
              refine wpQuiet_nil ?_
              intro _ hw'
              obtain ⟨z, hw''⟩ := hw'
              subst hw''
              have bz := bthen belV (bthen hbj z.h)
              have tz := (tV.below hbj).below z.h
              go_wp2_with fail
              refine (rF_any _ _ _).mono ?_
              rintro e wf ⟨rfl, hbf⟩
              have rf := tz.below hbf
              have q0 := rf.c0
              have q1 := rf.c1
              have qf := rf.fz
              have bf : Below w.heap.size w wf := bthen bz hbf
              go_wp2_with fail
              refine bodyPost_ret (v := .agg #[.int .i64 9, .int .i64 k]) (by simp [results, Try.results20, go_sem, q0, q1]) rfl ⟨rfl, ?_⟩
              exact (bf.setCell (p := ⟨w.heap.size + 1, 0, none⟩) (Nat.le_succ _) _).setCell (p := ⟨w.heap.size + 1, 1, none⟩) (Nat.le_succ _) _
        · have HR2 : Hid (R = rsF g (g.rules.drop (k + 1)) (k + 1)) := hd (by rw [HR1.out, if_pos (ruF_ok h10 ⟨hL0, hL1⟩ (fun q h => hall.out q h (by omega)))])
          have bz := bthen hb (bthen hVb hbj)
          go_wp2_with fail
          go_roundw
          case rel => exact ⟨k + 1, by omega, by go_num, HR2, bz⟩
          case measure => simp [intOf]; omega
    · have hRx : R = (0, 0) := by rw [hR.out, rsF_end (by omega)]
      subst hRx
      have q0 := tr.c0
      have q1 := tr.c1
      have qf := tr.fz
      go_wp2_with fail
      refine bodyPost_ret (v := .agg #[.int .i64 0, .int .i64 0]) (by simp [results, Try.results20, go_sem, q0, q1]) rfl ⟨rfl, ?_⟩
      exact (bel.setCell (p := ⟨w.heap.size + 1, 0, none⟩) (Nat.le_succ _) _).setCell (p := ⟨w.heap.size + 1, 1, none⟩) (Nat.le_succ _) _
end Go.Proofs.Ytghplmldnkcpnad.G

/- What is wrong with a grammar, the program's way: looks that are asked of each number. -/
namespace Go.Proofs.Ytghplmldnkcpnad.G
open Go.RowKit
def wb (lo hi n : Int) : Bool := decide (lo ≤ n) && decide (n ≤ hi)
theorem wb_iff {lo hi n : Int} : wb lo hi n = true ↔ lo ≤ n ∧ n ≤ hi := by simp [wb]
/-- A look: is a number from lo to hi? -/
def Wn (w : World) (f : Value) (lo hi : Int) : Prop := ∃ b1 b2, f = .func (.func 37) #[] #[.pointer (some ⟨b1, 0, none⟩), .pointer (some ⟨b2, 0, none⟩)] ∧ w.cell? ⟨b1, 0, none⟩ = some (.int .i64 lo) ∧ w.cell? ⟨b2, 0, none⟩ = some (.int .i64 hi)
theorem Wn.lw {w w' : World} {f : Value} {lo hi : Int} (h : Wn w f lo hi) (hb : Below w.heap.size w w') : Wn w' f lo hi := let ⟨b1, b2, e, h1, h2⟩ := h; ⟨b1, b2, e, bkeep hb h1, bkeep hb h2⟩
set_option maxRecDepth 100000 in
set_option maxHeartbeats 4000000 in
theorem within_any (lo hi : Int) (w : World) :
    Calls Try.prog 31 #[.int .i64 lo, .int .i64 hi] w fun e w' => ∃ b1 b2, e = .returned (.func (.func 37) #[] #[.pointer (some ⟨b1, 0, none⟩), .pointer (some ⟨b2, 0, none⟩)]) ∧ w'.cell? ⟨b1, 0, none⟩ = some (.int .i64 lo) ∧ w'.cell? ⟨b2, 0, none⟩ = some (.int .i64 hi) ∧ Below w.heap.size w w' := by
  go_enter Try.func31, Try.ntmps31
  go_wp2_with fail
  go_ret
  exact ⟨w.heap.size, w.heap.size + 1, rfl, by simp, by simp, al2 _ _ _⟩
set_option maxRecDepth 100000 in
set_option maxHeartbeats 4000000 in
theorem within1_any (lo hi n : Int) (b1 b2 : Nat) (w : World) (h1 : w.cell? ⟨b1, 0, none⟩ = some (.int .i64 lo)) (h2 : w.cell? ⟨b2, 0, none⟩ = some (.int .i64 hi)) :
    Calls Try.prog 37 #[.int .i64 n, .pointer (some ⟨b1, 0, none⟩), .pointer (some ⟨b2, 0, none⟩)] w fun e w' => e = .returned (.bool (wb lo hi n)) ∧ w' = w := by
  by_cases h : lo ≤ n
  · by_cases h' : n ≤ hi
    · have hR : Hid (wb lo hi n = true) := hd (wb_iff.2 ⟨h, h'⟩)
      go_enter Try.func37, Try.ntmps37
      go_wp2_with fail
      go_ret
      exact ⟨ret_bool (by rw [hR.out]), rfl⟩
    · have hR : Hid (wb lo hi n = false) := hd (by rw [← Bool.not_eq_true, wb_iff]; omega)
      go_enter Try.func37, Try.ntmps37
      go_wp2_with fail
      go_ret
      exact ⟨ret_bool (by rw [hR.out]), rfl⟩
  · have hR : Hid (wb lo hi n = false) := hd (by rw [← Bool.not_eq_true, wb_iff]; omega)
    go_enter Try.func37, Try.ntmps37
    go_wp2_with fail
    go_ret
    exact ⟨ret_bool (by rw [hR.out]), rfl⟩
set_option maxRecDepth 100000 in
set_option maxHeartbeats 4000000 in
theorem all1_any (lo hi n : Int) (b1 b2 bk : Nat) (w : World) (h1 : w.cell? ⟨b1, 0, none⟩ = some (.int .i64 lo)) (h2 : w.cell? ⟨b2, 0, none⟩ = some (.int .i64 hi)) (hk : w.cell? ⟨bk, 0, none⟩ = some (.func (.func 37) #[] #[.pointer (some ⟨b1, 0, none⟩), .pointer (some ⟨b2, 0, none⟩)])) :
    Calls Try.prog 39 #[.int .i64 n, .pointer (some ⟨bk, 0, none⟩)] w fun e w' => e = .returned (.bool (!wb lo hi n)) ∧ w' = w := by
  have WA := within1_any lo hi n b1 b2 w h1 h2
  clear h1 h2
  generalize wb lo hi n = q at *
  go_enter Try.func39, Try.ntmps39
  go_wp2_with fail
  refine WA.mono ?_
  rintro e wx ⟨rfl, hwx⟩
  obtain rfl := hwx.symm
  go_wp2_with fail
  go_ret
  exact ⟨rfl, rfl⟩
set_option maxRecDepth 100000 in
set_option maxHeartbeats 4000000 in
theorem indexFunc_any (lo hi : Int) (l : List Int) (va : Value) (b1 b2 bk : Nat) (w : World) (ha : IsV w All va l) (h1 : w.cell? ⟨b1, 0, none⟩ = some (.int .i64 lo)) (h2 : w.cell? ⟨b2, 0, none⟩ = some (.int .i64 hi)) (hk : w.cell? ⟨bk, 0, none⟩ = some (.func (.func 37) #[] #[.pointer (some ⟨b1, 0, none⟩), .pointer (some ⟨b2, 0, none⟩)])) :
    Calls Try.prog 40 #[va, .func (.func 39) #[] #[.pointer (some ⟨bk, 0, none⟩)]] w fun e w' => ∃ r : Int, e = .returned (.int .i64 r) ∧ decide (0 ≤ r) = !(l.all (wb lo hi)) ∧ w' = w := by
  have AA := fun n => all1_any lo hi n b1 b2 bk w h1 h2 hk
  obtain ⟨ao, cap, rfl⟩ := ha.slice
  have hl := ha.1
  clear h1 h2 hk
  go_enter Try.func40, Try.ntmps40
  go_wp2_with fail
  go_loopw [8] (fun i wr => ∃ k : Nat, k ≤ l.length ∧ i = .int .i64 k ∧ Hid (∀ j (h : j < l.length), j < k → wb lo hi l[j] = true) ∧ wr = w) (fun i _ => l.length - (intOf i).toNat)
  case atStart => exact ⟨0, Nat.zero_le _, rfl, hd (fun j _ hj => absurd hj (Nat.not_lt_zero _)), rfl⟩
  case round =>
    obtain ⟨k, hk, rfl, hall, rfl⟩ := hrel
    by_cases hlt : k < l.length
    · obtain ⟨b, o, rfl, c0⟩ := ha.at_ hlt
      have AK := AA l[k]
      have HY : Hid (wb lo hi l[k] = true → ∀ j (h : j < l.length), j < k + 1 → wb lo hi l[j] = true) := hd (fun e j h hj => by
        by_cases ej : j = k
        · subst ej; exact e
        · exact hall.out j h (by omega))
      have HN : Hid (wb lo hi l[k] = false → l.all (wb lo hi) = false) := hd (fun e => by
        rw [List.all_eq_false]
        exact ⟨_, List.getElem_mem hlt, by simpa using e⟩)
      clear AA
      generalize wb lo hi l[k] = q at *
      generalize l[k] = x at *
      cases q with
      | true =>
        go_wp2_with fail
        refine AK.mono ?_
        rintro e wx ⟨rfl, hwx⟩
        obtain rfl := hwx.symm
        go_wp2_with fail
        go_roundw
        case rel => exact ⟨k + 1, by omega, by go_num, hd (HY.out trivial), trivial⟩
        case measure => simp [intOf]; omega
      | false =>
        go_wp2_with fail
        refine AK.mono ?_
        rintro e wx ⟨rfl, hwx⟩
        obtain rfl := hwx.symm
        go_wp2_with fail
        go_ret
        exact ⟨(k : Int), rfl, by rw [HN.out trivial]; simp, rfl⟩
    · have hR : Hid (l.all (wb lo hi) = true) := hd (by
        rw [List.all_eq_true]
        intro x hx
        obtain ⟨j, hj, rfl⟩ := List.mem_iff_getElem.1 hx
        exact hall.out j hj (by omega))
      go_wp2_with fail
      go_ret
      exact ⟨-1, rfl, by rw [hR.out]; rfl, rfl⟩
set_option maxRecDepth 100000 in
set_option maxHeartbeats 4000000 in
theorem containsFunc_any (lo hi : Int) (l : List Int) (va : Value) (b1 b2 bk : Nat) (w : World) (ha : IsV w All va l) (h1 : w.cell? ⟨b1, 0, none⟩ = some (.int .i64 lo)) (h2 : w.cell? ⟨b2, 0, none⟩ = some (.int .i64 hi)) (hk : w.cell? ⟨bk, 0, none⟩ = some (.func (.func 37) #[] #[.pointer (some ⟨b1, 0, none⟩), .pointer (some ⟨b2, 0, none⟩)])) :
    Calls Try.prog 38 #[va, .func (.func 39) #[] #[.pointer (some ⟨bk, 0, none⟩)]] w fun e w' => e = .returned (.bool (!(l.all (wb lo hi)))) ∧ w' = w := by
  have IA := indexFunc_any lo hi l va b1 b2 bk w ha h1 h2 hk
  obtain ⟨ao, cap, rfl⟩ := ha.slice
  clear h1 h2 hk ha
  generalize (!(l.all (wb lo hi))) = q at *
  go_enter Try.func38, Try.ntmps38
  go_wp2_with fail
  refine IA.mono ?_
  rintro e wx ⟨r, rfl, hr, hwx⟩
  obtain rfl := hwx.symm
  have HR := hd hr
  clear hr
  go_wp2_with fail
  go_ret
  exact ⟨ret_bool HR.out, rfl⟩
set_option maxRecDepth 100000 in
set_option maxHeartbeats 4000000 in
theorem all_any (lo hi : Int) (l : List Int) (va f : Value) (w : World) (ha : IsV w All va l) (hf : Wn w f lo hi) :
    Calls Try.prog 32 #[va, f] w fun e w' => e = .returned (.bool (l.all (wb lo hi))) ∧ Below w.heap.size w w' := by
  obtain ⟨b1, b2, rfl, h1, h2⟩ := hf
  obtain ⟨W, hW⟩ : ∃ W, W = w.alloc (.cells #[.func (.func 37) #[] #[.pointer (some ⟨b1, 0, none⟩), .pointer (some ⟨b2, 0, none⟩)]] 56) := ⟨_, rfl⟩
  have hWb : Below w.heap.size w W := by rw [hW]; exact al1 _ _
  have CA := containsFunc_any lo hi l va b1 b2 w.heap.size W (ha.lw hWb) (bkeep hWb h1) (bkeep hWb h2) (by rw [hW]; simp)
  obtain ⟨ao, cap, rfl⟩ := ha.slice
  clear h1 h2 ha
  generalize l.all (wb lo hi) = q at *
  go_enter Try.func32, Try.ntmps32
  go_wp2_with fail
  rw [← hW]
  refine CA.mono ?_
  rintro e wx ⟨rfl, hwx⟩
  obtain rfl := hwx.symm
  go_wp2_with fail
  go_ret
  exact ⟨ret_bool (by simp), al1 _ _⟩
end Go.Proofs.Ytghplmldnkcpnad.G
