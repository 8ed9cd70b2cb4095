/- Two texts that are held against each other. -/
import Derived.Test.YtdikjhfnmkejcabSm
import Derived.RegionTactic
namespace Go.Proofs.Ytdikjhfnmkejcab
open Go.RowKit
def kk (pl : Bool) (d : Df) : ByteArray × Int × Xp := (d.nm, if pl then d.at_ else 0, d.e)
def smB (pl : Bool) (ds es : List Df) : Bool := decide (ds.map (kk pl) = es.map (kk pl))
theorem smB_len {pl : Bool} {ds es : List Df} (h : ¬ ds.length = es.length) : smB pl ds es = false := by
  unfold smB; rw [decide_eq_false_iff_not]; intro e; exact h (by simpa using congrArg List.length e)
theorem smB_true {pl : Bool} {ds es : List Df} (h : ds.length = es.length) (hh : ∀ j (h1 : j < ds.length) (h2 : j < es.length), kk pl ds[j] = kk pl es[j]) : smB pl ds es = true := by
  unfold smB; rw [decide_eq_true_iff]
  refine List.ext_getElem (by simpa using h) fun i h1 h2 => ?_
  simp only [List.getElem_map]
  exact hh i (by simpa using h1) (by simpa using h2)
theorem smB_false {pl : Bool} {ds es : List Df} {j : Nat} (h1 : j < ds.length) (h2 : j < es.length) (hh : kk pl ds[j] ≠ kk pl es[j]) : smB pl ds es = false := by
  unfold smB; rw [decide_eq_false_iff_not]; intro e
  apply hh
  have := congrArg (fun l => l[j]?) e
  simpa [h1, h2] using this
theorem DsIn.at_ {w : World} {S : Nat → Prop} : ∀ {ds : List Df} {b o : Nat}, DsIn w S ds b o → ∀ i (h : i < ds.length), w.cell? ⟨b, o + i * 5, none⟩ = some (.string ds[i].nm) ∧ w.cell? ⟨b, o + i * 5 + 1, none⟩ = some (.int .i64 ds[i].at_) ∧ XIn w S ds[i].e b (o + i * 5 + 2)
  | [], _, _, _, i, hi => by simp at hi
  | d :: l, b, o, h, 0, _ => by
    obtain ⟨h0, h1, h2, h3, _⟩ := h
    exact ⟨by simpa using h1, by simpa using h2, by simpa using h3⟩
  | d :: l, b, o, h, i + 1, hi => by
    have := DsIn.at_ (ds := l) h.2.2.2.2 i (by simpa using hi)
    rw [show o + 5 + i * 5 = o + (i + 1) * 5 by omega] at this
    simpa using this
set_option maxRecDepth 100000 in
set_option maxHeartbeats 4000000 in
theorem same_text (ds es : List Df) (va vb : Value) (w : World) (hx : DsV w All va ds) (hy : DsV w All vb es) :
    Calls Try.prog 16 #[.agg #[va], .agg #[vb]] w fun e w' => e = .returned (.bool (smB false ds es)) ∧ Below w.heap.size w w' := by
  obtain ⟨hl, aoa, capa, rfl, hin⟩ := hx
  obtain ⟨hl', aob, capb, rfl, hin'⟩ := hy
  generalize hR : smB false ds es = R
  by_cases h3 : ds.length = es.length
  rotate_left
  · have hr : R = false := by rw [← hR]; exact smB_len h3
    have b3 : ((ds.length : Int) != (es.length : Int)) = true := by simp; omega
    clear hR hin hin'
    subst hr
    go_enter Try.func16, Try.ntmps16
    go_wp2_with fail
    go_ret
    exact ⟨rfl, ((Below.refl _ _).alloc (Nat.le_refl _) _).alloc (by simp) _⟩
  have HR : Hid (smB false ds es = R) := hR
  clear hR
  rw [h3]
  have H3 := hd h3
  rw [h3] at hl hin
  clear h3
  obtain ⟨W, hW⟩ : ∃ W, W = (w.alloc (.cells #[.slice aoa es.length capa] 24)).alloc (.cells #[.slice aob es.length capb] 24) := ⟨_, rfl⟩
  have hWz : W.heap.size = w.heap.size + 2 := by rw [hW]; simp
  have hWb : Below w.heap.size w W := by rw [hW]; exact ((Below.refl _ _).alloc (Nat.le_refl _) _).alloc (by simp) _
  have hWc : W.cell? ⟨w.heap.size, 0, none⟩ = some (.slice aoa es.length capa) ∧ W.cell? ⟨w.heap.size + 1, 0, none⟩ = some (.slice aob es.length capb) := by rw [hW]; exact ⟨by simp, by simp⟩
  go_enter Try.func16, Try.ntmps16
  go_wp2_with fail
  rw [← hW]
  have HW := hd hW
  clear hW
  go_loopw [17] (fun i wr => ∃ k : Nat, k ≤ es.length ∧ i = .int .i64 k ∧ Below W.heap.size W wr ∧ Hid (∀ j, j < k → ∀ (h1 : j < ds.length) (h2 : j < es.length), kk false ds[j] = kk false es[j])) (fun i _ => es.length - (intOf i).toNat)
  case atStart => exact ⟨0, Nat.zero_le _, rfl, Below.refl _ _, fun j hj => absurd hj (Nat.not_lt_zero _)⟩
  case round =>
    obtain ⟨k, hk, rfl, hb, hall⟩ := hrel
    have hz := hb.size
    have bel : Below w.heap.size w wr := hWb.trans (hb.mono (by omega))
    have s1 : wr.cell? ⟨w.heap.size, 0, none⟩ = some (.slice aoa es.length capa) := by rw [hb.cell (p := ⟨w.heap.size, 0, none⟩) (by simp; omega)]; exact hWc.1
    have s2 : wr.cell? ⟨w.heap.size + 1, 0, none⟩ = some (.slice aob es.length capb) := by rw [hb.cell (p := ⟨w.heap.size + 1, 0, none⟩) (by simp; omega)]; exact hWc.2
    by_cases hlt : k < es.length
    · obtain h0 | ⟨ba, oa, rfl, hia⟩ := hin
      · omega
      obtain h0 | ⟨bb, ob, rfl, hib⟩ := hin'
      · omega
      have hltd : k < ds.length := by rw [H3.out]; exact hlt
      have kA : ∀ b o v, All b → w.cell? ⟨b, o, none⟩ = some v → All b ∧ wr.cell? ⟨b, o, none⟩ = some v := keep_cell (fun _ _ h => h) (Kp.of_below bel).block
      obtain ⟨an, aa, ax⟩ := (hia.mono kA).at_ k hltd
      obtain ⟨cn, ca, cx⟩ := (hib.mono kA).at_ k hlt
      obtain ⟨ua, a0, a1, a2, hxa⟩ := ax.xv
      obtain ⟨ub, c0, c1, c2, hxb⟩ := cx.xv
      have hxa' := hxa
      have hxb' := hxb
      obtain ⟨_, e, _, aoa', capa', rfl, _⟩ := hxa'
      simp at e; subst e
      obtain ⟨_, e, _, aob', capb', rfl, _⟩ := hxb'
      simp at e; subst e
      have SF := @smB_false false ds es k hltd hlt
      have NX : Hid (kk false ds[k] = kk false es[k] → ∀ j, j < k + 1 → ∀ (h1 : j < ds.length) (h2 : j < es.length), kk false ds[j] = kk false es[j]) := fun hh j hj h1 h2 => by
        by_cases e : j = k
        · subst e; exact hh
        · exact hall.out j (by omega) h1 h2
      have HSF := hd SF
      clear SF
      generalize ds[k] = dk at *
      generalize es[k] = ek at *
      have IHk := smE_any dk.e ek.e
      generalize hB : decide (dk.e = ek.e) = B at IHk
      have HB := hd hB
      clear hB
      have s3 : ∀ X, ∀ z : Wd (wr.alloc X), z.u.cell? ⟨w.heap.size + 1, 0, none⟩ = some (.slice (some ⟨bb, ob, none⟩) es.length capb) := fun X z => z.cell (by rw [World.cell?_alloc_lt _ _ _ (lt_of_cell s2)]; exact s2)
      have cn' : ∀ X, ∀ z : Wd (wr.alloc X), z.u.cell? ⟨bb, ob + k * 5, none⟩ = some (.string ek.nm) := fun X z => z.cell (by rw [World.cell?_alloc_lt _ _ _ (lt_of_cell cn)]; exact cn)
      have c0' : ∀ X, ∀ z : Wd (wr.alloc X), z.u.cell? ⟨bb, ob + k * 5 + 2, none⟩ = some (.int .i64 ek.e.op) := fun X z => z.cell (by rw [World.cell?_alloc_lt _ _ _ (lt_of_cell c0)]; exact c0)
      have c1' : ∀ X, ∀ z : Wd (wr.alloc X), z.u.cell? ⟨bb, ob + k * 5 + 3, none⟩ = some (.string ek.e.nm) := fun X z => z.cell (by rw [World.cell?_alloc_lt _ _ _ (lt_of_cell c1)]; exact c1)
      have c2' : ∀ X, ∀ z : Wd (wr.alloc X), z.u.cell? ⟨bb, ob + k * 5 + 4, none⟩ = some (.slice aob' ek.e.kids.len capb') := fun X z => z.cell (by rw [World.cell?_alloc_lt _ _ _ (lt_of_cell c2)]; exact c2)
      have n0 : ∀ z : Wd (wr.alloc (.cells #[.string dk.nm, .int .i64 dk.at_, .int .i64 dk.e.op, .string dk.e.nm, .slice aoa' dk.e.kids.len capa'] 50)), z.u.cell? ⟨wr.heap.size, 0, none⟩ = some (.string dk.nm) := fun z => z.cell (by simp)
      have n2 : ∀ z : Wd (wr.alloc (.cells #[.string dk.nm, .int .i64 dk.at_, .int .i64 dk.e.op, .string dk.e.nm, .slice aoa' dk.e.kids.len capa'] 50)), z.u.cell? ⟨wr.heap.size, 2, none⟩ = some (.int .i64 dk.e.op) := fun z => z.cell (by simp)
      have n3 : ∀ z : Wd (wr.alloc (.cells #[.string dk.nm, .int .i64 dk.at_, .int .i64 dk.e.op, .string dk.e.nm, .slice aoa' dk.e.kids.len capa'] 50)), z.u.cell? ⟨wr.heap.size, 3, none⟩ = some (.string dk.e.nm) := fun z => z.cell (by simp)
      have n4 : ∀ z : Wd (wr.alloc (.cells #[.string dk.nm, .int .i64 dk.at_, .int .i64 dk.e.op, .string dk.e.nm, .slice aoa' dk.e.kids.len capa'] 50)), z.u.cell? ⟨wr.heap.size, 4, none⟩ = some (.slice aoa' dk.e.kids.len capa') := fun z => z.cell (by simp)
      by_cases hnm : dk.nm = ek.nm
      · have bnm : (dk.nm.toList == ek.nm.toList) = true := by rw [beq_str]; simpa using hnm
        have HNM := hd hnm
        clear hnm
        cases B with
        | true =>
          go_wp2_with fail
          have wne : Nonempty (Wd (wr.alloc (.cells #[.string dk.nm, .int .i64 dk.at_, .int .i64 dk.e.op, .string dk.e.nm, .slice aoa' dk.e.kids.len capa'] 50))) := Wd.ne _
          refine region_quiet_lit (C := fun w' => ∃ z : Wd (wr.alloc (.cells #[.string dk.nm, .int .i64 dk.at_, .int .i64 dk.e.op, .string dk.e.nm, .slice aoa' dk.e.kids.len capa'] 50)), w' = z.u) (by kernel_rfl) (by kernel_rfl) (Wd.drawn _) ?_
          repeat (go_big_quiet_step (exact calls_wd (IHk _ _ _ ((hxa.below ((Below.refl _ _).alloc (Nat.le_refl _) _)).below (Wd.h _)) ((hxb.below ((Below.refl _ _).alloc (Nat.le_refl _) _)).below (Wd.h _)))))
          refine wpQuiet_nil ?_
          intro _ hw'
          obtain ⟨⟨w2, hb2⟩, hw''⟩ := hw'
          subst hw''
          go_wp2_with fail
          go_roundw
          case rel => exact ⟨k + 1, by omega, by go_num, (hb.alloc (by omega) _).trans (hb2.mono (by simp; omega)), NX.out (by have := of_decide_eq_true HB.out; simp [kk, HNM.out, this])⟩
          case measure => simp [intOf]; omega
        | false =>
          go_wp2_with fail
          have wne : Nonempty (Wd (wr.alloc (.cells #[.string dk.nm, .int .i64 dk.at_, .int .i64 dk.e.op, .string dk.e.nm, .slice aoa' dk.e.kids.len capa'] 50))) := Wd.ne _
          refine region_quiet_lit (C := fun w' => ∃ z : Wd (wr.alloc (.cells #[.string dk.nm, .int .i64 dk.at_, .int .i64 dk.e.op, .string dk.e.nm, .slice aoa' dk.e.kids.len capa'] 50)), w' = z.u) (by kernel_rfl) (by kernel_rfl) (Wd.drawn _) ?_
          repeat (go_big_quiet_step (exact calls_wd (IHk _ _ _ ((hxa.below ((Below.refl _ _).alloc (Nat.le_refl _) _)).below (Wd.h _)) ((hxb.below ((Below.refl _ _).alloc (Nat.le_refl _) _)).below (Wd.h _)))))
          refine wpQuiet_nil ?_
          intro _ hw'
          obtain ⟨⟨w2, hb2⟩, hw''⟩ := hw'
          subst hw''
          go_wp2_with fail
          go_ret
          refine ⟨ret_bool ?_, (bel.alloc bel.size _).trans (hb2.mono (by simp; omega))⟩
          rw [← HR.out]
          exact (HSF.out (fun e => of_decide_eq_false HB.out (by simp [kk] at e; exact e.2))).symm
      · have bnm : (dk.nm.toList == ek.nm.toList) = false := by rw [beq_str]; simpa using hnm
        go_wp2_with fail
        have wne : Nonempty (Wd (wr.alloc (.cells #[.string dk.nm, .int .i64 dk.at_, .int .i64 dk.e.op, .string dk.e.nm, .slice aoa' dk.e.kids.len capa'] 50))) := Wd.ne _
        refine region_quiet_lit (C := fun w' => ∃ z : Wd (wr.alloc (.cells #[.string dk.nm, .int .i64 dk.at_, .int .i64 dk.e.op, .string dk.e.nm, .slice aoa' dk.e.kids.len capa'] 50)), w' = z.u) (by kernel_rfl) (by kernel_rfl) (Wd.drawn _) ?_
        repeat (go_big_quiet_step (fail))
        refine wpQuiet_nil ?_
        intro _ hw'
        obtain ⟨⟨w2, hb2⟩, hw''⟩ := hw'
        subst hw''
        go_wp2_with fail
        go_ret
        refine ⟨ret_bool ?_, (bel.alloc bel.size _).trans (hb2.mono (by simp; omega))⟩
        rw [← HR.out]
        exact (HSF.out (fun e => hnm (by simp [kk] at e; exact e.1))).symm
    · go_wp2_with fail
      go_ret
      refine ⟨ret_bool ?_, bel⟩
      rw [← HR.out]
      exact (smB_true H3.out fun j h1 h2 => hall.out j (by omega) h1 h2).symm
end Go.Proofs.Ytdikjhfnmkejcab
