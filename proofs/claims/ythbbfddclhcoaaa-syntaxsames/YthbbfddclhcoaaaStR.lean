/- Two texts that are held against each other: the document's way. -/
import Derived.Test.YthbbfddclhcoaaaSt
namespace Go.Proofs.Ythbbfddclhcoaaa
open Go.RowKit
set_option maxHeartbeats 4000000 in
theorem same_ref (ds es : List Df) (va vb : Value) (w : World) (hx : DsV w All va ds) (hy : DsV w All vb es) :
    Calls Try.prog 19 #[.agg #[va], .agg #[vb], .bool false] w fun e w' => e = .returned (.bool (smB false ds es)) ∧ Below w.heap.size w w' := by
  obtain ⟨hl, aoa, capa, rfl, hin⟩ := hx
  obtain ⟨hl', aob, capb, rfl, hin'⟩ := hy
  generalize hR : smB false ds es = R
  by_cases h3 : ds.length = es.length
  rotate_left
  · have hr : R = false := by rw [← hR]; exact smB_len h3
    have b3 : ((ds.length : Int) != (es.length : Int)) = true := by simp; omega
    clear hR hin hin'
    subst hr
    go_enter Try.func19, Try.ntmps19
    go_wp2_with fail
    go_ret
    exact ⟨rfl, ((Below.refl _ _).alloc (Nat.le_refl _) _).alloc (by simp) _⟩
  have HR : Hid (smB false ds es = R) := hR
  clear hR
  rw [h3]
  have H3 := hd h3
  rw [h3] at hl hin
  clear h3
  obtain ⟨W, hW⟩ : ∃ W, W = (w.alloc (.cells #[.slice aoa es.length capa] 34)).alloc (.cells #[.slice aob es.length capb] 34) := ⟨_, rfl⟩
  have hWz : W.heap.size = w.heap.size + 2 := by rw [hW]; simp
  have hWb : Below w.heap.size w W := by rw [hW]; exact ((Below.refl _ _).alloc (Nat.le_refl _) _).alloc (by simp) _
  have hWc : W.cell? ⟨w.heap.size, 0, none⟩ = some (.slice aoa es.length capa) ∧ W.cell? ⟨w.heap.size + 1, 0, none⟩ = some (.slice aob es.length capb) := by rw [hW]; exact ⟨by simp, by simp⟩
  go_enter Try.func19, Try.ntmps19
  go_wp2_with fail
  rw [← hW]
  have HW := hd hW
  clear hW
  go_loopw [7] (fun i wr => ∃ k : Nat, k ≤ es.length ∧ i = .int .i64 k ∧ Below W.heap.size W wr ∧ Hid (∀ j, j < k → ∀ (h1 : j < ds.length) (h2 : j < es.length), kk false ds[j] = kk false es[j])) (fun i _ => es.length - (intOf i).toNat)
  case atStart => exact ⟨0, Nat.zero_le _, rfl, Below.refl _ _, fun j hj => absurd hj (Nat.not_lt_zero _)⟩
  case round =>
    obtain ⟨k, hk, rfl, hb, hall⟩ := hrel
    have hz := hb.size
    have bel : Below w.heap.size w wr := hWb.trans (hb.mono (by omega))
    have s1 : wr.cell? ⟨w.heap.size, 0, none⟩ = some (.slice aoa es.length capa) := by rw [hb.cell (p := ⟨w.heap.size, 0, none⟩) (by simp; omega)]; exact hWc.1
    have s2 : wr.cell? ⟨w.heap.size + 1, 0, none⟩ = some (.slice aob es.length capb) := by rw [hb.cell (p := ⟨w.heap.size + 1, 0, none⟩) (by simp; omega)]; exact hWc.2
    by_cases hlt : k < es.length
    · obtain h0 | ⟨ba, oa, rfl, hia⟩ := hin
      · omega
      obtain h0 | ⟨bb, ob, rfl, hib⟩ := hin'
      · omega
      have hltd : k < ds.length := by rw [H3.out]; exact hlt
      have kA : ∀ b o v, All b → w.cell? ⟨b, o, none⟩ = some v → All b ∧ wr.cell? ⟨b, o, none⟩ = some v := keep_cell (fun _ _ h => h) (Kp.of_below bel).block
      obtain ⟨an, aa, ax⟩ := (hia.mono kA).at_ k hltd
      obtain ⟨cn, ca, cx⟩ := (hib.mono kA).at_ k hlt
      obtain ⟨ua, a0, a1, a2, hxa⟩ := ax.xv
      obtain ⟨ub, c0, c1, c2, hxb⟩ := cx.xv
      have hxa' := hxa
      have hxb' := hxb
      obtain ⟨_, e, _, aoa', capa', rfl, _⟩ := hxa'
      simp at e; subst e
      obtain ⟨_, e, _, aob', capb', rfl, _⟩ := hxb'
      simp at e; subst e
      have SF := @smB_false false ds es k hltd hlt
      have NX : Hid (kk false ds[k] = kk false es[k] → ∀ j, j < k + 1 → ∀ (h1 : j < ds.length) (h2 : j < es.length), kk false ds[j] = kk false es[j]) := fun hh j hj h1 h2 => by
        by_cases e : j = k
        · subst e; exact hh
        · exact hall.out j (by omega) h1 h2
      have HSF := hd SF
      clear SF
      generalize ds[k] = dk at *
      generalize es[k] = ek at *
      have IHk := rmE_any dk.e ek.e
      generalize hB : decide (dk.e = ek.e) = B at IHk
      have HB := hd hB
      clear hB
      have lba := lt_of_cell a0
      have lbb := lt_of_cell c0
      have lba' : ba < wr.heap.size + 1 := by omega
      have lbb' : bb < wr.heap.size + 1 := by omega
      have lw : w.heap.size < wr.heap.size := by omega
      have lw' : w.heap.size < wr.heap.size + 1 := by omega
      have lv : w.heap.size + 1 < wr.heap.size := by omega
      have lv' : w.heap.size + 1 < wr.heap.size + 1 := by omega
      by_cases hnm : dk.nm = ek.nm
      · have bnm : (dk.nm.toList == ek.nm.toList) = true := by rw [beq_str]; simpa using hnm
        have HNM := hd hnm
        clear hnm
        cases B with
        | true =>
          go_wp2_with fail
          go_region
          all_goals
            go_wp2_with fail
            refine (IHk _ _ _ (hxa.below (((Below.refl _ _).alloc (Nat.le_refl _) _).alloc (by simp) _).drew) (hxb.below (((Below.refl _ _).alloc (Nat.le_refl _) _).alloc (by simp) _).drew)).mono ?_
            rintro e w2 ⟨rfl, hb2⟩
            go_wp2_with fail
            go_roundw
            case rel => exact ⟨k + 1, by omega, by go_num, (Below.drew ((hb.alloc (by omega) _).alloc (by simp; omega) _)).trans (hb2.mono (by simp; omega)), NX.out (by have := of_decide_eq_true HB.out; simp [kk, HNM.out, this])⟩
            case measure => simp [intOf]; omega
        | false =>
          go_wp2_with fail
          go_region
          all_goals
            go_wp2_with fail
            refine (IHk _ _ _ (hxa.below (((Below.refl _ _).alloc (Nat.le_refl _) _).alloc (by simp) _).drew) (hxb.below (((Below.refl _ _).alloc (Nat.le_refl _) _).alloc (by simp) _).drew)).mono ?_
            rintro e w2 ⟨rfl, hb2⟩
            go_wp2_with fail
            go_ret
            refine ⟨ret_bool ?_, (Below.drew ((bel.alloc bel.size _).alloc (by simp; have := bel.size; omega) _)).trans (hb2.mono (by simp; have := bel.size; omega))⟩
            rw [← HR.out]
            exact (HSF.out (fun e => of_decide_eq_false HB.out (by simp [kk] at e; exact e.2))).symm
      · have bnm : (dk.nm.toList == ek.nm.toList) = false := by rw [beq_str]; simpa using hnm
        go_wp2_with fail
        go_region
        all_goals
          go_wp2_with fail
          go_ret
          refine ⟨ret_bool ?_, Below.drew ((bel.alloc bel.size _).alloc (by simp; have := bel.size; omega) _)⟩
          rw [← HR.out]
          exact (HSF.out (fun e => hnm (by simp [kk] at e; exact e.1))).symm
    · go_wp2_with fail
      go_ret
      refine ⟨ret_bool ?_, bel⟩
      rw [← HR.out]
      exact (smB_true H3.out fun j h1 h2 => hall.out j (by omega) h1 h2).symm
end Go.Proofs.Ythbbfddclhcoaaa
