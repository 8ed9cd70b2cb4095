/- Two texts that are the same, with their places: the document's way. -/
import Derived.Test.YtdikjhfnmkejcabSt
namespace Go.Proofs.Ytdikjhfnmkejcab
open Go.RowKit
set_option maxRecDepth 100000 in
set_option maxHeartbeats 4000000 in
theorem same_ref_true (ds : List Df) (va vb : Value) (w : World) (hx : DsV w All va ds) (hy : DsV w All vb ds) :
    Calls Try.prog 25 #[.agg #[va], .agg #[vb], .bool true] w fun e w' => e = .returned (.bool true) ∧ Below w.heap.size w w' := by
  obtain ⟨hl, aoa, capa, rfl, hin⟩ := hx
  obtain ⟨hl', aob, capb, rfl, hin'⟩ := hy
  obtain ⟨W, hW⟩ : ∃ W, W = (w.alloc (.cells #[.slice aoa ds.length capa] 24)).alloc (.cells #[.slice aob ds.length capb] 24) := ⟨_, rfl⟩
  have hWz : W.heap.size = w.heap.size + 2 := by rw [hW]; simp
  have hWb : Below w.heap.size w W := by rw [hW]; exact ((Below.refl _ _).alloc (Nat.le_refl _) _).alloc (by simp) _
  have hWc : W.cell? ⟨w.heap.size, 0, none⟩ = some (.slice aoa ds.length capa) ∧ W.cell? ⟨w.heap.size + 1, 0, none⟩ = some (.slice aob ds.length capb) := by rw [hW]; exact ⟨by simp, by simp⟩
  go_enter Try.func25, Try.ntmps25
  go_wp2_with fail
  rw [← hW]
  have HW := hd hW
  clear hW
  go_loopw [7] (fun i wr => ∃ k : Nat, k ≤ ds.length ∧ i = .int .i64 k ∧ Below W.heap.size W wr ∧ True) (fun i _ => ds.length - (intOf i).toNat)
  case atStart => exact ⟨0, Nat.zero_le _, rfl, Below.refl _ _, trivial⟩
  case round =>
    obtain ⟨k, hk, rfl, hb, hall⟩ := hrel
    have hz := hb.size
    have bel : Below w.heap.size w wr := hWb.trans (hb.mono (by omega))
    have s1 : wr.cell? ⟨w.heap.size, 0, none⟩ = some (.slice aoa ds.length capa) := by rw [hb.cell (p := ⟨w.heap.size, 0, none⟩) (by simp; omega)]; exact hWc.1
    have s2 : wr.cell? ⟨w.heap.size + 1, 0, none⟩ = some (.slice aob ds.length capb) := by rw [hb.cell (p := ⟨w.heap.size + 1, 0, none⟩) (by simp; omega)]; exact hWc.2
    by_cases hlt : k < ds.length
    · obtain h0 | ⟨ba, oa, rfl, hia⟩ := hin
      · omega
      obtain h0 | ⟨bb, ob, rfl, hib⟩ := hin'
      · omega
      have hltd := hlt
      have kA : ∀ b o v, All b → w.cell? ⟨b, o, none⟩ = some v → All b ∧ wr.cell? ⟨b, o, none⟩ = some v := keep_cell (fun _ _ h => h) (Kp.of_below bel).block
      obtain ⟨an, aa, ax⟩ := (hia.mono kA).at_ k hltd
      obtain ⟨cn, ca, cx⟩ := (hib.mono kA).at_ k hlt
      obtain ⟨ua, a0, a1, a2, hxa⟩ := ax.xv
      obtain ⟨ub, c0, c1, c2, hxb⟩ := cx.xv
      have hxa' := hxa
      have hxb' := hxb
      obtain ⟨_, e, _, aoa', capa', rfl, _⟩ := hxa'
      simp at e; subst e
      obtain ⟨_, e, _, aob', capb', rfl, _⟩ := hxb'
      simp at e; subst e
      generalize ds[k] = dk at *
      have IHk := rmE_any dk.e dk.e
      rw [decide_eq_true rfl] at IHk
      have lba := lt_of_cell a0
      have lbb := lt_of_cell c0
      have lba' : ba < wr.heap.size + 1 := by omega
      have lbb' : bb < wr.heap.size + 1 := by omega
      have lw : w.heap.size < wr.heap.size := by omega
      have lw' : w.heap.size < wr.heap.size + 1 := by omega
      have lv : w.heap.size + 1 < wr.heap.size := by omega
      have lv' : w.heap.size + 1 < wr.heap.size + 1 := by omega
      go_wp2_with fail
      go_region
      all_goals
        go_wp2_with fail
        refine (IHk _ _ _ (hxa.below (((Below.refl _ _).alloc (Nat.le_refl _) _).alloc (by simp) _).drew) (hxb.below (((Below.refl _ _).alloc (Nat.le_refl _) _).alloc (by simp) _).drew)).mono ?_
        rintro e w2 ⟨rfl, hb2⟩
        go_wp2_with fail
        go_roundw
        case rel => exact ⟨k + 1, by omega, by go_num, (Below.drew ((hb.alloc (by omega) _).alloc (by simp; omega) _)).trans (hb2.mono (by simp; omega)), trivial⟩
        case measure => simp [intOf]; omega
    · go_wp2_with fail
      go_ret
      exact ⟨rfl, bel⟩
end Go.Proofs.Ytdikjhfnmkejcab
