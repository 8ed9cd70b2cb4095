/- The terminals of definitions, in the document's way. -/
import Derived.Test.YtdikjhfnmkejcabNd
namespace Go.Proofs.Ytdikjhfnmkejcab
open Go.RowKit
theorem SsV.at_ {w : World} {ao : Option Addr} {n cap : Nat} {l : List ByteArray} (h : SsV w (.slice ao n cap) l) {k : Nat} (hk : k < l.length) : ∃ b o, ao = some ⟨b, o, none⟩ ∧ w.cell? ⟨b, o + k, none⟩ = some (.string l[k]) := by
  obtain ⟨_, ao', cap', e, _, h0 | ⟨b, o, e2, hc⟩⟩ := h
  · omega
  · simp at e
    exact ⟨b, o, by rw [e.1, e2], hc k hk⟩
theorem drop_flat {ds : List Df} {k : Nat} (h : k < ds.length) : (ds.drop k).flatMap Df.trm = ds[k].e.nmd 1 ++ (ds.drop (k + 1)).flatMap Df.trm := by
  rw [List.drop_eq_getElem_cons h, List.flatMap_cons]; rfl
set_option maxRecDepth 100000 in
set_option maxHeartbeats 16000000 in
theorem termsOf_any (ds : List Df) (va : Value) (w : World) (hx : DsV w All va ds) (h60 : ds.length ≤ 60) (hsz : ∀ d ∈ ds, d.e.sz ≤ 3000) :
    Calls Try.prog 24 #[.agg #[va]] w fun e w' => ∃ v, e = .returned v ∧ w'.ownsRow w.heap.size 9 1 v (trms ds).length ((trms ds).map .string) ∧ Below w.heap.size w w' := by
  obtain ⟨i0, hi, iz0, iz1, iz2⟩ := info_parts Try.infoStr
  obtain ⟨hl, ao, cap, rfl, hin⟩ := hx
  obtain ⟨W, hW⟩ : ∃ W, W = w.alloc (.cells #[.slice ao ds.length cap] 24) := ⟨_, rfl⟩
  have hWz : W.heap.size = w.heap.size + 1 := by rw [hW]; simp
  have hWb : Below w.heap.size w W := by rw [hW]; exact al1 _ _
  have hW0 : W.cell? ⟨w.heap.size, 0, none⟩ = some (.slice ao ds.length cap) := by rw [hW]; simp
  have HSZ := hd hsz
  clear hsz
  go_enter Try.func24, Try.ntmps24
  go_wp2_with fail
  rw [← hW]
  have HW := hd hW
  clear hW
  go_loopw [3, 4] (fun v i wr => ∃ (k : Nat) (acc : List ByteArray), k ≤ ds.length ∧ i = .int .i64 k ∧ Hid (trm acc ((ds.drop k).flatMap Df.trm) = trms ds) ∧ acc.length ≤ 3000 * k ∧ wr.ownsRow (w.heap.size + 1) 9 1 v acc.length (acc.map .string) ∧ Below (w.heap.size + 1) W wr) (fun _ i _ => ds.length - (intOf i).toNat)
  case atStart => exact ⟨0, [], Nat.zero_le _, rfl, hd rfl, by simp, World.ownsRow_nil _ _ _ _, Below.refl _ _⟩
  case round =>
    obtain ⟨k, acc, hk, rfl, hacc, hal, hown, hb⟩ := hrel
    have hz := hb.size
    have bel : Below w.heap.size w wr := hWb.trans (hb.mono (by omega))
    have s2 : wr.cell? ⟨w.heap.size, 0, none⟩ = some (.slice ao ds.length cap) := by rw [hb.cell (p := ⟨w.heap.size, 0, none⟩) (by simp)]; exact hW0
    by_cases hlt : k < ds.length
    · obtain h0 | ⟨ba, oa, rfl, hia⟩ := hin
      · omega
      have kA : ∀ b o v, All b → w.cell? ⟨b, o, none⟩ = some v → All b ∧ wr.cell? ⟨b, o, none⟩ = some v := keep_cell (fun _ _ h => h) (Kp.of_below bel).block
      obtain ⟨an, aa, ax⟩ := (hia.mono kA).at_ k hlt
      obtain ⟨ua, a0, a1, a2, hxa⟩ := ax.xv
      have hacc' : Hid (trm (trm acc (ds[k].e.nmd 1)) ((ds.drop (k + 1)).flatMap Df.trm) = trms ds) := hd (by rw [← hacc.out, drop_flat hlt, trm_app])
      have hs := HSZ.out ds[k] (List.getElem_mem hlt)
      generalize ds[k] = dk at *
      have hxa' := hxa
      obtain ⟨_, e, _, aoa', capa', rfl, _⟩ := hxa'
      simp at e; subst e
      have ND := fun w' hx => nd_any dk.e 1 (.agg #[.int .i64 dk.e.op, .string dk.e.nm, .slice aoa' dk.e.kids.len capa']) w' hx hs
      have hLl := Nat.le_trans (Xp.nmd_len 1 dk.e) hs
      generalize dk.e.nmd 1 = L at *
      obtain ⟨aov, capv, rfl⟩ := owns_slice hown
      clear hacc
      have HLT := hd hlt
      go_wp2_with fail
      refine (ND _ hxa).mono ?_
      rintro e w2 ⟨v2, rfl, own2, hb2⟩
      have z2 := hb2.size
      have own1 : w2.ownsRow (w.heap.size + 1) 9 1 (.slice aov acc.length capv) acc.length (acc.map .string) := owns_below hown hb2
      have hap : ∀ q, v2.ownBlock = some q → (Value.slice aov acc.length capv).ownBlock ≠ some q := fun q h1 h2 => by
        have e1 := (own2.lt q h1).1
        have e2 := (hown.lt q h2).2
        omega
      have bel2 : Below (w.heap.size + 1) W w2 := hb.trans (hb2.mono (by omega))
      obtain ⟨aov2, capv2, rfl⟩ := owns_slice own2
      obtain ⟨B2, hB2⟩ : ∃ B2, B2 = wr.heap.size := ⟨_, rfl⟩
      rw [← hB2] at own2
      clear ND a0 a1 a2 hxa kA ax an aa hown hb s2 bel hb2
      go_wp2_with fail
      go_loopw [3, 6] (fun v i wr => ∃ (j : Nat) (acc' : List ByteArray), j ≤ L.length ∧ i = .int .i64 j ∧ Hid (trm acc' (L.drop j) = trm acc L) ∧ acc'.length ≤ 3000 * k + j ∧ wr.ownsRow (w.heap.size + 1) 9 1 v acc'.length (acc'.map .string) ∧
        wr.ownsRow B2 9 1 (.slice aov2 L.length capv2) L.length (L.map .string) ∧ (∀ q, (Value.slice aov2 L.length capv2).ownBlock = some q → v.ownBlock ≠ some q) ∧ Below (w.heap.size + 1) w2 wr) (fun _ i _ => L.length - (intOf i).toNat)
      case atStart => exact ⟨0, acc, Nat.zero_le _, rfl, hd rfl, by omega, own1, own2, hap, Below.refl _ _⟩
      case round =>
        obtain ⟨j, acc', hj, rfl, hac, hal', own, ownL, hap', hbi⟩ := hrel
        have hzi := hbi.size
        obtain ⟨aoc, capc, rfl⟩ := owns_slice own
        by_cases hjl : j < L.length
        · obtain ⟨b, o, rfl, cL⟩ := (SsV_owned ownL (by omega)).at_ hjl
          have hnx : Hid (trm (addS acc' L[j]) (L.drop (j + 1)) = trm acc L) := hd (by rw [← hac.out, List.drop_eq_getElem_cons hjl, trm_cons])
          generalize L[j] = t at *
          have PO := placeOf_any acc' t _ wr (SsV_owned own (by omega))
          have hw := whr_mem acc' t
          generalize whr acc' t = r at *
          clear hac
          by_cases hr : 0 ≤ r
          · have hin' := hw.1 hr
            rw [addS, if_pos (inB_iff.2 hin')] at hnx
            have hr' : ¬ r < 0 := by omega
            clear hw hin'
            go_wp2_with (go_at_call 27; refine PO.mono ?_; rintro e wx ⟨rfl, hwx⟩; obtain rfl := hwx.symm)
            go_roundw
            case rel => exact ⟨j + 1, acc', by omega, by go_num, hnx, by omega, own, ownL, hap', hbi⟩
            case measure => simp [intOf]; omega
          · rw [addS, if_neg (fun h => hr (hw.2 (inB_iff.1 h)))] at hnx
            have hr' : r < 0 := by omega
            have hne : ∀ q, (Value.slice (some ⟨b, o, none⟩) L.length capv2).ownBlock = some q → q < wr.heap.size := fun q h => (ownL.lt q h).2
            clear hw
            go_wp2_with (first
              | (go_at_call 27; refine PO.mono ?_; rintro e wx ⟨rfl, hwx⟩; obtain rfl := hwx.symm)
              | (at_builtin; go_must (refine wpList_append_own_at _ rfl _ _ 39 rfl (w.heap.size + 1) 9 i0 (.string ⟨#[]⟩) 1 16 Try.underlying39 hi iz0 iz1 iz2 rfl (by decide) _ _ _ rfl (own.alloc _) ⟨wr.heap.size, 0, none⟩ 1 1 [.string t] rfl rfl (cell_one_at _ _ _ (by simp)) (oneSs [t]) (by unfold maxLen; omega) (by omega) (by simp <;> omega) ?_)))
            intro v' w4 own4 grow4 _ hat
            have z4 := grow4.size
            have own4' : w4.ownsRow (w.heap.size + 1) 9 1 v' (acc' ++ [t]).length ((acc' ++ [t]).map .string) := by simpa using own4
            have ownL4 := (ownL.alloc (.cells #[.string t] 9)).kept grow4 (.inr (fun e => hap' b rfl (e.symm.trans rfl)))
            have hap4 : ∀ q, (Value.slice (some ⟨b, o, none⟩) L.length capv2).ownBlock = some q → v'.ownBlock ≠ some q := fun q h1 h2 => by
              rcases hat with h | h
              · exact hap' q h1 (by rw [← h]; exact h2)
              · rw [h] at h2
                have := hne q h1
                simp at h2
                omega
            have hb4 : Below (w.heap.size + 1) w2 w4 := (hbi.alloc (by omega) _).grown grow4 (by simp <;> omega) (fun q hq => (own.lt q hq).1)
            clear own4 grow4 hat
            go_wp2_with fail
            go_roundw
            case rel => exact ⟨j + 1, acc' ++ [t], by omega, by go_num, hnx, by simp <;> omega, own4', ownL4, hap4, hb4⟩
            case measure => simp [intOf]; omega
        · have he : acc' = trm acc L := by rw [← hac.out, List.drop_of_length_le (by omega)]; rfl
          rw [he] at own
          have hll : (trm acc L).length ≤ 3000 * (k + 1) := by rw [← he]; omega
          have own' := own
          rw [← he] at own
          clear hac
          go_wp2_with fail
          go_roundw
          case rel => exact ⟨k + 1, trm acc L, by have := HLT.out; omega, by go_num, hacc', hll, by rw [← he]; exact own, bel2.trans hbi⟩
          case measure => simp [intOf]; have := HLT.out; omega
    · have he : acc = trms ds := by rw [← hacc.out, List.drop_of_length_le (by omega)]; rfl
      rw [he] at hown
      clear hacc hal
      go_wp2_with fail
      go_ret
      exact ⟨_, rfl, owns_mono hown (by omega), bel⟩
end Go.Proofs.Ytdikjhfnmkejcab
