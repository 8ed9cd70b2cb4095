/- What is wrong with definitions, in the document's way. -/
import Derived.Test.YtdikjhfnmkejcabNt
import Derived.Test.YtdikjhfnmkejcabRf
import Derived.Deep.RegionLaw
namespace Go.Proofs.Ytdikjhfnmkejcab
open Go.RowKit
theorem SsV.cap {w : World} {ao : Option Addr} {n cap : Nat} {l : List ByteArray} (h : SsV w (.slice ao n cap) l) : l.length ≤ cap := by
  obtain ⟨_, ao', cap', e, h3, _⟩ := h
  simp at e
  omega
theorem drw1 (w : World) : Below w.heap.size w w.drew := ⟨rfl, rfl, rfl, Nat.le_refl _, fun _ _ => rfl⟩
set_option maxRecDepth 100000 in
set_option maxHeartbeats 16000000 in
theorem dfault_any (ds : List Df) (va : Value) (w : World) (hx : DsV w All va ds) (h60 : ds.length ≤ 60) (hs : ∀ d ∈ ds, d.e.sz ≤ 3000 ∧ d.sh) :
    Calls Try.prog 19 #[.agg #[va]] w fun e w' => e = .returned (.agg #[.int .i64 (dfl ds).1, .int .i64 (dfl ds).2]) ∧ Below w.heap.size w w' := by
  have RA := fun w' (hb : Below w.heap.size w w') => rfault_any ds va w' (hx.kp (Kp.of_below hb) (fun _ _ h => h)) hs
  have NA := fun w' (hb : Below w.heap.size w w') => namesOf_any ds va w' (hx.kp (Kp.of_below hb) (fun _ _ h => h)) h60
  have TA := fun w' (hb : Below w.heap.size w w') => termsOf_any ds va w' (hx.kp (Kp.of_below hb) (fun _ _ h => h)) h60 (fun d hd => (hs d hd).1)
  obtain ⟨hl, ao, cap, rfl, hin⟩ := hx
  obtain ⟨W, hW⟩ : ∃ W, W = (w.alloc (.cells #[.slice ao ds.length cap] 24)).alloc (.cells #[.int .i64 0, .int .i64 0] 28) := ⟨_, rfl⟩
  have hWz : W.heap.size = w.heap.size + 2 := by rw [hW]; simp
  have hWb : Below w.heap.size w W := by rw [hW]; exact al2 _ _ _
  have hWc : W.cell? ⟨w.heap.size, 0, none⟩ = some (.slice ao ds.length cap) := by rw [hW]; simp
  have hWr : RB W (w.heap.size + 1) := by rw [hW]; exact ⟨by simp, by simp, fun i => by simp [go_sem]⟩
  have HS := hd hs
  clear hs
  by_cases hc : (rflt ds).1 = 0
  rotate_left
  · rw [dfl_bad hc]
    generalize rflt ds = R at *
    have hcb : (R.1 != 0) = true := by simpa using hc
    clear NA TA
    go_enter Try.func19, Try.ntmps19
    go_wp2_with fail
    rw [← hW]
    refine (RA _ hWb).mono ?_
    rintro e w1 ⟨rfl, hb1⟩
    have HW := hd hW
    clear hW
    have bel1 : Below w.heap.size w w1 := hWb.trans (hb1.mono hWb.size)
    have r1 := (hWr.below hb1).below (al1 w1 (.cells #[.int .i64 R.1, .int .i64 R.2] 28))
    have q0 := r1.c0
    have q1 := r1.c1
    have qf := r1.fz
    go_wp2_with fail
    refine bodyPost_ret (v := .agg #[.int .i64 R.1, .int .i64 R.2]) (by simp [results, Try.results19, go_sem, q0, q1]) rfl ⟨rfl, ?_⟩
    exact ((bel1.alloc bel1.size _).setCell (p := ⟨w.heap.size + 1, 0, none⟩) (Nat.le_succ _) _).setCell (p := ⟨w.heap.size + 1, 1, none⟩) (Nat.le_succ _) _
  have hdf : dfl ds = if 0 ≤ tw ds then (7, tw ds) else if 0 ≤ op ds then (8, op ds) else if 16 < (trms ds).length then (6, -1) else (0, 0) := if_neg (not_not_intro hc)
  generalize dfl ds = D at *
  have HDF := hd hdf
  have hcb : ((rflt ds).1 != 0) = false := by simpa using hc
  clear hdf hc
  generalize rflt ds = R at *
  have hnl := nms_len ds
  go_enter Try.func19, Try.ntmps19
  go_wp2_with fail
  rw [← hW]
  refine (RA _ hWb).mono ?_
  rintro e w1 ⟨rfl, hb1⟩
  have HW := hd hW
  clear hW RA
  have t0 := alcell (bkeep hb1 hWc) (.cells #[.int .i64 R.1, .int .i64 R.2] 28)
  have bel0 : Below w.heap.size w w1 := hWb.trans (hb1.mono hWb.size)
  have bel1 : Below w.heap.size w (w1.alloc (.cells #[.int .i64 R.1, .int .i64 R.2] 28)) := bel0.alloc bel0.size _
  have r1 := (hWr.below hb1).below (al1 w1 (.cells #[.int .i64 R.1, .int .i64 R.2] 28))
  go_wp2_with fail
  refine (NA _ bel1).mono ?_
  rintro e w2 ⟨vN, rfl, ownN, hb2⟩
  have bel2 : Below w.heap.size w w2 := bel1.trans (hb2.mono bel1.size)
  have t2 := bkeep hb2 t0
  have r2 := r1.below hb2
  have sN : SsV w2 vN (nms ds) := SsV_owned ownN (by omega)
  obtain ⟨aoN, capN, rfl⟩ := owns_slice ownN
  have hcp := sN.cap
  rw [hnl] at sN
  have z2 := bel2.size
  clear NA t0 bel0 bel1 r1 hb2 ownN hb1 hWr hWc hWb
  go_wp2_with fail
  go_loopw [5] (fun i wr => ∃ k : Nat, k ≤ (nms ds).length ∧ i = .int .i64 k ∧ Hid (∀ j, j < k → isTw (nms ds) j = false) ∧ Below w2.heap.size w2 wr) (fun i _ => (nms ds).length - (intOf i).toNat)
  case atStart => exact ⟨0, Nat.zero_le _, rfl, hd (fun j hj => absurd hj (Nat.not_lt_zero _)), Below.refl _ _⟩
  case round =>
    obtain ⟨k, hk, rfl, hall, hb⟩ := hrel
    have hz := hb.size
    have sr := sN.below hb
    by_cases hlt : k < (nms ds).length
    · obtain ⟨b, o, rfl, cL⟩ := sr.at_ hlt
      have st := sr.take (k := k) hk
      have hit := isTw_lt hlt
      generalize (nms ds)[k] = t at *
      have PO := fun w' h => placeOf_any ((nms ds).take k) t (.slice (some ⟨b, o, none⟩) k capN) w' h
      have hw := whr_mem ((nms ds).take k) t
      generalize whr ((nms ds).take k) t = r at *
      have hck : k ≤ capN := by omega
      have POd := PO wr.drew (st.below (drw1 wr))
      have cLd : wr.drew.cell? ⟨b, o + k, none⟩ = some (.string t) := cL
      clear PO st sr
      have bd : Below w.heap.size w wr.drew := (bel2.trans (hb.mono z2)).drew
      have rd := (r2.below hb).below (drw1 wr)
      by_cases hr : r ≥ 0
      · have hD : D = (7, (k : Int)) := by
          have e1 : tw ds = k := fstI_hit (by rw [hit]; exact inB_iff.2 (hw.1 hr)) hall.out (by omega)
          rw [HDF.out, e1, if_pos (by omega)]
        clear HDF
        subst hD
        go_wp2_with fail
        go_region_law (first | (go_simp; go_at_call 27; refine POd.mono ?_; rintro e wx ⟨rfl, hwx⟩; obtain rfl := hwx.symm))
        all_goals
          go_wp2_with fail
          refine (rF_any _ _ _).mono ?_
          rintro e wf ⟨rfl, hbf⟩
          have rf := rd.below hbf
          have q0 := rf.c0
          have q1 := rf.c1
          have qf := rf.fz
          have bf : Below w.heap.size w wf := bd.trans (hbf.mono bd.size)
          go_wp2_with fail
          refine bodyPost_ret (v := .agg #[.int .i64 7, .int .i64 k]) (by simp [results, Try.results19, go_sem, q0, q1]) rfl ⟨rfl, ?_⟩
          exact (bf.setCell (p := ⟨w.heap.size + 1, 0, none⟩) (Nat.le_succ _) _).setCell (p := ⟨w.heap.size + 1, 1, none⟩) (Nat.le_succ _) _
      · have hnx : Hid (∀ j, j < k + 1 → isTw (nms ds) j = false) := hd (fun j hj => by
          by_cases e : j = k
          · subst e; rw [hit]; exact inB_not.2 (fun h => hr (hw.2 h))
          · exact hall.out j (by omega))
        clear hit hw
        go_wp2_with fail
        go_region_law (first | (go_simp; go_at_call 27; refine POd.mono ?_; rintro e wx ⟨rfl, hwx⟩; obtain rfl := hwx.symm))
        all_goals
          go_wp2_with fail
          go_roundw
          case rel => exact ⟨k + 1, by omega, by go_num, hnx, hb.drew⟩
          case measure => simp [intOf]; omega
    · have htw : ¬ 0 ≤ tw ds := by rw [tw, fstI_neg]; exact fun j hj => hall.out j (by omega)
      have HD2 : Hid (D = if 0 ≤ op ds then (8, op ds) else if 16 < (trms ds).length then (6, -1) else (0, 0)) := hd (by rw [HDF.out, if_neg htw])
      have b3 : Below w.heap.size w wr := bel2.trans (hb.mono z2)
      have r3 := r2.below hb
      have t3 := bkeep hb t2
      have hkb : decide (k < ds.length) = false := by simp; omega
      rename World => w3
      clear hall htw HDF bel2 r2 t2 sN hb hk
      have z3 := b3.size
      go_wp2_with fail
      go_loopw [6] (fun i wr => ∃ k : Nat, k ≤ ds.length ∧ i = .int .i64 k ∧ Hid (∀ j, j < k → isOp (nms ds) ds j = false) ∧ Below w3.heap.size w3 wr) (fun i _ => ds.length - (intOf i).toNat)
      case atStart => exact ⟨0, Nat.zero_le _, rfl, hd (fun j hj => absurd hj (Nat.not_lt_zero _)), Below.refl _ _⟩
      case round =>
        obtain ⟨k, hk, rfl, hall, hb⟩ := hrel
        have s2 := bkeep hb t3
        have bel : Below w.heap.size w wr := b3.trans (hb.mono z3)
        by_cases hlt : k < ds.length
        · obtain h0 | ⟨ba, oa, rfl, hia⟩ := hin
          · omega
          have kA : ∀ b o v, All b → w.cell? ⟨b, o, none⟩ = some v → All b ∧ wr.cell? ⟨b, o, none⟩ = some v := keep_cell (fun _ _ h => h) (Kp.of_below bel).block
          obtain ⟨an, aa, ax⟩ := (hia.mono kA).at_ k hlt
          obtain ⟨ua, a0, a1, a2, hxa⟩ := ax.xv
          have hio := isOp_lt (names := nms ds) hlt
          have hsk := (HS.out ds[k] (List.getElem_mem hlt)).1
          generalize ds[k] = dk at *
          have hxa' := hxa
          obtain ⟨_, e, _, aoa', capa', rfl, _⟩ := hxa'
          simp at e; subst e
          have ND := fun w' hx => nd_any dk.e 2 (.agg #[.int .i64 dk.e.op, .string dk.e.nm, .slice aoa' dk.e.kids.len capa']) w' hx hsk
          have hLl := Nat.le_trans (Xp.nmd_len 2 dk.e) hsk
          generalize dk.e.nmd 2 = L at *
          have HLT := hd hlt
          have rr := r3.below hb
          go_wp2_with fail
          refine (ND _ hxa).mono ?_
          rintro e w4 ⟨v4, rfl, own4, hb4⟩
          have sL : SsV w4 v4 L := SsV_owned own4 (by omega)
          obtain ⟨aoL, capL, rfl⟩ := owns_slice own4
          have sN4 := (sr.below hb).below hb4
          have r4 := rr.below hb4
          have b4 : Below w.heap.size w w4 := bel.trans (hb4.mono bel.size)
          have z4 := b4.size
          have hb34 : Below w3.heap.size w3 w4 := hb.trans (hb4.mono hb.size)
          clear ND a0 a1 a2 hxa kA ax an aa hb s2 bel hb4 own4 rr
          go_wp2_with fail
          go_loopw [8] (fun i wr => ∃ j : Nat, j ≤ L.length ∧ i = .int .i64 j ∧ Hid (okN (nms ds) (L.take j) = true) ∧ Below w4.heap.size w4 wr) (fun i _ => L.length - (intOf i).toNat)
          case atStart => exact ⟨0, Nat.zero_le _, rfl, hd rfl, Below.refl _ _⟩
          case round =>
            obtain ⟨j, hj, rfl, hok, hbi⟩ := hrel
            by_cases hjl : j < L.length
            · obtain ⟨bL, oL, rfl, cL⟩ := (sL.below hbi).at_ hjl
              have htk : L.take (j + 1) = L.take j ++ [L[j]] := List.take_succ_eq_append_getElem hjl
              have hmem : L[j] ∈ L := List.getElem_mem hjl
              generalize L[j] = t at *
              have PO := placeOf_any (nms ds) t _ wr (sN4.below hbi)
              have hw := whr_mem (nms ds) t
              generalize whr (nms ds) t = r at *
              have bd : Below w.heap.size w wr := b4.trans (hbi.mono z4)
              have rd := r4.below hbi
              by_cases hr : r < 0
              · have hD : D = (8, (k : Int)) := by
                  have h1 : isOp (nms ds) ds k = true := by
                    rw [hio, Bool.not_eq_true', okN, List.all_eq_false]
                    exact ⟨t, hmem, by simp [inB_not.2 (fun h => by have := hw.2 h; omega)]⟩
                  have e1 : op ds = k := fstI_hit h1 hall.out HLT.out
                  rw [HD2.out, e1, if_pos (by omega)]
                clear HD2 hw hio htk hmem
                subst hD
                go_wp2_with (first
                  | (go_at_call 27; refine PO.mono ?_; rintro e wx ⟨rfl, hwx⟩; obtain rfl := hwx.symm)
                  | fail)
                refine (rF_any _ _ _).mono ?_
                rintro e wf ⟨rfl, hbf⟩
                have rf := rd.below hbf
                have q0 := rf.c0
                have q1 := rf.c1
                have qf := rf.fz
                have bf : Below w.heap.size w wf := bd.trans (hbf.mono bd.size)
                go_wp2_with fail
                refine bodyPost_ret (v := .agg #[.int .i64 8, .int .i64 k]) (by simp [results, Try.results19, go_sem, q0, q1]) rfl ⟨rfl, ?_⟩
                exact (bf.setCell (p := ⟨w.heap.size + 1, 0, none⟩) (Nat.le_succ _) _).setCell (p := ⟨w.heap.size + 1, 1, none⟩) (Nat.le_succ _) _
              · have hnx : Hid (okN (nms ds) (L.take (j + 1)) = true) := hd (by
                  rw [htk, okN_app, hok.out, okN, List.all_cons, List.all_nil, inB_iff.2 (hw.1 (by omega))]; rfl)
                clear hw htk hmem hio
                go_wp2_with (go_at_call 27; refine PO.mono ?_; rintro e wx ⟨rfl, hwx⟩; obtain rfl := hwx.symm)
                go_roundw
                case rel => exact ⟨j + 1, by omega, by go_num, hnx, hbi⟩
                case measure => simp [intOf]; omega
            · have hnx : Hid (∀ j, j < k + 1 → isOp (nms ds) ds j = false) := hd (fun i hi => by
                by_cases e : i = k
                · subst e
                  have := hok.out
                  rw [List.take_of_length_le (by omega)] at this
                  rw [hio, this]; rfl
                · exact hall.out i (by omega))
              clear hio hall hok
              go_wp2_with fail
              go_roundw
              case rel => exact ⟨k + 1, by have := HLT.out; omega, by go_num, hnx, hb34.trans (hbi.mono hb34.size)⟩
              case measure => simp [intOf]; have := HLT.out; omega
        · have hop : ¬ 0 ≤ op ds := by rw [op, fstI_neg]; exact fun j hj => hall.out j (by omega)
          have HD3 : Hid (D = if 16 < (trms ds).length then (6, -1) else (0, 0)) := hd (by rw [HD2.out, if_neg hop])
          have r5 := r3.below hb
          clear HD2 hall hop
          go_wp2_with fail
          refine (TA _ bel).mono ?_
          rintro e w6 ⟨vT, rfl, ownT, hb6⟩
          obtain ⟨aoT, capT, rfl⟩ := owns_slice ownT
          have r6 := r5.below hb6
          have b6 : Below w.heap.size w w6 := bel.trans (hb6.mono bel.size)
          clear ownT
          by_cases h16 : 16 < (trms ds).length
          · have hD : D = (6, -1) := by rw [HD3.out, if_pos h16]
            clear HD3
            subst hD
            generalize (trms ds).length = tl at *
            have h16' : (16 : Int) < (tl : Int) := by omega
            go_wp2_with fail
            refine (rF_any _ _ _).mono ?_
            rintro e wf ⟨rfl, hbf⟩
            have rf := r6.below hbf
            have q0 := rf.c0
            have q1 := rf.c1
            have qf := rf.fz
            have bf : Below w.heap.size w wf := b6.trans (hbf.mono b6.size)
            go_wp2_with fail
            refine bodyPost_ret (v := .agg #[.int .i64 6, .int .i64 (-1)]) (by simp [results, Try.results19, go_sem, q0, q1]) rfl ⟨rfl, ?_⟩
            exact (bf.setCell (p := ⟨w.heap.size + 1, 0, none⟩) (Nat.le_succ _) _).setCell (p := ⟨w.heap.size + 1, 1, none⟩) (Nat.le_succ _) _
          · have hD : D = (0, 0) := by rw [HD3.out, if_neg h16]
            clear HD3
            subst hD
            generalize (trms ds).length = tl at *
            have h16' : ¬ (16 : Int) < (tl : Int) := by omega
            have q0 := r6.c0
            have q1 := r6.c1
            have qf := r6.fz
            go_wp2_with fail
            refine bodyPost_ret (v := .agg #[.int .i64 0, .int .i64 0]) (by simp [results, Try.results19, go_sem, q0, q1]) rfl ⟨rfl, ?_⟩
            exact (b6.setCell (p := ⟨w.heap.size + 1, 0, none⟩) (Nat.le_succ _) _).setCell (p := ⟨w.heap.size + 1, 1, none⟩) (Nat.le_succ _) _
end Go.Proofs.Ytdikjhfnmkejcab
