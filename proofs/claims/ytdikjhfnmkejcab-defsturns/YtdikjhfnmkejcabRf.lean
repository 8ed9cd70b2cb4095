/- The document's own look at definitions. -/
import Derived.Test.YtdikjhfnmkejcabTx
namespace Go.Proofs.Ytdikjhfnmkejcab
open Go.RowKit
/-- A fault of the call's own, still none. -/
structure RB (w : World) (b : Nat) : Prop where
  c0 : w.cell? ⟨b, 0, none⟩ = some (.int .i64 0)
  c1 : w.cell? ⟨b, 1, none⟩ = some (.int .i64 0)
  fz : ∀ i, w.frozen? ⟨b, i, none⟩ = false
theorem RB.below {w w' : World} {b : Nat} (h : RB w b) (hb : Below w.heap.size w w') : RB w' b :=
  ⟨bkeep hb h.c0, bkeep hb h.c1, fun i => by rw [World.frozen?_of_block (w := w) (a := ⟨b, i, none⟩) (hb.block b (lt_of_cell h.c0))]; exact h.fz i⟩
theorem By.below {w w' : World} {k : Nat} {d : Df} {ao : Option Addr} {cap : Nat} (h : By w k d ao cap) (hb : Below w.heap.size w w') : By w' k d ao cap :=
  (hb.block k (lt_of_cell h.c0)).trans h
theorem Df.code_eq (d : Df) : d.code = if isNameB d.nm = true then (if 60 < d.e.pts then 6 else if 40 < d.e.dp then 5 else d.e.bad) else 2 := rfl
set_option maxRecDepth 100000 in
set_option maxHeartbeats 16000000 in
theorem rfault_any (ds : List Df) (va : Value) (w : World) (hx : DsV w All va ds) (hs : ∀ d ∈ ds, d.e.sz ≤ 3000 ∧ d.sh) :
    Calls Try.prog 11 #[.agg #[va]] w fun e w' => e = .returned (.agg #[.int .i64 (rflt ds).1, .int .i64 (rflt ds).2]) ∧ Below w.heap.size w w' := by
  have hx0 := hd hx
  obtain ⟨hl, ao, cap, rfl, hin⟩ := hx
  obtain ⟨W, hW⟩ : ∃ W, W = (w.alloc (.cells #[.slice ao ds.length cap] 24)).alloc (.cells #[.int .i64 0, .int .i64 0] 28) := ⟨_, rfl⟩
  have hWz : W.heap.size = w.heap.size + 2 := by rw [hW]; simp
  have hWb : Below w.heap.size w W := by rw [hW]; exact al2 _ _ _
  have hWc : W.cell? ⟨w.heap.size, 0, none⟩ = some (.slice ao ds.length cap) := by rw [hW]; simp
  have hWr : RB W (w.heap.size + 1) := by rw [hW]; exact ⟨by simp, by simp, fun i => by simp [go_sem]⟩
  by_cases h0 : ds.length = 0
  · have hc : rflt ds = (8, -1) := by unfold rflt cflt; simp [h0]
    rw [hc]
    have hb0 : ((ds.length : Int) == 0) = true := by rw [h0]; rfl
    have H0 := hd h0
    clear h0
    go_enter Try.func11, Try.ntmps11
    go_wp2_with fail
    rw [← hW]
    refine (rF_any _ _ _).mono ?_
    rintro e wf ⟨rfl, hbf⟩
    have rf := hWr.below hbf
    have q0 := rf.c0
    have q1 := rf.c1
    have qf := rf.fz
    go_wp2_with fail
    refine bodyPost_ret (v := .agg #[.int .i64 8, .int .i64 (-1)]) (by simp [results, Try.results11, go_sem, q0, q1]) rfl ⟨rfl, ?_⟩
    exact ((hWb.trans (hbf.mono hWb.size)).setCell (p := ⟨w.heap.size + 1, 0, none⟩) (Nat.le_succ _) _).setCell (p := ⟨w.heap.size + 1, 1, none⟩) (Nat.le_succ _) _
  have hb0 : ((ds.length : Int) == 0) = false := by rw [beq_eq_false_iff_ne]; omega
  by_cases h16 : 16 < ds.length
  · have hc : rflt ds = (6, -1) := by unfold rflt cflt; rw [if_neg h0, if_pos h16, if_pos (by simp)]
    rw [hc]
    have hb16 : decide ((16 : Int) < (ds.length : Int)) = true := by simp; omega
    have H0 := hd h0
    have H16 := hd h16
    clear h0 h16
    go_enter Try.func11, Try.ntmps11
    go_wp2_with fail
    rw [← hW]
    refine (rF_any _ _ _).mono ?_
    rintro e wf ⟨rfl, hbf⟩
    have rf := hWr.below hbf
    have q0 := rf.c0
    have q1 := rf.c1
    have qf := rf.fz
    go_wp2_with fail
    refine bodyPost_ret (v := .agg #[.int .i64 6, .int .i64 (-1)]) (by simp [results, Try.results11, go_sem, q0, q1]) rfl ⟨rfl, ?_⟩
    exact ((hWb.trans (hbf.mono hWb.size)).setCell (p := ⟨w.heap.size + 1, 0, none⟩) (Nat.le_succ _) _).setCell (p := ⟨w.heap.size + 1, 1, none⟩) (Nat.le_succ _) _
  have hb16 : decide ((16 : Int) < (ds.length : Int)) = false := by simp; omega
  have hc : cflt ds = dflt 0 ds := by unfold cflt; rw [if_neg h0, if_neg h16]
  obtain ⟨R, hR⟩ : ∃ R, R = dflt 0 ds := ⟨_, rfl⟩
  have hrf : Hid (rflt ds = if R.1 ≠ 0 then R else if 6000 < (tex ds).length then (6, -1) else (0, 0)) := hd (by unfold rflt; rw [hc, hR])
  have hz : Hid (R.1 = 0 → (∀ d ∈ ds, d.code = 0) ∧ (tex ds).length ≤ 100000) := hd (fun h => by
    rw [hR] at h
    have h3 := (dflt_zero h).1
    have := tex_len h3
    exact ⟨h3, by omega⟩)
  have HR := hd hR
  have H0 := hd h0
  have H16 := hd h16
  have HS := hd hs
  clear hR hc h0 h16 hs
  generalize rflt ds = RF at *
  go_enter Try.func11, Try.ntmps11
  go_wp2_with fail
  rw [← hW]
  have HW := hd hW
  clear hW
  go_loopw [3] (fun i wr => ∃ (k : Nat), k ≤ ds.length ∧ i = .int .i64 k ∧ dflt k (ds.drop k) = R ∧ Below W.heap.size W wr) (fun i _ => ds.length - (intOf i).toNat)
  case atStart => exact ⟨0, Nat.zero_le _, rfl, by rw [HR.out]; rfl, Below.refl _ _⟩
  case round =>
    obtain ⟨k, hk, rfl, hm, hb⟩ := hrel
    have hzz := hb.size
    have bel : Below w.heap.size w wr := hWb.trans (hb.mono (by omega))
    have s0 := bkeep hb hWc
    have rb := hWr.below hb
    by_cases hlt : k < ds.length
    · obtain h0' | ⟨ba, oa, rfl, hia⟩ := hin
      · omega
      have kA : ∀ b o v, All b → w.cell? ⟨b, o, none⟩ = some v → All b ∧ wr.cell? ⟨b, o, none⟩ = some v := keep_cell (fun _ _ h => h) (Kp.of_below bel).block
      obtain ⟨an, aa, ax⟩ := (hia.mono kA).at_ k hlt
      obtain ⟨ua, a0, a1, a2, hxa⟩ := ax.xv
      have hxa' := hxa
      obtain ⟨_, e, _, aoa', capa', rfl, _⟩ := hxa'
      simp at e; subst e
      have hda := dflt_at hlt
      rw [hm] at hda
      obtain ⟨hsz, hsd⟩ := HS.out ds[k] (List.getElem_mem hlt)
      have HLT := hd hlt
      generalize ds[k] = dk at *
      have hce := dk.code_eq
      have hp9 := dk.e.pts_sz
      have hdp := dk.e.dp_pts
      have NM := fun w => rIsName_any dk.nm w (by unfold maxLen; have := hsd.1; omega)
      have PO := fun w' hx => po_any dk.e (.agg #[.int .i64 dk.e.op, .string dk.e.nm, .slice aoa' dk.e.kids.len capa']) w' hx (by omega)
      have DO := fun w' hx h => do_any dk.e (.agg #[.int .i64 dk.e.op, .string dk.e.nm, .slice aoa' dk.e.kids.len capa']) w' hx h
      have EF := fun w' hx => ef_any dk.e (.agg #[.int .i64 dk.e.op, .string dk.e.nm, .slice aoa' dk.e.kids.len capa']) w' hx hsd.2
      have HDA := hd hda
      have HCE := hd hce
      clear hda hce hsz hsd hp9
      generalize dk.code = C at *
      generalize dk.e.bad = bad at *
      generalize dk.e.dp = dp at *
      generalize dk.e.pts = pts at *
      obtain ⟨ob, hob⟩ : ∃ ob : Obj, ob = .cells #[.string dk.nm, .int .i64 dk.at_, .int .i64 dk.e.op, .string dk.e.nm, .slice aoa' dk.e.kids.len capa'] 50 := ⟨_, rfl⟩
      have ba1 : Below wr.heap.size wr (wr.alloc ob) := al1 wr ob
      have yz : By (wr.alloc ob) wr.heap.size dk aoa' capa' := by rw [hob]; exact By.new _ _ _ _
      have rz := rb.below ba1
      have bz : Below w.heap.size w (wr.alloc ob) := bel.trans (ba1.mono bel.size)
      have hxz := hxa.below ba1
      have cz : Below W.heap.size W (wr.alloc ob) := hb.trans (ba1.mono hb.size)
      have y0 := yz.c0
      have y2 := yz.c2
      have y3 := yz.c3
      have y4 := yz.c4
      cases hN : isNameB dk.nm with
      | false =>
        have hC : C = 2 := by rw [HCE.out, hN]; rfl
        rw [hN] at NM
        have hRR : RF = (2, (k : Int)) := by rw [hrf.out, HDA.out, hC]; simp
        subst hob
        clear hN
        go_wp2_with fail
        refine (NM _).mono ?_
        rintro e wn ⟨rfl, rfl⟩
        go_wp2_with fail
        refine (rF_any _ _ _).mono ?_
        rintro e wf ⟨rfl, hbf⟩
        have rf := rz.below hbf
        have q0 := rf.c0
        have q1 := rf.c1
        have qf := rf.fz
        go_wp2_with fail
        refine bodyPost_ret (v := .agg #[.int .i64 2, .int .i64 (k : Int)]) (by simp [results, Try.results11, go_sem, q0, q1]) rfl ⟨by rw [hRR], ?_⟩
        exact ((bz.trans (hbf.mono bz.size)).setCell (p := ⟨w.heap.size + 1, 0, none⟩) (Nat.le_succ _) _).setCell (p := ⟨w.heap.size + 1, 1, none⟩) (Nat.le_succ _) _
      | true =>
      rw [hN] at NM
      have HN := hd hN
      clear hN
      by_cases h60 : 60 < pts
      · have hC : C = 6 := by rw [HCE.out, HN.out]; simp [h60]
        have hRR : RF = (6, (k : Int)) := by rw [hrf.out, HDA.out, hC]; simp
        have h60' : (60 : Int) < (pts : Int) := by omega
        subst hob
        go_wp2_with fail
        refine (NM _).mono ?_
        rintro e wn ⟨rfl, rfl⟩
        go_wp2_with fail
        refine (PO _ hxz).mono ?_
        rintro e w2 ⟨rfl, hb2⟩
        have r2 := rz.below hb2
        have b2 : Below w.heap.size w w2 := bz.trans (hb2.mono bz.size)
        go_wp2_with fail
        refine (rF_any _ _ _).mono ?_
        rintro e wf ⟨rfl, hbf⟩
        have rf := r2.below hbf
        have q0 := rf.c0
        have q1 := rf.c1
        have qf := rf.fz
        go_wp2_with fail
        refine bodyPost_ret (v := .agg #[.int .i64 6, .int .i64 (k : Int)]) (by simp [results, Try.results11, go_sem, q0, q1]) rfl ⟨by rw [hRR], ?_⟩
        exact ((b2.trans (hbf.mono b2.size)).setCell (p := ⟨w.heap.size + 1, 0, none⟩) (Nat.le_succ _) _).setCell (p := ⟨w.heap.size + 1, 1, none⟩) (Nat.le_succ _) _
      have h60' : ¬ (60 : Int) < (pts : Int) := by omega
      by_cases h40 : 40 < dp
      · have hC : C = 5 := by rw [HCE.out, HN.out]; simp [h60, h40]
        have hRR : RF = (5, (k : Int)) := by rw [hrf.out, HDA.out, hC]; simp
        have h40' : (40 : Int) < (dp : Int) := by omega
        subst hob
        go_wp2_with fail
        refine (NM _).mono ?_
        rintro e wn ⟨rfl, rfl⟩
        go_wp2_with fail
        refine (PO _ hxz).mono ?_
        rintro e w2 ⟨rfl, hb2⟩
        have r2 := rz.below hb2
        have b2 : Below w.heap.size w w2 := bz.trans (hb2.mono bz.size)
        have c2 : Below W.heap.size W w2 := cz.trans (hb2.mono cz.size)
        have y2z := yz.below hb2
        have hx2 := hxz.below hb2
        have p2 := y2z.c2
        have p3 := y2z.c3
        have p4 := y2z.c4
        go_wp2_with fail
        refine (DO _ hx2 (by omega)).mono ?_
        rintro e w3 ⟨rfl, hb3⟩
        have r3 := r2.below hb3
        have b3 : Below w.heap.size w w3 := b2.trans (hb3.mono b2.size)
        go_wp2_with fail
        refine (rF_any _ _ _).mono ?_
        rintro e wf ⟨rfl, hbf⟩
        have rf := r3.below hbf
        have q0 := rf.c0
        have q1 := rf.c1
        have qf := rf.fz
        go_wp2_with fail
        refine bodyPost_ret (v := .agg #[.int .i64 5, .int .i64 (k : Int)]) (by simp [results, Try.results11, go_sem, q0, q1]) rfl ⟨by rw [hRR], ?_⟩
        exact ((b3.trans (hbf.mono b3.size)).setCell (p := ⟨w.heap.size + 1, 0, none⟩) (Nat.le_succ _) _).setCell (p := ⟨w.heap.size + 1, 1, none⟩) (Nat.le_succ _) _
      have h40' : ¬ (40 : Int) < (dp : Int) := by omega
      have hC : C = bad := by rw [HCE.out, HN.out]; simp [h60, h40]
      by_cases hbd : bad = 0
      · subst hbd
        have hnx : dflt (k + 1) (ds.drop (k + 1)) = R := by rw [HDA.out, hC]; simp
        subst hob
        go_wp2_with fail
        refine (NM _).mono ?_
        rintro e wn ⟨rfl, rfl⟩
        go_wp2_with fail
        refine (PO _ hxz).mono ?_
        rintro e w2 ⟨rfl, hb2⟩
        have r2 := rz.below hb2
        have b2 : Below w.heap.size w w2 := bz.trans (hb2.mono bz.size)
        have c2 : Below W.heap.size W w2 := cz.trans (hb2.mono cz.size)
        have y2z := yz.below hb2
        have hx2 := hxz.below hb2
        have p2 := y2z.c2
        have p3 := y2z.c3
        have p4 := y2z.c4
        go_wp2_with fail
        refine (DO _ hx2 (by omega)).mono ?_
        rintro e w3 ⟨rfl, hb3⟩
        have r3 := r2.below hb3
        have b3 : Below w.heap.size w w3 := b2.trans (hb3.mono b2.size)
        have c3 : Below W.heap.size W w3 := c2.trans (hb3.mono c2.size)
        have y3z := y2z.below hb3
        have hx3 := hx2.below hb3
        have p2 := y3z.c2
        have p3 := y3z.c3
        have p4 := y3z.c4
        go_wp2_with fail
        refine (EF _ hx3).mono ?_
        rintro e w4 ⟨rfl, hb4⟩
        have c4 : Below W.heap.size W w4 := c3.trans (hb4.mono c3.size)
        go_wp2_with fail
        go_roundw
        case rel => exact ⟨k + 1, by omega, by go_num, hnx, c4⟩
        case measure => simp [intOf]; omega
      · have hRR : RF = (bad, (k : Int)) := by rw [hrf.out, HDA.out, hC]; simp [hbd]
        have hbb : (bad != 0) = true := by simpa using hbd
        subst hob
        go_wp2_with fail
        refine (NM _).mono ?_
        rintro e wn ⟨rfl, rfl⟩
        go_wp2_with fail
        refine (PO _ hxz).mono ?_
        rintro e w2 ⟨rfl, hb2⟩
        have r2 := rz.below hb2
        have b2 : Below w.heap.size w w2 := bz.trans (hb2.mono bz.size)
        have c2 : Below W.heap.size W w2 := cz.trans (hb2.mono cz.size)
        have y2z := yz.below hb2
        have hx2 := hxz.below hb2
        have p2 := y2z.c2
        have p3 := y2z.c3
        have p4 := y2z.c4
        go_wp2_with fail
        refine (DO _ hx2 (by omega)).mono ?_
        rintro e w3 ⟨rfl, hb3⟩
        have r3 := r2.below hb3
        have b3 : Below w.heap.size w w3 := b2.trans (hb3.mono b2.size)
        have c3 : Below W.heap.size W w3 := c2.trans (hb3.mono c2.size)
        have y3z := y2z.below hb3
        have hx3 := hx2.below hb3
        have p2 := y3z.c2
        have p3 := y3z.c3
        have p4 := y3z.c4
        go_wp2_with fail
        refine (EF _ hx3).mono ?_
        rintro e w4 ⟨rfl, hb4⟩
        have r4 := r3.below hb4
        have b4 : Below w.heap.size w w4 := b3.trans (hb4.mono b3.size)
        go_wp2_with fail
        refine (rF_any _ _ _).mono ?_
        rintro e wf ⟨rfl, hbf⟩
        have rf := r4.below hbf
        have q0 := rf.c0
        have q1 := rf.c1
        have qf := rf.fz
        go_wp2_with fail
        refine bodyPost_ret (v := .agg #[.int .i64 bad, .int .i64 (k : Int)]) (by simp [results, Try.results11, go_sem, q0, q1]) rfl ⟨by rw [hRR], ?_⟩
        exact ((b4.trans (hbf.mono b4.size)).setCell (p := ⟨w.heap.size + 1, 0, none⟩) (Nat.le_succ _) _).setCell (p := ⟨w.heap.size + 1, 1, none⟩) (Nat.le_succ _) _
    · rw [List.drop_eq_nil_of_le (by omega)] at hm
      simp only [dflt] at hm
      obtain ⟨hall, hlen⟩ := hz.out (by rw [← hm])
      have hrf' : RF = if 6000 < (tex ds).length then (6, -1) else (0, 0) := by rw [hrf.out, ← hm]; simp
      have TO := fun w' (hb : Below w.heap.size w w') => textOf_any ds (.slice ao ds.length cap) w' (hx0.out.kp (Kp.of_below hb) (fun _ _ h => h)) hall hlen
      have hts : (⟨(tex ds).toArray⟩ : ByteArray).size = (tex ds).length := by rw [← bys_length, bys_mk]
      generalize (⟨(tex ds).toArray⟩ : ByteArray) = T at *
      clear hrf hz hall
      by_cases h6 : 6000 < (tex ds).length
      · rw [if_pos h6] at hrf'
        have h6' : (6000 : Int) < (T.size : Int) := by omega
        clear hlen hts h6
        go_wp2_with fail
        refine (TO _ bel).mono ?_
        rintro e w2 ⟨rfl, hb2⟩
        have r2 := rb.below hb2
        have b2 : Below w.heap.size w w2 := bel.trans (hb2.mono bel.size)
        go_wp2_with fail
        refine (rF_any _ _ _).mono ?_
        rintro e wf ⟨rfl, hbf⟩
        have rf := r2.below hbf
        have q0 := rf.c0
        have q1 := rf.c1
        have qf := rf.fz
        go_wp2_with fail
        refine bodyPost_ret (v := .agg #[.int .i64 6, .int .i64 (-1)]) (by simp [results, Try.results11, go_sem, q0, q1]) rfl ⟨by rw [hrf'], ?_⟩
        exact ((b2.trans (hbf.mono b2.size)).setCell (p := ⟨w.heap.size + 1, 0, none⟩) (Nat.le_succ _) _).setCell (p := ⟨w.heap.size + 1, 1, none⟩) (Nat.le_succ _) _
      · rw [if_neg h6] at hrf'
        have h6' : ¬ (6000 : Int) < (T.size : Int) := by omega
        clear hlen hts h6
        go_wp2_with fail
        refine (TO _ bel).mono ?_
        rintro e w2 ⟨rfl, hb2⟩
        have r2 := rb.below hb2
        have b2 : Below w.heap.size w w2 := bel.trans (hb2.mono bel.size)
        have q0 := r2.c0
        have q1 := r2.c1
        have qf := r2.fz
        go_wp2_with fail
        refine bodyPost_ret (v := .agg #[.int .i64 0, .int .i64 0]) (by simp [results, Try.results11, go_sem, q0, q1]) rfl ⟨by rw [hrf'], ?_⟩
        exact (b2.setCell (p := ⟨w.heap.size + 1, 0, none⟩) (Nat.le_succ _) _).setCell (p := ⟨w.heap.size + 1, 1, none⟩) (Nat.le_succ _) _
end Go.Proofs.Ytdikjhfnmkejcab
