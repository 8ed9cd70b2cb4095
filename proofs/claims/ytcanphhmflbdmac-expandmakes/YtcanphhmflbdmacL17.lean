/- Texts laid together: St Cd. -/
import Derived.Test.YtcanphhmflbdmacL16
import Derived.RegionTactic
import Derived.Test.YtcanphhmflbdmacL14
/- Two texts that are held against each other. -/
namespace Go.Proofs.Ytcanphhmflbdmac
open Go.RowKit
def kk (pl : Bool) (d : Df) : ByteArray × Int × Xp := (d.nm, if pl then d.at_ else 0, d.e)
def smB (pl : Bool) (ds es : List Df) : Bool := decide (ds.map (kk pl) = es.map (kk pl))
theorem smB_len {pl : Bool} {ds es : List Df} (h : ¬ ds.length = es.length) : smB pl ds es = false := by
  unfold smB; rw [decide_eq_false_iff_not]; intro e; exact h (by simpa using congrArg List.length e)
theorem smB_true {pl : Bool} {ds es : List Df} (h : ds.length = es.length) (hh : ∀ j (h1 : j < ds.length) (h2 : j < es.length), kk pl ds[j] = kk pl es[j]) : smB pl ds es = true := by
  unfold smB; rw [decide_eq_true_iff]
  refine List.ext_getElem (by simpa using h) fun i h1 h2 => ?_
  simp only [List.getElem_map]
  exact hh i (by simpa using h1) (by simpa using h2)
theorem smB_false {pl : Bool} {ds es : List Df} {j : Nat} (h1 : j < ds.length) (h2 : j < es.length) (hh : kk pl ds[j] ≠ kk pl es[j]) : smB pl ds es = false := by
  unfold smB; rw [decide_eq_false_iff_not]; intro e
  apply hh
  have := congrArg (fun l => l[j]?) e
  simpa [h1, h2] using this
theorem DsIn.at_ {w : World} {S : Nat → Prop} : ∀ {ds : List Df} {b o : Nat}, DsIn w S ds b o → ∀ i (h : i < ds.length), w.cell? ⟨b, o + i * 5, none⟩ = some (.string ds[i].nm) ∧ w.cell? ⟨b, o + i * 5 + 1, none⟩ = some (.int .i64 ds[i].at_) ∧ XIn w S ds[i].e b (o + i * 5 + 2)
  | [], _, _, _, i, hi => by simp at hi
  | d :: l, b, o, h, 0, _ => by
    obtain ⟨h0, h1, h2, h3, _⟩ := h
    exact ⟨by simpa using h1, by simpa using h2, by simpa using h3⟩
  | d :: l, b, o, h, i + 1, hi => by
    have := DsIn.at_ (ds := l) h.2.2.2.2 i (by simpa using hi)
    rw [show o + 5 + i * 5 = o + (i + 1) * 5 by omega] at this
    simpa using this
end Go.Proofs.Ytcanphhmflbdmac

/- What package render finds wrong with definitions. -/
namespace Go.Proofs.Ytcanphhmflbdmac
open Go.RowKit
def Df.sh (d : Df) : Prop := d.nm.size ≤ 5000 ∧ d.e.sh
set_option maxRecDepth 100000 in
set_option maxHeartbeats 4000000 in
theorem cdef_any (d : Df) (va : Value) (w : World) (hx : DV w All va d) (hs : d.sh) :
    Calls Try.prog 93 #[va] w fun e w' => e = .returned (.int .i64 d.code) ∧ Below w.heap.size w w' := by
  obtain ⟨u, rfl, hv⟩ := hx
  have hxe : XV w All (.agg #[.int .i64 d.e.op, .string d.e.nm, u]) d.e := ⟨u, rfl, hv⟩
  obtain ⟨hl, ao, cap, rfl, hin⟩ := hv
  obtain ⟨W, hW⟩ : ∃ W, W = w.alloc (.cells #[.string d.nm, .int .i64 d.at_, .int .i64 d.e.op, .string d.e.nm, .slice ao d.e.kids.len cap] 66) := ⟨_, rfl⟩
  have hWz : W.heap.size = w.heap.size + 1 := by rw [hW]; simp
  have hWb : Below w.heap.size w W := by rw [hW]; exact (Below.refl _ _).alloc (Nat.le_refl _) _
  have hW2 : W.cell? ⟨w.heap.size, 2, none⟩ = some (.int .i64 d.e.op) := by rw [hW]; simp
  have hW3 : W.cell? ⟨w.heap.size, 3, none⟩ = some (.string d.e.nm) := by rw [hW]; simp
  have hW4 : W.cell? ⟨w.heap.size, 4, none⟩ = some (.slice ao d.e.kids.len cap) := by rw [hW]; simp
  have NM := fun w => name_any d.nm w (by unfold maxLen; have := hs.1; omega)
  have PL := fun w' hx => pl_any d.e 60 (.agg #[.int .i64 d.e.op, .string d.e.nm, .slice ao d.e.kids.len cap]) w' hx (by omega) (by omega)
  have hxW := hxe.below hWb
  have hcd : Hid (d.code = if isNameB d.nm = true then (if 60 < d.e.pts then 6 else if 40 < d.e.dp then 5 else d.e.bad) else 2) := hd rfl
  have hle := d.e.dp_pts
  generalize d.code = C at *
  cases hN : isNameB d.nm with
  | false =>
    have hc : C = 2 := by rw [hcd.out, hN]; rfl
    rw [hN] at NM
    subst hc
    go_enter Try.func93, Try.ntmps93
    go_wp2_with fail
    refine (NM _).mono ?_
    rintro e w1 ⟨rfl, rfl⟩
    go_wp2_with fail
    go_ret
    exact ⟨rfl, by rw [← hW]; exact hWb⟩
  | true =>
  rw [hN] at NM
  simp only [hN, if_true] at hcd
  have HN := hd hN
  clear hN
  by_cases h60 : 60 < d.e.pts
  · have hc : C = 6 := by rw [hcd.out, if_pos h60]
    subst hc
    go_enter Try.func93, Try.ntmps93
    go_wp2_with fail
    refine (NM _).mono ?_
    rintro e w1 ⟨rfl, rfl⟩
    rw [← hW]
    have HW := hd hW
    clear hW
    go_wp2_with fail
    refine (PL _ hxW).mono ?_
    rintro e w2 ⟨q, rfl, i1, i2, i3, hb2⟩
    have hq : q < 0 := by
      by_cases h : q < 0
      · exact h
      · have := i1 (by omega); omega
    go_wp2_with fail
    go_ret
    exact ⟨rfl, hWb.trans (hb2.mono (by omega))⟩
  have DP := fun w' hx => dp_any d.e (.agg #[.int .i64 d.e.op, .string d.e.nm, .slice ao d.e.kids.len cap]) w' hx (by omega)
  by_cases h40 : 40 < d.e.dp
  · have hc : C = 5 := by rw [hcd.out, if_neg h60, if_pos h40]
    subst hc
    go_enter Try.func93, Try.ntmps93
    go_wp2_with fail
    refine (NM _).mono ?_
    rintro e w1 ⟨rfl, rfl⟩
    rw [← hW]
    have HW := hd hW
    clear hW
    go_wp2_with fail
    refine (PL _ hxW).mono ?_
    rintro e w2 ⟨q, rfl, i1, i2, i3, hb2⟩
    have hq : ¬ q < 0 := fun h => by have := i2 h; omega
    have z2 := hb2.size
    have f2 := bkeep hb2 hW2
    have f3 := bkeep hb2 hW3
    have f4 := bkeep hb2 hW4
    go_wp2_with fail
    refine (DP _ (hxW.below hb2)).mono ?_
    rintro e w3 ⟨rfl, hb3⟩
    go_wp2_with fail
    go_ret
    exact ⟨rfl, (hWb.trans (hb2.mono (by omega))).trans (hb3.mono (by omega))⟩
  have hc : C = d.e.bad := by rw [hcd.out, if_neg h60, if_neg h40]
  subst hc
  have CE := fun w' hx => ce_any d.e (.agg #[.int .i64 d.e.op, .string d.e.nm, .slice ao d.e.kids.len cap]) w' hx hs.2
  clear hcd
  generalize d.e.bad = C at *
  go_enter Try.func93, Try.ntmps93
  go_wp2_with fail
  refine (NM _).mono ?_
  rintro e w1 ⟨rfl, rfl⟩
  rw [← hW]
  have HW := hd hW
  clear hW
  go_wp2_with fail
  refine (PL _ hxW).mono ?_
  rintro e w2 ⟨q, rfl, i1, i2, i3, hb2⟩
  have hq : ¬ q < 0 := fun h => by have := i2 h; omega
  have z2 := hb2.size
  have f2 := bkeep hb2 hW2
  have f3 := bkeep hb2 hW3
  have f4 := bkeep hb2 hW4
  go_wp2_with fail
  refine (DP _ (hxW.below hb2)).mono ?_
  rintro e w3 ⟨rfl, hb3⟩
  have z3 := hb3.size
  have g2 := bkeep hb3 f2
  have g3 := bkeep hb3 f3
  have g4 := bkeep hb3 f4
  go_wp2_with fail
  refine (CE _ ((hxW.below hb2).below hb3)).mono ?_
  rintro e w4 ⟨rfl, hb4⟩
  go_wp2_with fail
  go_ret
  exact ⟨rfl, ((hWb.trans (hb2.mono (by omega))).trans (hb3.mono (by omega))).trans (hb4.mono (by omega))⟩
theorem dflt_at {ds : List Df} {k : Nat} (h : k < ds.length) : dflt k (ds.drop k) = if ds[k].code ≠ 0 then (ds[k].code, (k : Int)) else dflt (k + 1) (ds.drop (k + 1)) := by
  rw [List.drop_eq_getElem_cons h]; rfl
set_option maxRecDepth 100000 in
set_option maxHeartbeats 4000000 in
theorem cdefs_any (ds : List Df) (va : Value) (w : World) (hx : DsV w All va ds) (hs : ∀ d ∈ ds, d.sh) :
    Calls Try.prog 85 #[va] w fun e w' => e = .returned (.agg #[.int .i64 (cflt ds).1, .int .i64 (cflt ds).2]) ∧ Below w.heap.size w w' := by
  obtain ⟨hl, ao, cap, rfl, hin⟩ := hx
  by_cases h0 : ds.length = 0
  · have hc : cflt ds = (8, -1) := by unfold cflt; rw [if_pos h0]
    rw [hc]
    go_enter Try.func85, Try.ntmps85
    go_wp2_with fail
    refine bodyPost_ret (v := .agg #[.int .i64 8, .int .i64 (-1)]) (by simp [results, Try.results85, go_sem]) rfl ⟨rfl, ?_⟩
    exact al1 _ _
  by_cases h16 : 16 < ds.length
  · have hc : cflt ds = (6, -1) := by unfold cflt; rw [if_neg h0, if_pos h16]
    rw [hc]
    go_enter Try.func85, Try.ntmps85
    go_wp2_with fail
    refine bodyPost_ret (v := .agg #[.int .i64 6, .int .i64 (-1)]) (by simp [results, Try.results85, go_sem]) rfl ⟨rfl, ?_⟩
    exact al1 _ _
  have hc : cflt ds = dflt 0 ds := by unfold cflt; rw [if_neg h0, if_neg h16]
  rw [hc]
  clear hc
  obtain ⟨W, hW⟩ : ∃ W, W = w.alloc (.cells #[.int .i64 0, .int .i64 0] 29) := ⟨_, rfl⟩
  have hWz : W.heap.size = w.heap.size + 1 := by rw [hW]; simp
  have hWb : Below w.heap.size w W := by rw [hW]; exact (Below.refl _ _).alloc (Nat.le_refl _) _
  have hW0 : W.cell? ⟨w.heap.size, 0, none⟩ = some (.int .i64 0) := by rw [hW]; simp
  have hW1 : W.cell? ⟨w.heap.size, 1, none⟩ = some (.int .i64 0) := by rw [hW]; simp
  have hWf : ∀ i, W.frozen? ⟨w.heap.size, i, none⟩ = false := fun i => by rw [hW]; simp [go_sem]
  obtain ⟨R, hR⟩ : ∃ R, R = dflt 0 ds := ⟨_, rfl⟩
  rw [← hR]
  have hb0 : ((ds.length : Int) == 0) = false := by rw [beq_eq_false_iff_ne]; omega
  have hb16 : decide ((16 : Int) < (ds.length : Int)) = false := by simp; omega
  have H0 := hd h0
  have H16 := hd h16
  clear h0 h16
  go_enter Try.func85, Try.ntmps85
  go_wp2_with fail
  rw [← hW]
  have HW := hd hW
  clear hW
  go_loopw [16] (fun i wr => ∃ (k : Nat), k ≤ ds.length ∧ i = .int .i64 k ∧ dflt k (ds.drop k) = R ∧ Below W.heap.size W wr) (fun i _ => ds.length - (intOf i).toNat)
  case atStart => exact ⟨0, Nat.zero_le _, rfl, by rw [hR]; rfl, Below.refl _ _⟩
  case round =>
    obtain ⟨k, hk, rfl, hm, hb⟩ := hrel
    have hz := hb.size
    have bel : Below w.heap.size w wr := hWb.trans (hb.mono (by omega))
    have s0 := bkeep hb hW0
    have s1 := bkeep hb hW1
    have sf : ∀ i, wr.frozen? ⟨w.heap.size, i, none⟩ = false := fun i => by rw [World.frozen?_of_block (w := W) (a := ⟨w.heap.size, i, none⟩) (hb.block w.heap.size (by omega))]; exact hWf i
    by_cases hlt : k < ds.length
    · obtain h0' | ⟨ba, oa, rfl, hia⟩ := hin
      · omega
      have kA : ∀ b o v, All b → w.cell? ⟨b, o, none⟩ = some v → All b ∧ wr.cell? ⟨b, o, none⟩ = some v := keep_cell (fun _ _ h => h) (Kp.of_below bel).block
      obtain ⟨an, aa, ax⟩ := (hia.mono kA).at_ k hlt
      obtain ⟨ua, a0, a1, a2, hxa⟩ := ax.xv
      have hxa' := hxa
      obtain ⟨_, e, _, aoa', capa', rfl, _⟩ := hxa'
      simp at e; subst e
      have hda := dflt_at hlt
      have hsd := hs ds[k] (List.getElem_mem hlt)
      have HLT := hd hlt
      generalize ds[k] = dk at *
      obtain ⟨ob, hob⟩ : ∃ ob : Obj, ob = .cells #[.string dk.nm, .int .i64 dk.at_, .int .i64 dk.e.op, .string dk.e.nm, .slice aoa' dk.e.kids.len capa'] 66 := ⟨_, rfl⟩
      have bz : Below W.heap.size W (wr.alloc ob) := hb.trans ((al1 wr ob).mono hb.size)
      have CD := cdef_any dk (.agg #[.string dk.nm, .int .i64 dk.at_, .int .i64 dk.e.op, .string dk.e.nm, .slice aoa' dk.e.kids.len capa']) (wr.alloc ob) ⟨_, rfl, (hxa.below (al1 wr ob)).fov⟩ hsd
      have t0 := alcell s0 ob
      have t1 := alcell s1 ob
      have tf : ∀ i, (wr.alloc ob).frozen? ⟨w.heap.size, i, none⟩ = false := fun i => by rw [World.frozen?_of_block (w := wr) (a := ⟨w.heap.size, i, none⟩) ((al1 wr ob).block _ (lt_of_cell s0))]; exact sf i
      subst hob
      generalize dk.code = C at *
      go_wp2_with fail
      refine CD.mono ?_
      rintro e w2 ⟨rfl, hb2⟩
      have bel2 : Below W.heap.size W w2 := bz.trans (hb2.mono bz.size)
      have r0 := bkeep hb2 t0
      have r1 := bkeep hb2 t1
      have rf : ∀ i, w2.frozen? ⟨w.heap.size, i, none⟩ = false := fun i => by rw [World.frozen?_of_block (a := ⟨w.heap.size, i, none⟩) (hb2.block _ (lt_of_cell t0))]; exact tf i
      by_cases h5 : C = 0
      · subst h5
        simp only [ne_eq, not_true_eq_false, if_false] at hda
        go_wp2_with fail
        go_roundw
        case rel => exact ⟨k + 1, by omega, by go_num, by rw [← hda]; exact hm, bel2⟩
        case measure => simp [intOf]; omega
      · rw [if_pos h5, hm] at hda
        go_wp2_with fail
        refine bodyPost_ret (v := .agg #[.int .i64 C, .int .i64 (k : Int)]) (by simp [results, Try.results85, go_sem, r0, r1]) rfl ⟨by rw [hda], ?_⟩
        exact ((hWb.trans (bel2.mono (by omega))).setCell (Nat.le_refl _) _).setCell (Nat.le_refl _) _
    · rw [List.drop_eq_nil_of_le (by omega)] at hm
      simp only [dflt] at hm
      go_wp2_with fail
      refine bodyPost_ret (v := .agg #[.int .i64 0, .int .i64 0]) (by simp [results, Try.results85, go_sem, s0, s1]) rfl ⟨by rw [← hm], ?_⟩
      exact (bel.setCell (Nat.le_refl _) _).setCell (Nat.le_refl _) _
end Go.Proofs.Ytcanphhmflbdmac
