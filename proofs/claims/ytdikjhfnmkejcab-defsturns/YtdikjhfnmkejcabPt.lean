/- Print and Check of package render. -/
import Derived.Test.YtdikjhfnmkejcabWr
import Derived.RegionTactic
namespace Go.Proofs.Ytdikjhfnmkejcab
open Go.RowKit
def By (w : World) (k : Nat) (d : Df) (ao : Option Addr) (cap : Nat) : Prop := w.heap[k]? = some (.cells #[.string d.nm, .int .i64 d.at_, .int .i64 d.e.op, .string d.e.nm, .slice ao d.e.kids.len cap] 50)
theorem By.new (w : World) (d : Df) (ao : Option Addr) (cap : Nat) : By (w.alloc (.cells #[.string d.nm, .int .i64 d.at_, .int .i64 d.e.op, .string d.e.nm, .slice ao d.e.kids.len cap] 50)) w.heap.size d ao cap := by
  unfold By; exact heap_alloc_new w _
section
variable {w w' : World} {b k : Nat} {d : Df} {ao : Option Addr} {cap : Nat}
theorem By.c0 (h : By w k d ao cap) : w.cell? ⟨k, 0, none⟩ = some (.string d.nm) := by rw [Lib.cell_of_heap h]; rfl
theorem By.c2 (h : By w k d ao cap) : w.cell? ⟨k, 2, none⟩ = some (.int .i64 d.e.op) := by rw [Lib.cell_of_heap h]; rfl
theorem By.c3 (h : By w k d ao cap) : w.cell? ⟨k, 3, none⟩ = some (.string d.e.nm) := by rw [Lib.cell_of_heap h]; rfl
theorem By.c4 (h : By w k d ao cap) : w.cell? ⟨k, 4, none⟩ = some (.slice ao d.e.kids.len cap) := by rw [Lib.cell_of_heap h]; rfl
theorem By.ot (h : By w k d ao cap) (hk : k ≠ b) (ho : Ot b w w') : By w' k d ao cap :=
  ho k _ h (by simpa using hk) (fun c fz e => by injection e with _ e2 _; cases e2)
end
theorem tex_at {ds : List Df} {k : Nat} (h : k < ds.length) : tex (ds.drop k) = bys ds[k].nm ++ [32, 61, 32] ++ ds[k].e.tx ++ [59, 10] ++ tex (ds.drop (k + 1)) := by
  show (ds.drop k).flatMap Df.tx = _
  rw [List.drop_eq_getElem_cons h, List.flatMap_cons]; rfl
theorem DsV.low {w : World} {v : Value} {ds : List Df} (h : DsV w All v ds) : DsV w (fun k => k < w.heap.size) v ds :=
  h.mono fun _ _ _ _ hc => ⟨lt_of_cell hc, hc⟩
theorem DsIn.lowB {w w' : World} {B : Nat} {f : List Df} {b o : Nat} (h : DsIn w (fun k => k < B) f b o) (hb : Below B w w') : DsIn w' (fun k => k < B) f b o :=
  h.mono (keep_cell (fun _ _ h => h) (fun k _ h => hb.block k h))
theorem Bl.new (w : World) : Bl w.heap.size w.heap.size [] (w.alloc (.cells #[.pointer none, .slice none 0 0] 78)) :=
  .inl ⟨Nat.le_refl _, .slice none 0 0, heap_alloc_new w _, World.ownsRowF_of (World.ownsRow_nil _ _ _ _), by simp [Value.ownBlock]⟩
set_option maxRecDepth 100000 in
set_option maxHeartbeats 8000000 in
theorem written_any (ds : List Df) (va : Value) (w : World) (hx : DsV w All va ds) (hlen : (tex ds).length ≤ 1000000) :
    Calls Try.prog 36 #[va] w fun e w' => e = .returned (.string ⟨(tex ds).toArray⟩) ∧ Below w.heap.size w w' := by
  obtain ⟨hl, ao, cap, rfl, hin⟩ := hx.low
  obtain ⟨W, hW⟩ : ∃ W, W = w.alloc (.cells #[.pointer none, .slice none 0 0] 78) := ⟨_, rfl⟩
  have hWz : W.heap.size = w.heap.size + 1 := by rw [hW]; simp
  have hWb : Below w.heap.size w W := by rw [hW]; exact (Below.refl _ _).alloc (Nat.le_refl _) _
  have hWl : Bl w.heap.size w.heap.size [] W := by rw [hW]; exact Bl.new _
  obtain ⟨T, hT⟩ : ∃ T, T = tex ds := ⟨_, rfl⟩
  have HT := hd hT
  rw [← hT] at hlen
  rw [← hT]
  clear hT
  go_enter Try.func36, Try.ntmps36
  go_wp2_with fail
  rw [← hW]
  have HW := hd hW
  clear hW
  go_loopw [8] (fun i wr => ∃ (k : Nat) (l' : List UInt8), k ≤ ds.length ∧ i = .int .i64 k ∧ Bl w.heap.size w.heap.size l' wr ∧ l' ++ tex (ds.drop k) = T ∧ Below w.heap.size W wr) (fun i _ => ds.length - (intOf i).toNat)
  case atStart => exact ⟨0, [], Nat.zero_le _, rfl, hWl, by rw [HT.out]; simp, Below.refl _ _⟩
  case round =>
    obtain ⟨k, l', hk, rfl, gl, hm, hb⟩ := hrel
    have hz := hb.size
    have bel : Below w.heap.size w wr := hWb.trans hb
    by_cases hlt : k < ds.length
    · obtain h0 | ⟨ba, oa, rfl, hia⟩ := hin
      · omega
      obtain ⟨an, aa, ax⟩ := (hia.lowB bel).at_ k hlt
      obtain ⟨ua, a0, a1, a2, hxa⟩ := ax.xv
      have hxa' := hxa
      obtain ⟨_, e, _, aoa', capa', rfl, _⟩ := hxa'
      simp at e; subst e
      rw [tex_at hlt] at hm
      have HLT := hd hlt
      generalize ds[k] = dk at *
      have hln := congrArg List.length hm
      simp only [List.length_append, List.length_cons, List.length_nil, bys_length] at hln
      obtain ⟨ob, hob⟩ : ∃ ob : Obj, ob = .cells #[.string dk.nm, .int .i64 dk.at_, .int .i64 dk.e.op, .string dk.e.nm, .slice aoa' dk.e.kids.len capa'] 50 := ⟨_, rfl⟩
      have ba1 : Below wr.heap.size wr (wr.alloc ob) := al1 wr ob
      have yz : By (wr.alloc ob) wr.heap.size dk aoa' capa' := by rw [hob]; exact By.new _ _ _ _
      have gz := gl.below ba1
      have bz : Below w.heap.size W (wr.alloc ob) := hb.trans (ba1.mono (by omega))
      have hxz := hxa.lowB (ba1.mono (show w.heap.size ≤ wr.heap.size by omega))
      have hsz : (wr.alloc ob).heap.size = wr.heap.size + 1 := by simp
      have hyn : wr.heap.size ≠ w.heap.size := by omega
      subst hob
      have y0 := yz.c0
      have y2 := yz.c2
      have y3 := yz.c3
      have y4 := yz.c4
      have WX := wr_any dk.e
      go_wp2_with fail
      refine (bwrite _ _ _ dk.nm _ gz (by omega) (by omega)).mono ?_
      rintro e w2 ⟨rfl, g2, b2, o2⟩
      have z2 := b2.size
      have yz := yz.ot hyn o2
      have hx2 := hxz.lowB b2
      have bz := bz.trans b2
      clear gz hxz y0 y2 y3 y4 b2 o2
      have y0 := yz.c0
      have y2 := yz.c2
      have y3 := yz.c3
      have y4 := yz.c4
      go_wp2_with fail
      have g2 : Bl w.heap.size w.heap.size (l' ++ bys dk.nm) w2 := g2
      refine (bwrite _ _ _ ⟨#[32, 61, 32]⟩ _ g2 (by show _ + 3 ≤ _; simp only [List.length_append, bys_length]; omega) (by omega)).mono ?_
      rintro e w3 ⟨rfl, g3, b3, o3⟩
      have g3 : Bl w.heap.size w.heap.size (l' ++ bys dk.nm ++ [32, 61, 32]) w3 := g3
      have z3 := b3.size
      have yz := yz.ot hyn o3
      have hx3 := hx2.lowB b3
      have bz := bz.trans b3
      clear g2 hx2 y0 y2 y3 y4 b3 o3
      have y2 := yz.c2
      have y3 := yz.c3
      have y4 := yz.c4
      go_wp2_with fail
      refine (WX _ _ _ _ _ hx3 g3 (by omega) (by simp only [List.length_append, List.length_cons, List.length_nil, bys_length]; omega)).mono ?_
      rintro e w4 ⟨rfl, g4, f4⟩
      have z4 := f4.bel.size
      have bz := bz.trans f4.bel
      go_wp2_with fail
      refine (bwrite _ _ _ ⟨#[59, 10]⟩ _ g4 (by show _ + 2 ≤ _; simp only [List.length_append, List.length_cons, List.length_nil, bys_length]; omega) (by omega)).mono ?_
      rintro e w5 ⟨rfl, g5, b5, o5⟩
      have g5 : Bl w.heap.size w.heap.size (l' ++ bys dk.nm ++ [32, 61, 32] ++ dk.e.tx ++ [59, 10]) w5 := g5
      have bz := bz.trans b5
      go_wp2_with fail
      go_roundw
      case rel => exact ⟨k + 1, _, by omega, by go_num, g5, by rw [← hm]; simp only [List.append_assoc], bz⟩
      case measure => simp [intOf]; omega
    · rw [List.drop_eq_nil_of_le (by omega)] at hm
      simp only [tex, List.flatMap_nil, List.append_nil] at hm
      subst hm
      go_wp2_with fail
      refine (bstring _ _ _ _ gl (by omega)).mono ?_
      rintro e w2 ⟨rfl, b2⟩
      go_wp2_with fail
      go_ret
      exact ⟨rfl, bel.trans b2⟩
def pstr (ds : List Df) : ByteArray := if (rflt ds).1 = 0 then ⟨(tex ds).toArray⟩ else ⟨#[]⟩
set_option maxRecDepth 100000 in
set_option maxHeartbeats 8000000 in
theorem print_any (ds : List Df) (va : Value) (w : World) (hx : DsV w All va ds) (hs : ∀ d ∈ ds, d.sh) :
    Calls Try.prog 12 #[.agg #[va]] w fun e w' => e = .returned (.tuple #[.string (pstr ds), .agg #[.int .i64 (rflt ds).1, .int .i64 (rflt ds).2]]) ∧ Below w.heap.size w w' := by
  have CD := fun w' (hb : Below w.heap.size w w') => cdefs_any ds va w' (hx.kp (Kp.of_below hb) (fun _ _ h => h)) hs
  have wb : ∀ w1 : World, Below w.heap.size w w1 → ∀ o, Below w.heap.size w (w1.alloc o) := fun w1 h o => h.trans ((al1 w1 o).mono h.size)
  by_cases hc : (cflt ds).1 = 0
  · have hcz : cflt ds = (0, 0) ∧ (tex ds).length ≤ 1000000 := by
      unfold cflt at hc ⊢
      split at hc
      · cases hc
      · split at hc
        · cases hc
        · rename_i h1 h2
          obtain ⟨h3, h4⟩ := dflt_zero hc
          have := tex_len h3
          rw [if_neg h1, if_neg h2]
          exact ⟨h4, by omega⟩
    have WT := fun w' (hb : Below w.heap.size w w') => written_any ds va w' (hx.kp (Kp.of_below hb) (fun _ _ h => h)) hcz.2
    rw [hcz.1] at CD
    have hrf : rflt ds = if 6000 < (tex ds).length then (6, -1) else (0, 0) := by unfold rflt; rw [hcz.1, if_neg (by simp)]
    have hps : pstr ds = if (rflt ds).1 = 0 then ⟨(tex ds).toArray⟩ else ⟨#[]⟩ := rfl
    generalize pstr ds = PS at *
    generalize rflt ds = RF at *
    have hsz : (⟨(tex ds).toArray⟩ : ByteArray).size = (tex ds).length := by simp [ByteArray.size]
    generalize hTT : (⟨(tex ds).toArray⟩ : ByteArray) = TT at *
    generalize (tex ds).length = n at *
    clear hTT
    obtain ⟨hl, ao, cap, rfl, hin⟩ := hx
    clear hin
    obtain ⟨W, hW⟩ : ∃ W, W = (w.alloc (.cells #[.slice ao ds.length cap] 24)).alloc (.cells #[.int .i64 0, .int .i64 0] 28) := ⟨_, rfl⟩
    have hWb : Below w.heap.size w W := by rw [hW]; exact al2 _ _ _
    have hW0 : W.cell? ⟨w.heap.size, 0, none⟩ = some (.slice ao ds.length cap) := by rw [hW]; simp
    have hW1 : W.cell? ⟨w.heap.size + 1, 0, none⟩ = some (.int .i64 0) := by rw [hW]; simp
    have hW2 : W.cell? ⟨w.heap.size + 1, 1, none⟩ = some (.int .i64 0) := by rw [hW]; simp
    have hWf : ∀ i, W.frozen? ⟨w.heap.size + 1, i, none⟩ = false := fun i => by rw [hW]; simp [go_sem]
    by_cases h6 : 6000 < n
    · rw [if_pos h6] at hrf
      subst hrf
      rw [if_neg (by simp)] at hps
      subst hps
      have h6' : (6000 : Int) < (TT.size : Int) := by omega
      go_enter Try.func12, Try.ntmps12
      go_wp2_with fail
      rw [← hW]
      refine (CD _ hWb).mono ?_
      rintro e w1 ⟨rfl, hb1⟩
      have HW := hd hW
      clear hW
      have d0 := alcell (bkeep hb1 hW0) (.cells #[.int .i64 0, .int .i64 0] 28)
      have d1 := alcell (bkeep hb1 hW1) (.cells #[.int .i64 0, .int .i64 0] 28)
      have d2 := alcell (bkeep hb1 hW2) (.cells #[.int .i64 0, .int .i64 0] 28)
      have bel1 := wb w1 (hWb.trans (hb1.mono hWb.size)) (.cells #[.int .i64 0, .int .i64 0] 28)
      have df : ∀ i, (w1.alloc (.cells #[.int .i64 0, .int .i64 0] 28)).frozen? ⟨w.heap.size + 1, i, none⟩ = false := fun i => by
        rw [World.frozen?_of_block (w := W) (a := ⟨w.heap.size + 1, i, none⟩) (((al1 w1 _).block _ (lt_of_cell (bkeep hb1 hW1))).trans (hb1.block _ (lt_of_cell hW1)))]; exact hWf i
      go_wp2_with fail
      refine (WT _ bel1).mono ?_
      rintro e w2 ⟨rfl, hb2⟩
      have e1 := bkeep hb2 d1
      have e2 := bkeep hb2 d2
      have ef : ∀ i, w2.frozen? ⟨w.heap.size + 1, i, none⟩ = false := fun i => by rw [World.frozen?_of_block (a := ⟨w.heap.size + 1, i, none⟩) (hb2.block _ (lt_of_cell d1))]; exact df i
      go_wp2_with fail
      refine bodyPost_ret (v := .tuple #[.string ⟨#[]⟩, .agg #[.int .i64 6, .int .i64 (-1)]]) (by simp [results, Try.results12, go_sem, e1, e2]) rfl ⟨rfl, ?_⟩
      exact ((bel1.trans (hb2.mono bel1.size)).setCell (p := ⟨w.heap.size + 1, 0, none⟩) (Nat.le_succ _) _).setCell (p := ⟨w.heap.size + 1, 1, none⟩) (Nat.le_succ _) _
    · rw [if_neg h6] at hrf
      subst hrf
      rw [if_pos rfl] at hps
      subst hps
      have h6' : ¬ (6000 : Int) < (PS.size : Int) := by omega
      go_enter Try.func12, Try.ntmps12
      go_wp2_with fail
      rw [← hW]
      refine (CD _ hWb).mono ?_
      rintro e w1 ⟨rfl, hb1⟩
      have HW := hd hW
      clear hW
      have d0 := alcell (bkeep hb1 hW0) (.cells #[.int .i64 0, .int .i64 0] 28)
      have d1 := alcell (bkeep hb1 hW1) (.cells #[.int .i64 0, .int .i64 0] 28)
      have d2 := alcell (bkeep hb1 hW2) (.cells #[.int .i64 0, .int .i64 0] 28)
      have bel1 := wb w1 (hWb.trans (hb1.mono hWb.size)) (.cells #[.int .i64 0, .int .i64 0] 28)
      have df : ∀ i, (w1.alloc (.cells #[.int .i64 0, .int .i64 0] 28)).frozen? ⟨w.heap.size + 1, i, none⟩ = false := fun i => by
        rw [World.frozen?_of_block (w := W) (a := ⟨w.heap.size + 1, i, none⟩) (((al1 w1 _).block _ (lt_of_cell (bkeep hb1 hW1))).trans (hb1.block _ (lt_of_cell hW1)))]; exact hWf i
      go_wp2_with fail
      refine (WT _ bel1).mono ?_
      rintro e w2 ⟨rfl, hb2⟩
      have e1 := bkeep hb2 d1
      have e2 := bkeep hb2 d2
      have ef : ∀ i, w2.frozen? ⟨w.heap.size + 1, i, none⟩ = false := fun i => by rw [World.frozen?_of_block (a := ⟨w.heap.size + 1, i, none⟩) (hb2.block _ (lt_of_cell d1))]; exact df i
      go_wp2_with fail
      refine bodyPost_ret (v := .tuple #[.string PS, .agg #[.int .i64 0, .int .i64 0]]) (by simp [results, Try.results12, go_sem, e1, e2]) rfl ⟨rfl, ?_⟩
      exact ((bel1.trans (hb2.mono bel1.size)).setCell (p := ⟨w.heap.size + 1, 0, none⟩) (Nat.le_succ _) _).setCell (p := ⟨w.heap.size + 1, 1, none⟩) (Nat.le_succ _) _
  · have hr : rflt ds = cflt ds := by unfold rflt; rw [if_pos hc]
    have hp : pstr ds = ⟨#[]⟩ := by unfold pstr; rw [hr, if_neg hc]
    rw [hp, hr]
    generalize cflt ds = R at *
    obtain ⟨hl, ao, cap, rfl, hin⟩ := hx
    obtain ⟨W, hW⟩ : ∃ W, W = (w.alloc (.cells #[.slice ao ds.length cap] 24)).alloc (.cells #[.int .i64 0, .int .i64 0] 28) := ⟨_, rfl⟩
    have hWb : Below w.heap.size w W := by rw [hW]; exact al2 _ _ _
    have hW1 : W.cell? ⟨w.heap.size + 1, 0, none⟩ = some (.int .i64 0) := by rw [hW]; simp
    have hW2 : W.cell? ⟨w.heap.size + 1, 1, none⟩ = some (.int .i64 0) := by rw [hW]; simp
    have hWf : ∀ i, W.frozen? ⟨w.heap.size + 1, i, none⟩ = false := fun i => by rw [hW]; simp [go_sem]
    have hcb : (R.1 != 0) = true := by simpa using hc
    go_enter Try.func12, Try.ntmps12
    go_wp2_with fail
    rw [← hW]
    refine (CD _ hWb).mono ?_
    rintro e w1 ⟨rfl, hb1⟩
    have HW := hd hW
    clear hW
    go_wp2_with fail
    obtain ⟨W2, hW2'⟩ : ∃ W2, W2 = w1.alloc (.cells #[.int .i64 R.1, .int .i64 R.2] 28) := ⟨_, rfl⟩
    have c0 : W2.cell? ⟨w1.heap.size, 0, none⟩ = some (.int .i64 R.1) := by rw [hW2']; simp
    have c1 : W2.cell? ⟨w1.heap.size, 1, none⟩ = some (.int .i64 R.2) := by rw [hW2']; simp
    have d1 : W2.cell? ⟨w.heap.size + 1, 0, none⟩ = some (.int .i64 0) := by rw [hW2']; exact alcell (bkeep hb1 hW1) _
    have d2 : W2.cell? ⟨w.heap.size + 1, 1, none⟩ = some (.int .i64 0) := by rw [hW2']; exact alcell (bkeep hb1 hW2) _
    have bel1 : Below w.heap.size w W2 := by rw [hW2']; exact wb w1 (hWb.trans (hb1.mono hWb.size)) _
    have df : ∀ i, W2.frozen? ⟨w.heap.size + 1, i, none⟩ = false := fun i => by
      rw [hW2', World.frozen?_of_block (w := W) (a := ⟨w.heap.size + 1, i, none⟩) (((al1 w1 _).block _ (lt_of_cell (bkeep hb1 hW1))).trans (hb1.block _ (lt_of_cell hW1)))]; exact hWf i
    rw [← hW2']
    have HW2 := hd hW2'
    clear hW2' hb1
    go_region
    all_goals
      go_wp2_with fail
      refine bodyPost_ret (v := .tuple #[.string ⟨#[]⟩, .agg #[.int .i64 R.1, .int .i64 R.2]]) (by simp [results, Try.results12, go_sem, d1, d2]) rfl ⟨rfl, ?_⟩
      have h := (bel1.setCell (p := ⟨w.heap.size + 1, 0, none⟩) (Nat.le_succ _) (.int .i64 R.1)).setCell (p := ⟨w.heap.size + 1, 1, none⟩) (Nat.le_succ _) (.int .i64 R.2)
      exact ⟨h.os, h.tape, h.output, h.size, h.block⟩
set_option maxRecDepth 100000 in
set_option maxHeartbeats 8000000 in
theorem check_any (ds : List Df) (va : Value) (w : World) (hx : DsV w All va ds) (hs : ∀ d ∈ ds, d.sh) :
    Calls Try.prog 26 #[.agg #[va]] w fun e w' => e = .returned (.agg #[.int .i64 (rflt ds).1, .int .i64 (rflt ds).2]) ∧ Below w.heap.size w w' := by
  have PR := fun w' (hb : Below w.heap.size w w') => print_any ds va w' (hx.kp (Kp.of_below hb) (fun _ _ h => h)) hs
  generalize pstr ds = PS at *
  generalize rflt ds = R at *
  obtain ⟨hl, ao, cap, rfl, hin⟩ := hx
  obtain ⟨W, hW⟩ : ∃ W, W = (w.alloc (.cells #[.slice ao ds.length cap] 24)).alloc (.cells #[.int .i64 0, .int .i64 0] 28) := ⟨_, rfl⟩
  have hWb : Below w.heap.size w W := by rw [hW]; exact al2 _ _ _
  have hW1 : W.cell? ⟨w.heap.size + 1, 0, none⟩ = some (.int .i64 0) := by rw [hW]; simp
  have hW2 : W.cell? ⟨w.heap.size + 1, 1, none⟩ = some (.int .i64 0) := by rw [hW]; simp
  have hWf : ∀ i, W.frozen? ⟨w.heap.size + 1, i, none⟩ = false := fun i => by rw [hW]; simp [go_sem]
  go_enter Try.func26, Try.ntmps26
  go_wp2_with fail
  rw [← hW]
  refine (PR _ hWb).mono ?_
  rintro e w1 ⟨rfl, hb1⟩
  have HW := hd hW
  clear hW
  have d1 := alcell (bkeep hb1 hW1) (.cells #[.int .i64 R.1, .int .i64 R.2] 28)
  have d2 := alcell (bkeep hb1 hW2) (.cells #[.int .i64 R.1, .int .i64 R.2] 28)
  have bel1 : Below w.heap.size w (w1.alloc (.cells #[.int .i64 R.1, .int .i64 R.2] 28)) := (hWb.trans (hb1.mono hWb.size)).trans ((al1 w1 _).mono (by have := hb1.size; have := hWb.size; omega))
  have df : ∀ i, (w1.alloc (.cells #[.int .i64 R.1, .int .i64 R.2] 28)).frozen? ⟨w.heap.size + 1, i, none⟩ = false := fun i => by
    rw [World.frozen?_of_block (w := W) (a := ⟨w.heap.size + 1, i, none⟩) (((al1 w1 _).block _ (lt_of_cell (bkeep hb1 hW1))).trans (hb1.block _ (lt_of_cell hW1)))]; exact hWf i
  go_wp2_with fail
  refine bodyPost_ret (v := .agg #[.int .i64 R.1, .int .i64 R.2]) (by simp [results, Try.results26, go_sem, d1, d2]) rfl ⟨rfl, ?_⟩
  exact (bel1.setCell (p := ⟨w.heap.size + 1, 0, none⟩) (Nat.le_succ _) _).setCell (p := ⟨w.heap.size + 1, 1, none⟩) (Nat.le_succ _) _
end Go.Proofs.Ytdikjhfnmkejcab
