/- Texts laid together: Pt Tx Rf Text Ow. -/
import Derived.Test.YtcanphhmflbdmacL18
import Derived.RegionTactic
import Derived.Test.YtcanphhmflbdmacL16
import Derived.Test.YtcanphhmflbdmacL11
import Derived.Deep.RegionLaw
/- Print and Check of package render. -/
namespace Go.Proofs.Ytcanphhmflbdmac
open Go.RowKit
def By (w : World) (k : Nat) (d : Df) (ao : Option Addr) (cap : Nat) : Prop := w.heap[k]? = some (.cells #[.string d.nm, .int .i64 d.at_, .int .i64 d.e.op, .string d.e.nm, .slice ao d.e.kids.len cap] 66)
theorem By.new (w : World) (d : Df) (ao : Option Addr) (cap : Nat) : By (w.alloc (.cells #[.string d.nm, .int .i64 d.at_, .int .i64 d.e.op, .string d.e.nm, .slice ao d.e.kids.len cap] 66)) w.heap.size d ao cap := by
  unfold By; exact heap_alloc_new w _
section
variable {w w' : World} {b k : Nat} {d : Df} {ao : Option Addr} {cap : Nat}
theorem By.c0 (h : By w k d ao cap) : w.cell? ⟨k, 0, none⟩ = some (.string d.nm) := by rw [Lib.cell_of_heap h]; rfl
theorem By.c2 (h : By w k d ao cap) : w.cell? ⟨k, 2, none⟩ = some (.int .i64 d.e.op) := by rw [Lib.cell_of_heap h]; rfl
theorem By.c3 (h : By w k d ao cap) : w.cell? ⟨k, 3, none⟩ = some (.string d.e.nm) := by rw [Lib.cell_of_heap h]; rfl
theorem By.c4 (h : By w k d ao cap) : w.cell? ⟨k, 4, none⟩ = some (.slice ao d.e.kids.len cap) := by rw [Lib.cell_of_heap h]; rfl
theorem By.ot (h : By w k d ao cap) (hk : k ≠ b) (ho : Ot b w w') : By w' k d ao cap :=
  ho k _ h (by simpa using hk) (fun c fz e => by injection e with _ e2 _; cases e2)
end
theorem tex_at {ds : List Df} {k : Nat} (h : k < ds.length) : tex (ds.drop k) = bys ds[k].nm ++ [32, 61, 32] ++ ds[k].e.tx ++ [59, 10] ++ tex (ds.drop (k + 1)) := by
  show (ds.drop k).flatMap Df.tx = _
  rw [List.drop_eq_getElem_cons h, List.flatMap_cons]; rfl
theorem DsV.low {w : World} {v : Value} {ds : List Df} (h : DsV w All v ds) : DsV w (fun k => k < w.heap.size) v ds :=
  h.mono fun _ _ _ _ hc => ⟨lt_of_cell hc, hc⟩
theorem DsIn.lowB {w w' : World} {B : Nat} {f : List Df} {b o : Nat} (h : DsIn w (fun k => k < B) f b o) (hb : Below B w w') : DsIn w' (fun k => k < B) f b o :=
  h.mono (keep_cell (fun _ _ h => h) (fun k _ h => hb.block k h))
theorem Bl.new (w : World) : Bl w.heap.size w.heap.size [] (w.alloc (.cells #[.pointer none, .slice none 0 0] 124)) :=
  .inl ⟨Nat.le_refl _, .slice none 0 0, heap_alloc_new w _, World.ownsRowF_of (World.ownsRow_nil _ _ _ _), by simp [Value.ownBlock]⟩
set_option maxRecDepth 100000 in
set_option maxHeartbeats 8000000 in
theorem written_any (ds : List Df) (va : Value) (w : World) (hx : DsV w All va ds) (hlen : (tex ds).length ≤ 1000000) :
    Calls Try.prog 86 #[va] w fun e w' => e = .returned (.string ⟨(tex ds).toArray⟩) ∧ Below w.heap.size w w' := by
  obtain ⟨hl, ao, cap, rfl, hin⟩ := hx.low
  obtain ⟨W, hW⟩ : ∃ W, W = w.alloc (.cells #[.pointer none, .slice none 0 0] 124) := ⟨_, rfl⟩
  have hWz : W.heap.size = w.heap.size + 1 := by rw [hW]; simp
  have hWb : Below w.heap.size w W := by rw [hW]; exact (Below.refl _ _).alloc (Nat.le_refl _) _
  have hWl : Bl w.heap.size w.heap.size [] W := by rw [hW]; exact Bl.new _
  obtain ⟨T, hT⟩ : ∃ T, T = tex ds := ⟨_, rfl⟩
  have HT := hd hT
  rw [← hT] at hlen
  rw [← hT]
  clear hT
  go_enter Try.func86, Try.ntmps86
  go_wp2_with fail
  rw [← hW]
  have HW := hd hW
  clear hW
  go_loopw [8] (fun i wr => ∃ (k : Nat) (l' : List UInt8), k ≤ ds.length ∧ i = .int .i64 k ∧ Bl w.heap.size w.heap.size l' wr ∧ l' ++ tex (ds.drop k) = T ∧ Below w.heap.size W wr) (fun i _ => ds.length - (intOf i).toNat)
  case atStart => exact ⟨0, [], Nat.zero_le _, rfl, hWl, by rw [HT.out]; simp, Below.refl _ _⟩
  case round =>
    obtain ⟨k, l', hk, rfl, gl, hm, hb⟩ := hrel
    have hz := hb.size
    have bel : Below w.heap.size w wr := hWb.trans hb
    by_cases hlt : k < ds.length
    · obtain h0 | ⟨ba, oa, rfl, hia⟩ := hin
      · omega
      obtain ⟨an, aa, ax⟩ := (hia.lowB bel).at_ k hlt
      obtain ⟨ua, a0, a1, a2, hxa⟩ := ax.xv
      have hxa' := hxa
      obtain ⟨_, e, _, aoa', capa', rfl, _⟩ := hxa'
      simp at e; subst e
      rw [tex_at hlt] at hm
      have HLT := hd hlt
      generalize ds[k] = dk at *
      have hln := congrArg List.length hm
      simp only [List.length_append, List.length_cons, List.length_nil, bys_length] at hln
      obtain ⟨ob, hob⟩ : ∃ ob : Obj, ob = .cells #[.string dk.nm, .int .i64 dk.at_, .int .i64 dk.e.op, .string dk.e.nm, .slice aoa' dk.e.kids.len capa'] 66 := ⟨_, rfl⟩
      have ba1 : Below wr.heap.size wr (wr.alloc ob) := al1 wr ob
      have yz : By (wr.alloc ob) wr.heap.size dk aoa' capa' := by rw [hob]; exact By.new _ _ _ _
      have gz := gl.below ba1
      have bz : Below w.heap.size W (wr.alloc ob) := hb.trans (ba1.mono (by omega))
      have hxz := hxa.lowB (ba1.mono (show w.heap.size ≤ wr.heap.size by omega))
      have hsz : (wr.alloc ob).heap.size = wr.heap.size + 1 := by simp
      have hyn : wr.heap.size ≠ w.heap.size := by omega
      subst hob
      have y0 := yz.c0
      have y2 := yz.c2
      have y3 := yz.c3
      have y4 := yz.c4
      have WX := wr_any dk.e
      go_wp2_with fail
      refine (bwrite _ _ _ dk.nm _ gz (by omega) (by omega)).mono ?_
      rintro e w2 ⟨rfl, g2, b2, o2⟩
      have z2 := b2.size
      have yz := yz.ot hyn o2
      have hx2 := hxz.lowB b2
      have bz := bz.trans b2
      clear gz hxz y0 y2 y3 y4 b2 o2
      have y0 := yz.c0
      have y2 := yz.c2
      have y3 := yz.c3
      have y4 := yz.c4
      go_wp2_with fail
      have g2 : Bl w.heap.size w.heap.size (l' ++ bys dk.nm) w2 := g2
      refine (bwrite _ _ _ ⟨#[32, 61, 32]⟩ _ g2 (by show _ + 3 ≤ _; simp only [List.length_append, bys_length]; omega) (by omega)).mono ?_
      rintro e w3 ⟨rfl, g3, b3, o3⟩
      have g3 : Bl w.heap.size w.heap.size (l' ++ bys dk.nm ++ [32, 61, 32]) w3 := g3
      have z3 := b3.size
      have yz := yz.ot hyn o3
      have hx3 := hx2.lowB b3
      have bz := bz.trans b3
      clear g2 hx2 y0 y2 y3 y4 b3 o3
      have y2 := yz.c2
      have y3 := yz.c3
      have y4 := yz.c4
      go_wp2_with fail
      refine (WX _ _ _ _ _ hx3 g3 (by omega) (by simp only [List.length_append, List.length_cons, List.length_nil, bys_length]; omega)).mono ?_
      rintro e w4 ⟨rfl, g4, f4⟩
      have z4 := f4.bel.size
      have bz := bz.trans f4.bel
      go_wp2_with fail
      refine (bwrite _ _ _ ⟨#[59, 10]⟩ _ g4 (by show _ + 2 ≤ _; simp only [List.length_append, List.length_cons, List.length_nil, bys_length]; omega) (by omega)).mono ?_
      rintro e w5 ⟨rfl, g5, b5, o5⟩
      have g5 : Bl w.heap.size w.heap.size (l' ++ bys dk.nm ++ [32, 61, 32] ++ dk.e.tx ++ [59, 10]) w5 := g5
      have bz := bz.trans b5
      go_wp2_with fail
      go_roundw
      case rel => exact ⟨k + 1, _, by omega, by go_num, g5, by rw [← hm]; simp only [List.append_assoc], bz⟩
      case measure => simp [intOf]; omega
    · rw [List.drop_eq_nil_of_le (by omega)] at hm
      simp only [tex, List.flatMap_nil, List.append_nil] at hm
      subst hm
      go_wp2_with fail
      refine (bstring _ _ _ _ gl (by omega)).mono ?_
      rintro e w2 ⟨rfl, b2⟩
      go_wp2_with fail
      go_ret
      exact ⟨rfl, bel.trans b2⟩
def pstr (ds : List Df) : ByteArray := if (rflt ds).1 = 0 then ⟨(tex ds).toArray⟩ else ⟨#[]⟩
set_option maxRecDepth 100000 in
set_option maxHeartbeats 8000000 in
theorem print_any (ds : List Df) (va : Value) (w : World) (hx : DsV w All va ds) (hs : ∀ d ∈ ds, d.sh) :
    Calls Try.prog 72 #[.agg #[va]] w fun e w' => e = .returned (.tuple #[.string (pstr ds), .agg #[.int .i64 (rflt ds).1, .int .i64 (rflt ds).2]]) ∧ Below w.heap.size w w' := by
  have CD := fun w' (hb : Below w.heap.size w w') => cdefs_any ds va w' (hx.kp (Kp.of_below hb) (fun _ _ h => h)) hs
  have wb : ∀ w1 : World, Below w.heap.size w w1 → ∀ o, Below w.heap.size w (w1.alloc o) := fun w1 h o => h.trans ((al1 w1 o).mono h.size)
  by_cases hc : (cflt ds).1 = 0
  · have hcz : cflt ds = (0, 0) ∧ (tex ds).length ≤ 1000000 := by
      unfold cflt at hc ⊢
      split at hc
      · cases hc
      · split at hc
        · cases hc
        · rename_i h1 h2
          obtain ⟨h3, h4⟩ := dflt_zero hc
          have := tex_len h3
          rw [if_neg h1, if_neg h2]
          exact ⟨h4, by omega⟩
    have WT := fun w' (hb : Below w.heap.size w w') => written_any ds va w' (hx.kp (Kp.of_below hb) (fun _ _ h => h)) hcz.2
    rw [hcz.1] at CD
    have hrf : rflt ds = if 6000 < (tex ds).length then (6, -1) else (0, 0) := by unfold rflt; rw [hcz.1, if_neg (by simp)]
    have hps : pstr ds = if (rflt ds).1 = 0 then ⟨(tex ds).toArray⟩ else ⟨#[]⟩ := rfl
    generalize pstr ds = PS at *
    generalize rflt ds = RF at *
    have hsz : (⟨(tex ds).toArray⟩ : ByteArray).size = (tex ds).length := by simp [ByteArray.size]
    generalize hTT : (⟨(tex ds).toArray⟩ : ByteArray) = TT at *
    generalize (tex ds).length = n at *
    clear hTT
    obtain ⟨hl, ao, cap, rfl, hin⟩ := hx
    clear hin
    obtain ⟨W, hW⟩ : ∃ W, W = (w.alloc (.cells #[.slice ao ds.length cap] 42)).alloc (.cells #[.int .i64 0, .int .i64 0] 29) := ⟨_, rfl⟩
    have hWb : Below w.heap.size w W := by rw [hW]; exact al2 _ _ _
    have hW0 : W.cell? ⟨w.heap.size, 0, none⟩ = some (.slice ao ds.length cap) := by rw [hW]; simp
    have hW1 : W.cell? ⟨w.heap.size + 1, 0, none⟩ = some (.int .i64 0) := by rw [hW]; simp
    have hW2 : W.cell? ⟨w.heap.size + 1, 1, none⟩ = some (.int .i64 0) := by rw [hW]; simp
    have hWf : ∀ i, W.frozen? ⟨w.heap.size + 1, i, none⟩ = false := fun i => by rw [hW]; simp [go_sem]
    by_cases h6 : 6000 < n
    · rw [if_pos h6] at hrf
      subst hrf
      rw [if_neg (by simp)] at hps
      subst hps
      have h6' : (6000 : Int) < (TT.size : Int) := by omega
      go_enter Try.func72, Try.ntmps72
      go_wp2_with fail
      rw [← hW]
      refine (CD _ hWb).mono ?_
      rintro e w1 ⟨rfl, hb1⟩
      have HW := hd hW
      clear hW
      have d0 := alcell (bkeep hb1 hW0) (.cells #[.int .i64 0, .int .i64 0] 29)
      have d1 := alcell (bkeep hb1 hW1) (.cells #[.int .i64 0, .int .i64 0] 29)
      have d2 := alcell (bkeep hb1 hW2) (.cells #[.int .i64 0, .int .i64 0] 29)
      have bel1 := wb w1 (hWb.trans (hb1.mono hWb.size)) (.cells #[.int .i64 0, .int .i64 0] 29)
      have df : ∀ i, (w1.alloc (.cells #[.int .i64 0, .int .i64 0] 29)).frozen? ⟨w.heap.size + 1, i, none⟩ = false := fun i => by
        rw [World.frozen?_of_block (w := W) (a := ⟨w.heap.size + 1, i, none⟩) (((al1 w1 _).block _ (lt_of_cell (bkeep hb1 hW1))).trans (hb1.block _ (lt_of_cell hW1)))]; exact hWf i
      go_wp2_with fail
      refine (WT _ bel1).mono ?_
      rintro e w2 ⟨rfl, hb2⟩
      have e1 := bkeep hb2 d1
      have e2 := bkeep hb2 d2
      have ef : ∀ i, w2.frozen? ⟨w.heap.size + 1, i, none⟩ = false := fun i => by rw [World.frozen?_of_block (a := ⟨w.heap.size + 1, i, none⟩) (hb2.block _ (lt_of_cell d1))]; exact df i
      go_wp2_with fail
      refine bodyPost_ret (v := .tuple #[.string ⟨#[]⟩, .agg #[.int .i64 6, .int .i64 (-1)]]) (by simp [results, Try.results72, go_sem, e1, e2]) rfl ⟨rfl, ?_⟩
      exact ((bel1.trans (hb2.mono bel1.size)).setCell (p := ⟨w.heap.size + 1, 0, none⟩) (Nat.le_succ _) _).setCell (p := ⟨w.heap.size + 1, 1, none⟩) (Nat.le_succ _) _
    · rw [if_neg h6] at hrf
      subst hrf
      rw [if_pos rfl] at hps
      subst hps
      have h6' : ¬ (6000 : Int) < (PS.size : Int) := by omega
      go_enter Try.func72, Try.ntmps72
      go_wp2_with fail
      rw [← hW]
      refine (CD _ hWb).mono ?_
      rintro e w1 ⟨rfl, hb1⟩
      have HW := hd hW
      clear hW
      have d0 := alcell (bkeep hb1 hW0) (.cells #[.int .i64 0, .int .i64 0] 29)
      have d1 := alcell (bkeep hb1 hW1) (.cells #[.int .i64 0, .int .i64 0] 29)
      have d2 := alcell (bkeep hb1 hW2) (.cells #[.int .i64 0, .int .i64 0] 29)
      have bel1 := wb w1 (hWb.trans (hb1.mono hWb.size)) (.cells #[.int .i64 0, .int .i64 0] 29)
      have df : ∀ i, (w1.alloc (.cells #[.int .i64 0, .int .i64 0] 29)).frozen? ⟨w.heap.size + 1, i, none⟩ = false := fun i => by
        rw [World.frozen?_of_block (w := W) (a := ⟨w.heap.size + 1, i, none⟩) (((al1 w1 _).block _ (lt_of_cell (bkeep hb1 hW1))).trans (hb1.block _ (lt_of_cell hW1)))]; exact hWf i
      go_wp2_with fail
      refine (WT _ bel1).mono ?_
      rintro e w2 ⟨rfl, hb2⟩
      have e1 := bkeep hb2 d1
      have e2 := bkeep hb2 d2
      have ef : ∀ i, w2.frozen? ⟨w.heap.size + 1, i, none⟩ = false := fun i => by rw [World.frozen?_of_block (a := ⟨w.heap.size + 1, i, none⟩) (hb2.block _ (lt_of_cell d1))]; exact df i
      go_wp2_with fail
      refine bodyPost_ret (v := .tuple #[.string PS, .agg #[.int .i64 0, .int .i64 0]]) (by simp [results, Try.results72, go_sem, e1, e2]) rfl ⟨rfl, ?_⟩
      exact ((bel1.trans (hb2.mono bel1.size)).setCell (p := ⟨w.heap.size + 1, 0, none⟩) (Nat.le_succ _) _).setCell (p := ⟨w.heap.size + 1, 1, none⟩) (Nat.le_succ _) _
  · have hr : rflt ds = cflt ds := by unfold rflt; rw [if_pos hc]
    have hp : pstr ds = ⟨#[]⟩ := by unfold pstr; rw [hr, if_neg hc]
    rw [hp, hr]
    generalize cflt ds = R at *
    obtain ⟨hl, ao, cap, rfl, hin⟩ := hx
    obtain ⟨W, hW⟩ : ∃ W, W = (w.alloc (.cells #[.slice ao ds.length cap] 42)).alloc (.cells #[.int .i64 0, .int .i64 0] 29) := ⟨_, rfl⟩
    have hWb : Below w.heap.size w W := by rw [hW]; exact al2 _ _ _
    have hW1 : W.cell? ⟨w.heap.size + 1, 0, none⟩ = some (.int .i64 0) := by rw [hW]; simp
    have hW2 : W.cell? ⟨w.heap.size + 1, 1, none⟩ = some (.int .i64 0) := by rw [hW]; simp
    have hWf : ∀ i, W.frozen? ⟨w.heap.size + 1, i, none⟩ = false := fun i => by rw [hW]; simp [go_sem]
    have hcb : (R.1 != 0) = true := by simpa using hc
    go_enter Try.func72, Try.ntmps72
    go_wp2_with fail
    rw [← hW]
    refine (CD _ hWb).mono ?_
    rintro e w1 ⟨rfl, hb1⟩
    have HW := hd hW
    clear hW
    go_wp2_with fail
    obtain ⟨W2, hW2'⟩ : ∃ W2, W2 = w1.alloc (.cells #[.int .i64 R.1, .int .i64 R.2] 29) := ⟨_, rfl⟩
    have c0 : W2.cell? ⟨w1.heap.size, 0, none⟩ = some (.int .i64 R.1) := by rw [hW2']; simp
    have c1 : W2.cell? ⟨w1.heap.size, 1, none⟩ = some (.int .i64 R.2) := by rw [hW2']; simp
    have d1 : W2.cell? ⟨w.heap.size + 1, 0, none⟩ = some (.int .i64 0) := by rw [hW2']; exact alcell (bkeep hb1 hW1) _
    have d2 : W2.cell? ⟨w.heap.size + 1, 1, none⟩ = some (.int .i64 0) := by rw [hW2']; exact alcell (bkeep hb1 hW2) _
    have bel1 : Below w.heap.size w W2 := by rw [hW2']; exact wb w1 (hWb.trans (hb1.mono hWb.size)) _
    have df : ∀ i, W2.frozen? ⟨w.heap.size + 1, i, none⟩ = false := fun i => by
      rw [hW2', World.frozen?_of_block (w := W) (a := ⟨w.heap.size + 1, i, none⟩) (((al1 w1 _).block _ (lt_of_cell (bkeep hb1 hW1))).trans (hb1.block _ (lt_of_cell hW1)))]; exact hWf i
    rw [← hW2']
    have HW2 := hd hW2'
    clear hW2' hb1
    go_region
    all_goals
      go_wp2_with fail
      refine bodyPost_ret (v := .tuple #[.string ⟨#[]⟩, .agg #[.int .i64 R.1, .int .i64 R.2]]) (by simp [results, Try.results72, go_sem, d1, d2]) rfl ⟨rfl, ?_⟩
      have h := (bel1.setCell (p := ⟨w.heap.size + 1, 0, none⟩) (Nat.le_succ _) (.int .i64 R.1)).setCell (p := ⟨w.heap.size + 1, 1, none⟩) (Nat.le_succ _) (.int .i64 R.2)
      exact ⟨h.os, h.tape, h.output, h.size, h.block⟩
set_option maxRecDepth 100000 in
set_option maxHeartbeats 8000000 in
theorem check_any (ds : List Df) (va : Value) (w : World) (hx : DsV w All va ds) (hs : ∀ d ∈ ds, d.sh) :
    Calls Try.prog 59 #[.agg #[va]] w fun e w' => e = .returned (.agg #[.int .i64 (rflt ds).1, .int .i64 (rflt ds).2]) ∧ Below w.heap.size w w' := by
  have PR := fun w' (hb : Below w.heap.size w w') => print_any ds va w' (hx.kp (Kp.of_below hb) (fun _ _ h => h)) hs
  generalize pstr ds = PS at *
  generalize rflt ds = R at *
  obtain ⟨hl, ao, cap, rfl, hin⟩ := hx
  obtain ⟨W, hW⟩ : ∃ W, W = (w.alloc (.cells #[.slice ao ds.length cap] 42)).alloc (.cells #[.int .i64 0, .int .i64 0] 29) := ⟨_, rfl⟩
  have hWb : Below w.heap.size w W := by rw [hW]; exact al2 _ _ _
  have hW1 : W.cell? ⟨w.heap.size + 1, 0, none⟩ = some (.int .i64 0) := by rw [hW]; simp
  have hW2 : W.cell? ⟨w.heap.size + 1, 1, none⟩ = some (.int .i64 0) := by rw [hW]; simp
  have hWf : ∀ i, W.frozen? ⟨w.heap.size + 1, i, none⟩ = false := fun i => by rw [hW]; simp [go_sem]
  go_enter Try.func59, Try.ntmps59
  go_wp2_with fail
  rw [← hW]
  refine (PR _ hWb).mono ?_
  rintro e w1 ⟨rfl, hb1⟩
  have HW := hd hW
  clear hW
  have d1 := alcell (bkeep hb1 hW1) (.cells #[.int .i64 R.1, .int .i64 R.2] 29)
  have d2 := alcell (bkeep hb1 hW2) (.cells #[.int .i64 R.1, .int .i64 R.2] 29)
  have bel1 : Below w.heap.size w (w1.alloc (.cells #[.int .i64 R.1, .int .i64 R.2] 29)) := (hWb.trans (hb1.mono hWb.size)).trans ((al1 w1 _).mono (by have := hb1.size; have := hWb.size; omega))
  have df : ∀ i, (w1.alloc (.cells #[.int .i64 R.1, .int .i64 R.2] 29)).frozen? ⟨w.heap.size + 1, i, none⟩ = false := fun i => by
    rw [World.frozen?_of_block (w := W) (a := ⟨w.heap.size + 1, i, none⟩) (((al1 w1 _).block _ (lt_of_cell (bkeep hb1 hW1))).trans (hb1.block _ (lt_of_cell hW1)))]; exact hWf i
  go_wp2_with fail
  refine bodyPost_ret (v := .agg #[.int .i64 R.1, .int .i64 R.2]) (by simp [results, Try.results59, go_sem, d1, d2]) rfl ⟨rfl, ?_⟩
  exact (bel1.setCell (p := ⟨w.heap.size + 1, 0, none⟩) (Nat.le_succ _) _).setCell (p := ⟨w.heap.size + 1, 1, none⟩) (Nat.le_succ _) _
end Go.Proofs.Ytcanphhmflbdmac

/- The document's own text of definitions. -/
namespace Go.Proofs.Ytcanphhmflbdmac
open Go.RowKit
theorem et_val (x : Xp) (va : Value) (w : World) (hx : XV w All va x) (hb : x.bad = 0) (hl : x.tx.length ≤ 100000) :
    Calls Try.prog 92 #[va] w fun e w' => e = .returned (.string ⟨x.tx.toArray⟩) ∧ Below w.heap.size w w' :=
  (et_any x va w hx hb hl).mono fun _ _ ⟨_, h1, h2, _, h4⟩ => ⟨by rw [h1, bys_eq h2], h4⟩
set_option maxRecDepth 100000 in
set_option maxHeartbeats 8000000 in
theorem textOf_any (ds : List Df) (va : Value) (w : World) (hx : DsV w All va ds) (hc : ∀ d ∈ ds, d.code = 0) (hlen : (tex ds).length ≤ 100000) :
    Calls Try.prog 84 #[.agg #[va]] w fun e w' => e = .returned (.string ⟨(tex ds).toArray⟩) ∧ Below w.heap.size w w' := by
  obtain ⟨hl, ao, cap, rfl, hin⟩ := hx
  obtain ⟨W, hW⟩ : ∃ W, W = w.alloc (.cells #[.slice ao ds.length cap] 42) := ⟨_, rfl⟩
  have hWz : W.heap.size = w.heap.size + 1 := by rw [hW]; simp
  have hWb : Below w.heap.size w W := by rw [hW]; exact (Below.refl _ _).alloc (Nat.le_refl _) _
  have hWc : W.cell? ⟨w.heap.size, 0, none⟩ = some (.slice ao ds.length cap) := by rw [hW]; simp
  obtain ⟨T, hT⟩ : ∃ T, T = tex ds := ⟨_, rfl⟩
  have HT := hd hT
  have HC := hd hc
  rw [← hT] at hlen
  rw [← hT]
  clear hT hc
  go_enter Try.func84, Try.ntmps84
  go_wp2_with fail
  rw [← hW]
  have HW := hd hW
  clear hW
  go_loopw [3, 4] (fun a i wr => ∃ (k : Nat) (o : ByteArray), k ≤ ds.length ∧ i = .int .i64 k ∧ a = .string o ∧ bys o ++ tex (ds.drop k) = T ∧ Below W.heap.size W wr) (fun _ i _ => ds.length - (intOf i).toNat)
  case atStart => exact ⟨0, _, Nat.zero_le _, rfl, rfl, by rw [HT.out]; rfl, Below.refl _ _⟩
  case round =>
    obtain ⟨k, o, hk, rfl, rfl, hm, hb⟩ := hrel
    have hz := hb.size
    have bel : Below w.heap.size w wr := hWb.trans (hb.mono (by omega))
    have s0 := bkeep hb hWc
    by_cases hlt : k < ds.length
    · obtain h0 | ⟨ba, oa, rfl, hia⟩ := hin
      · omega
      have kA : ∀ b o v, All b → w.cell? ⟨b, o, none⟩ = some v → All b ∧ wr.cell? ⟨b, o, none⟩ = some v := keep_cell (fun _ _ h => h) (Kp.of_below bel).block
      obtain ⟨an, aa, ax⟩ := (hia.mono kA).at_ k hlt
      obtain ⟨ua, a0, a1, a2, hxa⟩ := ax.xv
      have hxa' := hxa
      obtain ⟨_, e, _, aoa', capa', rfl, _⟩ := hxa'
      simp at e; subst e
      rw [tex_at hlt] at hm
      have hcd := HC.out ds[k] (List.getElem_mem hlt)
      have HLT := hd hlt
      generalize ds[k] = dk at *
      have hln := congrArg List.length hm
      simp only [List.length_append, List.length_cons, List.length_nil, bys_length] at hln
      have hbd := (Df.code_zero hcd).2.2.2
      have ET := fun z : Wd wr => et_val dk.e (.agg #[.int .i64 dk.e.op, .string dk.e.nm, .slice aoa' dk.e.kids.len capa']) z.u (hxa.below z.h) hbd (by omega)
      have htb : bys (⟨dk.e.tx.toArray⟩ : ByteArray) = dk.e.tx := bys_mk _
      have hts : (⟨dk.e.tx.toArray⟩ : ByteArray).size = dk.e.tx.length := by rw [← bys_length, bys_mk]
      generalize (⟨dk.e.tx.toArray⟩ : ByteArray) = t at *
      have r0 := fun z : Wd wr => z.cell s0
      have q0 := fun z : Wd wr => z.cell an
      have q1 := fun z : Wd wr => z.cell a0
      have q2 := fun z : Wd wr => z.cell a1
      have q3 := fun z : Wd wr => z.cell a2
      have wne : Nonempty (Wd wr) := Wd.ne _
      have g1 : ¬ 9223372036854775807 < dk.nm.size + 3 := by omega
      have g2 : ¬ 9223372036854775807 < dk.nm.size + 3 + t.size := by omega
      have g3 : ¬ 9223372036854775807 < dk.nm.size + 3 + t.size + 2 := by omega
      have g4 : ¬ 9223372036854775807 < o.size + (dk.nm.size + 3 + t.size + 2) := by omega
      go_wp2_with fail
      clear s0 an a0 a1 a2 hxa hbd hcd aa
      refine region_quiet_lit (C := fun w' => ∃ z : Wd wr, w' = z.u) (by kernel_rfl) (by kernel_rfl) (Wd.drawn _) ?_
      iterate 14 (go_big_quiet_step (fail))
      go_big_quiet_step (exact calls_wd (ET _))
      iterate 4 (go_big_quiet_step (fail))
      refine wpQuiet_nil ?_
      intro _ hw'
      obtain ⟨z, hw''⟩ := hw'
      subst hw''
      have bz : Below W.heap.size W z.u := hb.trans (z.h.mono hb.size)
      go_wp2_with fail
      go_roundw
      case rel => exact ⟨k + 1, _, by omega, by go_num, rfl, by rw [← hm]; simp only [bys_app, htb, List.append_assoc]; rfl, bz⟩
      case measure => simp [intOf]; omega
    · rw [List.drop_eq_nil_of_le (by omega)] at hm
      simp only [tex, List.flatMap_nil, List.append_nil] at hm
      go_wp2_with fail
      go_ret
      exact ⟨by rw [bys_eq hm]; rfl, bel⟩
end Go.Proofs.Ytcanphhmflbdmac

/- The document's own look at definitions. -/
namespace Go.Proofs.Ytcanphhmflbdmac
open Go.RowKit
/-- A fault of the call's own, still none. -/
structure RB (w : World) (b : Nat) : Prop where
  c0 : w.cell? ⟨b, 0, none⟩ = some (.int .i64 0)
  c1 : w.cell? ⟨b, 1, none⟩ = some (.int .i64 0)
  fz : ∀ i, w.frozen? ⟨b, i, none⟩ = false
theorem RB.below {w w' : World} {b : Nat} (h : RB w b) (hb : Below w.heap.size w w') : RB w' b :=
  ⟨bkeep hb h.c0, bkeep hb h.c1, fun i => by rw [World.frozen?_of_block (w := w) (a := ⟨b, i, none⟩) (hb.block b (lt_of_cell h.c0))]; exact h.fz i⟩
theorem By.below {w w' : World} {k : Nat} {d : Df} {ao : Option Addr} {cap : Nat} (h : By w k d ao cap) (hb : Below w.heap.size w w') : By w' k d ao cap :=
  (hb.block k (lt_of_cell h.c0)).trans h
theorem Df.code_eq (d : Df) : d.code = if isNameB d.nm = true then (if 60 < d.e.pts then 6 else if 40 < d.e.dp then 5 else d.e.bad) else 2 := rfl
set_option maxRecDepth 100000 in
set_option maxHeartbeats 16000000 in
theorem rfault_any (ds : List Df) (va : Value) (w : World) (hx : DsV w All va ds) (hs : ∀ d ∈ ds, d.e.sz ≤ 3000 ∧ d.sh) :
    Calls Try.prog 67 #[.agg #[va]] w fun e w' => e = .returned (.agg #[.int .i64 (rflt ds).1, .int .i64 (rflt ds).2]) ∧ Below w.heap.size w w' := by
  have hx0 := hd hx
  obtain ⟨hl, ao, cap, rfl, hin⟩ := hx
  obtain ⟨W, hW⟩ : ∃ W, W = (w.alloc (.cells #[.slice ao ds.length cap] 42)).alloc (.cells #[.int .i64 0, .int .i64 0] 29) := ⟨_, rfl⟩
  have hWz : W.heap.size = w.heap.size + 2 := by rw [hW]; simp
  have hWb : Below w.heap.size w W := by rw [hW]; exact al2 _ _ _
  have hWc : W.cell? ⟨w.heap.size, 0, none⟩ = some (.slice ao ds.length cap) := by rw [hW]; simp
  have hWr : RB W (w.heap.size + 1) := by rw [hW]; exact ⟨by simp, by simp, fun i => by simp [go_sem]⟩
  by_cases h0 : ds.length = 0
  · have hc : rflt ds = (8, -1) := by unfold rflt cflt; simp [h0]
    rw [hc]
    have hb0 : ((ds.length : Int) == 0) = true := by rw [h0]; rfl
    have H0 := hd h0
    clear h0
    go_enter Try.func67, Try.ntmps67
    go_wp2_with fail
    rw [← hW]
    refine (rF_any _ _ _).mono ?_
    rintro e wf ⟨rfl, hbf⟩
    have rf := hWr.below hbf
    have q0 := rf.c0
    have q1 := rf.c1
    have qf := rf.fz
    go_wp2_with fail
    refine bodyPost_ret (v := .agg #[.int .i64 8, .int .i64 (-1)]) (by simp [results, Try.results67, go_sem, q0, q1]) rfl ⟨rfl, ?_⟩
    exact ((hWb.trans (hbf.mono hWb.size)).setCell (p := ⟨w.heap.size + 1, 0, none⟩) (Nat.le_succ _) _).setCell (p := ⟨w.heap.size + 1, 1, none⟩) (Nat.le_succ _) _
  have hb0 : ((ds.length : Int) == 0) = false := by rw [beq_eq_false_iff_ne]; omega
  by_cases h16 : 16 < ds.length
  · have hc : rflt ds = (6, -1) := by unfold rflt cflt; rw [if_neg h0, if_pos h16, if_pos (by simp)]
    rw [hc]
    have hb16 : decide ((16 : Int) < (ds.length : Int)) = true := by simp; omega
    have H0 := hd h0
    have H16 := hd h16
    clear h0 h16
    go_enter Try.func67, Try.ntmps67
    go_wp2_with fail
    rw [← hW]
    refine (rF_any _ _ _).mono ?_
    rintro e wf ⟨rfl, hbf⟩
    have rf := hWr.below hbf
    have q0 := rf.c0
    have q1 := rf.c1
    have qf := rf.fz
    go_wp2_with fail
    refine bodyPost_ret (v := .agg #[.int .i64 6, .int .i64 (-1)]) (by simp [results, Try.results67, go_sem, q0, q1]) rfl ⟨rfl, ?_⟩
    exact ((hWb.trans (hbf.mono hWb.size)).setCell (p := ⟨w.heap.size + 1, 0, none⟩) (Nat.le_succ _) _).setCell (p := ⟨w.heap.size + 1, 1, none⟩) (Nat.le_succ _) _
  have hb16 : decide ((16 : Int) < (ds.length : Int)) = false := by simp; omega
  have hc : cflt ds = dflt 0 ds := by unfold cflt; rw [if_neg h0, if_neg h16]
  obtain ⟨R, hR⟩ : ∃ R, R = dflt 0 ds := ⟨_, rfl⟩
  have hrf : Hid (rflt ds = if R.1 ≠ 0 then R else if 6000 < (tex ds).length then (6, -1) else (0, 0)) := hd (by unfold rflt; rw [hc, hR])
  have hz : Hid (R.1 = 0 → (∀ d ∈ ds, d.code = 0) ∧ (tex ds).length ≤ 100000) := hd (fun h => by
    rw [hR] at h
    have h3 := (dflt_zero h).1
    have := tex_len h3
    exact ⟨h3, by omega⟩)
  have HR := hd hR
  have H0 := hd h0
  have H16 := hd h16
  have HS := hd hs
  clear hR hc h0 h16 hs
  generalize rflt ds = RF at *
  go_enter Try.func67, Try.ntmps67
  go_wp2_with fail
  rw [← hW]
  have HW := hd hW
  clear hW
  go_loopw [3] (fun i wr => ∃ (k : Nat), k ≤ ds.length ∧ i = .int .i64 k ∧ dflt k (ds.drop k) = R ∧ Below W.heap.size W wr) (fun i _ => ds.length - (intOf i).toNat)
  case atStart => exact ⟨0, Nat.zero_le _, rfl, by rw [HR.out]; rfl, Below.refl _ _⟩
  case round =>
    obtain ⟨k, hk, rfl, hm, hb⟩ := hrel
    have hzz := hb.size
    have bel : Below w.heap.size w wr := hWb.trans (hb.mono (by omega))
    have s0 := bkeep hb hWc
    have rb := hWr.below hb
    by_cases hlt : k < ds.length
    · obtain h0' | ⟨ba, oa, rfl, hia⟩ := hin
      · omega
      have kA : ∀ b o v, All b → w.cell? ⟨b, o, none⟩ = some v → All b ∧ wr.cell? ⟨b, o, none⟩ = some v := keep_cell (fun _ _ h => h) (Kp.of_below bel).block
      obtain ⟨an, aa, ax⟩ := (hia.mono kA).at_ k hlt
      obtain ⟨ua, a0, a1, a2, hxa⟩ := ax.xv
      have hxa' := hxa
      obtain ⟨_, e, _, aoa', capa', rfl, _⟩ := hxa'
      simp at e; subst e
      have hda := dflt_at hlt
      rw [hm] at hda
      obtain ⟨hsz, hsd⟩ := HS.out ds[k] (List.getElem_mem hlt)
      have HLT := hd hlt
      generalize ds[k] = dk at *
      have hce := dk.code_eq
      have hp9 := dk.e.pts_sz
      have hdp := dk.e.dp_pts
      have NM := fun w => rIsName_any dk.nm w (by unfold maxLen; have := hsd.1; omega)
      have PO := fun w' hx => po_any dk.e (.agg #[.int .i64 dk.e.op, .string dk.e.nm, .slice aoa' dk.e.kids.len capa']) w' hx (by omega)
      have DO := fun w' hx h => do_any dk.e (.agg #[.int .i64 dk.e.op, .string dk.e.nm, .slice aoa' dk.e.kids.len capa']) w' hx h
      have EF := fun w' hx => ef_any dk.e (.agg #[.int .i64 dk.e.op, .string dk.e.nm, .slice aoa' dk.e.kids.len capa']) w' hx hsd.2
      have HDA := hd hda
      have HCE := hd hce
      clear hda hce hsz hsd hp9
      generalize dk.code = C at *
      generalize dk.e.bad = bad at *
      generalize dk.e.dp = dp at *
      generalize dk.e.pts = pts at *
      obtain ⟨ob, hob⟩ : ∃ ob : Obj, ob = .cells #[.string dk.nm, .int .i64 dk.at_, .int .i64 dk.e.op, .string dk.e.nm, .slice aoa' dk.e.kids.len capa'] 66 := ⟨_, rfl⟩
      have ba1 : Below wr.heap.size wr (wr.alloc ob) := al1 wr ob
      have yz : By (wr.alloc ob) wr.heap.size dk aoa' capa' := by rw [hob]; exact By.new _ _ _ _
      have rz := rb.below ba1
      have bz : Below w.heap.size w (wr.alloc ob) := bel.trans (ba1.mono bel.size)
      have hxz := hxa.below ba1
      have cz : Below W.heap.size W (wr.alloc ob) := hb.trans (ba1.mono hb.size)
      have y0 := yz.c0
      have y2 := yz.c2
      have y3 := yz.c3
      have y4 := yz.c4
      cases hN : isNameB dk.nm with
      | false =>
        have hC : C = 2 := by rw [HCE.out, hN]; rfl
        rw [hN] at NM
        have hRR : RF = (2, (k : Int)) := by rw [hrf.out, HDA.out, hC]; simp
        subst hob
        clear hN
        go_wp2_with fail
        refine (NM _).mono ?_
        rintro e wn ⟨rfl, rfl⟩
        go_wp2_with fail
        refine (rF_any _ _ _).mono ?_
        rintro e wf ⟨rfl, hbf⟩
        have rf := rz.below hbf
        have q0 := rf.c0
        have q1 := rf.c1
        have qf := rf.fz
        go_wp2_with fail
        refine bodyPost_ret (v := .agg #[.int .i64 2, .int .i64 (k : Int)]) (by simp [results, Try.results67, go_sem, q0, q1]) rfl ⟨by rw [hRR], ?_⟩
        exact ((bz.trans (hbf.mono bz.size)).setCell (p := ⟨w.heap.size + 1, 0, none⟩) (Nat.le_succ _) _).setCell (p := ⟨w.heap.size + 1, 1, none⟩) (Nat.le_succ _) _
      | true =>
      rw [hN] at NM
      have HN := hd hN
      clear hN
      by_cases h60 : 60 < pts
      · have hC : C = 6 := by rw [HCE.out, HN.out]; simp [h60]
        have hRR : RF = (6, (k : Int)) := by rw [hrf.out, HDA.out, hC]; simp
        have h60' : (60 : Int) < (pts : Int) := by omega
        subst hob
        go_wp2_with fail
        refine (NM _).mono ?_
        rintro e wn ⟨rfl, rfl⟩
        go_wp2_with fail
        refine (PO _ hxz).mono ?_
        rintro e w2 ⟨rfl, hb2⟩
        have r2 := rz.below hb2
        have b2 : Below w.heap.size w w2 := bz.trans (hb2.mono bz.size)
        go_wp2_with fail
        refine (rF_any _ _ _).mono ?_
        rintro e wf ⟨rfl, hbf⟩
        have rf := r2.below hbf
        have q0 := rf.c0
        have q1 := rf.c1
        have qf := rf.fz
        go_wp2_with fail
        refine bodyPost_ret (v := .agg #[.int .i64 6, .int .i64 (k : Int)]) (by simp [results, Try.results67, go_sem, q0, q1]) rfl ⟨by rw [hRR], ?_⟩
        exact ((b2.trans (hbf.mono b2.size)).setCell (p := ⟨w.heap.size + 1, 0, none⟩) (Nat.le_succ _) _).setCell (p := ⟨w.heap.size + 1, 1, none⟩) (Nat.le_succ _) _
      have h60' : ¬ (60 : Int) < (pts : Int) := by omega
      by_cases h40 : 40 < dp
      · have hC : C = 5 := by rw [HCE.out, HN.out]; simp [h60, h40]
        have hRR : RF = (5, (k : Int)) := by rw [hrf.out, HDA.out, hC]; simp
        have h40' : (40 : Int) < (dp : Int) := by omega
        subst hob
        go_wp2_with fail
        refine (NM _).mono ?_
        rintro e wn ⟨rfl, rfl⟩
        go_wp2_with fail
        refine (PO _ hxz).mono ?_
        rintro e w2 ⟨rfl, hb2⟩
        have r2 := rz.below hb2
        have b2 : Below w.heap.size w w2 := bz.trans (hb2.mono bz.size)
        have c2 : Below W.heap.size W w2 := cz.trans (hb2.mono cz.size)
        have y2z := yz.below hb2
        have hx2 := hxz.below hb2
        have p2 := y2z.c2
        have p3 := y2z.c3
        have p4 := y2z.c4
        go_wp2_with fail
        refine (DO _ hx2 (by omega)).mono ?_
        rintro e w3 ⟨rfl, hb3⟩
        have r3 := r2.below hb3
        have b3 : Below w.heap.size w w3 := b2.trans (hb3.mono b2.size)
        go_wp2_with fail
        refine (rF_any _ _ _).mono ?_
        rintro e wf ⟨rfl, hbf⟩
        have rf := r3.below hbf
        have q0 := rf.c0
        have q1 := rf.c1
        have qf := rf.fz
        go_wp2_with fail
        refine bodyPost_ret (v := .agg #[.int .i64 5, .int .i64 (k : Int)]) (by simp [results, Try.results67, go_sem, q0, q1]) rfl ⟨by rw [hRR], ?_⟩
        exact ((b3.trans (hbf.mono b3.size)).setCell (p := ⟨w.heap.size + 1, 0, none⟩) (Nat.le_succ _) _).setCell (p := ⟨w.heap.size + 1, 1, none⟩) (Nat.le_succ _) _
      have h40' : ¬ (40 : Int) < (dp : Int) := by omega
      have hC : C = bad := by rw [HCE.out, HN.out]; simp [h60, h40]
      by_cases hbd : bad = 0
      · subst hbd
        have hnx : dflt (k + 1) (ds.drop (k + 1)) = R := by rw [HDA.out, hC]; simp
        subst hob
        go_wp2_with fail
        refine (NM _).mono ?_
        rintro e wn ⟨rfl, rfl⟩
        go_wp2_with fail
        refine (PO _ hxz).mono ?_
        rintro e w2 ⟨rfl, hb2⟩
        have r2 := rz.below hb2
        have b2 : Below w.heap.size w w2 := bz.trans (hb2.mono bz.size)
        have c2 : Below W.heap.size W w2 := cz.trans (hb2.mono cz.size)
        have y2z := yz.below hb2
        have hx2 := hxz.below hb2
        have p2 := y2z.c2
        have p3 := y2z.c3
        have p4 := y2z.c4
        go_wp2_with fail
        refine (DO _ hx2 (by omega)).mono ?_
        rintro e w3 ⟨rfl, hb3⟩
        have r3 := r2.below hb3
        have b3 : Below w.heap.size w w3 := b2.trans (hb3.mono b2.size)
        have c3 : Below W.heap.size W w3 := c2.trans (hb3.mono c2.size)
        have y3z := y2z.below hb3
        have hx3 := hx2.below hb3
        have p2 := y3z.c2
        have p3 := y3z.c3
        have p4 := y3z.c4
        go_wp2_with fail
        refine (EF _ hx3).mono ?_
        rintro e w4 ⟨rfl, hb4⟩
        have c4 : Below W.heap.size W w4 := c3.trans (hb4.mono c3.size)
        go_wp2_with fail
        go_roundw
        case rel => exact ⟨k + 1, by omega, by go_num, hnx, c4⟩
        case measure => simp [intOf]; omega
      · have hRR : RF = (bad, (k : Int)) := by rw [hrf.out, HDA.out, hC]; simp [hbd]
        have hbb : (bad != 0) = true := by simpa using hbd
        subst hob
        go_wp2_with fail
        refine (NM _).mono ?_
        rintro e wn ⟨rfl, rfl⟩
        go_wp2_with fail
        refine (PO _ hxz).mono ?_
        rintro e w2 ⟨rfl, hb2⟩
        have r2 := rz.below hb2
        have b2 : Below w.heap.size w w2 := bz.trans (hb2.mono bz.size)
        have c2 : Below W.heap.size W w2 := cz.trans (hb2.mono cz.size)
        have y2z := yz.below hb2
        have hx2 := hxz.below hb2
        have p2 := y2z.c2
        have p3 := y2z.c3
        have p4 := y2z.c4
        go_wp2_with fail
        refine (DO _ hx2 (by omega)).mono ?_
        rintro e w3 ⟨rfl, hb3⟩
        have r3 := r2.below hb3
        have b3 : Below w.heap.size w w3 := b2.trans (hb3.mono b2.size)
        have c3 : Below W.heap.size W w3 := c2.trans (hb3.mono c2.size)
        have y3z := y2z.below hb3
        have hx3 := hx2.below hb3
        have p2 := y3z.c2
        have p3 := y3z.c3
        have p4 := y3z.c4
        go_wp2_with fail
        refine (EF _ hx3).mono ?_
        rintro e w4 ⟨rfl, hb4⟩
        have r4 := r3.below hb4
        have b4 : Below w.heap.size w w4 := b3.trans (hb4.mono b3.size)
        go_wp2_with fail
        refine (rF_any _ _ _).mono ?_
        rintro e wf ⟨rfl, hbf⟩
        have rf := r4.below hbf
        have q0 := rf.c0
        have q1 := rf.c1
        have qf := rf.fz
        go_wp2_with fail
        refine bodyPost_ret (v := .agg #[.int .i64 bad, .int .i64 (k : Int)]) (by simp [results, Try.results67, go_sem, q0, q1]) rfl ⟨by rw [hRR], ?_⟩
        exact ((b4.trans (hbf.mono b4.size)).setCell (p := ⟨w.heap.size + 1, 0, none⟩) (Nat.le_succ _) _).setCell (p := ⟨w.heap.size + 1, 1, none⟩) (Nat.le_succ _) _
    · rw [List.drop_eq_nil_of_le (by omega)] at hm
      simp only [dflt] at hm
      obtain ⟨hall, hlen⟩ := hz.out (by rw [← hm])
      have hrf' : RF = if 6000 < (tex ds).length then (6, -1) else (0, 0) := by rw [hrf.out, ← hm]; simp
      have TO := fun w' (hb : Below w.heap.size w w') => textOf_any ds (.slice ao ds.length cap) w' (hx0.out.kp (Kp.of_below hb) (fun _ _ h => h)) hall hlen
      have hts : (⟨(tex ds).toArray⟩ : ByteArray).size = (tex ds).length := by rw [← bys_length, bys_mk]
      generalize (⟨(tex ds).toArray⟩ : ByteArray) = T at *
      clear hrf hz hall
      by_cases h6 : 6000 < (tex ds).length
      · rw [if_pos h6] at hrf'
        have h6' : (6000 : Int) < (T.size : Int) := by omega
        clear hlen hts h6
        go_wp2_with fail
        refine (TO _ bel).mono ?_
        rintro e w2 ⟨rfl, hb2⟩
        have r2 := rb.below hb2
        have b2 : Below w.heap.size w w2 := bel.trans (hb2.mono bel.size)
        go_wp2_with fail
        refine (rF_any _ _ _).mono ?_
        rintro e wf ⟨rfl, hbf⟩
        have rf := r2.below hbf
        have q0 := rf.c0
        have q1 := rf.c1
        have qf := rf.fz
        go_wp2_with fail
        refine bodyPost_ret (v := .agg #[.int .i64 6, .int .i64 (-1)]) (by simp [results, Try.results67, go_sem, q0, q1]) rfl ⟨by rw [hrf'], ?_⟩
        exact ((b2.trans (hbf.mono b2.size)).setCell (p := ⟨w.heap.size + 1, 0, none⟩) (Nat.le_succ _) _).setCell (p := ⟨w.heap.size + 1, 1, none⟩) (Nat.le_succ _) _
      · rw [if_neg h6] at hrf'
        have h6' : ¬ (6000 : Int) < (T.size : Int) := by omega
        clear hlen hts h6
        go_wp2_with fail
        refine (TO _ bel).mono ?_
        rintro e w2 ⟨rfl, hb2⟩
        have r2 := rb.below hb2
        have b2 : Below w.heap.size w w2 := bel.trans (hb2.mono bel.size)
        have q0 := r2.c0
        have q1 := r2.c1
        have qf := r2.fz
        go_wp2_with fail
        refine bodyPost_ret (v := .agg #[.int .i64 0, .int .i64 0]) (by simp [results, Try.results67, go_sem, q0, q1]) rfl ⟨by rw [hrf'], ?_⟩
        exact (b2.setCell (p := ⟨w.heap.size + 1, 0, none⟩) (Nat.le_succ _) _).setCell (p := ⟨w.heap.size + 1, 1, none⟩) (Nat.le_succ _) _
end Go.Proofs.Ytcanphhmflbdmac

/- The whole text: the reader's own function. -/
namespace Go.Proofs.Ytcanphhmflbdmac
open Go.RowKit
theorem Try.infoDef : (Try.prog.info? 66).map (fun i => (i.zero, i.size, i.bytes)) = some (some (.agg #[.string ⟨#[]⟩, .int .i64 0, .int .i64 0, .string ⟨#[]⟩, .slice none 0 0]), 5, 72) := by kernel_rfl
theorem cell5_new (w : World) (v0 v1 v2 v3 v4 : Value) (t : TypeId) : ∀ j u, [v0, v1, v2, v3, v4][j]? = some u → (w.alloc (.cells #[v0, v1, v2, v3, v4] t)).cell? ((⟨w.heap.size, 0, none⟩ : Addr).add j) = some u := by
  intro j u hj
  have hh : (w.alloc (.cells #[v0, v1, v2, v3, v4] t)).heap[w.heap.size]? = some (.cells #[v0, v1, v2, v3, v4] t) := by
    show (w.heap.push _)[w.heap.size]? = _; simp
  match j, hj with
  | 0, hj => simp at hj; subst hj; simp [Addr.add]
  | 1, hj => simp at hj; subst hj; simp [Addr.add]
  | 2, hj => simp at hj; subst hj; simp [Addr.add]
  | 3, hj => simp at hj; subst hj; simp [Addr.add]
  | 4, hj => simp at hj; subst hj; simp [Addr.add]
  | n + 5, hj => simp at hj
theorem oneD (s : ByteArray) (a b : Int) (t : ByteArray) (ao : Option Addr) (n c : Nat) : ∀ u ∈ [Value.string s, Value.int .i64 a, Value.int .i64 b, Value.string t, Value.slice ao n c], u.oneCell' = true := by
  intro u hu; simp at hu; rcases hu with rfl | rfl | rfl | rfl | rfl <;> rfl
theorem owns_lit5 (w : World) (a b c d e : Value) (t : TypeId) (base : Nat) (hb : base ≤ w.heap.size) : (w.alloc (.cells #[a, b, c, d, e] t)).ownsRow base t 5 (.slice (some ⟨w.heap.size, 0, none⟩) 1 1) 1 [a, b, c, d, e] :=
  ⟨rfl, .inr ⟨w.heap.size, 1, #[a, b, c, d, e], rfl, hb, by show (w.heap.push _)[w.heap.size]? = _; simp, Nat.le_refl _, by decide, rfl, rfl⟩⟩
theorem DC_step {wr w1 w3 : World} {base g : Nat} {v v' : Value} {xs : List Value} {acc : List Df} {x : Df} {u : Value}
    (hc : DC wr (fun q => base ≤ q ∧ v.ownBlock ≠ some q) xs acc) (hu : FoV w1 (fun k => wr.heap.size ≤ k) u x.e.kids) (hbase : base ≤ wr.heap.size) (hz : w1.heap.size ≤ g)
    (k1 : Kp (fun q => base ≤ q ∧ v.ownBlock ≠ some q) wr w3) (k2 : Kp (fun k => wr.heap.size ≤ k) w1 w3) (hv : ∀ q, v.ownBlock = some q → q < wr.heap.size) (hzz : wr.heap.size ≤ w1.heap.size)
    (hat : v'.ownBlock = v.ownBlock ∨ v'.ownBlock = some g) : DC w3 (fun q => base ≤ q ∧ v'.ownBlock ≠ some q) (xs ++ [.string x.nm, .int .i64 x.at_, .int .i64 x.e.op, .string x.e.nm, u]) (acc ++ [x]) := by
  refine DC.snoc ?_ ?_
  · refine hu.kp k2 fun q hq hs => ⟨by omega, fun e => ?_⟩
    rcases hat with h | h
    · have := hv q (h ▸ e); omega
    · rw [h] at e; cases e; omega
  · refine hc.kp k1 fun q hq hs => ⟨hs.1, fun e => ?_⟩
    rcases hat with h | h
    · exact hs.2 (h ▸ e)
    · rw [h] at e; cases e; omega
section
variable {r : Nat} {ao : Option Addr} {cap : Nat} {l : List Tk} {en : Int} {p : Nat} {w : World}
def OutT (r : Nat) (ao : Option Addr) (cap : Nat) (l : List Tk) (en : Int) (w : World) (res : Res (List Df)) (e : Ending) (w' : World) : Prop :=
  match res with
  | .ok ds _ _ => ∃ v n p, e = .returned (.agg #[v]) ∧ DsV w' (fun k => w.heap.size ≤ k) v ds ∧ RdS w' r ao cap l en n p 0 ∧ But r w w'
  | .err c a => Pan r c a w e w'
  | .out => False
end
end Go.Proofs.Ytcanphhmflbdmac

/- The document's own copies of expressions. -/
namespace Go.Proofs.Ytcanphhmflbdmac
open Go.RowKit
theorem step_own {P : Program} {ops : Array Oper} {o : Oper} {a : Act} {w : World} {K : Act → World → Prop} {Q : Exit → Act → World → Prop} {E : Prop}
    (hg : o.guard = none) (s x : Operand) (t : TypeId) (hop : o.op = Op.call { callee := Callee.builtin Builtin.append, args := #[s, x], argTypes := #[t, t] })
    (base : Nat) (e : TypeId) (i : TypeInfo) (z : Value) (size bytes : Nat) (h1 : P.underlying t = some (.slice e)) (h2 : P.info? e = some i) (h3 : i.zero = some z) (h4 : i.size = size) (h5 : i.bytes = bytes) (h6 : z.cells.size = size) (h7 : 0 < size)
    (v : Value) (n : Nat) (xs : List Value) (hs : a.eval s = v) (hown : w.ownsRow base e size v n xs)
    (ad : Addr) (m c : Nat) (news : List Value) (hx : a.eval x = .slice (some ad) m c) (hn : news.length = m * size) (hc : ∀ j u, news[j]? = some u → w.cell? (ad.add j) = some u) (h1c : ∀ u ∈ news, u.oneCell' = true)
    (b1 : n + m ≤ maxLen) (b2 : (n + m) * bytes ≤ 140737488355328) (hbase : base ≤ w.heap.size)
    (hK : ∀ v' w', w'.ownsRow base e size v' (n + m) (xs ++ news) → w.grownBy w' v.ownBlock → (v'.ownBlock = v.ownBlock ∨ v'.ownBlock = some w.heap.size) → K (a.put o.dst v') w') :
    if Region.wanted o (yielded ops a.tmps) = true then Oper.wp P o a w K Q else E := by
  have hw : Region.wanted o (yielded ops a.tmps) = true := by simp [Region.wanted, hg]
  rw [if_pos hw]
  obtain ⟨v', w', hrun, r1, r2, _, r4⟩ := run_append_own_at (P := P) w base t o.type e i z size bytes h1 h2 h3 h4 h5 h6 h7 v n xs hown ad m c news hn hc h1c b1 b2 hbase
  unfold Oper.wp
  simp [execOp, hop, resolve, invoke, builtin, hs, hx, hrun, Result.andThen]
  exact hK v' w' r1 r2 r4
theorem cell3_new1 (w : World) (v0 v1 v2 : Value) (t : TypeId) : ∀ j u, [v0, v1, v2][j]? = some u → (w.alloc (.cells #[v0, v1, v2] t)).cell? ((⟨w.heap.size, 0, none⟩ : Addr).add j) = some u := by
  intro j u hj
  match j, hj with
  | 0, hj => simp at hj; subst hj; simp [Addr.add]
  | 1, hj => simp at hj; subst hj; simp [Addr.add]
  | 2, hj => simp at hj; subst hj; simp [Addr.add]
  | n + 3, hj => simp at hj
theorem Fo.snoc_at : ∀ (f : Fo) (x : Xp) (i : Nat), i < f.len → (f.snoc x).at_ i = f.at_ i
  | .nil, _, _, h => absurd h (Nat.not_lt_zero _)
  | .cons .., _, 0, _ => rfl
  | .cons _ _ _ r, x, i + 1, h => Fo.snoc_at r x i (by simpa [Fo.len] using h)
theorem Fo.snoc_last : ∀ (f : Fo) (x : Xp), (f.snoc x).at_ f.len = x
  | .nil, _ => rfl
  | .cons _ _ _ r, x => Fo.snoc_last r x
theorem Fo.sz_le : ∀ {f : Fo} {i : Nat}, i < f.len → (f.at_ i).sz ≤ f.sz
  | .nil, _, h => absurd h (Nat.not_lt_zero _)
  | .cons .., 0, _ => Nat.le_add_right _ _
  | .cons _ _ _ r, i + 1, h => Nat.le_trans (Fo.sz_le (f := r) (i := i) (by simpa [Fo.len] using h)) (Nat.le_add_left _ _)
def OwOK (x : Xp) : Prop := ∀ (va : Value) (w : World), XV w All va x → x.sz ≤ 3000 →
  Calls Try.prog 40 #[va] w fun e w' => ∃ v, e = .returned v ∧ XV w' (fun k => w.heap.size ≤ k) v x ∧ Below w.heap.size w w'
set_option maxRecDepth 100000 in
set_option maxHeartbeats 16000000 in
theorem ow_head (x : Xp) (ih : ∀ i, i < x.kids.len → OwOK (x.kids.at_ i)) : OwOK x := by
  intro va w hx hsz
  obtain ⟨i0, hi, iz0, iz1, iz2⟩ := info_parts Try.infoExpr
  obtain ⟨u, rfl, hl, ao, cap, rfl, hin⟩ := hx
  have hls := Fo.len_sz x.kids
  have hxs : x.sz = 1 + x.kids.sz := rfl
  obtain ⟨V, hV⟩ : ∃ V, V = (w.alloc (.cells #[.int .i64 x.op, .string x.nm, .slice ao x.kids.len cap] 64)).alloc (.cells #[.int .i64 0, .string ⟨#[]⟩, .slice none 0 0] 64) := ⟨_, rfl⟩
  have hVz : V.heap.size = w.heap.size + 2 := by rw [hV]; simp
  obtain ⟨W, hW⟩ : ∃ W, W = V.alloc (.cells #[.int .i64 x.op, .string x.nm, .slice none 0 0] 64) := ⟨_, rfl⟩
  have hVW : Below V.heap.size V W := by rw [hW]; exact al1 _ _
  have hWz : W.heap.size = w.heap.size + 3 := by rw [hW]; simp; omega
  have hVb : Below w.heap.size w V := by rw [hV]; exact al2 _ _ _
  have hWb : Below w.heap.size w W := hVb.trans (hVW.mono (by omega))
  have hW2 : W.cell? ⟨w.heap.size, 2, none⟩ = some (.slice ao x.kids.len cap) := bkeep hVW (by rw [hV]; simp)
  have hWr0 : W.cell? ⟨w.heap.size + 1, 0, none⟩ = some (.int .i64 0) := bkeep hVW (by rw [hV]; simp)
  have hWr1 : W.cell? ⟨w.heap.size + 1, 1, none⟩ = some (.string ⟨#[]⟩) := bkeep hVW (by rw [hV]; simp)
  have hWr2 : W.cell? ⟨w.heap.size + 1, 2, none⟩ = some (.slice none 0 0) := bkeep hVW (by rw [hV]; simp)
  have hWrf : ∀ i, W.frozen? ⟨w.heap.size + 1, i, none⟩ = false := fun i => by
    rw [World.frozen?_of_block (w := V) (a := ⟨w.heap.size + 1, i, none⟩) (hVW.block (w.heap.size + 1) (by omega)), hV]; simp [go_sem]
  have hWo : ∀ i, W.cell? ⟨w.heap.size + 2, i, none⟩ = (V.alloc (.cells #[.int .i64 x.op, .string x.nm, .slice none 0 0] 64)).cell? ⟨V.heap.size, i, none⟩ := fun i => by rw [hW, hVz]
  have hWo0 : W.cell? ⟨w.heap.size + 2, 0, none⟩ = some (.int .i64 x.op) := by rw [hWo]; simp
  have hWo1 : W.cell? ⟨w.heap.size + 2, 1, none⟩ = some (.string x.nm) := by rw [hWo]; simp
  have hWo2 : W.cell? ⟨w.heap.size + 2, 2, none⟩ = some (.slice none 0 0) := by rw [hWo]; simp
  have hWof : ∀ i, W.frozen? ⟨w.heap.size + 2, i, none⟩ = false := fun i => by rw [hW, ← hVz]; simp [go_sem]
  clear hWo
  go_enter Try.func40, Try.ntmps40
  go_wp2_with fail
  rw [← hV, ← hW]
  have HW := hd hW
  have HV := hd hV
  clear hW hV
  go_loopw [4] (fun i wr => ∃ (k : Nat) (acc : Fo) (v : Value) (xs : List Value), k ≤ x.kids.len ∧ i = .int .i64 k ∧ acc.len = k ∧ Hid (∀ j, j < k → acc.at_ j = x.kids.at_ j) ∧ wr.ownsRow (w.heap.size + 3) 64 3 v acc.len xs ∧ FoC wr (fun q => w.heap.size + 3 ≤ q ∧ v.ownBlock ≠ some q) xs acc ∧
    wr.cell? ⟨w.heap.size + 2, 0, none⟩ = some (.int .i64 x.op) ∧ wr.cell? ⟨w.heap.size + 2, 1, none⟩ = some (.string x.nm) ∧ wr.cell? ⟨w.heap.size + 2, 2, none⟩ = some v ∧ (∀ i, wr.frozen? ⟨w.heap.size + 2, i, none⟩ = false) ∧ But (w.heap.size + 2) W wr) (fun i _ => x.kids.len - (intOf i).toNat)
  case atStart => exact ⟨0, .nil, .slice none 0 0, [], Nat.zero_le _, rfl, rfl, hd (fun j hj => absurd hj (Nat.not_lt_zero _)), World.ownsRow_nil _ _ _ _, trivial, hWo0, hWo1, hWo2, hWof, But.refl _ _⟩
  case round =>
    obtain ⟨k, acc, v, xs, hk, rfl, hal, hac, hown, hfc, o0, o1, o2, hof, hbt⟩ := hrel
    have hz := hbt.size
    have bel : Below w.heap.size w wr := hWb.trans (hbt.below (by omega) (by omega))
    have s2 : wr.cell? ⟨w.heap.size, 2, none⟩ = some (.slice ao x.kids.len cap) := by rw [hbt.cell (by omega) (by omega)]; exact hW2
    by_cases hlt : k < x.kids.len
    · obtain h0 | ⟨ba, oa, rfl, hia⟩ := hin
      · omega
      have kA : ∀ b o v, All b → w.cell? ⟨b, o, none⟩ = some v → All b ∧ wr.cell? ⟨b, o, none⟩ = some v := keep_cell (fun _ _ h => h) (Kp.of_below bel).block
      obtain ⟨ua, a0, a1, a2, hxa⟩ := ((hia.mono kA).at_ k hlt).xv
      have hxa' := hxa
      obtain ⟨_, e, _, aoa', capa', rfl, _⟩ := hxa'
      simp at e; subst e
      have hks := Fo.sz_le hlt
      have IH := fun w hx => ih k hlt (.agg #[.int .i64 (x.kids.at_ k).op, .string (x.kids.at_ k).nm, .slice aoa' (x.kids.at_ k).kids.len capa']) w hx (by omega)
      have hac' : Hid (∀ y, y = x.kids.at_ k → ∀ j, j < k + 1 → (acc.snoc y).at_ j = x.kids.at_ j) := hd (fun y hy j hj => by
        by_cases e : j = k
        · rw [e, ← hal, Fo.snoc_last, hal]; exact hy
        · rw [Fo.snoc_at _ _ _ (by omega)]; exact hac.out j (by omega))
      have HLT := hd hlt
      rw [hal] at hown
      have HAL := hd hal
      clear hal
      obtain ⟨xk, hxk⟩ : ∃ xk, xk = x.kids.at_ k := ⟨_, rfl⟩
      have HXK := hd hxk
      rw [← hxk] at a0 a1 a2 hxa IH hks
      clear hxk
      have hvl : ∀ q, v.ownBlock = some q → w.heap.size + 3 ≤ q ∧ q < wr.heap.size := fun q e => hown.lt q e
      obtain ⟨aov, capv, rfl⟩ := owns_slice hown
      have drw : Below wr.heap.size wr wr.drew := ⟨rfl, rfl, rfl, Nat.le_refl _, fun _ _ => rfl⟩
      have IHd := IH wr.drew (hxa.below drw)
      have hown0 : wr.drew.ownsRow (w.heap.size + 3) 64 3 (.slice aov k capv) k xs := hown
      have bt0 : But (w.heap.size + 2) W wr.drew := hbt.drew
      have of0 : ∀ i, wr.drew.frozen? ⟨w.heap.size + 2, i, none⟩ = false := hof
      have e0 : wr.drew.cell? ⟨w.heap.size + 2, 0, none⟩ = some (.int .i64 x.op) := o0
      have e1 : wr.drew.cell? ⟨w.heap.size + 2, 1, none⟩ = some (.string x.nm) := o1
      have e2 : wr.drew.cell? ⟨w.heap.size + 2, 2, none⟩ = some (.slice aov k capv) := o2
      go_wp2_with fail
      go_region_law
        (first
          | (go_simp; go_at_call 40; refine IHd.mono ?_; rintro e w2 ⟨_, rfl, ⟨u2, rfl, hu2⟩, hb2⟩; obtain ⟨hl2, ao2, cap2, rfl, hin2⟩ := id hu2; have z2 : wr.heap.size ≤ w2.heap.size := hb2.size; have f0 := bkeep hb2 e0; have f1 := bkeep hb2 e1; have f2 := bkeep hb2 e2; have ff : ∀ i, w2.frozen? ⟨w.heap.size + 2, i, none⟩ = false := (fun i => (World.frozen?_of_block (a := ⟨w.heap.size + 2, i, none⟩) (hb2.block _ (lt_of_cell e0))).trans (of0 i)); have f2u : (w2.alloc (.cells #[.int .i64 xk.op, .string xk.nm, .slice ao2 xk.kids.len cap2] 64)).cell? ⟨w.heap.size + 2, 2, none⟩ = some (.slice aov k capv) := alcell f2 _; have own2 := owns_but hown0 (But.of_below (r := w.heap.size + 2) hb2) (by omega); have own3 : (w2.alloc (.cells #[.int .i64 xk.op, .string xk.nm, .slice ao2 xk.kids.len cap2] 64)).ownsRow (w.heap.size + 3) 64 3 (.slice aov k capv) k xs := own2.alloc _; have bt3 : But (w.heap.size + 2) W (w2.alloc (.cells #[.int .i64 xk.op, .string xk.nm, .slice ao2 xk.kids.len cap2] 64)) := (bt0.trans (But.of_below hb2)).alloc _)
          | (refine step_own rfl (.tmp 18) (.tmp 25) 62 rfl (w.heap.size + 3) 64 i0 (.agg #[.int .i64 0, .string ⟨#[]⟩, .slice none 0 0]) 3 48 Try.underlying62 hi iz0 iz1 iz2 rfl (by decide) (.slice aov k capv) k xs (by simp [Act.eval]) own3 ⟨w2.heap.size, 0, none⟩ 1 1 [.int .i64 xk.op, .string xk.nm, .slice ao2 xk.kids.len cap2] (by simp [Act.eval]) rfl (cell3_new1 w2 _ _ _ _) (oneX _ _ _ _ _) (by unfold maxLen; omega) (by omega) (by simp; omega) ?_; intro v' w4 own4 grow4 hat; have bt4 : But (w.heap.size + 2) W w4 := bt3.grown grow4 (fun q e => by have := (hvl q e).1; omega); have z4 := grow4.size; have gk : ∀ q, q < w2.heap.size → q < w.heap.size + 3 → w4.heap[q]? = w2.heap[q]? := (fun q h1 h2 => by rw [grow4.block q (by simp; omega) (fun e => by have := (hvl q e.symm).1; omega)]; exact (al1 w2 _).block q h1); have f40 : w4.cell? ⟨w.heap.size + 2, 0, none⟩ = some (.int .i64 x.op) := (World.cell?_of_block (a := ⟨w.heap.size + 2, 0, none⟩) (gk (w.heap.size + 2) (lt_of_cell f0) (by omega))).trans f0; have f41 : w4.cell? ⟨w.heap.size + 2, 1, none⟩ = some (.string x.nm) := (World.cell?_of_block (a := ⟨w.heap.size + 2, 1, none⟩) (gk (w.heap.size + 2) (lt_of_cell f0) (by omega))).trans f1; have f42 : w4.cell? ⟨w.heap.size + 2, 2, none⟩ = some (.slice aov k capv) := (World.cell?_of_block (a := ⟨w.heap.size + 2, 2, none⟩) (gk (w.heap.size + 2) (lt_of_cell f0) (by omega))).trans f2; have f4f : ∀ i, w4.frozen? ⟨w.heap.size + 2, i, none⟩ = false := (fun i => (World.frozen?_of_block (a := ⟨w.heap.size + 2, i, none⟩) (gk (w.heap.size + 2) (lt_of_cell f0) (by omega))).trans (ff i)); obtain ⟨ao4, cap4, rfl⟩ := owns_slice own4))
      all_goals
        have bt5 : But (w.heap.size + 2) W (w4.setCell ⟨w.heap.size + 2, 2, none⟩ (.slice ao4 (k + 1) cap4)) := bt4.setCell (.inl rfl) _
        have own5 := (owns_setCell (a := ⟨w.heap.size + 2, 2, none⟩) own4 (by show w.heap.size + 2 < w.heap.size + 3; omega) : (w4.setCell ⟨w.heap.size + 2, 2, none⟩ (.slice ao4 (k + 1) cap4)).ownsRow _ _ _ _ _ _)
        have z4' : w2.heap.size + 1 ≤ w4.heap.size := by simpa using z4
        have fc5 : FoC (w4.setCell ⟨w.heap.size + 2, 2, none⟩ (.slice ao4 (k + 1) cap4)) (fun q => w.heap.size + 3 ≤ q ∧ (Value.slice ao4 (k + 1) cap4).ownBlock ≠ some q) (xs ++ [.int .i64 xk.op, .string xk.nm, .slice ao2 xk.kids.len cap2]) (acc.snoc xk) := by
          refine FoC_step (w1 := w2) (g := w2.heap.size + 1) (x := xk) hfc hu2 (by omega) (by omega) ?_ ?_ (fun q e => (hvl q e).2) z2 (by simpa using hat)
          · have kk1 : Kp (fun q => w.heap.size + 3 ≤ q ∧ (Value.slice aov k capv).ownBlock ≠ some q) wr w2 := ⟨hb2.size, fun q hq _ => hb2.block q hq⟩
            exact Kp.setCell ((kk1.alloc _).grown grow4 (fun q e => .inl fun hs => hs.2 e)) (.inl fun hs => by have := hs.1; simp at this) _
          · exact Kp.setCell (((Kp.refl _ w2).alloc _).grown grow4 (fun q e => .inl fun hs => by have := (hvl q e).2; omega)) (.inl fun hs => by simp at hs; omega) _
        have p0 : (w4.setCell ⟨w.heap.size + 2, 2, none⟩ (.slice ao4 (k + 1) cap4)).cell? ⟨w.heap.size + 2, 0, none⟩ = some (.int .i64 x.op) := by rw [World.cell?_setCell_other _ _ _ _ (by simp)]; exact f40
        have p1 : (w4.setCell ⟨w.heap.size + 2, 2, none⟩ (.slice ao4 (k + 1) cap4)).cell? ⟨w.heap.size + 2, 1, none⟩ = some (.string x.nm) := by rw [World.cell?_setCell_other _ _ _ _ (by simp)]; exact f41
        have p2 : (w4.setCell ⟨w.heap.size + 2, 2, none⟩ (.slice ao4 (k + 1) cap4)).cell? ⟨w.heap.size + 2, 2, none⟩ = some (.slice ao4 (k + 1) cap4) := World.cell?_setCell_same _ _ _ f42
        have pf : ∀ i, (w4.setCell ⟨w.heap.size + 2, 2, none⟩ (.slice ao4 (k + 1) cap4)).frozen? ⟨w.heap.size + 2, i, none⟩ = false := fun i => by simp [go_sem, f4f i]
        obtain ⟨Z, hZ⟩ : ∃ Z, Z = w4.setCell ⟨w.heap.size + 2, 2, none⟩ (.slice ao4 (k + 1) cap4) := ⟨_, rfl⟩
        rw [← hZ] at bt5 own5 fc5 p0 p1 p2 pf
        rw [← hZ]
        clear hZ bt4 own4 f40 f41 f42 f4f
        go_wp2_with fail
        go_roundw
        case rel => exact ⟨k + 1, acc.snoc xk, _, _, by omega, by go_num, by rw [Fo.len_snoc, HAL.out], hd (hac'.out xk HXK.out), by rw [Fo.len_snoc, HAL.out]; exact own5, fc5, p0, p1, p2, pf, bt5⟩
        case measure => simp [intOf]; omega
    · have hke : k = x.kids.len := by omega
      have hacc : acc = x.kids := Fo.ext_at _ _ (by omega) (fun j hj => hac.out j (by omega))
      have hfv := FoV_owned (T := fun q => w.heap.size + 3 ≤ q) hown hfc (fun _ h => h.1) (fun _ h => h) (by omega)
      rw [hacc] at hfv
      obtain ⟨aov, capv, rfl⟩ := owns_slice hown
      have r0 : wr.cell? ⟨w.heap.size + 1, 0, none⟩ = some (.int .i64 0) := by rw [hbt.cell (by omega) (by omega)]; exact hWr0
      have r1 : wr.cell? ⟨w.heap.size + 1, 1, none⟩ = some (.string ⟨#[]⟩) := by rw [hbt.cell (by omega) (by omega)]; exact hWr1
      have r2 : wr.cell? ⟨w.heap.size + 1, 2, none⟩ = some (.slice none 0 0) := by rw [hbt.cell (by omega) (by omega)]; exact hWr2
      have rf : ∀ i, wr.frozen? ⟨w.heap.size + 1, i, none⟩ = false := fun i => by rw [hbt.frozen (by omega) (by omega)]; exact hWrf i
      have HKE := hd hke
      have HAC := hd hacc
      have HAL := hd hal
      clear hke hacc hal hown hfc
      go_wp2_with fail
      refine bodyPost_ret (v := .agg #[.int .i64 x.op, .string x.nm, .slice aov acc.len capv]) (by simp [results, Try.results40, go_sem, r0, r1, r2]) rfl ⟨_, rfl, ⟨_, rfl, ?_⟩, ?_⟩
      · refine hfv.kp (((Kp.refl _ wr).setCell (.inl ?_) _).setCell (.inl ?_) _ |>.setCell (.inl ?_) _) (fun q _ h => by omega) <;> simp
      · exact ((bel.setCell (p := ⟨w.heap.size + 1, 0, none⟩) (Nat.le_succ _) _).setCell (p := ⟨w.heap.size + 1, 1, none⟩) (Nat.le_succ _) _).setCell (p := ⟨w.heap.size + 1, 2, none⟩) (Nat.le_succ _) _
theorem ow_all : ∀ (f : Fo) (i : Nat), i < f.len → OwOK (f.at_ i)
  | .nil, _, h => absurd h (Nat.not_lt_zero _)
  | .cons op nm kids _, 0, _ => ow_head ⟨op, nm, kids⟩ (ow_all kids)
  | .cons _ _ _ rest, i + 1, h => ow_all rest i (by simpa [Fo.len] using h)
theorem ow_any (x : Xp) : OwOK x := ow_head x (ow_all x.kids)
end Go.Proofs.Ytcanphhmflbdmac
