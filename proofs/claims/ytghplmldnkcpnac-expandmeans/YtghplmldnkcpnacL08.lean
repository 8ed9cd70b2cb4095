/- Texts laid together: Pt Tx Rf Text Ow Ec Er Eu. -/
import Derived.Test.YtghplmldnkcpnacL07
import Derived.RegionTactic
import Derived.Test.YtghplmldnkcpnacL06
import Derived.Test.YtghplmldnkcpnacL04
import Derived.Deep.RegionLaw
import Derived.Test.YtghplmldnkcpnacL05
import Derived.Deep.CutRange
/- Print and Check of package render. -/
namespace Go.Proofs.Ytghplmldnkcpnac
open Go.RowKit
def By (w : World) (k : Nat) (d : Df) (ao : Option Addr) (cap : Nat) : Prop := w.heap[k]? = some (.cells #[.string d.nm, .int .i64 d.at_, .int .i64 d.e.op, .string d.e.nm, .slice ao d.e.kids.len cap] 66)
theorem By.new (w : World) (d : Df) (ao : Option Addr) (cap : Nat) : By (w.alloc (.cells #[.string d.nm, .int .i64 d.at_, .int .i64 d.e.op, .string d.e.nm, .slice ao d.e.kids.len cap] 66)) w.heap.size d ao cap := by
  unfold By; exact heap_alloc_new w _
section
variable {w w' : World} {b k : Nat} {d : Df} {ao : Option Addr} {cap : Nat}
theorem By.c0 (h : By w k d ao cap) : w.cell? ⟨k, 0, none⟩ = some (.string d.nm) := by rw [Lib.cell_of_heap h]; rfl
theorem By.c2 (h : By w k d ao cap) : w.cell? ⟨k, 2, none⟩ = some (.int .i64 d.e.op) := by rw [Lib.cell_of_heap h]; rfl
theorem By.c3 (h : By w k d ao cap) : w.cell? ⟨k, 3, none⟩ = some (.string d.e.nm) := by rw [Lib.cell_of_heap h]; rfl
theorem By.c4 (h : By w k d ao cap) : w.cell? ⟨k, 4, none⟩ = some (.slice ao d.e.kids.len cap) := by rw [Lib.cell_of_heap h]; rfl
theorem By.ot (h : By w k d ao cap) (hk : k ≠ b) (ho : Ot b w w') : By w' k d ao cap :=
  ho k _ h (by simpa using hk) (fun c fz e => by injection e with _ e2 _; cases e2)
end
theorem tex_at {ds : List Df} {k : Nat} (h : k < ds.length) : tex (ds.drop k) = bys ds[k].nm ++ [32, 61, 32] ++ ds[k].e.tx ++ [59, 10] ++ tex (ds.drop (k + 1)) := by
  show (ds.drop k).flatMap Df.tx = _
  rw [List.drop_eq_getElem_cons h, List.flatMap_cons]; rfl
theorem DsV.low {w : World} {v : Value} {ds : List Df} (h : DsV w All v ds) : DsV w (fun k => k < w.heap.size) v ds :=
  h.mono fun _ _ _ _ hc => ⟨lt_of_cell hc, hc⟩
theorem DsIn.lowB {w w' : World} {B : Nat} {f : List Df} {b o : Nat} (h : DsIn w (fun k => k < B) f b o) (hb : Below B w w') : DsIn w' (fun k => k < B) f b o :=
  h.mono (keep_cell (fun _ _ h => h) (fun k _ h => hb.block k h))
theorem Bl.new (w : World) : Bl w.heap.size w.heap.size [] (w.alloc (.cells #[.pointer none, .slice none 0 0] 153)) :=
  .inl ⟨Nat.le_refl _, .slice none 0 0, heap_alloc_new w _, World.ownsRowF_of (World.ownsRow_nil _ _ _ _), by simp [Value.ownBlock]⟩
set_option maxRecDepth 100000 in
set_option maxHeartbeats 8000000 in
theorem written_any (ds : List Df) (va : Value) (w : World) (hx : DsV w All va ds) (hlen : (tex ds).length ≤ 1000000) :
    Calls Try.prog 128 #[va] w fun e w' => e = .returned (.string ⟨(tex ds).toArray⟩) ∧ Below w.heap.size w w' := by
  obtain ⟨hl, ao, cap, rfl, hin⟩ := hx.low
  obtain ⟨W, hW⟩ : ∃ W, W = w.alloc (.cells #[.pointer none, .slice none 0 0] 153) := ⟨_, rfl⟩
  have hWz : W.heap.size = w.heap.size + 1 := by rw [hW]; simp
  have hWb : Below w.heap.size w W := by rw [hW]; exact (Below.refl _ _).alloc (Nat.le_refl _) _
  have hWl : Bl w.heap.size w.heap.size [] W := by rw [hW]; exact Bl.new _
  obtain ⟨T, hT⟩ : ∃ T, T = tex ds := ⟨_, rfl⟩
  have HT := hd hT
  rw [← hT] at hlen
  rw [← hT]
  clear hT
  go_enter Try.func128, Try.ntmps128
  go_wp2_with fail
  rw [← hW]
  have HW := hd hW
  clear hW
  go_loopw [8] (fun i wr => ∃ (k : Nat) (l' : List UInt8), k ≤ ds.length ∧ i = .int .i64 k ∧ Bl w.heap.size w.heap.size l' wr ∧ l' ++ tex (ds.drop k) = T ∧ Below w.heap.size W wr) (fun i _ => ds.length - (intOf i).toNat)
  case atStart => exact ⟨0, [], Nat.zero_le _, rfl, hWl, by rw [HT.out]; simp, Below.refl _ _⟩
  case round =>
    obtain ⟨k, l', hk, rfl, gl, hm, hb⟩ := hrel
    have hz := hb.size
    have bel : Below w.heap.size w wr := hWb.trans hb
    by_cases hlt : k < ds.length
    · obtain h0 | ⟨ba, oa, rfl, hia⟩ := hin
      · omega
      obtain ⟨an, aa, ax⟩ := (hia.lowB bel).at_ k hlt
      obtain ⟨ua, a0, a1, a2, hxa⟩ := ax.xv
      have hxa' := hxa
      obtain ⟨_, e, _, aoa', capa', rfl, _⟩ := hxa'
      simp at e; subst e
      rw [tex_at hlt] at hm
      have HLT := hd hlt
      generalize ds[k] = dk at *
      have hln := congrArg List.length hm
      simp only [List.length_append, List.length_cons, List.length_nil, bys_length] at hln
      obtain ⟨ob, hob⟩ : ∃ ob : Obj, ob = .cells #[.string dk.nm, .int .i64 dk.at_, .int .i64 dk.e.op, .string dk.e.nm, .slice aoa' dk.e.kids.len capa'] 66 := ⟨_, rfl⟩
      have ba1 : Below wr.heap.size wr (wr.alloc ob) := al1 wr ob
      have yz : By (wr.alloc ob) wr.heap.size dk aoa' capa' := by rw [hob]; exact By.new _ _ _ _
      have gz := gl.below ba1
      have bz : Below w.heap.size W (wr.alloc ob) := hb.trans (ba1.mono (by omega))
      have hxz := hxa.lowB (ba1.mono (show w.heap.size ≤ wr.heap.size by omega))
      have hsz : (wr.alloc ob).heap.size = wr.heap.size + 1 := by simp
      have hyn : wr.heap.size ≠ w.heap.size := by omega
      subst hob
      have y0 := yz.c0
      have y2 := yz.c2
      have y3 := yz.c3
      have y4 := yz.c4
      have WX := wr_any dk.e
      go_wp2_with fail
      refine (bwrite _ _ _ dk.nm _ gz (by omega) (by omega)).mono ?_
      rintro e w2 ⟨rfl, g2, b2, o2⟩
      have z2 := b2.size
      have yz := yz.ot hyn o2
      have hx2 := hxz.lowB b2
      have bz := bz.trans b2
      clear gz hxz y0 y2 y3 y4 b2 o2
      have y0 := yz.c0
      have y2 := yz.c2
      have y3 := yz.c3
      have y4 := yz.c4
      go_wp2_with fail
      have g2 : Bl w.heap.size w.heap.size (l' ++ bys dk.nm) w2 := g2
      refine (bwrite _ _ _ ⟨#[32, 61, 32]⟩ _ g2 (by show _ + 3 ≤ _; simp only [List.length_append, bys_length]; omega) (by omega)).mono ?_
      rintro e w3 ⟨rfl, g3, b3, o3⟩
      have g3 : Bl w.heap.size w.heap.size (l' ++ bys dk.nm ++ [32, 61, 32]) w3 := g3
      have z3 := b3.size
      have yz := yz.ot hyn o3
      have hx3 := hx2.lowB b3
      have bz := bz.trans b3
      clear g2 hx2 y0 y2 y3 y4 b3 o3
      have y2 := yz.c2
      have y3 := yz.c3
      have y4 := yz.c4
      go_wp2_with fail
      refine (WX _ _ _ _ _ hx3 g3 (by omega) (by simp only [List.length_append, List.length_cons, List.length_nil, bys_length]; omega)).mono ?_
      rintro e w4 ⟨rfl, g4, f4⟩
      have z4 := f4.bel.size
      have bz := bz.trans f4.bel
      go_wp2_with fail
      refine (bwrite _ _ _ ⟨#[59, 10]⟩ _ g4 (by show _ + 2 ≤ _; simp only [List.length_append, List.length_cons, List.length_nil, bys_length]; omega) (by omega)).mono ?_
      rintro e w5 ⟨rfl, g5, b5, o5⟩
      have g5 : Bl w.heap.size w.heap.size (l' ++ bys dk.nm ++ [32, 61, 32] ++ dk.e.tx ++ [59, 10]) w5 := g5
      have bz := bz.trans b5
      go_wp2_with fail
      go_roundw
      case rel => exact ⟨k + 1, _, by omega, by go_num, g5, by rw [← hm]; simp only [List.append_assoc], bz⟩
      case measure => simp [intOf]; omega
    · rw [List.drop_eq_nil_of_le (by omega)] at hm
      simp only [tex, List.flatMap_nil, List.append_nil] at hm
      subst hm
      go_wp2_with fail
      refine (bstring _ _ _ _ gl (by omega)).mono ?_
      rintro e w2 ⟨rfl, b2⟩
      go_wp2_with fail
      go_ret
      exact ⟨rfl, bel.trans b2⟩
def pstr (ds : List Df) : ByteArray := if (rflt ds).1 = 0 then ⟨(tex ds).toArray⟩ else ⟨#[]⟩
set_option maxRecDepth 100000 in
set_option maxHeartbeats 8000000 in
theorem print_any (ds : List Df) (va : Value) (w : World) (hx : DsV w All va ds) (hs : ∀ d ∈ ds, d.sh) :
    Calls Try.prog 111 #[.agg #[va]] w fun e w' => e = .returned (.tuple #[.string (pstr ds), .agg #[.int .i64 (rflt ds).1, .int .i64 (rflt ds).2]]) ∧ Below w.heap.size w w' := by
  have CD := fun w' (hb : Below w.heap.size w w') => cdefs_any ds va w' (hx.kp (Kp.of_below hb) (fun _ _ h => h)) hs
  have wb : ∀ w1 : World, Below w.heap.size w w1 → ∀ o, Below w.heap.size w (w1.alloc o) := fun w1 h o => h.trans ((al1 w1 o).mono h.size)
  by_cases hc : (cflt ds).1 = 0
  · have hcz : cflt ds = (0, 0) ∧ (tex ds).length ≤ 1000000 := by
      unfold cflt at hc ⊢
      split at hc
      · cases hc
      · split at hc
        · cases hc
        · rename_i h1 h2
          obtain ⟨h3, h4⟩ := dflt_zero hc
          have := tex_len h3
          rw [if_neg h1, if_neg h2]
          exact ⟨h4, by omega⟩
    have WT := fun w' (hb : Below w.heap.size w w') => written_any ds va w' (hx.kp (Kp.of_below hb) (fun _ _ h => h)) hcz.2
    rw [hcz.1] at CD
    have hrf : rflt ds = if 6000 < (tex ds).length then (6, -1) else (0, 0) := by unfold rflt; rw [hcz.1, if_neg (by simp)]
    have hps : pstr ds = if (rflt ds).1 = 0 then ⟨(tex ds).toArray⟩ else ⟨#[]⟩ := rfl
    generalize pstr ds = PS at *
    generalize rflt ds = RF at *
    have hsz : (⟨(tex ds).toArray⟩ : ByteArray).size = (tex ds).length := by simp [ByteArray.size]
    generalize hTT : (⟨(tex ds).toArray⟩ : ByteArray) = TT at *
    generalize (tex ds).length = n at *
    clear hTT
    obtain ⟨hl, ao, cap, rfl, hin⟩ := hx
    clear hin
    obtain ⟨W, hW⟩ : ∃ W, W = (w.alloc (.cells #[.slice ao ds.length cap] 42)).alloc (.cells #[.int .i64 0, .int .i64 0] 29) := ⟨_, rfl⟩
    have hWb : Below w.heap.size w W := by rw [hW]; exact al2 _ _ _
    have hW0 : W.cell? ⟨w.heap.size, 0, none⟩ = some (.slice ao ds.length cap) := by rw [hW]; simp
    have hW1 : W.cell? ⟨w.heap.size + 1, 0, none⟩ = some (.int .i64 0) := by rw [hW]; simp
    have hW2 : W.cell? ⟨w.heap.size + 1, 1, none⟩ = some (.int .i64 0) := by rw [hW]; simp
    have hWf : ∀ i, W.frozen? ⟨w.heap.size + 1, i, none⟩ = false := fun i => by rw [hW]; simp [go_sem]
    by_cases h6 : 6000 < n
    · rw [if_pos h6] at hrf
      subst hrf
      rw [if_neg (by simp)] at hps
      subst hps
      have h6' : (6000 : Int) < (TT.size : Int) := by omega
      go_enter Try.func111, Try.ntmps111
      go_wp2_with fail
      rw [← hW]
      refine (CD _ hWb).mono ?_
      rintro e w1 ⟨rfl, hb1⟩
      have HW := hd hW
      clear hW
      have d0 := alcell (bkeep hb1 hW0) (.cells #[.int .i64 0, .int .i64 0] 29)
      have d1 := alcell (bkeep hb1 hW1) (.cells #[.int .i64 0, .int .i64 0] 29)
      have d2 := alcell (bkeep hb1 hW2) (.cells #[.int .i64 0, .int .i64 0] 29)
      have bel1 := wb w1 (hWb.trans (hb1.mono hWb.size)) (.cells #[.int .i64 0, .int .i64 0] 29)
      have df : ∀ i, (w1.alloc (.cells #[.int .i64 0, .int .i64 0] 29)).frozen? ⟨w.heap.size + 1, i, none⟩ = false := fun i => by
        rw [World.frozen?_of_block (w := W) (a := ⟨w.heap.size + 1, i, none⟩) (((al1 w1 _).block _ (lt_of_cell (bkeep hb1 hW1))).trans (hb1.block _ (lt_of_cell hW1)))]; exact hWf i
      go_wp2_with fail
      refine (WT _ bel1).mono ?_
      rintro e w2 ⟨rfl, hb2⟩
      have e1 := bkeep hb2 d1
      have e2 := bkeep hb2 d2
      have ef : ∀ i, w2.frozen? ⟨w.heap.size + 1, i, none⟩ = false := fun i => by rw [World.frozen?_of_block (a := ⟨w.heap.size + 1, i, none⟩) (hb2.block _ (lt_of_cell d1))]; exact df i
      go_wp2_with fail
      refine bodyPost_ret (v := .tuple #[.string ⟨#[]⟩, .agg #[.int .i64 6, .int .i64 (-1)]]) (by simp [results, Try.results111, go_sem, e1, e2]) rfl ⟨rfl, ?_⟩
      exact ((bel1.trans (hb2.mono bel1.size)).setCell (p := ⟨w.heap.size + 1, 0, none⟩) (Nat.le_succ _) _).setCell (p := ⟨w.heap.size + 1, 1, none⟩) (Nat.le_succ _) _
    · rw [if_neg h6] at hrf
      subst hrf
      rw [if_pos rfl] at hps
      subst hps
      have h6' : ¬ (6000 : Int) < (PS.size : Int) := by omega
      go_enter Try.func111, Try.ntmps111
      go_wp2_with fail
      rw [← hW]
      refine (CD _ hWb).mono ?_
      rintro e w1 ⟨rfl, hb1⟩
      have HW := hd hW
      clear hW
      have d0 := alcell (bkeep hb1 hW0) (.cells #[.int .i64 0, .int .i64 0] 29)
      have d1 := alcell (bkeep hb1 hW1) (.cells #[.int .i64 0, .int .i64 0] 29)
      have d2 := alcell (bkeep hb1 hW2) (.cells #[.int .i64 0, .int .i64 0] 29)
      have bel1 := wb w1 (hWb.trans (hb1.mono hWb.size)) (.cells #[.int .i64 0, .int .i64 0] 29)
      have df : ∀ i, (w1.alloc (.cells #[.int .i64 0, .int .i64 0] 29)).frozen? ⟨w.heap.size + 1, i, none⟩ = false := fun i => by
        rw [World.frozen?_of_block (w := W) (a := ⟨w.heap.size + 1, i, none⟩) (((al1 w1 _).block _ (lt_of_cell (bkeep hb1 hW1))).trans (hb1.block _ (lt_of_cell hW1)))]; exact hWf i
      go_wp2_with fail
      refine (WT _ bel1).mono ?_
      rintro e w2 ⟨rfl, hb2⟩
      have e1 := bkeep hb2 d1
      have e2 := bkeep hb2 d2
      have ef : ∀ i, w2.frozen? ⟨w.heap.size + 1, i, none⟩ = false := fun i => by rw [World.frozen?_of_block (a := ⟨w.heap.size + 1, i, none⟩) (hb2.block _ (lt_of_cell d1))]; exact df i
      go_wp2_with fail
      refine bodyPost_ret (v := .tuple #[.string PS, .agg #[.int .i64 0, .int .i64 0]]) (by simp [results, Try.results111, go_sem, e1, e2]) rfl ⟨rfl, ?_⟩
      exact ((bel1.trans (hb2.mono bel1.size)).setCell (p := ⟨w.heap.size + 1, 0, none⟩) (Nat.le_succ _) _).setCell (p := ⟨w.heap.size + 1, 1, none⟩) (Nat.le_succ _) _
  · have hr : rflt ds = cflt ds := by unfold rflt; rw [if_pos hc]
    have hp : pstr ds = ⟨#[]⟩ := by unfold pstr; rw [hr, if_neg hc]
    rw [hp, hr]
    generalize cflt ds = R at *
    obtain ⟨hl, ao, cap, rfl, hin⟩ := hx
    obtain ⟨W, hW⟩ : ∃ W, W = (w.alloc (.cells #[.slice ao ds.length cap] 42)).alloc (.cells #[.int .i64 0, .int .i64 0] 29) := ⟨_, rfl⟩
    have hWb : Below w.heap.size w W := by rw [hW]; exact al2 _ _ _
    have hW1 : W.cell? ⟨w.heap.size + 1, 0, none⟩ = some (.int .i64 0) := by rw [hW]; simp
    have hW2 : W.cell? ⟨w.heap.size + 1, 1, none⟩ = some (.int .i64 0) := by rw [hW]; simp
    have hWf : ∀ i, W.frozen? ⟨w.heap.size + 1, i, none⟩ = false := fun i => by rw [hW]; simp [go_sem]
    have hcb : (R.1 != 0) = true := by simpa using hc
    go_enter Try.func111, Try.ntmps111
    go_wp2_with fail
    rw [← hW]
    refine (CD _ hWb).mono ?_
    rintro e w1 ⟨rfl, hb1⟩
    have HW := hd hW
    clear hW
    go_wp2_with fail
    obtain ⟨W2, hW2'⟩ : ∃ W2, W2 = w1.alloc (.cells #[.int .i64 R.1, .int .i64 R.2] 29) := ⟨_, rfl⟩
    have c0 : W2.cell? ⟨w1.heap.size, 0, none⟩ = some (.int .i64 R.1) := by rw [hW2']; simp
    have c1 : W2.cell? ⟨w1.heap.size, 1, none⟩ = some (.int .i64 R.2) := by rw [hW2']; simp
    have d1 : W2.cell? ⟨w.heap.size + 1, 0, none⟩ = some (.int .i64 0) := by rw [hW2']; exact alcell (bkeep hb1 hW1) _
    have d2 : W2.cell? ⟨w.heap.size + 1, 1, none⟩ = some (.int .i64 0) := by rw [hW2']; exact alcell (bkeep hb1 hW2) _
    have bel1 : Below w.heap.size w W2 := by rw [hW2']; exact wb w1 (hWb.trans (hb1.mono hWb.size)) _
    have df : ∀ i, W2.frozen? ⟨w.heap.size + 1, i, none⟩ = false := fun i => by
      rw [hW2', World.frozen?_of_block (w := W) (a := ⟨w.heap.size + 1, i, none⟩) (((al1 w1 _).block _ (lt_of_cell (bkeep hb1 hW1))).trans (hb1.block _ (lt_of_cell hW1)))]; exact hWf i
    rw [← hW2']
    have HW2 := hd hW2'
    clear hW2' hb1
    go_region
    all_goals
      go_wp2_with fail
      refine bodyPost_ret (v := .tuple #[.string ⟨#[]⟩, .agg #[.int .i64 R.1, .int .i64 R.2]]) (by simp [results, Try.results111, go_sem, d1, d2]) rfl ⟨rfl, ?_⟩
      have h := (bel1.setCell (p := ⟨w.heap.size + 1, 0, none⟩) (Nat.le_succ _) (.int .i64 R.1)).setCell (p := ⟨w.heap.size + 1, 1, none⟩) (Nat.le_succ _) (.int .i64 R.2)
      exact ⟨h.os, h.tape, h.output, h.size, h.block⟩
set_option maxRecDepth 100000 in
set_option maxHeartbeats 8000000 in
theorem check_any (ds : List Df) (va : Value) (w : World) (hx : DsV w All va ds) (hs : ∀ d ∈ ds, d.sh) :
    Calls Try.prog 89 #[.agg #[va]] w fun e w' => e = .returned (.agg #[.int .i64 (rflt ds).1, .int .i64 (rflt ds).2]) ∧ Below w.heap.size w w' := by
  have PR := fun w' (hb : Below w.heap.size w w') => print_any ds va w' (hx.kp (Kp.of_below hb) (fun _ _ h => h)) hs
  generalize pstr ds = PS at *
  generalize rflt ds = R at *
  obtain ⟨hl, ao, cap, rfl, hin⟩ := hx
  obtain ⟨W, hW⟩ : ∃ W, W = (w.alloc (.cells #[.slice ao ds.length cap] 42)).alloc (.cells #[.int .i64 0, .int .i64 0] 29) := ⟨_, rfl⟩
  have hWb : Below w.heap.size w W := by rw [hW]; exact al2 _ _ _
  have hW1 : W.cell? ⟨w.heap.size + 1, 0, none⟩ = some (.int .i64 0) := by rw [hW]; simp
  have hW2 : W.cell? ⟨w.heap.size + 1, 1, none⟩ = some (.int .i64 0) := by rw [hW]; simp
  have hWf : ∀ i, W.frozen? ⟨w.heap.size + 1, i, none⟩ = false := fun i => by rw [hW]; simp [go_sem]
  go_enter Try.func89, Try.ntmps89
  go_wp2_with fail
  rw [← hW]
  refine (PR _ hWb).mono ?_
  rintro e w1 ⟨rfl, hb1⟩
  have HW := hd hW
  clear hW
  have d1 := alcell (bkeep hb1 hW1) (.cells #[.int .i64 R.1, .int .i64 R.2] 29)
  have d2 := alcell (bkeep hb1 hW2) (.cells #[.int .i64 R.1, .int .i64 R.2] 29)
  have bel1 : Below w.heap.size w (w1.alloc (.cells #[.int .i64 R.1, .int .i64 R.2] 29)) := (hWb.trans (hb1.mono hWb.size)).trans ((al1 w1 _).mono (by have := hb1.size; have := hWb.size; omega))
  have df : ∀ i, (w1.alloc (.cells #[.int .i64 R.1, .int .i64 R.2] 29)).frozen? ⟨w.heap.size + 1, i, none⟩ = false := fun i => by
    rw [World.frozen?_of_block (w := W) (a := ⟨w.heap.size + 1, i, none⟩) (((al1 w1 _).block _ (lt_of_cell (bkeep hb1 hW1))).trans (hb1.block _ (lt_of_cell hW1)))]; exact hWf i
  go_wp2_with fail
  refine bodyPost_ret (v := .agg #[.int .i64 R.1, .int .i64 R.2]) (by simp [results, Try.results89, go_sem, d1, d2]) rfl ⟨rfl, ?_⟩
  exact (bel1.setCell (p := ⟨w.heap.size + 1, 0, none⟩) (Nat.le_succ _) _).setCell (p := ⟨w.heap.size + 1, 1, none⟩) (Nat.le_succ _) _
end Go.Proofs.Ytghplmldnkcpnac

/- The document's own text of definitions. -/
namespace Go.Proofs.Ytghplmldnkcpnac
open Go.RowKit
end Go.Proofs.Ytghplmldnkcpnac

/- The document's own look at definitions. -/
namespace Go.Proofs.Ytghplmldnkcpnac
open Go.RowKit
/-- A fault of the call's own, still none. -/
structure RB (w : World) (b : Nat) : Prop where
  c0 : w.cell? ⟨b, 0, none⟩ = some (.int .i64 0)
  c1 : w.cell? ⟨b, 1, none⟩ = some (.int .i64 0)
  fz : ∀ i, w.frozen? ⟨b, i, none⟩ = false
theorem RB.below {w w' : World} {b : Nat} (h : RB w b) (hb : Below w.heap.size w w') : RB w' b :=
  ⟨bkeep hb h.c0, bkeep hb h.c1, fun i => by rw [World.frozen?_of_block (w := w) (a := ⟨b, i, none⟩) (hb.block b (lt_of_cell h.c0))]; exact h.fz i⟩
theorem By.below {w w' : World} {k : Nat} {d : Df} {ao : Option Addr} {cap : Nat} (h : By w k d ao cap) (hb : Below w.heap.size w w') : By w' k d ao cap :=
  (hb.block k (lt_of_cell h.c0)).trans h
end Go.Proofs.Ytghplmldnkcpnac

/- The whole text: the reader's own function. -/
namespace Go.Proofs.Ytghplmldnkcpnac
open Go.RowKit
section
variable {r : Nat} {ao : Option Addr} {cap : Nat} {l : List Tk} {en : Int} {p : Nat} {w : World}
end
end Go.Proofs.Ytghplmldnkcpnac

/- The document's own copies of expressions. -/
namespace Go.Proofs.Ytghplmldnkcpnac
open Go.RowKit
theorem step_own {P : Program} {ops : Array Oper} {o : Oper} {a : Act} {w : World} {K : Act → World → Prop} {Q : Exit → Act → World → Prop} {E : Prop}
    (hg : o.guard = none) (s x : Operand) (t : TypeId) (hop : o.op = Op.call { callee := Callee.builtin Builtin.append, args := #[s, x], argTypes := #[t, t] })
    (base : Nat) (e : TypeId) (i : TypeInfo) (z : Value) (size bytes : Nat) (h1 : P.underlying t = some (.slice e)) (h2 : P.info? e = some i) (h3 : i.zero = some z) (h4 : i.size = size) (h5 : i.bytes = bytes) (h6 : z.cells.size = size) (h7 : 0 < size)
    (v : Value) (n : Nat) (xs : List Value) (hs : a.eval s = v) (hown : w.ownsRow base e size v n xs)
    (ad : Addr) (m c : Nat) (news : List Value) (hx : a.eval x = .slice (some ad) m c) (hn : news.length = m * size) (hc : ∀ j u, news[j]? = some u → w.cell? (ad.add j) = some u) (h1c : ∀ u ∈ news, u.oneCell' = true)
    (b1 : n + m ≤ maxLen) (b2 : (n + m) * bytes ≤ 140737488355328) (hbase : base ≤ w.heap.size)
    (hK : ∀ v' w', w'.ownsRow base e size v' (n + m) (xs ++ news) → w.grownBy w' v.ownBlock → (v'.ownBlock = v.ownBlock ∨ v'.ownBlock = some w.heap.size) → K (a.put o.dst v') w') :
    if Region.wanted o (yielded ops a.tmps) = true then Oper.wp P o a w K Q else E := by
  have hw : Region.wanted o (yielded ops a.tmps) = true := by simp [Region.wanted, hg]
  rw [if_pos hw]
  obtain ⟨v', w', hrun, r1, r2, _, r4⟩ := run_append_own_at (P := P) w base t o.type e i z size bytes h1 h2 h3 h4 h5 h6 h7 v n xs hown ad m c news hn hc h1c b1 b2 hbase
  unfold Oper.wp
  simp [execOp, hop, resolve, invoke, builtin, hs, hx, hrun, Result.andThen]
  exact hK v' w' r1 r2 r4
theorem Fo.sz_le : ∀ {f : Fo} {i : Nat}, i < f.len → (f.at_ i).sz ≤ f.sz
  | .nil, _, h => absurd h (Nat.not_lt_zero _)
  | .cons .., 0, _ => Nat.le_add_right _ _
  | .cons _ _ _ r, i + 1, h => Nat.le_trans (Fo.sz_le (f := r) (i := i) (by simpa [Fo.len] using h)) (Nat.le_add_left _ _)
end Go.Proofs.Ytghplmldnkcpnac

/- The program's maker: the ways of an expression, and the rules of a nonterminal. -/
namespace Go.Proofs.Ytghplmldnkcpnac
open Go.RowKit G

/-- Numbers that lie in memory, behind a slice of one's own. -/
theorem wpList_append_ints {P : Program} (w : World) {ops : Array Oper} {rest : List Oper} {o : Oper} {a : Act} {Q : Exit → Act → World → Prop} (hgd : o.guard = none) (s x : Operand) (t : TypeId)
    (ho : o.op = .call { callee := .builtin .append, args := #[s, x], argTypes := #[t, t] })
    (base : Nat) (e : TypeId) (i : TypeInfo) (ht : P.underlying t = some (.slice e)) (hi : P.info? e = some i) (hz : i.zero = some (.int .i64 0)) (hsize : i.size = 1) (hby : i.bytes = 8)
    (v : Value) (n : Nat) (xs : List Value) (hs : a.eval s = v) (hown : w.ownsRow base e 1 v n xs)
    (S : Nat → Prop) (u : Value) (l : List Int) (hx : a.eval x = u) (hu : IsV w S u l) (b1 : n + l.length ≤ 1000000) (hbase : base ≤ w.heap.size)
    (h : ∀ v' w', w'.ownsRow base e 1 v' (n + l.length) (xs ++ ints l) → w.grownBy w' v.ownBlock → (v'.ownBlock = v.ownBlock ∨ v'.ownBlock = some w.heap.size) → wpList P ops Q rest (a.put o.dst v') w') : wpList P ops Q (o :: rest) a w := by
  obtain ⟨ao, cap, rfl⟩ := hu.slice
  cases ao with
  | some ad => exact wpList_append_own_at w hgd s x t ho base e i (.int .i64 0) 1 8 ht hi hz hsize hby rfl (by decide) v n xs hs hown ad l.length cap (ints l) hx (by rw [ints_len]; omega) hu.cells (oneInts l) (by unfold maxLen; omega) (by omega) hbase (fun v' w' q1 q2 _ q4 => h v' w' q1 q2 q4)
  | none =>
    obtain ⟨_, ao', cap', e', _, h0, hl⟩ := hu
    simp at e'
    obtain ⟨rfl, rfl⟩ := e'
    have hc := h0 rfl
    subst hc
    have hl0 : l = [] := by
      rcases hl with hl | ⟨b, o, e, _⟩
      · exact List.eq_nil_of_length_eq_zero hl
      · cases e
    subst hl0
    refine wpList_append_own_none hgd s x t ho base e i 1 ht hi v n xs hs hown hx (h v w ?_ ⟨rfl, rfl, rfl, Nat.le_refl _, fun _ _ _ => rfl⟩ (.inl rfl))
    simpa [ints] using hown
theorem IsV_one (w : World) (v : Int) (t : TypeId) : IsV (w.alloc (.cells #[.int .i64 v] t)) G.All (.slice (some ⟨w.heap.size, 0, none⟩) 1 1) [v] :=
  ⟨by simp, _, 1, rfl, Nat.le_refl _, (fun h => by cases h), .inr ⟨w.heap.size, 0, rfl, trivial, fun i hi => by
    obtain rfl : i = 0 := by simpa using hi
    simp⟩⟩
theorem owns_one (w : World) (v : Int) (base : Nat) (hb : base ≤ w.heap.size) : (w.alloc (.cells #[.int .i64 v] 3)).ownsRow base 3 1 (.slice (some ⟨w.heap.size, 0, none⟩) 1 1) 1 (ints [v]) :=
  ⟨rfl, .inr ⟨w.heap.size, 1, #[.int .i64 v], rfl, hb, by show (w.heap.push _)[w.heap.size]? = _; simp, Nat.le_refl _, by decide, rfl, rfl⟩⟩
theorem Fo.bad_in : ∀ {f : Fo} {i : Nat}, f.bad = 0 → i < f.len → (f.at_ i).bad = 0
  | .nil, _, _, h => absurd h (Nat.not_lt_zero _)
  | .cons op nm kids rest, 0, hb, _ => by
    obtain ⟨h1, h2, _⟩ := Fo.bad_cons hb
    show Xp.bad ⟨op, nm, kids⟩ = 0
    unfold Xp.bad
    rw [if_neg (by simpa using h1)]; exact h2
  | .cons _ _ _ r, i + 1, hb, h => Fo.bad_in (f := r) (i := i) (Fo.bad_cons hb).2.2 (by simpa [Fo.len] using h)
theorem Xp.ways_ok {x : Xp} (hb : x.bad = 0) (hs : x.sz ≤ 3000) : ∀ i, i < x.ways.len → (x.ways.at_ i).bad = 0 ∧ (x.ways.at_ i).sz ≤ 3000 := by
  intro i hi
  unfold Xp.ways at hi ⊢
  split at hi
  · rename_i h4
    rw [if_pos h4]
    have := Fo.sz_le hi
    exact ⟨Fo.bad_in (Xp.bad_zero hb).2 hi, by unfold Xp.sz at hs; omega⟩
  · rename_i h4
    rw [if_neg h4]
    obtain rfl : i = 0 := by simpa [Fo.len] using hi
    exact ⟨hb, hs⟩
set_option maxRecDepth 100000 in
set_option maxHeartbeats 4000000 in
theorem ways_any (x : Xp) (va : Value) (w : World) (r : Nat) (S : Nat → Prop) (hx : XV w (fun k => k < r) va x) (h1 : ∀ k, k < r → S k) (h2 : ∀ k, w.heap.size ≤ k → S k) :
    Calls Try.prog 94 #[va] w fun e w' => ∃ v, e = .returned v ∧ WyV w' r S v x.ways ∧ Below w.heap.size w w' := by
  obtain ⟨u, rfl, hf⟩ := hx
  have hf' := hf
  obtain ⟨hl, ao, cap, rfl, hin⟩ := hf'
  clear hin
  unfold Xp.ways
  by_cases h4 : x.op = 4
  · rw [if_pos h4, h4]
    go_enter Try.func94, Try.ntmps94
    go_wp2_with fail
    go_ret
    exact ⟨_, rfl, WyV_fov (hf.mono fun _ _ _ hs h => ⟨hs, bkeep (G.al1 _ _) h⟩) h1, G.al1 _ _⟩
  · rw [if_neg h4]
    have h4' : (x.op == 4) = false := by simpa using h4
    have hz := h2 (w.heap.size + 1) (Nat.le_succ _)
    go_enter Try.func94, Try.ntmps94
    go_wp2_with fail
    go_ret
    refine ⟨_, rfl, ⟨by simp [Fo.len], _, 1, rfl, .inr ⟨_, 0, rfl, hz, fun i hi => ?_⟩⟩, G.al2 _ _ _⟩
    obtain rfl : i = 0 := by simpa [Fo.len] using hi
    exact ⟨by simp [Fo.at_, go_sem], by simp [Fo.at_, go_sem], .slice ao x.kids.len cap, by simp [go_sem], hf.mono fun _ _ _ hs h => ⟨hs, bkeep (G.al2 _ _ _) h⟩⟩
def SymOK (N T : List ByteArray) (x : Xp) : Prop := ∀ (r : Nat) (vn vt : Value) (s : Sp) (q : Option Nat) (X : Nat → Prop) (df : Int) (va : Value) (w : World), MkS w r vn vt N T s q X df → XV w (fun k => k < r) va x → x.bad = 0 → x.sz ≤ 3000 →
  Calls Try.prog 96 #[.pointer (some ⟨r, 0, none⟩), va] w (OutM r vn vt N T q df (x.sy N T s).2 (op1 X) w fun v w' => w'.ownsRow w.heap.size 3 1 v (x.sy N T s).1.length (ints (x.sy N T s).1))
section
variable {w w' : World} {r : Nat} {vn vt : Value} {N T : List ByteArray} {s : Sp} {q : Option Nat} {X : Nat → Prop} {df : Int}
theorem wy_cls (h : MkS w r vn vt N T s q X df) : (∀ k, k < r → k ≠ r ∧ q ≠ some k) ∧ ∀ k, w.heap.size ≤ k → k ≠ r ∧ q ≠ some k := by
  have hsz := h.st.sz
  exact ⟨fun k hk => ⟨by omega, fun e => by have := (h.st.own k e).1; omega⟩, fun k hk => ⟨by omega, fun e => by have := (h.st.own k e).2; omega⟩⟩
theorem WyV.cells {f : Fo} {S : Nat → Prop} {ao : Option Addr} {n cap : Nat} (h : WyV w r S (.slice ao n cap) f) {k : Nat} (hk : k < f.len) : ∃ b o ak ck, ao = some ⟨b, o, none⟩ ∧ w.cell? ⟨b, o + k * 3, none⟩ = some (.int .i64 (f.at_ k).op) ∧ w.cell? ⟨b, o + k * 3 + 1, none⟩ = some (.string (f.at_ k).nm) ∧ w.cell? ⟨b, o + k * 3 + 2, none⟩ = some (.slice ak (f.at_ k).kids.len ck) ∧ FoV w (fun k => k < r) (.slice ak (f.at_ k).kids.len ck) (f.at_ k).kids := by
  obtain ⟨_, ao', cap', e, h3⟩ := h
  simp at e
  obtain ⟨rfl, rfl, rfl⟩ := e
  rcases h3 with h3 | ⟨b, o, rfl, _, h4⟩
  · omega
  · obtain ⟨a0, a1, u, a2, hu⟩ := h4 k hk
    have hu' := hu
    obtain ⟨_, ak, ck, rfl, _⟩ := hu'
    exact ⟨b, o, ak, ck, rfl, a0, a1, a2, hu⟩
set_option maxRecDepth 100000 in
set_option maxHeartbeats 8000000 in
theorem putAll_of {x : Xp} (hw : ∀ i, i < x.ways.len → SymOK N T (x.ways.at_ i)) (h : MkS w r vn vt N T s q X df) {va : Value} (hx : XV w (fun k => k < r) va x) (hb : x.bad = 0) (hs : x.sz ≤ 3000) (v : Int) :
    Calls Try.prog 64 #[.pointer (some ⟨r, 0, none⟩), .int .i64 v, va] w (OutM r vn vt N T q df (x.put N T v true false s) (fun _ => X) w fun u _ => u = .tuple #[]) := by
  have hxx := hx
  obtain ⟨u, rfl, hf⟩ := hxx
  obtain ⟨hl, ao, cap, rfl, _⟩ := hf
  obtain ⟨V, hV⟩ : ∃ V, V = w.alloc (.cells #[.int .i64 x.op, .string x.nm, .slice ao x.kids.len cap] 64) := ⟨_, rfl⟩
  have hVb : Below w.heap.size w V := by rw [hV]; exact G.al1 _ _
  have hV0 := h.lw hVb
  have cls := wy_cls hV0
  have WA := ways_any x _ V r (fun k => k ≠ r ∧ q ≠ some k) (hx.mono fun _ _ _ hs h => ⟨hs, bkeep hVb h⟩) cls.1 cls.2
  have hok := Xp.ways_ok hb hs
  have hR : ((x.ways.drp 0).go N T (.ways v true false) s).2 = x.put N T v true false s := by rw [Fo.drp_zero]; rfl
  generalize x.put N T v true false s = R at *
  generalize x.ways = F at *
  go_enter Try.func64, Try.ntmps64
  go_wp2_with fail
  rw [← hV]
  have HV := hd hV
  clear hV
  refine WA.mono ?_
  rintro e w1 ⟨v1, rfl, wy1, hb1⟩
  have b1 : Below w.heap.size w w1 := bthen hVb hb1
  have h1 := h.lw b1
  obtain ⟨hFl, aoF, capF, rfl, _⟩ := id wy1
  have HR := hd hR
  clear WA hR hV0 cls
  go_wp2_with fail
  go_loopw [11] (fun i wr => ∃ (k : Nat) (s1 : Sp) (q1 : Option Nat), k ≤ F.len ∧ i = .int .i64 k ∧ MkS wr r vn vt N T s1 q1 X df ∧ Hid (((F.drp k).go N T (.ways v true false) s1).2 = R) ∧ WyV wr r (fun k => k ≠ r ∧ q1 ≠ some k) (.slice aoF F.len capF) F ∧ Fm r q w wr ∧ Own w q q1) (fun i _ => F.len - (intOf i).toNat)
  case atStart => exact ⟨0, s, q, Nat.zero_le _, rfl, h1, HR, wy1, Fm.of_below b1, .inl rfl⟩
  case round =>
    obtain ⟨k, s1, q1, hk, rfl, hm, hE, wy, hfr, how⟩ := hrel
    clear HR
    by_cases hlt : k < F.len
    · obtain ⟨b, o, ak, ck, rfl, a0, a1, a2, hfk⟩ := wy.cells hlt
      have hz := hfr.size
      have IH := fun w' hb => hw k hlt r vn vt s1 q1 X df (.agg #[.int .i64 (F.at_ k).op, .string (F.at_ k).nm, .slice ak (F.at_ k).kids.len ck]) w' (hm.lw hb) ⟨_, rfl, hfk.mono fun _ _ _ hs h => ⟨hs, bkeep hb h⟩⟩ (hok k hlt).1 (hok k hlt).2
      have hE' := hE.out
      rw [Fo.ways_at hlt hm.nb] at hE'
      have hlen := Xp.sy_len (N := N) (T := T) (F.at_ k) s1
      have hl3 := (hok k hlt).2
      have hkl := hfk.1
      generalize (F.at_ k).sy N T s1 = y at *
      obtain ⟨L, s2⟩ := y
      generalize F.at_ k = xk at *
      simp only at IH hlen
      clear hE
      cases hs2 : s2.bad with
      | true =>
        rw [wayR_bad hs2, Fo.go_bad hs2] at hE'
        simp only at hE'
        subst hE'
        go_wp2_with fail
        refine (IH _ (G.al1 _ _)).mono ?_
        rintro e w2 h2
        obtain ⟨rfl, g1, g2, g3⟩ := (h2.no hs2).pre (hfr.thenB (G.al1 _ _)) how
        go_wp2_with fail
        exact ⟨rfl, OutM_no hs2 ⟨rfl, g1, g2, g3⟩⟩
      | false =>
        have HE := hd hE'
        clear hE'
        go_wp2_with fail
        refine (IH _ (G.al1 _ _)).mono ?_
        rintro e w2 h2
        obtain ⟨v2, q2, rfl, own2, hm2, hf2, ow2⟩ := h2.yes hs2
        have hf12 : Fm r q1 wr w2 := (Fm.of_below (q := q1) (G.al1 wr _)).trans hf2 (.inl rfl)
        have ow12 : Own wr q1 q2 := (Own.refl wr q1).trans ow2 (G.al1 wr _).size
        have wy2 := wy.fr hf12 (hm.st.low hf12) ow12
        have hL : L.length ≤ 9223372036854775807 := by omega
        have iv2 : IsV w2 G.All v2 L := IsV_owned own2 hL (fun _ _ => trivial)
        have hm2' : MkS w2 r vn vt N T s2 q2 X df := hm2.weak (fun _ h => .inl h)
        by_cases hn : 160 ≤ s2.rules.length ∨ 10 < L.length
        · have hR : R = s2.gone := by
            rw [← HE.out]
            unfold wayR wayP wayA
            simp only [if_true, Bool.false_eq_true, if_false]
            rw [rule_no hn, Fo.go_bad rfl]
          have PN := mput_no hm2' (v := v) iv2 hn
          clear HE own2 iv2 hm2 hm2'
          go_wp2_with fail
          refine PN.mono ?_
          rintro e w3 h3
          obtain ⟨rfl, g1, g2, g3⟩ := h3.pre (hfr.trans hf12 how) (how.trans ow12 hz)
          go_wp2_with fail
          exact ⟨rfl, OutM_no (by rw [hR]; rfl) ⟨rfl, g1, g2, g3⟩⟩
        · have PY := mput_yes hm2' (v := v) iv2 (fun h => hn (.inl h)) (fun h => hn (.inr h))
          have HE' : Hid (((F.drp (k + 1)).go N T (.ways v true false) (s2.rule v L)).2 = R) := HE
          have hlow := fun w3 (hf : Fm r q2 w2 w3) => hm2'.st.low hf
          clear HE own2 iv2 hm2 hm2'
          go_wp2_with fail
          refine PY.mono ?_
          rintro e w3 ⟨rfl, q3, hm3, hf3, ow3⟩
          have wy3 := wy2.fr hf3 (hlow _ hf3) ow3
          go_wp2_with fail
          go_roundw
          case rel => exact ⟨k + 1, _, q3, by omega, by go_num, hm3, HE', wy3, hfr.trans (hf12.trans hf3 ow12) how, (how.trans ow12 hz).trans ow3 (by have := hf12.size; omega)⟩
          case measure => simp [intOf]; omega
    · have hE' := hE.out
      rw [Fo.ways_end (by omega)] at hE'
      simp only at hE'
      subst hE'
      clear hE
      go_wp2_with fail
      go_end0
      exact OutM_yes rfl hm hfr how
end
end Go.Proofs.Ytghplmldnkcpnac

/- The document's way from definitions to a grammar: one rule more. -/
namespace Go.Proofs.Ytghplmldnkcpnac
open Go.RowKit G

/-- What is spread: the state, and whether there was too much. -/
structure SdS (w : World) (r : Nat) (vn vt : Value) (N T : List ByteArray) (s : Sp) (q : Option Nat) (X : Nat → Prop) : Prop where
  st : StB w r vn vt N T s q X
  c4 : w.cell? ⟨r, 4, none⟩ = some (.bool s.bad)
section
variable {w w' : World} {r : Nat} {vn vt : Value} {N T : List ByteArray} {s : Sp} {q : Option Nat} {X : Nat → Prop}
theorem SdS.lw (h : SdS w r vn vt N T s q X) (hb : Below w.heap.size w w') : SdS w' r vn vt N T s q X := ⟨h.st.lw hb, bkeep hb h.c4⟩
theorem SdS.weak {Y : Nat → Prop} (h : SdS w r vn vt N T s q X) (hY : ∀ k, Y k → X k) : SdS w r vn vt N T s q Y := ⟨h.st.weak hY, h.c4⟩
theorem SdS.grow {v v' : Value} (h : SdS w r vn vt N T s q (op1 X v)) (hg : w.grownBy w' v.ownBlock) (hat : v'.ownBlock = v.ownBlock ∨ v'.ownBlock = some w.heap.size) (hv' : ∀ k, v'.ownBlock = some k → k < w'.heap.size) : SdS w' r vn vt N T s q (op1 X v') := by
  refine ⟨h.st.grow hg hat hv', ?_⟩
  rw [World.cell?_of_block (w := w) (a := ⟨r, 4, none⟩) (hg.block r h.st.sz (fun e => by have := (h.st.xo r (.inr e.symm)).1; omega))]; exact h.c4
theorem SdS.open_ {v : Value} (h : SdS w r vn vt N T s q X) (hb : Below w.heap.size w w') (hv : ∀ k, v.ownBlock = some k → w.heap.size ≤ k ∧ k < w'.heap.size) : SdS w' r vn vt N T s q (op1 X v) := ⟨h.st.open_ hb hv, bkeep hb h.c4⟩
theorem SdS.gone (h : SdS w r vn vt N T s q X) : SdS (w.setCell ⟨r, 4, none⟩ (.bool true)) r vn vt N T s.gone q X := ⟨(h.st.setOther (Nat.le_refl 4) _).of_bad, World.cell?_setCell_same _ _ _ h.c4⟩
end
end Go.Proofs.Ytghplmldnkcpnac

/- The document's way from definitions to a grammar: the rules of a nonterminal. -/
namespace Go.Proofs.Ytghplmldnkcpnac
open Go.RowKit G

section
variable {w w' : World} {r : Nat} {vn vt : Value} {N T : List ByteArray} {s : Sp} {q : Option Nat} {X : Nat → Prop}
end
end Go.Proofs.Ytghplmldnkcpnac
