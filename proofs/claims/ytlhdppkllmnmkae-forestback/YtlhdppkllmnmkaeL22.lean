/- Texts laid together: Vn Tb Tg Th Tj. -/
import Derived.Test.YtlhdppkllmnmkaeL21
import Derived.Test.YtlhdppkllmnmkaeL01
import Derived.Test.YtlhdppkllmnmkaeL03
import Derived.Test.YtlhdppkllmnmkaeL07
import Derived.Test.YtlhdppkllmnmkaeL02
/- What a forest tells: List, At. -/
namespace Go.Proofs.Ytlhdppkllmnmkae.G
open Go.RowKit Go.Maps
theorem Stays_ls (g : Gm) (W : List Int) (V : Nat) : Stays (lsP g W V) := fun _u w _v _w1 _w2 h hk hz => TfV.kp (T := fun k => w.heap.size ≤ k) h hk (fun _q _ hq => Nat.le_trans hz hq)
theorem Stays_at (g : Gm) (W : List Int) (V : Nat) (k : Int) : Stays (atP g W V k) := fun _u w _v _w1 _w2 h hk hz => TrV.kp (T := fun k => w.heap.size ≤ k) h hk (fun _q _ hq => Nat.le_trans hz hq)
theorem Stays_rk (g : Gm) (W : List Int) (V : Nat) (t : Tr) : Stays (rkP g W V t) := fun _u _w _v _w1 _w2 h _ _ => h
/-- List: its fault, its list. -/
noncomputable def lsO (g : Gm) (W : List Int) : (Int × Int) × Tf := if (chFl g W).1 ≠ 0 then (chFl g W, .nil) else if lsFl g W g.vars.toNat ≠ 0 then ((lsFl g W g.vars.toNat, -1), .nil) else ((0, 0), lstT (Trs g.rules W g.vars.toNat g.start 0 W.length))
noncomputable def atO (g : Gm) (W : List Int) (k : Int) : (Int × Int) × Tr := if (chFl g W).1 ≠ 0 then (chFl g W, ⟨0, .nil⟩) else if atFl g W g.vars.toNat k ≠ 0 then ((atFl g W g.vars.toNat k, -1), ⟨0, .nil⟩) else ((0, 0), (Trs g.rules W g.vars.toNat g.start 0 W.length).getD k.toNat ⟨0, .nil⟩)
def LsR (g : Gm) (W : List Int) (w : World) (e : Ending) (w' : World) : Prop := ∃ v, e = .returned (.tuple #[v, .agg #[.int .i64 (lsO g W).1.1, .int .i64 (lsO g W).1.2]]) ∧ TfV w' (fun k => w.heap.size ≤ k) v (lsO g W).2 ∧ Below w.heap.size w w'
def AtR (g : Gm) (W : List Int) (k : Int) (w : World) (e : Ending) (w' : World) : Prop := ∃ v, e = .returned (.tuple #[v, .agg #[.int .i64 (atO g W k).1.1, .int .i64 (atO g W k).1.2]]) ∧ TrV w' (fun k => w.heap.size ≤ k) v (atO g W k).2 ∧ Below w.heap.size w w'
theorem AskR.ls {g : Gm} {W : List Int} {w w' : World} {e : Ending} (h : AskR g W (lsP g W g.vars.toNat) (lsFl g W g.vars.toNat) (.slice none 0 0) w e w') : LsR g W w e w' := by
  obtain ⟨hb, h⟩ := h
  unfold LsR lsO
  rcases h with ⟨h1, rfl⟩ | ⟨h1, _, h2, rfl⟩ | ⟨h1, _, h2, v, rfl, h3⟩
  · rw [if_pos h1]; exact ⟨_, rfl, TfV_nil _ _, hb⟩
  · rw [if_neg (by simp [h1]), if_pos h2]; exact ⟨_, rfl, TfV_nil _ _, hb⟩
  · rw [if_neg (by simp [h1]), if_neg (by simp [h2])]; exact ⟨_, rfl, h3, hb⟩
theorem AskR.at_ {g : Gm} {W : List Int} {k : Int} {w w' : World} {e : Ending} (h : AskR g W (atP g W g.vars.toNat k) (atFl g W g.vars.toNat k) (.agg #[.int .i64 0, .slice none 0 0]) w e w') : AtR g W k w e w' := by
  obtain ⟨hb, h⟩ := h
  unfold AtR atO
  rcases h with ⟨h1, rfl⟩ | ⟨h1, _, h2, rfl⟩ | ⟨h1, _, h2, v, rfl, h3⟩
  · rw [if_pos h1]; exact ⟨_, rfl, ⟨_, rfl, TfV_nil _ _⟩, hb⟩
  · rw [if_neg (by simp [h1]), if_pos h2]; exact ⟨_, rfl, ⟨_, rfl, TfV_nil _ _⟩, hb⟩
  · rw [if_neg (by simp [h1]), if_neg (by simp [h2])]; exact ⟨_, rfl, h3, hb⟩
theorem cal_list : Cal 50 := fun args w => by go_simp
theorem cal_at1 : Cal 41 := fun args w => by go_simp
theorem cal_rank1 : Cal 46 := fun args w => by go_simp
theorem askL_any (g : Gm) (W : List Int) (va vw : Value) (w : World) (hg : GV w All va g) (hw : IsV w All vw W) : Calls Try.prog 49 #[va, vw, .func (.func 50) #[] #[]] w (LsR g W w) := by
  have h0 : Calls Try.prog 49 #[va, vw, .func (.func 50) #[] #[]] w (AskR g W (lsP g W g.vars.toNat) (lsFl g W g.vars.toNat) (.slice none 0 0) w) := by
    by_cases hc : (chFl g W).1 = 0
    · exact askL_right g W va vw _ w _ _ hg hw hc ⟨_, _, _, rfl, cal_list, fun fb cb tb rb E vR vW vg room u hG hE _ hF => list_tell hG hE hF⟩ (Stays_ls g W _)
    · exact askL_wrong g W va vw _ w _ _ hg hw hc
  exact h0.mono fun e w' h => h.ls
set_option maxRecDepth 100000 in
set_option maxHeartbeats 1000000 in
theorem forestList_any (g : Gm) (W : List Int) (va vw : Value) (w : World) (hg : GV w All va g) (hw : IsV w All vw W) : Calls Try.prog 24 #[va, vw] w (LsR g W w) := by
  obtain ⟨vg, rfl, hr⟩ := hg
  obtain ⟨ag, cg, rfl⟩ := hr.slice
  obtain ⟨Y, hY⟩ : ∃ Y, Y = (w.alloc (.cells #[.int .i64 g.vars, .int .i64 g.terms, .int .i64 g.start, .slice ag g.rules.length cg] 24)).alloc (.cells #[.int .i64 0, .int .i64 0] 30) := ⟨_, rfl⟩
  have hbY : Below w.heap.size w Y := by rw [hY]; exact al2 _ _ _
  have f0 : Y.cell? ⟨w.heap.size + 1, 0, none⟩ = some (.int .i64 0) := by rw [hY]; simp [go_sem]
  have f1 : Y.cell? ⟨w.heap.size + 1, 1, none⟩ = some (.int .i64 0) := by rw [hY]; simp [go_sem]
  have ff : ∀ i, Y.frozen? ⟨w.heap.size + 1, i, none⟩ = false := fun i => by rw [hY]; simp [go_sem]
  have zY : w.heap.size + 2 = Y.heap.size := by rw [hY]; simp
  have AL := askL_any g W _ vw Y ⟨_, rfl, hr.lw hbY⟩ (hw.lw hbY)
  unfold LsR at AL ⊢
  generalize lsO g W = O at *
  obtain ⟨⟨c, a⟩, L⟩ := O
  dsimp only at AL ⊢
  go_enter Try.func24, Try.ntmps24
  go_wp2_with fail
  rw [← hY]
  have HY := hd hY
  clear hY
  refine AL.mono ?_
  rintro e w1 ⟨v, rfl, hv, hb1⟩
  have g0 := bkeep hb1 f0
  have g1 := bkeep hb1 f1
  have gf : ∀ i, w1.frozen? ⟨w.heap.size + 1, i, none⟩ = false := fun i => by rw [hb1.frozen (p := ⟨w.heap.size + 1, i, none⟩) (lt_of_cell f0)]; exact ff i
  obtain ⟨al, cl, rfl, _⟩ := id hv.slice
  have b4 : Below w.heap.size w ((w1.setCell ⟨w.heap.size + 1, 0, none⟩ (.int .i64 c)).setCell ⟨w.heap.size + 1, 1, none⟩ (.int .i64 a)) := ((bthen hbY hb1).setCell (p := ⟨w.heap.size + 1, 0, none⟩) (by show w.heap.size ≤ w.heap.size + 1; omega) _).setCell (p := ⟨w.heap.size + 1, 1, none⟩) (by show w.heap.size ≤ w.heap.size + 1; omega) _
  have hfv : TfV ((w1.setCell ⟨w.heap.size + 1, 0, none⟩ (.int .i64 c)).setCell ⟨w.heap.size + 1, 1, none⟩ (.int .i64 a)) (fun k => w.heap.size ≤ k) (.slice al L.len cl) L := hv.kp (((Kp.refl _ w1).setCell (.inl (by show ¬ (_ ≤ w.heap.size + 1); omega)) _).setCell (.inl (by show ¬ (_ ≤ w.heap.size + 1); omega)) _) (fun q _ h => by have : Y.heap.size ≤ q := h; omega)
  go_wp2_with fail
  refine bodyPost_ret (v := .tuple #[.slice al L.len cl, .agg #[.int .i64 c, .int .i64 a]]) (by simp [results, Try.results24, go_sem, g0, g1]) rfl ⟨_, rfl, hfv, b4⟩
set_option maxRecDepth 100000 in
set_option maxHeartbeats 1000000 in
theorem at1_tell {fb cb tb rb : Nat} {g : Gm} {W : List Int} {V : Nat} {E : BitVec 64} {vR vW vg : Value} {room : Nat} {w : World} (hG : CkG g W V) (hE : ∀ v : Int, hasB E v = true ↔ Nul g.rules v) (k : Int) (bk : Nat) (x0 : w.cell? ⟨bk, 0, none⟩ = some (.int .i64 k)) (hF : FoS w fb cb tb rb g W V E vR vW vg room) :
    Calls Try.prog 41 #[.pointer (some ⟨fb, 0, none⟩), .pointer (some ⟨bk, 0, none⟩)] w (TellR fb tb rb (atP g W V k) (atFl g W V k) w) := by
  obtain ⟨Y, hY⟩ : ∃ Y, Y = w.alloc (.cells #[.int .i64 0, .slice none 0 0] 44) := ⟨_, rfl⟩
  have hb : Below w.heap.size w Y := by rw [hY]; exact al1 _ _
  have y0 : Y.cell? ⟨w.heap.size, 0, none⟩ = some (.int .i64 0) := by rw [hY]; exact al_c0 rfl
  have y1 : Y.cell? ⟨w.heap.size, 1, none⟩ = some (.slice none 0 0) := by rw [hY]; exact al_c1 rfl
  have yf : ∀ i, Y.frozen? ⟨w.heap.size, i, none⟩ = false := fun i => by rw [hY]; exact al_fz rfl i
  have zY : w.heap.size + 1 = Y.heap.size := by rw [hY]; simp
  obtain ⟨l1, l2, l3⟩ := hF.lt
  have AT := at_tell hG hE k (hF.lw hb)
  have HF0 := hd hF
  have x1 := bkeep hb x0
  clear hF
  unfold TellR atP at AT ⊢
  generalize (Trs g.rules W V g.start 0 W.length).getD k.toNat ⟨0, .nil⟩ = t at *
  generalize atFl g W V k = fl at *
  rw [hY] at x1
  go_enter Try.func41, Try.ntmps41
  go_wp2_with fail
  rw [← hY]
  have HY := hd hY
  clear hY
  refine AT.mono ?_
  rintro e w3 (⟨hfl, rfl, p7, p8, kf⟩ | ⟨hfl, v, rfl, ⟨u3, rfl, hu3⟩, p7, p8, kf⟩)
  · go_wp2_with fail
    exact ⟨rfl, .inl ⟨hfl, rfl, p7, p8, (Kf.of_below hb).trans kf⟩⟩
  · obtain ⟨a3, c3, rfl, _⟩ := id hu3.slice
    have q0 := kf.cell y0 (by omega) (by omega) (by omega)
    have q1 := kf.cell y1 (by omega) (by omega) (by omega)
    have qf : ∀ i, w3.frozen? ⟨w.heap.size, i, none⟩ = false := fun i => (World.frozen?_of_block (a := ⟨w.heap.size, i, none⟩) (kf.block w.heap.size (by omega) (by omega) (by omega) (by omega))).trans (yf i)
    have kf4 : Kf tb rb fb w ((w3.setCell ⟨w.heap.size, 0, none⟩ (.int .i64 t.rule)).setCell ⟨w.heap.size, 1, none⟩ (.slice a3 t.kids.len c3)) := (((Kf.of_below hb).trans kf).setCell (x := ⟨w.heap.size, 0, none⟩) (Nat.le_refl _) _).setCell (x := ⟨w.heap.size, 1, none⟩) (Nat.le_refl _) _
    have r7 : ((w3.setCell ⟨w.heap.size, 0, none⟩ (.int .i64 t.rule)).setCell ⟨w.heap.size, 1, none⟩ (.slice a3 t.kids.len c3)).cell? ⟨fb, 7, none⟩ = some (.int .i64 0) := set_other (set_other p7 (by omega)) (by omega)
    have r8 : ((w3.setCell ⟨w.heap.size, 0, none⟩ (.int .i64 t.rule)).setCell ⟨w.heap.size, 1, none⟩ (.slice a3 t.kids.len c3)).cell? ⟨fb, 8, none⟩ = some (.int .i64 0) := set_other (set_other p8 (by omega)) (by omega)
    have hfv : TfV ((w3.setCell ⟨w.heap.size, 0, none⟩ (.int .i64 t.rule)).setCell ⟨w.heap.size, 1, none⟩ (.slice a3 t.kids.len c3)) (fun k => w.heap.size ≤ k) (.slice a3 t.kids.len c3) t.kids := hu3.kp (((Kp.refl _ w3).setCell (.inl (by show ¬ (_ ≤ w.heap.size); omega)) _).setCell (.inl (by show ¬ (_ ≤ w.heap.size); omega)) _) (fun q _ h => by have : Y.heap.size ≤ q := h; omega)
    clear hu3
    go_wp2_with fail
    refine bodyPost_ret (v := .agg #[.int .i64 t.rule, .slice a3 t.kids.len c3]) (by simp [results, Try.results41, go_sem, q0, q1]) rfl (.inr ⟨hfl, _, rfl, ⟨_, rfl, hfv⟩, r7, r8, kf4⟩)
theorem askT_any (g : Gm) (W : List Int) (k : Int) (bk : Nat) (va vw : Value) (w : World) (hg : GV w All va g) (hw : IsV w All vw W) (x0 : w.cell? ⟨bk, 0, none⟩ = some (.int .i64 k)) : Calls Try.prog 40 #[va, vw, .func (.func 41) #[] #[.pointer (some ⟨bk, 0, none⟩)]] w (AtR g W k w) := by
  have h0 : Calls Try.prog 40 #[va, vw, .func (.func 41) #[] #[.pointer (some ⟨bk, 0, none⟩)]] w (AskR g W (atP g W g.vars.toNat k) (atFl g W g.vars.toNat k) (.agg #[.int .i64 0, .slice none 0 0]) w) := by
    by_cases hc : (chFl g W).1 = 0
    · exact askT_right g W va vw _ w _ _ hg hw hc ⟨_, _, _, rfl, cal_at1, fun fb cb tb rb E vR vW vg room u hG hE hb hF => at1_tell hG hE k bk (bkeep hb x0) hF⟩ (Stays_at g W _ k) (fun u v w' ⟨x, e, hx⟩ => by
        obtain ⟨a, c, e2, _⟩ := hx.slice
        exact ⟨_, a, _, c, by rw [e, e2]⟩)
    · exact askT_wrong g W va vw _ w _ _ hg hw hc
  exact h0.mono fun e w' h => h.at_
set_option maxRecDepth 100000 in
set_option maxHeartbeats 1000000 in
theorem forestAt_any (g : Gm) (W : List Int) (k : Int) (va vw : Value) (w : World) (hg : GV w All va g) (hw : IsV w All vw W) : Calls Try.prog 19 #[va, vw, .int .i64 k] w (AtR g W k w) := by
  obtain ⟨vg, rfl, hr⟩ := hg
  obtain ⟨ag, cg, rfl⟩ := hr.slice
  have hmf : ∀ (fn : Fn) (first cap : Array Value) (w : World), (Instr.makeFunc fn first cap).run Try.prog w = .ok (.func fn first cap) w := fun _ _ _ _ => rfl
  obtain ⟨Y, hY⟩ : ∃ Y, Y = (((w.alloc (.cells #[.int .i64 g.vars, .int .i64 g.terms, .int .i64 g.start, .slice ag g.rules.length cg] 24)).alloc (.cells #[.int .i64 k] 3)).alloc (.cells #[.int .i64 0, .slice none 0 0] 44)).alloc (.cells #[.int .i64 0, .int .i64 0] 30) := ⟨_, rfl⟩
  have hbY : Below w.heap.size w Y := by rw [hY]; exact al4 _ _ _ _ _
  have b0 : Y.cell? ⟨w.heap.size + 1, 0, none⟩ = some (.int .i64 k) := by rw [hY]; simp [go_sem]
  have t0 : Y.cell? ⟨w.heap.size + 1 + 1, 0, none⟩ = some (.int .i64 0) := by rw [hY]; simp [go_sem]
  have t1 : Y.cell? ⟨w.heap.size + 1 + 1, 1, none⟩ = some (.slice none 0 0) := by rw [hY]; simp [go_sem]
  have tf : ∀ i, Y.frozen? ⟨w.heap.size + 1 + 1, i, none⟩ = false := fun i => by rw [hY]; simp [go_sem]
  have f0 : Y.cell? ⟨w.heap.size + 1 + 1 + 1, 0, none⟩ = some (.int .i64 0) := by rw [hY]; simp [go_sem]
  have f1 : Y.cell? ⟨w.heap.size + 1 + 1 + 1, 1, none⟩ = some (.int .i64 0) := by rw [hY]; simp [go_sem]
  have ff : ∀ i, Y.frozen? ⟨w.heap.size + 1 + 1 + 1, i, none⟩ = false := fun i => by rw [hY]; simp [go_sem]
  have zY : w.heap.size + 4 = Y.heap.size := by rw [hY]; simp
  have AL := askT_any g W k (w.heap.size + 1) _ vw Y ⟨_, rfl, hr.lw hbY⟩ (hw.lw hbY) b0
  unfold AtR at AL ⊢
  generalize atO g W k = O at *
  obtain ⟨⟨c, a⟩, t⟩ := O
  dsimp only at AL ⊢
  clear b0
  go_enter Try.func19, Try.ntmps19
  go_wp2_with fail
  rw [← hY]
  have HY := hd hY
  clear hY
  refine AL.mono ?_
  rintro e w1 ⟨_, rfl, ⟨u, rfl, hv⟩, hb1⟩
  obtain ⟨al, cl, rfl, _⟩ := id hv.slice
  have g0 := bkeep hb1 f0
  have g1 := bkeep hb1 f1
  have s0 := bkeep hb1 t0
  have s1 := bkeep hb1 t1
  have gf : ∀ i, w1.frozen? ⟨w.heap.size + 1 + 1 + 1, i, none⟩ = false := fun i => by rw [hb1.frozen (p := ⟨w.heap.size + 1 + 1 + 1, i, none⟩) (lt_of_cell f0)]; exact ff i
  have sf : ∀ i, w1.frozen? ⟨w.heap.size + 1 + 1, i, none⟩ = false := fun i => by rw [hb1.frozen (p := ⟨w.heap.size + 1 + 1, i, none⟩) (lt_of_cell t0)]; exact tf i
  obtain ⟨Z, hZ⟩ : ∃ Z, Z = (((w1.setCell ⟨w.heap.size + 1 + 1, 0, none⟩ (.int .i64 t.rule)).setCell ⟨w.heap.size + 1 + 1, 1, none⟩ (.slice al t.kids.len cl)).setCell ⟨w.heap.size + 1 + 1 + 1, 0, none⟩ (.int .i64 c)).setCell ⟨w.heap.size + 1 + 1 + 1, 1, none⟩ (.int .i64 a) := ⟨_, rfl⟩
  have b4 : Below w.heap.size w Z := by rw [hZ]; exact ((((bthen hbY hb1).setCell (p := ⟨w.heap.size + 1 + 1, 0, none⟩) (by show w.heap.size ≤ w.heap.size + 1 + 1; omega) _).setCell (p := ⟨w.heap.size + 1 + 1, 1, none⟩) (by show w.heap.size ≤ w.heap.size + 1 + 1; omega) _).setCell (p := ⟨w.heap.size + 1 + 1 + 1, 0, none⟩) (by show w.heap.size ≤ w.heap.size + 1 + 1 + 1; omega) _).setCell (p := ⟨w.heap.size + 1 + 1 + 1, 1, none⟩) (by show w.heap.size ≤ w.heap.size + 1 + 1 + 1; omega) _
  have x0 : Z.cell? ⟨w.heap.size + 1 + 1 + 1, 0, none⟩ = some (.int .i64 c) := by rw [hZ]; exact set_off (set_same (set_other (set_other g0 (by omega)) (by omega))) (by decide)
  have x1 : Z.cell? ⟨w.heap.size + 1 + 1 + 1, 1, none⟩ = some (.int .i64 a) := by rw [hZ]; exact set_same (set_off (set_other (set_other g1 (by omega)) (by omega)) (by decide))
  have x2 : Z.cell? ⟨w.heap.size + 1 + 1, 0, none⟩ = some (.int .i64 t.rule) := by rw [hZ]; exact set_other (set_other (set_off (set_same s0) (by decide)) (by omega)) (by omega)
  have x3 : Z.cell? ⟨w.heap.size + 1 + 1, 1, none⟩ = some (.slice al t.kids.len cl) := by rw [hZ]; exact set_other (set_other (set_same (set_off s1 (by decide))) (by omega)) (by omega)
  have hfv : TfV Z (fun k => w.heap.size ≤ k) (.slice al t.kids.len cl) t.kids := by rw [hZ]; exact hv.kp (((((Kp.refl _ w1).setCell (.inl (by show ¬ (_ ≤ w.heap.size + 1 + 1); omega)) _).setCell (.inl (by show ¬ (_ ≤ w.heap.size + 1 + 1); omega)) _).setCell (.inl (by show ¬ (_ ≤ w.heap.size + 1 + 1 + 1); omega)) _).setCell (.inl (by show ¬ (_ ≤ w.heap.size + 1 + 1 + 1); omega)) _) (fun q _ h => by have : Y.heap.size ≤ q := h; omega)
  clear hv
  go_wp2_with fail
  rw [← hZ]
  clear hZ
  exact bodyPost_ret (v := .tuple #[.agg #[.int .i64 t.rule, .slice al t.kids.len cl], .agg #[.int .i64 c, .int .i64 a]]) (by simp [results, Try.results19, go_sem, x0, x1, x2, x3]) rfl ⟨_, rfl, ⟨_, rfl, hfv⟩, b4⟩
end Go.Proofs.Ytlhdppkllmnmkae.G

/- How many trees there are in one: the document's count, and the room that the program takes. -/
namespace Go.Proofs.Ytlhdppkllmnmkae.G
open Go.RowKit
def spI (s : Nat) (r : Int) : Int := if (s : Int) ≤ r then r - s else -1
theorem spI_add (a s : Nat) (r : Int) (_h : 0 ≤ r) : spI (a + s) r = spI s (spI a r) := by unfold spI; split <;> split <;> (try split) <;> omega
theorem spI_le (s : Nat) (r : Int) : -1 ≤ spI s r ∧ (0 ≤ r → spI s r ≤ r) := by unfold spI; split <;> omega
def SpOK (t : Tr) : Prop := ∀ (va : Value) (w : World) (room : Int), TrV w All va t → 0 ≤ room → room ≤ 1000000 →
  Calls Try.prog 66 #[va, .int .i64 room] w fun e w' => e = .returned (.int .i64 (spI t.sz room)) ∧ Below w.heap.size w w'
set_option maxRecDepth 100000 in
set_option maxHeartbeats 4000000 in
theorem sp_head (t : Tr) (ih : ∀ i, i < t.kids.len → SpOK (t.kids.at_ i)) : SpOK t := by
  intro va w room ht h0 hr
  obtain ⟨u, rfl, hx⟩ := ht
  obtain ⟨ao, cap, rfl, hcp⟩ := hx.slice
  have hl := hx.1
  obtain ⟨R, hR⟩ : ∃ R, R = spI t.sz room := ⟨_, rfl⟩
  rw [← hR]
  have hR1 : R = spI t.kids.sz (room - 1) := by rw [hR]; unfold Tr.sz; rw [spI_add 1 _ _ h0]; congr 1; unfold spI; split <;> omega
  clear hR
  obtain ⟨W, hW⟩ : ∃ W, W = w.alloc (.cells #[.int .i64 t.rule, .slice ao t.kids.len cap] 44) := ⟨_, rfl⟩
  have hWb : Below w.heap.size w W := by rw [hW]; exact al1 _ _
  go_enter Try.func66, Try.ntmps66
  go_wp2_with fail
  rw [← hW]
  have HW := hd hW
  clear hW
  go_loopw [1, 12] (fun r i wr => ∃ (k : Nat) (m : Int), k ≤ t.kids.len ∧ i = .int .i64 k ∧ r = .int .i64 m ∧ -1 ≤ m ∧ m ≤ room ∧ Hid (R = spI (t.kids.drp k).sz m) ∧ Below W.heap.size W wr) (fun _ i _ => t.kids.len - (intOf i).toNat)
  case atStart => exact ⟨0, room - 1, Nat.zero_le _, rfl, by go_num, by omega, by omega, hd (by rw [hR1, Tf.drp_zero]), Below.refl _ _⟩
  case round =>
    obtain ⟨k, m, hk, rfl, rfl, hm1, hm2, hinv, hb⟩ := hrel
    clear hR1
    have bel : Below w.heap.size w wr := bthen hWb hb
    by_cases hlt : k < t.kids.len
    · obtain ⟨b, o, rfl, _, c0, aq, cq, c1, hq⟩ := (hx.lw bel).at_ hlt
      obtain ⟨V, hV⟩ : ∃ V, V = wr.alloc (.cells #[.int .i64 (t.kids.at_ k).rule, .slice aq (t.kids.at_ k).kids.len cq] 44) := ⟨_, rfl⟩
      have hVb : Below wr.heap.size wr V := by rw [hV]; exact al1 _ _
      have bV := bthen hb hVb
      by_cases hmm : 0 ≤ m
      · have IH := ih k hlt _ V m (TrV_mk (hq.lw hVb)) hmm (by omega)
        have HI : Hid (R = spI (t.kids.drp (k + 1)).sz (spI (t.kids.at_ k).sz m)) := hd (by rw [hinv.out, Tf.sz_drp hlt, spI_add _ _ _ hmm])
        have hz := spI_le (t.kids.at_ k).sz m
        have hz1 := hz.1
        have hz2 := hz.2 hmm
        clear hinv hz
        generalize spI (t.kids.at_ k).sz m = z at *
        generalize t.kids.at_ k = x at *
        go_wp2_with fail
        rw [← hV]
        have HV := hd hV
        clear hV
        refine IH.mono ?_
        rintro e w1 ⟨rfl, hb1⟩
        have bz := bthen bV hb1
        go_wp2_with fail
        go_roundw
        case rel => exact ⟨k + 1, z, by omega, by go_num, rfl, by omega, by omega, HI, bz⟩
        case measure => simp [intOf]; omega
      · have hR' : Hid (R = m) := hd (by rw [hinv.out]; unfold spI; split <;> omega)
        have bw := bthen hWb bV
        generalize t.kids.at_ k = x at *
        go_wp2_with fail
        rw [← hV]
        go_ret
        exact ⟨ret_int (by rw [hR'.out]), bw⟩
    · have hR' : Hid (R = m) := hd (by rw [hinv.out, Tf.drp_end (by omega)]; unfold spI Tf.sz; split <;> omega)
      go_wp2_with fail
      go_ret
      exact ⟨ret_int (by rw [hR'.out]), bel⟩
theorem sp_all : ∀ (f : Tf) (i : Nat), i < f.len → SpOK (f.at_ i)
  | .nil, _, h => absurd h (Nat.not_lt_zero _)
  | .cons rule kids _, 0, _ => sp_head ⟨rule, kids⟩ (sp_all kids)
  | .cons _ _ rest, i + 1, h => sp_all rest i (by simpa [Tf.len] using h)
theorem spare_any (t : Tr) : SpOK t := sp_head t (sp_all t.kids)
end Go.Proofs.Ytlhdppkllmnmkae.G

/- Is it a tree of a nonterminal? The document's way. -/
namespace Go.Proofs.Ytlhdppkllmnmkae.G
open Go.RowKit
end Go.Proofs.Ytlhdppkllmnmkae.G

/- What is wrong with a tree: tree.Check, and the document's. -/
namespace Go.Proofs.Ytlhdppkllmnmkae.G
open Go.RowKit
def tFl (g : Gm) (t : Tr) (v : Int) : Int × Int := if (gFl g).1 ≠ 0 then gFl g else if 400 < t.sz then (6, -1) else if fitT g.rules t v = true then (0, 0) else (13, -1)
theorem spI_neg (s : Nat) : decide (spI s 400 < 0) = decide (400 < s) := by unfold spI; rw [decide_eq_decide]; split <;> omega
theorem tFl_bad {g : Gm} {t : Tr} {v a b : Int} (h : gFl g = (a, b)) (ha : a ≠ 0) : tFl g t v = (a, b) := by unfold tFl; rw [h, if_pos ha]
theorem tFl_many {g : Gm} {t : Tr} {v b : Int} (h : gFl g = (0, b)) (h4 : 400 < t.sz) : tFl g t v = (6, -1) := by unfold tFl; rw [h, if_neg (by simp), if_pos h4]
theorem tFl_fit {g : Gm} {t : Tr} {v b : Int} (h : gFl g = (0, b)) (h4 : ¬ 400 < t.sz) (hf : fitT g.rules t v = true) : tFl g t v = (0, 0) := by unfold tFl; rw [h, if_neg (by simp), if_neg h4, if_pos hf]
theorem tFl_not {g : Gm} {t : Tr} {v b : Int} (h : gFl g = (0, b)) (h4 : ¬ 400 < t.sz) (hf : fitT g.rules t v = false) : tFl g t v = (13, -1) := by unfold tFl; rw [h, if_neg (by simp), if_neg h4, if_neg (by simp [hf])]
set_option maxRecDepth 100000 in
set_option maxHeartbeats 16000000 in
theorem tcheck_any (g : Gm) (t : Tr) (v : Int) (va vt : Value) (w : World) (hg : GV w All va g) (ht : TrV w All vt t) (hs : Small g.rules) :
    Calls Try.prog 43 #[va, vt, .int .i64 v] w fun e w' => e = .returned (.agg #[.int .i64 (tFl g t v).1, .int .i64 (tFl g t v).2]) ∧ Below w.heap.size w w' := by
  obtain ⟨R, hR0⟩ : ∃ R, R = tFl g t v := ⟨_, rfl⟩
  have hR := hd hR0
  rw [← hR0]
  clear hR0
  have CK := fun w' (hb : Below w.heap.size w w') => check_any g va w' (hg.lw hb)
  have SP := fun w' (hb : Below w.heap.size w w') => spare_any t vt w' 400 (ht.lw hb) (by omega) (by omega)
  have FT := fun w' (hb : Below w.heap.size w w') => fits_any t g va vt v w' (hg.lw hb) (ht.lw hb) hs
  obtain ⟨D1, D2, hD⟩ : ∃ a b, gFl g = (a, b) := ⟨_, _, rfl⟩
  rw [hD] at CK
  simp only at CK
  have hsp := spI_neg t.sz
  obtain ⟨ua, rfl, ra⟩ := hg
  obtain ⟨ut, rfl, kt⟩ := ht
  obtain ⟨ao, cap, rfl⟩ := ra.slice
  obtain ⟨at_, ct, rfl, _⟩ := kt.slice
  obtain ⟨W, hW⟩ : ∃ W, W = ((w.alloc (.cells #[.int .i64 g.vars, .int .i64 g.terms, .int .i64 g.start, .slice ao g.rules.length cap] 24)).alloc (.cells #[.int .i64 t.rule, .slice at_ t.kids.len ct] 44)).alloc (.cells #[.int .i64 0, .int .i64 0] 30) := ⟨_, rfl⟩
  have hWb : Below w.heap.size w W := by rw [hW]; exact (al2 w _ _).alloc (by simp <;> omega) _
  have x0 : W.cell? ⟨w.heap.size, 0, none⟩ = some (.int .i64 g.vars) := by rw [hW]; simp [go_sem]
  have x1 : W.cell? ⟨w.heap.size, 1, none⟩ = some (.int .i64 g.terms) := by rw [hW]; simp [go_sem]
  have x2 : W.cell? ⟨w.heap.size, 2, none⟩ = some (.int .i64 g.start) := by rw [hW]; simp [go_sem]
  have x3 : W.cell? ⟨w.heap.size, 3, none⟩ = some (.slice ao g.rules.length cap) := by rw [hW]; simp [go_sem]
  have y0 : W.cell? ⟨w.heap.size + 1, 0, none⟩ = some (.int .i64 t.rule) := by rw [hW]; simp [go_sem]
  have y1 : W.cell? ⟨w.heap.size + 1, 1, none⟩ = some (.slice at_ t.kids.len ct) := by rw [hW]; simp [go_sem]
  have hWr : RB W (w.heap.size + 2) := by rw [hW]; exact ⟨by simp [go_sem], by simp [go_sem], fun i => by simp [go_sem]⟩
  have CW := CK W hWb
  go_enter Try.func43, Try.ntmps43
  go_wp2_with fail
  rw [← hW]
  have HW := hd hW
  clear hW
  refine CW.mono ?_
  rintro e w1 ⟨rfl, hb1⟩
  obtain ⟨V, hV⟩ : ∃ V, V = w1.alloc (.cells #[.int .i64 D1, .int .i64 D2] 30) := ⟨_, rfl⟩
  have hVb : Below w1.heap.size w1 V := by rw [hV]; exact al1 _ _
  have bW := bthen hb1 hVb
  have bV := bthen hWb bW
  have tr := hWr.below hb1
  by_cases hc : D1 = 0
  rotate_left
  · have hr : R = (D1, D2) := hR.out.trans (tFl_bad hD hc)
    subst hr
    have hcb : (D1 != 0) = true := by simpa using hc
    have HD := hd hD
    clear hc hD
    have q0 := alcell tr.c0 (.cells #[.int .i64 D1, .int .i64 D2] 30)
    have q1 := alcell tr.c1 (.cells #[.int .i64 D1, .int .i64 D2] 30)
    have qf := (tr.below (al1 w1 (.cells #[.int .i64 D1, .int .i64 D2] 30))).fz
    go_wp2_with fail
    refine bodyPost_ret (v := .agg #[.int .i64 D1, .int .i64 D2]) (by simp [results, Try.results43, go_sem, q0, q1]) rfl ⟨rfl, ?_⟩
    rw [← hV]
    exact (bV.setCell (p := ⟨w.heap.size + 2, 0, none⟩) (by show w.heap.size ≤ w.heap.size + 2; omega) _).setCell (p := ⟨w.heap.size + 2, 1, none⟩) (by show w.heap.size ≤ w.heap.size + 2; omega) _
  subst hc
  have u0 := alcell (bkeep hb1 y0) (.cells #[.int .i64 0, .int .i64 D2] 30)
  have u1 := alcell (bkeep hb1 y1) (.cells #[.int .i64 0, .int .i64 D2] 30)
  have SV := SP V bV
  generalize spI t.sz 400 = s at *
  have hDD := hd hD
  have Hsp := hd hsp
  clear hsp CW
  go_wp2_with fail
  rw [← hV]
  have HV := hd hV
  clear hV
  refine SV.mono ?_
  rintro e w2 ⟨rfl, hb2⟩
  have b2 := bthen bV hb2
  have b2W := bthen bW hb2
  have t2 := (tr.below hVb).below hb2
  by_cases h4 : 400 < t.sz
  · have hsb : decide (s < 0) = true := by rw [Hsp.out]; simpa using h4
    have hr : R = (6, -1) := hR.out.trans (tFl_many hDD.out h4)
    subst hr
    have q0 := t2.c0
    have q1 := t2.c1
    have qf := t2.fz
    clear h4 hD
    go_wp2_with fail
    refine bodyPost_ret (v := .agg #[.int .i64 6, .int .i64 (-1)]) (by simp [results, Try.results43, go_sem, q0, q1]) rfl ⟨rfl, ?_⟩
    exact (b2.setCell (p := ⟨w.heap.size + 2, 0, none⟩) (by show w.heap.size ≤ w.heap.size + 2; omega) _).setCell (p := ⟨w.heap.size + 2, 1, none⟩) (by show w.heap.size ≤ w.heap.size + 2; omega) _
  have hsb : decide (s < 0) = false := by rw [Hsp.out]; simpa using h4
  have z0 := bkeep b2W x0
  have z1 := bkeep b2W x1
  have z2 := bkeep b2W x2
  have z3 := bkeep b2W x3
  have z4 := bkeep b2W y0
  have z5 := bkeep b2W y1
  have F2 := FT w2 b2
  have hF := @tFl_fit g t v D2 hDD.out h4
  have hN := @tFl_not g t v D2 hDD.out h4
  have HF := hd hF
  have HN := hd hN
  have H4 := hd h4
  clear h4 hD hF hN SP FT CK u0 u1 x0 x1 x2 x3 y0 y1
  generalize fitT g.rules t v = q at *
  go_wp2_with fail
  refine F2.mono ?_
  rintro e w3 ⟨rfl, hb3⟩
  have b3 := bthen b2 hb3
  have t3 := t2.below hb3
  have q0 := t3.c0
  have q1 := t3.c1
  have qf := t3.fz
  cases q with
  | true =>
    have hr : R = (0, 0) := hR.out.trans (HF.out rfl)
    subst hr
    go_wp2_with fail
    refine bodyPost_ret (v := .agg #[.int .i64 0, .int .i64 0]) (by simp [results, Try.results43, go_sem, q0, q1]) rfl ⟨rfl, ?_⟩
    exact (b3.setCell (p := ⟨w.heap.size + 2, 0, none⟩) (by show w.heap.size ≤ w.heap.size + 2; omega) _).setCell (p := ⟨w.heap.size + 2, 1, none⟩) (by show w.heap.size ≤ w.heap.size + 2; omega) _
  | false =>
    have hr : R = (13, -1) := hR.out.trans (HN.out rfl)
    subst hr
    go_wp2_with fail
    refine bodyPost_ret (v := .agg #[.int .i64 13, .int .i64 (-1)]) (by simp [results, Try.results43, go_sem, q0, q1]) rfl ⟨rfl, ?_⟩
    exact (b3.setCell (p := ⟨w.heap.size + 2, 0, none⟩) (by show w.heap.size ≤ w.heap.size + 2; omega) _).setCell (p := ⟨w.heap.size + 2, 1, none⟩) (by show w.heap.size ≤ w.heap.size + 2; omega) _
end Go.Proofs.Ytlhdppkllmnmkae.G

/- The word of a tree, the program's way. -/
namespace Go.Proofs.Ytlhdppkllmnmkae.G
open Go.RowKit
theorem gr_then {W a b : World} {row row' : Option Nat} (h : W.grownBy a row) (k : a.grownBy b row') (hr : row' = row ∨ ∀ q, row' = some q → W.heap.size ≤ q) : W.grownBy b row :=
  ⟨k.os.trans h.os, k.tape.trans h.tape, k.output.trans h.output, Nat.le_trans h.size k.size, fun q hq hne => by
    rw [k.block q (Nat.lt_of_lt_of_le hq h.size) (fun e => by rcases hr with hr | hr; exact hne (e.trans hr); have := hr q e.symm; omega)]
    exact h.block q hq hne⟩
theorem own_then {o1 o2 row : Option Nat} {n m : Nat} (h : o1 = row ∨ ∀ q, o1 = some q → n ≤ q) (k : o2 = o1 ∨ ∀ q, o2 = some q → m ≤ q) (hn : n ≤ m) : o2 = row ∨ ∀ q, o2 = some q → n ≤ q := by
  rcases k with k | k
  · rcases h with h | h
    · exact .inl (k.trans h)
    · exact .inr fun q e => h q (k ▸ e)
  · exact .inr fun q e => Nat.le_trans hn (k q e)
theorem gr_below {a b : World} {row : Option Nat} (h : Below a.heap.size a b) : a.grownBy b row := ⟨h.os, h.tape, h.output, h.size, fun k hk _ => h.block k hk⟩
theorem kp_gr {S : Nat → Prop} {a b : World} {row : Option Nat} (h : a.grownBy b row) (hS : ∀ q, q < a.heap.size → S q → some q ≠ row) : Kp S a b := ⟨h.size, fun k hk hs => h.block k hk (hS k hk hs)⟩
def SlOK (t : Tr) : Prop := ∀ (g : Gm) (acc : List Int) (va vt vw : Value) (v : Int) (base : Nat) (w : World), GV w (fun k => vw.ownBlock ≠ some k) va g → TrV w (fun k => vw.ownBlock ≠ some k) vt t → Small g.rules → Near g.rules → fitT g.rules t v = true →
  w.ownsRow base 3 1 vw acc.length (ints acc) → base ≤ w.heap.size → (acc ++ wdT g.rules t).length ≤ 1000000 →
  Calls Try.prog 44 #[va, vt, vw] w fun e w' => ∃ vo, e = .returned vo ∧ w'.ownsRow base 3 1 vo (acc ++ wdT g.rules t).length (ints (acc ++ wdT g.rules t)) ∧ w.grownBy w' vw.ownBlock ∧ (vo.ownBlock = vw.ownBlock ∨ ∀ k, vo.ownBlock = some k → w.heap.size ≤ k)
set_option maxRecDepth 100000 in
set_option maxHeartbeats 16000000 in
theorem sl_head (t : Tr) (ih : ∀ i, i < t.kids.len → SlOK (t.kids.at_ i)) : SlOK t := by
  intro g acc va vt vw v base w hg ht hs hn hf hown hbase hlen
  obtain ⟨i0, hi, iz0, iz1, iz2⟩ := info_parts Try.infoInt
  obtain ⟨ua, rfl, ra⟩ := hg
  obtain ⟨ut, rfl, kt⟩ := ht
  obtain ⟨ao, cap, rfl⟩ := ra.slice
  obtain ⟨at_, ct, rfl, _⟩ := kt.slice
  obtain ⟨r, hr, hrule, _, hfk, hword⟩ := fit_rule hf
  obtain ⟨R, hR⟩ : ∃ R, R = acc ++ wdT g.rules t := ⟨_, rfl⟩
  rw [← hR] at hlen ⊢
  have hvl : ∀ q, vw.ownBlock = some q → base ≤ q ∧ q < w.heap.size := fun q e => hown.lt q e
  obtain ⟨aw, cw, rfl⟩ := owns_slice hown
  generalize hrow : (Value.slice aw acc.length cw).ownBlock = row at *
  obtain ⟨W, hW⟩ : ∃ W, W = (w.alloc (.cells #[.int .i64 g.vars, .int .i64 g.terms, .int .i64 g.start, .slice ao g.rules.length cap] 24)).alloc (.cells #[.int .i64 t.rule, .slice at_ t.kids.len ct] 44) := ⟨_, rfl⟩
  have hWb : Below w.heap.size w W := by rw [hW]; exact al2 _ _ _
  have hWz : W.heap.size = w.heap.size + 2 := by rw [hW]; simp
  have x0 : W.cell? ⟨w.heap.size, 0, none⟩ = some (.int .i64 g.vars) := by rw [hW]; simp
  have x1 : W.cell? ⟨w.heap.size, 1, none⟩ = some (.int .i64 g.terms) := by rw [hW]; simp
  have x2 : W.cell? ⟨w.heap.size, 2, none⟩ = some (.int .i64 g.start) := by rw [hW]; simp
  have x3 : W.cell? ⟨w.heap.size, 3, none⟩ = some (.slice ao g.rules.length cap) := by rw [hW]; simp
  rw [hrule] at hW ⊢
  have hne : some w.heap.size ≠ row := fun e => by have := (hvl _ e.symm).2; omega
  obtain ⟨C, hC⟩ : ∃ C : Nat → Prop, C = fun k => k < W.heap.size ∧ row ≠ some k := ⟨_, rfl⟩
  have toC : ∀ b o v, row ≠ some b → w.cell? ⟨b, o, none⟩ = some v → C b ∧ W.cell? ⟨b, o, none⟩ = some v := fun b o v h1 h2 => ⟨by rw [hC]; exact ⟨lt_of_cell (bkeep hWb h2), h1⟩, bkeep hWb h2⟩
  have raC : RsV W C (.slice ao g.rules.length cap) g.rules := ra.mono toC
  have ktC : TfV W C (.slice at_ t.kids.len ct) t.kids := kt.mono toC
  have kpC : ∀ wr, W.grownBy wr row → Kp C W wr := fun wr h => kp_gr h fun q _ hq e => by rw [hC] at hq; exact hq.2 e.symm
  have hownW := owns_below hown hWb
  obtain ⟨b, o, rfl, c0, ar, cr, c1, hx⟩ := raC.at_ hr
  have hnr := hn r hr
  have hl := raC.1
  generalize g.rules[r] = x at *
  have hxl := hx.1
  clear ra kt toC hf hown
  rw [hW] at c0 c1
  go_enter Try.func44, Try.ntmps44
  go_wp2_with fail
  rw [← hW]
  rw [← hW] at c0 c1
  have HW := hd hW
  have HRW := hd hrow
  have HCC := hd hC
  clear hW hrow hC
  go_loopw [2, 7, 20] (fun a1 a2 i wr => ∃ (k j : Nat) (acc' : List Int) (vr vk : Value), vr = a1 ∧ vk = a2 ∧ k ≤ x.right.length ∧ j ≤ t.kids.len ∧ i = .int .i64 k ∧ Hid (R = acc' ++ wdR (x.right.drop k) (wdF g.rules (t.kids.drp j))) ∧ Hid (fitF g.rules (t.kids.drp j) (kidsL (x.right.drop k)) = true) ∧ TfV wr C vk (t.kids.drp j) ∧ wr.ownsRow base 3 1 vr acc'.length (ints acc') ∧ W.grownBy wr row ∧ (vr.ownBlock = row ∨ ∀ q, vr.ownBlock = some q → W.heap.size ≤ q)) (fun _ _ i _ => x.right.length - (intOf i).toNat)
  case atStart => exact ⟨0, 0, acc, _, _, rfl, rfl, Nat.zero_le _, Nat.zero_le _, rfl, hd (by rw [hR, hword, Tf.drp_zero, List.drop_zero]), hd (by rw [Tf.drp_zero, List.drop_zero]; exact hfk), by rw [Tf.drp_zero]; exact ktC, hownW, gr_below (Below.refl _ _), .inl HRW.out⟩
  case round =>
    obtain ⟨k, j, acc', vr, vk, rfl, rfl, hk, hj, rfl, hinv, hfit, hkv, hown', hgr, hat⟩ := hrel
    have hz := hgr.size
    have p0 := hgr.cell x0 hne
    have p1 := hgr.cell x1 hne
    have p2 := hgr.cell x2 hne
    have p3 := hgr.cell x3 hne
    have hxr := hx.kp (kpC wr hgr) (fun _ _ h => h)
    have hrr := raC.kp (kpC wr hgr) (fun _ _ h => h)
    have hnc : ∀ q, vr.ownBlock = some q → ¬ C q := fun q e hq => by
      rw [HCC.out] at hq
      rcases hat with h | h
      · exact hq.2 (h ▸ e)
      · have := h q e; omega
    clear hR
    by_cases hlt : k < x.right.length
    · obtain ⟨br, or', rfl, d0⟩ := hxr.at_ hlt
      obtain ⟨hb1, hb2⟩ := hnr k hlt
      by_cases hs0 : x.right[k] < 0
      · have HI : Hid (R = (acc' ++ [-1 - x.right[k]]) ++ wdR (x.right.drop (k + 1)) (wdF g.rules (t.kids.drp j))) := hd (by rw [hinv.out, wdR_neg hlt hs0]; simp)
        have HF : Hid (fitF g.rules (t.kids.drp j) (kidsL (x.right.drop (k + 1))) = true) := hd (by rw [← kidsL_dneg hlt hs0]; exact hfit.out)
        have hal : acc'.length + 1 ≤ 1000000 := by
          have := congrArg List.length HI.out
          simp at this; omega
        clear hinv hfit
        generalize x.right[k] = s at *
        obtain ⟨arv, crv, rfl⟩ := owns_slice hown'
        obtain ⟨ak, ck, rfl, _⟩ := hkv.slice
        go_wp2_with (first | (at_builtin; go_must (refine wpList_append_own_at _ rfl _ _ 25 rfl base 3 i0 (.int .i64 0) 1 8 Try.underlying25 hi iz0 iz1 iz2 rfl (by decide) _ _ _ rfl (hown'.alloc _) ⟨wr.heap.size, 0, none⟩ 1 1 [.int .i64 (-1 - s)] rfl rfl (cell_one_at _ _ _ (by simp)) (oneInts [-1 - s]) (by unfold maxLen; omega) (by omega) (by simp <;> omega) ?_)))
        intro v1 W1 own1 grow1 _ hat1
        have hg1 : wr.grownBy W1 (Value.slice arv acc'.length crv).ownBlock := gr_then (gr_below (al1 wr _)) grow1 (.inl rfl)
        have kp1 : Kp C wr W1 := kp_gr hg1 fun q _ hq e => hnc q e.symm hq
        go_wp2_with fail
        go_roundw
        case rel => exact ⟨k + 1, j, acc' ++ [-1 - s], _, _, rfl, rfl, by omega, hj, by go_num, HI, HF, hkv.kp kp1 (fun _ _ h => h), by simpa [ints] using own1, gr_then hgr hg1 hat, own_then hat (hat1.imp id fun e q hq => by rw [e] at hq; simp at hq; omega) hz⟩
        case measure => simp [intOf]; omega
      · obtain ⟨hjl, hft, hfr⟩ := fit_pos hlt hs0 hfit.out
        have HI : Hid (R = (acc' ++ wdT g.rules (t.kids.at_ j)) ++ wdR (x.right.drop (k + 1)) (wdF g.rules (t.kids.drp (j + 1)))) := hd (by rw [hinv.out, wdR_pos hlt hs0 hjl, List.append_assoc])
        have HF := hd hfr
        have hal : (acc' ++ wdT g.rules (t.kids.at_ j)).length ≤ 1000000 := by
          have := congrArg List.length HI.out
          rw [List.length_append] at this
          omega
        have IH := ih j hjl
        have hdj := Tf.drp_at hjl
        rw [hdj] at hkv
        obtain ⟨f1, hf1⟩ : ∃ f1, f1 = t.kids.drp (j + 1) := ⟨_, rfl⟩
        have HF1 := hd hf1
        rw [← hf1] at HI HF hkv hfr hdj
        clear hf1
        generalize t.kids.at_ j = y at *
        clear hinv hfit hdj hfr
        obtain ⟨hl1, aok, capk, rfl, hck, hno, h5⟩ := id hkv
        simp only [Tf.len] at hl1 hck h5
        rcases h5 with h5 | ⟨bk, ok, rfl, hCb, e0, ⟨hl2, aq, cq, e1, hcq, hnq, hq5⟩, hrest⟩
        · omega
        have hyk : TfV wr C (.slice aq y.kids.len cq) y.kids := ⟨hl2, aq, cq, rfl, hcq, hnq, hq5⟩
        have kk := TfV.drop1 hkv (by simp [Tf.len])
        have hd1 : (Tf.cons y.rule y.kids f1).drp 1 = f1 := by cases f1 <;> rfl
        rw [hd1] at kk
        clear hd1 hkv hq5 hnq hrest hno
        have h0nl : 0 < (Tf.cons y.rule y.kids f1).len := by simp [Tf.len]
        have hn1 : (Tf.cons y.rule y.kids f1).len ≤ capk := by simp only [Tf.len]; omega
        generalize (Tf.cons y.rule y.kids f1).len = nl at *
        have drw : Below wr.heap.size wr wr.drew := drw1 wr
        have toO : ∀ q, q < wr.heap.size → C q → vr.ownBlock ≠ some q := fun q _ hq e => hnc q e hq
        have IHd := IH g acc' _ _ vr x.right[k] base wr.drew ⟨_, rfl, hrr.kp (Kp.of_below drw) toO⟩ (TrV_mk (hyk.kp (Kp.of_below drw) toO)) hs hn hft hown' (by show base ≤ wr.heap.size; omega) hal
        generalize x.right[k] = s at *
        obtain ⟨arv, crv, rfl⟩ := owns_slice hown'
        have hsb : decide (s < 0) = false := by simpa using hs0
        by_cases hc1 : capk = 1
        · subst hc1
          simp only [sliced, if_true, Nat.sub_self, Nat.sub_eq_zero_of_le hn1] at kk
          go_wp2_with fail
          go_region_law
            (go_simp; go_at_call 44; refine IHd.mono ?_; rintro e w2 ⟨vo, rfl, own2, grow2, hat2⟩)
          all_goals
            have hg2 := gr_then (gr_below drw) grow2 (.inl rfl)
            have kp2 : Kp C wr w2 := kp_gr hg2 fun q _ hq e => hnc q e.symm hq
            have kk2 := kk.kp kp2 (fun _ _ h => h)
            go_wp2_with fail
            go_roundw
            case rel => exact ⟨k + 1, j + 1, acc' ++ wdT g.rules y, _, _, rfl, rfl, by omega, by omega, by go_num, hd (by rw [← HF1.out]; exact HI.out), hd (by rw [← HF1.out]; exact HF.out), by rw [← HF1.out]; exact kk2, own2, gr_then hgr hg2 hat, own_then hat hat2 hz⟩
            case measure => simp [intOf]; omega
        · simp only [sliced, if_neg hc1, Option.map_some, addr_add, Nat.one_mul] at kk
          go_wp2_with fail
          go_region_law
            (go_simp; go_at_call 44; refine IHd.mono ?_; rintro e w2 ⟨vo, rfl, own2, grow2, hat2⟩)
          all_goals
            have hg2 := gr_then (gr_below drw) grow2 (.inl rfl)
            have kp2 : Kp C wr w2 := kp_gr hg2 fun q _ hq e => hnc q e.symm hq
            have kk2 := kk.kp kp2 (fun _ _ h => h)
            go_wp2_with fail
            go_roundw
            case rel => exact ⟨k + 1, j + 1, acc' ++ wdT g.rules y, _, _, rfl, rfl, by omega, by omega, by go_num, hd (by rw [← HF1.out]; exact HI.out), hd (by rw [← HF1.out]; exact HF.out), by rw [← HF1.out]; exact kk2, own2, gr_then hgr hg2 hat, own_then hat hat2 hz⟩
            case measure => simp [intOf]; omega
    · have HE : Hid (acc' = R) := hd (by rw [hinv.out, wdR_end (by omega), List.append_nil])
      have he := HE.out
      rw [he] at hown'
      clear hinv he
      obtain ⟨arv, crv, rfl⟩ := owns_slice hown'
      go_wp2_with fail
      go_ret
      exact ⟨_, rfl, hown', gr_then (gr_below hWb) hgr (.inl rfl), hat.imp id fun h q e => by have := h q e; omega⟩
theorem sl_all : ∀ (f : Tf) (i : Nat), i < f.len → SlOK (f.at_ i)
  | .nil, _, h => absurd h (Nat.not_lt_zero _)
  | .cons rule kids _, 0, _ => sl_head ⟨rule, kids⟩ (sl_all kids)
  | .cons _ _ rest, i + 1, h => sl_all rest i (by simpa [Tf.len] using h)
theorem spell_any (t : Tr) : SlOK t := sl_head t (sl_all t.kids)
theorem tFl_zero {g : Gm} {t : Tr} {v : Int} (h : (tFl g t v).1 = 0) : (gFl g).1 = 0 ∧ t.sz ≤ 400 ∧ fitT g.rules t v = true ∧ (tFl g t v).2 = 0 := by
  unfold tFl at h ⊢
  split at h
  · rename_i h0; exact absurd h h0
  · rename_i h0
    split at h
    · cases h
    · rename_i h4
      split at h
      · rename_i hf
        exact ⟨by simpa using h0, by omega, hf, by rw [if_neg h0, if_neg h4, if_pos hf]⟩
      · cases h
def wdE (g : Gm) (t : Tr) : List Int := if (tFl g t g.start).1 = 0 then wdT g.rules t else []
set_option maxRecDepth 100000 in
set_option maxHeartbeats 16000000 in
theorem word_any (g : Gm) (t : Tr) (va vt : Value) (w : World) (hg : GV w All va g) (ht : TrV w All vt t) (hs : Small g.rules) :
    Calls Try.prog 20 #[va, vt] w fun e w' => ∃ vo, e = .returned (.tuple #[vo, .agg #[.int .i64 (tFl g t g.start).1, .int .i64 (tFl g t g.start).2]]) ∧ IsV w' (fun k => w.heap.size ≤ k) vo (wdE g t) ∧ Below w.heap.size w w' := by
  obtain ⟨R, hR0⟩ : ∃ R, R = tFl g t g.start := ⟨_, rfl⟩
  obtain ⟨L, hL0⟩ : ∃ L, L = wdE g t := ⟨_, rfl⟩
  have hL1 : L = if R.1 = 0 then wdT g.rules t else [] := by rw [hL0, hR0]; rfl
  have hz : R.1 = 0 → (gFl g).1 = 0 ∧ t.sz ≤ 400 ∧ fitT g.rules t g.start = true ∧ R.2 = 0 := fun h => hR0 ▸ tFl_zero (v := g.start) (by rw [← hR0]; exact h)
  have CK := fun w' (hb : Below w.heap.size w w') => tcheck_any g t g.start va vt w' (hg.lw hb) (ht.lw hb) hs
  rw [← hR0] at CK
  rw [← hR0, ← hL0]
  clear hR0 hL0
  have SL := fun w' vc vd (hb : Below w.heap.size w w') hg' ht' hn hf hl => spell_any t g [] vc vd (.slice none 0 0) g.start w'.heap.size w' hg' ht' hs hn hf (World.ownsRow_nil _ _ _ _) (Nat.le_refl _) hl
  obtain ⟨D1, D2⟩ := R
  simp only at CK hL1 hz
  have HZ := hd hz
  have HL := hd hL1
  clear hz hL1
  obtain ⟨ua, rfl, ra⟩ := hg
  obtain ⟨ut, rfl, kt⟩ := ht
  obtain ⟨ao, cap, rfl⟩ := ra.slice
  obtain ⟨at_, ct, rfl, _⟩ := kt.slice
  obtain ⟨W, hW⟩ : ∃ W, W = ((w.alloc (.cells #[.int .i64 g.vars, .int .i64 g.terms, .int .i64 g.start, .slice ao g.rules.length cap] 24)).alloc (.cells #[.int .i64 t.rule, .slice at_ t.kids.len ct] 44)).alloc (.cells #[.int .i64 0, .int .i64 0] 30) := ⟨_, rfl⟩
  have hWb : Below w.heap.size w W := by rw [hW]; exact (al2 w _ _).alloc (by simp <;> omega) _
  have x0 : W.cell? ⟨w.heap.size, 0, none⟩ = some (.int .i64 g.vars) := by rw [hW]; simp [go_sem]
  have x1 : W.cell? ⟨w.heap.size, 1, none⟩ = some (.int .i64 g.terms) := by rw [hW]; simp [go_sem]
  have x2 : W.cell? ⟨w.heap.size, 2, none⟩ = some (.int .i64 g.start) := by rw [hW]; simp [go_sem]
  have x3 : W.cell? ⟨w.heap.size, 3, none⟩ = some (.slice ao g.rules.length cap) := by rw [hW]; simp [go_sem]
  have y0 : W.cell? ⟨w.heap.size + 1, 0, none⟩ = some (.int .i64 t.rule) := by rw [hW]; simp [go_sem]
  have y1 : W.cell? ⟨w.heap.size + 1, 1, none⟩ = some (.slice at_ t.kids.len ct) := by rw [hW]; simp [go_sem]
  have hWr : RB W (w.heap.size + 2) := by rw [hW]; exact ⟨by simp [go_sem], by simp [go_sem], fun i => by simp [go_sem]⟩
  have CW := CK W hWb
  go_enter Try.func20, Try.ntmps20
  go_wp2_with fail
  rw [← hW]
  have HW := hd hW
  clear hW
  refine CW.mono ?_
  rintro e w1 ⟨rfl, hb1⟩
  obtain ⟨V, hV⟩ : ∃ V, V = w1.alloc (.cells #[.int .i64 D1, .int .i64 D2] 30) := ⟨_, rfl⟩
  have hVb : Below w1.heap.size w1 V := by rw [hV]; exact al1 _ _
  have bW := bthen hb1 hVb
  have bV := bthen hWb bW
  have tr := (hWr.below hb1).below hVb
  have f0 : V.cell? ⟨w1.heap.size, 0, none⟩ = some (.int .i64 D1) := by rw [hV]; simp
  have f1 : V.cell? ⟨w1.heap.size, 1, none⟩ = some (.int .i64 D2) := by rw [hV]; simp
  clear CW CK
  by_cases hc : D1 = 0
  rotate_left
  · have hl : L = [] := by rw [HL.out, if_neg hc]
    subst hl
    have hcb : (D1 != 0) = true := by simpa using hc
    have q0 : V.cell? ⟨w.heap.size + 1 + 1, 0, none⟩ = _ := tr.c0
    have q1 : V.cell? ⟨w.heap.size + 1 + 1, 1, none⟩ = _ := tr.c1
    have qf : ∀ i, V.frozen? ⟨w.heap.size + 1 + 1, i, none⟩ = false := tr.fz
    have bD : Below w.heap.size w V.drew := bthen bV (drw1 V)
    clear hc
    go_wp2_with fail
    rw [← hV]
    have HV := hd hV
    clear hV
    go_region
    go_wp2_with fail
    refine bodyPost_ret (v := .tuple #[.slice none 0 0, .agg #[.int .i64 D1, .int .i64 D2]]) (by simp [results, Try.results20, go_sem, q0, q1]) rfl ⟨_, rfl, IsV_nil _ _, ?_⟩
    exact (bD.setCell (p := ⟨w.heap.size + 2, 0, none⟩) (by show w.heap.size ≤ w.heap.size + 2; omega) _).setCell (p := ⟨w.heap.size + 2, 1, none⟩) (by show w.heap.size ≤ w.heap.size + 2; omega) _
  subst hc
  obtain ⟨hg0, h400, hfit, hd2⟩ := HZ.out rfl
  subst hd2
  have hl : L = wdT g.rules t := by rw [HL.out, if_pos rfl]
  have hwl := wdT_len hs t
  have hN : ∀ k : Nat, (Value.slice none 0 0).ownBlock ≠ some k := fun k h => by simp [Value.ownBlock] at h
  have SV := SL V (.agg #[.int .i64 g.vars, .int .i64 g.terms, .int .i64 g.start, .slice ao g.rules.length cap]) (.agg #[.int .i64 t.rule, .slice at_ t.kids.len ct]) bV
    ⟨_, rfl, (ra.lw bV).kp (Kp.of_below (Below.refl _ _)) (fun q _ _ => hN q)⟩ ⟨_, rfl, (kt.lw bV).kp (Kp.of_below (Below.refl _ _)) (fun q _ _ => hN q)⟩ (near_of hg0) hfit (by simp; omega)
  simp only [List.nil_append] at SV
  rw [← hl] at SV hwl
  have u0 := alcell (bkeep hb1 x0) (.cells #[.int .i64 0, .int .i64 0] 30)
  have u1 := alcell (bkeep hb1 x1) (.cells #[.int .i64 0, .int .i64 0] 30)
  have u2 := alcell (bkeep hb1 x2) (.cells #[.int .i64 0, .int .i64 0] 30)
  have u3 := alcell (bkeep hb1 x3) (.cells #[.int .i64 0, .int .i64 0] 30)
  have u4 := alcell (bkeep hb1 y0) (.cells #[.int .i64 0, .int .i64 0] 30)
  have u5 := alcell (bkeep hb1 y1) (.cells #[.int .i64 0, .int .i64 0] 30)
  have HH := hd hl
  have Hg0 := hd hg0
  clear SL hl hfit hg0 x0 x1 x2 x3 y0 y1
  go_wp2_with fail
  rw [← hV]
  have HV := hd hV
  clear hV
  refine SV.mono ?_
  rintro e w2 ⟨vo, rfl, own2, grow2, hat2⟩
  have hb2 : Below V.heap.size V w2 := grown_below grow2
  have b2 := bthen bV hb2
  have t2 := tr.below hb2
  have q0 := t2.c0
  have q1 := t2.c1
  have qf := t2.fz
  have iv : IsV w2 (fun k => V.heap.size ≤ k) vo L := IsV_owned own2 (by omega) (fun q e => (own2.lt q e).1)
  have hVz := bV.size
  have z1 := bthen hWb hb1
  have z2 := z1.size
  have hVz' : V.heap.size = w1.heap.size + 1 := by rw [HV.out]; simp
  have hWz : w.heap.size + 3 ≤ W.heap.size := by rw [HW.out]; simp
  have hWw1 := hb1.size
  go_wp2_with fail
  refine bodyPost_ret (v := .tuple #[vo, .agg #[.int .i64 0, .int .i64 0]]) (by simp [results, Try.results20, go_sem, q0, q1]) rfl ⟨_, rfl, ?_, ?_⟩
  · refine iv.kp (((Kp.refl _ w2).setCell (p := ⟨w.heap.size + 2, 0, none⟩) (.inl ?_) _).setCell (p := ⟨w.heap.size + 2, 1, none⟩) (.inl ?_) _) (fun q _ h => by show w.heap.size ≤ q; have : V.heap.size ≤ q := h; omega) <;> (show ¬ V.heap.size ≤ w.heap.size + 2; omega)
  · exact (b2.setCell (p := ⟨w.heap.size + 2, 0, none⟩) (by show w.heap.size ≤ w.heap.size + 2; omega) _).setCell (p := ⟨w.heap.size + 2, 1, none⟩) (by show w.heap.size ≤ w.heap.size + 2; omega) _
end Go.Proofs.Ytlhdppkllmnmkae.G
