/- A forest is asked: what it tells, or why it gave up. -/
import Derived.Test.YtlhdppkllmnmkaeL17
import Derived.Test.YtlhdppkllmnmkaeL20
import Derived.Defers
import Derived.Recover
namespace Go.Proofs.Ytlhdppkllmnmkae.G
open Go.RowKit Go.Maps
/-- A telling, as a function value. -/
def Tel (w : World) (g : Gm) (W : List Int) (P : World → Value → World → Prop) (fl : Int) (f : Value) : Prop := ∃ (id : Nat) (rc cs : Array Value), f = .func (.func id) rc cs ∧ Cal id ∧
  ∀ (fb cb tb rb : Nat) (E : BitVec 64) (vR vW vg : Value) (room : Nat) (u : World), CkG g W g.vars.toNat → (∀ v : Int, hasB E v = true ↔ Nul g.rules v) → Below w.heap.size w u → FoS u fb cb tb rb g W g.vars.toNat E vR vW vg room →
    Calls Try.prog id (rc.push (.pointer (some ⟨fb, 0, none⟩)) ++ cs) u (TellR fb tb rb P fl u)
/-- How asking ends. -/
def AskR (g : Gm) (W : List Int) (P : World → Value → World → Prop) (fl : Int) (z : Value) (w : World) (e : Ending) (w' : World) : Prop :=
  Below w.heap.size w w' ∧ (((chFl g W).1 ≠ 0 ∧ e = .returned (.tuple #[z, .agg #[.int .i64 (chFl g W).1, .int .i64 (chFl g W).2]])) ∨ ((chFl g W).1 = 0 ∧ CkG g W g.vars.toNat ∧ fl ≠ 0 ∧ e = .returned (.tuple #[z, .agg #[.int .i64 fl, .int .i64 (-1)]])) ∨
    ((chFl g W).1 = 0 ∧ CkG g W g.vars.toNat ∧ fl = 0 ∧ ∃ v, e = .returned (.tuple #[v, .agg #[.int .i64 0, .int .i64 0]]) ∧ P w v w'))
/-- What is told stays, and is new. -/
def Stays (P : World → Value → World → Prop) : Prop := ∀ (u w : World) (v : Value) (w1 w2 : World), P u v w1 → Kp (fun k => u.heap.size ≤ k) w1 w2 → w.heap.size ≤ u.heap.size → P w v w2
theorem CkG.vars {g : Gm} {W : List Int} {V : Nat} (h : CkG g W V) : V = g.vars.toNat := by have := h.rg.gv; omega
/-- A new forest. -/
theorem fo_new {w1 U : World} {cb tb rb fb : Nat} {g : Gm} {W : List Int} {V : Nat} {E : BitVec 64} {vR vW vg : Value} (hs : ChS w1 cb tb rb g W V E vR vW) (hk : ∀ b o v, w1.cell? ⟨b, o, none⟩ = some v → U.cell? ⟨b, o, none⟩ = some v) (hfb : fb = w1.heap.size)
    (hr : RsV w1 All vg g.rules) (ht : U.heap[tb]? = w1.heap[tb]?) (ho : U.heap[rb]? = w1.heap[rb]?)
    (h0 : U.cell? ⟨fb, 0, none⟩ = some (.pointer (some ⟨cb, 0, none⟩))) (h3 : U.cell? ⟨fb, 3, none⟩ = some (.int .i64 g.start)) (h4 : U.cell? ⟨fb, 4, none⟩ = some vg) (h5 : U.cell? ⟨fb, 5, none⟩ = some (.int .i64 W.length)) (h6 : U.cell? ⟨fb, 6, none⟩ = some (.int .i64 0)) (h7 : U.cell? ⟨fb, 7, none⟩ = some (.int .i64 0)) (h8 : U.cell? ⟨fb, 8, none⟩ = some (.int .i64 0)) (hz : ∀ i, U.frozen? ⟨fb, i, none⟩ = false) :
    FoS U fb cb tb rb g W V E vR vW vg 0 := by
  have kf : ∀ b o v, All b → w1.cell? ⟨b, o, none⟩ = some v → (fun k => k ≠ fb) b ∧ U.cell? ⟨b, o, none⟩ = some v := fun b o v _ hc => ⟨by have := lt_of_cell hc; show b ≠ fb; omega, hk b o v hc⟩
  have r' := hs.r.mono kf
  have x' := hs.x.mono kf
  exact ⟨⟨hk _ _ _ hs.c0, hk _ _ _ hs.c1, hk _ _ _ hs.c2, hk _ _ _ hs.c3, hk _ _ _ hs.c4, hk _ _ _ hs.c5, hk _ _ _ hs.c6, hk _ _ _ hs.c7, r'.all, x'.all, hs.t.of ht, hs.o.of ho, hs.ne⟩,
    ⟨h0, h3, h4, h5, hr.mono kf⟩, h6, h7, h8, hz, r', x', by have := lt_of_cell hs.c0; omega⟩
/-- A store of what is there already. -/
theorem set_idle {w : World} {p o b i : Nat} {u v : Value} (hu : w.cell? ⟨p, o, none⟩ = some u) (h : w.cell? ⟨b, i, none⟩ = some v) : (w.setCell ⟨p, o, none⟩ u).cell? ⟨b, i, none⟩ = some v := by
  by_cases hb : b = p
  · subst hb
    by_cases hi : i = o
    · subst hi
      rw [hu] at h
      rw [← h]; exact set_same hu
    · exact set_off h hi
  · exact set_other h hb
theorem askL_catch (pb fb r : Nat) (c a c0 a0 : Int) (u : TypeId) (pv : Value) (older : List PanicEntry) (w : World) (hq : w.cell? ⟨pb, 0, none⟩ = some (.pointer (some ⟨r, 0, none⟩)))
    (h5 : w.cell? ⟨r, 7, none⟩ = some (.int .i64 c)) (h6 : w.cell? ⟨r, 8, none⟩ = some (.int .i64 a)) (hc : c ≠ 0) (hf0 : w.cell? ⟨fb, 0, none⟩ = some (.int .i64 c0)) (hf1 : w.cell? ⟨fb, 1, none⟩ = some (.int .i64 a0)) (zf : ∀ i, w.frozen? ⟨fb, i, none⟩ = false) :
    CallsD Try.prog 70 #[.pointer (some ⟨pb, 0, none⟩), .pointer (some ⟨fb, 0, none⟩)] (.panicking ({ v := .iface u pv, recovered := false } :: older)) w fun e u' w' =>
      e = .returned (.tuple #[]) ∧ u' = .panicking ({ v := .iface u pv, recovered := true } :: older) ∧ w' = (w.setCell ⟨fb, 0, none⟩ (.int .i64 c)).setCell ⟨fb, 1, none⟩ (.int .i64 a) := by
  refine callsD_of_wpS Try.func70 rfl fun f₀ cs hu => ?_
  apply wpS_seq
  apply wpS_region
  simp [wpOpsS, go_sem, Try.ntmps70, Exit.thenS, hq, h5, Array.replicate]
  refine wpS_cond (t := true) (by simp [Act.eval, hc]) ?_
  simp only [if_true]
  apply wpS_seq
  apply wpS_region
  simp [wpOpsS, go_sem, recoverD, hu, Exit.thenS]
  refine wpS_of_wp ?_
  go_wp2_with fail
  simp [bodyPostS, results, Try.results70]
theorem askL_idle (pb fb r : Nat) (w : World) (hq : w.cell? ⟨pb, 0, none⟩ = some (.pointer (some ⟨r, 0, none⟩))) (h5 : w.cell? ⟨r, 7, none⟩ = some (.int .i64 0)) :
    CallsD Try.prog 70 #[.pointer (some ⟨pb, 0, none⟩), .pointer (some ⟨fb, 0, none⟩)] .returning w fun e u' w' =>
      e = .returned (.tuple #[]) ∧ u' = .returning ∧ w' = w := by
  refine callsD_of_wpS Try.func70 rfl fun f₀ cs hu => ?_
  apply wpS_seq
  apply wpS_region
  simp [wpOpsS, go_sem, Try.ntmps70, Exit.thenS, hq, h5, Array.replicate]
  refine wpS_cond (t := false) (by simp [Act.eval]) ?_
  simp only [Bool.false_eq_true, if_false]
  refine wpS_of_wp (wp_skip ?_)
  cases f₀
  simp_all [bodyPostS, results, Try.results70]
set_option maxRecDepth 100000 in
set_option maxHeartbeats 1000000 in
theorem askL_wrong (g : Gm) (W : List Int) (va vw f : Value) (w : World) (P : World → Value → World → Prop) (fl : Int) (hg : GV w All va g) (hw : IsV w All vw W) (hc0 : (chFl g W).1 ≠ 0) :
    Calls Try.prog 49 #[va, vw, f] w (AskR g W P fl (.slice none 0 0) w) := by
  obtain ⟨vg, rfl, hr⟩ := hg
  obtain ⟨ag, cg, rfl⟩ := hr.slice
  obtain ⟨aw, cw, rfl⟩ := hw.slice
  have hmf : ∀ (fn : Fn) (first cap : Array Value) (w : World), (Instr.makeFunc fn first cap).run Try.prog w = .ok (.func fn first cap) w := fun _ _ _ _ => rfl
  obtain ⟨Y, hY⟩ : ∃ Y, Y = (w.alloc (.cells #[.int .i64 g.vars, .int .i64 g.terms, .int .i64 g.start, .slice ag g.rules.length cg] 24)).alloc (.cells #[.int .i64 0, .int .i64 0] 30) := ⟨_, rfl⟩
  have hbY : Below w.heap.size w Y := by rw [hY]; exact al2 _ _ _
  have f0 : Y.cell? ⟨w.heap.size + 1, 0, none⟩ = some (.int .i64 0) := by rw [hY]; simp [go_sem]
  have f1 : Y.cell? ⟨w.heap.size + 1, 1, none⟩ = some (.int .i64 0) := by rw [hY]; simp [go_sem]
  have ff : ∀ i, Y.frozen? ⟨w.heap.size + 1, i, none⟩ = false := fun i => by rw [hY]; simp [go_sem]
  have NW := chnew_any g W _ _ Y ⟨_, rfl, hr.lw hbY⟩ (hw.lw hbY)
  unfold NewR at NW
  obtain ⟨⟨c, a⟩, hF⟩ : ∃ F, F = chFl g W := ⟨_, rfl⟩
  rw [← hF] at hc0 NW
  simp only at hc0 NW
  have HF := hd hF
  clear hF
  have hcB : (c != 0) = true := by simpa using hc0
  go_enter_defers Try.func49, Try.ntmps49
  go_wp2_with fail
  rw [← hY]
  refine NW.mono ?_
  rintro e w1 ⟨hb1, ⟨_, rfl⟩ | ⟨_, _, _, _, _, _, _, hz, _⟩⟩
  · have HY := hd hY
    clear hY NW
    obtain ⟨g0, g1, gf⟩ : w1.cell? ⟨w.heap.size + 1, 0, none⟩ = some (.int .i64 0) ∧ w1.cell? ⟨w.heap.size + 1, 1, none⟩ = some (.int .i64 0) ∧ ∀ i, w1.frozen? ⟨w.heap.size + 1, i, none⟩ = false := ⟨bkeep hb1 f0, bkeep hb1 f1, fun i => by rw [hb1.frozen (p := ⟨w.heap.size + 1, i, none⟩) (lt_of_cell f0)]; exact ff i⟩
    go_upto_region 3 with fail
    obtain ⟨U, hU⟩ : ∃ U, U = (w1.setCell ⟨w.heap.size + 1, 0, none⟩ (.int .i64 c)).setCell ⟨w.heap.size + 1, 1, none⟩ (.int .i64 a) := ⟨_, rfl⟩
    have zY : w.heap.size + 2 = Y.heap.size := by rw [HY.out]; simp
    have zb1 := hb1.size
    have bU : Below w.heap.size w U := by rw [hU]; exact ((bthen hbY hb1).setCell (p := ⟨w.heap.size + 1, 0, none⟩) (by show w.heap.size ≤ w.heap.size + 1; omega) _).setCell (p := ⟨w.heap.size + 1, 1, none⟩) (by show w.heap.size ≤ w.heap.size + 1; omega) _
    have u0 : U.cell? ⟨w.heap.size + 1, 0, none⟩ = some (.int .i64 c) := by rw [hU]; exact set_off (set_same g0) (by decide)
    have u1 : U.cell? ⟨w.heap.size + 1, 1, none⟩ = some (.int .i64 a) := by rw [hU]; exact set_same (set_off g1 (by decide))
    have uf : ∀ i, U.frozen? ⟨w.heap.size + 1, i, none⟩ = false := fun i => by rw [hU]; simp [go_sem, gf]
    rw [← hU]
    have HU := hd hU
    clear hU
    go_region
    go_wp2_with fail
    obtain ⟨Z, hZ⟩ : ∃ Z, Z = (U.setCell ⟨w.heap.size + 1, 0, none⟩ (.int .i64 c)).setCell ⟨w.heap.size + 1, 1, none⟩ (.int .i64 a) := ⟨_, rfl⟩
    have y6 : Z.cell? ⟨w.heap.size + 1, 0, none⟩ = some (.int .i64 c) := by rw [hZ]; exact set_off (set_same u0) (by decide)
    have y7 : Z.cell? ⟨w.heap.size + 1, 1, none⟩ = some (.int .i64 a) := by rw [hZ]; exact set_same (set_off u1 (by decide))
    have bZ : Below w.heap.size w Z := by rw [hZ]; exact (bU.setCell (p := ⟨w.heap.size + 1, 0, none⟩) (by show w.heap.size ≤ w.heap.size + 1; omega) _).setCell (p := ⟨w.heap.size + 1, 1, none⟩) (by show w.heap.size ≤ w.heap.size + 1; omega) _
    rw [← hZ]
    clear hZ
    refine ⟨.tuple #[.slice none 0 0, .agg #[.int .i64 c, .int .i64 a]], ?_, bthen bZ (drw1 _), .inl ⟨by rw [← HF.out]; exact hc0, by rw [← HF.out]⟩⟩
    simp [results, Try.results49, go_sem, y6, y7]
  · exact absurd hz hc0
set_option maxRecDepth 100000 in
set_option maxHeartbeats 1000000 in
theorem askL_right (g : Gm) (W : List Int) (va vw f : Value) (w : World) (P : World → Value → World → Prop) (fl : Int) (hg : GV w All va g) (hw : IsV w All vw W) (hc0 : (chFl g W).1 = 0) (hT : Tel w g W P fl f) (hP : Stays P)
    : Calls Try.prog 49 #[va, vw, f] w (AskR g W P fl (.slice none 0 0) w) := by
  obtain ⟨id, rc, cs, rfl, hcal, hT⟩ := hT
  obtain ⟨vg, rfl, hr⟩ := hg
  obtain ⟨ag, cg, rfl⟩ := hr.slice
  obtain ⟨aw, cw, rfl⟩ := hw.slice
  have hmf : ∀ (fn : Fn) (first cap : Array Value) (w : World), (Instr.makeFunc fn first cap).run Try.prog w = .ok (.func fn first cap) w := fun _ _ _ _ => rfl
  obtain ⟨Y, hY⟩ : ∃ Y, Y = (w.alloc (.cells #[.int .i64 g.vars, .int .i64 g.terms, .int .i64 g.start, .slice ag g.rules.length cg] 24)).alloc (.cells #[.int .i64 0, .int .i64 0] 30) := ⟨_, rfl⟩
  have hbY : Below w.heap.size w Y := by rw [hY]; exact al2 _ _ _
  have f0 : Y.cell? ⟨w.heap.size + 1, 0, none⟩ = some (.int .i64 0) := by rw [hY]; simp [go_sem]
  have f1 : Y.cell? ⟨w.heap.size + 1, 1, none⟩ = some (.int .i64 0) := by rw [hY]; simp [go_sem]
  have ff : ∀ i, Y.frozen? ⟨w.heap.size + 1, i, none⟩ = false := fun i => by rw [hY]; simp [go_sem]
  have b0 : Y.cell? ⟨w.heap.size, 0, none⟩ = some (.int .i64 g.vars) := by rw [hY]; simp [go_sem]
  have b1 : Y.cell? ⟨w.heap.size, 1, none⟩ = some (.int .i64 g.terms) := by rw [hY]; simp [go_sem]
  have b2 : Y.cell? ⟨w.heap.size, 2, none⟩ = some (.int .i64 g.start) := by rw [hY]; simp [go_sem]
  have b3 : Y.cell? ⟨w.heap.size, 3, none⟩ = some (.slice ag g.rules.length cg) := by rw [hY]; simp [go_sem]
  have zY : w.heap.size + 2 = Y.heap.size := by rw [hY]; simp
  have NW := chnew_any g W _ _ Y ⟨_, rfl, hr.lw hbY⟩ (hw.lw hbY)
  unfold NewR at NW
  have HC0 := hd hc0
  clear hc0
  unfold Cal at hcal
  go_enter_defers Try.func49, Try.ntmps49
  go_wp2_with fail
  rw [← hY]
  have HY := hd hY
  clear hY
  refine NW.mono ?_
  rintro e w1 ⟨hb1, ⟨hz, _⟩ | ⟨cb, tb, rb, V, E, vR, vW, _, _, rfl, hG, hE, hs, h1, h2, h3⟩⟩
  · exact absurd HC0.out hz
  obtain rfl := hG.vars
  have bY1 := bthen hbY hb1
  have g0 := bkeep hb1 f0
  have g1 := bkeep hb1 f1
  have gf : ∀ i, w1.frozen? ⟨w.heap.size + 1, i, none⟩ = false := fun i => by rw [hb1.frozen (p := ⟨w.heap.size + 1, i, none⟩) (lt_of_cell f0)]; exact ff i
  have d0 := bkeep hb1 b0
  have d1 := bkeep hb1 b1
  have d2 := bkeep hb1 b2
  have d3 := bkeep hb1 b3
  have zb1 := hb1.size
  obtain ⟨w2, hw2⟩ : ∃ w2, w2 = (w1.setCell ⟨w.heap.size + 1, 0, none⟩ (.int .i64 0)).setCell ⟨w.heap.size + 1, 1, none⟩ (.int .i64 0) := ⟨_, rfl⟩
  have z2 : w2.heap.size = w1.heap.size := by rw [hw2]; simp [World.setCell]
  have k12 : ∀ b o v, w1.cell? ⟨b, o, none⟩ = some v → w2.cell? ⟨b, o, none⟩ = some v := fun b o v hc => by rw [hw2]; exact set_idle (set_off g1 (by decide)) (set_idle g0 hc)
  have kh : ∀ k, k ≠ w.heap.size + 1 → w2.heap[k]? = w1.heap[k]? := fun k hk => by rw [hw2]; exact (setc_ne hk).trans (setc_ne hk)
  have bw2 : Below w.heap.size w w2 := by rw [hw2]; exact (bY1.setCell (p := ⟨w.heap.size + 1, 0, none⟩) (by show w.heap.size ≤ w.heap.size + 1; omega) _).setCell (p := ⟨w.heap.size + 1, 1, none⟩) (by show w.heap.size ≤ w.heap.size + 1; omega) _
  obtain ⟨U, hU⟩ : ∃ U, U = (w2.alloc (.cells #[.pointer (some ⟨cb, 0, none⟩), .int .i64 g.vars, .int .i64 g.terms, .int .i64 g.start, .slice ag g.rules.length cg, .int .i64 W.length, .int .i64 0, .int .i64 0, .int .i64 0] 99)).alloc (.cells #[.pointer (some ⟨w1.heap.size, 0, none⟩)] 77) := ⟨_, rfl⟩
  have hbU : Below w2.heap.size w2 U := by rw [hU]; exact al2 _ _ _
  have bU : Below w.heap.size w U := bthen bw2 hbU
  have kU : ∀ b o v, w1.cell? ⟨b, o, none⟩ = some v → U.cell? ⟨b, o, none⟩ = some v := fun b o v hc => bkeep hbU (k12 b o v hc)
  have nt : tb ≠ w.heap.size + 1 := Ne.symm (memo_ne hs.t g0)
  have nr : rb ≠ w.heap.size + 1 := Ne.symm (memo_ne hs.o g0)
  have lt1 := hs.t.lt
  have lr1 := hs.o.lt
  have FU : FoS U w1.heap.size cb tb rb g W g.vars.toNat E vR vW (.slice ag g.rules.length cg) 0 := by
    refine fo_new hs kU rfl (hr.mono fun b o v _ hc => ⟨trivial, bkeep bY1 hc⟩) ((hbU.block tb (by omega)).trans (kh tb nt)) ((hbU.block rb (by omega)).trans (kh rb nr)) ?_ ?_ ?_ ?_ ?_ ?_ ?_ ?_
    all_goals rw [hU, ← z2]; simp [go_sem]
  have pU : U.cell? ⟨w1.heap.size + 1, 0, none⟩ = some (.pointer (some ⟨w1.heap.size, 0, none⟩)) := by rw [hU, ← z2]; simp [go_sem]
  have TA := hT _ cb tb rb E vR vW _ 0 U hG hE bU FU
  have hUz : U.heap.size = w1.heap.size + 2 := by rw [hU, ← z2]; simp
  have HG := hd hG
  clear hT NW hG hE b0 b1 b2 b3 ff
  go_wp2_with fail
  rw [← hw2, ← hU]
  have HU := hd hU
  have HW2 := hd hw2
  clear hU hw2
  have lF := lt_of_cell g0
  have q0' : U.cell? ⟨w.heap.size + 1, 0, none⟩ = some (.int .i64 0) := kU _ _ _ g0
  have q1' : U.cell? ⟨w.heap.size + 1, 1, none⟩ = some (.int .i64 0) := kU _ _ _ g1
  have qf' : ∀ i, U.frozen? ⟨w.heap.size + 1, i, none⟩ = false := fun i => by
    rw [World.frozen?_of_block (w := w2) (a := ⟨w.heap.size + 1, i, none⟩) (hbU.block (w.heap.size + 1) (by omega)), HW2.out]
    simp [go_sem, gf]
  refine TA.mono ?_
  rintro e w3 (⟨hfl, rfl, p7, p8, kf⟩ | ⟨hfl, v, rfl, hv, p7, p8, kf⟩)
  · have q0 := kf.cell q0' (Ne.symm nt) (Ne.symm nr) (by omega)
    have q1 := kf.cell q1' (Ne.symm nt) (Ne.symm nr) (by omega)
    have qp := kf.cell pU (by omega) (by omega) (by omega)
    have qf : ∀ i, w3.frozen? ⟨w.heap.size + 1, i, none⟩ = false := fun i => (World.frozen?_of_block (a := ⟨w.heap.size + 1, i, none⟩) (kf.block (w.heap.size + 1) (by omega) (Ne.symm nt) (Ne.symm nr) (by omega))).trans (qf' i)
    have b3 : Below w.heap.size w w3 := bU.trans (kf.below (by omega) (by omega) (by omega) bU.size)
    go_wp2_with fail
    refine leaves_cons (f := 70) (args := #[.pointer (some ⟨w1.heap.size + 1, 0, none⟩), .pointer (some ⟨w.heap.size + 1, 0, none⟩)]) (by simp) (by simp [go_sem]) ?_
    refine (askL_catch (w1.heap.size + 1) (w.heap.size + 1) w1.heap.size fl (-1) 0 0 _ _ [] w3 qp p7 p8 hfl q0 q1 qf).mono ?_
    rintro e u' w4 ⟨rfl, rfl, rfl⟩
    simp only [Leaves, settle, List.dropWhile]
    have x0 : ((w3.setCell ⟨w.heap.size + 1, 0, none⟩ (.int .i64 fl)).setCell ⟨w.heap.size + 1, 1, none⟩ (.int .i64 (-1))).cell? ⟨w.heap.size + 1, 0, none⟩ = some (.int .i64 fl) := set_off (set_same q0) (by decide)
    have x1 : ((w3.setCell ⟨w.heap.size + 1, 0, none⟩ (.int .i64 fl)).setCell ⟨w.heap.size + 1, 1, none⟩ (.int .i64 (-1))).cell? ⟨w.heap.size + 1, 1, none⟩ = some (.int .i64 (-1)) := set_same (set_off q1 (by decide))
    have b4 : Below w.heap.size w ((w3.setCell ⟨w.heap.size + 1, 0, none⟩ (.int .i64 fl)).setCell ⟨w.heap.size + 1, 1, none⟩ (.int .i64 (-1))) := (b3.setCell (p := ⟨w.heap.size + 1, 0, none⟩) (by show w.heap.size ≤ w.heap.size + 1; omega) _).setCell (p := ⟨w.heap.size + 1, 1, none⟩) (by show w.heap.size ≤ w.heap.size + 1; omega) _
    generalize (w3.setCell ⟨w.heap.size + 1, 0, none⟩ (.int .i64 fl)).setCell ⟨w.heap.size + 1, 1, none⟩ (.int .i64 (-1)) = w5 at *
    refine ⟨.tuple #[.slice none 0 0, .agg #[.int .i64 fl, .int .i64 (-1)]], ?_, b4, .inr (.inl ⟨HC0.out, HG.out, hfl, rfl⟩)⟩
    simp [results, Try.results49, go_sem, x0, x1]
  · have q0 := kf.cell q0' (Ne.symm nt) (Ne.symm nr) (by omega)
    have q1 := kf.cell q1' (Ne.symm nt) (Ne.symm nr) (by omega)
    have qp := kf.cell pU (by omega) (by omega) (by omega)
    have qf : ∀ i, w3.frozen? ⟨w.heap.size + 1, i, none⟩ = false := fun i => (World.frozen?_of_block (a := ⟨w.heap.size + 1, i, none⟩) (kf.block (w.heap.size + 1) (by omega) (Ne.symm nt) (Ne.symm nr) (by omega))).trans (qf' i)
    have b3 : Below w.heap.size w w3 := bU.trans (kf.below (by omega) (by omega) (by omega) bU.size)
    have zU : w.heap.size + 2 ≤ U.heap.size := by omega
    obtain ⟨w4, hw4⟩ : ∃ w4, w4 = (w3.setCell ⟨w.heap.size + 1, 0, none⟩ (.int .i64 0)).setCell ⟨w.heap.size + 1, 1, none⟩ (.int .i64 0) := ⟨_, rfl⟩
    have x0 : w4.cell? ⟨w.heap.size + 1, 0, none⟩ = some (.int .i64 0) := by rw [hw4]; exact set_off (set_same q0) (by decide)
    have x1 : w4.cell? ⟨w.heap.size + 1, 1, none⟩ = some (.int .i64 0) := by rw [hw4]; exact set_same (set_off q1 (by decide))
    have x7 : w4.cell? ⟨w1.heap.size, 7, none⟩ = some (.int .i64 0) := by rw [hw4]; exact set_other (set_other p7 (by omega)) (by omega)
    have xp : w4.cell? ⟨w1.heap.size + 1, 0, none⟩ = some (.pointer (some ⟨w1.heap.size, 0, none⟩)) := by rw [hw4]; exact set_other (set_other qp (by omega)) (by omega)
    have b4 : Below w.heap.size w w4 := by rw [hw4]; exact (b3.setCell (p := ⟨w.heap.size + 1, 0, none⟩) (by show w.heap.size ≤ w.heap.size + 1; omega) _).setCell (p := ⟨w.heap.size + 1, 1, none⟩) (by show w.heap.size ≤ w.heap.size + 1; omega) _
    have kp4 : Kp (fun k => U.heap.size ≤ k) w3 w4 := by rw [hw4]; exact ((Kp.refl _ w3).setCell (.inl (by show ¬ (_ ≤ w.heap.size + 1); omega)) _).setCell (.inl (by show ¬ (_ ≤ w.heap.size + 1); omega)) _
    have HV := hd (hP U w _ w3 w4 hv kp4 bU.size)
    clear hv
    go_wp2_with fail
    rw [← hw4]
    have HW4 := hd hw4
    clear hw4
    refine leaves_cons (f := 70) (args := #[.pointer (some ⟨w1.heap.size + 1, 0, none⟩), .pointer (some ⟨w.heap.size + 1, 0, none⟩)]) (by simp) (by simp [go_sem]) ?_
    refine (askL_idle (w1.heap.size + 1) (w.heap.size + 1) w1.heap.size w4 xp x7).mono ?_
    rintro e u' w5 ⟨rfl, rfl, rfl⟩
    simp only [Leaves, settle]
    refine ⟨.tuple #[v, .agg #[.int .i64 0, .int .i64 0]], ?_, b4, .inr (.inr ⟨HC0.out, HG.out, hfl, _, rfl, HV.out⟩)⟩
    simp [results, Try.results49, go_sem, x0, x1]
theorem askT_catch (pb fb r : Nat) (c a c0 a0 : Int) (u : TypeId) (pv : Value) (older : List PanicEntry) (w : World) (hq : w.cell? ⟨pb, 0, none⟩ = some (.pointer (some ⟨r, 0, none⟩)))
    (h5 : w.cell? ⟨r, 7, none⟩ = some (.int .i64 c)) (h6 : w.cell? ⟨r, 8, none⟩ = some (.int .i64 a)) (hc : c ≠ 0) (hf0 : w.cell? ⟨fb, 0, none⟩ = some (.int .i64 c0)) (hf1 : w.cell? ⟨fb, 1, none⟩ = some (.int .i64 a0)) (zf : ∀ i, w.frozen? ⟨fb, i, none⟩ = false) :
    CallsD Try.prog 62 #[.pointer (some ⟨pb, 0, none⟩), .pointer (some ⟨fb, 0, none⟩)] (.panicking ({ v := .iface u pv, recovered := false } :: older)) w fun e u' w' =>
      e = .returned (.tuple #[]) ∧ u' = .panicking ({ v := .iface u pv, recovered := true } :: older) ∧ w' = (w.setCell ⟨fb, 0, none⟩ (.int .i64 c)).setCell ⟨fb, 1, none⟩ (.int .i64 a) := by
  refine callsD_of_wpS Try.func62 rfl fun f₀ cs hu => ?_
  apply wpS_seq
  apply wpS_region
  simp [wpOpsS, go_sem, Try.ntmps62, Exit.thenS, hq, h5, Array.replicate]
  refine wpS_cond (t := true) (by simp [Act.eval, hc]) ?_
  simp only [if_true]
  apply wpS_seq
  apply wpS_region
  simp [wpOpsS, go_sem, recoverD, hu, Exit.thenS]
  refine wpS_of_wp ?_
  go_wp2_with fail
  simp [bodyPostS, results, Try.results62]
theorem askT_idle (pb fb r : Nat) (w : World) (hq : w.cell? ⟨pb, 0, none⟩ = some (.pointer (some ⟨r, 0, none⟩))) (h5 : w.cell? ⟨r, 7, none⟩ = some (.int .i64 0)) :
    CallsD Try.prog 62 #[.pointer (some ⟨pb, 0, none⟩), .pointer (some ⟨fb, 0, none⟩)] .returning w fun e u' w' =>
      e = .returned (.tuple #[]) ∧ u' = .returning ∧ w' = w := by
  refine callsD_of_wpS Try.func62 rfl fun f₀ cs hu => ?_
  apply wpS_seq
  apply wpS_region
  simp [wpOpsS, go_sem, Try.ntmps62, Exit.thenS, hq, h5, Array.replicate]
  refine wpS_cond (t := false) (by simp [Act.eval]) ?_
  simp only [Bool.false_eq_true, if_false]
  refine wpS_of_wp (wp_skip ?_)
  cases f₀
  simp_all [bodyPostS, results, Try.results62]
set_option maxRecDepth 100000 in
set_option maxHeartbeats 1000000 in
theorem askT_wrong (g : Gm) (W : List Int) (va vw f : Value) (w : World) (P : World → Value → World → Prop) (fl : Int) (hg : GV w All va g) (hw : IsV w All vw W) (hc0 : (chFl g W).1 ≠ 0) :
    Calls Try.prog 40 #[va, vw, f] w (AskR g W P fl (.agg #[.int .i64 0, .slice none 0 0]) w) := by
  obtain ⟨vg, rfl, hr⟩ := hg
  obtain ⟨ag, cg, rfl⟩ := hr.slice
  obtain ⟨aw, cw, rfl⟩ := hw.slice
  have hmf : ∀ (fn : Fn) (first cap : Array Value) (w : World), (Instr.makeFunc fn first cap).run Try.prog w = .ok (.func fn first cap) w := fun _ _ _ _ => rfl
  obtain ⟨Y, hY⟩ : ∃ Y, Y = ((w.alloc (.cells #[.int .i64 g.vars, .int .i64 g.terms, .int .i64 g.start, .slice ag g.rules.length cg] 24)).alloc (.cells #[.int .i64 0, .slice none 0 0] 44)).alloc (.cells #[.int .i64 0, .int .i64 0] 30) := ⟨_, rfl⟩
  have hbY : Below w.heap.size w Y := by rw [hY]; exact (al2 _ _ _).alloc (by simp; omega) _
  have f0 : Y.cell? ⟨w.heap.size + 1 + 1, 0, none⟩ = some (.int .i64 0) := by rw [hY]; simp [go_sem]
  have f1 : Y.cell? ⟨w.heap.size + 1 + 1, 1, none⟩ = some (.int .i64 0) := by rw [hY]; simp [go_sem]
  have ff : ∀ i, Y.frozen? ⟨w.heap.size + 1 + 1, i, none⟩ = false := fun i => by rw [hY]; simp [go_sem]
  have t0 : Y.cell? ⟨w.heap.size + 1, 0, none⟩ = some (.int .i64 0) := by rw [hY]; simp [go_sem]
  have t1 : Y.cell? ⟨w.heap.size + 1, 1, none⟩ = some (.slice none 0 0) := by rw [hY]; simp [go_sem]
  have tf : ∀ i, Y.frozen? ⟨w.heap.size + 1, i, none⟩ = false := fun i => by rw [hY]; simp [go_sem]
  have NW := chnew_any g W _ _ Y ⟨_, rfl, hr.lw hbY⟩ (hw.lw hbY)
  unfold NewR at NW
  obtain ⟨⟨c, a⟩, hF⟩ : ∃ F, F = chFl g W := ⟨_, rfl⟩
  rw [← hF] at hc0 NW
  simp only at hc0 NW
  have HF := hd hF
  clear hF
  have hcB : (c != 0) = true := by simpa using hc0
  go_enter_defers Try.func40, Try.ntmps40
  go_wp2_with fail
  rw [← hY]
  refine NW.mono ?_
  rintro e w1 ⟨hb1, ⟨_, rfl⟩ | ⟨_, _, _, _, _, _, _, hz, _⟩⟩
  · have HY := hd hY
    clear hY NW
    obtain ⟨g0, g1, gf⟩ : w1.cell? ⟨w.heap.size + 1 + 1, 0, none⟩ = some (.int .i64 0) ∧ w1.cell? ⟨w.heap.size + 1 + 1, 1, none⟩ = some (.int .i64 0) ∧ ∀ i, w1.frozen? ⟨w.heap.size + 1 + 1, i, none⟩ = false := ⟨bkeep hb1 f0, bkeep hb1 f1, fun i => by rw [hb1.frozen (p := ⟨w.heap.size + 1 + 1, i, none⟩) (lt_of_cell f0)]; exact ff i⟩
    go_upto_region 3 with fail
    obtain ⟨U, hU⟩ : ∃ U, U = (w1.setCell ⟨w.heap.size + 1 + 1, 0, none⟩ (.int .i64 c)).setCell ⟨w.heap.size + 1 + 1, 1, none⟩ (.int .i64 a) := ⟨_, rfl⟩
    have zY : w.heap.size + 3 = Y.heap.size := by rw [HY.out]; simp
    have zb1 := hb1.size
    have bU : Below w.heap.size w U := by rw [hU]; exact ((bthen hbY hb1).setCell (p := ⟨w.heap.size + 1 + 1, 0, none⟩) (by show w.heap.size ≤ w.heap.size + 1 + 1; omega) _).setCell (p := ⟨w.heap.size + 1 + 1, 1, none⟩) (by show w.heap.size ≤ w.heap.size + 1 + 1; omega) _
    have u0 : U.cell? ⟨w.heap.size + 1 + 1, 0, none⟩ = some (.int .i64 c) := by rw [hU]; exact set_off (set_same g0) (by decide)
    have u1 : U.cell? ⟨w.heap.size + 1 + 1, 1, none⟩ = some (.int .i64 a) := by rw [hU]; exact set_same (set_off g1 (by decide))
    have uf : ∀ i, U.frozen? ⟨w.heap.size + 1 + 1, i, none⟩ = false := fun i => by rw [hU]; simp [go_sem, gf]
    have s0 : U.cell? ⟨w.heap.size + 1, 0, none⟩ = some (.int .i64 0) := by rw [hU]; exact set_other (set_other (bkeep hb1 t0) (by omega)) (by omega)
    have s1 : U.cell? ⟨w.heap.size + 1, 1, none⟩ = some (.slice none 0 0) := by rw [hU]; exact set_other (set_other (bkeep hb1 t1) (by omega)) (by omega)
    have sf : ∀ i, U.frozen? ⟨w.heap.size + 1, i, none⟩ = false := fun i => by rw [hU]; simp [go_sem]; rw [hb1.frozen (p := ⟨w.heap.size + 1, i, none⟩) (lt_of_cell t0)]; exact tf i
    rw [← hU]
    have HU := hd hU
    clear hU
    go_region
    go_wp2_with fail
    obtain ⟨Z, hZ⟩ : ∃ Z, Z = (((U.setCell ⟨w.heap.size + 1, 0, none⟩ (.int .i64 0)).setCell ⟨w.heap.size + 1, 1, none⟩ (.slice none 0 0)).setCell ⟨w.heap.size + 1 + 1, 0, none⟩ (.int .i64 c)).setCell ⟨w.heap.size + 1 + 1, 1, none⟩ (.int .i64 a) := ⟨_, rfl⟩
    have y6 : Z.cell? ⟨w.heap.size + 1 + 1, 0, none⟩ = some (.int .i64 c) := by rw [hZ]; exact set_off (set_same (set_other (set_other u0 (by omega)) (by omega))) (by decide)
    have y7 : Z.cell? ⟨w.heap.size + 1 + 1, 1, none⟩ = some (.int .i64 a) := by rw [hZ]; exact set_same (set_off (set_other (set_other u1 (by omega)) (by omega)) (by decide))
    have y4 : Z.cell? ⟨w.heap.size + 1, 0, none⟩ = some (.int .i64 0) := by rw [hZ]; exact set_other (set_other (set_off (set_same s0) (by decide)) (by omega)) (by omega)
    have y5 : Z.cell? ⟨w.heap.size + 1, 1, none⟩ = some (.slice none 0 0) := by rw [hZ]; exact set_other (set_other (set_same (set_off s1 (by decide))) (by omega)) (by omega)
    have bZ : Below w.heap.size w Z := by rw [hZ]; exact (((bU.setCell (p := ⟨w.heap.size + 1, 0, none⟩) (by show w.heap.size ≤ w.heap.size + 1; omega) _).setCell (p := ⟨w.heap.size + 1, 1, none⟩) (by show w.heap.size ≤ w.heap.size + 1; omega) _).setCell (p := ⟨w.heap.size + 1 + 1, 0, none⟩) (by show w.heap.size ≤ w.heap.size + 1 + 1; omega) _).setCell (p := ⟨w.heap.size + 1 + 1, 1, none⟩) (by show w.heap.size ≤ w.heap.size + 1 + 1; omega) _
    rw [← hZ]
    clear hZ
    refine ⟨.tuple #[.agg #[.int .i64 0, .slice none 0 0], .agg #[.int .i64 c, .int .i64 a]], ?_, bthen bZ (drw1 _), .inl ⟨by rw [← HF.out]; exact hc0, by rw [← HF.out]⟩⟩
    simp [results, Try.results40, go_sem, y4, y5, y6, y7]
  · exact absurd hz hc0
set_option maxRecDepth 100000 in
set_option maxHeartbeats 1000000 in
theorem askT_right (g : Gm) (W : List Int) (va vw f : Value) (w : World) (P : World → Value → World → Prop) (fl : Int) (hg : GV w All va g) (hw : IsV w All vw W) (hc0 : (chFl g W).1 = 0) (hT : Tel w g W P fl f) (hP : Stays P)
    (hPT : ∀ u v w', P u v w' → ∃ (r : Int) (a : Option Addr) (n c : Nat), v = .agg #[.int .i64 r, .slice a n c])
    : Calls Try.prog 40 #[va, vw, f] w (AskR g W P fl (.agg #[.int .i64 0, .slice none 0 0]) w) := by
  obtain ⟨id, rc, cs, rfl, hcal, hT⟩ := hT
  obtain ⟨vg, rfl, hr⟩ := hg
  obtain ⟨ag, cg, rfl⟩ := hr.slice
  obtain ⟨aw, cw, rfl⟩ := hw.slice
  have hmf : ∀ (fn : Fn) (first cap : Array Value) (w : World), (Instr.makeFunc fn first cap).run Try.prog w = .ok (.func fn first cap) w := fun _ _ _ _ => rfl
  obtain ⟨Y, hY⟩ : ∃ Y, Y = ((w.alloc (.cells #[.int .i64 g.vars, .int .i64 g.terms, .int .i64 g.start, .slice ag g.rules.length cg] 24)).alloc (.cells #[.int .i64 0, .slice none 0 0] 44)).alloc (.cells #[.int .i64 0, .int .i64 0] 30) := ⟨_, rfl⟩
  have hbY : Below w.heap.size w Y := by rw [hY]; exact (al2 _ _ _).alloc (by simp; omega) _
  have f0 : Y.cell? ⟨w.heap.size + 1 + 1, 0, none⟩ = some (.int .i64 0) := by rw [hY]; simp [go_sem]
  have f1 : Y.cell? ⟨w.heap.size + 1 + 1, 1, none⟩ = some (.int .i64 0) := by rw [hY]; simp [go_sem]
  have ff : ∀ i, Y.frozen? ⟨w.heap.size + 1 + 1, i, none⟩ = false := fun i => by rw [hY]; simp [go_sem]
  have b0 : Y.cell? ⟨w.heap.size, 0, none⟩ = some (.int .i64 g.vars) := by rw [hY]; simp [go_sem]
  have b1 : Y.cell? ⟨w.heap.size, 1, none⟩ = some (.int .i64 g.terms) := by rw [hY]; simp [go_sem]
  have b2 : Y.cell? ⟨w.heap.size, 2, none⟩ = some (.int .i64 g.start) := by rw [hY]; simp [go_sem]
  have b3 : Y.cell? ⟨w.heap.size, 3, none⟩ = some (.slice ag g.rules.length cg) := by rw [hY]; simp [go_sem]
  have t0 : Y.cell? ⟨w.heap.size + 1, 0, none⟩ = some (.int .i64 0) := by rw [hY]; simp [go_sem]
  have t1 : Y.cell? ⟨w.heap.size + 1, 1, none⟩ = some (.slice none 0 0) := by rw [hY]; simp [go_sem]
  have tf : ∀ i, Y.frozen? ⟨w.heap.size + 1, i, none⟩ = false := fun i => by rw [hY]; simp [go_sem]
  have zY : w.heap.size + 3 = Y.heap.size := by rw [hY]; simp
  have NW := chnew_any g W _ _ Y ⟨_, rfl, hr.lw hbY⟩ (hw.lw hbY)
  unfold NewR at NW
  have HC0 := hd hc0
  clear hc0
  unfold Cal at hcal
  go_enter_defers Try.func40, Try.ntmps40
  go_wp2_with fail
  rw [← hY]
  have HY := hd hY
  clear hY
  refine NW.mono ?_
  rintro e w1 ⟨hb1, ⟨hz, _⟩ | ⟨cb, tb, rb, V, E, vR, vW, _, _, rfl, hG, hE, hs, h1, h2, h3⟩⟩
  · exact absurd HC0.out hz
  obtain rfl := hG.vars
  have bY1 := bthen hbY hb1
  have g0 := bkeep hb1 f0
  have g1 := bkeep hb1 f1
  have gf : ∀ i, w1.frozen? ⟨w.heap.size + 1 + 1, i, none⟩ = false := fun i => by rw [hb1.frozen (p := ⟨w.heap.size + 1 + 1, i, none⟩) (lt_of_cell f0)]; exact ff i
  have d0 := bkeep hb1 b0
  have d1 := bkeep hb1 b1
  have d2 := bkeep hb1 b2
  have d3 := bkeep hb1 b3
  have zb1 := hb1.size
  obtain ⟨w2, hw2⟩ : ∃ w2, w2 = (w1.setCell ⟨w.heap.size + 1 + 1, 0, none⟩ (.int .i64 0)).setCell ⟨w.heap.size + 1 + 1, 1, none⟩ (.int .i64 0) := ⟨_, rfl⟩
  have z2 : w2.heap.size = w1.heap.size := by rw [hw2]; simp [World.setCell]
  have k12 : ∀ b o v, w1.cell? ⟨b, o, none⟩ = some v → w2.cell? ⟨b, o, none⟩ = some v := fun b o v hc => by rw [hw2]; exact set_idle (set_off g1 (by decide)) (set_idle g0 hc)
  have kh : ∀ k, k ≠ w.heap.size + 1 + 1 → w2.heap[k]? = w1.heap[k]? := fun k hk => by rw [hw2]; exact (setc_ne hk).trans (setc_ne hk)
  have bw2 : Below w.heap.size w w2 := by rw [hw2]; exact (bY1.setCell (p := ⟨w.heap.size + 1 + 1, 0, none⟩) (by show w.heap.size ≤ w.heap.size + 1 + 1; omega) _).setCell (p := ⟨w.heap.size + 1 + 1, 1, none⟩) (by show w.heap.size ≤ w.heap.size + 1 + 1; omega) _
  obtain ⟨U, hU⟩ : ∃ U, U = (w2.alloc (.cells #[.pointer (some ⟨cb, 0, none⟩), .int .i64 g.vars, .int .i64 g.terms, .int .i64 g.start, .slice ag g.rules.length cg, .int .i64 W.length, .int .i64 0, .int .i64 0, .int .i64 0] 99)).alloc (.cells #[.pointer (some ⟨w1.heap.size, 0, none⟩)] 77) := ⟨_, rfl⟩
  have hbU : Below w2.heap.size w2 U := by rw [hU]; exact al2 _ _ _
  have bU : Below w.heap.size w U := bthen bw2 hbU
  have kU : ∀ b o v, w1.cell? ⟨b, o, none⟩ = some v → U.cell? ⟨b, o, none⟩ = some v := fun b o v hc => bkeep hbU (k12 b o v hc)
  have nt : tb ≠ w.heap.size + 1 + 1 := Ne.symm (memo_ne hs.t g0)
  have nr : rb ≠ w.heap.size + 1 + 1 := Ne.symm (memo_ne hs.o g0)
  have lt1 := hs.t.lt
  have lr1 := hs.o.lt
  have FU : FoS U w1.heap.size cb tb rb g W g.vars.toNat E vR vW (.slice ag g.rules.length cg) 0 := by
    refine fo_new hs kU rfl (hr.mono fun b o v _ hc => ⟨trivial, bkeep bY1 hc⟩) ((hbU.block tb (by omega)).trans (kh tb nt)) ((hbU.block rb (by omega)).trans (kh rb nr)) ?_ ?_ ?_ ?_ ?_ ?_ ?_ ?_
    all_goals rw [hU, ← z2]; simp [go_sem]
  have pU : U.cell? ⟨w1.heap.size + 1, 0, none⟩ = some (.pointer (some ⟨w1.heap.size, 0, none⟩)) := by rw [hU, ← z2]; simp [go_sem]
  have TA := hT _ cb tb rb E vR vW _ 0 U hG hE bU FU
  have hUz : U.heap.size = w1.heap.size + 2 := by rw [hU, ← z2]; simp
  have HG := hd hG
  clear hT NW hG hE b0 b1 b2 b3 ff
  go_wp2_with fail
  rw [← hw2, ← hU]
  have HU := hd hU
  have HW2 := hd hw2
  clear hU hw2
  have lF := lt_of_cell g0
  have q0' : U.cell? ⟨w.heap.size + 1 + 1, 0, none⟩ = some (.int .i64 0) := kU _ _ _ g0
  have q1' : U.cell? ⟨w.heap.size + 1 + 1, 1, none⟩ = some (.int .i64 0) := kU _ _ _ g1
  have qf' : ∀ i, U.frozen? ⟨w.heap.size + 1 + 1, i, none⟩ = false := fun i => by
    rw [World.frozen?_of_block (w := w2) (a := ⟨w.heap.size + 1 + 1, i, none⟩) (hbU.block (w.heap.size + 1 + 1) (by omega)), HW2.out]
    simp [go_sem, gf]
  have s0' : U.cell? ⟨w.heap.size + 1, 0, none⟩ = some (.int .i64 0) := kU _ _ _ (bkeep hb1 t0)
  have s1' : U.cell? ⟨w.heap.size + 1, 1, none⟩ = some (.slice none 0 0) := kU _ _ _ (bkeep hb1 t1)
  have sf' : ∀ i, U.frozen? ⟨w.heap.size + 1, i, none⟩ = false := fun i => by
    rw [World.frozen?_of_block (w := w2) (a := ⟨w.heap.size + 1, i, none⟩) (hbU.block (w.heap.size + 1) (by omega)), World.frozen?_of_block (w := w1) (a := ⟨w.heap.size + 1, i, none⟩) (kh (w.heap.size + 1) (by omega)), hb1.frozen (p := ⟨w.heap.size + 1, i, none⟩) (lt_of_cell t0)]; exact tf i
  have n1 : w.heap.size + 1 ≠ tb ∧ w.heap.size + 1 ≠ rb := ⟨memo_ne FU.ch.t s0', memo_ne FU.ch.o s0'⟩
  refine TA.mono ?_
  rintro e w3 (⟨hfl, rfl, p7, p8, kf⟩ | ⟨hfl, v, rfl, hv, p7, p8, kf⟩)
  · have q0 := kf.cell q0' (Ne.symm nt) (Ne.symm nr) (by omega)
    have q1 := kf.cell q1' (Ne.symm nt) (Ne.symm nr) (by omega)
    have qp := kf.cell pU (by omega) (by omega) (by omega)
    have qf : ∀ i, w3.frozen? ⟨w.heap.size + 1 + 1, i, none⟩ = false := fun i => (World.frozen?_of_block (a := ⟨w.heap.size + 1 + 1, i, none⟩) (kf.block (w.heap.size + 1 + 1) (by omega) (Ne.symm nt) (Ne.symm nr) (by omega))).trans (qf' i)
    have s0 := kf.cell s0' n1.1 n1.2 (by omega)
    have s1 := kf.cell s1' n1.1 n1.2 (by omega)
    have b3 : Below w.heap.size w w3 := bU.trans (kf.below (by omega) (by omega) (by omega) bU.size)
    go_wp2_with fail
    refine leaves_cons (f := 62) (args := #[.pointer (some ⟨w1.heap.size + 1, 0, none⟩), .pointer (some ⟨w.heap.size + 1 + 1, 0, none⟩)]) (by simp) (by simp [go_sem]) ?_
    refine (askT_catch (w1.heap.size + 1) (w.heap.size + 1 + 1) w1.heap.size fl (-1) 0 0 _ _ [] w3 qp p7 p8 hfl q0 q1 qf).mono ?_
    rintro e u' w4 ⟨rfl, rfl, rfl⟩
    simp only [Leaves, settle, List.dropWhile]
    have x0 : ((w3.setCell ⟨w.heap.size + 1 + 1, 0, none⟩ (.int .i64 fl)).setCell ⟨w.heap.size + 1 + 1, 1, none⟩ (.int .i64 (-1))).cell? ⟨w.heap.size + 1 + 1, 0, none⟩ = some (.int .i64 fl) := set_off (set_same q0) (by decide)
    have x1 : ((w3.setCell ⟨w.heap.size + 1 + 1, 0, none⟩ (.int .i64 fl)).setCell ⟨w.heap.size + 1 + 1, 1, none⟩ (.int .i64 (-1))).cell? ⟨w.heap.size + 1 + 1, 1, none⟩ = some (.int .i64 (-1)) := set_same (set_off q1 (by decide))
    have x2 : ((w3.setCell ⟨w.heap.size + 1 + 1, 0, none⟩ (.int .i64 fl)).setCell ⟨w.heap.size + 1 + 1, 1, none⟩ (.int .i64 (-1))).cell? ⟨w.heap.size + 1, 0, none⟩ = some (.int .i64 0) := set_other (set_other s0 (by omega)) (by omega)
    have x3 : ((w3.setCell ⟨w.heap.size + 1 + 1, 0, none⟩ (.int .i64 fl)).setCell ⟨w.heap.size + 1 + 1, 1, none⟩ (.int .i64 (-1))).cell? ⟨w.heap.size + 1, 1, none⟩ = some (.slice none 0 0) := set_other (set_other s1 (by omega)) (by omega)
    have b4 : Below w.heap.size w ((w3.setCell ⟨w.heap.size + 1 + 1, 0, none⟩ (.int .i64 fl)).setCell ⟨w.heap.size + 1 + 1, 1, none⟩ (.int .i64 (-1))) := (b3.setCell (p := ⟨w.heap.size + 1 + 1, 0, none⟩) (by show w.heap.size ≤ w.heap.size + 1 + 1; omega) _).setCell (p := ⟨w.heap.size + 1 + 1, 1, none⟩) (by show w.heap.size ≤ w.heap.size + 1 + 1; omega) _
    generalize (w3.setCell ⟨w.heap.size + 1 + 1, 0, none⟩ (.int .i64 fl)).setCell ⟨w.heap.size + 1 + 1, 1, none⟩ (.int .i64 (-1)) = w5 at *
    refine ⟨.tuple #[.agg #[.int .i64 0, .slice none 0 0], .agg #[.int .i64 fl, .int .i64 (-1)]], ?_, b4, .inr (.inl ⟨HC0.out, HG.out, hfl, rfl⟩)⟩
    simp [results, Try.results40, go_sem, x0, x1, x2, x3]
  · have q0 := kf.cell q0' (Ne.symm nt) (Ne.symm nr) (by omega)
    have q1 := kf.cell q1' (Ne.symm nt) (Ne.symm nr) (by omega)
    have qp := kf.cell pU (by omega) (by omega) (by omega)
    have qf : ∀ i, w3.frozen? ⟨w.heap.size + 1 + 1, i, none⟩ = false := fun i => (World.frozen?_of_block (a := ⟨w.heap.size + 1 + 1, i, none⟩) (kf.block (w.heap.size + 1 + 1) (by omega) (Ne.symm nt) (Ne.symm nr) (by omega))).trans (qf' i)
    have s0 := kf.cell s0' n1.1 n1.2 (by omega)
    have s1 := kf.cell s1' n1.1 n1.2 (by omega)
    have sf : ∀ i, w3.frozen? ⟨w.heap.size + 1, i, none⟩ = false := fun i => (World.frozen?_of_block (a := ⟨w.heap.size + 1, i, none⟩) (kf.block (w.heap.size + 1) (by omega) n1.1 n1.2 (by omega))).trans (sf' i)
    have b3 : Below w.heap.size w w3 := bU.trans (kf.below (by omega) (by omega) (by omega) bU.size)
    have zU : w.heap.size + 3 ≤ U.heap.size := by omega
    obtain ⟨tr, ta, tn, tc, rfl⟩ := hPT _ _ _ hv
    obtain ⟨w4, hw4⟩ : ∃ w4, w4 = (((w3.setCell ⟨w.heap.size + 1, 0, none⟩ (.int .i64 tr)).setCell ⟨w.heap.size + 1, 1, none⟩ (.slice ta tn tc)).setCell ⟨w.heap.size + 1 + 1, 0, none⟩ (.int .i64 0)).setCell ⟨w.heap.size + 1 + 1, 1, none⟩ (.int .i64 0) := ⟨_, rfl⟩
    have x0 : w4.cell? ⟨w.heap.size + 1 + 1, 0, none⟩ = some (.int .i64 0) := by rw [hw4]; exact set_off (set_same (set_other (set_other q0 (by omega)) (by omega))) (by decide)
    have x1 : w4.cell? ⟨w.heap.size + 1 + 1, 1, none⟩ = some (.int .i64 0) := by rw [hw4]; exact set_same (set_off (set_other (set_other q1 (by omega)) (by omega)) (by decide))
    have x2 : w4.cell? ⟨w.heap.size + 1, 0, none⟩ = some (.int .i64 tr) := by rw [hw4]; exact set_other (set_other (set_off (set_same s0) (by decide)) (by omega)) (by omega)
    have x3 : w4.cell? ⟨w.heap.size + 1, 1, none⟩ = some (.slice ta tn tc) := by rw [hw4]; exact set_other (set_other (set_same (set_off s1 (by decide))) (by omega)) (by omega)
    have x7 : w4.cell? ⟨w1.heap.size, 7, none⟩ = some (.int .i64 0) := by rw [hw4]; exact set_other (set_other (set_other (set_other p7 (by omega)) (by omega)) (by omega)) (by omega)
    have xp : w4.cell? ⟨w1.heap.size + 1, 0, none⟩ = some (.pointer (some ⟨w1.heap.size, 0, none⟩)) := by rw [hw4]; exact set_other (set_other (set_other (set_other qp (by omega)) (by omega)) (by omega)) (by omega)
    have b4 : Below w.heap.size w w4 := by rw [hw4]; exact (((b3.setCell (p := ⟨w.heap.size + 1, 0, none⟩) (by show w.heap.size ≤ w.heap.size + 1; omega) _).setCell (p := ⟨w.heap.size + 1, 1, none⟩) (by show w.heap.size ≤ w.heap.size + 1; omega) _).setCell (p := ⟨w.heap.size + 1 + 1, 0, none⟩) (by show w.heap.size ≤ w.heap.size + 1 + 1; omega) _).setCell (p := ⟨w.heap.size + 1 + 1, 1, none⟩) (by show w.heap.size ≤ w.heap.size + 1 + 1; omega) _
    have kp4 : Kp (fun k => U.heap.size ≤ k) w3 w4 := by rw [hw4]; exact ((((Kp.refl _ w3).setCell (.inl (by show ¬ (_ ≤ w.heap.size + 1); omega)) _).setCell (.inl (by show ¬ (_ ≤ w.heap.size + 1); omega)) _).setCell (.inl (by show ¬ (_ ≤ w.heap.size + 1 + 1); omega)) _).setCell (.inl (by show ¬ (_ ≤ w.heap.size + 1 + 1); omega)) _
    have HV := hd (hP U w _ w3 w4 hv kp4 bU.size)
    clear hv
    go_wp2_with fail
    rw [← hw4]
    have HW4 := hd hw4
    clear hw4
    refine leaves_cons (f := 62) (args := #[.pointer (some ⟨w1.heap.size + 1, 0, none⟩), .pointer (some ⟨w.heap.size + 1 + 1, 0, none⟩)]) (by simp) (by simp [go_sem]) ?_
    refine (askT_idle (w1.heap.size + 1) (w.heap.size + 1 + 1) w1.heap.size w4 xp x7).mono ?_
    rintro e u' w5 ⟨rfl, rfl, rfl⟩
    simp only [Leaves, settle]
    refine ⟨.tuple #[.agg #[.int .i64 tr, .slice ta tn tc], .agg #[.int .i64 0, .int .i64 0]], ?_, b4, .inr (.inr ⟨HC0.out, HG.out, hfl, _, rfl, HV.out⟩)⟩
    simp [results, Try.results40, go_sem, x0, x1, x2, x3]
theorem askI_catch (pb fb r : Nat) (c a c0 a0 : Int) (u : TypeId) (pv : Value) (older : List PanicEntry) (w : World) (hq : w.cell? ⟨pb, 0, none⟩ = some (.pointer (some ⟨r, 0, none⟩)))
    (h5 : w.cell? ⟨r, 7, none⟩ = some (.int .i64 c)) (h6 : w.cell? ⟨r, 8, none⟩ = some (.int .i64 a)) (hc : c ≠ 0) (hf0 : w.cell? ⟨fb, 0, none⟩ = some (.int .i64 c0)) (hf1 : w.cell? ⟨fb, 1, none⟩ = some (.int .i64 a0)) (zf : ∀ i, w.frozen? ⟨fb, i, none⟩ = false) :
    CallsD Try.prog 68 #[.pointer (some ⟨pb, 0, none⟩), .pointer (some ⟨fb, 0, none⟩)] (.panicking ({ v := .iface u pv, recovered := false } :: older)) w fun e u' w' =>
      e = .returned (.tuple #[]) ∧ u' = .panicking ({ v := .iface u pv, recovered := true } :: older) ∧ w' = (w.setCell ⟨fb, 0, none⟩ (.int .i64 c)).setCell ⟨fb, 1, none⟩ (.int .i64 a) := by
  refine callsD_of_wpS Try.func68 rfl fun f₀ cs hu => ?_
  apply wpS_seq
  apply wpS_region
  simp [wpOpsS, go_sem, Try.ntmps68, Exit.thenS, hq, h5, Array.replicate]
  refine wpS_cond (t := true) (by simp [Act.eval, hc]) ?_
  simp only [if_true]
  apply wpS_seq
  apply wpS_region
  simp [wpOpsS, go_sem, recoverD, hu, Exit.thenS]
  refine wpS_of_wp ?_
  go_wp2_with fail
  simp [bodyPostS, results, Try.results68]
theorem askI_idle (pb fb r : Nat) (w : World) (hq : w.cell? ⟨pb, 0, none⟩ = some (.pointer (some ⟨r, 0, none⟩))) (h5 : w.cell? ⟨r, 7, none⟩ = some (.int .i64 0)) :
    CallsD Try.prog 68 #[.pointer (some ⟨pb, 0, none⟩), .pointer (some ⟨fb, 0, none⟩)] .returning w fun e u' w' =>
      e = .returned (.tuple #[]) ∧ u' = .returning ∧ w' = w := by
  refine callsD_of_wpS Try.func68 rfl fun f₀ cs hu => ?_
  apply wpS_seq
  apply wpS_region
  simp [wpOpsS, go_sem, Try.ntmps68, Exit.thenS, hq, h5, Array.replicate]
  refine wpS_cond (t := false) (by simp [Act.eval]) ?_
  simp only [Bool.false_eq_true, if_false]
  refine wpS_of_wp (wp_skip ?_)
  cases f₀
  simp_all [bodyPostS, results, Try.results68]
set_option maxRecDepth 100000 in
set_option maxHeartbeats 1000000 in
theorem askI_wrong (g : Gm) (W : List Int) (va vw f : Value) (w : World) (P : World → Value → World → Prop) (fl : Int) (hg : GV w All va g) (hw : IsV w All vw W) (hc0 : (chFl g W).1 ≠ 0) :
    Calls Try.prog 45 #[va, vw, f] w (AskR g W P fl (.int .i64 0) w) := by
  obtain ⟨vg, rfl, hr⟩ := hg
  obtain ⟨ag, cg, rfl⟩ := hr.slice
  obtain ⟨aw, cw, rfl⟩ := hw.slice
  have hmf : ∀ (fn : Fn) (first cap : Array Value) (w : World), (Instr.makeFunc fn first cap).run Try.prog w = .ok (.func fn first cap) w := fun _ _ _ _ => rfl
  obtain ⟨Y, hY⟩ : ∃ Y, Y = (w.alloc (.cells #[.int .i64 g.vars, .int .i64 g.terms, .int .i64 g.start, .slice ag g.rules.length cg] 24)).alloc (.cells #[.int .i64 0, .int .i64 0] 30) := ⟨_, rfl⟩
  have hbY : Below w.heap.size w Y := by rw [hY]; exact al2 _ _ _
  have f0 : Y.cell? ⟨w.heap.size + 1, 0, none⟩ = some (.int .i64 0) := by rw [hY]; simp [go_sem]
  have f1 : Y.cell? ⟨w.heap.size + 1, 1, none⟩ = some (.int .i64 0) := by rw [hY]; simp [go_sem]
  have ff : ∀ i, Y.frozen? ⟨w.heap.size + 1, i, none⟩ = false := fun i => by rw [hY]; simp [go_sem]
  have NW := chnew_any g W _ _ Y ⟨_, rfl, hr.lw hbY⟩ (hw.lw hbY)
  unfold NewR at NW
  obtain ⟨⟨c, a⟩, hF⟩ : ∃ F, F = chFl g W := ⟨_, rfl⟩
  rw [← hF] at hc0 NW
  simp only at hc0 NW
  have HF := hd hF
  clear hF
  have hcB : (c != 0) = true := by simpa using hc0
  go_enter_defers Try.func45, Try.ntmps45
  go_wp2_with fail
  rw [← hY]
  refine NW.mono ?_
  rintro e w1 ⟨hb1, ⟨_, rfl⟩ | ⟨_, _, _, _, _, _, _, hz, _⟩⟩
  · have HY := hd hY
    clear hY NW
    obtain ⟨g0, g1, gf⟩ : w1.cell? ⟨w.heap.size + 1, 0, none⟩ = some (.int .i64 0) ∧ w1.cell? ⟨w.heap.size + 1, 1, none⟩ = some (.int .i64 0) ∧ ∀ i, w1.frozen? ⟨w.heap.size + 1, i, none⟩ = false := ⟨bkeep hb1 f0, bkeep hb1 f1, fun i => by rw [hb1.frozen (p := ⟨w.heap.size + 1, i, none⟩) (lt_of_cell f0)]; exact ff i⟩
    go_upto_region 3 with fail
    obtain ⟨U, hU⟩ : ∃ U, U = (w1.setCell ⟨w.heap.size + 1, 0, none⟩ (.int .i64 c)).setCell ⟨w.heap.size + 1, 1, none⟩ (.int .i64 a) := ⟨_, rfl⟩
    have zY : w.heap.size + 2 = Y.heap.size := by rw [HY.out]; simp
    have zb1 := hb1.size
    have bU : Below w.heap.size w U := by rw [hU]; exact ((bthen hbY hb1).setCell (p := ⟨w.heap.size + 1, 0, none⟩) (by show w.heap.size ≤ w.heap.size + 1; omega) _).setCell (p := ⟨w.heap.size + 1, 1, none⟩) (by show w.heap.size ≤ w.heap.size + 1; omega) _
    have u0 : U.cell? ⟨w.heap.size + 1, 0, none⟩ = some (.int .i64 c) := by rw [hU]; exact set_off (set_same g0) (by decide)
    have u1 : U.cell? ⟨w.heap.size + 1, 1, none⟩ = some (.int .i64 a) := by rw [hU]; exact set_same (set_off g1 (by decide))
    have uf : ∀ i, U.frozen? ⟨w.heap.size + 1, i, none⟩ = false := fun i => by rw [hU]; simp [go_sem, gf]
    rw [← hU]
    have HU := hd hU
    clear hU
    go_region
    go_wp2_with fail
    obtain ⟨Z, hZ⟩ : ∃ Z, Z = (U.setCell ⟨w.heap.size + 1, 0, none⟩ (.int .i64 c)).setCell ⟨w.heap.size + 1, 1, none⟩ (.int .i64 a) := ⟨_, rfl⟩
    have y6 : Z.cell? ⟨w.heap.size + 1, 0, none⟩ = some (.int .i64 c) := by rw [hZ]; exact set_off (set_same u0) (by decide)
    have y7 : Z.cell? ⟨w.heap.size + 1, 1, none⟩ = some (.int .i64 a) := by rw [hZ]; exact set_same (set_off u1 (by decide))
    have bZ : Below w.heap.size w Z := by rw [hZ]; exact (bU.setCell (p := ⟨w.heap.size + 1, 0, none⟩) (by show w.heap.size ≤ w.heap.size + 1; omega) _).setCell (p := ⟨w.heap.size + 1, 1, none⟩) (by show w.heap.size ≤ w.heap.size + 1; omega) _
    rw [← hZ]
    clear hZ
    refine ⟨.tuple #[.int .i64 0, .agg #[.int .i64 c, .int .i64 a]], ?_, bthen bZ (drw1 _), .inl ⟨by rw [← HF.out]; exact hc0, by rw [← HF.out]⟩⟩
    simp [results, Try.results45, go_sem, y6, y7]
  · exact absurd hz hc0
set_option maxRecDepth 100000 in
set_option maxHeartbeats 1000000 in
theorem askI_right (g : Gm) (W : List Int) (va vw f : Value) (w : World) (P : World → Value → World → Prop) (fl : Int) (hg : GV w All va g) (hw : IsV w All vw W) (hc0 : (chFl g W).1 = 0) (hT : Tel w g W P fl f) (hP : Stays P)
    : Calls Try.prog 45 #[va, vw, f] w (AskR g W P fl (.int .i64 0) w) := by
  obtain ⟨id, rc, cs, rfl, hcal, hT⟩ := hT
  obtain ⟨vg, rfl, hr⟩ := hg
  obtain ⟨ag, cg, rfl⟩ := hr.slice
  obtain ⟨aw, cw, rfl⟩ := hw.slice
  have hmf : ∀ (fn : Fn) (first cap : Array Value) (w : World), (Instr.makeFunc fn first cap).run Try.prog w = .ok (.func fn first cap) w := fun _ _ _ _ => rfl
  obtain ⟨Y, hY⟩ : ∃ Y, Y = (w.alloc (.cells #[.int .i64 g.vars, .int .i64 g.terms, .int .i64 g.start, .slice ag g.rules.length cg] 24)).alloc (.cells #[.int .i64 0, .int .i64 0] 30) := ⟨_, rfl⟩
  have hbY : Below w.heap.size w Y := by rw [hY]; exact al2 _ _ _
  have f0 : Y.cell? ⟨w.heap.size + 1, 0, none⟩ = some (.int .i64 0) := by rw [hY]; simp [go_sem]
  have f1 : Y.cell? ⟨w.heap.size + 1, 1, none⟩ = some (.int .i64 0) := by rw [hY]; simp [go_sem]
  have ff : ∀ i, Y.frozen? ⟨w.heap.size + 1, i, none⟩ = false := fun i => by rw [hY]; simp [go_sem]
  have b0 : Y.cell? ⟨w.heap.size, 0, none⟩ = some (.int .i64 g.vars) := by rw [hY]; simp [go_sem]
  have b1 : Y.cell? ⟨w.heap.size, 1, none⟩ = some (.int .i64 g.terms) := by rw [hY]; simp [go_sem]
  have b2 : Y.cell? ⟨w.heap.size, 2, none⟩ = some (.int .i64 g.start) := by rw [hY]; simp [go_sem]
  have b3 : Y.cell? ⟨w.heap.size, 3, none⟩ = some (.slice ag g.rules.length cg) := by rw [hY]; simp [go_sem]
  have zY : w.heap.size + 2 = Y.heap.size := by rw [hY]; simp
  have NW := chnew_any g W _ _ Y ⟨_, rfl, hr.lw hbY⟩ (hw.lw hbY)
  unfold NewR at NW
  have HC0 := hd hc0
  clear hc0
  unfold Cal at hcal
  go_enter_defers Try.func45, Try.ntmps45
  go_wp2_with fail
  rw [← hY]
  have HY := hd hY
  clear hY
  refine NW.mono ?_
  rintro e w1 ⟨hb1, ⟨hz, _⟩ | ⟨cb, tb, rb, V, E, vR, vW, _, _, rfl, hG, hE, hs, h1, h2, h3⟩⟩
  · exact absurd HC0.out hz
  obtain rfl := hG.vars
  have bY1 := bthen hbY hb1
  have g0 := bkeep hb1 f0
  have g1 := bkeep hb1 f1
  have gf : ∀ i, w1.frozen? ⟨w.heap.size + 1, i, none⟩ = false := fun i => by rw [hb1.frozen (p := ⟨w.heap.size + 1, i, none⟩) (lt_of_cell f0)]; exact ff i
  have d0 := bkeep hb1 b0
  have d1 := bkeep hb1 b1
  have d2 := bkeep hb1 b2
  have d3 := bkeep hb1 b3
  have zb1 := hb1.size
  obtain ⟨w2, hw2⟩ : ∃ w2, w2 = (w1.setCell ⟨w.heap.size + 1, 0, none⟩ (.int .i64 0)).setCell ⟨w.heap.size + 1, 1, none⟩ (.int .i64 0) := ⟨_, rfl⟩
  have z2 : w2.heap.size = w1.heap.size := by rw [hw2]; simp [World.setCell]
  have k12 : ∀ b o v, w1.cell? ⟨b, o, none⟩ = some v → w2.cell? ⟨b, o, none⟩ = some v := fun b o v hc => by rw [hw2]; exact set_idle (set_off g1 (by decide)) (set_idle g0 hc)
  have kh : ∀ k, k ≠ w.heap.size + 1 → w2.heap[k]? = w1.heap[k]? := fun k hk => by rw [hw2]; exact (setc_ne hk).trans (setc_ne hk)
  have bw2 : Below w.heap.size w w2 := by rw [hw2]; exact (bY1.setCell (p := ⟨w.heap.size + 1, 0, none⟩) (by show w.heap.size ≤ w.heap.size + 1; omega) _).setCell (p := ⟨w.heap.size + 1, 1, none⟩) (by show w.heap.size ≤ w.heap.size + 1; omega) _
  obtain ⟨U, hU⟩ : ∃ U, U = (w2.alloc (.cells #[.pointer (some ⟨cb, 0, none⟩), .int .i64 g.vars, .int .i64 g.terms, .int .i64 g.start, .slice ag g.rules.length cg, .int .i64 W.length, .int .i64 0, .int .i64 0, .int .i64 0] 99)).alloc (.cells #[.pointer (some ⟨w1.heap.size, 0, none⟩)] 77) := ⟨_, rfl⟩
  have hbU : Below w2.heap.size w2 U := by rw [hU]; exact al2 _ _ _
  have bU : Below w.heap.size w U := bthen bw2 hbU
  have kU : ∀ b o v, w1.cell? ⟨b, o, none⟩ = some v → U.cell? ⟨b, o, none⟩ = some v := fun b o v hc => bkeep hbU (k12 b o v hc)
  have nt : tb ≠ w.heap.size + 1 := Ne.symm (memo_ne hs.t g0)
  have nr : rb ≠ w.heap.size + 1 := Ne.symm (memo_ne hs.o g0)
  have lt1 := hs.t.lt
  have lr1 := hs.o.lt
  have FU : FoS U w1.heap.size cb tb rb g W g.vars.toNat E vR vW (.slice ag g.rules.length cg) 0 := by
    refine fo_new hs kU rfl (hr.mono fun b o v _ hc => ⟨trivial, bkeep bY1 hc⟩) ((hbU.block tb (by omega)).trans (kh tb nt)) ((hbU.block rb (by omega)).trans (kh rb nr)) ?_ ?_ ?_ ?_ ?_ ?_ ?_ ?_
    all_goals rw [hU, ← z2]; simp [go_sem]
  have pU : U.cell? ⟨w1.heap.size + 1, 0, none⟩ = some (.pointer (some ⟨w1.heap.size, 0, none⟩)) := by rw [hU, ← z2]; simp [go_sem]
  have TA := hT _ cb tb rb E vR vW _ 0 U hG hE bU FU
  have hUz : U.heap.size = w1.heap.size + 2 := by rw [hU, ← z2]; simp
  have HG := hd hG
  clear hT NW hG hE b0 b1 b2 b3 ff
  go_wp2_with fail
  rw [← hw2, ← hU]
  have HU := hd hU
  have HW2 := hd hw2
  clear hU hw2
  have lF := lt_of_cell g0
  have q0' : U.cell? ⟨w.heap.size + 1, 0, none⟩ = some (.int .i64 0) := kU _ _ _ g0
  have q1' : U.cell? ⟨w.heap.size + 1, 1, none⟩ = some (.int .i64 0) := kU _ _ _ g1
  have qf' : ∀ i, U.frozen? ⟨w.heap.size + 1, i, none⟩ = false := fun i => by
    rw [World.frozen?_of_block (w := w2) (a := ⟨w.heap.size + 1, i, none⟩) (hbU.block (w.heap.size + 1) (by omega)), HW2.out]
    simp [go_sem, gf]
  refine TA.mono ?_
  rintro e w3 (⟨hfl, rfl, p7, p8, kf⟩ | ⟨hfl, v, rfl, hv, p7, p8, kf⟩)
  · have q0 := kf.cell q0' (Ne.symm nt) (Ne.symm nr) (by omega)
    have q1 := kf.cell q1' (Ne.symm nt) (Ne.symm nr) (by omega)
    have qp := kf.cell pU (by omega) (by omega) (by omega)
    have qf : ∀ i, w3.frozen? ⟨w.heap.size + 1, i, none⟩ = false := fun i => (World.frozen?_of_block (a := ⟨w.heap.size + 1, i, none⟩) (kf.block (w.heap.size + 1) (by omega) (Ne.symm nt) (Ne.symm nr) (by omega))).trans (qf' i)
    have b3 : Below w.heap.size w w3 := bU.trans (kf.below (by omega) (by omega) (by omega) bU.size)
    go_wp2_with fail
    refine leaves_cons (f := 68) (args := #[.pointer (some ⟨w1.heap.size + 1, 0, none⟩), .pointer (some ⟨w.heap.size + 1, 0, none⟩)]) (by simp) (by simp [go_sem]) ?_
    refine (askI_catch (w1.heap.size + 1) (w.heap.size + 1) w1.heap.size fl (-1) 0 0 _ _ [] w3 qp p7 p8 hfl q0 q1 qf).mono ?_
    rintro e u' w4 ⟨rfl, rfl, rfl⟩
    simp only [Leaves, settle, List.dropWhile]
    have x0 : ((w3.setCell ⟨w.heap.size + 1, 0, none⟩ (.int .i64 fl)).setCell ⟨w.heap.size + 1, 1, none⟩ (.int .i64 (-1))).cell? ⟨w.heap.size + 1, 0, none⟩ = some (.int .i64 fl) := set_off (set_same q0) (by decide)
    have x1 : ((w3.setCell ⟨w.heap.size + 1, 0, none⟩ (.int .i64 fl)).setCell ⟨w.heap.size + 1, 1, none⟩ (.int .i64 (-1))).cell? ⟨w.heap.size + 1, 1, none⟩ = some (.int .i64 (-1)) := set_same (set_off q1 (by decide))
    have b4 : Below w.heap.size w ((w3.setCell ⟨w.heap.size + 1, 0, none⟩ (.int .i64 fl)).setCell ⟨w.heap.size + 1, 1, none⟩ (.int .i64 (-1))) := (b3.setCell (p := ⟨w.heap.size + 1, 0, none⟩) (by show w.heap.size ≤ w.heap.size + 1; omega) _).setCell (p := ⟨w.heap.size + 1, 1, none⟩) (by show w.heap.size ≤ w.heap.size + 1; omega) _
    generalize (w3.setCell ⟨w.heap.size + 1, 0, none⟩ (.int .i64 fl)).setCell ⟨w.heap.size + 1, 1, none⟩ (.int .i64 (-1)) = w5 at *
    refine ⟨.tuple #[.int .i64 0, .agg #[.int .i64 fl, .int .i64 (-1)]], ?_, b4, .inr (.inl ⟨HC0.out, HG.out, hfl, rfl⟩)⟩
    simp [results, Try.results45, go_sem, x0, x1]
  · have q0 := kf.cell q0' (Ne.symm nt) (Ne.symm nr) (by omega)
    have q1 := kf.cell q1' (Ne.symm nt) (Ne.symm nr) (by omega)
    have qp := kf.cell pU (by omega) (by omega) (by omega)
    have qf : ∀ i, w3.frozen? ⟨w.heap.size + 1, i, none⟩ = false := fun i => (World.frozen?_of_block (a := ⟨w.heap.size + 1, i, none⟩) (kf.block (w.heap.size + 1) (by omega) (Ne.symm nt) (Ne.symm nr) (by omega))).trans (qf' i)
    have b3 : Below w.heap.size w w3 := bU.trans (kf.below (by omega) (by omega) (by omega) bU.size)
    have zU : w.heap.size + 2 ≤ U.heap.size := by omega
    obtain ⟨w4, hw4⟩ : ∃ w4, w4 = (w3.setCell ⟨w.heap.size + 1, 0, none⟩ (.int .i64 0)).setCell ⟨w.heap.size + 1, 1, none⟩ (.int .i64 0) := ⟨_, rfl⟩
    have x0 : w4.cell? ⟨w.heap.size + 1, 0, none⟩ = some (.int .i64 0) := by rw [hw4]; exact set_off (set_same q0) (by decide)
    have x1 : w4.cell? ⟨w.heap.size + 1, 1, none⟩ = some (.int .i64 0) := by rw [hw4]; exact set_same (set_off q1 (by decide))
    have x7 : w4.cell? ⟨w1.heap.size, 7, none⟩ = some (.int .i64 0) := by rw [hw4]; exact set_other (set_other p7 (by omega)) (by omega)
    have xp : w4.cell? ⟨w1.heap.size + 1, 0, none⟩ = some (.pointer (some ⟨w1.heap.size, 0, none⟩)) := by rw [hw4]; exact set_other (set_other qp (by omega)) (by omega)
    have b4 : Below w.heap.size w w4 := by rw [hw4]; exact (b3.setCell (p := ⟨w.heap.size + 1, 0, none⟩) (by show w.heap.size ≤ w.heap.size + 1; omega) _).setCell (p := ⟨w.heap.size + 1, 1, none⟩) (by show w.heap.size ≤ w.heap.size + 1; omega) _
    have kp4 : Kp (fun k => U.heap.size ≤ k) w3 w4 := by rw [hw4]; exact ((Kp.refl _ w3).setCell (.inl (by show ¬ (_ ≤ w.heap.size + 1); omega)) _).setCell (.inl (by show ¬ (_ ≤ w.heap.size + 1); omega)) _
    have HV := hd (hP U w _ w3 w4 hv kp4 bU.size)
    clear hv
    go_wp2_with fail
    rw [← hw4]
    have HW4 := hd hw4
    clear hw4
    refine leaves_cons (f := 68) (args := #[.pointer (some ⟨w1.heap.size + 1, 0, none⟩), .pointer (some ⟨w.heap.size + 1, 0, none⟩)]) (by simp) (by simp [go_sem]) ?_
    refine (askI_idle (w1.heap.size + 1) (w.heap.size + 1) w1.heap.size w4 xp x7).mono ?_
    rintro e u' w5 ⟨rfl, rfl, rfl⟩
    simp only [Leaves, settle]
    refine ⟨.tuple #[v, .agg #[.int .i64 0, .int .i64 0]], ?_, b4, .inr (.inr ⟨HC0.out, HG.out, hfl, _, rfl, HV.out⟩)⟩
    simp [results, Try.results45, go_sem, x0, x1]
end Go.Proofs.Ytlhdppkllmnmkae.G
