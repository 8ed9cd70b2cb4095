/- Texts laid together: Vm Vn Tb Tg Th. -/
import Derived.Test.YtlhdppkllmnmkaeL17
import Derived.Test.YtlhdppkllmnmkaeL20
import Derived.Defers
import Derived.Recover
import Derived.Test.YtlhdppkllmnmkaeL01
import Derived.Test.YtlhdppkllmnmkaeL03
import Derived.Test.YtlhdppkllmnmkaeL07
import Derived.Test.YtlhdppkllmnmkaeL02
/- A forest is asked: what it tells, or why it gave up. -/
namespace Go.Proofs.Ytlhdppkllmnmkae.G
open Go.RowKit Go.Maps
/-- A telling, as a function value. -/
def Tel (w : World) (g : Gm) (W : List Int) (P : World → Value → World → Prop) (fl : Int) (f : Value) : Prop := ∃ (id : Nat) (rc cs : Array Value), f = .func (.func id) rc cs ∧ Cal id ∧
  ∀ (fb cb tb rb : Nat) (E : BitVec 64) (vR vW vg : Value) (room : Nat) (u : World), CkG g W g.vars.toNat → (∀ v : Int, hasB E v = true ↔ Nul g.rules v) → Below w.heap.size w u → FoS u fb cb tb rb g W g.vars.toNat E vR vW vg room →
    Calls Try.prog id (rc.push (.pointer (some ⟨fb, 0, none⟩)) ++ cs) u (TellR fb tb rb P fl u)
/-- How asking ends. -/
def AskR (g : Gm) (W : List Int) (P : World → Value → World → Prop) (fl : Int) (z : Value) (w : World) (e : Ending) (w' : World) : Prop :=
  Below w.heap.size w w' ∧ (((chFl g W).1 ≠ 0 ∧ e = .returned (.tuple #[z, .agg #[.int .i64 (chFl g W).1, .int .i64 (chFl g W).2]])) ∨ ((chFl g W).1 = 0 ∧ CkG g W g.vars.toNat ∧ fl ≠ 0 ∧ e = .returned (.tuple #[z, .agg #[.int .i64 fl, .int .i64 (-1)]])) ∨
    ((chFl g W).1 = 0 ∧ CkG g W g.vars.toNat ∧ fl = 0 ∧ ∃ v, e = .returned (.tuple #[v, .agg #[.int .i64 0, .int .i64 0]]) ∧ P w v w'))
/-- What is told stays, and is new. -/
def Stays (P : World → Value → World → Prop) : Prop := ∀ (u w : World) (v : Value) (w1 w2 : World), P u v w1 → Kp (fun k => u.heap.size ≤ k) w1 w2 → w.heap.size ≤ u.heap.size → P w v w2
theorem CkG.vars {g : Gm} {W : List Int} {V : Nat} (h : CkG g W V) : V = g.vars.toNat := by have := h.rg.gv; omega
/-- A new forest. -/
theorem fo_new {w1 U : World} {cb tb rb fb : Nat} {g : Gm} {W : List Int} {V : Nat} {E : BitVec 64} {vR vW vg : Value} (hs : ChS w1 cb tb rb g W V E vR vW) (hk : ∀ b o v, w1.cell? ⟨b, o, none⟩ = some v → U.cell? ⟨b, o, none⟩ = some v) (hfb : fb = w1.heap.size)
    (hr : RsV w1 All vg g.rules) (ht : U.heap[tb]? = w1.heap[tb]?) (ho : U.heap[rb]? = w1.heap[rb]?)
    (h0 : U.cell? ⟨fb, 0, none⟩ = some (.pointer (some ⟨cb, 0, none⟩))) (h3 : U.cell? ⟨fb, 3, none⟩ = some (.int .i64 g.start)) (h4 : U.cell? ⟨fb, 4, none⟩ = some vg) (h5 : U.cell? ⟨fb, 5, none⟩ = some (.int .i64 W.length)) (h6 : U.cell? ⟨fb, 6, none⟩ = some (.int .i64 0)) (h7 : U.cell? ⟨fb, 7, none⟩ = some (.int .i64 0)) (h8 : U.cell? ⟨fb, 8, none⟩ = some (.int .i64 0)) (hz : ∀ i, U.frozen? ⟨fb, i, none⟩ = false) :
    FoS U fb cb tb rb g W V E vR vW vg 0 := by
  have kf : ∀ b o v, All b → w1.cell? ⟨b, o, none⟩ = some v → (fun k => k ≠ fb) b ∧ U.cell? ⟨b, o, none⟩ = some v := fun b o v _ hc => ⟨by have := lt_of_cell hc; show b ≠ fb; omega, hk b o v hc⟩
  have r' := hs.r.mono kf
  have x' := hs.x.mono kf
  exact ⟨⟨hk _ _ _ hs.c0, hk _ _ _ hs.c1, hk _ _ _ hs.c2, hk _ _ _ hs.c3, hk _ _ _ hs.c4, hk _ _ _ hs.c5, hk _ _ _ hs.c6, hk _ _ _ hs.c7, r'.all, x'.all, hs.t.of ht, hs.o.of ho, hs.ne⟩,
    ⟨h0, h3, h4, h5, hr.mono kf⟩, h6, h7, h8, hz, r', x', by have := lt_of_cell hs.c0; omega⟩
/-- A store of what is there already. -/
theorem set_idle {w : World} {p o b i : Nat} {u v : Value} (hu : w.cell? ⟨p, o, none⟩ = some u) (h : w.cell? ⟨b, i, none⟩ = some v) : (w.setCell ⟨p, o, none⟩ u).cell? ⟨b, i, none⟩ = some v := by
  by_cases hb : b = p
  · subst hb
    by_cases hi : i = o
    · subst hi
      rw [hu] at h
      rw [← h]; exact set_same hu
    · exact set_off h hi
  · exact set_other h hb
theorem askL_catch (pb fb r : Nat) (c a c0 a0 : Int) (u : TypeId) (pv : Value) (older : List PanicEntry) (w : World) (hq : w.cell? ⟨pb, 0, none⟩ = some (.pointer (some ⟨r, 0, none⟩)))
    (h5 : w.cell? ⟨r, 7, none⟩ = some (.int .i64 c)) (h6 : w.cell? ⟨r, 8, none⟩ = some (.int .i64 a)) (hc : c ≠ 0) (hf0 : w.cell? ⟨fb, 0, none⟩ = some (.int .i64 c0)) (hf1 : w.cell? ⟨fb, 1, none⟩ = some (.int .i64 a0)) (zf : ∀ i, w.frozen? ⟨fb, i, none⟩ = false) :
    CallsD Try.prog 70 #[.pointer (some ⟨pb, 0, none⟩), .pointer (some ⟨fb, 0, none⟩)] (.panicking ({ v := .iface u pv, recovered := false } :: older)) w fun e u' w' =>
      e = .returned (.tuple #[]) ∧ u' = .panicking ({ v := .iface u pv, recovered := true } :: older) ∧ w' = (w.setCell ⟨fb, 0, none⟩ (.int .i64 c)).setCell ⟨fb, 1, none⟩ (.int .i64 a) := by
  refine callsD_of_wpS Try.func70 rfl fun f₀ cs hu => ?_
  apply wpS_seq
  apply wpS_region
  simp [wpOpsS, go_sem, Try.ntmps70, Exit.thenS, hq, h5, Array.replicate]
  refine wpS_cond (t := true) (by simp [Act.eval, hc]) ?_
  simp only [if_true]
  apply wpS_seq
  apply wpS_region
  simp [wpOpsS, go_sem, recoverD, hu, Exit.thenS]
  refine wpS_of_wp ?_
  go_wp2_with fail
  simp [bodyPostS, results, Try.results70]
theorem askL_idle (pb fb r : Nat) (w : World) (hq : w.cell? ⟨pb, 0, none⟩ = some (.pointer (some ⟨r, 0, none⟩))) (h5 : w.cell? ⟨r, 7, none⟩ = some (.int .i64 0)) :
    CallsD Try.prog 70 #[.pointer (some ⟨pb, 0, none⟩), .pointer (some ⟨fb, 0, none⟩)] .returning w fun e u' w' =>
      e = .returned (.tuple #[]) ∧ u' = .returning ∧ w' = w := by
  refine callsD_of_wpS Try.func70 rfl fun f₀ cs hu => ?_
  apply wpS_seq
  apply wpS_region
  simp [wpOpsS, go_sem, Try.ntmps70, Exit.thenS, hq, h5, Array.replicate]
  refine wpS_cond (t := false) (by simp [Act.eval]) ?_
  simp only [Bool.false_eq_true, if_false]
  refine wpS_of_wp (wp_skip ?_)
  cases f₀
  simp_all [bodyPostS, results, Try.results70]
set_option maxRecDepth 100000 in
set_option maxHeartbeats 1000000 in
theorem askL_wrong (g : Gm) (W : List Int) (va vw f : Value) (w : World) (P : World → Value → World → Prop) (fl : Int) (hg : GV w All va g) (hw : IsV w All vw W) (hc0 : (chFl g W).1 ≠ 0) :
    Calls Try.prog 49 #[va, vw, f] w (AskR g W P fl (.slice none 0 0) w) := by
  obtain ⟨vg, rfl, hr⟩ := hg
  obtain ⟨ag, cg, rfl⟩ := hr.slice
  obtain ⟨aw, cw, rfl⟩ := hw.slice
  have hmf : ∀ (fn : Fn) (first cap : Array Value) (w : World), (Instr.makeFunc fn first cap).run Try.prog w = .ok (.func fn first cap) w := fun _ _ _ _ => rfl
  obtain ⟨Y, hY⟩ : ∃ Y, Y = (w.alloc (.cells #[.int .i64 g.vars, .int .i64 g.terms, .int .i64 g.start, .slice ag g.rules.length cg] 24)).alloc (.cells #[.int .i64 0, .int .i64 0] 30) := ⟨_, rfl⟩
  have hbY : Below w.heap.size w Y := by rw [hY]; exact al2 _ _ _
  have f0 : Y.cell? ⟨w.heap.size + 1, 0, none⟩ = some (.int .i64 0) := by rw [hY]; simp [go_sem]
  have f1 : Y.cell? ⟨w.heap.size + 1, 1, none⟩ = some (.int .i64 0) := by rw [hY]; simp [go_sem]
  have ff : ∀ i, Y.frozen? ⟨w.heap.size + 1, i, none⟩ = false := fun i => by rw [hY]; simp [go_sem]
  have NW := chnew_any g W _ _ Y ⟨_, rfl, hr.lw hbY⟩ (hw.lw hbY)
  unfold NewR at NW
  obtain ⟨⟨c, a⟩, hF⟩ : ∃ F, F = chFl g W := ⟨_, rfl⟩
  rw [← hF] at hc0 NW
  simp only at hc0 NW
  have HF := hd hF
  clear hF
  have hcB : (c != 0) = true := by simpa using hc0
  go_enter_defers Try.func49, Try.ntmps49
  go_wp2_with fail
  rw [← hY]
  refine NW.mono ?_
  rintro e w1 ⟨hb1, ⟨_, rfl⟩ | ⟨_, _, _, _, _, _, _, hz, _⟩⟩
  · have HY := hd hY
    clear hY NW
    obtain ⟨g0, g1, gf⟩ : w1.cell? ⟨w.heap.size + 1, 0, none⟩ = some (.int .i64 0) ∧ w1.cell? ⟨w.heap.size + 1, 1, none⟩ = some (.int .i64 0) ∧ ∀ i, w1.frozen? ⟨w.heap.size + 1, i, none⟩ = false := ⟨bkeep hb1 f0, bkeep hb1 f1, fun i => by rw [hb1.frozen (p := ⟨w.heap.size + 1, i, none⟩) (lt_of_cell f0)]; exact ff i⟩
    go_upto_region 3 with fail
    obtain ⟨U, hU⟩ : ∃ U, U = (w1.setCell ⟨w.heap.size + 1, 0, none⟩ (.int .i64 c)).setCell ⟨w.heap.size + 1, 1, none⟩ (.int .i64 a) := ⟨_, rfl⟩
    have zY : w.heap.size + 2 = Y.heap.size := by rw [HY.out]; simp
    have zb1 := hb1.size
    have bU : Below w.heap.size w U := by rw [hU]; exact ((bthen hbY hb1).setCell (p := ⟨w.heap.size + 1, 0, none⟩) (by show w.heap.size ≤ w.heap.size + 1; omega) _).setCell (p := ⟨w.heap.size + 1, 1, none⟩) (by show w.heap.size ≤ w.heap.size + 1; omega) _
    have u0 : U.cell? ⟨w.heap.size + 1, 0, none⟩ = some (.int .i64 c) := by rw [hU]; exact set_off (set_same g0) (by decide)
    have u1 : U.cell? ⟨w.heap.size + 1, 1, none⟩ = some (.int .i64 a) := by rw [hU]; exact set_same (set_off g1 (by decide))
    have uf : ∀ i, U.frozen? ⟨w.heap.size + 1, i, none⟩ = false := fun i => by rw [hU]; simp [go_sem, gf]
    rw [← hU]
    have HU := hd hU
    clear hU
    go_region
    go_wp2_with fail
    obtain ⟨Z, hZ⟩ : ∃ Z, Z = (U.setCell ⟨w.heap.size + 1, 0, none⟩ (.int .i64 c)).setCell ⟨w.heap.size + 1, 1, none⟩ (.int .i64 a) := ⟨_, rfl⟩
    have y6 : Z.cell? ⟨w.heap.size + 1, 0, none⟩ = some (.int .i64 c) := by rw [hZ]; exact set_off (set_same u0) (by decide)
    have y7 : Z.cell? ⟨w.heap.size + 1, 1, none⟩ = some (.int .i64 a) := by rw [hZ]; exact set_same (set_off u1 (by decide))
    have bZ : Below w.heap.size w Z := by rw [hZ]; exact (bU.setCell (p := ⟨w.heap.size + 1, 0, none⟩) (by show w.heap.size ≤ w.heap.size + 1; omega) _).setCell (p := ⟨w.heap.size + 1, 1, none⟩) (by show w.heap.size ≤ w.heap.size + 1; omega) _
    rw [← hZ]
    clear hZ
    refine ⟨.tuple #[.slice none 0 0, .agg #[.int .i64 c, .int .i64 a]], ?_, bthen bZ (drw1 _), .inl ⟨by rw [← HF.out]; exact hc0, by rw [← HF.out]⟩⟩
    simp [results, Try.results49, go_sem, y6, y7]
  · exact absurd hz hc0
set_option maxRecDepth 100000 in
set_option maxHeartbeats 1000000 in
theorem askL_right (g : Gm) (W : List Int) (va vw f : Value) (w : World) (P : World → Value → World → Prop) (fl : Int) (hg : GV w All va g) (hw : IsV w All vw W) (hc0 : (chFl g W).1 = 0) (hT : Tel w g W P fl f) (hP : Stays P)
    : Calls Try.prog 49 #[va, vw, f] w (AskR g W P fl (.slice none 0 0) w) := by
  obtain ⟨id, rc, cs, rfl, hcal, hT⟩ := hT
  obtain ⟨vg, rfl, hr⟩ := hg
  obtain ⟨ag, cg, rfl⟩ := hr.slice
  obtain ⟨aw, cw, rfl⟩ := hw.slice
  have hmf : ∀ (fn : Fn) (first cap : Array Value) (w : World), (Instr.makeFunc fn first cap).run Try.prog w = .ok (.func fn first cap) w := fun _ _ _ _ => rfl
  obtain ⟨Y, hY⟩ : ∃ Y, Y = (w.alloc (.cells #[.int .i64 g.vars, .int .i64 g.terms, .int .i64 g.start, .slice ag g.rules.length cg] 24)).alloc (.cells #[.int .i64 0, .int .i64 0] 30) := ⟨_, rfl⟩
  have hbY : Below w.heap.size w Y := by rw [hY]; exact al2 _ _ _
  have f0 : Y.cell? ⟨w.heap.size + 1, 0, none⟩ = some (.int .i64 0) := by rw [hY]; simp [go_sem]
  have f1 : Y.cell? ⟨w.heap.size + 1, 1, none⟩ = some (.int .i64 0) := by rw [hY]; simp [go_sem]
  have ff : ∀ i, Y.frozen? ⟨w.heap.size + 1, i, none⟩ = false := fun i => by rw [hY]; simp [go_sem]
  have b0 : Y.cell? ⟨w.heap.size, 0, none⟩ = some (.int .i64 g.vars) := by rw [hY]; simp [go_sem]
  have b1 : Y.cell? ⟨w.heap.size, 1, none⟩ = some (.int .i64 g.terms) := by rw [hY]; simp [go_sem]
  have b2 : Y.cell? ⟨w.heap.size, 2, none⟩ = some (.int .i64 g.start) := by rw [hY]; simp [go_sem]
  have b3 : Y.cell? ⟨w.heap.size, 3, none⟩ = some (.slice ag g.rules.length cg) := by rw [hY]; simp [go_sem]
  have zY : w.heap.size + 2 = Y.heap.size := by rw [hY]; simp
  have NW := chnew_any g W _ _ Y ⟨_, rfl, hr.lw hbY⟩ (hw.lw hbY)
  unfold NewR at NW
  have HC0 := hd hc0
  clear hc0
  unfold Cal at hcal
  go_enter_defers Try.func49, Try.ntmps49
  go_wp2_with fail
  rw [← hY]
  have HY := hd hY
  clear hY
  refine NW.mono ?_
  rintro e w1 ⟨hb1, ⟨hz, _⟩ | ⟨cb, tb, rb, V, E, vR, vW, _, _, rfl, hG, hE, hs, h1, h2, h3⟩⟩
  · exact absurd HC0.out hz
  obtain rfl := hG.vars
  have bY1 := bthen hbY hb1
  have g0 := bkeep hb1 f0
  have g1 := bkeep hb1 f1
  have gf : ∀ i, w1.frozen? ⟨w.heap.size + 1, i, none⟩ = false := fun i => by rw [hb1.frozen (p := ⟨w.heap.size + 1, i, none⟩) (lt_of_cell f0)]; exact ff i
  have d0 := bkeep hb1 b0
  have d1 := bkeep hb1 b1
  have d2 := bkeep hb1 b2
  have d3 := bkeep hb1 b3
  have zb1 := hb1.size
  obtain ⟨w2, hw2⟩ : ∃ w2, w2 = (w1.setCell ⟨w.heap.size + 1, 0, none⟩ (.int .i64 0)).setCell ⟨w.heap.size + 1, 1, none⟩ (.int .i64 0) := ⟨_, rfl⟩
  have z2 : w2.heap.size = w1.heap.size := by rw [hw2]; simp [World.setCell]
  have k12 : ∀ b o v, w1.cell? ⟨b, o, none⟩ = some v → w2.cell? ⟨b, o, none⟩ = some v := fun b o v hc => by rw [hw2]; exact set_idle (set_off g1 (by decide)) (set_idle g0 hc)
  have kh : ∀ k, k ≠ w.heap.size + 1 → w2.heap[k]? = w1.heap[k]? := fun k hk => by rw [hw2]; exact (setc_ne hk).trans (setc_ne hk)
  have bw2 : Below w.heap.size w w2 := by rw [hw2]; exact (bY1.setCell (p := ⟨w.heap.size + 1, 0, none⟩) (by show w.heap.size ≤ w.heap.size + 1; omega) _).setCell (p := ⟨w.heap.size + 1, 1, none⟩) (by show w.heap.size ≤ w.heap.size + 1; omega) _
  obtain ⟨U, hU⟩ : ∃ U, U = (w2.alloc (.cells #[.pointer (some ⟨cb, 0, none⟩), .int .i64 g.vars, .int .i64 g.terms, .int .i64 g.start, .slice ag g.rules.length cg, .int .i64 W.length, .int .i64 0, .int .i64 0, .int .i64 0] 99)).alloc (.cells #[.pointer (some ⟨w1.heap.size, 0, none⟩)] 77) := ⟨_, rfl⟩
  have hbU : Below w2.heap.size w2 U := by rw [hU]; exact al2 _ _ _
  have bU : Below w.heap.size w U := bthen bw2 hbU
  have kU : ∀ b o v, w1.cell? ⟨b, o, none⟩ = some v → U.cell? ⟨b, o, none⟩ = some v := fun b o v hc => bkeep hbU (k12 b o v hc)
  have nt : tb ≠ w.heap.size + 1 := Ne.symm (memo_ne hs.t g0)
  have nr : rb ≠ w.heap.size + 1 := Ne.symm (memo_ne hs.o g0)
  have lt1 := hs.t.lt
  have lr1 := hs.o.lt
  have FU : FoS U w1.heap.size cb tb rb g W g.vars.toNat E vR vW (.slice ag g.rules.length cg) 0 := by
    refine fo_new hs kU rfl (hr.mono fun b o v _ hc => ⟨trivial, bkeep bY1 hc⟩) ((hbU.block tb (by omega)).trans (kh tb nt)) ((hbU.block rb (by omega)).trans (kh rb nr)) ?_ ?_ ?_ ?_ ?_ ?_ ?_ ?_
    all_goals rw [hU, ← z2]; simp [go_sem]
  have pU : U.cell? ⟨w1.heap.size + 1, 0, none⟩ = some (.pointer (some ⟨w1.heap.size, 0, none⟩)) := by rw [hU, ← z2]; simp [go_sem]
  have TA := hT _ cb tb rb E vR vW _ 0 U hG hE bU FU
  have hUz : U.heap.size = w1.heap.size + 2 := by rw [hU, ← z2]; simp
  have HG := hd hG
  clear hT NW hG hE b0 b1 b2 b3 ff
  go_wp2_with fail
  rw [← hw2, ← hU]
  have HU := hd hU
  have HW2 := hd hw2
  clear hU hw2
  have lF := lt_of_cell g0
  have q0' : U.cell? ⟨w.heap.size + 1, 0, none⟩ = some (.int .i64 0) := kU _ _ _ g0
  have q1' : U.cell? ⟨w.heap.size + 1, 1, none⟩ = some (.int .i64 0) := kU _ _ _ g1
  have qf' : ∀ i, U.frozen? ⟨w.heap.size + 1, i, none⟩ = false := fun i => by
    rw [World.frozen?_of_block (w := w2) (a := ⟨w.heap.size + 1, i, none⟩) (hbU.block (w.heap.size + 1) (by omega)), HW2.out]
    simp [go_sem, gf]
  refine TA.mono ?_
  rintro e w3 (⟨hfl, rfl, p7, p8, kf⟩ | ⟨hfl, v, rfl, hv, p7, p8, kf⟩)
  · have q0 := kf.cell q0' (Ne.symm nt) (Ne.symm nr) (by omega)
    have q1 := kf.cell q1' (Ne.symm nt) (Ne.symm nr) (by omega)
    have qp := kf.cell pU (by omega) (by omega) (by omega)
    have qf : ∀ i, w3.frozen? ⟨w.heap.size + 1, i, none⟩ = false := fun i => (World.frozen?_of_block (a := ⟨w.heap.size + 1, i, none⟩) (kf.block (w.heap.size + 1) (by omega) (Ne.symm nt) (Ne.symm nr) (by omega))).trans (qf' i)
    have b3 : Below w.heap.size w w3 := bU.trans (kf.below (by omega) (by omega) (by omega) bU.size)
    go_wp2_with fail
    refine leaves_cons (f := 70) (args := #[.pointer (some ⟨w1.heap.size + 1, 0, none⟩), .pointer (some ⟨w.heap.size + 1, 0, none⟩)]) (by simp) (by simp [go_sem]) ?_
    refine (askL_catch (w1.heap.size + 1) (w.heap.size + 1) w1.heap.size fl (-1) 0 0 _ _ [] w3 qp p7 p8 hfl q0 q1 qf).mono ?_
    rintro e u' w4 ⟨rfl, rfl, rfl⟩
    simp only [Leaves, settle, List.dropWhile]
    have x0 : ((w3.setCell ⟨w.heap.size + 1, 0, none⟩ (.int .i64 fl)).setCell ⟨w.heap.size + 1, 1, none⟩ (.int .i64 (-1))).cell? ⟨w.heap.size + 1, 0, none⟩ = some (.int .i64 fl) := set_off (set_same q0) (by decide)
    have x1 : ((w3.setCell ⟨w.heap.size + 1, 0, none⟩ (.int .i64 fl)).setCell ⟨w.heap.size + 1, 1, none⟩ (.int .i64 (-1))).cell? ⟨w.heap.size + 1, 1, none⟩ = some (.int .i64 (-1)) := set_same (set_off q1 (by decide))
    have b4 : Below w.heap.size w ((w3.setCell ⟨w.heap.size + 1, 0, none⟩ (.int .i64 fl)).setCell ⟨w.heap.size + 1, 1, none⟩ (.int .i64 (-1))) := (b3.setCell (p := ⟨w.heap.size + 1, 0, none⟩) (by show w.heap.size ≤ w.heap.size + 1; omega) _).setCell (p := ⟨w.heap.size + 1, 1, none⟩) (by show w.heap.size ≤ w.heap.size + 1; omega) _
    generalize (w3.setCell ⟨w.heap.size + 1, 0, none⟩ (.int .i64 fl)).setCell ⟨w.heap.size + 1, 1, none⟩ (.int .i64 (-1)) = w5 at *
    refine ⟨.tuple #[.slice none 0 0, .agg #[.int .i64 fl, .int .i64 (-1)]], ?_, b4, .inr (.inl ⟨HC0.out, HG.out, hfl, rfl⟩)⟩
    simp [results, Try.results49, go_sem, x0, x1]
  · have q0 := kf.cell q0' (Ne.symm nt) (Ne.symm nr) (by omega)
    have q1 := kf.cell q1' (Ne.symm nt) (Ne.symm nr) (by omega)
    have qp := kf.cell pU (by omega) (by omega) (by omega)
    have qf : ∀ i, w3.frozen? ⟨w.heap.size + 1, i, none⟩ = false := fun i => (World.frozen?_of_block (a := ⟨w.heap.size + 1, i, none⟩) (kf.block (w.heap.size + 1) (by omega) (Ne.symm nt) (Ne.symm nr) (by omega))).trans (qf' i)
    have b3 : Below w.heap.size w w3 := bU.trans (kf.below (by omega) (by omega) (by omega) bU.size)
    have zU : w.heap.size + 2 ≤ U.heap.size := by omega
    obtain ⟨w4, hw4⟩ : ∃ w4, w4 = (w3.setCell ⟨w.heap.size + 1, 0, none⟩ (.int .i64 0)).setCell ⟨w.heap.size + 1, 1, none⟩ (.int .i64 0) := ⟨_, rfl⟩
    have x0 : w4.cell? ⟨w.heap.size + 1, 0, none⟩ = some (.int .i64 0) := by rw [hw4]; exact set_off (set_same q0) (by decide)
    have x1 : w4.cell? ⟨w.heap.size + 1, 1, none⟩ = some (.int .i64 0) := by rw [hw4]; exact set_same (set_off q1 (by decide))
    have x7 : w4.cell? ⟨w1.heap.size, 7, none⟩ = some (.int .i64 0) := by rw [hw4]; exact set_other (set_other p7 (by omega)) (by omega)
    have xp : w4.cell? ⟨w1.heap.size + 1, 0, none⟩ = some (.pointer (some ⟨w1.heap.size, 0, none⟩)) := by rw [hw4]; exact set_other (set_other qp (by omega)) (by omega)
    have b4 : Below w.heap.size w w4 := by rw [hw4]; exact (b3.setCell (p := ⟨w.heap.size + 1, 0, none⟩) (by show w.heap.size ≤ w.heap.size + 1; omega) _).setCell (p := ⟨w.heap.size + 1, 1, none⟩) (by show w.heap.size ≤ w.heap.size + 1; omega) _
    have kp4 : Kp (fun k => U.heap.size ≤ k) w3 w4 := by rw [hw4]; exact ((Kp.refl _ w3).setCell (.inl (by show ¬ (_ ≤ w.heap.size + 1); omega)) _).setCell (.inl (by show ¬ (_ ≤ w.heap.size + 1); omega)) _
    have HV := hd (hP U w _ w3 w4 hv kp4 bU.size)
    clear hv
    go_wp2_with fail
    rw [← hw4]
    have HW4 := hd hw4
    clear hw4
    refine leaves_cons (f := 70) (args := #[.pointer (some ⟨w1.heap.size + 1, 0, none⟩), .pointer (some ⟨w.heap.size + 1, 0, none⟩)]) (by simp) (by simp [go_sem]) ?_
    refine (askL_idle (w1.heap.size + 1) (w.heap.size + 1) w1.heap.size w4 xp x7).mono ?_
    rintro e u' w5 ⟨rfl, rfl, rfl⟩
    simp only [Leaves, settle]
    refine ⟨.tuple #[v, .agg #[.int .i64 0, .int .i64 0]], ?_, b4, .inr (.inr ⟨HC0.out, HG.out, hfl, _, rfl, HV.out⟩)⟩
    simp [results, Try.results49, go_sem, x0, x1]
theorem askI_catch (pb fb r : Nat) (c a c0 a0 : Int) (u : TypeId) (pv : Value) (older : List PanicEntry) (w : World) (hq : w.cell? ⟨pb, 0, none⟩ = some (.pointer (some ⟨r, 0, none⟩)))
    (h5 : w.cell? ⟨r, 7, none⟩ = some (.int .i64 c)) (h6 : w.cell? ⟨r, 8, none⟩ = some (.int .i64 a)) (hc : c ≠ 0) (hf0 : w.cell? ⟨fb, 0, none⟩ = some (.int .i64 c0)) (hf1 : w.cell? ⟨fb, 1, none⟩ = some (.int .i64 a0)) (zf : ∀ i, w.frozen? ⟨fb, i, none⟩ = false) :
    CallsD Try.prog 68 #[.pointer (some ⟨pb, 0, none⟩), .pointer (some ⟨fb, 0, none⟩)] (.panicking ({ v := .iface u pv, recovered := false } :: older)) w fun e u' w' =>
      e = .returned (.tuple #[]) ∧ u' = .panicking ({ v := .iface u pv, recovered := true } :: older) ∧ w' = (w.setCell ⟨fb, 0, none⟩ (.int .i64 c)).setCell ⟨fb, 1, none⟩ (.int .i64 a) := by
  refine callsD_of_wpS Try.func68 rfl fun f₀ cs hu => ?_
  apply wpS_seq
  apply wpS_region
  simp [wpOpsS, go_sem, Try.ntmps68, Exit.thenS, hq, h5, Array.replicate]
  refine wpS_cond (t := true) (by simp [Act.eval, hc]) ?_
  simp only [if_true]
  apply wpS_seq
  apply wpS_region
  simp [wpOpsS, go_sem, recoverD, hu, Exit.thenS]
  refine wpS_of_wp ?_
  go_wp2_with fail
  simp [bodyPostS, results, Try.results68]
theorem askI_idle (pb fb r : Nat) (w : World) (hq : w.cell? ⟨pb, 0, none⟩ = some (.pointer (some ⟨r, 0, none⟩))) (h5 : w.cell? ⟨r, 7, none⟩ = some (.int .i64 0)) :
    CallsD Try.prog 68 #[.pointer (some ⟨pb, 0, none⟩), .pointer (some ⟨fb, 0, none⟩)] .returning w fun e u' w' =>
      e = .returned (.tuple #[]) ∧ u' = .returning ∧ w' = w := by
  refine callsD_of_wpS Try.func68 rfl fun f₀ cs hu => ?_
  apply wpS_seq
  apply wpS_region
  simp [wpOpsS, go_sem, Try.ntmps68, Exit.thenS, hq, h5, Array.replicate]
  refine wpS_cond (t := false) (by simp [Act.eval]) ?_
  simp only [Bool.false_eq_true, if_false]
  refine wpS_of_wp (wp_skip ?_)
  cases f₀
  simp_all [bodyPostS, results, Try.results68]
set_option maxRecDepth 100000 in
set_option maxHeartbeats 1000000 in
theorem askI_wrong (g : Gm) (W : List Int) (va vw f : Value) (w : World) (P : World → Value → World → Prop) (fl : Int) (hg : GV w All va g) (hw : IsV w All vw W) (hc0 : (chFl g W).1 ≠ 0) :
    Calls Try.prog 45 #[va, vw, f] w (AskR g W P fl (.int .i64 0) w) := by
  obtain ⟨vg, rfl, hr⟩ := hg
  obtain ⟨ag, cg, rfl⟩ := hr.slice
  obtain ⟨aw, cw, rfl⟩ := hw.slice
  have hmf : ∀ (fn : Fn) (first cap : Array Value) (w : World), (Instr.makeFunc fn first cap).run Try.prog w = .ok (.func fn first cap) w := fun _ _ _ _ => rfl
  obtain ⟨Y, hY⟩ : ∃ Y, Y = (w.alloc (.cells #[.int .i64 g.vars, .int .i64 g.terms, .int .i64 g.start, .slice ag g.rules.length cg] 24)).alloc (.cells #[.int .i64 0, .int .i64 0] 30) := ⟨_, rfl⟩
  have hbY : Below w.heap.size w Y := by rw [hY]; exact al2 _ _ _
  have f0 : Y.cell? ⟨w.heap.size + 1, 0, none⟩ = some (.int .i64 0) := by rw [hY]; simp [go_sem]
  have f1 : Y.cell? ⟨w.heap.size + 1, 1, none⟩ = some (.int .i64 0) := by rw [hY]; simp [go_sem]
  have ff : ∀ i, Y.frozen? ⟨w.heap.size + 1, i, none⟩ = false := fun i => by rw [hY]; simp [go_sem]
  have NW := chnew_any g W _ _ Y ⟨_, rfl, hr.lw hbY⟩ (hw.lw hbY)
  unfold NewR at NW
  obtain ⟨⟨c, a⟩, hF⟩ : ∃ F, F = chFl g W := ⟨_, rfl⟩
  rw [← hF] at hc0 NW
  simp only at hc0 NW
  have HF := hd hF
  clear hF
  have hcB : (c != 0) = true := by simpa using hc0
  go_enter_defers Try.func45, Try.ntmps45
  go_wp2_with fail
  rw [← hY]
  refine NW.mono ?_
  rintro e w1 ⟨hb1, ⟨_, rfl⟩ | ⟨_, _, _, _, _, _, _, hz, _⟩⟩
  · have HY := hd hY
    clear hY NW
    obtain ⟨g0, g1, gf⟩ : w1.cell? ⟨w.heap.size + 1, 0, none⟩ = some (.int .i64 0) ∧ w1.cell? ⟨w.heap.size + 1, 1, none⟩ = some (.int .i64 0) ∧ ∀ i, w1.frozen? ⟨w.heap.size + 1, i, none⟩ = false := ⟨bkeep hb1 f0, bkeep hb1 f1, fun i => by rw [hb1.frozen (p := ⟨w.heap.size + 1, i, none⟩) (lt_of_cell f0)]; exact ff i⟩
    go_upto_region 3 with fail
    obtain ⟨U, hU⟩ : ∃ U, U = (w1.setCell ⟨w.heap.size + 1, 0, none⟩ (.int .i64 c)).setCell ⟨w.heap.size + 1, 1, none⟩ (.int .i64 a) := ⟨_, rfl⟩
    have zY : w.heap.size + 2 = Y.heap.size := by rw [HY.out]; simp
    have zb1 := hb1.size
    have bU : Below w.heap.size w U := by rw [hU]; exact ((bthen hbY hb1).setCell (p := ⟨w.heap.size + 1, 0, none⟩) (by show w.heap.size ≤ w.heap.size + 1; omega) _).setCell (p := ⟨w.heap.size + 1, 1, none⟩) (by show w.heap.size ≤ w.heap.size + 1; omega) _
    have u0 : U.cell? ⟨w.heap.size + 1, 0, none⟩ = some (.int .i64 c) := by rw [hU]; exact set_off (set_same g0) (by decide)
    have u1 : U.cell? ⟨w.heap.size + 1, 1, none⟩ = some (.int .i64 a) := by rw [hU]; exact set_same (set_off g1 (by decide))
    have uf : ∀ i, U.frozen? ⟨w.heap.size + 1, i, none⟩ = false := fun i => by rw [hU]; simp [go_sem, gf]
    rw [← hU]
    have HU := hd hU
    clear hU
    go_region
    go_wp2_with fail
    obtain ⟨Z, hZ⟩ : ∃ Z, Z = (U.setCell ⟨w.heap.size + 1, 0, none⟩ (.int .i64 c)).setCell ⟨w.heap.size + 1, 1, none⟩ (.int .i64 a) := ⟨_, rfl⟩
    have y6 : Z.cell? ⟨w.heap.size + 1, 0, none⟩ = some (.int .i64 c) := by rw [hZ]; exact set_off (set_same u0) (by decide)
    have y7 : Z.cell? ⟨w.heap.size + 1, 1, none⟩ = some (.int .i64 a) := by rw [hZ]; exact set_same (set_off u1 (by decide))
    have bZ : Below w.heap.size w Z := by rw [hZ]; exact (bU.setCell (p := ⟨w.heap.size + 1, 0, none⟩) (by show w.heap.size ≤ w.heap.size + 1; omega) _).setCell (p := ⟨w.heap.size + 1, 1, none⟩) (by show w.heap.size ≤ w.heap.size + 1; omega) _
    rw [← hZ]
    clear hZ
    refine ⟨.tuple #[.int .i64 0, .agg #[.int .i64 c, .int .i64 a]], ?_, bthen bZ (drw1 _), .inl ⟨by rw [← HF.out]; exact hc0, by rw [← HF.out]⟩⟩
    simp [results, Try.results45, go_sem, y6, y7]
  · exact absurd hz hc0
set_option maxRecDepth 100000 in
set_option maxHeartbeats 1000000 in
theorem askI_right (g : Gm) (W : List Int) (va vw f : Value) (w : World) (P : World → Value → World → Prop) (fl : Int) (hg : GV w All va g) (hw : IsV w All vw W) (hc0 : (chFl g W).1 = 0) (hT : Tel w g W P fl f) (hP : Stays P)
    : Calls Try.prog 45 #[va, vw, f] w (AskR g W P fl (.int .i64 0) w) := by
  obtain ⟨id, rc, cs, rfl, hcal, hT⟩ := hT
  obtain ⟨vg, rfl, hr⟩ := hg
  obtain ⟨ag, cg, rfl⟩ := hr.slice
  obtain ⟨aw, cw, rfl⟩ := hw.slice
  have hmf : ∀ (fn : Fn) (first cap : Array Value) (w : World), (Instr.makeFunc fn first cap).run Try.prog w = .ok (.func fn first cap) w := fun _ _ _ _ => rfl
  obtain ⟨Y, hY⟩ : ∃ Y, Y = (w.alloc (.cells #[.int .i64 g.vars, .int .i64 g.terms, .int .i64 g.start, .slice ag g.rules.length cg] 24)).alloc (.cells #[.int .i64 0, .int .i64 0] 30) := ⟨_, rfl⟩
  have hbY : Below w.heap.size w Y := by rw [hY]; exact al2 _ _ _
  have f0 : Y.cell? ⟨w.heap.size + 1, 0, none⟩ = some (.int .i64 0) := by rw [hY]; simp [go_sem]
  have f1 : Y.cell? ⟨w.heap.size + 1, 1, none⟩ = some (.int .i64 0) := by rw [hY]; simp [go_sem]
  have ff : ∀ i, Y.frozen? ⟨w.heap.size + 1, i, none⟩ = false := fun i => by rw [hY]; simp [go_sem]
  have b0 : Y.cell? ⟨w.heap.size, 0, none⟩ = some (.int .i64 g.vars) := by rw [hY]; simp [go_sem]
  have b1 : Y.cell? ⟨w.heap.size, 1, none⟩ = some (.int .i64 g.terms) := by rw [hY]; simp [go_sem]
  have b2 : Y.cell? ⟨w.heap.size, 2, none⟩ = some (.int .i64 g.start) := by rw [hY]; simp [go_sem]
  have b3 : Y.cell? ⟨w.heap.size, 3, none⟩ = some (.slice ag g.rules.length cg) := by rw [hY]; simp [go_sem]
  have zY : w.heap.size + 2 = Y.heap.size := by rw [hY]; simp
  have NW := chnew_any g W _ _ Y ⟨_, rfl, hr.lw hbY⟩ (hw.lw hbY)
  unfold NewR at NW
  have HC0 := hd hc0
  clear hc0
  unfold Cal at hcal
  go_enter_defers Try.func45, Try.ntmps45
  go_wp2_with fail
  rw [← hY]
  have HY := hd hY
  clear hY
  refine NW.mono ?_
  rintro e w1 ⟨hb1, ⟨hz, _⟩ | ⟨cb, tb, rb, V, E, vR, vW, _, _, rfl, hG, hE, hs, h1, h2, h3⟩⟩
  · exact absurd HC0.out hz
  obtain rfl := hG.vars
  have bY1 := bthen hbY hb1
  have g0 := bkeep hb1 f0
  have g1 := bkeep hb1 f1
  have gf : ∀ i, w1.frozen? ⟨w.heap.size + 1, i, none⟩ = false := fun i => by rw [hb1.frozen (p := ⟨w.heap.size + 1, i, none⟩) (lt_of_cell f0)]; exact ff i
  have d0 := bkeep hb1 b0
  have d1 := bkeep hb1 b1
  have d2 := bkeep hb1 b2
  have d3 := bkeep hb1 b3
  have zb1 := hb1.size
  obtain ⟨w2, hw2⟩ : ∃ w2, w2 = (w1.setCell ⟨w.heap.size + 1, 0, none⟩ (.int .i64 0)).setCell ⟨w.heap.size + 1, 1, none⟩ (.int .i64 0) := ⟨_, rfl⟩
  have z2 : w2.heap.size = w1.heap.size := by rw [hw2]; simp [World.setCell]
  have k12 : ∀ b o v, w1.cell? ⟨b, o, none⟩ = some v → w2.cell? ⟨b, o, none⟩ = some v := fun b o v hc => by rw [hw2]; exact set_idle (set_off g1 (by decide)) (set_idle g0 hc)
  have kh : ∀ k, k ≠ w.heap.size + 1 → w2.heap[k]? = w1.heap[k]? := fun k hk => by rw [hw2]; exact (setc_ne hk).trans (setc_ne hk)
  have bw2 : Below w.heap.size w w2 := by rw [hw2]; exact (bY1.setCell (p := ⟨w.heap.size + 1, 0, none⟩) (by show w.heap.size ≤ w.heap.size + 1; omega) _).setCell (p := ⟨w.heap.size + 1, 1, none⟩) (by show w.heap.size ≤ w.heap.size + 1; omega) _
  obtain ⟨U, hU⟩ : ∃ U, U = (w2.alloc (.cells #[.pointer (some ⟨cb, 0, none⟩), .int .i64 g.vars, .int .i64 g.terms, .int .i64 g.start, .slice ag g.rules.length cg, .int .i64 W.length, .int .i64 0, .int .i64 0, .int .i64 0] 99)).alloc (.cells #[.pointer (some ⟨w1.heap.size, 0, none⟩)] 77) := ⟨_, rfl⟩
  have hbU : Below w2.heap.size w2 U := by rw [hU]; exact al2 _ _ _
  have bU : Below w.heap.size w U := bthen bw2 hbU
  have kU : ∀ b o v, w1.cell? ⟨b, o, none⟩ = some v → U.cell? ⟨b, o, none⟩ = some v := fun b o v hc => bkeep hbU (k12 b o v hc)
  have nt : tb ≠ w.heap.size + 1 := Ne.symm (memo_ne hs.t g0)
  have nr : rb ≠ w.heap.size + 1 := Ne.symm (memo_ne hs.o g0)
  have lt1 := hs.t.lt
  have lr1 := hs.o.lt
  have FU : FoS U w1.heap.size cb tb rb g W g.vars.toNat E vR vW (.slice ag g.rules.length cg) 0 := by
    refine fo_new hs kU rfl (hr.mono fun b o v _ hc => ⟨trivial, bkeep bY1 hc⟩) ((hbU.block tb (by omega)).trans (kh tb nt)) ((hbU.block rb (by omega)).trans (kh rb nr)) ?_ ?_ ?_ ?_ ?_ ?_ ?_ ?_
    all_goals rw [hU, ← z2]; simp [go_sem]
  have pU : U.cell? ⟨w1.heap.size + 1, 0, none⟩ = some (.pointer (some ⟨w1.heap.size, 0, none⟩)) := by rw [hU, ← z2]; simp [go_sem]
  have TA := hT _ cb tb rb E vR vW _ 0 U hG hE bU FU
  have hUz : U.heap.size = w1.heap.size + 2 := by rw [hU, ← z2]; simp
  have HG := hd hG
  clear hT NW hG hE b0 b1 b2 b3 ff
  go_wp2_with fail
  rw [← hw2, ← hU]
  have HU := hd hU
  have HW2 := hd hw2
  clear hU hw2
  have lF := lt_of_cell g0
  have q0' : U.cell? ⟨w.heap.size + 1, 0, none⟩ = some (.int .i64 0) := kU _ _ _ g0
  have q1' : U.cell? ⟨w.heap.size + 1, 1, none⟩ = some (.int .i64 0) := kU _ _ _ g1
  have qf' : ∀ i, U.frozen? ⟨w.heap.size + 1, i, none⟩ = false := fun i => by
    rw [World.frozen?_of_block (w := w2) (a := ⟨w.heap.size + 1, i, none⟩) (hbU.block (w.heap.size + 1) (by omega)), HW2.out]
    simp [go_sem, gf]
  refine TA.mono ?_
  rintro e w3 (⟨hfl, rfl, p7, p8, kf⟩ | ⟨hfl, v, rfl, hv, p7, p8, kf⟩)
  · have q0 := kf.cell q0' (Ne.symm nt) (Ne.symm nr) (by omega)
    have q1 := kf.cell q1' (Ne.symm nt) (Ne.symm nr) (by omega)
    have qp := kf.cell pU (by omega) (by omega) (by omega)
    have qf : ∀ i, w3.frozen? ⟨w.heap.size + 1, i, none⟩ = false := fun i => (World.frozen?_of_block (a := ⟨w.heap.size + 1, i, none⟩) (kf.block (w.heap.size + 1) (by omega) (Ne.symm nt) (Ne.symm nr) (by omega))).trans (qf' i)
    have b3 : Below w.heap.size w w3 := bU.trans (kf.below (by omega) (by omega) (by omega) bU.size)
    go_wp2_with fail
    refine leaves_cons (f := 68) (args := #[.pointer (some ⟨w1.heap.size + 1, 0, none⟩), .pointer (some ⟨w.heap.size + 1, 0, none⟩)]) (by simp) (by simp [go_sem]) ?_
    refine (askI_catch (w1.heap.size + 1) (w.heap.size + 1) w1.heap.size fl (-1) 0 0 _ _ [] w3 qp p7 p8 hfl q0 q1 qf).mono ?_
    rintro e u' w4 ⟨rfl, rfl, rfl⟩
    simp only [Leaves, settle, List.dropWhile]
    have x0 : ((w3.setCell ⟨w.heap.size + 1, 0, none⟩ (.int .i64 fl)).setCell ⟨w.heap.size + 1, 1, none⟩ (.int .i64 (-1))).cell? ⟨w.heap.size + 1, 0, none⟩ = some (.int .i64 fl) := set_off (set_same q0) (by decide)
    have x1 : ((w3.setCell ⟨w.heap.size + 1, 0, none⟩ (.int .i64 fl)).setCell ⟨w.heap.size + 1, 1, none⟩ (.int .i64 (-1))).cell? ⟨w.heap.size + 1, 1, none⟩ = some (.int .i64 (-1)) := set_same (set_off q1 (by decide))
    have b4 : Below w.heap.size w ((w3.setCell ⟨w.heap.size + 1, 0, none⟩ (.int .i64 fl)).setCell ⟨w.heap.size + 1, 1, none⟩ (.int .i64 (-1))) := (b3.setCell (p := ⟨w.heap.size + 1, 0, none⟩) (by show w.heap.size ≤ w.heap.size + 1; omega) _).setCell (p := ⟨w.heap.size + 1, 1, none⟩) (by show w.heap.size ≤ w.heap.size + 1; omega) _
    generalize (w3.setCell ⟨w.heap.size + 1, 0, none⟩ (.int .i64 fl)).setCell ⟨w.heap.size + 1, 1, none⟩ (.int .i64 (-1)) = w5 at *
    refine ⟨.tuple #[.int .i64 0, .agg #[.int .i64 fl, .int .i64 (-1)]], ?_, b4, .inr (.inl ⟨HC0.out, HG.out, hfl, rfl⟩)⟩
    simp [results, Try.results45, go_sem, x0, x1]
  · have q0 := kf.cell q0' (Ne.symm nt) (Ne.symm nr) (by omega)
    have q1 := kf.cell q1' (Ne.symm nt) (Ne.symm nr) (by omega)
    have qp := kf.cell pU (by omega) (by omega) (by omega)
    have qf : ∀ i, w3.frozen? ⟨w.heap.size + 1, i, none⟩ = false := fun i => (World.frozen?_of_block (a := ⟨w.heap.size + 1, i, none⟩) (kf.block (w.heap.size + 1) (by omega) (Ne.symm nt) (Ne.symm nr) (by omega))).trans (qf' i)
    have b3 : Below w.heap.size w w3 := bU.trans (kf.below (by omega) (by omega) (by omega) bU.size)
    have zU : w.heap.size + 2 ≤ U.heap.size := by omega
    obtain ⟨w4, hw4⟩ : ∃ w4, w4 = (w3.setCell ⟨w.heap.size + 1, 0, none⟩ (.int .i64 0)).setCell ⟨w.heap.size + 1, 1, none⟩ (.int .i64 0) := ⟨_, rfl⟩
    have x0 : w4.cell? ⟨w.heap.size + 1, 0, none⟩ = some (.int .i64 0) := by rw [hw4]; exact set_off (set_same q0) (by decide)
    have x1 : w4.cell? ⟨w.heap.size + 1, 1, none⟩ = some (.int .i64 0) := by rw [hw4]; exact set_same (set_off q1 (by decide))
    have x7 : w4.cell? ⟨w1.heap.size, 7, none⟩ = some (.int .i64 0) := by rw [hw4]; exact set_other (set_other p7 (by omega)) (by omega)
    have xp : w4.cell? ⟨w1.heap.size + 1, 0, none⟩ = some (.pointer (some ⟨w1.heap.size, 0, none⟩)) := by rw [hw4]; exact set_other (set_other qp (by omega)) (by omega)
    have b4 : Below w.heap.size w w4 := by rw [hw4]; exact (b3.setCell (p := ⟨w.heap.size + 1, 0, none⟩) (by show w.heap.size ≤ w.heap.size + 1; omega) _).setCell (p := ⟨w.heap.size + 1, 1, none⟩) (by show w.heap.size ≤ w.heap.size + 1; omega) _
    have kp4 : Kp (fun k => U.heap.size ≤ k) w3 w4 := by rw [hw4]; exact ((Kp.refl _ w3).setCell (.inl (by show ¬ (_ ≤ w.heap.size + 1); omega)) _).setCell (.inl (by show ¬ (_ ≤ w.heap.size + 1); omega)) _
    have HV := hd (hP U w _ w3 w4 hv kp4 bU.size)
    clear hv
    go_wp2_with fail
    rw [← hw4]
    have HW4 := hd hw4
    clear hw4
    refine leaves_cons (f := 68) (args := #[.pointer (some ⟨w1.heap.size + 1, 0, none⟩), .pointer (some ⟨w.heap.size + 1, 0, none⟩)]) (by simp) (by simp [go_sem]) ?_
    refine (askI_idle (w1.heap.size + 1) (w.heap.size + 1) w1.heap.size w4 xp x7).mono ?_
    rintro e u' w5 ⟨rfl, rfl, rfl⟩
    simp only [Leaves, settle]
    refine ⟨.tuple #[v, .agg #[.int .i64 0, .int .i64 0]], ?_, b4, .inr (.inr ⟨HC0.out, HG.out, hfl, _, rfl, HV.out⟩)⟩
    simp [results, Try.results45, go_sem, x0, x1]
end Go.Proofs.Ytlhdppkllmnmkae.G

/- What a forest tells: List, At. -/
namespace Go.Proofs.Ytlhdppkllmnmkae.G
open Go.RowKit Go.Maps
theorem Stays_ls (g : Gm) (W : List Int) (V : Nat) : Stays (lsP g W V) := fun _u w _v _w1 _w2 h hk hz => TfV.kp (T := fun k => w.heap.size ≤ k) h hk (fun _q _ hq => Nat.le_trans hz hq)
theorem Stays_rk (g : Gm) (W : List Int) (V : Nat) (t : Tr) : Stays (rkP g W V t) := fun _u _w _v _w1 _w2 h _ _ => h
/-- List: its fault, its list. -/
noncomputable def lsO (g : Gm) (W : List Int) : (Int × Int) × Tf := if (chFl g W).1 ≠ 0 then (chFl g W, .nil) else if lsFl g W g.vars.toNat ≠ 0 then ((lsFl g W g.vars.toNat, -1), .nil) else ((0, 0), lstT (Trs g.rules W g.vars.toNat g.start 0 W.length))
noncomputable def atO (g : Gm) (W : List Int) (k : Int) : (Int × Int) × Tr := if (chFl g W).1 ≠ 0 then (chFl g W, ⟨0, .nil⟩) else if atFl g W g.vars.toNat k ≠ 0 then ((atFl g W g.vars.toNat k, -1), ⟨0, .nil⟩) else ((0, 0), (Trs g.rules W g.vars.toNat g.start 0 W.length).getD k.toNat ⟨0, .nil⟩)
def LsR (g : Gm) (W : List Int) (w : World) (e : Ending) (w' : World) : Prop := ∃ v, e = .returned (.tuple #[v, .agg #[.int .i64 (lsO g W).1.1, .int .i64 (lsO g W).1.2]]) ∧ TfV w' (fun k => w.heap.size ≤ k) v (lsO g W).2 ∧ Below w.heap.size w w'
def AtR (g : Gm) (W : List Int) (k : Int) (w : World) (e : Ending) (w' : World) : Prop := ∃ v, e = .returned (.tuple #[v, .agg #[.int .i64 (atO g W k).1.1, .int .i64 (atO g W k).1.2]]) ∧ TrV w' (fun k => w.heap.size ≤ k) v (atO g W k).2 ∧ Below w.heap.size w w'
theorem AskR.ls {g : Gm} {W : List Int} {w w' : World} {e : Ending} (h : AskR g W (lsP g W g.vars.toNat) (lsFl g W g.vars.toNat) (.slice none 0 0) w e w') : LsR g W w e w' := by
  obtain ⟨hb, h⟩ := h
  unfold LsR lsO
  rcases h with ⟨h1, rfl⟩ | ⟨h1, _, h2, rfl⟩ | ⟨h1, _, h2, v, rfl, h3⟩
  · rw [if_pos h1]; exact ⟨_, rfl, TfV_nil _ _, hb⟩
  · rw [if_neg (by simp [h1]), if_pos h2]; exact ⟨_, rfl, TfV_nil _ _, hb⟩
  · rw [if_neg (by simp [h1]), if_neg (by simp [h2])]; exact ⟨_, rfl, h3, hb⟩
theorem AskR.at_ {g : Gm} {W : List Int} {k : Int} {w w' : World} {e : Ending} (h : AskR g W (atP g W g.vars.toNat k) (atFl g W g.vars.toNat k) (.agg #[.int .i64 0, .slice none 0 0]) w e w') : AtR g W k w e w' := by
  obtain ⟨hb, h⟩ := h
  unfold AtR atO
  rcases h with ⟨h1, rfl⟩ | ⟨h1, _, h2, rfl⟩ | ⟨h1, _, h2, v, rfl, h3⟩
  · rw [if_pos h1]; exact ⟨_, rfl, ⟨_, rfl, TfV_nil _ _⟩, hb⟩
  · rw [if_neg (by simp [h1]), if_pos h2]; exact ⟨_, rfl, ⟨_, rfl, TfV_nil _ _⟩, hb⟩
  · rw [if_neg (by simp [h1]), if_neg (by simp [h2])]; exact ⟨_, rfl, h3, hb⟩
theorem cal_list : Cal 50 := fun args w => by go_simp
theorem cal_rank1 : Cal 46 := fun args w => by go_simp
theorem askL_any (g : Gm) (W : List Int) (va vw : Value) (w : World) (hg : GV w All va g) (hw : IsV w All vw W) : Calls Try.prog 49 #[va, vw, .func (.func 50) #[] #[]] w (LsR g W w) := by
  have h0 : Calls Try.prog 49 #[va, vw, .func (.func 50) #[] #[]] w (AskR g W (lsP g W g.vars.toNat) (lsFl g W g.vars.toNat) (.slice none 0 0) w) := by
    by_cases hc : (chFl g W).1 = 0
    · exact askL_right g W va vw _ w _ _ hg hw hc ⟨_, _, _, rfl, cal_list, fun fb cb tb rb E vR vW vg room u hG hE _ hF => list_tell hG hE hF⟩ (Stays_ls g W _)
    · exact askL_wrong g W va vw _ w _ _ hg hw hc
  exact h0.mono fun e w' h => h.ls
set_option maxRecDepth 100000 in
set_option maxHeartbeats 1000000 in
theorem forestList_any (g : Gm) (W : List Int) (va vw : Value) (w : World) (hg : GV w All va g) (hw : IsV w All vw W) : Calls Try.prog 24 #[va, vw] w (LsR g W w) := by
  obtain ⟨vg, rfl, hr⟩ := hg
  obtain ⟨ag, cg, rfl⟩ := hr.slice
  obtain ⟨Y, hY⟩ : ∃ Y, Y = (w.alloc (.cells #[.int .i64 g.vars, .int .i64 g.terms, .int .i64 g.start, .slice ag g.rules.length cg] 24)).alloc (.cells #[.int .i64 0, .int .i64 0] 30) := ⟨_, rfl⟩
  have hbY : Below w.heap.size w Y := by rw [hY]; exact al2 _ _ _
  have f0 : Y.cell? ⟨w.heap.size + 1, 0, none⟩ = some (.int .i64 0) := by rw [hY]; simp [go_sem]
  have f1 : Y.cell? ⟨w.heap.size + 1, 1, none⟩ = some (.int .i64 0) := by rw [hY]; simp [go_sem]
  have ff : ∀ i, Y.frozen? ⟨w.heap.size + 1, i, none⟩ = false := fun i => by rw [hY]; simp [go_sem]
  have zY : w.heap.size + 2 = Y.heap.size := by rw [hY]; simp
  have AL := askL_any g W _ vw Y ⟨_, rfl, hr.lw hbY⟩ (hw.lw hbY)
  unfold LsR at AL ⊢
  generalize lsO g W = O at *
  obtain ⟨⟨c, a⟩, L⟩ := O
  dsimp only at AL ⊢
  go_enter Try.func24, Try.ntmps24
  go_wp2_with fail
  rw [← hY]
  have HY := hd hY
  clear hY
  refine AL.mono ?_
  rintro e w1 ⟨v, rfl, hv, hb1⟩
  have g0 := bkeep hb1 f0
  have g1 := bkeep hb1 f1
  have gf : ∀ i, w1.frozen? ⟨w.heap.size + 1, i, none⟩ = false := fun i => by rw [hb1.frozen (p := ⟨w.heap.size + 1, i, none⟩) (lt_of_cell f0)]; exact ff i
  obtain ⟨al, cl, rfl, _⟩ := id hv.slice
  have b4 : Below w.heap.size w ((w1.setCell ⟨w.heap.size + 1, 0, none⟩ (.int .i64 c)).setCell ⟨w.heap.size + 1, 1, none⟩ (.int .i64 a)) := ((bthen hbY hb1).setCell (p := ⟨w.heap.size + 1, 0, none⟩) (by show w.heap.size ≤ w.heap.size + 1; omega) _).setCell (p := ⟨w.heap.size + 1, 1, none⟩) (by show w.heap.size ≤ w.heap.size + 1; omega) _
  have hfv : TfV ((w1.setCell ⟨w.heap.size + 1, 0, none⟩ (.int .i64 c)).setCell ⟨w.heap.size + 1, 1, none⟩ (.int .i64 a)) (fun k => w.heap.size ≤ k) (.slice al L.len cl) L := hv.kp (((Kp.refl _ w1).setCell (.inl (by show ¬ (_ ≤ w.heap.size + 1); omega)) _).setCell (.inl (by show ¬ (_ ≤ w.heap.size + 1); omega)) _) (fun q _ h => by have : Y.heap.size ≤ q := h; omega)
  go_wp2_with fail
  refine bodyPost_ret (v := .tuple #[.slice al L.len cl, .agg #[.int .i64 c, .int .i64 a]]) (by simp [results, Try.results24, go_sem, g0, g1]) rfl ⟨_, rfl, hfv, b4⟩
end Go.Proofs.Ytlhdppkllmnmkae.G

/- How many trees there are in one: the document's count, and the room that the program takes. -/
namespace Go.Proofs.Ytlhdppkllmnmkae.G
open Go.RowKit
def spI (s : Nat) (r : Int) : Int := if (s : Int) ≤ r then r - s else -1
theorem spI_add (a s : Nat) (r : Int) (_h : 0 ≤ r) : spI (a + s) r = spI s (spI a r) := by unfold spI; split <;> split <;> (try split) <;> omega
theorem spI_le (s : Nat) (r : Int) : -1 ≤ spI s r ∧ (0 ≤ r → spI s r ≤ r) := by unfold spI; split <;> omega
def SpOK (t : Tr) : Prop := ∀ (va : Value) (w : World) (room : Int), TrV w All va t → 0 ≤ room → room ≤ 1000000 →
  Calls Try.prog 66 #[va, .int .i64 room] w fun e w' => e = .returned (.int .i64 (spI t.sz room)) ∧ Below w.heap.size w w'
set_option maxRecDepth 100000 in
set_option maxHeartbeats 4000000 in
theorem sp_head (t : Tr) (ih : ∀ i, i < t.kids.len → SpOK (t.kids.at_ i)) : SpOK t := by
  intro va w room ht h0 hr
  obtain ⟨u, rfl, hx⟩ := ht
  obtain ⟨ao, cap, rfl, hcp⟩ := hx.slice
  have hl := hx.1
  obtain ⟨R, hR⟩ : ∃ R, R = spI t.sz room := ⟨_, rfl⟩
  rw [← hR]
  have hR1 : R = spI t.kids.sz (room - 1) := by rw [hR]; unfold Tr.sz; rw [spI_add 1 _ _ h0]; congr 1; unfold spI; split <;> omega
  clear hR
  obtain ⟨W, hW⟩ : ∃ W, W = w.alloc (.cells #[.int .i64 t.rule, .slice ao t.kids.len cap] 44) := ⟨_, rfl⟩
  have hWb : Below w.heap.size w W := by rw [hW]; exact al1 _ _
  go_enter Try.func66, Try.ntmps66
  go_wp2_with fail
  rw [← hW]
  have HW := hd hW
  clear hW
  go_loopw [1, 12] (fun r i wr => ∃ (k : Nat) (m : Int), k ≤ t.kids.len ∧ i = .int .i64 k ∧ r = .int .i64 m ∧ -1 ≤ m ∧ m ≤ room ∧ Hid (R = spI (t.kids.drp k).sz m) ∧ Below W.heap.size W wr) (fun _ i _ => t.kids.len - (intOf i).toNat)
  case atStart => exact ⟨0, room - 1, Nat.zero_le _, rfl, by go_num, by omega, by omega, hd (by rw [hR1, Tf.drp_zero]), Below.refl _ _⟩
  case round =>
    obtain ⟨k, m, hk, rfl, rfl, hm1, hm2, hinv, hb⟩ := hrel
    clear hR1
    have bel : Below w.heap.size w wr := bthen hWb hb
    by_cases hlt : k < t.kids.len
    · obtain ⟨b, o, rfl, _, c0, aq, cq, c1, hq⟩ := (hx.lw bel).at_ hlt
      obtain ⟨V, hV⟩ : ∃ V, V = wr.alloc (.cells #[.int .i64 (t.kids.at_ k).rule, .slice aq (t.kids.at_ k).kids.len cq] 44) := ⟨_, rfl⟩
      have hVb : Below wr.heap.size wr V := by rw [hV]; exact al1 _ _
      have bV := bthen hb hVb
      by_cases hmm : 0 ≤ m
      · have IH := ih k hlt _ V m (TrV_mk (hq.lw hVb)) hmm (by omega)
        have HI : Hid (R = spI (t.kids.drp (k + 1)).sz (spI (t.kids.at_ k).sz m)) := hd (by rw [hinv.out, Tf.sz_drp hlt, spI_add _ _ _ hmm])
        have hz := spI_le (t.kids.at_ k).sz m
        have hz1 := hz.1
        have hz2 := hz.2 hmm
        clear hinv hz
        generalize spI (t.kids.at_ k).sz m = z at *
        generalize t.kids.at_ k = x at *
        go_wp2_with fail
        rw [← hV]
        have HV := hd hV
        clear hV
        refine IH.mono ?_
        rintro e w1 ⟨rfl, hb1⟩
        have bz := bthen bV hb1
        go_wp2_with fail
        go_roundw
        case rel => exact ⟨k + 1, z, by omega, by go_num, rfl, by omega, by omega, HI, bz⟩
        case measure => simp [intOf]; omega
      · have hR' : Hid (R = m) := hd (by rw [hinv.out]; unfold spI; split <;> omega)
        have bw := bthen hWb bV
        generalize t.kids.at_ k = x at *
        go_wp2_with fail
        rw [← hV]
        go_ret
        exact ⟨ret_int (by rw [hR'.out]), bw⟩
    · have hR' : Hid (R = m) := hd (by rw [hinv.out, Tf.drp_end (by omega)]; unfold spI Tf.sz; split <;> omega)
      go_wp2_with fail
      go_ret
      exact ⟨ret_int (by rw [hR'.out]), bel⟩
theorem sp_all : ∀ (f : Tf) (i : Nat), i < f.len → SpOK (f.at_ i)
  | .nil, _, h => absurd h (Nat.not_lt_zero _)
  | .cons rule kids _, 0, _ => sp_head ⟨rule, kids⟩ (sp_all kids)
  | .cons _ _ rest, i + 1, h => sp_all rest i (by simpa [Tf.len] using h)
theorem spare_any (t : Tr) : SpOK t := sp_head t (sp_all t.kids)
end Go.Proofs.Ytlhdppkllmnmkae.G

/- Is it a tree of a nonterminal? The document's way. -/
namespace Go.Proofs.Ytlhdppkllmnmkae.G
open Go.RowKit
end Go.Proofs.Ytlhdppkllmnmkae.G

/- What is wrong with a tree: tree.Check, and the document's. -/
namespace Go.Proofs.Ytlhdppkllmnmkae.G
open Go.RowKit
def tFl (g : Gm) (t : Tr) (v : Int) : Int × Int := if (gFl g).1 ≠ 0 then gFl g else if 400 < t.sz then (6, -1) else if fitT g.rules t v = true then (0, 0) else (13, -1)
theorem spI_neg (s : Nat) : decide (spI s 400 < 0) = decide (400 < s) := by unfold spI; rw [decide_eq_decide]; split <;> omega
theorem tFl_bad {g : Gm} {t : Tr} {v a b : Int} (h : gFl g = (a, b)) (ha : a ≠ 0) : tFl g t v = (a, b) := by unfold tFl; rw [h, if_pos ha]
theorem tFl_many {g : Gm} {t : Tr} {v b : Int} (h : gFl g = (0, b)) (h4 : 400 < t.sz) : tFl g t v = (6, -1) := by unfold tFl; rw [h, if_neg (by simp), if_pos h4]
theorem tFl_fit {g : Gm} {t : Tr} {v b : Int} (h : gFl g = (0, b)) (h4 : ¬ 400 < t.sz) (hf : fitT g.rules t v = true) : tFl g t v = (0, 0) := by unfold tFl; rw [h, if_neg (by simp), if_neg h4, if_pos hf]
theorem tFl_not {g : Gm} {t : Tr} {v b : Int} (h : gFl g = (0, b)) (h4 : ¬ 400 < t.sz) (hf : fitT g.rules t v = false) : tFl g t v = (13, -1) := by unfold tFl; rw [h, if_neg (by simp), if_neg h4, if_neg (by simp [hf])]
set_option maxRecDepth 100000 in
set_option maxHeartbeats 16000000 in
theorem tcheck_any (g : Gm) (t : Tr) (v : Int) (va vt : Value) (w : World) (hg : GV w All va g) (ht : TrV w All vt t) (hs : Small g.rules) :
    Calls Try.prog 43 #[va, vt, .int .i64 v] w fun e w' => e = .returned (.agg #[.int .i64 (tFl g t v).1, .int .i64 (tFl g t v).2]) ∧ Below w.heap.size w w' := by
  obtain ⟨R, hR0⟩ : ∃ R, R = tFl g t v := ⟨_, rfl⟩
  have hR := hd hR0
  rw [← hR0]
  clear hR0
  have CK := fun w' (hb : Below w.heap.size w w') => check_any g va w' (hg.lw hb)
  have SP := fun w' (hb : Below w.heap.size w w') => spare_any t vt w' 400 (ht.lw hb) (by omega) (by omega)
  have FT := fun w' (hb : Below w.heap.size w w') => fits_any t g va vt v w' (hg.lw hb) (ht.lw hb) hs
  obtain ⟨D1, D2, hD⟩ : ∃ a b, gFl g = (a, b) := ⟨_, _, rfl⟩
  rw [hD] at CK
  simp only at CK
  have hsp := spI_neg t.sz
  obtain ⟨ua, rfl, ra⟩ := hg
  obtain ⟨ut, rfl, kt⟩ := ht
  obtain ⟨ao, cap, rfl⟩ := ra.slice
  obtain ⟨at_, ct, rfl, _⟩ := kt.slice
  obtain ⟨W, hW⟩ : ∃ W, W = ((w.alloc (.cells #[.int .i64 g.vars, .int .i64 g.terms, .int .i64 g.start, .slice ao g.rules.length cap] 24)).alloc (.cells #[.int .i64 t.rule, .slice at_ t.kids.len ct] 44)).alloc (.cells #[.int .i64 0, .int .i64 0] 30) := ⟨_, rfl⟩
  have hWb : Below w.heap.size w W := by rw [hW]; exact (al2 w _ _).alloc (by simp <;> omega) _
  have x0 : W.cell? ⟨w.heap.size, 0, none⟩ = some (.int .i64 g.vars) := by rw [hW]; simp [go_sem]
  have x1 : W.cell? ⟨w.heap.size, 1, none⟩ = some (.int .i64 g.terms) := by rw [hW]; simp [go_sem]
  have x2 : W.cell? ⟨w.heap.size, 2, none⟩ = some (.int .i64 g.start) := by rw [hW]; simp [go_sem]
  have x3 : W.cell? ⟨w.heap.size, 3, none⟩ = some (.slice ao g.rules.length cap) := by rw [hW]; simp [go_sem]
  have y0 : W.cell? ⟨w.heap.size + 1, 0, none⟩ = some (.int .i64 t.rule) := by rw [hW]; simp [go_sem]
  have y1 : W.cell? ⟨w.heap.size + 1, 1, none⟩ = some (.slice at_ t.kids.len ct) := by rw [hW]; simp [go_sem]
  have hWr : RB W (w.heap.size + 2) := by rw [hW]; exact ⟨by simp [go_sem], by simp [go_sem], fun i => by simp [go_sem]⟩
  have CW := CK W hWb
  go_enter Try.func43, Try.ntmps43
  go_wp2_with fail
  rw [← hW]
  have HW := hd hW
  clear hW
  refine CW.mono ?_
  rintro e w1 ⟨rfl, hb1⟩
  obtain ⟨V, hV⟩ : ∃ V, V = w1.alloc (.cells #[.int .i64 D1, .int .i64 D2] 30) := ⟨_, rfl⟩
  have hVb : Below w1.heap.size w1 V := by rw [hV]; exact al1 _ _
  have bW := bthen hb1 hVb
  have bV := bthen hWb bW
  have tr := hWr.below hb1
  by_cases hc : D1 = 0
  rotate_left
  · have hr : R = (D1, D2) := hR.out.trans (tFl_bad hD hc)
    subst hr
    have hcb : (D1 != 0) = true := by simpa using hc
    have HD := hd hD
    clear hc hD
    have q0 := alcell tr.c0 (.cells #[.int .i64 D1, .int .i64 D2] 30)
    have q1 := alcell tr.c1 (.cells #[.int .i64 D1, .int .i64 D2] 30)
    have qf := (tr.below (al1 w1 (.cells #[.int .i64 D1, .int .i64 D2] 30))).fz
    go_wp2_with fail
    refine bodyPost_ret (v := .agg #[.int .i64 D1, .int .i64 D2]) (by simp [results, Try.results43, go_sem, q0, q1]) rfl ⟨rfl, ?_⟩
    rw [← hV]
    exact (bV.setCell (p := ⟨w.heap.size + 2, 0, none⟩) (by show w.heap.size ≤ w.heap.size + 2; omega) _).setCell (p := ⟨w.heap.size + 2, 1, none⟩) (by show w.heap.size ≤ w.heap.size + 2; omega) _
  subst hc
  have u0 := alcell (bkeep hb1 y0) (.cells #[.int .i64 0, .int .i64 D2] 30)
  have u1 := alcell (bkeep hb1 y1) (.cells #[.int .i64 0, .int .i64 D2] 30)
  have SV := SP V bV
  generalize spI t.sz 400 = s at *
  have hDD := hd hD
  have Hsp := hd hsp
  clear hsp CW
  go_wp2_with fail
  rw [← hV]
  have HV := hd hV
  clear hV
  refine SV.mono ?_
  rintro e w2 ⟨rfl, hb2⟩
  have b2 := bthen bV hb2
  have b2W := bthen bW hb2
  have t2 := (tr.below hVb).below hb2
  by_cases h4 : 400 < t.sz
  · have hsb : decide (s < 0) = true := by rw [Hsp.out]; simpa using h4
    have hr : R = (6, -1) := hR.out.trans (tFl_many hDD.out h4)
    subst hr
    have q0 := t2.c0
    have q1 := t2.c1
    have qf := t2.fz
    clear h4 hD
    go_wp2_with fail
    refine bodyPost_ret (v := .agg #[.int .i64 6, .int .i64 (-1)]) (by simp [results, Try.results43, go_sem, q0, q1]) rfl ⟨rfl, ?_⟩
    exact (b2.setCell (p := ⟨w.heap.size + 2, 0, none⟩) (by show w.heap.size ≤ w.heap.size + 2; omega) _).setCell (p := ⟨w.heap.size + 2, 1, none⟩) (by show w.heap.size ≤ w.heap.size + 2; omega) _
  have hsb : decide (s < 0) = false := by rw [Hsp.out]; simpa using h4
  have z0 := bkeep b2W x0
  have z1 := bkeep b2W x1
  have z2 := bkeep b2W x2
  have z3 := bkeep b2W x3
  have z4 := bkeep b2W y0
  have z5 := bkeep b2W y1
  have F2 := FT w2 b2
  have hF := @tFl_fit g t v D2 hDD.out h4
  have hN := @tFl_not g t v D2 hDD.out h4
  have HF := hd hF
  have HN := hd hN
  have H4 := hd h4
  clear h4 hD hF hN SP FT CK u0 u1 x0 x1 x2 x3 y0 y1
  generalize fitT g.rules t v = q at *
  go_wp2_with fail
  refine F2.mono ?_
  rintro e w3 ⟨rfl, hb3⟩
  have b3 := bthen b2 hb3
  have t3 := t2.below hb3
  have q0 := t3.c0
  have q1 := t3.c1
  have qf := t3.fz
  cases q with
  | true =>
    have hr : R = (0, 0) := hR.out.trans (HF.out rfl)
    subst hr
    go_wp2_with fail
    refine bodyPost_ret (v := .agg #[.int .i64 0, .int .i64 0]) (by simp [results, Try.results43, go_sem, q0, q1]) rfl ⟨rfl, ?_⟩
    exact (b3.setCell (p := ⟨w.heap.size + 2, 0, none⟩) (by show w.heap.size ≤ w.heap.size + 2; omega) _).setCell (p := ⟨w.heap.size + 2, 1, none⟩) (by show w.heap.size ≤ w.heap.size + 2; omega) _
  | false =>
    have hr : R = (13, -1) := hR.out.trans (HN.out rfl)
    subst hr
    go_wp2_with fail
    refine bodyPost_ret (v := .agg #[.int .i64 13, .int .i64 (-1)]) (by simp [results, Try.results43, go_sem, q0, q1]) rfl ⟨rfl, ?_⟩
    exact (b3.setCell (p := ⟨w.heap.size + 2, 0, none⟩) (by show w.heap.size ≤ w.heap.size + 2; omega) _).setCell (p := ⟨w.heap.size + 2, 1, none⟩) (by show w.heap.size ≤ w.heap.size + 2; omega) _
end Go.Proofs.Ytlhdppkllmnmkae.G
