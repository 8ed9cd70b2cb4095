/- Texts laid together: Vo Ag Vp Vb. -/
import Derived.Test.YtlhdppkllmnmkaeL22
import Derived.Deep.RegionHeld3
import Derived.RegionTactic
import Derived.Test.YtlhdppkllmnmkaeL01
import Derived.Test.YtlhdppkllmnmkaeL09
/- What a forest tells: Rank. -/
namespace Go.Proofs.Ytlhdppkllmnmkae.G
open Go.RowKit Go.Maps
/-- How Rank ends: its number, its fault. -/
def RkR (g : Gm) (t : Tr) (n : Nat) (c a : Int) : Prop :=
  ((tFl g t g.start).1 ≠ 0 ∧ c = (tFl g t g.start).1 ∧ a = (tFl g t g.start).2 ∧ n = 0) ∨
  ((tFl g t g.start).1 = 0 ∧ (chFl g (wdT g.rules t)).1 ≠ 0 ∧ c = (chFl g (wdT g.rules t)).1 ∧ a = (chFl g (wdT g.rules t)).2 ∧ n = 0) ∨
  ((tFl g t g.start).1 = 0 ∧ (chFl g (wdT g.rules t)).1 = 0 ∧ CkG g (wdT g.rules t) g.vars.toNat ∧ 4611686018427387904 ≤ nAll g (wdT g.rules t) g.vars.toNat ∧ c = 6 ∧ a = -1 ∧ n = 0) ∨
  ((tFl g t g.start).1 = 0 ∧ (chFl g (wdT g.rules t)).1 = 0 ∧ CkG g (wdT g.rules t) g.vars.toNat ∧ nAll g (wdT g.rules t) g.vars.toNat < 4611686018427387904 ∧ c = 0 ∧ a = 0 ∧ (Trs g.rules (wdT g.rules t) g.vars.toNat g.start 0 (wdT g.rules t).length)[n]? = some t)
theorem seg_full (W : List Int) : seg W 0 W.length = W := by unfold seg; simp
theorem rank1_tell {fb cb tb rb : Nat} {g : Gm} {W : List Int} {V : Nat} {E : BitVec 64} {vR vW vg : Value} {room : Nat} {w : World} (hG : CkG g W V) (hE : ∀ v : Int, hasB E v = true ↔ Nul g.rules v) (t : Tr) (bk : Nat) (ao : Option Addr) (cap : Nat) (x0 : w.cell? ⟨bk, 0, none⟩ = some (.int .i64 t.rule)) (x1 : w.cell? ⟨bk, 1, none⟩ = some (.slice ao t.kids.len cap)) (hx : TfV w All (.slice ao t.kids.len cap) t.kids) (hex : ∃ n : Nat, (Trs g.rules W V g.start 0 W.length)[n]? = some t) (hF : FoS w fb cb tb rb g W V E vR vW vg room) :
    Calls Try.prog 46 #[.pointer (some ⟨fb, 0, none⟩), .pointer (some ⟨bk, 0, none⟩)] w (TellR fb tb rb (rkP g W V t) (rkFl g W V) w) := by
  have RT := rank_tell hG hE t _ (TrV_mk hx) hex hF
  clear hF
  unfold TellR rkP at RT ⊢
  generalize rkFl g W V = fl at *
  go_enter Try.func46, Try.ntmps46
  go_wp2_with fail
  refine RT.mono ?_
  rintro e w3 (⟨hfl, rfl, p7, p8, kf⟩ | ⟨hfl, v, rfl, ⟨n, rfl, hn⟩, p7, p8, kf⟩)
  · go_wp2_with fail
    exact ⟨rfl, .inl ⟨hfl, rfl, p7, p8, kf⟩⟩
  · go_wp2_with fail
    go_ret
    exact .inr ⟨hfl, _, rfl, ⟨n, rfl, hn⟩, p7, p8, kf⟩
theorem askI_any (g : Gm) (W : List Int) (t : Tr) (bk : Nat) (ao : Option Addr) (cap : Nat) (va vw : Value) (w : World) (hg : GV w All va g) (hw : IsV w All vw W) (x0 : w.cell? ⟨bk, 0, none⟩ = some (.int .i64 t.rule)) (x1 : w.cell? ⟨bk, 1, none⟩ = some (.slice ao t.kids.len cap)) (hx : TfV w All (.slice ao t.kids.len cap) t.kids) (hfit : fitT g.rules t g.start = true) (hwd : wdT g.rules t = W) :
    Calls Try.prog 45 #[va, vw, .func (.func 46) #[] #[.pointer (some ⟨bk, 0, none⟩)]] w (AskR g W (rkP g W g.vars.toNat t) (rkFl g W g.vars.toNat) (.int .i64 0) w) := by
  by_cases hc : (chFl g W).1 = 0
  · exact askI_right g W va vw _ w _ _ hg hw hc ⟨_, _, _, rfl, cal_rank1, fun fb cb tb rb E vR vW vg room u hG hE hb hF => rank1_tell hG hE t bk ao cap (bkeep hb x0) (bkeep hb x1) (hx.lw hb) (Trs_has hG.ac hG.hR (Nat.le_refl _) (Nat.zero_le _) hfit (by rw [hwd, seg_full])) hF⟩ (Stays_rk g W _ t)
  · exact askI_wrong g W va vw _ w _ _ hg hw hc
theorem AskR.rk {g : Gm} {W : List Int} {t : Tr} {w w' : World} {e : Ending} (ht : (tFl g t g.start).1 = 0) (hwd : wdT g.rules t = W) (h : AskR g W (rkP g W g.vars.toNat t) (rkFl g W g.vars.toNat) (.int .i64 0) w e w') : ∃ (n : Nat) (c a : Int), e = .returned (.tuple #[.int .i64 n, .agg #[.int .i64 c, .int .i64 a]]) ∧ RkR g t n c a ∧ Below w.heap.size w w' := by
  subst hwd
  obtain ⟨hb, h⟩ := h
  unfold RkR
  have hfl : rkFl g (wdT g.rules t) g.vars.toNat ≠ 0 ↔ 4611686018427387904 ≤ nAll g (wdT g.rules t) g.vars.toNat := by
    unfold rkFl; split <;> simp [*]
  have hf6 : rkFl g (wdT g.rules t) g.vars.toNat ≠ 0 → rkFl g (wdT g.rules t) g.vars.toNat = 6 := by
    unfold rkFl; split <;> simp
  rcases h with ⟨h1, rfl⟩ | ⟨h1, hG, h2, rfl⟩ | ⟨h1, hG, h2, v, rfl, n, rfl, hn⟩
  · exact ⟨0, _, _, rfl, .inr (.inl ⟨ht, h1, rfl, rfl, rfl⟩), hb⟩
  · exact ⟨0, _, _, by rw [hf6 h2]; rfl, .inr (.inr (.inl ⟨ht, h1, hG, hfl.1 h2, rfl, rfl, rfl⟩)), hb⟩
  · exact ⟨n, _, _, rfl, .inr (.inr (.inr ⟨ht, h1, hG, Nat.lt_of_not_le (fun hh => (hfl.2 hh) h2), rfl, rfl, hn⟩)), hb⟩
set_option maxRecDepth 100000 in
set_option maxHeartbeats 1000000 in
theorem forestRank_any (g : Gm) (t : Tr) (va vt : Value) (w : World) (hg : GV w All va g) (ht : TrV w All vt t) (hs : Small g.rules) :
    Calls Try.prog 21 #[va, vt] w fun e w' => ∃ (n : Nat) (c a : Int), e = .returned (.tuple #[.int .i64 n, .agg #[.int .i64 c, .int .i64 a]]) ∧ RkR g t n c a ∧ Below w.heap.size w w' := by
  obtain ⟨vg, rfl, hr⟩ := hg
  obtain ⟨ag, cg, rfl⟩ := hr.slice
  obtain ⟨vu, rfl, hx⟩ := ht
  obtain ⟨ao, cap, rfl, _⟩ := hx.slice
  have hmf : ∀ (fn : Fn) (first cap : Array Value) (w : World), (Instr.makeFunc fn first cap).run Try.prog w = .ok (.func fn first cap) w := fun _ _ _ _ => rfl
  obtain ⟨Y, hY⟩ : ∃ Y, Y = ((w.alloc (.cells #[.int .i64 g.vars, .int .i64 g.terms, .int .i64 g.start, .slice ag g.rules.length cg] 24)).alloc (.cells #[.int .i64 t.rule, .slice ao t.kids.len cap] 44)).alloc (.cells #[.int .i64 0, .int .i64 0] 30) := ⟨_, rfl⟩
  have hbY : Below w.heap.size w Y := by rw [hY]; exact (al2 _ _ _).alloc (by simp; omega) _
  have d0 : Y.cell? ⟨w.heap.size, 0, none⟩ = some (.int .i64 g.vars) := by rw [hY]; simp [go_sem]
  have d1 : Y.cell? ⟨w.heap.size, 1, none⟩ = some (.int .i64 g.terms) := by rw [hY]; simp [go_sem]
  have d2 : Y.cell? ⟨w.heap.size, 2, none⟩ = some (.int .i64 g.start) := by rw [hY]; simp [go_sem]
  have d3 : Y.cell? ⟨w.heap.size, 3, none⟩ = some (.slice ag g.rules.length cg) := by rw [hY]; simp [go_sem]
  have t0 : Y.cell? ⟨w.heap.size + 1, 0, none⟩ = some (.int .i64 t.rule) := by rw [hY]; simp [go_sem]
  have t1 : Y.cell? ⟨w.heap.size + 1, 1, none⟩ = some (.slice ao t.kids.len cap) := by rw [hY]; simp [go_sem]
  have f0 : Y.cell? ⟨w.heap.size + 1 + 1, 0, none⟩ = some (.int .i64 0) := by rw [hY]; simp [go_sem]
  have f1 : Y.cell? ⟨w.heap.size + 1 + 1, 1, none⟩ = some (.int .i64 0) := by rw [hY]; simp [go_sem]
  have ff : ∀ i, Y.frozen? ⟨w.heap.size + 1 + 1, i, none⟩ = false := fun i => by rw [hY]; simp [go_sem]
  have zY : w.heap.size + 3 = Y.heap.size := by rw [hY]; simp
  have WA := word_any g t _ _ Y ⟨_, rfl, hr.lw hbY⟩ (TrV_mk (hx.lw hbY)) hs
  obtain ⟨⟨c, a⟩, hF⟩ : ∃ F, F = tFl g t g.start := ⟨_, rfl⟩
  have hz : c = 0 → fitT g.rules t g.start = true ∧ a = 0 ∧ wdE g t = wdT g.rules t := fun h => by
    have h0 : (tFl g t g.start).1 = 0 := by rw [← hF]; exact h
    have := tFl_zero h0
    refine ⟨this.2.2.1, by have h3 := this.2.2.2; rw [← hF] at h3; exact h3, ?_⟩
    unfold wdE; rw [if_pos h0]
  rw [← hF] at WA
  dsimp only at WA
  have HF := hd hF
  have HZ := hd hz
  obtain ⟨L, hL⟩ : ∃ L, L = wdE g t := ⟨_, rfl⟩
  rw [← hL] at WA
  have HL := hd hL
  clear hF hz hL
  by_cases hc : c = 0
  · obtain ⟨h1, rfl, h3⟩ := HZ.out hc
    subst hc
    have H3 := hd h3
    have H1 := hd h1
    clear HZ h1 h3
    go_enter Try.func21, Try.ntmps21
    go_wp2_with fail
    rw [← hY]
    have HY := hd hY
    clear hY
    refine WA.mono ?_
    rintro e w1 ⟨vo, rfl, hvo, hb1⟩
    obtain ⟨av, cv, rfl⟩ := hvo.slice
    obtain ⟨U, hU⟩ : ∃ U, U = w1.alloc (.cells #[.int .i64 0, .int .i64 0] 30) := ⟨_, rfl⟩
    have hbU : Below w1.heap.size w1 U := by rw [hU]; exact al1 _ _
    have bYU := bthen hb1 hbU
    have e0 := bkeep bYU d0
    have e1 := bkeep bYU d1
    have e2 := bkeep bYU d2
    have e3 := bkeep bYU d3
    have e4 := bkeep bYU t0
    have e5 := bkeep bYU t1
    have e6 := bkeep bYU f0
    have e7 := bkeep bYU f1
    have e8 : ∀ i, U.frozen? ⟨w.heap.size + 1 + 1, i, none⟩ = false := fun i => by rw [bYU.frozen (p := ⟨w.heap.size + 1 + 1, i, none⟩) (lt_of_cell f0)]; exact ff i
    have AI := askI_any g L t (w.heap.size + 1) ao cap _ _ U ⟨_, rfl, (hr.lw hbY).lw bYU⟩ (hvo.all.lw hbU) e4 e5 ((hx.lw hbY).lw bYU) H1.out (by rw [HL.out, H3.out])
    have l0 := e0
    have l1 := e1
    have l2 := e2
    have l3 := e3
    rw [hU] at l0 l1 l2 l3
    clear WA d0 d1 d2 d3 t0 t1 f0 f1 ff e0 e1 e2 e3 e4 e5
    go_wp2_with fail
    rw [← hU]
    have HU := hd hU
    clear hU l0 l1 l2 l3
    refine AI.mono ?_
    intro e w2 hA
    obtain ⟨n, c, a, rfl, hR, hb2⟩ := hA.rk (by rw [← HF.out]) (by rw [HL.out, H3.out])
    have g0 := bkeep hb2 e6
    have g1 := bkeep hb2 e7
    have gf : ∀ i, w2.frozen? ⟨w.heap.size + 1 + 1, i, none⟩ = false := fun i => by rw [hb2.frozen (p := ⟨w.heap.size + 1 + 1, i, none⟩) (lt_of_cell e6)]; exact e8 i
    have HR := hd hR
    clear hR AI
    have b4 : Below w.heap.size w ((w2.setCell ⟨w.heap.size + 1 + 1, 0, none⟩ (.int .i64 c)).setCell ⟨w.heap.size + 1 + 1, 1, none⟩ (.int .i64 a)) := ((bthen hbY (bthen bYU hb2)).setCell (p := ⟨w.heap.size + 1 + 1, 0, none⟩) (by show w.heap.size ≤ w.heap.size + 1 + 1; omega) _).setCell (p := ⟨w.heap.size + 1 + 1, 1, none⟩) (by show w.heap.size ≤ w.heap.size + 1 + 1; omega) _
    go_wp2_with fail
    exact bodyPost_ret (v := .tuple #[.int .i64 n, .agg #[.int .i64 c, .int .i64 a]]) (by simp [results, Try.results21, go_sem, g0, g1]) rfl ⟨n, c, a, rfl, HR.out, b4⟩
  · have hcB : (c != 0) = true := by simpa using hc
    have hR : RkR g t 0 c a := .inl ⟨by rw [← HF.out]; exact hc, by rw [← HF.out], by rw [← HF.out], rfl⟩
    have HR := hd hR
    clear HZ hR
    go_enter Try.func21, Try.ntmps21
    go_wp2_with fail
    rw [← hY]
    have HY := hd hY
    clear hY
    refine WA.mono ?_
    rintro e w1 ⟨vo, rfl, hvo, hb1⟩
    obtain ⟨av, cv, rfl⟩ := hvo.slice
    obtain ⟨U, hU⟩ : ∃ U, U = w1.alloc (.cells #[.int .i64 c, .int .i64 a] 30) := ⟨_, rfl⟩
    have hbU : Below w1.heap.size w1 U := by rw [hU]; exact al1 _ _
    have bYU := bthen hb1 hbU
    have u0 : U.cell? ⟨w1.heap.size, 0, none⟩ = some (.int .i64 c) := by rw [hU]; exact al_c0 rfl
    have u1 : U.cell? ⟨w1.heap.size, 1, none⟩ = some (.int .i64 a) := by rw [hU]; exact al_c1 rfl
    have e6 := bkeep bYU f0
    have e7 := bkeep bYU f1
    have e8 : ∀ i, U.frozen? ⟨w.heap.size + 1 + 1, i, none⟩ = false := fun i => by rw [bYU.frozen (p := ⟨w.heap.size + 1 + 1, i, none⟩) (lt_of_cell f0)]; exact ff i
    have bU := bthen hbY bYU
    clear WA d0 d1 d2 d3 t0 t1 f0 f1 ff
    go_upto_region 3 with fail
    rw [← hU]
    have HU := hd hU
    clear hU
    have q0 : U.drew.cell? ⟨w1.heap.size, 0, none⟩ = _ := u0
    have q1 : U.drew.cell? ⟨w1.heap.size, 1, none⟩ = _ := u1
    have q6 : U.drew.cell? ⟨w.heap.size + 1 + 1, 0, none⟩ = _ := e6
    have q7 : U.drew.cell? ⟨w.heap.size + 1 + 1, 1, none⟩ = _ := e7
    go_region
    all_goals
      go_wp2_with fail
      exact bodyPost_ret (v := .tuple #[.int .i64 0, .agg #[.int .i64 c, .int .i64 a]]) (by simp [results, Try.results21, go_sem, e6, e7]) rfl ⟨0, c, a, rfl, HR.out, bthen ((bU.setCell (p := ⟨w.heap.size + 1 + 1, 0, none⟩) (by show w.heap.size ≤ w.heap.size + 1 + 1; omega) _).setCell (p := ⟨w.heap.size + 1 + 1, 1, none⟩) (by show w.heap.size ≤ w.heap.size + 1 + 1; omega) _) (drw1 _)⟩
end Go.Proofs.Ytlhdppkllmnmkae.G

/- A grammar that is written out. -/
namespace Go.Proofs.Ytlhdppkllmnmkae.G
open Go.RowKit
theorem RsV_lit2 {w : World} {S : Nat → Prop} {b : Nat} {r r' : Ru} {u u' : Value} (hS : S b) (c0 : w.cell? ⟨b, 0, none⟩ = some (.int .i64 r.left)) (c1 : w.cell? ⟨b, 1, none⟩ = some u) (hu : IsV w S u r.right)
    (c2 : w.cell? ⟨b, 2, none⟩ = some (.int .i64 r'.left)) (c3 : w.cell? ⟨b, 3, none⟩ = some u') (hu' : IsV w S u' r'.right) : RsV w S (.slice (some ⟨b, 0, none⟩) 2 2) [r, r'] :=
  ⟨by simp, _, _, rfl, Nat.le_refl _, (fun h => by cases h), .inr ⟨b, 0, rfl, hS, fun i hi => by
    match i, hi with
    | 0, _ => exact ⟨c0, u, c1, hu⟩
    | 1, _ => exact ⟨c2, u', c3, hu'⟩⟩⟩
theorem IsV_lits {w : World} {S : Nat → Prop} {b : Nat} {l : List Int} (hl : l.length ≤ 9223372036854775807) (hS : S b) (h : ∀ i (hi : i < l.length), w.cell? ⟨b, i, none⟩ = some (.int .i64 l[i])) : IsV w S (.slice (some ⟨b, 0, none⟩) l.length l.length) l :=
  ⟨hl, _, _, rfl, Nat.le_refl _, (fun h => by cases h), .inr ⟨b, 0, rfl, hS, fun i hi => by rw [Nat.zero_add]; exact h i hi⟩⟩
end Go.Proofs.Ytlhdppkllmnmkae.G

/- Of a grammar that is written out: its trees, what a forest tells of them. -/
namespace Go.Proofs.Ytlhdppkllmnmkae.G
open Go.RowKit Go.Maps
def gF : Gm := ⟨1, 1, 0, [⟨0, [0, 0]⟩, ⟨0, [-1]⟩]⟩
def wF : List Int := [0, 0, 0]
def tF1 : Tr := ⟨0, .cons 1 .nil (.cons 0 (.cons 1 .nil (.cons 1 .nil .nil)) .nil)⟩
def tF2 : Tr := ⟨0, .cons 0 (.cons 1 .nil (.cons 1 .nil .nil)) (.cons 1 .nil .nil)⟩
theorem gFl_gF : gFl gF = (0, 0) := by decide
theorem gen_gF {v : Int} (h : Gen false gF.rules v) : v = 0 := by
  cases h with
  | mk r hr _ =>
    simp only [gF, List.mem_cons, List.not_mem_nil, or_false] at hr
    rcases hr with rfl | rfl <;> rfl
theorem nul_gF {v : Int} (h : Nul gF.rules v) : False := by
  have key : ∀ u, Gen false gF.rules u → False := fun u hu => by
    induction hu with
    | mk r hr hs ih =>
      simp only [gF, List.mem_cons, List.not_mem_nil, or_false] at hr
      rcases hr with rfl | rfl
      · exact ih 0 (by simp) (by simp)
      · have := gen_gF (hs (-1) (by simp) (by simp))
        omega
  exact key v h
theorem acy_gF : Acy gF.rules 1 := by
  intro v _ hL
  have step : ∀ a b, ¬ Lds false (Nul gF.rules) gF.rules a b := by
    rintro a b ⟨h0, r, hr, rfl, k, hk, h1, h2, h3⟩
    simp only [gF, List.mem_cons, List.not_mem_nil, or_false] at hr
    rcases hr with rfl | rfl
    · match k, hk with
      | 0, _ =>
        rcases h3 with h3 | h3
        · cases h3
        · exact nul_gF (h3 0 (by simp))
      | 1, _ => exact nul_gF (h2 0 (by simp))
    · match k, hk with
      | 0, _ =>
        have : (-1 : Int) = b := h1
        omega
  cases hL with
  | one h => exact step _ _ h
  | more _ h => exact step _ _ h
theorem chFl_gF : chFl gF wF = (0, 0) := by
  unfold chFl
  rw [gFl_gF, if_neg (by simp), if_neg (by decide)]
  have : pB (Acy gF.rules gF.vars.toNat) = true := pB_iff.2 acy_gF
  rw [this]
  decide
theorem Trs_gF : Trs gF.rules wF 1 0 0 3 = [tF1, tF2] := by decide +kernel
theorem nAll_gF : nAll gF wF 1 = 2 := by
  show nN gF.rules wF 1 0 0 3 = 2
  have h : (Trs gF.rules wF 1 ((0 : Nat) : Int) 0 3).length = 2 := congrArg List.length Trs_gF
  rw [nN_len, h]
theorem lsO_gF : lsO gF wF = ((0, 0), .cons tF1.rule tF1.kids (.cons tF2.rule tF2.kids .nil)) := by
  unfold lsO
  rw [chFl_gF, if_neg (by simp)]
  have h1 : Trs gF.rules wF gF.vars.toNat gF.start 0 wF.length = [tF1, tF2] := Trs_gF
  have h2 : lsFl gF wF gF.vars.toNat = 0 := by
    unfold lsFl
    have hn : nAll gF wF gF.vars.toNat = 2 := nAll_gF
    rw [hn, if_neg (by omega), h1, if_pos (by decide)]
  rw [h2, if_neg (by simp), h1]; rfl
theorem rk_gF {n : Nat} {c a : Int} (h : RkR gF tF2 n c a) : n = 1 ∧ c = 0 ∧ a = 0 := by
  have ht : tFl gF tF2 gF.start = (0, 0) := by decide
  have hw : wdT gF.rules tF2 = wF := by decide
  have hn : nAll gF wF gF.vars.toNat = 2 := nAll_gF
  unfold RkR at h
  rw [ht, hw, chFl_gF, hn] at h
  have hT : Trs gF.rules wF gF.vars.toNat gF.start 0 wF.length = [tF1, tF2] := Trs_gF
  rw [hT] at h
  rcases h with ⟨h, _⟩ | ⟨_, h, _⟩ | ⟨_, _, _, h, _⟩ | ⟨_, _, _, _, rfl, rfl, h⟩
  · exact absurd rfl h
  · exact absurd rfl h
  · omega
  · refine ⟨?_, rfl, rfl⟩
    match n, h with
    | 0, h => have : tF1 = tF2 := by simpa using h
              exact absurd this (by decide)
    | 1, _ => rfl
    | n + 2, h => simp at h
set_option maxRecDepth 100000 in
set_option maxHeartbeats 1000000 in
theorem l2_any (a b : Tr) (va : Value) (w : World) (h : TfV w All va (.cons a.rule a.kids (.cons b.rule b.kids .nil))) :
    Calls Try.prog 39 #[va] w fun e w' => ∃ v, e = .returned v ∧ TrV w' All v b ∧ Below w.heap.size w w' := by
  obtain ⟨ao, cap, rfl, hcp⟩ := h.slice
  have hl2 : (Tf.cons a.rule a.kids (.cons b.rule b.kids .nil)).len = 2 := rfl
  obtain ⟨bq, oq, rfl, _, c0, aq, cq, c1, hq⟩ := h.at_ (k := 1) (by rw [hl2]; omega)
  have e1 : (Tf.cons a.rule a.kids (.cons b.rule b.kids .nil)).at_ 1 = b := rfl
  rw [e1] at c0 c1 hq
  rw [hl2] at hcp ⊢
  obtain ⟨Y, hY⟩ : ∃ Y, Y = w.alloc (.cells #[.int .i64 b.rule, .slice aq b.kids.len cq] 44) := ⟨_, rfl⟩
  have hb : Below w.heap.size w Y := by rw [hY]; exact al1 _ _
  have y0 : Y.cell? ⟨w.heap.size, 0, none⟩ = some (.int .i64 b.rule) := by rw [hY]; exact al_c0 rfl
  have y1 : Y.cell? ⟨w.heap.size, 1, none⟩ = some (.slice aq b.kids.len cq) := by rw [hY]; exact al_c1 rfl
  have hv := TrV_mk (hq.lw hb)
  have n0 : bq ≠ w.heap.size := by have := lt_of_cell c0; omega
  have q0 : (w.alloc (.cells #[.int .i64 0, .slice none 0 0] 44)).cell? ⟨bq, oq + 1 * 2, none⟩ = _ := bkeep (al1 _ _) c0
  have q1 : (w.alloc (.cells #[.int .i64 0, .slice none 0 0] 44)).cell? ⟨bq, oq + 1 * 2 + 1, none⟩ = _ := bkeep (al1 _ _) c1
  rw [Nat.one_mul] at q0 q1
  clear h hl2 e1 c0 c1 hq
  go_enter Try.func39, Try.ntmps39
  go_wp2_with fail
  rw [← hY]
  exact bodyPost_ret (v := .agg #[.int .i64 b.rule, .slice aq b.kids.len cq]) (by simp [results, Try.results39, go_sem, y0, y1]) rfl ⟨_, rfl, hv, hb⟩
set_option maxRecDepth 100000 in
set_option maxHeartbeats 1000000 in
theorem forestBegun_any (w : World) : Calls Try.prog 17 #[] w fun e w' => e = .returned (.bool true) ∧ Below w.heap.size w w' := by
  obtain ⟨V1, hV1⟩ : ∃ V1, V1 = w.alloc (.cells #[.int .i64 0, .int .i64 0] 3) := ⟨_, rfl⟩
  obtain ⟨V2, hV2⟩ : ∃ V2, V2 = V1.alloc (.cells #[.int .i64 (-1)] 3) := ⟨_, rfl⟩
  obtain ⟨V3, hV3⟩ : ∃ V3, V3 = V2.alloc (.cells #[.int .i64 0, .slice (some ⟨w.heap.size, 0, none⟩) 2 2, .int .i64 0, .slice (some ⟨w.heap.size + 1, 0, none⟩) 1 1] 37) := ⟨_, rfl⟩
  obtain ⟨V4, hV4⟩ : ∃ V4, V4 = V3.alloc (.cells #[.int .i64 1, .int .i64 1, .int .i64 0, .slice (some ⟨w.heap.size + 1 + 1, 0, none⟩) 2 2] 24) := ⟨_, rfl⟩
  obtain ⟨Y, hY⟩ : ∃ Y, Y = V4.alloc (.cells #[.int .i64 0, .int .i64 0, .int .i64 0] 3) := ⟨_, rfl⟩
  have z1 : V1.heap.size = w.heap.size + 1 := by rw [hV1]; simp
  have z2 : V2.heap.size = w.heap.size + 1 + 1 := by rw [hV2]; simp; omega
  have z3 : V3.heap.size = w.heap.size + 1 + 1 + 1 := by rw [hV3]; simp; omega
  have z4 : V4.heap.size = w.heap.size + 1 + 1 + 1 + 1 := by rw [hV4]; simp; omega
  have z5 : Y.heap.size = w.heap.size + 1 + 1 + 1 + 1 + 1 := by rw [hY]; simp; omega
  have k1 : Below w.heap.size w V1 := by rw [hV1]; exact al1 _ _
  have k2 : Below V1.heap.size V1 V2 := by rw [hV2]; exact al1 _ _
  have k3 : Below V2.heap.size V2 V3 := by rw [hV3]; exact al1 _ _
  have k4 : Below V3.heap.size V3 V4 := by rw [hV4]; exact al1 _ _
  have k5 : Below V4.heap.size V4 Y := by rw [hY]; exact al1 _ _
  have j4 := k5
  have j3 := bthen k4 j4
  have j2 := bthen k3 j3
  have j1 := bthen k2 j2
  have j0 := bthen k1 j1
  have a0 : Y.cell? ⟨w.heap.size, 0, none⟩ = some (.int .i64 0) := bkeep j1 (by rw [hV1]; simp)
  have a1 : Y.cell? ⟨w.heap.size, 1, none⟩ = some (.int .i64 0) := bkeep j1 (by rw [hV1]; simp)
  have b0 : Y.cell? ⟨w.heap.size + 1, 0, none⟩ = some (.int .i64 (-1)) := by rw [← z1]; exact bkeep j2 (by rw [hV2]; simp)
  have c0 : Y.cell? ⟨w.heap.size + 1 + 1, 0, none⟩ = some (.int .i64 0) := by rw [← z2]; exact bkeep j3 (by rw [hV3]; simp)
  have c1 : Y.cell? ⟨w.heap.size + 1 + 1, 1, none⟩ = some (.slice (some ⟨w.heap.size, 0, none⟩) 2 2) := by rw [← z2]; exact bkeep j3 (by rw [hV3]; simp)
  have c2 : Y.cell? ⟨w.heap.size + 1 + 1, 2, none⟩ = some (.int .i64 0) := by rw [← z2]; exact bkeep j3 (by rw [hV3]; simp)
  have c3 : Y.cell? ⟨w.heap.size + 1 + 1, 3, none⟩ = some (.slice (some ⟨w.heap.size + 1, 0, none⟩) 1 1) := by rw [← z2]; exact bkeep j3 (by rw [hV3]; simp)
  have g0 : Y.cell? ⟨w.heap.size + 1 + 1 + 1, 0, none⟩ = some (.int .i64 1) := by rw [← z3]; exact bkeep j4 (by rw [hV4]; simp)
  have g1 : Y.cell? ⟨w.heap.size + 1 + 1 + 1, 1, none⟩ = some (.int .i64 1) := by rw [← z3]; exact bkeep j4 (by rw [hV4]; simp)
  have g2 : Y.cell? ⟨w.heap.size + 1 + 1 + 1, 2, none⟩ = some (.int .i64 0) := by rw [← z3]; exact bkeep j4 (by rw [hV4]; simp)
  have g3 : Y.cell? ⟨w.heap.size + 1 + 1 + 1, 3, none⟩ = some (.slice (some ⟨w.heap.size + 1 + 1, 0, none⟩) 2 2) := by rw [← z3]; exact bkeep j4 (by rw [hV4]; simp)
  have d0 : Y.cell? ⟨w.heap.size + 1 + 1 + 1 + 1, 0, none⟩ = some (.int .i64 0) := by rw [← z4, hY]; simp
  have d1 : Y.cell? ⟨w.heap.size + 1 + 1 + 1 + 1, 1, none⟩ = some (.int .i64 0) := by rw [← z4, hY]; simp
  have d2 : Y.cell? ⟨w.heap.size + 1 + 1 + 1 + 1, 2, none⟩ = some (.int .i64 0) := by rw [← z4, hY]; simp
  have ia : IsV Y All (.slice (some ⟨w.heap.size, 0, none⟩) 2 2) [0, 0] := IsV_lits (l := [0, 0]) (by simp) trivial fun i hi => by
    match i, hi with
    | 0, _ => exact a0
    | 1, _ => exact a1
  have ib : IsV Y All (.slice (some ⟨w.heap.size + 1, 0, none⟩) 1 1) [-1] := IsV_lits (l := [-1]) (by simp) trivial fun i hi => by
    match i, hi with
    | 0, _ => exact b0
  have iw : IsV Y All (.slice (some ⟨w.heap.size + 1 + 1 + 1 + 1, 0, none⟩) 3 3) wF := IsV_lits (l := wF) (by simp [wF]) trivial fun i hi => by
    match i, hi with
    | 0, _ => exact d0
    | 1, _ => exact d1
    | 2, _ => exact d2
  have hrs : RsV Y All (.slice (some ⟨w.heap.size + 1 + 1, 0, none⟩) 2 2) gF.rules := RsV_lit2 (r := ⟨0, [0, 0]⟩) (r' := ⟨0, [-1]⟩) trivial c0 c1 ia c2 c3 ib
  have hgF : GV Y All (.agg #[.int .i64 1, .int .i64 1, .int .i64 0, .slice (some ⟨w.heap.size + 1 + 1, 0, none⟩) 2 2]) gF := ⟨_, rfl, hrs⟩
  have LA := forestList_any gF wF _ _ Y hgF iw
  unfold LsR at LA
  rw [lsO_gF] at LA
  have hsm : Small gF.rules := by refine ⟨by simp [gF], fun i hi => ?_⟩; simp only [gF, List.length_cons, List.length_nil] at hi; match i, hi with
    | 0, _ => simp [gF]
    | 1, _ => simp [gF]
  clear a0 a1 b0 c0 c1 c2 c3 d0 d1 d2 ia ib iw hrs j1 j2 j3 j4 k1 k2 k3 k4 k5
  go_enter Try.func17, Try.ntmps17
  go_wp2_with fail
  rw [← hV1, ← hV2, ← hV3, ← hV4, ← hY]
  have HY := hd hY
  clear hY hV1 hV2 hV3 hV4
  refine LA.mono ?_
  rintro e w1 ⟨v, rfl, hv, hb1⟩
  obtain ⟨al, cl, rfl, hcl⟩ := id hv.slice
  have hlen2 : (Tf.cons tF1.rule tF1.kids (.cons tF2.rule tF2.kids .nil)).len = 2 := rfl
  rw [hlen2] at hcl
  obtain ⟨w2, hw2⟩ : ∃ w2, w2 = w1.alloc (.cells #[.int .i64 0, .int .i64 0] 30) := ⟨_, rfl⟩
  have hb2 : Below w1.heap.size w1 w2 := by rw [hw2]; exact al1 _ _
  have b12 := bthen hb1 hb2
  have f0 : w2.cell? ⟨w1.heap.size, 0, none⟩ = some (.int .i64 0) := by rw [hw2]; exact al_c0 rfl
  have bD := bthen b12 (drw1 w2)
  have eP : w2.drew.cell? ⟨w.heap.size + 1 + 1 + 1, 0, none⟩ = some (.int .i64 1) ∧ w2.drew.cell? ⟨w.heap.size + 1 + 1 + 1, 1, none⟩ = some (.int .i64 1) ∧ w2.drew.cell? ⟨w.heap.size + 1 + 1 + 1, 2, none⟩ = some (.int .i64 0) ∧ w2.drew.cell? ⟨w.heap.size + 1 + 1 + 1, 3, none⟩ = some (.slice (some ⟨w.heap.size + 1 + 1, 0, none⟩) 2 2) := ⟨bkeep bD g0, bkeep bD g1, bkeep bD g2, bkeep bD g3⟩
  have hvD : TfV w2.drew All (.slice al 2 cl) (.cons tF1.rule tF1.kids (.cons tF2.rule tF2.kids .nil)) := (hv.all.lw hb2).lw (drw1 w2)
  have hgD := hgF.lw bD
  have fD : w2.drew.cell? ⟨w1.heap.size, 0, none⟩ = some (.int .i64 0) := f0
  clear LA g0 g1 g2 g3 hv hgF f0
  go_wp2_with fail
  rw [← hw2]
  have HW2 := hd hw2
  clear hw2
  refine wp_region_noPanic ?_
  refine wp_region_held_drew (S := fun w' => w'.cell? ⟨w.heap.size + 1 + 1 + 1, 0, none⟩ = some (.int .i64 1) ∧ w'.cell? ⟨w.heap.size + 1 + 1 + 1, 1, none⟩ = some (.int .i64 1) ∧ w'.cell? ⟨w.heap.size + 1 + 1 + 1, 2, none⟩ = some (.int .i64 0) ∧ w'.cell? ⟨w.heap.size + 1 + 1 + 1, 3, none⟩ = some (.slice (some ⟨w.heap.size + 1 + 1, 0, none⟩) 2 2)) (by kernel_rfl) eP ?_
  intro hSw
  obtain ⟨y0, hy0⟩ : ∃ y0, y0 = w2.drew := ⟨_, rfl⟩
  rw [← hy0] at hSw bD hvD hgD fD ⊢
  clear hy0
  refine wpAnyH_take (i := 0) (v := ?v1) rfl (by kernel_rfl) (by kernel_rfl) (by kernel_rfl) (fun _ _ _ h => np_panic h) (Or.inl ⟨by rfl, ?hy1⟩) (by assumption) ?_
  case hy1 => (intro w' hS'; (try dsimp only at hS'); go_simp; try with_reducible rfl)
  simp only [Act.put, List.setIfInBounds_toArray, List.set_cons_zero, List.set_cons_succ, List.getElem_toArray, List.getElem_cons_zero]
  refine wpAnyH_take (i := 1) (v := ?v2) rfl (by kernel_rfl) (by kernel_rfl) (by kernel_rfl) (fun _ _ _ h => np_panic h) (Or.inl ⟨by rfl, ?hy2⟩) (by assumption) ?_
  case hy2 => (intro w' hS'; (try dsimp only at hS'); go_simp; try with_reducible rfl)
  simp only [Act.put, List.setIfInBounds_toArray, List.set_cons_zero, List.set_cons_succ, List.getElem_toArray, List.getElem_cons_succ, List.getElem_cons_zero]
  refine wpAnyH_ready (rs := [2, 7]) (by kernel_rfl) (by simp) ?_
  refine AllReadyH.cons rfl (fun K hK => ?_) (AllReadyH.cons rfl (fun K hK => ?_) AllReadyH.nil)
  focus
    go_simp
    go_at_call 39
    refine (l2_any tF1 tF2 _ _ hvD).mono ?_
    rintro e y1 ⟨vl, rfl, htl, bq0⟩
    have bD := bthen bD bq0
    have e1 : y1.cell? ⟨w.heap.size + 1 + 1 + 1, 0, none⟩ = some (.int .i64 1) ∧ y1.cell? ⟨w.heap.size + 1 + 1 + 1, 1, none⟩ = some (.int .i64 1) ∧ y1.cell? ⟨w.heap.size + 1 + 1 + 1, 2, none⟩ = some (.int .i64 0) ∧ y1.cell? ⟨w.heap.size + 1 + 1 + 1, 3, none⟩ = some (.slice (some ⟨w.heap.size + 1 + 1, 0, none⟩) 2 2) := ⟨bkeep bq0 hSw.1, bkeep bq0 hSw.2.1, bkeep bq0 hSw.2.2.1, bkeep bq0 hSw.2.2.2⟩
    have hvD := hvD.lw bq0
    have hgD := hgD.lw bq0
    have fD := bkeep bq0 fD
    refine hK.out _ _ e1 ?_
    clear hK K
    intro hSw
    try simp only [Act.put, List.setIfInBounds_toArray, List.set_cons_zero, List.set_cons_succ, List.getElem_toArray, List.getElem_cons_succ, List.getElem_cons_zero]
    refine wpAnyH_ready (rs := [3, 7]) (by kernel_rfl) (by simp) ?_
    refine AllReadyH.cons rfl (fun K hK => ?_) (AllReadyH.cons rfl (fun K hK => ?_) AllReadyH.nil)
    focus
      go_simp
      go_at_call 21
      refine (forestRank_any gF tF2 _ _ _ hgD htl hsm).mono ?_
      rintro e y2 ⟨n, c, a, rfl, hR, bq1⟩
      obtain ⟨rfl, rfl, rfl⟩ := rk_gF hR
      have bD := bthen bD bq1
      have e2 : y2.cell? ⟨w.heap.size + 1 + 1 + 1, 0, none⟩ = some (.int .i64 1) ∧ y2.cell? ⟨w.heap.size + 1 + 1 + 1, 1, none⟩ = some (.int .i64 1) ∧ y2.cell? ⟨w.heap.size + 1 + 1 + 1, 2, none⟩ = some (.int .i64 0) ∧ y2.cell? ⟨w.heap.size + 1 + 1 + 1, 3, none⟩ = some (.slice (some ⟨w.heap.size + 1 + 1, 0, none⟩) 2 2) := ⟨bkeep bq1 hSw.1, bkeep bq1 hSw.2.1, bkeep bq1 hSw.2.2.1, bkeep bq1 hSw.2.2.2⟩
      have hvD := hvD.lw bq1
      have hgD := hgD.lw bq1
      have fD := bkeep bq1 fD
      refine hK.out _ _ e2 ?_
      clear hK K
      intro hSw
      try simp only [Act.put, List.setIfInBounds_toArray, List.set_cons_zero, List.set_cons_succ, List.getElem_toArray, List.getElem_cons_succ, List.getElem_cons_zero]
      refine wpAnyH_take (i := 4) (v := ?v3) rfl (by kernel_rfl) (by kernel_rfl) (by kernel_rfl) (fun _ _ _ h => np_panic h) (Or.inl ⟨by rfl, ?hy3⟩) (by assumption) ?_
      case hy3 => (intro w' hS'; (try dsimp only at hS'); go_simp; try with_reducible rfl)
      simp only [Act.put, List.setIfInBounds_toArray, List.set_cons_zero, List.set_cons_succ, List.getElem_toArray, List.getElem_cons_succ, List.getElem_cons_zero]
      refine wpAnyH_take (i := 5) (v := ?v4) rfl (by kernel_rfl) (by kernel_rfl) (by kernel_rfl) (fun _ _ _ h => np_panic h) (Or.inl ⟨by rfl, ?hy4⟩) (by assumption) ?_
      case hy4 => (intro w' hS'; (try dsimp only at hS'); go_simp; try with_reducible rfl)
      simp only [Act.put, List.setIfInBounds_toArray, List.set_cons_zero, List.set_cons_succ, List.getElem_toArray, List.getElem_cons_succ, List.getElem_cons_zero]
      refine wpAnyH_take (i := 6) (v := ?v5) rfl (by kernel_rfl) (by kernel_rfl) (by kernel_rfl) (fun _ _ _ h => np_panic h) (Or.inl ⟨by rfl, ?hy5⟩) (by assumption) ?_
      case hy5 => (intro w' hS'; (try dsimp only at hS'); go_simp; try with_reducible rfl)
      simp only [Act.put, List.setIfInBounds_toArray, List.set_cons_zero, List.set_cons_succ, List.getElem_toArray, List.getElem_cons_succ, List.getElem_cons_zero]
      refine wpAnyH_ready (rs := [7]) (by kernel_rfl) (by simp) ?_
      refine AllReadyH.cons rfl (fun K hK => ?_) AllReadyH.nil
      go_simp
      obtain ⟨hb, hhb⟩ : ∃ hb, hb = (World.heap y2).size := ⟨_, rfl⟩
      obtain ⟨y3, hy2⟩ : ∃ y3, y3 = World.alloc y2 (.cells #[.int .i64 0, .int .i64 0] 30) := ⟨_, rfl⟩
      have bq2 : Below (World.heap y2).size y2 y3 := by rw [hy2]; exact al1 _ _
      have hb0' : World.cell? y3 ⟨hb, 0, none⟩ = some (.int .i64 0) := by rw [hy2]; exact al_c0 hhb.symm
      have hb1' : World.cell? y3 ⟨hb, 1, none⟩ = some (.int .i64 0) := by rw [hy2]; exact al_c1 hhb.symm
      have hbf : ∀ i, World.frozen? y3 ⟨hb, i, none⟩ = false := fun i => by rw [hy2]; exact al_fz hhb.symm i
      have hbn : w.heap.size ≤ hb := by have := bD.size; omega
      have bD := bthen bD bq2
      rw [← hy2, ← hhb]
      clear hy2 hhb
      have e3 : y3.cell? ⟨w.heap.size + 1 + 1 + 1, 0, none⟩ = some (.int .i64 1) ∧ y3.cell? ⟨w.heap.size + 1 + 1 + 1, 1, none⟩ = some (.int .i64 1) ∧ y3.cell? ⟨w.heap.size + 1 + 1 + 1, 2, none⟩ = some (.int .i64 0) ∧ y3.cell? ⟨w.heap.size + 1 + 1 + 1, 3, none⟩ = some (.slice (some ⟨w.heap.size + 1 + 1, 0, none⟩) 2 2) := ⟨bkeep bq2 hSw.1, bkeep bq2 hSw.2.1, bkeep bq2 hSw.2.2.1, bkeep bq2 hSw.2.2.2⟩
      have hvD := hvD.lw bq2
      have hgD := hgD.lw bq2
      have fD := bkeep bq2 fD
      refine hK.out _ _ e3 ?_
      clear hK K
      intro hSw
      try simp only [Act.put, List.setIfInBounds_toArray, List.set_cons_zero, List.set_cons_succ, List.getElem_toArray, List.getElem_cons_succ, List.getElem_cons_zero]
      refine wpAnyH_take (i := 8) (v := ?v6) rfl (by kernel_rfl) (by kernel_rfl) (by kernel_rfl) (fun _ _ _ h => np_panic h) (Or.inl ⟨by rfl, ?hy6⟩) (by assumption) ?_
      case hy6 => (intro w' hS'; (try dsimp only at hS'); go_simp; try with_reducible rfl)
      simp only [Act.put, List.setIfInBounds_toArray, List.set_cons_zero, List.set_cons_succ, List.getElem_toArray, List.getElem_cons_succ, List.getElem_cons_zero]
      refine wpAnyH_ready (rs := [9]) (by kernel_rfl) (by simp) ?_
      refine AllReadyH.cons rfl (fun K hK => ?_) AllReadyH.nil
      go_simp
      obtain ⟨Z, hZ⟩ : ∃ Z, Z = (World.setCell y3 ⟨hb, 0, none⟩ (.int .i64 0)).setCell ⟨hb, 1, none⟩ (.int .i64 0) := ⟨_, rfl⟩
      have kZ : ∀ b o v, World.cell? y3 ⟨b, o, none⟩ = some v → Z.cell? ⟨b, o, none⟩ = some v := fun b o v hc => by rw [hZ]; exact set_idle (set_off hb1' (by decide)) (set_idle hb0' hc)
      have bZ : Below w.heap.size w Z := by rw [hZ]; exact ((bthen j0 bD).setCell (p := ⟨hb, 0, none⟩) hbn _).setCell (p := ⟨hb, 1, none⟩) hbn _
      have eZ : Z.cell? ⟨w.heap.size + 1 + 1 + 1, 0, none⟩ = some (.int .i64 1) ∧ Z.cell? ⟨w.heap.size + 1 + 1 + 1, 1, none⟩ = some (.int .i64 1) ∧ Z.cell? ⟨w.heap.size + 1 + 1 + 1, 2, none⟩ = some (.int .i64 0) ∧ Z.cell? ⟨w.heap.size + 1 + 1 + 1, 3, none⟩ = some (.slice (some ⟨w.heap.size + 1 + 1, 0, none⟩) 2 2) := ⟨kZ _ _ _ hSw.1, kZ _ _ _ hSw.2.1, kZ _ _ _ hSw.2.2.1, kZ _ _ _ hSw.2.2.2⟩
      have hvZ := hvD.mono (fun b o v hb' hc => ⟨hb', kZ b o v hc⟩)
      have fZ := kZ _ _ _ fD
      have hZ0 := kZ _ _ _ hb0'
      try rw [← hZ]
      clear hZ
      refine hK.out _ _ eZ ?_
      clear hK K
      intro hSw
      try simp only [Act.put, List.setIfInBounds_toArray, List.set_cons_zero, List.set_cons_succ, List.getElem_toArray, List.getElem_cons_succ, List.getElem_cons_zero]
      refine wpAnyH_done (by kernel_rfl) (NoPanic.normal ?_) _
    rotate_left 1
    focus
      go_simp
      obtain ⟨hb, hhb⟩ : ∃ hb, hb = (World.heap y1).size := ⟨_, rfl⟩
      obtain ⟨y2, hy2⟩ : ∃ y2, y2 = World.alloc y1 (.cells #[.int .i64 0, .int .i64 0] 30) := ⟨_, rfl⟩
      have bq1 : Below (World.heap y1).size y1 y2 := by rw [hy2]; exact al1 _ _
      have hb0' : World.cell? y2 ⟨hb, 0, none⟩ = some (.int .i64 0) := by rw [hy2]; exact al_c0 hhb.symm
      have hb1' : World.cell? y2 ⟨hb, 1, none⟩ = some (.int .i64 0) := by rw [hy2]; exact al_c1 hhb.symm
      have hbf : ∀ i, World.frozen? y2 ⟨hb, i, none⟩ = false := fun i => by rw [hy2]; exact al_fz hhb.symm i
      have hbn : w.heap.size ≤ hb := by have := bD.size; omega
      have bD := bthen bD bq1
      rw [← hy2, ← hhb]
      clear hy2 hhb
      have e2 : y2.cell? ⟨w.heap.size + 1 + 1 + 1, 0, none⟩ = some (.int .i64 1) ∧ y2.cell? ⟨w.heap.size + 1 + 1 + 1, 1, none⟩ = some (.int .i64 1) ∧ y2.cell? ⟨w.heap.size + 1 + 1 + 1, 2, none⟩ = some (.int .i64 0) ∧ y2.cell? ⟨w.heap.size + 1 + 1 + 1, 3, none⟩ = some (.slice (some ⟨w.heap.size + 1 + 1, 0, none⟩) 2 2) := ⟨bkeep bq1 hSw.1, bkeep bq1 hSw.2.1, bkeep bq1 hSw.2.2.1, bkeep bq1 hSw.2.2.2⟩
      have hvD := hvD.lw bq1
      have hgD := hgD.lw bq1
      have fD := bkeep bq1 fD
      have htl := htl.lw bq1
      refine hK.out _ _ e2 ?_
      clear hK K
      intro hSw
      try simp only [Act.put, List.setIfInBounds_toArray, List.set_cons_zero, List.set_cons_succ, List.getElem_toArray, List.getElem_cons_succ, List.getElem_cons_zero]
      refine wpAnyH_ready (rs := [3]) (by kernel_rfl) (by simp) ?_
      refine AllReadyH.cons rfl (fun K hK => ?_) AllReadyH.nil
      go_simp
      go_at_call 21
      refine (forestRank_any gF tF2 _ _ _ hgD htl hsm).mono ?_
      rintro e y3 ⟨n, c, a, rfl, hR, bq2⟩
      obtain ⟨rfl, rfl, rfl⟩ := rk_gF hR
      have bD := bthen bD bq2
      have e3 : y3.cell? ⟨w.heap.size + 1 + 1 + 1, 0, none⟩ = some (.int .i64 1) ∧ y3.cell? ⟨w.heap.size + 1 + 1 + 1, 1, none⟩ = some (.int .i64 1) ∧ y3.cell? ⟨w.heap.size + 1 + 1 + 1, 2, none⟩ = some (.int .i64 0) ∧ y3.cell? ⟨w.heap.size + 1 + 1 + 1, 3, none⟩ = some (.slice (some ⟨w.heap.size + 1 + 1, 0, none⟩) 2 2) := ⟨bkeep bq2 hSw.1, bkeep bq2 hSw.2.1, bkeep bq2 hSw.2.2.1, bkeep bq2 hSw.2.2.2⟩
      have hvD := hvD.lw bq2
      have hgD := hgD.lw bq2
      have fD := bkeep bq2 fD
      have hbf : ∀ i, World.frozen? y3 ⟨hb, i, none⟩ = false := fun i => by rw [bq2.frozen (p := ⟨hb, i, none⟩) (lt_of_cell hb0')]; exact hbf i
      have hb0' := bkeep bq2 hb0'
      have hb1' := bkeep bq2 hb1'
      refine hK.out _ _ e3 ?_
      clear hK K
      intro hSw
      try simp only [Act.put, List.setIfInBounds_toArray, List.set_cons_zero, List.set_cons_succ, List.getElem_toArray, List.getElem_cons_succ, List.getElem_cons_zero]
      refine wpAnyH_take (i := 4) (v := ?v7) rfl (by kernel_rfl) (by kernel_rfl) (by kernel_rfl) (fun _ _ _ h => np_panic h) (Or.inl ⟨by rfl, ?hy7⟩) (by assumption) ?_
      case hy7 => (intro w' hS'; (try dsimp only at hS'); go_simp; try with_reducible rfl)
      simp only [Act.put, List.setIfInBounds_toArray, List.set_cons_zero, List.set_cons_succ, List.getElem_toArray, List.getElem_cons_succ, List.getElem_cons_zero]
      refine wpAnyH_take (i := 5) (v := ?v8) rfl (by kernel_rfl) (by kernel_rfl) (by kernel_rfl) (fun _ _ _ h => np_panic h) (Or.inl ⟨by rfl, ?hy8⟩) (by assumption) ?_
      case hy8 => (intro w' hS'; (try dsimp only at hS'); go_simp; try with_reducible rfl)
      simp only [Act.put, List.setIfInBounds_toArray, List.set_cons_zero, List.set_cons_succ, List.getElem_toArray, List.getElem_cons_succ, List.getElem_cons_zero]
      refine wpAnyH_take (i := 6) (v := ?v9) rfl (by kernel_rfl) (by kernel_rfl) (by kernel_rfl) (fun _ _ _ h => np_panic h) (Or.inl ⟨by rfl, ?hy9⟩) (by assumption) ?_
      case hy9 => (intro w' hS'; (try dsimp only at hS'); go_simp; try with_reducible rfl)
      simp only [Act.put, List.setIfInBounds_toArray, List.set_cons_zero, List.set_cons_succ, List.getElem_toArray, List.getElem_cons_succ, List.getElem_cons_zero]
      refine wpAnyH_take (i := 8) (v := ?v10) rfl (by kernel_rfl) (by kernel_rfl) (by kernel_rfl) (fun _ _ _ h => np_panic h) (Or.inl ⟨by rfl, ?hy10⟩) (by assumption) ?_
      case hy10 => (intro w' hS'; (try dsimp only at hS'); go_simp; try with_reducible rfl)
      simp only [Act.put, List.setIfInBounds_toArray, List.set_cons_zero, List.set_cons_succ, List.getElem_toArray, List.getElem_cons_succ, List.getElem_cons_zero]
      refine wpAnyH_ready (rs := [9]) (by kernel_rfl) (by simp) ?_
      refine AllReadyH.cons rfl (fun K hK => ?_) AllReadyH.nil
      go_simp
      obtain ⟨Z, hZ⟩ : ∃ Z, Z = (World.setCell y3 ⟨hb, 0, none⟩ (.int .i64 0)).setCell ⟨hb, 1, none⟩ (.int .i64 0) := ⟨_, rfl⟩
      have kZ : ∀ b o v, World.cell? y3 ⟨b, o, none⟩ = some v → Z.cell? ⟨b, o, none⟩ = some v := fun b o v hc => by rw [hZ]; exact set_idle (set_off hb1' (by decide)) (set_idle hb0' hc)
      have bZ : Below w.heap.size w Z := by rw [hZ]; exact ((bthen j0 bD).setCell (p := ⟨hb, 0, none⟩) hbn _).setCell (p := ⟨hb, 1, none⟩) hbn _
      have eZ : Z.cell? ⟨w.heap.size + 1 + 1 + 1, 0, none⟩ = some (.int .i64 1) ∧ Z.cell? ⟨w.heap.size + 1 + 1 + 1, 1, none⟩ = some (.int .i64 1) ∧ Z.cell? ⟨w.heap.size + 1 + 1 + 1, 2, none⟩ = some (.int .i64 0) ∧ Z.cell? ⟨w.heap.size + 1 + 1 + 1, 3, none⟩ = some (.slice (some ⟨w.heap.size + 1 + 1, 0, none⟩) 2 2) := ⟨kZ _ _ _ hSw.1, kZ _ _ _ hSw.2.1, kZ _ _ _ hSw.2.2.1, kZ _ _ _ hSw.2.2.2⟩
      have hvZ := hvD.mono (fun b o v hb' hc => ⟨hb', kZ b o v hc⟩)
      have fZ := kZ _ _ _ fD
      have hZ0 := kZ _ _ _ hb0'
      try rw [← hZ]
      clear hZ
      refine hK.out _ _ eZ ?_
      clear hK K
      intro hSw
      try simp only [Act.put, List.setIfInBounds_toArray, List.set_cons_zero, List.set_cons_succ, List.getElem_toArray, List.getElem_cons_succ, List.getElem_cons_zero]
      refine wpAnyH_done (by kernel_rfl) (NoPanic.normal ?_) _
    rotate_left 1
  rotate_left 2
  focus
    go_simp
    obtain ⟨hb, hhb⟩ : ∃ hb, hb = (World.heap y0).size := ⟨_, rfl⟩
    obtain ⟨y1, hy2⟩ : ∃ y1, y1 = World.alloc y0 (.cells #[.int .i64 0, .int .i64 0] 30) := ⟨_, rfl⟩
    have bq0 : Below (World.heap y0).size y0 y1 := by rw [hy2]; exact al1 _ _
    have hb0' : World.cell? y1 ⟨hb, 0, none⟩ = some (.int .i64 0) := by rw [hy2]; exact al_c0 hhb.symm
    have hb1' : World.cell? y1 ⟨hb, 1, none⟩ = some (.int .i64 0) := by rw [hy2]; exact al_c1 hhb.symm
    have hbf : ∀ i, World.frozen? y1 ⟨hb, i, none⟩ = false := fun i => by rw [hy2]; exact al_fz hhb.symm i
    have hbn : w.heap.size ≤ hb := by have := bD.size; omega
    have bD := bthen bD bq0
    rw [← hy2, ← hhb]
    clear hy2 hhb
    have e1 : y1.cell? ⟨w.heap.size + 1 + 1 + 1, 0, none⟩ = some (.int .i64 1) ∧ y1.cell? ⟨w.heap.size + 1 + 1 + 1, 1, none⟩ = some (.int .i64 1) ∧ y1.cell? ⟨w.heap.size + 1 + 1 + 1, 2, none⟩ = some (.int .i64 0) ∧ y1.cell? ⟨w.heap.size + 1 + 1 + 1, 3, none⟩ = some (.slice (some ⟨w.heap.size + 1 + 1, 0, none⟩) 2 2) := ⟨bkeep bq0 hSw.1, bkeep bq0 hSw.2.1, bkeep bq0 hSw.2.2.1, bkeep bq0 hSw.2.2.2⟩
    have hvD := hvD.lw bq0
    have hgD := hgD.lw bq0
    have fD := bkeep bq0 fD
    refine hK.out _ _ e1 ?_
    clear hK K
    intro hSw
    try simp only [Act.put, List.setIfInBounds_toArray, List.set_cons_zero, List.set_cons_succ, List.getElem_toArray, List.getElem_cons_succ, List.getElem_cons_zero]
    refine wpAnyH_ready (rs := [2]) (by kernel_rfl) (by simp) ?_
    refine AllReadyH.cons rfl (fun K hK => ?_) AllReadyH.nil
    go_simp
    go_at_call 39
    refine (l2_any tF1 tF2 _ _ hvD).mono ?_
    rintro e y2 ⟨vl, rfl, htl, bq1⟩
    have bD := bthen bD bq1
    have e2 : y2.cell? ⟨w.heap.size + 1 + 1 + 1, 0, none⟩ = some (.int .i64 1) ∧ y2.cell? ⟨w.heap.size + 1 + 1 + 1, 1, none⟩ = some (.int .i64 1) ∧ y2.cell? ⟨w.heap.size + 1 + 1 + 1, 2, none⟩ = some (.int .i64 0) ∧ y2.cell? ⟨w.heap.size + 1 + 1 + 1, 3, none⟩ = some (.slice (some ⟨w.heap.size + 1 + 1, 0, none⟩) 2 2) := ⟨bkeep bq1 hSw.1, bkeep bq1 hSw.2.1, bkeep bq1 hSw.2.2.1, bkeep bq1 hSw.2.2.2⟩
    have hvD := hvD.lw bq1
    have hgD := hgD.lw bq1
    have fD := bkeep bq1 fD
    have hbf : ∀ i, World.frozen? y2 ⟨hb, i, none⟩ = false := fun i => by rw [bq1.frozen (p := ⟨hb, i, none⟩) (lt_of_cell hb0')]; exact hbf i
    have hb0' := bkeep bq1 hb0'
    have hb1' := bkeep bq1 hb1'
    refine hK.out _ _ e2 ?_
    clear hK K
    intro hSw
    try simp only [Act.put, List.setIfInBounds_toArray, List.set_cons_zero, List.set_cons_succ, List.getElem_toArray, List.getElem_cons_succ, List.getElem_cons_zero]
    refine wpAnyH_ready (rs := [3]) (by kernel_rfl) (by simp) ?_
    refine AllReadyH.cons rfl (fun K hK => ?_) AllReadyH.nil
    go_simp
    go_at_call 21
    refine (forestRank_any gF tF2 _ _ _ hgD htl hsm).mono ?_
    rintro e y3 ⟨n, c, a, rfl, hR, bq2⟩
    obtain ⟨rfl, rfl, rfl⟩ := rk_gF hR
    have bD := bthen bD bq2
    have e3 : y3.cell? ⟨w.heap.size + 1 + 1 + 1, 0, none⟩ = some (.int .i64 1) ∧ y3.cell? ⟨w.heap.size + 1 + 1 + 1, 1, none⟩ = some (.int .i64 1) ∧ y3.cell? ⟨w.heap.size + 1 + 1 + 1, 2, none⟩ = some (.int .i64 0) ∧ y3.cell? ⟨w.heap.size + 1 + 1 + 1, 3, none⟩ = some (.slice (some ⟨w.heap.size + 1 + 1, 0, none⟩) 2 2) := ⟨bkeep bq2 hSw.1, bkeep bq2 hSw.2.1, bkeep bq2 hSw.2.2.1, bkeep bq2 hSw.2.2.2⟩
    have hvD := hvD.lw bq2
    have hgD := hgD.lw bq2
    have fD := bkeep bq2 fD
    have hbf : ∀ i, World.frozen? y3 ⟨hb, i, none⟩ = false := fun i => by rw [bq2.frozen (p := ⟨hb, i, none⟩) (lt_of_cell hb0')]; exact hbf i
    have hb0' := bkeep bq2 hb0'
    have hb1' := bkeep bq2 hb1'
    refine hK.out _ _ e3 ?_
    clear hK K
    intro hSw
    try simp only [Act.put, List.setIfInBounds_toArray, List.set_cons_zero, List.set_cons_succ, List.getElem_toArray, List.getElem_cons_succ, List.getElem_cons_zero]
    refine wpAnyH_take (i := 4) (v := ?v11) rfl (by kernel_rfl) (by kernel_rfl) (by kernel_rfl) (fun _ _ _ h => np_panic h) (Or.inl ⟨by rfl, ?hy11⟩) (by assumption) ?_
    case hy11 => (intro w' hS'; (try dsimp only at hS'); go_simp; try with_reducible rfl)
    simp only [Act.put, List.setIfInBounds_toArray, List.set_cons_zero, List.set_cons_succ, List.getElem_toArray, List.getElem_cons_succ, List.getElem_cons_zero]
    refine wpAnyH_take (i := 5) (v := ?v12) rfl (by kernel_rfl) (by kernel_rfl) (by kernel_rfl) (fun _ _ _ h => np_panic h) (Or.inl ⟨by rfl, ?hy12⟩) (by assumption) ?_
    case hy12 => (intro w' hS'; (try dsimp only at hS'); go_simp; try with_reducible rfl)
    simp only [Act.put, List.setIfInBounds_toArray, List.set_cons_zero, List.set_cons_succ, List.getElem_toArray, List.getElem_cons_succ, List.getElem_cons_zero]
    refine wpAnyH_take (i := 6) (v := ?v13) rfl (by kernel_rfl) (by kernel_rfl) (by kernel_rfl) (fun _ _ _ h => np_panic h) (Or.inl ⟨by rfl, ?hy13⟩) (by assumption) ?_
    case hy13 => (intro w' hS'; (try dsimp only at hS'); go_simp; try with_reducible rfl)
    simp only [Act.put, List.setIfInBounds_toArray, List.set_cons_zero, List.set_cons_succ, List.getElem_toArray, List.getElem_cons_succ, List.getElem_cons_zero]
    refine wpAnyH_take (i := 8) (v := ?v14) rfl (by kernel_rfl) (by kernel_rfl) (by kernel_rfl) (fun _ _ _ h => np_panic h) (Or.inl ⟨by rfl, ?hy14⟩) (by assumption) ?_
    case hy14 => (intro w' hS'; (try dsimp only at hS'); go_simp; try with_reducible rfl)
    simp only [Act.put, List.setIfInBounds_toArray, List.set_cons_zero, List.set_cons_succ, List.getElem_toArray, List.getElem_cons_succ, List.getElem_cons_zero]
    refine wpAnyH_ready (rs := [9]) (by kernel_rfl) (by simp) ?_
    refine AllReadyH.cons rfl (fun K hK => ?_) AllReadyH.nil
    go_simp
    obtain ⟨Z, hZ⟩ : ∃ Z, Z = (World.setCell y3 ⟨hb, 0, none⟩ (.int .i64 0)).setCell ⟨hb, 1, none⟩ (.int .i64 0) := ⟨_, rfl⟩
    have kZ : ∀ b o v, World.cell? y3 ⟨b, o, none⟩ = some v → Z.cell? ⟨b, o, none⟩ = some v := fun b o v hc => by rw [hZ]; exact set_idle (set_off hb1' (by decide)) (set_idle hb0' hc)
    have bZ : Below w.heap.size w Z := by rw [hZ]; exact ((bthen j0 bD).setCell (p := ⟨hb, 0, none⟩) hbn _).setCell (p := ⟨hb, 1, none⟩) hbn _
    have eZ : Z.cell? ⟨w.heap.size + 1 + 1 + 1, 0, none⟩ = some (.int .i64 1) ∧ Z.cell? ⟨w.heap.size + 1 + 1 + 1, 1, none⟩ = some (.int .i64 1) ∧ Z.cell? ⟨w.heap.size + 1 + 1 + 1, 2, none⟩ = some (.int .i64 0) ∧ Z.cell? ⟨w.heap.size + 1 + 1 + 1, 3, none⟩ = some (.slice (some ⟨w.heap.size + 1 + 1, 0, none⟩) 2 2) := ⟨kZ _ _ _ hSw.1, kZ _ _ _ hSw.2.1, kZ _ _ _ hSw.2.2.1, kZ _ _ _ hSw.2.2.2⟩
    have hvZ := hvD.mono (fun b o v hb' hc => ⟨hb', kZ b o v hc⟩)
    have fZ := kZ _ _ _ fD
    have hZ0 := kZ _ _ _ hb0'
    try rw [← hZ]
    clear hZ
    refine hK.out _ _ eZ ?_
    clear hK K
    intro hSw
    try simp only [Act.put, List.setIfInBounds_toArray, List.set_cons_zero, List.set_cons_succ, List.getElem_toArray, List.getElem_cons_succ, List.getElem_cons_zero]
    refine wpAnyH_done (by kernel_rfl) (NoPanic.normal ?_) _
  rotate_left 1
  all_goals
    obtain ⟨bq, oq, rfl, _, x0, aq, cq, x1, hq⟩ := hvZ.at_ (k := 0) (by rw [hlen2]; omega)
    obtain ⟨bq', oq', e', _, y0, aq', cq', y1, hq'⟩ := hvZ.at_ (k := 1) (by rw [hlen2]; omega)
    obtain ⟨rfl, rfl⟩ : bq = bq' ∧ oq = oq' := by simpa using e'
    obtain ⟨br, or', rfl, _, x2, _⟩ := hq.at_ (k := 0) (by decide)
    obtain ⟨bs, os, rfl, _, y2, _⟩ := hq'.at_ (k := 0) (by decide)
    simp only [Nat.zero_mul, Nat.one_mul, Nat.add_zero] at x0 x1 x2 y0 y1 y2
    change Z.cell? ⟨br, or', none⟩ = some (.int .i64 1) at x2
    change Z.cell? ⟨bs, os, none⟩ = some (.int .i64 0) at y2
    have hk1 : ((Tf.cons tF1.rule tF1.kids (.cons tF2.rule tF2.kids .nil)).at_ 0).kids.len = 2 := rfl
    have hk2 : ((Tf.cons tF1.rule tF1.kids (.cons tF2.rule tF2.kids .nil)).at_ 1).kids.len = 2 := rfl
    rw [hk1] at x1
    rw [hk2] at y1
    clear hvZ hq hq' e'
    go_wp2_with fail
    go_ret
    exact ⟨rfl, bZ⟩
end Go.Proofs.Ytlhdppkllmnmkae.G

/- The order of a word's trees: they rise. -/
namespace Go.Proofs.Ytlhdppkllmnmkae.G
open Go.RowKit
/-- Rows of trees by that order: the first that parts them. -/
def ahF (R : List Ru) : Tf → Tf → Int
  | .cons r k rest, .cons r' k' rest' =>
    if (wdT R ⟨r, k⟩).length < (wdT R ⟨r', k'⟩).length then -1 else if (wdT R ⟨r', k'⟩).length < (wdT R ⟨r, k⟩).length then 1 else
      if r < r' then -1 else if r' < r then 1 else if ahF R k k' ≠ 0 then ahF R k k' else ahF R rest rest'
  | .nil, _ => 0
  | .cons .., .nil => 0
def ahT (R : List Ru) (a b : Tr) : Int := if a.rule < b.rule then -1 else if b.rule < a.rule then 1 else ahF R a.kids b.kids
theorem ahF_cons (R : List Ru) (a b : Tr) (f g : Tf) : ahF R (.cons a.rule a.kids f) (.cons b.rule b.kids g) =
    if (wdT R a).length < (wdT R b).length then -1 else if (wdT R b).length < (wdT R a).length then 1 else if ahT R a b ≠ 0 then ahT R a b else ahF R f g := by
  unfold ahT
  simp only [ahF]
  split
  · rfl
  split
  · rfl
  split
  · simp
  split
  · simp
  rfl
theorem ahF_self (R : List Ru) : ∀ f : Tf, ahF R f f = 0
  | .nil => rfl
  | .cons r k rest => by simp [ahF, ahF_self R k, ahF_self R rest]
theorem ahT_self (R : List Ru) (a : Tr) : ahT R a a = 0 := by unfold ahT; simp [ahF_self]
theorem pair_flat {α β : Type} {P : β → β → Prop} {Q : α → α → Prop} {G : α → List β} : ∀ {l : List α}, l.Pairwise Q → (∀ a ∈ l, (G a).Pairwise P) → (∀ a ∈ l, ∀ b ∈ l, Q a b → ∀ x ∈ G a, ∀ y ∈ G b, P x y) → (l.flatMap G).Pairwise P
  | [], _, _, _ => List.Pairwise.nil
  | a :: l, hl, hG, hk => by
    rw [List.flatMap_cons]
    rw [List.pairwise_cons] at hl
    refine List.pairwise_append.2 ⟨hG a (by simp), pair_flat hl.2 (fun b hb => hG b (by simp [hb])) (fun b hb c hc => hk b (by simp [hb]) c (by simp [hc])), ?_⟩
    intro x hx y hy
    obtain ⟨b, hb, hy⟩ := List.mem_flatMap.1 hy
    exact hk a (by simp) b (by simp [hb]) (hl.1 b hb) x hx y hy
theorem range_lt : ∀ n : Nat, (List.range n).Pairwise (· < ·)
  | 0 => List.Pairwise.nil
  | n + 1 => by
    rw [List.range_succ]
    refine List.pairwise_append.2 ⟨range_lt n, by simp, fun x hx y hy => ?_⟩
    rw [List.mem_range] at hx
    rw [List.mem_singleton] at hy
    omega
theorem rowsT_rise {R : List Ru} {W : List Int} {h : Nat} {F : Int → Nat → Nat → List Tr} (hF : ∀ (v : Int) (a b : Nat) (t : Tr), 0 ≤ v → b ≤ W.length → (t ∈ F v a b ↔ IsT R W h v a b t)) (hP : ∀ (v : Int) (a b : Nat), b ≤ W.length → (F v a b).Pairwise (fun x y => ahT R x y = -1)) : ∀ (l : List Int) (i j : Nat), j ≤ W.length → (rowsT F W l i j).Pairwise (fun x y => ahF R x y = -1)
  | [], i, j, _ => by simp only [rowsT]; split <;> simp
  | s :: ss, i, j, hj => by
    simp only [rowsT]
    by_cases hs : 0 ≤ s
    · refine pair_flat (Q := (· < ·)) (range_lt _) (fun m hm => ?_) (fun m hm m' hm' hlt x hx y hy => ?_)
      · rw [List.mem_range] at hm
        split
        · rename_i hc
          refine pair_flat (Q := fun x y => x ∈ F s i m ∧ y ∈ F s i m ∧ ahT R x y = -1) (List.Pairwise.imp_of_mem (fun ha hb h => ⟨ha, hb, h⟩) (hP s i m (by omega))) (fun t ht => ?_) (fun t _ t' _ hq x hx y hy => ?_)
          · rw [List.pairwise_map]
            refine (rowsT_rise hF hP ss m j hj).imp fun {a b} hab => ?_
            rw [ahF_cons]
            simp [ahT_self, hab]
          · obtain ⟨f, _, rfl⟩ := List.mem_map.1 hx
            obtain ⟨f', _, rfl⟩ := List.mem_map.1 hy
            rw [ahF_cons]
            obtain ⟨g1, g2, g3⟩ := hq
            have l1 := ((hF s i m t hs (by omega)).1 g1).2.1
            have l2 := ((hF s i m t' hs (by omega)).1 g2).2.1
            rw [l1, l2, g3]; simp
        · exact List.Pairwise.nil
      · rw [List.mem_range] at hm hm'
        split at hx
        · rename_i hc
          split at hy
          · rename_i hc'
            obtain ⟨t, ht, hx⟩ := List.mem_flatMap.1 hx
            obtain ⟨f, _, rfl⟩ := List.mem_map.1 hx
            obtain ⟨t', ht', hy⟩ := List.mem_flatMap.1 hy
            obtain ⟨f', _, rfl⟩ := List.mem_map.1 hy
            rw [ahF_cons]
            have l1 := ((hF s i m t hs (by omega)).1 ht).2.1
            have l2 := ((hF s i m' t' hs (by omega)).1 ht').2.1
            rw [l1, l2, seg_len hc.1 (by omega), seg_len hc'.1 (by omega), if_pos (by omega)]
          · cases hy
        · cases hx
    · refine pair_flat (Q := (· < ·)) (range_lt _) (fun m hm => ?_) (fun m hm m' hm' hlt x hx y hy => ?_)
      · split
        · split
          · exact rowsT_rise hF hP ss m j hj
          · exact List.Pairwise.nil
        · exact List.Pairwise.nil
      · split at hx
        · split at hy
          · split at hx
            · split at hy
              · rename_i h1 h2; omega
              · cases hy
            · cases hx
          · cases hy
        · cases hx
theorem lvT_rise {R : List Ru} {F : Int → Nat → Nat → List Tr} {W : List Int} {v : Int} {i j : Nat} (hP : ∀ l : List Int, (rowsT F W l i j).Pairwise (fun x y => ahF R x y = -1)) : ∀ (rs : List Ru) (k : Nat), (lvT F W v i j rs k).Pairwise (fun x y => ahT R x y = -1)
  | [], _ => List.Pairwise.nil
  | r :: rs, k => by
    simp only [lvT]
    refine List.pairwise_append.2 ⟨?_, lvT_rise hP rs (k + 1), ?_⟩
    · split
      · rw [List.pairwise_map]
        refine (hP _).imp fun {a b} hab => ?_
        unfold ahT
        simp [hab]
      · exact List.Pairwise.nil
    · intro x hx y hy
      obtain ⟨p, _, h1, _⟩ := (lvT_mem rs (k + 1)).1 hy
      split at hx
      · obtain ⟨f, _, rfl⟩ := List.mem_map.1 hx
        unfold ahT
        rw [if_pos (by dsimp only; omega)]
      · cases hx
theorem LT_rise (R : List Ru) (W : List Int) : ∀ (h : Nat) (v : Int) (i j : Nat), j ≤ W.length → (LT R W h v i j).Pairwise (fun x y => ahT R x y = -1)
  | 0, _, _, _, _ => List.Pairwise.nil
  | h + 1, _v, i, j, hj => lvT_rise (fun l => rowsT_rise (fun v a b t _ hb => LT_mem R W h v a b t hb) (fun v a b hb => LT_rise R W h v a b hb) l i j hj) R 0
/-- Of numbers one behind the other the trees rise. -/
theorem Trs_rise {R : List Ru} {W : List Int} {V : Nat} {v : Int} {i j k m : Nat} {a b : Tr} (hj : j ≤ W.length) (hkm : k < m) (ha : (Trs R W V v i j)[k]? = some a) (hb : (Trs R W V v i j)[m]? = some b) : ahT R a b = -1 := by
  have hp := LT_rise R W (lvls W V) v i j hj
  obtain ⟨h1, e1⟩ := List.getElem?_eq_some_iff.1 ha
  obtain ⟨h2, e2⟩ := List.getElem?_eq_some_iff.1 hb
  have := List.pairwise_iff_getElem.1 hp k m h1 h2 hkm
  rw [← e1, ← e2]; exact this
end Go.Proofs.Ytlhdppkllmnmkae.G
