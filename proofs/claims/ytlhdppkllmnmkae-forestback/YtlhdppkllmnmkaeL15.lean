/- Which one a tree is of the trees of its word. -/
import Derived.Test.YtlhdppkllmnmkaeL14
import Derived.Deep.RegionHeld3
import Derived.RegionTactic
namespace Go.Proofs.Ytlhdppkllmnmkae.G
open Go.RowKit Go.Maps
theorem al_c0 {u : World} {n : Nat} {a b : Value} {ty : TypeId} (h : u.heap.size = n) : (u.alloc (.cells #[a, b] ty)).cell? ⟨n, 0, none⟩ = some a := by subst h; simp
theorem al_c1 {u : World} {n : Nat} {a b : Value} {ty : TypeId} (h : u.heap.size = n) : (u.alloc (.cells #[a, b] ty)).cell? ⟨n, 1, none⟩ = some b := by subst h; simp
theorem al_fz {u : World} {n : Nat} {a b : Value} {ty : TypeId} (h : u.heap.size = n) (i : Nat) : (u.alloc (.cells #[a, b] ty)).frozen? ⟨n, i, none⟩ = false := by subst h; simp [go_sem]
section
variable {fb cb tb rb : Nat} {g : Gm} {W : List Int} {V : Nat} {E : BitVec 64} {vR vW vg : Value}
def NbOK (fb cb tb rb : Nat) (g : Gm) (W : List Int) (V : Nat) (E : BitVec 64) (vR vW vg : Value) (t : Tr) : Prop := ∀ (v i j : Nat) (vt : Value) (w : World), v < V → i ≤ j → j ≤ W.length → (∃ n : Nat, (Trs g.rules W V (v : Int) i j)[n]? = some t) → nN g.rules W V v i j < 4611686018427387904 → ChS w cb tb rb g W V E vR vW → FoP w fb cb g W.length vg → TrV w All vt t →
  Calls Try.prog 69 #[.pointer (some ⟨fb, 0, none⟩), vt, .int .i64 i, .int .i64 j] w fun e w' => ∃ n : Nat, e = .returned (.int .i64 n) ∧ (Trs g.rules W V (v : Int) i j)[n]? = some t ∧ ChS w' cb tb rb g W V E vR vW ∧ Kt tb rb w w'
/-- What is looked at while a tree's kids are gone through. -/
structure NbW (u : World) (fb cb tb rb : Nat) (g : Gm) (W : List Int) (V : Nat) (E : BitVec 64) (vR vW vg : Value) (bt : Nat) (pr : Nat) (bk ok : Nat) (aq : Option Addr) (cq : Nat) (y : Tr) : Prop where
  s : ChS u cb tb rb g W V E vR vW
  p : FoP u fb cb g W.length vg
  cells : u.cell? ⟨bt, 0, none⟩ = some (.int .i64 pr) ∧ u.cell? ⟨bk, ok, none⟩ = some (.int .i64 y.rule) ∧ u.cell? ⟨bk, ok + 1, none⟩ = some (.slice aq y.kids.len cq)
  t : TfV u All (.slice aq y.kids.len cq) y.kids
theorem NbW.lw {u u' : World} {bt p bk ok : Nat} {aq : Option Addr} {cq : Nat} {y : Tr} (h : NbW u fb cb tb rb g W V E vR vW vg bt p bk ok aq cq y) (hb : Below u.heap.size u u') : NbW u' fb cb tb rb g W V E vR vW vg bt p bk ok aq cq y :=
  ⟨h.s.lw hb, h.p.stay (fun _ _ _ x => bkeep hb x), ⟨bkeep hb h.cells.1, bkeep hb h.cells.2.1, bkeep hb h.cells.2.2⟩, h.t.lw hb⟩
theorem NbW.kt {u u' : World} {bt p bk ok : Nat} {aq : Option Addr} {cq : Nat} {y : Tr} (h : NbW u fb cb tb rb g W V E vR vW vg bt p bk ok aq cq y) (hc : ChS u' cb tb rb g W V E vR vW) (hk : Kt tb rb u u') : NbW u' fb cb tb rb g W V E vR vW vg bt p bk ok aq cq y :=
  ⟨hc, h.p.kt h.s hk, ⟨h.s.keep hk h.cells.1, h.s.keep hk h.cells.2.1, h.s.keep hk h.cells.2.2⟩, h.t.mono (h.s.keepA hk)⟩
theorem nb_wrap {q A n0 B : Nat} (h : q + (A + n0 * B) < 4611686018427387904) : IntKind.i64.wrap ((q : Int) + IntKind.i64.wrap ((A : Int) + IntKind.i64.wrap ((n0 : Int) * (B : Int)))) = ((q + (A + n0 * B) : Nat) : Int) := by
  have e : (n0 : Int) * (B : Int) = ((n0 * B : Nat) : Int) := by simp
  rw [e]
  generalize n0 * B = z at *
  rw [IntWalk.i64_in (z : Int) ⟨by omega, by omega⟩, IntWalk.i64_in ((A : Int) + z) ⟨by omega, by omega⟩, IntWalk.i64_in _ ⟨by omega, by omega⟩]
  omega
set_option maxRecDepth 100000 in
set_option maxHeartbeats 1000000 in
theorem nb_head (hG : CkG g W V) (hE : ∀ v : Int, hasB E v = true ↔ Nul g.rules v) (t : Tr) (ih : ∀ i, i < t.kids.len → NbOK fb cb tb rb g W V E vR vW vg (t.kids.at_ i)) : NbOK fb cb tb rb g W V E vR vW vg t := by
  intro v i j vt w hv hij hj hex hM hc hp ht
  obtain ⟨n1, hn1⟩ := hex
  obtain ⟨p, left, hpl, h1, h2, h3, h4, h5⟩ := tree_step hG.ac hG.hR hj hn1
  have hle := rl_le (p := p) hG.ac hG.hR (v := v) (i := i) hj hpl
  have hW12 := hG.wl
  have hr160 := hG.rg.few
  have hsh := hG.short hpl
  obtain ⟨u0, rfl, hx⟩ := ht
  obtain ⟨ao, cap, rfl, hcp⟩ := hx.slice
  have hx1 := hx.1
  obtain ⟨w0, hw0⟩ : ∃ w0, w0 = w.alloc (.cells #[.int .i64 t.rule, .slice ao t.kids.len cap] 44) := ⟨_, rfl⟩
  have hb0 : Below w.heap.size w w0 := by rw [hw0]; exact al1 _ _
  have x0 : w0.cell? ⟨w.heap.size, 0, none⟩ = some (.int .i64 t.rule) := by rw [hw0]; simp
  have x1 : w0.cell? ⟨w.heap.size, 1, none⟩ = some (.slice ao t.kids.len cap) := by rw [hw0]; simp
  have z0 : w0.heap.size = w.heap.size + 1 := by rw [hw0]; simp
  rw [h3] at x0 hw0 ⊢
  obtain ⟨aR, cR, rfl⟩ := hp.r.slice
  have hp0 := hp.stay fun _ _ _ x => bkeep hb0 x
  obtain ⟨bR, oR, rfl, d0, au, cu, d1, hu⟩ := hp0.r.at_ hpl
  rw [h4] at d0
  have hlen : (g.rules[p]'hpl).right.length = (rgtR g p).length := by rw [rgt_at hpl]
  have hu' : IsV w0 (fun k => k ≠ fb) (.slice au (rgtR g p).length cu) (rgtR g p) := by rw [← hlen]; rw [rgt_at hpl]; exact hu
  rw [hlen] at d1
  have p4 := hp0.v
  have hc0 := hc.lw hb0
  have hrl := hp0.r.1
  go_enter Try.func69, Try.ntmps69
  go_wp2_with fail
  rw [← hw0]
  have HW0 := hd hw0
  clear hw0
  obtain ⟨V1, hV1⟩ : ∃ V1, V1 = w0.drew.alloc (.cells #[.int .i64 0, .slice none 0 0] 37) := ⟨_, rfl⟩
  have hbD : Below w0.heap.size w0 w0.drew := drw1 w0
  have hbV : Below w0.drew.heap.size w0.drew V1 := by rw [hV1]; exact al1 _ _
  have hbV0 := bthen hbD hbV
  have hzD : w0.drew.heap.size = w.heap.size + 1 := z0
  have v0 : V1.cell? ⟨w.heap.size + 1, 0, none⟩ = some (.int .i64 0) := hV1 ▸ al_c0 hzD
  have v1 : V1.cell? ⟨w.heap.size + 1, 1, none⟩ = some (.slice none 0 0) := hV1 ▸ al_c1 hzD
  have vf : ∀ i, V1.frozen? ⟨w.heap.size + 1, i, none⟩ = false := fun i => hV1 ▸ al_fz hzD i
  obtain ⟨U, hU⟩ : ∃ U, U = (V1.setCell ⟨w.heap.size + 1, 0, none⟩ (.int .i64 v)).setCell ⟨w.heap.size + 1, 1, none⟩ (.slice au (rgtR g p).length cu) := ⟨_, rfl⟩
  have hbU0 : Below w0.heap.size w0 U := by rw [hU]; exact (hbV0.setCell (p := ⟨w.heap.size + 1, 0, none⟩) (by show w0.heap.size ≤ w.heap.size + 1; omega) _).setCell (p := ⟨w.heap.size + 1, 1, none⟩) (by show w0.heap.size ≤ w.heap.size + 1; omega) _
  have s0 : U.cell? ⟨w.heap.size + 1, 0, none⟩ = some (.int .i64 v) := by rw [hU]; exact set_off (set_same v0) (by decide)
  have s1 : U.cell? ⟨w.heap.size + 1, 1, none⟩ = some (.slice au (rgtR g p).length cu) := by rw [hU]; exact set_same (set_off v1 (by decide))
  have eP : w0.drew.cell? ⟨fb, 4, none⟩ = some (.slice (some ⟨bR, oR, none⟩) g.rules.length cR) ∧ w0.drew.cell? ⟨bR, oR + p * 2, none⟩ = some (.int .i64 v) ∧ w0.drew.cell? ⟨bR, oR + p * 2 + 1, none⟩ = some (.slice au (rgtR g p).length cu) ∧ w0.drew.cell? ⟨w.heap.size, 0, none⟩ = some (.int .i64 p) ∧ w0.drew.cell? ⟨w.heap.size, 1, none⟩ = some (.slice ao t.kids.len cap) := ⟨p4, d0, d1, x0, x1⟩
  have eV : V1.cell? ⟨fb, 4, none⟩ = some (.slice (some ⟨bR, oR, none⟩) g.rules.length cR) ∧ V1.cell? ⟨bR, oR + p * 2, none⟩ = some (.int .i64 v) ∧ V1.cell? ⟨bR, oR + p * 2 + 1, none⟩ = some (.slice au (rgtR g p).length cu) ∧ V1.cell? ⟨w.heap.size, 0, none⟩ = some (.int .i64 p) ∧ V1.cell? ⟨w.heap.size, 1, none⟩ = some (.slice ao t.kids.len cap) := ⟨bkeep hbV0 p4, bkeep hbV0 d0, bkeep hbV0 d1, bkeep hbV0 x0, bkeep hbV0 x1⟩
  have eU : U.cell? ⟨fb, 4, none⟩ = some (.slice (some ⟨bR, oR, none⟩) g.rules.length cR) ∧ U.cell? ⟨bR, oR + p * 2, none⟩ = some (.int .i64 v) ∧ U.cell? ⟨bR, oR + p * 2 + 1, none⟩ = some (.slice au (rgtR g p).length cu) ∧ U.cell? ⟨w.heap.size, 0, none⟩ = some (.int .i64 p) ∧ U.cell? ⟨w.heap.size, 1, none⟩ = some (.slice ao t.kids.len cap) := ⟨bkeep hbU0 p4, bkeep hbU0 d0, bkeep hbU0 d1, bkeep hbU0 x0, bkeep hbU0 x1⟩
  have HUW := hd hu'
  have hpU := hp0.stay fun _ _ _ x => bkeep hbU0 x
  have hcU := hc0.lw hbU0
  have hxU := (hx.lw hb0).lw hbU0
  clear p4 d0 d1 x0 x1 hu hu' hp hc hp0 hc0 hx hbV0 hbV hbD
  refine wp_region_noPanic ?_
  refine wp_region_held_drew (S := fun w' => w'.cell? ⟨fb, 4, none⟩ = some (.slice (some ⟨bR, oR, none⟩) g.rules.length cR) ∧ w'.cell? ⟨bR, oR + p * 2, none⟩ = some (.int .i64 v) ∧ w'.cell? ⟨bR, oR + p * 2 + 1, none⟩ = some (.slice au (rgtR g p).length cu) ∧ w'.cell? ⟨w.heap.size, 0, none⟩ = some (.int .i64 p) ∧ w'.cell? ⟨w.heap.size, 1, none⟩ = some (.slice ao t.kids.len cap)) (by kernel_rfl) eP ?_
  intro hSw
  obtain ⟨y0, hy0⟩ : ∃ y0, y0 = w0.drew := ⟨_, rfl⟩
  rw [← hy0] at hSw hV1 hzD ⊢
  clear hy0
  refine wpAnyH_take (i := 0) (v := ?v1) rfl (by kernel_rfl) (by kernel_rfl) (by kernel_rfl) (fun _ _ _ h => np_panic h) (Or.inl ⟨by rfl, ?hy1⟩) (by assumption) ?_
  case hy1 => (intro w' hS'; (try dsimp only at hS'); go_simp; try with_reducible rfl)
  simp only [Act.put, List.setIfInBounds_toArray, List.set_cons_zero, List.set_cons_succ, List.getElem_toArray, List.getElem_cons_zero]
  refine wpAnyH_take (i := 1) (v := ?v2) rfl (by kernel_rfl) (by kernel_rfl) (by kernel_rfl) (fun _ _ _ h => np_panic h) (Or.inl ⟨by rfl, ?hy2⟩) (by assumption) ?_
  case hy2 => (intro w' hS'; (try dsimp only at hS'); go_simp; try with_reducible rfl)
  simp only [Act.put, List.setIfInBounds_toArray, List.set_cons_zero, List.set_cons_succ, List.getElem_toArray, List.getElem_cons_succ, List.getElem_cons_zero]
  refine wpAnyH_take (i := 2) (v := ?v3) rfl (by kernel_rfl) (by kernel_rfl) (by kernel_rfl) (fun _ _ _ h => np_panic h) (Or.inl ⟨by rfl, ?hy3⟩) (by assumption) ?_
  case hy3 => (intro w' hS'; (try dsimp only at hS'); go_simp; try with_reducible rfl)
  simp only [Act.put, List.setIfInBounds_toArray, List.set_cons_zero, List.set_cons_succ, List.getElem_toArray, List.getElem_cons_succ, List.getElem_cons_zero]
  refine wpAnyH_take (i := 3) (v := ?v4) rfl (by kernel_rfl) (by kernel_rfl) (by kernel_rfl) (fun _ _ _ h => np_panic h) (Or.inl ⟨by rfl, ?hy4⟩) (by assumption) ?_
  case hy4 => (intro w' hS'; (try dsimp only at hS'); go_simp; try with_reducible rfl)
  simp only [Act.put, List.setIfInBounds_toArray, List.set_cons_zero, List.set_cons_succ, List.getElem_toArray, List.getElem_cons_succ, List.getElem_cons_zero]
  refine wpAnyH_take (i := 4) (v := ?v5) rfl (by kernel_rfl) (by kernel_rfl) (by kernel_rfl) (fun _ _ _ h => np_panic h) (Or.inl ⟨by rfl, ?hy5⟩) (by assumption) ?_
  case hy5 => (intro w' hS'; (try dsimp only at hS'); go_simp; try with_reducible rfl)
  simp only [Act.put, List.setIfInBounds_toArray, List.set_cons_zero, List.set_cons_succ, List.getElem_toArray, List.getElem_cons_succ, List.getElem_cons_zero]
  refine wpAnyH_take (i := 5) (v := ?v6) rfl (by kernel_rfl) (by kernel_rfl) (by kernel_rfl) (fun _ _ _ h => np_panic h) (Or.inl ⟨by rfl, ?hy6⟩) (by assumption) ?_
  case hy6 => (intro w' hS'; (try dsimp only at hS'); go_simp; try with_reducible rfl)
  simp only [Act.put, List.setIfInBounds_toArray, List.set_cons_zero, List.set_cons_succ, List.getElem_toArray, List.getElem_cons_succ, List.getElem_cons_zero]
  refine wpAnyH_take (i := 6) (v := ?v7) rfl (by kernel_rfl) (by kernel_rfl) (by kernel_rfl) (fun _ _ _ h => np_panic h) (Or.inl ⟨by rfl, ?hy7⟩) (by assumption) ?_
  case hy7 => (intro w' hS'; (try dsimp only at hS'); go_simp; try with_reducible rfl)
  simp only [Act.put, List.setIfInBounds_toArray, List.set_cons_zero, List.set_cons_succ, List.getElem_toArray, List.getElem_cons_succ, List.getElem_cons_zero]
  refine wpAnyH_take (i := 7) (v := ?v8) rfl (by kernel_rfl) (by kernel_rfl) (by kernel_rfl) (fun _ _ _ h => np_panic h) (Or.inl ⟨by rfl, ?hy8⟩) (by assumption) ?_
  case hy8 => (intro w' hS'; (try dsimp only at hS'); go_simp; try with_reducible rfl)
  simp only [Act.put, List.setIfInBounds_toArray, List.set_cons_zero, List.set_cons_succ, List.getElem_toArray, List.getElem_cons_succ, List.getElem_cons_zero]
  refine wpAnyH_take (i := 8) (v := ?v9) rfl (by kernel_rfl) (by kernel_rfl) (by kernel_rfl) (fun _ _ _ h => np_panic h) (Or.inl ⟨by rfl, ?hy9⟩) (by assumption) ?_
  case hy9 => (intro w' hS'; (try dsimp only at hS'); go_simp; try with_reducible rfl)
  simp only [Act.put, List.setIfInBounds_toArray, List.set_cons_zero, List.set_cons_succ, List.getElem_toArray, List.getElem_cons_succ, List.getElem_cons_zero]
  refine wpAnyH_take (i := 9) (v := ?v10) rfl (by kernel_rfl) (by kernel_rfl) (by kernel_rfl) (fun _ _ _ h => np_panic h) (Or.inl ⟨by rfl, ?hy10⟩) (by assumption) ?_
  case hy10 => (intro w' hS'; (try dsimp only at hS'); go_simp; try with_reducible rfl)
  simp only [Act.put, List.setIfInBounds_toArray, List.set_cons_zero, List.set_cons_succ, List.getElem_toArray, List.getElem_cons_succ, List.getElem_cons_zero]
  refine wpAnyH_take (i := 10) (v := ?v11) rfl (by kernel_rfl) (by kernel_rfl) (by kernel_rfl) (fun _ _ _ h => np_panic h) (Or.inl ⟨by rfl, ?hy11⟩) (by assumption) ?_
  case hy11 => (intro w' hS'; (try dsimp only at hS'); go_simp; try with_reducible rfl)
  simp only [Act.put, List.setIfInBounds_toArray, List.set_cons_zero, List.set_cons_succ, List.getElem_toArray, List.getElem_cons_succ, List.getElem_cons_zero]
  refine wpAnyH_ready (rs := [11]) (by kernel_rfl) (by simp) ?_
  refine AllReadyH.cons rfl (fun K hK => ?_) AllReadyH.nil
  go_simp
  rw [← hV1]
  refine hK.out _ _ eV ?_
  clear hK K
  intro hSw
  try simp only [Act.put, List.setIfInBounds_toArray, List.set_cons_zero, List.set_cons_succ, List.getElem_toArray, List.getElem_cons_succ, List.getElem_cons_zero]
  have HHV := hd hV1
  clear hV1
  refine wpAnyH_ready (rs := [12]) (by kernel_rfl) (by simp) ?_
  refine AllReadyH.cons rfl (fun K hK => ?_) AllReadyH.nil
  go_simp
  rw [← hU]
  refine hK.out _ _ eU ?_
  clear hK K
  intro hSw
  try simp only [Act.put, List.setIfInBounds_toArray, List.set_cons_zero, List.set_cons_succ, List.getElem_toArray, List.getElem_cons_succ, List.getElem_cons_zero]
  refine wpAnyH_take (i := 13) (v := ?v12) rfl (by kernel_rfl) (by kernel_rfl) (by kernel_rfl) (fun _ _ _ h => np_panic h) (Or.inl ⟨by rfl, ?hy12⟩) (by assumption) ?_
  case hy12 => (intro w' hS'; (try dsimp only at hS'); go_simp; try with_reducible rfl)
  simp only [Act.put, List.setIfInBounds_toArray, List.set_cons_zero, List.set_cons_succ, List.getElem_toArray, List.getElem_cons_succ, List.getElem_cons_zero]
  refine wpAnyH_done (by kernel_rfl) (NoPanic.normal ?_) _
  have HHU := hd hU
  clear eP eV v0 v1 vf hU
  have zU := hbU0.size
  have hbw : Below w.heap.size w U := bthen hb0 hbU0
  obtain ⟨q0, hq0⟩ : ∃ q0, q0 = spS (rlN g.rules W V (v : Int) i j) 0 (p - 0) := ⟨_, rfl⟩
  have hq0' : q0 = spS (rlN g.rules W V (v : Int) i j) 0 p := hq0
  have hq0M : q0 < 4611686018427387904 := by omega
  have RU := fun z (hs : ChS z cb tb rb g W V E vR vW) (hz : FoP z fb cb g W.length (.slice (some ⟨bR, oR, none⟩) g.rules.length cR)) => rules_any hG hE (v := (v : Int)) hij hj hpl z hs hz
  have AH : ∀ f z, Wys cb tb rb g W V E vR vW z f (rlN g.rules W V (v : Int) i j) 0 p → ChS z cb tb rb g W V E vR vW → Calls Try.prog 82 #[.int .i64 0, .int .i64 p, f] z (ChR z cb tb rb g W V E vR vW (q0 : Nat)) := fun f z hw hs => by
    have := ahead_any hw hs (Nat.zero_le _) (by omega) (by rw [← hq0]; exact hq0M)
    rw [← hq0] at this
    exact this
  have hstart : ∀ c, (rwT g.rules W V (rgtR g p) i j)[c]? = some t.kids → (Trs g.rules W V (v : Int) i j)[q0 + c]? = some t := fun c hcc => by
    rw [rgt_at hpl] at hcc
    have := step_tree hG.ac hG.hR (v := v) hj hpl h4 hcc
    rw [hq0', this, ← h3]
  have HST := hd hstart
  have HEX := hd (⟨left, by rw [rgt_at hpl]; exact h5⟩ : ∃ c : Nat, (rwT g.rules W V (rgtR g p) i j)[c]? = some t.kids)
  have HCH : Hid (chN (nN g.rules W V) W (rgtR g p) i j < 4611686018427387904) := hd (by
    have := rlN_at (R := g.rules) (W := W) (V := V) (v := (v : Int)) (i := i) (j := j) hpl
    rw [if_pos h4] at this
    rw [rgt_at hpl, ← this]; omega)
  have eP : U.drew.cell? ⟨w.heap.size, 0, none⟩ = some (.int .i64 p) ∧ U.drew.cell? ⟨w.heap.size + 1, 0, none⟩ = some (.int .i64 v) := ⟨eU.2.2.2.1, s0⟩
  have hsD : ChS U.drew cb tb rb g W V E vR vW := hcU.lw (drw1 U)
  have hpD : FoP U.drew fb cb g W.length (.slice (some ⟨bR, oR, none⟩) g.rules.length cR) := hpU.stay fun _ _ _ x => bkeep (drw1 U) x
  have ktD : Kt tb rb U U.drew := Kt.of_below (drw1 U)
  have H4 := hd h4
  clear hq0 hq0' hstart h1 h2 h3 h4 h5 hle hn1 n1
  go_wp2_with fail
  refine wp_region_noPanic ?_
  refine wp_region_held_drew (S := fun w' => w'.cell? ⟨w.heap.size, 0, none⟩ = some (.int .i64 p) ∧ w'.cell? ⟨w.heap.size + 1, 0, none⟩ = some (.int .i64 v)) (by kernel_rfl) eP ?_
  intro hSw
  obtain ⟨y0, hy0⟩ : ∃ y0, y0 = U.drew := ⟨_, rfl⟩
  rw [← hy0] at hSw hsD hpD ktD ⊢
  clear hy0
  refine wpAnyH_take (i := 0) (v := ?v13) rfl (by kernel_rfl) (by kernel_rfl) (by kernel_rfl) (fun _ _ _ h => np_panic h) (Or.inl ⟨by rfl, ?hy13⟩) (by assumption) ?_
  case hy13 => (intro w' hS'; (try dsimp only at hS'); go_simp; try with_reducible rfl)
  simp only [Act.put, List.setIfInBounds_toArray, List.set_cons_zero, List.set_cons_succ, List.getElem_toArray, List.getElem_cons_zero]
  refine wpAnyH_take (i := 1) (v := ?v14) rfl (by kernel_rfl) (by kernel_rfl) (by kernel_rfl) (fun _ _ _ h => np_panic h) (Or.inl ⟨by rfl, ?hy14⟩) (by assumption) ?_
  case hy14 => (intro w' hS'; (try dsimp only at hS'); go_simp; try with_reducible rfl)
  simp only [Act.put, List.setIfInBounds_toArray, List.set_cons_zero, List.set_cons_succ, List.getElem_toArray, List.getElem_cons_succ, List.getElem_cons_zero]
  refine wpAnyH_take (i := 2) (v := ?v15) rfl (by kernel_rfl) (by kernel_rfl) (by kernel_rfl) (fun _ _ _ h => np_panic h) (Or.inl ⟨by rfl, ?hy15⟩) (by assumption) ?_
  case hy15 => (intro w' hS'; (try dsimp only at hS'); go_simp; try with_reducible rfl)
  simp only [Act.put, List.setIfInBounds_toArray, List.set_cons_zero, List.set_cons_succ, List.getElem_toArray, List.getElem_cons_succ, List.getElem_cons_zero]
  refine wpAnyH_take (i := 3) (v := ?v16) rfl (by kernel_rfl) (by kernel_rfl) (by kernel_rfl) (fun _ _ _ h => np_panic h) (Or.inl ⟨by rfl, ?hy16⟩) (by assumption) ?_
  case hy16 => (intro w' hS'; (try dsimp only at hS'); go_simp; try with_reducible rfl)
  simp only [Act.put, List.setIfInBounds_toArray, List.set_cons_zero, List.set_cons_succ, List.getElem_toArray, List.getElem_cons_succ, List.getElem_cons_zero]
  refine wpAnyH_take (i := 4) (v := ?v17) rfl (by kernel_rfl) (by kernel_rfl) (by kernel_rfl) (fun _ _ _ h => np_panic h) (Or.inl ⟨by rfl, ?hy17⟩) (by assumption) ?_
  case hy17 => (intro w' hS'; (try dsimp only at hS'); go_simp; try with_reducible rfl)
  simp only [Act.put, List.setIfInBounds_toArray, List.set_cons_zero, List.set_cons_succ, List.getElem_toArray, List.getElem_cons_succ, List.getElem_cons_zero]
  refine wpAnyH_take (i := 5) (v := ?v18) rfl (by kernel_rfl) (by kernel_rfl) (by kernel_rfl) (fun _ _ _ h => np_panic h) (Or.inl ⟨by rfl, ?hy18⟩) (by assumption) ?_
  case hy18 => (intro w' hS'; (try dsimp only at hS'); go_simp; try with_reducible rfl)
  simp only [Act.put, List.setIfInBounds_toArray, List.set_cons_zero, List.set_cons_succ, List.getElem_toArray, List.getElem_cons_succ, List.getElem_cons_zero]
  refine wpAnyH_take (i := 6) (v := ?v19) rfl (by kernel_rfl) (by kernel_rfl) (by kernel_rfl) (fun _ _ _ h => np_panic h) (Or.inl ⟨by rfl, ?hy19⟩) (by assumption) ?_
  case hy19 => (intro w' hS'; (try dsimp only at hS'); go_simp; try with_reducible rfl)
  simp only [Act.put, List.setIfInBounds_toArray, List.set_cons_zero, List.set_cons_succ, List.getElem_toArray, List.getElem_cons_succ, List.getElem_cons_zero]
  refine wpAnyH_ready (rs := [7]) (by kernel_rfl) (by simp) ?_
  refine AllReadyH.cons rfl (fun K hK => ?_) AllReadyH.nil
  go_simp
  go_at_call 83
  refine (RU _ hsD hpD).mono ?_
  rintro e w1 ⟨vf, rfl, hw1, hb1⟩
  have hs1 := hsD.lw hb1
  have e1 : w1.cell? ⟨w.heap.size, 0, none⟩ = some (.int .i64 p) ∧ w1.cell? ⟨w.heap.size + 1, 0, none⟩ = some (.int .i64 v) := ⟨bkeep hb1 hSw.1, bkeep hb1 hSw.2⟩
  have AC := AH vf w1 hw1 hs1
  refine hK.out _ _ e1 ?_
  clear hK K
  intro hSw
  try simp only [Act.put, List.setIfInBounds_toArray, List.set_cons_zero, List.set_cons_succ, List.getElem_toArray, List.getElem_cons_succ, List.getElem_cons_zero]
  refine wpAnyH_ready (rs := [8]) (by kernel_rfl) (by simp) ?_
  refine AllReadyH.cons rfl (fun K hK => ?_) AllReadyH.nil
  go_simp
  go_at_call 82
  refine AC.mono ?_
  rintro e w2 ⟨rfl, hs2, kt2⟩
  have e2 : w2.cell? ⟨w.heap.size, 0, none⟩ = some (.int .i64 p) ∧ w2.cell? ⟨w.heap.size + 1, 0, none⟩ = some (.int .i64 v) := ⟨hs1.keep kt2 e1.1, hs1.keep kt2 e1.2⟩
  have kt02 := ktD.trans ((Kt.of_below hb1).trans kt2)
  refine hK.out _ _ e2 ?_
  clear hK K
  intro hSw
  try simp only [Act.put, List.setIfInBounds_toArray, List.set_cons_zero, List.set_cons_succ, List.getElem_toArray, List.getElem_cons_succ, List.getElem_cons_zero]
  refine wpAnyH_take (i := 9) (v := ?v20) rfl (by kernel_rfl) (by kernel_rfl) (by kernel_rfl) (fun _ _ _ h => np_panic h) (Or.inl ⟨by rfl, ?hy20⟩) (by assumption) ?_
  case hy20 => (intro w' hS'; (try dsimp only at hS'); go_simp; try with_reducible rfl)
  simp only [Act.put, List.setIfInBounds_toArray, List.set_cons_zero, List.set_cons_succ, List.getElem_toArray, List.getElem_cons_succ, List.getElem_cons_zero]
  refine wpAnyH_done (by kernel_rfl) (NoPanic.normal ?_) _
  have r1 := hcU.keep kt02 s1
  have hp2 := hpU.kt hcU kt02
  have hu2 : IsV w2 All (.slice au (rgtR g p).length cu) (rgtR g p) := (HUW.out.mono (fun b o u _ hh => ⟨trivial, hcU.keep kt02 (bkeep hbU0 hh)⟩))
  have hx2 := hxU.mono (hcU.keepA kt02)
  have y0 := e2.1
  have hbw2 : Kt tb rb w w2 := (Kt.of_below hbw).trans kt02
  clear eP hsD hpD ktD RU AH hpU hcU hxU eU s0 s1 e1 e2
  go_wp2_with fail
  go_loopw [2, 10, 11, 38] (fun ii vv nn kk wr => ∃ (k x q a : Nat) (vk : Value), vk = vv ∧ k ≤ (rgtR g p).length ∧ kk = .int .i64 k ∧ ii = .int .i64 x ∧ nn = .int .i64 q ∧ i ≤ x ∧ x ≤ j ∧ q < 4611686018427387904 ∧ TfV wr All vk (t.kids.drp a) ∧ Hid (∃ c : Nat, (rwT g.rules W V ((rgtR g p).drop k) x j)[c]? = some (t.kids.drp a)) ∧ Hid (∀ c : Nat, (rwT g.rules W V ((rgtR g p).drop k) x j)[c]? = some (t.kids.drp a) → (Trs g.rules W V (v : Int) i j)[q + c]? = some t) ∧ Hid (chN (nN g.rules W V) W ((rgtR g p).drop k) x j < 4611686018427387904) ∧ ChS wr cb tb rb g W V E vR vW ∧ Kt tb rb w2 wr) (fun _ _ _ kk _ => (rgtR g p).length - (intOf kk).toNat)
  case atStart => exact ⟨0, i, q0, 0, _, rfl, Nat.zero_le _, rfl, rfl, rfl, Nat.le_refl _, hij, hq0M, by rw [Tf.drp_zero]; exact hx2, by rw [Tf.drp_zero, List.drop_zero]; exact HEX, by rw [Tf.drp_zero, List.drop_zero]; exact HST, by rw [List.drop_zero]; exact HCH, hs2, Kt.refl _ _ _⟩
  case round =>
    obtain ⟨k, x, q, a, vk, rfl, hk, rfl, rfl, rfl, hix, hxj, hqM, hkv, hexx, hall, hMM, hsr, hkt⟩ := hrel
    by_cases hlt : k < (rgtR g p).length
    · obtain ⟨bu, ou, rfl, hc0⟩ := (hu2.mono (hs2.keepA hkt)).at_ hlt
      by_cases hs : (rgtR g p)[k] < 0
      · obtain ⟨c, hcc⟩ := hexx.out
        obtain ⟨e1, e2, e3⟩ := row_neg hlt hs hj hcc
        have HEX' := hd (⟨c, e3⟩ : ∃ c : Nat, (rwT g.rules W V ((rgtR g p).drop (k + 1)) (x + 1) j)[c]? = some (t.kids.drp a))
        have HALL' := hd (fun c' (h' : (rwT g.rules W V ((rgtR g p).drop (k + 1)) (x + 1) j)[c']? = some (t.kids.drp a)) => hall.out c' (neg_row hlt hs hj e1 e2 h'))
        have HM' := hd (by rw [← chN_neg hlt hs hj e1 e2]; exact hMM.out : chN (nN g.rules W V) W ((rgtR g p).drop (k + 1)) (x + 1) j < 4611686018427387904)
        clear hexx hall hMM hcc e2 e3
        generalize (rgtR g p)[k] = s at *
        go_wp2_with fail
        go_roundw
        case rel => exact ⟨k + 1, x + 1, q, a, _, rfl, by omega, by go_num, by go_num, rfl, by omega, e1, hqM, hkv, HEX', HALL', HM', hsr, hkt⟩
        case measure => simp [intOf]; omega
      · obtain ⟨c, hcc⟩ := hexx.out
        obtain ⟨m, left', y, f', g1, g2, g3, g4, g5, g6, g7, gb0, ga0⟩ := row_pos hlt (by omega) hxj hj hcc
        obtain ⟨d1', d2', d3'⟩ := drp_cons g7
        have hle := spN_le (R := g.rules) (W := W) (V := V) hlt g1 g2 hj
        have hsp := spN_pos (R := g.rules) (W := W) (V := V) (l := rgtR g p) (k := k) (i := x) (m := m) (j := j) hlt (by omega)
        rw [hsp] at hle
        obtain ⟨bd1, bd2, bd3⟩ := kd_bound hle hMM.out ga0 gb0
        have hsV := (hG.sym hpl _ (List.getElem_mem hlt)).1
        obtain ⟨s, hsn⟩ : ∃ s : Nat, (rgtR g p)[k] = s := ⟨(rgtR g p)[k].toNat, by omega⟩
        have hsk : (rgtR g p)[k].toNat = s := by omega
        obtain ⟨f1', f2', f3', _⟩ := Trs_is (R := g.rules) (W := W) (V := V) (v := (rgtR g p)[k]) (i := x) (j := m) (by omega) g5
        have hwl : (wdT g.rules y).length = m - x := by rw [f2', seg_len f3' (by omega)]
        have hsum : spS (fun q => spN g.rules W V (rgtR g p) k x q j) x (m - x) < 4611686018427387904 := by have := hMM.out; omega
        obtain ⟨A, hA⟩ : ∃ A, A = spS (fun q => spN g.rules W V (rgtR g p) k x q j) x (m - x) := ⟨_, rfl⟩
        obtain ⟨B, hB⟩ : ∃ B, B = chN (nN g.rules W V) W ((rgtR g p).drop (k + 1)) m j := ⟨_, rfl⟩
        have SPc := fun u (h1 : ChS u cb tb rb g W V E vR vW) (h2 : FoP u fb cb g W.length (.slice (some ⟨bR, oR, none⟩) g.rules.length cR)) => splits_any hG hE (i := x) hj hpl hlt u h1 h2
        have AHc : ∀ f u, Wys cb tb rb g W V E vR vW u f (fun m => spN g.rules W V (rgtR g p) k x m j) x j → ChS u cb tb rb g W V E vR vW → Calls Try.prog 82 #[.int .i64 x, .int .i64 m, f] u (ChR u cb tb rb g W V E vR vW (A : Nat)) := fun f u hw hc => by
          have := ahead_any (hw.sub g2) hc g1 (by omega) hsum
          rw [← hA] at this
          exact this
        have BEc : ∀ u, ChS u cb tb rb g W V E vR vW → FoP u fb cb g W.length (.slice (some ⟨bR, oR, none⟩) g.rules.length cR) → Calls Try.prog 86 #[.pointer (some ⟨fb, 0, none⟩), .int .i64 p, .int .i64 k, .int .i64 x, .int .i64 m, .int .i64 j] u (ChR u cb tb rb g W V E vR vW (B : Nat)) := fun u hc hp => by
          have := behind_any hG hE g1 g2 hj hpl hlt (by omega) rfl rfl ga0 bd1 u hc hp
          rw [← hB] at this
          exact this
        rw [hsk] at bd2
        rw [hsn] at g5 hsV hs hc0
        have hay : t.kids.at_ a = y := d2'
        have IHy := ih a d1'
        rw [hay] at IHy
        rw [g7] at hkv
        obtain ⟨hl1, aok, capk, rfl, hck, hno, h5k⟩ := id hkv
        simp only [Tf.len] at hl1 hck h5k
        rcases h5k with h5k | ⟨bk, ok, rfl, _, e0, ⟨hl2, aq, cq, e1, hcq, hnq, hq5⟩, _⟩
        · omega
        have hyk : TfV wr All (.slice aq y.kids.len cq) y.kids := ⟨hl2, aq, cq, rfl, hcq, hnq, hq5⟩
        have kk' := TfV.drop1 hkv (by simp [Tf.len])
        have hdd : (Tf.cons y.rule y.kids f').drp 1 = f' := by cases f' <;> rfl
        rw [hdd] at kk'
        have IHc := fun u (h : NbW u fb cb tb rb g W V E vR vW (.slice (some ⟨bR, oR, none⟩) g.rules.length cR) w.heap.size p bk ok aq cq y) => IHy s x m (.agg #[.int .i64 y.rule, .slice aq y.kids.len cq]) u (by omega) g1 (by omega) ⟨_, g5⟩ bd2 h.s h.p (TrV_mk h.t)
        have hpr := hp2.kt hs2 hkt
        have TM := terminals_any y fb cb W.length g _ (.agg #[.int .i64 y.rule, .slice aq y.kids.len cq]) _ wr hpr (TrV_mk hyk) f1' (by omega) (by omega) hG.rg.short
        obtain ⟨d, hd'⟩ : ∃ d, d = m - x := ⟨_, rfl⟩
        rw [hwl, ← hd'] at TM
        have hxm : (x : Int) + (d : Int) = (m : Int) := by omega
        have NALL := hd (fun n0 (hn0 : (Trs g.rules W V ((s : Nat) : Int) x m)[n0]? = some y) c' (h' : (rwT g.rules W V ((rgtR g p).drop (k + 1)) m j)[c']? = some f') => (by
          have hp := pos_row (R := g.rules) (W := W) (V := V) (l := rgtR g p) (k := k) (t := y) hlt (by omega) g1 g2 hj (by rw [hsn]; exact hn0) h'
          have := hall.out _ (by rw [g7]; exact hp)
          rw [← hA, ← hB] at this
          rw [← this]; congr 1; omega : (Trs g.rules W V (v : Int) i j)[q + (A + n0 * B) + c']? = some t))
        have NMM := hd (fun n0 (hn0 : (Trs g.rules W V ((s : Nat) : Int) x m)[n0]? = some y) => (by
          have := Trs_lt (NALL.out n0 hn0 _ g6)
          omega : q + (A + n0 * B) < 4611686018427387904))
        have HEX' := hd (⟨_, g6⟩ : ∃ c : Nat, (rwT g.rules W V ((rgtR g p).drop (k + 1)) m j)[c]? = some f')
        have HM' := hd bd3
        have HD3 := hd d3'
        have w0' : wr.cell? ⟨w.heap.size, 0, none⟩ = some (.int .i64 p) := hs2.keep hkt y0
        have hlk : (Tf.cons y.rule y.kids f').len ≤ capk := by simp only [Tf.len]; omega
        have hlk0 : 0 < (Tf.cons y.rule y.kids f').len := by simp [Tf.len]
        have hlk9 : (Tf.cons y.rule y.kids f').len ≤ 9223372036854775807 := by simp only [Tf.len]; omega
        have hmj : m ≤ j := g2
        clear hexx hall hMM hcc g3 g4 g5 g6 g7 hle hsp bd1 bd2 bd3 hsk hdd hkv hq5 hnq hno ga0 gb0 d1' d2' d3' hay IHy f1' f2' f3' hwl hsum hA hB hl1 hck hd'
        generalize (Tf.cons y.rule y.kids f').len = nl at *
        generalize (rgtR g p)[k] = sy at *
        subst hsn
        go_wp2_with fail
        refine TM.mono ?_
        rintro e wq ⟨rfl, hbq⟩
        have h0 : NbW wq.drew fb cb tb rb g W V E vR vW (.slice (some ⟨bR, oR, none⟩) g.rules.length cR) w.heap.size p bk ok aq cq y := (NbW.lw ⟨hsr, hpr, ⟨w0', e0, e1⟩, hyk⟩ hbq).lw (drw1 wq)
        have kt0 : Kt tb rb wr wq.drew := (Kt.of_below hbq).trans (Kt.of_below (drw1 wq))
        clear TM w0' e0 e1 hyk hpr
        go_wp2_with fail
        refine wp_region_noPanic ?_
        refine wp_region_held_drew (S := fun w' => w'.cell? ⟨w.heap.size, 0, none⟩ = some (.int .i64 p) ∧ w'.cell? ⟨bk, ok, none⟩ = some (.int .i64 y.rule) ∧ w'.cell? ⟨bk, ok + 1, none⟩ = some (.slice aq y.kids.len cq)) (by kernel_rfl) h0.cells ?_
        intro hSw
        obtain ⟨y0, hy0⟩ : ∃ y0, y0 = wq.drew := ⟨_, rfl⟩
        rw [← hy0] at hSw h0 kt0 ⊢
        clear hy0
        refine wpAnyH_take (i := 0) (v := ?v21) rfl (by kernel_rfl) (by kernel_rfl) (by kernel_rfl) (fun _ _ _ h => np_panic h) (Or.inl ⟨by rfl, ?hy21⟩) (by assumption) ?_
        case hy21 => (intro w' hS'; (try dsimp only at hS'); go_simp; try with_reducible rfl)
        simp only [Act.put, List.setIfInBounds_toArray, List.set_cons_zero, List.set_cons_succ, List.getElem_toArray, List.getElem_cons_zero]
        refine wpAnyH_take (i := 1) (v := ?v22) rfl (by kernel_rfl) (by kernel_rfl) (by kernel_rfl) (fun _ _ _ h => np_panic h) (Or.inl ⟨by rfl, ?hy22⟩) (by assumption) ?_
        case hy22 => (intro w' hS'; (try dsimp only at hS'); go_simp; try with_reducible rfl)
        simp only [Act.put, List.setIfInBounds_toArray, List.set_cons_zero, List.set_cons_succ, List.getElem_toArray, List.getElem_cons_succ, List.getElem_cons_zero]
        refine wpAnyH_take (i := 2) (v := ?v23) rfl (by kernel_rfl) (by kernel_rfl) (by kernel_rfl) (fun _ _ _ h => np_panic h) (Or.inl ⟨by rfl, ?hy23⟩) (by assumption) ?_
        case hy23 => (intro w' hS'; (try dsimp only at hS'); go_simp; try with_reducible rfl)
        simp only [Act.put, List.setIfInBounds_toArray, List.set_cons_zero, List.set_cons_succ, List.getElem_toArray, List.getElem_cons_succ, List.getElem_cons_zero]
        refine wpAnyH_take (i := 3) (v := ?v24) rfl (by kernel_rfl) (by kernel_rfl) (by kernel_rfl) (fun _ _ _ h => np_panic h) (Or.inl ⟨by rfl, ?hy24⟩) (by assumption) ?_
        case hy24 => (intro w' hS'; (try dsimp only at hS'); go_simp; try with_reducible rfl)
        simp only [Act.put, List.setIfInBounds_toArray, List.set_cons_zero, List.set_cons_succ, List.getElem_toArray, List.getElem_cons_succ, List.getElem_cons_zero]
        refine wpAnyH_take (i := 4) (v := ?v25) rfl (by kernel_rfl) (by kernel_rfl) (by kernel_rfl) (fun _ _ _ h => np_panic h) (Or.inl ⟨by rfl, ?hy25⟩) (by assumption) ?_
        case hy25 => (intro w' hS'; (try dsimp only at hS'); go_simp; try with_reducible rfl)
        simp only [Act.put, List.setIfInBounds_toArray, List.set_cons_zero, List.set_cons_succ, List.getElem_toArray, List.getElem_cons_succ, List.getElem_cons_zero]
        refine wpAnyH_take (i := 5) (v := ?v26) rfl (by kernel_rfl) (by kernel_rfl) (by kernel_rfl) (fun _ _ _ h => np_panic h) (Or.inl ⟨by rfl, ?hy26⟩) (by assumption) ?_
        case hy26 => (intro w' hS'; (try dsimp only at hS'); go_simp; try with_reducible rfl)
        simp only [Act.put, List.setIfInBounds_toArray, List.set_cons_zero, List.set_cons_succ, List.getElem_toArray, List.getElem_cons_succ, List.getElem_cons_zero]
        refine wpAnyH_take (i := 6) (v := ?v27) rfl (by kernel_rfl) (by kernel_rfl) (by kernel_rfl) (fun _ _ _ h => np_panic h) (Or.inl ⟨by rfl, ?hy27⟩) (by assumption) ?_
        case hy27 => (intro w' hS'; (try dsimp only at hS'); go_simp; try with_reducible rfl)
        simp only [Act.put, List.setIfInBounds_toArray, List.set_cons_zero, List.set_cons_succ, List.getElem_toArray, List.getElem_cons_succ, List.getElem_cons_zero]
        refine wpAnyH_take (i := 7) (v := ?v28) rfl (by kernel_rfl) (by kernel_rfl) (by kernel_rfl) (fun _ _ _ h => np_panic h) (Or.inl ⟨by rfl, ?hy28⟩) (by assumption) ?_
        case hy28 => (intro w' hS'; (try dsimp only at hS'); go_simp; try with_reducible rfl)
        simp only [Act.put, List.setIfInBounds_toArray, List.set_cons_zero, List.set_cons_succ, List.getElem_toArray, List.getElem_cons_succ, List.getElem_cons_zero]
        refine wpAnyH_take (i := 8) (v := ?v29) rfl (by kernel_rfl) (by kernel_rfl) (by kernel_rfl) (fun _ _ _ h => np_panic h) (Or.inl ⟨by rfl, ?hy29⟩) (by assumption) ?_
        case hy29 => (intro w' hS'; (try dsimp only at hS'); go_simp; try with_reducible rfl)
        simp only [Act.put, List.setIfInBounds_toArray, List.set_cons_zero, List.set_cons_succ, List.getElem_toArray, List.getElem_cons_succ, List.getElem_cons_zero]
        refine wpAnyH_take (i := 11) (v := ?v30) rfl (by kernel_rfl) (by kernel_rfl) (by kernel_rfl) (fun _ _ _ h => np_panic h) (Or.inl ⟨by rfl, ?hy30⟩) (by assumption) ?_
        case hy30 => (intro w' hS'; (try dsimp only at hS'); go_simp; try with_reducible rfl)
        simp only [Act.put, List.setIfInBounds_toArray, List.set_cons_zero, List.set_cons_succ, List.getElem_toArray, List.getElem_cons_succ, List.getElem_cons_zero]
        refine wpAnyH_take (i := 12) (v := ?v31) rfl (by kernel_rfl) (by kernel_rfl) (by kernel_rfl) (fun _ _ _ h => np_panic h) (Or.inl ⟨by rfl, ?hy31⟩) (by assumption) ?_
        case hy31 => (intro w' hS'; (try dsimp only at hS'); go_simp; try with_reducible rfl)
        simp only [Act.put, List.setIfInBounds_toArray, List.set_cons_zero, List.set_cons_succ, List.getElem_toArray, List.getElem_cons_succ, List.getElem_cons_zero]
        refine wpAnyH_take (i := 13) (v := ?v32) rfl (by kernel_rfl) (by kernel_rfl) (by kernel_rfl) (fun _ _ _ h => np_panic h) (Or.inl ⟨by rfl, ?hy32⟩) (by assumption) ?_
        case hy32 => (intro w' hS'; (try dsimp only at hS'); go_simp; try with_reducible rfl)
        simp only [Act.put, List.setIfInBounds_toArray, List.set_cons_zero, List.set_cons_succ, List.getElem_toArray, List.getElem_cons_succ, List.getElem_cons_zero]
        refine wpAnyH_take (i := 14) (v := ?v33) rfl (by kernel_rfl) (by kernel_rfl) (by kernel_rfl) (fun _ _ _ h => np_panic h) (Or.inl ⟨by rfl, ?hy33⟩) (by assumption) ?_
        case hy33 => (intro w' hS'; (try dsimp only at hS'); go_simp; try with_reducible rfl)
        simp only [Act.put, List.setIfInBounds_toArray, List.set_cons_zero, List.set_cons_succ, List.getElem_toArray, List.getElem_cons_succ, List.getElem_cons_zero]
        refine wpAnyH_take (i := 15) (v := ?v34) rfl (by kernel_rfl) (by kernel_rfl) (by kernel_rfl) (fun _ _ _ h => np_panic h) (Or.inl ⟨by rfl, ?hy34⟩) (by assumption) ?_
        case hy34 => (intro w' hS'; (try dsimp only at hS'); go_simp; try with_reducible rfl)
        simp only [Act.put, List.setIfInBounds_toArray, List.set_cons_zero, List.set_cons_succ, List.getElem_toArray, List.getElem_cons_succ, List.getElem_cons_zero]
        refine wpAnyH_take (i := 16) (v := ?v35) rfl (by kernel_rfl) (by kernel_rfl) (by kernel_rfl) (fun _ _ _ h => np_panic h) (Or.inl ⟨by rfl, ?hy35⟩) (by assumption) ?_
        case hy35 => (intro w' hS'; (try dsimp only at hS'); go_simp; try with_reducible rfl)
        simp only [Act.put, List.setIfInBounds_toArray, List.set_cons_zero, List.set_cons_succ, List.getElem_toArray, List.getElem_cons_succ, List.getElem_cons_zero]
        refine wpAnyH_take (i := 18) (v := ?v36) rfl (by kernel_rfl) (by kernel_rfl) (by kernel_rfl) (fun _ _ _ h => np_panic h) (Or.inl ⟨by rfl, ?hy36⟩) (by assumption) ?_
        case hy36 => (intro w' hS'; (try dsimp only at hS'); go_simp; try with_reducible rfl)
        simp only [Act.put, List.setIfInBounds_toArray, List.set_cons_zero, List.set_cons_succ, List.getElem_toArray, List.getElem_cons_succ, List.getElem_cons_zero]
        refine wpAnyH_take (i := 19) (v := ?v37) rfl (by kernel_rfl) (by kernel_rfl) (by kernel_rfl) (fun _ _ _ h => np_panic h) (Or.inl ⟨by rfl, ?hy37⟩) (by assumption) ?_
        case hy37 => (intro w' hS'; (try dsimp only at hS'); go_simp; try with_reducible rfl)
        simp only [Act.put, List.setIfInBounds_toArray, List.set_cons_zero, List.set_cons_succ, List.getElem_toArray, List.getElem_cons_succ, List.getElem_cons_zero]
        refine wpAnyH_take (i := 20) (v := ?v38) rfl (by kernel_rfl) (by kernel_rfl) (by kernel_rfl) (fun _ _ _ h => np_panic h) (Or.inl ⟨by rfl, ?hy38⟩) (by assumption) ?_
        case hy38 => (intro w' hS'; (try dsimp only at hS'); go_simp; try with_reducible rfl)
        simp only [Act.put, List.setIfInBounds_toArray, List.set_cons_zero, List.set_cons_succ, List.getElem_toArray, List.getElem_cons_succ, List.getElem_cons_zero]
        refine wpAnyH_take (i := 21) (v := ?v39) rfl (by kernel_rfl) (by kernel_rfl) (by kernel_rfl) (fun _ _ _ h => np_panic h) (Or.inl ⟨by rfl, ?hy39⟩) (by assumption) ?_
        case hy39 => (intro w' hS'; (try dsimp only at hS'); go_simp; try with_reducible rfl)
        simp only [Act.put, List.setIfInBounds_toArray, List.set_cons_zero, List.set_cons_succ, List.getElem_toArray, List.getElem_cons_succ, List.getElem_cons_zero]
        refine wpAnyH_take (i := 22) (v := ?v40) rfl (by kernel_rfl) (by kernel_rfl) (by kernel_rfl) (fun _ _ _ h => np_panic h) (Or.inl ⟨by rfl, ?hy40⟩) (by assumption) ?_
        case hy40 => (intro w' hS'; (try dsimp only at hS'); go_simp; try with_reducible rfl)
        simp only [Act.put, List.setIfInBounds_toArray, List.set_cons_zero, List.set_cons_succ, List.getElem_toArray, List.getElem_cons_succ, List.getElem_cons_zero]
        refine wpAnyH_take (i := 23) (v := ?v41) rfl (by kernel_rfl) (by kernel_rfl) (by kernel_rfl) (fun _ _ _ h => np_panic h) (Or.inl ⟨by rfl, ?hy41⟩) (by assumption) ?_
        case hy41 => (intro w' hS'; (try dsimp only at hS'); go_simp; try with_reducible rfl)
        simp only [Act.put, List.setIfInBounds_toArray, List.set_cons_zero, List.set_cons_succ, List.getElem_toArray, List.getElem_cons_succ, List.getElem_cons_zero]
        refine wpAnyH_take (i := 24) (v := ?v42) rfl (by kernel_rfl) (by kernel_rfl) (by kernel_rfl) (fun _ _ _ h => np_panic h) (Or.inl ⟨by rfl, ?hy42⟩) (by assumption) ?_
        case hy42 => (intro w' hS'; (try dsimp only at hS'); go_simp; try with_reducible rfl)
        simp only [Act.put, List.setIfInBounds_toArray, List.set_cons_zero, List.set_cons_succ, List.getElem_toArray, List.getElem_cons_succ, List.getElem_cons_zero]
        refine wpAnyH_ready (rs := [9]) (by kernel_rfl) (by simp) ?_
        refine AllReadyH.cons rfl (fun K hK => ?_) AllReadyH.nil
        go_simp
        go_at_call 85
        refine (SPc _ h0.s h0.p).mono ?_
        rintro e w1 ⟨vf, rfl, hwv1, hbb1⟩
        have h1 := h0.lw hbb1
        have kt1 := kt0.trans (Kt.of_below hbb1)
        refine hK.out _ _ h1.cells ?_
        clear hK K
        intro hSw
        try simp only [Act.put, List.setIfInBounds_toArray, List.set_cons_zero, List.set_cons_succ, List.getElem_toArray, List.getElem_cons_succ, List.getElem_cons_zero]
        refine wpAnyH_ready (rs := [10]) (by kernel_rfl) (by simp) ?_
        refine AllReadyH.cons rfl (fun K hK => ?_) AllReadyH.nil
        go_simp
        go_at_call 82
        refine (AHc vf _ hwv1 h1.s).mono ?_
        rintro e w2 ⟨rfl, hss2, ktt2⟩
        have h2 := h1.kt hss2 ktt2
        have kt2 := kt1.trans ktt2
        refine hK.out _ _ h2.cells ?_
        clear hK K
        intro hSw
        try simp only [Act.put, List.setIfInBounds_toArray, List.set_cons_zero, List.set_cons_succ, List.getElem_toArray, List.getElem_cons_succ, List.getElem_cons_zero]
        refine wpAnyH_ready (rs := [17]) (by kernel_rfl) (by simp) ?_
        refine AllReadyH.cons rfl (fun K hK => ?_) AllReadyH.nil
        go_simp
        go_at_call 69
        refine (IHc _ h2).mono ?_
        rintro e w3 ⟨n0, rfl, hn0, hss3, ktt3⟩
        have h3 := h2.kt hss3 ktt3
        have kt3 := kt2.trans ktt3
        refine hK.out _ _ h3.cells ?_
        clear hK K
        intro hSw
        try simp only [Act.put, List.setIfInBounds_toArray, List.set_cons_zero, List.set_cons_succ, List.getElem_toArray, List.getElem_cons_succ, List.getElem_cons_zero]
        refine wpAnyH_ready (rs := [25]) (by kernel_rfl) (by simp) ?_
        refine AllReadyH.cons rfl (fun K hK => ?_) AllReadyH.nil
        go_simp
        go_at_call 86
        refine (BEc _ h3.s h3.p).mono ?_
        rintro e w4 ⟨rfl, hss4, ktt4⟩
        have h4 := h3.kt hss4 ktt4
        have kt4 := kt3.trans ktt4
        refine hK.out _ _ h4.cells ?_
        clear hK K
        intro hSw
        try simp only [Act.put, List.setIfInBounds_toArray, List.set_cons_zero, List.set_cons_succ, List.getElem_toArray, List.getElem_cons_succ, List.getElem_cons_zero]
        refine wpAnyH_take (i := 26) (v := ?v43) rfl (by kernel_rfl) (by kernel_rfl) (by kernel_rfl) (fun _ _ _ h => np_panic h) (Or.inl ⟨by rfl, ?hy43⟩) (by assumption) ?_
        case hy43 => (intro w' hS'; (try dsimp only at hS'); go_simp; try with_reducible rfl)
        simp only [Act.put, List.setIfInBounds_toArray, List.set_cons_zero, List.set_cons_succ, List.getElem_toArray, List.getElem_cons_succ, List.getElem_cons_zero]
        refine wpAnyH_take (i := 27) (v := ?v44) rfl (by kernel_rfl) (by kernel_rfl) (by kernel_rfl) (fun _ _ _ h => np_panic h) (Or.inl ⟨by rfl, ?hy44⟩) (by assumption) ?_
        case hy44 => (intro w' hS'; (try dsimp only at hS'); go_simp; try with_reducible rfl)
        simp only [Act.put, List.setIfInBounds_toArray, List.set_cons_zero, List.set_cons_succ, List.getElem_toArray, List.getElem_cons_succ, List.getElem_cons_zero]
        refine wpAnyH_take (i := 28) (v := ?v45) rfl (by kernel_rfl) (by kernel_rfl) (by kernel_rfl) (fun _ _ _ h => np_panic h) (Or.inl ⟨by rfl, ?hy45⟩) (by assumption) ?_
        case hy45 => (intro w' hS'; (try dsimp only at hS'); go_simp; try with_reducible rfl)
        simp only [Act.put, List.setIfInBounds_toArray, List.set_cons_zero, List.set_cons_succ, List.getElem_toArray, List.getElem_cons_succ, List.getElem_cons_zero]
        refine wpAnyH_take (i := 29) (v := ?v46) rfl (by kernel_rfl) (by kernel_rfl) (by kernel_rfl) (fun _ _ _ h => np_panic h) (Or.inl ⟨by rfl, ?hy46⟩) (by assumption) ?_
        case hy46 => (intro w' hS'; (try dsimp only at hS'); go_simp; try with_reducible rfl)
        simp only [Act.put, List.setIfInBounds_toArray, List.set_cons_zero, List.set_cons_succ, List.getElem_toArray, List.getElem_cons_succ, List.getElem_cons_zero]
        refine wpAnyH_done (by kernel_rfl) (NoPanic.normal ?_) _
        all_goals
          have NALLn := hd (NALL.out n0 hn0)
          have hnm := NMM.out n0 hn0
          have hs4 := h4.s
          have kk4 := kk'.mono (hsr.keepA kt4)
          have hk4 := hkt.trans kt4
          have hbn := fun n => drwN w4 n
          clear NALL NMM hn0 h4 kt4 kt0 h0
          by_cases hc1 : capk = 1
          · subst hc1
            simp only [sliced, if_true, Nat.sub_self, Nat.sub_eq_zero_of_le hlk] at kk4
            go_wp2_with fail
            go_quiet (fail)
            go_wp2_with fail
            go_roundw
            case rel => exact ⟨k + 1, m, q + (A + n0 * B), a + 1, _, rfl, by omega, by go_num, rfl, congrArg _ (nb_wrap hnm), by omega, hmj, hnm, by rw [HD3.out]; exact kk4.lw (hbn nq), by rw [HD3.out]; exact HEX', by rw [HD3.out]; exact NALLn, HM', hs4.lw (hbn nq), hk4.trans (Kt.of_below (hbn nq))⟩
            case measure => simp [intOf]; omega
          · simp only [sliced, if_neg hc1, Option.map_some, addr_add, Nat.one_mul] at kk4
            go_wp2_with fail
            go_quiet (fail)
            go_wp2_with fail
            go_roundw
            case rel => exact ⟨k + 1, m, q + (A + n0 * B), a + 1, _, rfl, by omega, by go_num, rfl, congrArg _ (nb_wrap hnm), by omega, hmj, hnm, by rw [HD3.out]; exact kk4.lw (hbn nq), by rw [HD3.out]; exact HEX', by rw [HD3.out]; exact NALLn, HM', hs4.lw (hbn nq), hk4.trans (Kt.of_below (hbn nq))⟩
            case measure => simp [intOf]; omega
    · obtain ⟨c, hcc⟩ := hexx.out
      obtain ⟨rfl, rfl, _⟩ := row_end (by omega) hcc
      have hfin := hall.out _ hcc
      have HFIN := hd hfin
      clear hexx hall hMM hcc hfin
      go_wp2_with fail
      go_ret
      exact ⟨q, rfl, HFIN.out, hsr, hbw2.trans hkt⟩
theorem nb_all (hG : CkG g W V) (hE : ∀ v : Int, hasB E v = true ↔ Nul g.rules v) : ∀ (f : Tf) (i : Nat), i < f.len → NbOK fb cb tb rb g W V E vR vW vg (f.at_ i)
  | .nil, _, h => absurd h (Nat.not_lt_zero _)
  | .cons rule kids _, 0, _ => nb_head hG hE ⟨rule, kids⟩ (nb_all hG hE kids)
  | .cons _ _ rest, i + 1, h => nb_all hG hE rest i (by simpa [Tf.len] using h)
theorem number_any (hG : CkG g W V) (hE : ∀ v : Int, hasB E v = true ↔ Nul g.rules v) (t : Tr) : NbOK fb cb tb rb g W V E vR vW vg t := nb_head hG hE t (nb_all hG hE t.kids)
end
end Go.Proofs.Ytlhdppkllmnmkae.G
