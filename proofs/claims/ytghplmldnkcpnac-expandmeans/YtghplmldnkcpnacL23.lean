/- Texts laid together: Yu Yl Yo Fa Fs Fl Fn Fo Fp Gp. -/
import Derived.Test.YtghplmldnkcpnacL20
import Derived.Test.YtghplmldnkcpnacL21
import Derived.Test.YtghplmldnkcpnacL22
import Derived.Test.YtghplmldnkcpnacL14
import Derived.Test.YtghplmldnkcpnacL03
import Derived.Test.YtghplmldnkcpnacL13
/- Asking what a name says. -/
namespace Go.Proofs.Ytghplmldnkcpnac
open Go.RowKit G
set_option maxRecDepth 100000 in
set_option maxHeartbeats 8000000 in
theorem says2 (ds : List Df) (X : List ByteArray) (ra : Nat) (v0 : Value) (l d i j : Nat) (IH : SaysH ds X ra v0 l) (x : Xp) (vx vt : Value) (w : World) (hx : XcV w (Oth ra) vx x) (_hg : x.gd) (ht : TxV w (Oth ra) vt X i j) (hs : AsS w ra v0 (l + 1)) (hds : DcV w (Oth ra) v0 ds) (h60 : ds.length ≤ 60) (hgd : ∀ e ∈ ds, e.e.gd) (hl6 : l + 1 ≤ 1000000) (hd6 : d + 1 ≤ 1000000) (h1 : x.op = 2):
    Calls Try.prog 32 #[.pointer (some ⟨ra, 0, none⟩), vx, vt, .int .i64 ((d : Int) + 1)] w (OutS w ra v0 (l + 1) (SaD (nms ds) X (ds.map Df.e) (d + 1) x i j)) := by
  have H1 := hd h1
  clear h1
  have hNA := fun w' (h : DcV w' (Oth ra) v0 ds) => namesOf_any ds v0 w' (h.ds.mono (fun b o v _ h => ⟨trivial, h⟩)) h60
  have hNl := nms_len ds
  obtain ⟨u, rfl, hu⟩ := hx
  obtain ⟨ak, ck, rfl, hck⟩ := hu.slice
  obtain ⟨av, ct, rfl, hct⟩ := ht.slice
  have hul := hu.1
  have hij := ht.1
  have hjX := ht.2.1
  have hX6 := ht.2.2.1
  obtain ⟨hdl, ad, cd, rfl, hdin⟩ := id hds
  obtain ⟨W0, hW0⟩ : ∃ W0, W0 = (w.alloc (.cells #[.int .i64 x.op, .string x.nm, .slice ak x.kids.len ck] 64)).alloc (.cells #[.slice ad ds.length cd] 42) := ⟨_, rfl⟩
  have kW0 : Below w.heap.size w W0 := by rw [hW0]; exact G.al2 _ _ _
  have hra : ra < w.heap.size := G.lt_of_cell hs.c0
  have s0 := hs.lw kW0
  obtain ⟨V, hV⟩ : ∃ V, V = w.setCell ⟨ra, 1, none⟩ (.int .i64 (l : Int)) := ⟨_, rfl⟩
  have zV : V.heap.size = w.heap.size := by rw [hV]; simp
  obtain ⟨W, hW⟩ : ∃ W, W = (V.alloc (.cells #[.int .i64 x.op, .string x.nm, .slice ak x.kids.len ck] 64)).alloc (.cells #[.slice ad ds.length cd] 42) := ⟨_, rfl⟩
  have kVW : Below V.heap.size V W := by rw [hW]; exact G.al2 _ _ _
  have sW : AsS W ra (.slice ad ds.length cd) l := AsS.lw (by rw [hV]; exact hs.set l) kVW
  have bW : But ra w W := But.trans (by rw [hV]; exact (But.refl ra w).setCell (p := ⟨ra, 1, none⟩) (.inl rfl) _) (But.of_below kVW)
  have x0 : W.cell? ⟨w.heap.size, 0, none⟩ = some (.int .i64 x.op) := by rw [hW, ← zV]; simp
  have x1 : W.cell? ⟨w.heap.size, 1, none⟩ = some (.string x.nm) := by rw [hW, ← zV]; simp
  have x2 : W.cell? ⟨w.heap.size, 2, none⟩ = some (.slice ak x.kids.len ck) := by rw [hW, ← zV]; simp
  have t0 : W.cell? ⟨w.heap.size + 1, 0, none⟩ = some (.slice ad ds.length cd) := by rw [hW, ← zV]; simp
  have zW : W.heap.size = w.heap.size + 2 := by rw [hW, ← zV]; simp
  have uW := hu.kp bW.kp (fun _ _ h => h)
  have tW := ht.kp bW.kp (fun _ _ h => h)
  have dW := hds.kp bW.kp (fun _ _ h => h)
  have q0 := G.alcell hs.c0 (.cells #[.int .i64 x.op, .string x.nm, .slice ak x.kids.len ck] 64)
  have q1 : ((w.alloc (.cells #[.int .i64 x.op, .string x.nm, .slice ak x.kids.len ck] 64)).alloc (.cells #[.slice ad ds.length cd] 42)).cell? ⟨ra, 1, none⟩ = some (.int .i64 ((l : Int) + 1)) := by rw [← hW0]; simpa using s0.c1
  have qf : ((w.alloc (.cells #[.int .i64 x.op, .string x.nm, .slice ak x.kids.len ck] 64)).alloc (.cells #[.slice ad ds.length cd] 42)).frozen? ⟨ra, 1, none⟩ = false := by rw [← hW0]; exact s0.fz
  have hl1 : ((l : Int) + 1 == 0) = false := by simp; omega
  have hd1 : ((d : Int) + 1 == 0) = false := by simp; omega
  clear hu ht kW0 s0
  generalize hN : nms ds = N at *
  go_enter Try.func32, Try.ntmps32
  go_upto_region 5 with fail
  rw [← hV, ← hW]
  clear hW0 hV hW q0 q1 qf zV kVW
  have h1 := H1.out
  have hb1 : (x.op == 1) = false := by simp; omega
  have hb2 : (x.op == 2) = true := by simpa using h1
  have HP := hd (SaD_two (N := N) (X := X) (E := ds.map Df.e) (d := d) (i := i) (j := j) h1)
  clear h1
  have PA := fun v w' (h : SsV w' v N) => placeOf_any N x.nm v w' h
  have hnl6 : N.length ≤ 9223372036854775807 := by omega
  have hwl' : 0 ≤ whr N x.nm → whr N x.nm < (ds.length : Int) := fun h => by have := (whr_in ((whr_mem _ _).1 h)).2; omega
  clear hNl
  generalize hq : whr N x.nm = q at *
  clear hq
  have dwD := G.drw1 W
  have hs0 : W.drew.cell? ⟨w.heap.size, 1, none⟩ = some (.string x.nm) ∧ W.drew.cell? ⟨w.heap.size + 1, 0, none⟩ = some (.slice ad ds.length cd) := ⟨G.bkeep dwD x1, G.bkeep dwD t0⟩
  have sD := sW.lw dwD
  have tD := tW.kp (Kp.of_below dwD) (fun _ _ h => h)
  have dD := dW.kp (Kp.of_below dwD) (fun _ _ h => h)
  have bD : But ra w W.drew := bW.trans (But.of_below dwD)
  go_wp2_with fail
  refine wp_region_noPanic ?_
  refine wp_region_held_drew (S := fun w' => World.cell? w' ⟨w.heap.size, 1, none⟩ = some (.string x.nm) ∧ World.cell? w' ⟨w.heap.size + 1, 0, none⟩ = some (.slice ad ds.length cd)) (by kernel_rfl) hs0 ?_
  intro hSw
  obtain ⟨y0, hy0⟩ : ∃ y0, y0 = W.drew := ⟨_, rfl⟩
  rw [← hy0] at hSw sD tD dD bD ⊢
  clear hy0
  refine wpAnyH_take (i := 0) (v := ?v1) rfl (by kernel_rfl) (by kernel_rfl) (by kernel_rfl) (fun _ _ _ h => np_panic h) (Or.inl ⟨by rfl, ?hy1⟩) (by assumption) ?_
  case hy1 => (intro w' hS'; (try dsimp only at hS'); go_simp; try with_reducible rfl)
  simp only [Act.put, List.setIfInBounds_toArray, List.set_cons_zero, List.set_cons_succ, List.getElem_toArray, List.getElem_cons_zero]
  refine wpAnyH_take (i := 2) (v := ?v2) rfl (by kernel_rfl) (by kernel_rfl) (by kernel_rfl) (fun _ _ _ h => np_panic h) (Or.inl ⟨by rfl, ?hy2⟩) (by assumption) ?_
  case hy2 => (intro w' hS'; (try dsimp only at hS'); go_simp; try with_reducible rfl)
  simp only [Act.put, List.setIfInBounds_toArray, List.set_cons_zero, List.set_cons_succ, List.getElem_toArray, List.getElem_cons_succ, List.getElem_cons_zero]
  refine wpAnyH_take (i := 3) (v := ?v3) rfl (by kernel_rfl) (by kernel_rfl) (by kernel_rfl) (fun _ _ _ h => np_panic h) (Or.inl ⟨by rfl, ?hy3⟩) (by assumption) ?_
  case hy3 => (intro w' hS'; (try dsimp only at hS'); go_simp; try with_reducible rfl)
  simp only [Act.put, List.setIfInBounds_toArray, List.set_cons_zero, List.set_cons_succ, List.getElem_toArray, List.getElem_cons_succ, List.getElem_cons_zero]
  refine wpAnyH_ready (rs := [1]) (by kernel_rfl) (by simp) ?_
  refine AllReadyH.cons rfl (fun K hK => ?_) AllReadyH.nil
  go_simp
  go_at_call 29
  refine (hNA y0 dD).mono ?_
  rintro e y1 ⟨vn, rfl, ownn, k1⟩
  have ssn : SsV y1 vn N := SsV_owned ownn hnl6
  obtain ⟨an, cn, rfl⟩ := owns_slice ownn
  have s1 := sD.lw k1
  have t1 := tD.kp (Kp.of_below k1) (fun _ _ h => h)
  have d1 := dD.kp (Kp.of_below k1) (fun _ _ h => h)
  have b1 := bD.trans (But.of_below k1)
  have sY : World.cell? y1 ⟨w.heap.size, 1, none⟩ = some (.string x.nm) ∧ World.cell? y1 ⟨w.heap.size + 1, 0, none⟩ = some (.slice ad ds.length cd) := ⟨G.bkeep k1 hSw.1, G.bkeep k1 hSw.2⟩
  refine hK.out _ _ sY ?_
  clear hK K
  intro hSw
  try simp only [Act.put, List.setIfInBounds_toArray, List.set_cons_zero, List.set_cons_succ]
  refine wpAnyH_ready (rs := [4]) (by kernel_rfl) (by simp) ?_
  refine AllReadyH.cons rfl (fun K hK => ?_) AllReadyH.nil
  go_simp
  go_at_call 69
  refine (PA _ y1 ssn).mono ?_
  rintro e wx ⟨rfl, hwx⟩
  obtain rfl := hwx.symm
  refine hK.out _ _ hSw ?_
  clear hK K
  intro hSw
  try simp only [Act.put, List.setIfInBounds_toArray, List.set_cons_zero, List.set_cons_succ]
  refine wpAnyH_take (i := 5) (v := ?v4) rfl (by kernel_rfl) (by kernel_rfl) (by kernel_rfl) (fun _ _ _ h => np_panic h) (Or.inl ⟨by rfl, ?hy4⟩) (by assumption) ?_
  case hy4 => (intro w' hS'; (try dsimp only at hS'); go_simp; try with_reducible rfl)
  simp only [Act.put, List.setIfInBounds_toArray, List.set_cons_zero, List.set_cons_succ, List.getElem_toArray, List.getElem_cons_succ, List.getElem_cons_zero]
  refine wpAnyH_done (by kernel_rfl) (NoPanic.normal ?_) _
  have tt0 := hSw.2
  by_cases hq0 : 0 ≤ q
  · have hqd : q < ds.length := hwl' hq0
    obtain ⟨k, hk⟩ : ∃ k : Nat, q = k := ⟨q.toNat, by omega⟩
    subst hk
    have hkd : k < ds.length := by omega
    obtain ⟨_, ad', cd', e', hin⟩ := id d1
    simp at e'
    obtain ⟨rfl, rfl⟩ := e'
    rcases hin with hin | ⟨b, o, rfl, hin⟩
    · omega
    obtain ⟨hob, c0, c1, u', c2, hu'⟩ := hin.at_ k hkd
    have hgk := hgd ds[k] (List.getElem_mem hkd)
    have HP2 : Hid (SaD N X (ds.map Df.e) (d + 1) x i j ↔ SaD N X (ds.map Df.e) d ds[k].e i j) := hd (by
      rw [HP.out]
      constructor
      · rintro ⟨_, y, h1, h2⟩
        simp [hkd] at h1
        rw [h1]; exact h2
      · intro h
        exact ⟨hq0, ds[k].e, by simp [hkd], h⟩)
    obtain ⟨au, cu, rfl, _⟩ := hu'.slice
    have IA := IH l (Nat.le_refl _) ds[k].e d i j _ _ y1 ⟨_, rfl, hu'⟩ hgk t1 s1 d1 (by omega)
    rw [hN] at IA
    clear hin hgk HP
    generalize ds[k].e = y at *
    have hkb : decide ((k : Int) ≥ 0) = true := by simp
    have hk2 : (k : Int) < (ds.length : Int) := by omega
    go_wp2_with fail
    refine IA.mono ?_
    rintro e w1 ⟨r, L1, rfl, hL1, sw1, bw1, h1⟩
    have HR := hd h1
    clear h1
    go_wp2_with fail
    go_ret
    exact ⟨r, L1, rfl, by omega, sw1, b1.trans bw1, fun h => (HR.out h).trans HP2.out.symm⟩
  · have hkb : decide (q ≥ 0) = false := by simp; omega
    have HP2 : Hid (¬ SaD N X (ds.map Df.e) (d + 1) x i j) := hd (fun h => hq0 (HP.out.1 h).1)
    clear HP
    go_wp2_with fail
    go_ret
    exact ⟨false, l, rfl, by omega, s1, b1, fun _ => by simpa using HP2.out⟩
end Go.Proofs.Ytghplmldnkcpnac

/- Asking what an expression says: any expression, any depth, whatever is left. -/
namespace Go.Proofs.Ytghplmldnkcpnac
open Go.RowKit G
set_option maxRecDepth 100000 in
set_option maxHeartbeats 8000000 in
theorem says_none (ds : List Df) (X : List ByteArray) (ra : Nat) (v0 : Value) (L deep i j : Nat) (x : Xp) (vx vt : Value) (w : World) (hx : XcV w (Oth ra) vx x) (ht : TxV w (Oth ra) vt X i j) (hs : AsS w ra v0 L) (hds : DcV w (Oth ra) v0 ds) (h0 : deep = 0 ∨ L = 0) :
    Calls Try.prog 32 #[.pointer (some ⟨ra, 0, none⟩), vx, vt, .int .i64 (deep : Int)] w (OutS w ra v0 L (SaD (nms ds) X (ds.map Df.e) deep x i j)) := by
  obtain ⟨u, rfl, hu⟩ := hx
  obtain ⟨ak, ck, rfl, hck⟩ := hu.slice
  obtain ⟨av, ct, rfl, hct⟩ := ht.slice
  obtain ⟨hdl, ad, cd, rfl, hdin⟩ := id hds
  obtain ⟨W, hW⟩ : ∃ W, W = (w.alloc (.cells #[.int .i64 x.op, .string x.nm, .slice ak x.kids.len ck] 64)).alloc (.cells #[.slice ad ds.length cd] 42) := ⟨_, rfl⟩
  have kW : Below w.heap.size w W := by rw [hW]; exact G.al2 _ _ _
  have sW := hs.lw kW
  have q0 := G.alcell hs.c0 (.cells #[.int .i64 x.op, .string x.nm, .slice ak x.kids.len ck] 64)
  by_cases hd0 : deep = 0
  · subst hd0
    go_enter Try.func32, Try.ntmps32
    go_wp2_with fail
    go_ret
    exact ⟨false, L, rfl, Nat.le_refl _, by rw [← hW]; exact sW, by rw [← hW]; exact But.of_below kW, fun _ => by simp [SaD]⟩
  · obtain rfl : L = 0 := h0.resolve_left hd0
    have hdb : ((deep : Int) == 0) = false := by simpa using hd0
    have q1 : ((w.alloc (.cells #[.int .i64 x.op, .string x.nm, .slice ak x.kids.len ck] 64)).alloc (.cells #[.slice ad ds.length cd] 42)).cell? ⟨ra, 1, none⟩ = some (.int .i64 0) := by rw [← hW]; exact sW.c1
    go_enter Try.func32, Try.ntmps32
    go_wp2_with fail
    go_ret
    exact ⟨false, 0, rfl, Nat.le_refl _, by rw [← hW]; exact sW, by rw [← hW]; exact But.of_below kW, fun h => absurd rfl h⟩
theorem says_all (ds : List Df) (X : List ByteArray) (ra : Nat) (v0 : Value) (h60 : ds.length ≤ 60) (hgd : ∀ e ∈ ds, e.e.gd) : ∀ l, l ≤ 1000000 → SaysH ds X ra v0 l := by
  intro l
  induction l with
  | zero =>
    intro _ L hL x deep i j vx vt w hx hg ht hs hds hd6
    exact says_none ds X ra v0 L deep i j x vx vt w hx ht hs hds (.inr (by omega))
  | succ l ih =>
    intro hl6 L hL x deep i j vx vt w hx hg ht hs hds hd6
    by_cases hLl : L ≤ l
    · exact ih (by omega) L hLl x deep i j vx vt w hx hg ht hs hds hd6
    obtain rfl : L = l + 1 := by omega
    cases deep with
    | zero => exact says_none ds X ra v0 (l + 1) 0 i j x vx vt w hx ht hs hds (.inl rfl)
    | succ d =>
      have IH := ih (by omega)
      rw [show (((d + 1 : Nat) : Int)) = (d : Int) + 1 by omega]
      by_cases h1 : x.op = 1
      · exact says1 ds X ra v0 l d i j IH x vx vt w hx hg ht hs hds h60 hgd hl6 hd6 h1
      by_cases h2 : x.op = 2
      · exact says2 ds X ra v0 l d i j IH x vx vt w hx hg ht hs hds h60 hgd hl6 hd6 h2
      by_cases h4 : x.op = 4
      · exact says4 ds X ra v0 l d i j IH x vx vt w hx hg ht hs hds h60 hgd hl6 hd6 h4
      by_cases h5 : x.op = 5
      · exact says5 ds X ra v0 l d i j IH x vx vt w hx hg ht hs hds h60 hgd hl6 hd6 h5
      by_cases h6 : x.op = 6
      · exact says6 ds X ra v0 l d i j IH x vx vt w hx hg ht hs hds h60 hgd hl6 hd6 h6
      by_cases h7 : x.op = 7
      · exact says7 ds X ra v0 l d i j IH x vx vt w hx hg ht hs hds h60 hgd hl6 hd6 h7
      exact says3 ds X ra v0 l d i j IH x vx vt w hx hg ht hs hds h60 hgd hl6 hd6 ⟨h1, h2, h4, h5, h6, h7⟩
end Go.Proofs.Ytghplmldnkcpnac

/- A count that is told: the document's Of. -/
namespace Go.Proofs.Ytghplmldnkcpnac.G
open Go.RowKit
set_option maxRecDepth 100000 in
set_option maxHeartbeats 4000000 in
theorem cof_any (cb : Nat) (aoW : Option Addr) (L capW V b0 c0 : Nat) (b1 c1 : Nat → Nat) (rb : Nat → Nat → Nat) (f : Nat → Nat → Nat → Int) (v i j : Nat) (w : World) (k0 : w.cell? ⟨cb, 0, none⟩ = some (.int .i64 (V : Int))) (k4 : w.cell? ⟨cb, 4, none⟩ = some (.slice aoW L capW)) (k6 : w.cell? ⟨cb, 6, none⟩ = some (.slice (some ⟨b0, 0, none⟩) V c0)) (tb : TbR w V L b0 b1 c1 rb f) (hv : v < V) (hij : i ≤ j) (hj : j ≤ L) (_hL : L ≤ 1000) (_hV : V ≤ 1000) :
    Calls Try.prog 33 #[.pointer (some ⟨cb, 0, none⟩), .int .i64 v, .int .i64 i, .int .i64 j] w fun e w' => e = .returned (.int .i64 (f v i j)) ∧ w' = w := by
  have h0 := tb.h0 v hv
  have h1 := tb.h1 v i hv (by omega)
  have h2 := tb.h2 v i j hv (by omega) hj
  have hv2 : (v : Int) < (V : Int) := by omega
  have hv3 : ¬ ((V : Int) ≤ (v : Int)) := by omega
  have hij2 : ¬ ((j : Int) < (i : Int)) := by omega
  have hj2 : ¬ ((L : Int) < (j : Int)) := by omega
  have hi3 : i < L + 1 := by omega
  have hj3 : j < L + 1 := by omega
  have hi4 : (i : Int) < (L : Int) + 1 := by omega
  have hj4 : (j : Int) < (L : Int) + 1 := by omega
  generalize f v i j = x at *
  clear tb
  go_enter Try.func33, Try.ntmps33
  go_wp2_with fail
  go_ret
  exact ⟨rfl, rfl⟩
end Go.Proofs.Ytghplmldnkcpnac.G

/- What is so of nonterminals, in mathematics: trees, what Start comes to, what leads where. -/
namespace Go.Proofs.Ytghplmldnkcpnac.G

/-- Those that have a tree (t: with terminals in it; else with the empty word). -/
inductive Gen (t : Bool) (R : List Ru) : Int → Prop
  | mk (r : Ru) (h : r ∈ R) (hs : ∀ s ∈ r.right, ¬ (t = true ∧ s < 0) → Gen t R s) : Gen t R r.left
theorem Gen.mono {t : Bool} {R R' : List Ru} (h : ∀ r ∈ R, r ∈ R') {v : Int} (hv : Gen t R v) : Gen t R' v := by
  induction hv with
  | mk r hr _ ih => exact .mk r (h r hr) ih
/-- Start, and those that stand in rules of such ones. -/
inductive Rch (R : List Ru) (st : Int) : Int → Prop
  | start : Rch R st st
  | step (r : Ru) (h : r ∈ R) (hl : Rch R st r.left) (s : Int) (hs : s ∈ r.right) (h0 : 0 ≤ s) : Rch R st s
theorem Rch.mono {R R' : List Ru} (h : ∀ r ∈ R, r ∈ R') {st v : Int} (hv : Rch R st v) : Rch R' st v := by
  induction hv with
  | start => exact .start
  | step r hr _ s hs h0 ih => exact .step r (h r hr) ih s hs h0
/-- A right side has b at a place ahead of which (and, if not c, behind which) all are nullable. -/
def Fit (c : Bool) (E : Int → Prop) (l : List Int) (b : Int) : Prop := ∃ k, ∃ h : k < l.length, l[k] = b ∧ (∀ s ∈ l.take k, E s) ∧ (c = true ∨ ∀ s ∈ l.drop (k + 1), E s)
theorem Fit.mono {c : Bool} {E E' : Int → Prop} (h : ∀ v, E v → E' v) {l : List Int} {b : Int} (hf : Fit c E l b) : Fit c E' l b :=
  let ⟨k, hk, h1, h2, h3⟩ := hf
  ⟨k, hk, h1, fun s hs => h s (h2 s hs), h3.imp (fun h => h) fun h3 s hs => h s (h3 s hs)⟩
/-- One step. -/
def Lds (c : Bool) (E : Int → Prop) (R : List Ru) (a b : Int) : Prop := 0 ≤ b ∧ ∃ r ∈ R, r.left = a ∧ Fit c E r.right b
/-- One step or more. -/
inductive Led (c : Bool) (E : Int → Prop) (R : List Ru) (a : Int) : Int → Prop
  | one {b : Int} (h : Lds c E R a b) : Led c E R a b
  | more {b d : Int} (h : Led c E R a b) (h' : Lds c E R b d) : Led c E R a d
theorem Led.mono {c : Bool} {E E' : Int → Prop} {R R' : List Ru} (hE : ∀ v, E v → E' v) (h : ∀ r ∈ R, r ∈ R') {a b : Int} (hv : Led c E R a b) : Led c E' R' a b := by
  have st : ∀ {x y}, Lds c E R x y → Lds c E' R' x y := fun ⟨h0, r, hr, e, hf⟩ => ⟨h0, r, h r hr, e, hf.mono hE⟩
  induction hv with
  | one h => exact .one (st h)
  | more _ h' ih => exact .more ih (st h')
theorem Led.trans {c : Bool} {E : Int → Prop} {R : List Ru} {a b d : Int} (h : Led c E R a b) (h' : Led c E R b d) : Led c E R a d := by
  induction h' with
  | one h' => exact .more h h'
  | more _ h' ih => exact .more ih h'

/-! Sets of numbers from 0 to 63. -/
/-- A set as the number that it is. -/
def U (s : BitVec 64) : Int := (s.toNat : Int)
def hasB (s : BitVec 64) (v : Int) : Bool := decide (0 ≤ v) && decide (v < 64) && s.getLsbD v.toNat
theorem has_or (a b : BitVec 64) (v : Int) : hasB (a ||| b) v = (hasB a v || hasB b v) := by
  simp only [hasB, BitVec.getLsbD_or]
  cases decide (0 ≤ v) <;> cases decide (v < 64) <;> simp
/-! Those numbers under n of which something is so, rising. -/
/-! A set that grows till nothing more comes. -/
/-- r comes of s by adding what F says. -/
inductive Grows (F : BitVec 64 → BitVec 64) (s : BitVec 64) : BitVec 64 → Prop
  | refl : Grows F s s
  | more {t : BitVec 64} (h : Grows F s t) : Grows F s (t ||| F t)
theorem Grows.ind {F : BitVec 64 → BitVec 64} {s r : BitVec 64} (h : Grows F s r) {p : BitVec 64 → Prop} (h0 : p s) (h1 : ∀ t, p t → p (t ||| F t)) : p r := by
  induction h with
  | refl => exact h0
  | more _ ih => exact h1 _ ih
theorem Grows.base {F : BitVec 64 → BitVec 64} {s r : BitVec 64} (h : Grows F s r) {v : Int} (hv : hasB s v = true) : hasB r v = true := by
  induction h with
  | refl => exact hv
  | more _ ih => rw [has_or, ih, Bool.true_or]

/-! What is made: the program's rounds. -/
/-! What is reached: the program's rounds. -/
/-! One step: the program's two ways. -/
/-! One step or more: the program's table. -/
theorem getD_set {α : Type} (N : List α) (i j : Nat) (x d : α) : (N.set i x).getD j d = if i = j ∧ j < N.length then x else N.getD j d := by
  simp only [List.getD_eq_getElem?_getD, List.getElem?_set]
  by_cases h : i = j
  · subst h
    by_cases h' : i < N.length
    · simp [h']
    · simp [h']
  · simp [h]
/-- All symbols are nonterminals under V, or terminals; the lefts too. -/
def Vrs (V : Nat) (R : List Ru) : Prop := V ≤ 64 ∧ ∀ r ∈ R, (0 ≤ r.left ∧ r.left < V) ∧ ∀ s ∈ r.right, s < V
end Go.Proofs.Ytghplmldnkcpnac.G

/- Sets, the program's way: Has, With, List; numbers each of which is asked. -/
namespace Go.Proofs.Ytghplmldnkcpnac.G
open Go.RowKit
/-! Numbers each of which is asked. -/
/-- A function that is called as it is. -/
def Cal (id : Nat) : Prop := ∀ (args : Array Value) (w : World), (callFunc id args).run Try.prog w = .ok (.enter id args) w
/-- A look: a function value that answers p of a number, and leaves all as it is. -/
def Lk (W : World) (f : Value) (p : Int → Bool) : Prop := ∃ (id : Nat) (rc cs : Array Value), f = .func (.func id) rc cs ∧ Cal id ∧ ∀ (n : Int) (w : World), Below W.heap.size W w → Calls Try.prog id (rc.push (.int .i64 n) ++ cs) w fun e w' => e = .returned (.bool (p n)) ∧ w' = w
theorem Lk.lw {W W' : World} {f : Value} {p : Int → Bool} (h : Lk W f p) (hb : Below W.heap.size W W') : Lk W' f p :=
  let ⟨id, rc, cs, e, hc, h⟩ := h
  ⟨id, rc, cs, e, hc, fun n w hw => h n w (bthen hb hw)⟩
end Go.Proofs.Ytghplmldnkcpnac.G

/- Numbers each of which is asked, the program's way; a set that grows till nothing more comes. -/
namespace Go.Proofs.Ytghplmldnkcpnac.G
open Go.RowKit
/-! A set that grows. -/
end Go.Proofs.Ytghplmldnkcpnac.G

/- What is made, and what is reached, the program's way. -/
namespace Go.Proofs.Ytghplmldnkcpnac.G
open Go.RowKit
/-- A box that may be written. -/
def Bx (w : World) (p : Nat) (v : Value) : Prop := w.cell? ⟨p, 0, none⟩ = some v ∧ w.frozen? ⟨p, 0, none⟩ = false
theorem Bx.lw {w w' : World} {p : Nat} {v : Value} (h : Bx w p v) (hb : Below w.heap.size w w') : Bx w' p v :=
  ⟨bkeep hb h.1, (World.frozen?_of_block (a := ⟨p, 0, none⟩) (hb.block p (lt_of_cell h.1))).trans h.2⟩
theorem Bx.set {w : World} {p : Nat} {v u : Value} (h : Bx w p v) : Bx (w.setCell ⟨p, 0, none⟩ u) p u :=
  ⟨World.cell?_setCell_same _ _ _ h.1, by rw [World.frozen?_setCell]; exact h.2⟩
end Go.Proofs.Ytghplmldnkcpnac.G

/- One step, the program's two ways: alone, and as the first one. -/
namespace Go.Proofs.Ytghplmldnkcpnac.G
open Go.RowKit
theorem IsV.take {w : World} {S : Nat → Prop} {ao : Option Addr} {n cap k : Nat} {l : List Int} (h : IsV w S (.slice ao n cap) l) (hk : k ≤ l.length) : IsV w S (.slice ao k cap) (l.take k) := by
  obtain ⟨h1, ao', cap', e, h3, h4, h5⟩ := h
  simp at e
  obtain ⟨rfl, rfl, rfl⟩ := e
  have hm : (l.take k).length = k := by simp; omega
  refine ⟨by omega, ao, cap, by rw [hm], by omega, h4, ?_⟩
  rcases h5 with h5 | ⟨b, o, e, hs, hx⟩
  · exact .inl (by omega)
  · exact .inr ⟨b, o, e, hs, fun i hi => by rw [hx i (by omega)]; simp⟩
theorem IsV.drop {w : World} {S : Nat → Prop} {ao : Option Addr} {n cap k : Nat} {l : List Int} (h : IsV w S (.slice ao n cap) l) (hk : k ≤ l.length) : IsV w S (sliced ao k n cap 1) (l.drop k) := by
  obtain ⟨h1, ao', cap', e, h3, h4, h5⟩ := h
  simp at e
  obtain ⟨rfl, rfl, rfl⟩ := e
  have hm : (l.drop k).length = l.length - k := by simp
  unfold sliced
  refine ⟨by omega, _, cap - k, by rw [hm], by omega, ?_, ?_⟩
  · intro e
    split at e
    next h => omega
    next h =>
      cases ao with
      | none => have := h4 rfl; omega
      | some a => simp at e
  · rcases h5 with h5 | ⟨b, o, rfl, hs, hx⟩
    · exact .inl (by omega)
    · by_cases hc : cap = k
      · exact .inl (by omega)
      · refine .inr ⟨b, o + k, by simp [hc, addr_add], hs, fun i hi => ?_⟩
        rw [show o + k + i = o + (k + i) by omega, hx (k + i) (by omega)]
        simp
theorem drop_at {l : List Int} {k : Nat} (h : k < l.length) : l.drop k = l[k] :: l.drop (k + 1) := List.drop_eq_getElem_cons h
end Go.Proofs.Ytghplmldnkcpnac.G

/- One step or more, the program's way. -/
namespace Go.Proofs.Ytghplmldnkcpnac.G
open Go.RowKit
end Go.Proofs.Ytghplmldnkcpnac.G

/- What is wrong with a grammar, the program's way: looks that are asked of each number. -/
namespace Go.Proofs.Ytghplmldnkcpnac.G
open Go.RowKit
def wb (lo hi n : Int) : Bool := decide (lo ≤ n) && decide (n ≤ hi)
theorem wb_iff {lo hi n : Int} : wb lo hi n = true ↔ lo ≤ n ∧ n ≤ hi := by simp [wb]
/-- A look: is a number from lo to hi? -/
def Wn (w : World) (f : Value) (lo hi : Int) : Prop := ∃ b1 b2, f = .func (.func 84) #[] #[.pointer (some ⟨b1, 0, none⟩), .pointer (some ⟨b2, 0, none⟩)] ∧ w.cell? ⟨b1, 0, none⟩ = some (.int .i64 lo) ∧ w.cell? ⟨b2, 0, none⟩ = some (.int .i64 hi)
theorem Wn.lw {w w' : World} {f : Value} {lo hi : Int} (h : Wn w f lo hi) (hb : Below w.heap.size w w') : Wn w' f lo hi := let ⟨b1, b2, e, h1, h2⟩ := h; ⟨b1, b2, e, bkeep hb h1, bkeep hb h2⟩
set_option maxRecDepth 100000 in
set_option maxHeartbeats 4000000 in
theorem within_any (lo hi : Int) (w : World) :
    Calls Try.prog 51 #[.int .i64 lo, .int .i64 hi] w fun e w' => ∃ b1 b2, e = .returned (.func (.func 84) #[] #[.pointer (some ⟨b1, 0, none⟩), .pointer (some ⟨b2, 0, none⟩)]) ∧ w'.cell? ⟨b1, 0, none⟩ = some (.int .i64 lo) ∧ w'.cell? ⟨b2, 0, none⟩ = some (.int .i64 hi) ∧ Below w.heap.size w w' := by
  go_enter Try.func51, Try.ntmps51
  go_wp2_with fail
  go_ret
  exact ⟨w.heap.size, w.heap.size + 1, rfl, by simp, by simp, al2 _ _ _⟩
set_option maxRecDepth 100000 in
set_option maxHeartbeats 4000000 in
theorem within1_any (lo hi n : Int) (b1 b2 : Nat) (w : World) (h1 : w.cell? ⟨b1, 0, none⟩ = some (.int .i64 lo)) (h2 : w.cell? ⟨b2, 0, none⟩ = some (.int .i64 hi)) :
    Calls Try.prog 84 #[.int .i64 n, .pointer (some ⟨b1, 0, none⟩), .pointer (some ⟨b2, 0, none⟩)] w fun e w' => e = .returned (.bool (wb lo hi n)) ∧ w' = w := by
  by_cases h : lo ≤ n
  · by_cases h' : n ≤ hi
    · have hR : Hid (wb lo hi n = true) := hd (wb_iff.2 ⟨h, h'⟩)
      go_enter Try.func84, Try.ntmps84
      go_wp2_with fail
      go_ret
      exact ⟨ret_bool (by rw [hR.out]), rfl⟩
    · have hR : Hid (wb lo hi n = false) := hd (by rw [← Bool.not_eq_true, wb_iff]; omega)
      go_enter Try.func84, Try.ntmps84
      go_wp2_with fail
      go_ret
      exact ⟨ret_bool (by rw [hR.out]), rfl⟩
  · have hR : Hid (wb lo hi n = false) := hd (by rw [← Bool.not_eq_true, wb_iff]; omega)
    go_enter Try.func84, Try.ntmps84
    go_wp2_with fail
    go_ret
    exact ⟨ret_bool (by rw [hR.out]), rfl⟩
set_option maxRecDepth 100000 in
set_option maxHeartbeats 4000000 in
theorem all1_any (lo hi n : Int) (b1 b2 bk : Nat) (w : World) (h1 : w.cell? ⟨b1, 0, none⟩ = some (.int .i64 lo)) (h2 : w.cell? ⟨b2, 0, none⟩ = some (.int .i64 hi)) (hk : w.cell? ⟨bk, 0, none⟩ = some (.func (.func 84) #[] #[.pointer (some ⟨b1, 0, none⟩), .pointer (some ⟨b2, 0, none⟩)])) :
    Calls Try.prog 86 #[.int .i64 n, .pointer (some ⟨bk, 0, none⟩)] w fun e w' => e = .returned (.bool (!wb lo hi n)) ∧ w' = w := by
  have WA := within1_any lo hi n b1 b2 w h1 h2
  clear h1 h2
  generalize wb lo hi n = q at *
  go_enter Try.func86, Try.ntmps86
  go_wp2_with fail
  refine WA.mono ?_
  rintro e wx ⟨rfl, hwx⟩
  obtain rfl := hwx.symm
  go_wp2_with fail
  go_ret
  exact ⟨rfl, rfl⟩
set_option maxRecDepth 100000 in
set_option maxHeartbeats 4000000 in
theorem indexFunc_any (lo hi : Int) (l : List Int) (va : Value) (b1 b2 bk : Nat) (w : World) (ha : IsV w All va l) (h1 : w.cell? ⟨b1, 0, none⟩ = some (.int .i64 lo)) (h2 : w.cell? ⟨b2, 0, none⟩ = some (.int .i64 hi)) (hk : w.cell? ⟨bk, 0, none⟩ = some (.func (.func 84) #[] #[.pointer (some ⟨b1, 0, none⟩), .pointer (some ⟨b2, 0, none⟩)])) :
    Calls Try.prog 110 #[va, .func (.func 86) #[] #[.pointer (some ⟨bk, 0, none⟩)]] w fun e w' => ∃ r : Int, e = .returned (.int .i64 r) ∧ decide (0 ≤ r) = !(l.all (wb lo hi)) ∧ w' = w := by
  have AA := fun n => all1_any lo hi n b1 b2 bk w h1 h2 hk
  obtain ⟨ao, cap, rfl⟩ := ha.slice
  have hl := ha.1
  clear h1 h2 hk
  go_enter Try.func110, Try.ntmps110
  go_wp2_with fail
  go_loopw [8] (fun i wr => ∃ k : Nat, k ≤ l.length ∧ i = .int .i64 k ∧ Hid (∀ j (h : j < l.length), j < k → wb lo hi l[j] = true) ∧ wr = w) (fun i _ => l.length - (intOf i).toNat)
  case atStart => exact ⟨0, Nat.zero_le _, rfl, hd (fun j _ hj => absurd hj (Nat.not_lt_zero _)), rfl⟩
  case round =>
    obtain ⟨k, hk, rfl, hall, rfl⟩ := hrel
    by_cases hlt : k < l.length
    · obtain ⟨b, o, rfl, c0⟩ := ha.at_ hlt
      have AK := AA l[k]
      have HY : Hid (wb lo hi l[k] = true → ∀ j (h : j < l.length), j < k + 1 → wb lo hi l[j] = true) := hd (fun e j h hj => by
        by_cases ej : j = k
        · subst ej; exact e
        · exact hall.out j h (by omega))
      have HN : Hid (wb lo hi l[k] = false → l.all (wb lo hi) = false) := hd (fun e => by
        rw [List.all_eq_false]
        exact ⟨_, List.getElem_mem hlt, by simpa using e⟩)
      clear AA
      generalize wb lo hi l[k] = q at *
      generalize l[k] = x at *
      cases q with
      | true =>
        go_wp2_with fail
        refine AK.mono ?_
        rintro e wx ⟨rfl, hwx⟩
        obtain rfl := hwx.symm
        go_wp2_with fail
        go_roundw
        case rel => exact ⟨k + 1, by omega, by go_num, hd (HY.out trivial), trivial⟩
        case measure => simp [intOf]; omega
      | false =>
        go_wp2_with fail
        refine AK.mono ?_
        rintro e wx ⟨rfl, hwx⟩
        obtain rfl := hwx.symm
        go_wp2_with fail
        go_ret
        exact ⟨(k : Int), rfl, by rw [HN.out trivial]; simp, rfl⟩
    · have hR : Hid (l.all (wb lo hi) = true) := hd (by
        rw [List.all_eq_true]
        intro x hx
        obtain ⟨j, hj, rfl⟩ := List.mem_iff_getElem.1 hx
        exact hall.out j hj (by omega))
      go_wp2_with fail
      go_ret
      exact ⟨-1, rfl, by rw [hR.out]; rfl, rfl⟩
set_option maxRecDepth 100000 in
set_option maxHeartbeats 4000000 in
theorem containsFunc_any (lo hi : Int) (l : List Int) (va : Value) (b1 b2 bk : Nat) (w : World) (ha : IsV w All va l) (h1 : w.cell? ⟨b1, 0, none⟩ = some (.int .i64 lo)) (h2 : w.cell? ⟨b2, 0, none⟩ = some (.int .i64 hi)) (hk : w.cell? ⟨bk, 0, none⟩ = some (.func (.func 84) #[] #[.pointer (some ⟨b1, 0, none⟩), .pointer (some ⟨b2, 0, none⟩)])) :
    Calls Try.prog 85 #[va, .func (.func 86) #[] #[.pointer (some ⟨bk, 0, none⟩)]] w fun e w' => e = .returned (.bool (!(l.all (wb lo hi)))) ∧ w' = w := by
  have IA := indexFunc_any lo hi l va b1 b2 bk w ha h1 h2 hk
  obtain ⟨ao, cap, rfl⟩ := ha.slice
  clear h1 h2 hk ha
  generalize (!(l.all (wb lo hi))) = q at *
  go_enter Try.func85, Try.ntmps85
  go_wp2_with fail
  refine IA.mono ?_
  rintro e wx ⟨r, rfl, hr, hwx⟩
  obtain rfl := hwx.symm
  have HR := hd hr
  clear hr
  go_wp2_with fail
  go_ret
  exact ⟨ret_bool HR.out, rfl⟩
set_option maxRecDepth 100000 in
set_option maxHeartbeats 4000000 in
theorem all_any (lo hi : Int) (l : List Int) (va f : Value) (w : World) (ha : IsV w All va l) (hf : Wn w f lo hi) :
    Calls Try.prog 52 #[va, f] w fun e w' => e = .returned (.bool (l.all (wb lo hi))) ∧ Below w.heap.size w w' := by
  obtain ⟨b1, b2, rfl, h1, h2⟩ := hf
  obtain ⟨W, hW⟩ : ∃ W, W = w.alloc (.cells #[.func (.func 84) #[] #[.pointer (some ⟨b1, 0, none⟩), .pointer (some ⟨b2, 0, none⟩)]] 82) := ⟨_, rfl⟩
  have hWb : Below w.heap.size w W := by rw [hW]; exact al1 _ _
  have CA := containsFunc_any lo hi l va b1 b2 w.heap.size W (ha.lw hWb) (bkeep hWb h1) (bkeep hWb h2) (by rw [hW]; simp)
  obtain ⟨ao, cap, rfl⟩ := ha.slice
  clear h1 h2 ha
  generalize l.all (wb lo hi) = q at *
  go_enter Try.func52, Try.ntmps52
  go_wp2_with fail
  rw [← hW]
  refine CA.mono ?_
  rintro e wx ⟨rfl, hwx⟩
  obtain rfl := hwx.symm
  go_wp2_with fail
  go_ret
  exact ⟨ret_bool (by simp), al1 _ _⟩
end Go.Proofs.Ytghplmldnkcpnac.G
