/- Asking what a star and a plus say. -/
import Derived.Test.YtghplmldnkcpnacL20
namespace Go.Proofs.Ytghplmldnkcpnac
open Go.RowKit G
theorem no_more {A B : Nat → Prop} {i j k L L1 : Nat} (hL : L1 ≤ L) (h : L ≠ 0 → ∀ m, i < m → m < i + k → ¬ (A m ∧ (m = j ∨ B m))) (h1 : L1 ≠ 0 → ¬ (A (i + k) ∧ (i + k = j ∨ B (i + k)))) : L1 ≠ 0 → ∀ m, i < m → m < i + (k + 1) → ¬ (A m ∧ (m = j ∨ B m)) := fun h0 m h2 h3 => by
  by_cases e : m = i + k
  · subst e; exact h1 h0
  · exact h (by omega) m h2 (by omega)
set_option maxRecDepth 100000 in
set_option maxHeartbeats 16000000 in
theorem says6 (ds : List Df) (X : List ByteArray) (ra : Nat) (v0 : Value) (l d i j : Nat) (IH : SaysH ds X ra v0 l) (x : Xp) (vx vt : Value) (w : World) (hx : XcV w (Oth ra) vx x) (hg : x.gd) (ht : TxV w (Oth ra) vt X i j) (hs : AsS w ra v0 (l + 1)) (hds : DcV w (Oth ra) v0 ds) (_h60 : ds.length ≤ 60) (_hgd : ∀ e ∈ ds, e.e.gd) (hl6 : l + 1 ≤ 1000000) (hd6 : d + 1 ≤ 1000000) (h1 : x.op = 6):
    Calls Try.prog 32 #[.pointer (some ⟨ra, 0, none⟩), vx, vt, .int .i64 ((d : Int) + 1)] w (OutS w ra v0 (l + 1) (SaD (nms ds) X (ds.map Df.e) (d + 1) x i j)) := by
  have hk0 := hg.1 (by omega)
  have H1 := hd h1
  clear h1
  obtain ⟨u, rfl, hu⟩ := hx
  obtain ⟨ak, ck, rfl, hck⟩ := hu.slice
  obtain ⟨av, ct, rfl, hct⟩ := ht.slice
  have hul := hu.1
  have hij := ht.1
  have hjX := ht.2.1
  have hX6 := ht.2.2.1
  obtain ⟨hdl, ad, cd, rfl, hdin⟩ := id hds
  obtain ⟨W0, hW0⟩ : ∃ W0, W0 = (w.alloc (.cells #[.int .i64 x.op, .string x.nm, .slice ak x.kids.len ck] 64)).alloc (.cells #[.slice ad ds.length cd] 42) := ⟨_, rfl⟩
  have kW0 : Below w.heap.size w W0 := by rw [hW0]; exact G.al2 _ _ _
  have hra : ra < w.heap.size := G.lt_of_cell hs.c0
  have s0 := hs.lw kW0
  obtain ⟨V, hV⟩ : ∃ V, V = w.setCell ⟨ra, 1, none⟩ (.int .i64 (l : Int)) := ⟨_, rfl⟩
  have zV : V.heap.size = w.heap.size := by rw [hV]; simp
  obtain ⟨W, hW⟩ : ∃ W, W = (V.alloc (.cells #[.int .i64 x.op, .string x.nm, .slice ak x.kids.len ck] 64)).alloc (.cells #[.slice ad ds.length cd] 42) := ⟨_, rfl⟩
  have kVW : Below V.heap.size V W := by rw [hW]; exact G.al2 _ _ _
  have sW : AsS W ra (.slice ad ds.length cd) l := AsS.lw (by rw [hV]; exact hs.set l) kVW
  have bW : But ra w W := But.trans (by rw [hV]; exact (But.refl ra w).setCell (p := ⟨ra, 1, none⟩) (.inl rfl) _) (But.of_below kVW)
  have x0 : W.cell? ⟨w.heap.size, 0, none⟩ = some (.int .i64 x.op) := by rw [hW, ← zV]; simp
  have x1 : W.cell? ⟨w.heap.size, 1, none⟩ = some (.string x.nm) := by rw [hW, ← zV]; simp
  have x2 : W.cell? ⟨w.heap.size, 2, none⟩ = some (.slice ak x.kids.len ck) := by rw [hW, ← zV]; simp
  have t0 : W.cell? ⟨w.heap.size + 1, 0, none⟩ = some (.slice ad ds.length cd) := by rw [hW, ← zV]; simp
  have zW : W.heap.size = w.heap.size + 2 := by rw [hW, ← zV]; simp
  have uW := hu.kp bW.kp (fun _ _ h => h)
  have tW := ht.kp bW.kp (fun _ _ h => h)
  have dW := hds.kp bW.kp (fun _ _ h => h)
  have q0 := G.alcell hs.c0 (.cells #[.int .i64 x.op, .string x.nm, .slice ak x.kids.len ck] 64)
  have q1 : ((w.alloc (.cells #[.int .i64 x.op, .string x.nm, .slice ak x.kids.len ck] 64)).alloc (.cells #[.slice ad ds.length cd] 42)).cell? ⟨ra, 1, none⟩ = some (.int .i64 ((l : Int) + 1)) := by rw [← hW0]; simpa using s0.c1
  have qf : ((w.alloc (.cells #[.int .i64 x.op, .string x.nm, .slice ak x.kids.len ck] 64)).alloc (.cells #[.slice ad ds.length cd] 42)).frozen? ⟨ra, 1, none⟩ = false := by rw [← hW0]; exact s0.fz
  have hl1 : ((l : Int) + 1 == 0) = false := by simp; omega
  have hd1 : ((d : Int) + 1 == 0) = false := by simp; omega
  clear hu ht kW0 s0
  generalize hN : nms ds = N at *
  go_enter Try.func32, Try.ntmps32
  go_upto_region 5 with fail
  rw [← hV, ← hW]
  clear hW0 hV hW q0 q1 qf zV kVW
  have h1 := H1.out
  have hb1 : (x.op == 1) = false := by simp; omega
  have hb2 : (x.op == 2) = false := by simp; omega
  have hb4 : (x.op == 4) = false := by simp; omega
  have hb5 : (x.op == 5) = false := by simp; omega
  have hb6 : (x.op == 6) = true := by simpa using h1
  clear h1
  obtain ⟨b, o, rfl, hob, c0, c1, aq, cq, c2, hq⟩ := uW.at_ (k := 0) (by omega)
  simp only [Nat.zero_mul, Nat.add_zero] at c0 c1 c2
  have hn0 : (0 : Int) < (x.kids.len : Int) := by omega
  have hn1 : 0 < x.kids.len := by omega
  have hgk := hg.2.at_ (i := 0) (by omega)
  have hwr : w.heap.size ≠ ra := by omega
  by_cases h2 : j - i = 0
  · have h2b : (((j - i : Nat) : Int) == 0) = true := by rw [h2]; rfl
    have hji : j = i := by omega
    have HP2 : Hid (SaD N X (ds.map Df.e) (d + 1) x i j) := hd (by rw [hji]; exact SaD_nothing H1.out)
    have HH := hd h2
    clear h2 hji
    go_wp2_with fail
    go_ret
    exact ⟨true, l, rfl, by omega, sW, bW, fun _ => by simpa using HP2.out⟩
  have h2b : (((j - i : Nat) : Int) == 0) = false := by simp; omega
  have HP := hd (SaD_star (N := N) (X := X) (E := ds.map Df.e) (d := d) (x := x) (i := i) (j := j) (.inl H1.out) hk0 (by omega))
  obtain ⟨_, _, _, av', ct', e', _, _, h6⟩ := id tW
  simp at e'
  obtain ⟨rfl, rfl⟩ := e'
  rcases h6 with h6 | ⟨bv, ov, rfl, _, _⟩
  · omega
  have HJ := hd h2
  clear h2
  go_wp2_with fail
  go_loopw [12] (fun q wr => ∃ k Lk : Nat, 1 ≤ k ∧ k ≤ (j - i) + 1 ∧ q = .int .i64 k ∧ Lk ≤ l ∧ AsS wr ra (.slice ad ds.length cd) Lk ∧ But ra W wr ∧ Hid (Lk ≠ 0 → ∀ m, i < m → m < i + k → ¬ (SaD N X (ds.map Df.e) (d + 1) (x.kids.at_ 0) i m ∧ (m = j ∨ SaD N X (ds.map Df.e) (d + 1) (stX x) m j)))) (fun q _ => (j - i) + 1 - (intOf q).toNat)
  case atStart => exact ⟨1, l, by omega, by omega, rfl, Nat.le_refl _, sW, But.refl _ _, hd (fun _ m h1 h2 => by omega)⟩
  case round =>
    obtain ⟨k, Lk, hk1, hk, rfl, hLk, sk, bk, hS⟩ := hrel
    by_cases hle : k ≤ j - i
    · have hle2 : (k : Int) ≤ ((j - i : Nat) : Int) := by omega
      have hkc : (k : Int) ≤ (ct : Int) := by omega
      have dwD := G.drw1 wr
      have sD := sk.lw dwD
      have bD : But ra W wr.drew := bk.trans (But.of_below dwD)
      have hs0 : World.cell? wr.drew ⟨w.heap.size, 2, none⟩ = some (.slice (some ⟨b, o, none⟩) x.kids.len ck) ∧ World.cell? wr.drew ⟨b, o, none⟩ = some (.int .i64 (x.kids.at_ 0).op) ∧ World.cell? wr.drew ⟨b, o + 1, none⟩ = some (.string (x.kids.at_ 0).nm) ∧ World.cell? wr.drew ⟨b, o + 2, none⟩ = some (.slice aq (x.kids.at_ 0).kids.len cq) := ⟨but_cell bD hwr x2, but_cell bD hob c0, but_cell bD hob c1, but_cell bD hob c2⟩
      have IHL := IH Lk hLk
      go_wp2_with fail
      refine wp_region_noPanic ?_
      refine wp_region_held_drew (S := fun w' => World.cell? w' ⟨w.heap.size, 2, none⟩ = some (.slice (some ⟨b, o, none⟩) x.kids.len ck) ∧ World.cell? w' ⟨b, o, none⟩ = some (.int .i64 (x.kids.at_ 0).op) ∧ World.cell? w' ⟨b, o + 1, none⟩ = some (.string (x.kids.at_ 0).nm) ∧ World.cell? w' ⟨b, o + 2, none⟩ = some (.slice aq (x.kids.at_ 0).kids.len cq)) (by kernel_rfl) hs0 ?_
      intro hSw
      obtain ⟨y0, hy0⟩ : ∃ y0, y0 = wr.drew := ⟨_, rfl⟩
      rw [← hy0] at hSw sD bD ⊢
      clear hy0
      refine wpAnyH_take (i := 0) (v := ?v5) rfl (by kernel_rfl) (by kernel_rfl) (by kernel_rfl) (fun _ _ _ h => np_panic h) (Or.inl ⟨by rfl, ?hy5⟩) (by assumption) ?_
      case hy5 => (intro w' hS'; (try dsimp only at hS'); go_simp; try with_reducible rfl)
      simp only [Act.put, List.setIfInBounds_toArray, List.set_cons_zero, List.set_cons_succ, List.getElem_toArray, List.getElem_cons_zero]
      refine wpAnyH_take (i := 1) (v := ?v6) rfl (by kernel_rfl) (by kernel_rfl) (by kernel_rfl) (fun _ _ _ h => np_panic h) (Or.inl ⟨by rfl, ?hy6⟩) (by assumption) ?_
      case hy6 => (intro w' hS'; (try dsimp only at hS'); go_simp; try with_reducible rfl)
      simp only [Act.put, List.setIfInBounds_toArray, List.set_cons_zero, List.set_cons_succ, List.getElem_toArray, List.getElem_cons_succ, List.getElem_cons_zero]
      refine wpAnyH_take (i := 2) (v := ?v7) rfl (by kernel_rfl) (by kernel_rfl) (by kernel_rfl) (fun _ _ _ h => np_panic h) (Or.inl ⟨by rfl, ?hy7⟩) (by assumption) ?_
      case hy7 => (intro w' hS'; (try dsimp only at hS'); go_simp; try with_reducible rfl)
      simp only [Act.put, List.setIfInBounds_toArray, List.set_cons_zero, List.set_cons_succ, List.getElem_toArray, List.getElem_cons_succ, List.getElem_cons_zero]
      refine wpAnyH_take (i := 3) (v := ?v8) rfl (by kernel_rfl) (by kernel_rfl) (by kernel_rfl) (fun _ _ _ h => np_panic h) (Or.inl ⟨by rfl, ?hy8⟩) (by assumption) ?_
      case hy8 => (intro w' hS'; (try dsimp only at hS'); go_simp; try with_reducible rfl)
      simp only [Act.put, List.setIfInBounds_toArray, List.set_cons_zero, List.set_cons_succ, List.getElem_toArray, List.getElem_cons_succ, List.getElem_cons_zero]
      refine wpAnyH_take (i := 4) (v := ?v9) rfl (by kernel_rfl) (by kernel_rfl) (by kernel_rfl) (fun _ _ _ h => np_panic h) (Or.inl ⟨by rfl, ?hy9⟩) (by assumption) ?_
      case hy9 => (intro w' hS'; (try dsimp only at hS'); go_simp; try with_reducible rfl)
      simp only [Act.put, List.setIfInBounds_toArray, List.set_cons_zero, List.set_cons_succ, List.getElem_toArray, List.getElem_cons_succ, List.getElem_cons_zero]
      refine wpAnyH_take (i := 5) (v := ?v10) rfl (by kernel_rfl) (by kernel_rfl) (by kernel_rfl) (fun _ _ _ h => np_panic h) (Or.inl ⟨by rfl, ?hy10⟩) (by assumption) ?_
      case hy10 => (intro w' hS'; (try dsimp only at hS'); go_simp; try with_reducible rfl)
      simp only [Act.put, List.setIfInBounds_toArray, List.set_cons_zero, List.set_cons_succ, List.getElem_toArray, List.getElem_cons_succ, List.getElem_cons_zero]
      refine wpAnyH_take (i := 6) (v := ?v11) rfl (by kernel_rfl) (by kernel_rfl) (by kernel_rfl) (fun _ _ _ h => np_panic h) (Or.inl ⟨by rfl, ?hy11⟩) (by assumption) ?_
      case hy11 => (intro w' hS'; (try dsimp only at hS'); go_simp; try with_reducible rfl)
      simp only [Act.put, List.setIfInBounds_toArray, List.set_cons_zero, List.set_cons_succ, List.getElem_toArray, List.getElem_cons_succ, List.getElem_cons_zero]
      refine wpAnyH_take (i := 7) (v := ?v12) rfl (by kernel_rfl) (by kernel_rfl) (by kernel_rfl) (fun _ _ _ h => np_panic h) (Or.inl ⟨by rfl, ?hy12⟩) (by assumption) ?_
      case hy12 => (intro w' hS'; (try dsimp only at hS'); go_simp; try with_reducible rfl)
      simp only [Act.put, List.setIfInBounds_toArray, List.set_cons_zero, List.set_cons_succ, List.getElem_toArray, List.getElem_cons_succ, List.getElem_cons_zero]
      refine wpAnyH_take (i := 8) (v := ?v13) rfl (by kernel_rfl) (by kernel_rfl) (by kernel_rfl) (fun _ _ _ h => np_panic h) (Or.inl ⟨by rfl, ?hy13⟩) (by assumption) ?_
      case hy13 => (intro w' hS'; (try dsimp only at hS'); go_simp; try with_reducible rfl)
      simp only [Act.put, List.setIfInBounds_toArray, List.set_cons_zero, List.set_cons_succ, List.getElem_toArray, List.getElem_cons_succ, List.getElem_cons_zero]
      refine wpAnyH_ready (rs := [9]) (by kernel_rfl) (by simp) ?_
      refine AllReadyH.cons rfl (fun K hK => ?_) AllReadyH.nil
      go_simp
      have tY := (tW.kp bD.kp (fun _ _ h => h)).take (k := k) (by omega)
      have IA := IHL (x.kids.at_ 0) (d + 1) i (i + k) _ _ y0 ⟨_, rfl, hq.kp bD.kp (fun _ _ h => h)⟩ hgk tY sD (dW.kp bD.kp (fun _ _ h => h)) hd6
      rw [hN] at IA
      refine IA.mono ?_
      rintro e y1 ⟨r1, L1, rfl, hL1, s1, b1, h1⟩
      have HR := hd h1
      clear h1 IA
      have bE : But ra W y1 := bD.trans b1
      have sY : World.cell? y1 ⟨w.heap.size, 2, none⟩ = some (.slice (some ⟨b, o, none⟩) x.kids.len ck) ∧ World.cell? y1 ⟨b, o, none⟩ = some (.int .i64 (x.kids.at_ 0).op) ∧ World.cell? y1 ⟨b, o + 1, none⟩ = some (.string (x.kids.at_ 0).nm) ∧ World.cell? y1 ⟨b, o + 2, none⟩ = some (.slice aq (x.kids.at_ 0).kids.len cq) := ⟨but_cell bE hwr x2, but_cell bE hob c0, but_cell bE hob c1, but_cell bE hob c2⟩
      cases r1 with
      | false =>
        refine hK.out _ _ sY ?_
        clear hK K
        intro hSw
        try simp only [Act.put, List.setIfInBounds_toArray, List.set_cons_zero, List.set_cons_succ]
        refine wpAnyH_take (i := 10) (v := ?v14) rfl (by kernel_rfl) (by kernel_rfl) (by kernel_rfl) (fun _ _ _ h => np_panic h) (Or.inl ⟨by rfl, ?hy14⟩) (by assumption) ?_
        case hy14 => (intro w' hS'; (try dsimp only at hS'); go_simp; try with_reducible rfl)
        simp only [Act.put, List.setIfInBounds_toArray, List.set_cons_zero, List.set_cons_succ, List.getElem_toArray, List.getElem_cons_succ, List.getElem_cons_zero]
        refine wpAnyH_take (i := 11) (v := undef) rfl (by kernel_rfl) (by kernel_rfl) (by kernel_rfl) (fun _ _ _ h => np_panic h) (Or.inr ⟨by rfl, rfl⟩) (by assumption) ?_
        simp only [Act.put, List.setIfInBounds_toArray, List.set_cons_zero, List.set_cons_succ, List.getElem_toArray, List.getElem_cons_succ, List.getElem_cons_zero]
        refine wpAnyH_take (i := 12) (v := undef) rfl (by kernel_rfl) (by kernel_rfl) (by kernel_rfl) (fun _ _ _ h => np_panic h) (Or.inr ⟨by rfl, rfl⟩) (by assumption) ?_
        simp only [Act.put, List.setIfInBounds_toArray, List.set_cons_zero, List.set_cons_succ, List.getElem_toArray, List.getElem_cons_succ, List.getElem_cons_zero]
        refine wpAnyH_take (i := 13) (v := undef) rfl (by kernel_rfl) (by kernel_rfl) (by kernel_rfl) (fun _ _ _ h => np_panic h) (Or.inr ⟨by rfl, rfl⟩) (by assumption) ?_
        simp only [Act.put, List.setIfInBounds_toArray, List.set_cons_zero, List.set_cons_succ, List.getElem_toArray, List.getElem_cons_succ, List.getElem_cons_zero]
        refine wpAnyH_take (i := 14) (v := undef) rfl (by kernel_rfl) (by kernel_rfl) (by kernel_rfl) (fun _ _ _ h => np_panic h) (Or.inr ⟨by rfl, rfl⟩) (by assumption) ?_
        simp only [Act.put, List.setIfInBounds_toArray, List.set_cons_zero, List.set_cons_succ, List.getElem_toArray, List.getElem_cons_succ, List.getElem_cons_zero]
        refine wpAnyH_take (i := 15) (v := undef) rfl (by kernel_rfl) (by kernel_rfl) (by kernel_rfl) (fun _ _ _ h => np_panic h) (Or.inr ⟨by rfl, rfl⟩) (by assumption) ?_
        simp only [Act.put, List.setIfInBounds_toArray, List.set_cons_zero, List.set_cons_succ, List.getElem_toArray, List.getElem_cons_succ, List.getElem_cons_zero]
        refine wpAnyH_take (i := 16) (v := undef) rfl (by kernel_rfl) (by kernel_rfl) (by kernel_rfl) (fun _ _ _ h => np_panic h) (Or.inr ⟨by rfl, rfl⟩) (by assumption) ?_
        simp only [Act.put, List.setIfInBounds_toArray, List.set_cons_zero, List.set_cons_succ, List.getElem_toArray, List.getElem_cons_succ, List.getElem_cons_zero]
        refine wpAnyH_take (i := 17) (v := undef) rfl (by kernel_rfl) (by kernel_rfl) (by kernel_rfl) (fun _ _ _ h => np_panic h) (Or.inr ⟨by rfl, rfl⟩) (by assumption) ?_
        simp only [Act.put, List.setIfInBounds_toArray, List.set_cons_zero, List.set_cons_succ, List.getElem_toArray, List.getElem_cons_succ, List.getElem_cons_zero]
        refine wpAnyH_take (i := 18) (v := undef) rfl (by kernel_rfl) (by kernel_rfl) (by kernel_rfl) (fun _ _ _ h => np_panic h) (Or.inr ⟨by rfl, rfl⟩) (by assumption) ?_
        simp only [Act.put, List.setIfInBounds_toArray, List.set_cons_zero, List.set_cons_succ, List.getElem_toArray, List.getElem_cons_succ, List.getElem_cons_zero]
        refine wpAnyH_take (i := 19) (v := undef) rfl (by kernel_rfl) (by kernel_rfl) (by kernel_rfl) (fun _ _ _ h => np_panic h) (Or.inr ⟨by rfl, rfl⟩) (by assumption) ?_
        simp only [Act.put, List.setIfInBounds_toArray, List.set_cons_zero, List.set_cons_succ, List.getElem_toArray, List.getElem_cons_succ, List.getElem_cons_zero]
        refine wpAnyH_take (i := 20) (v := undef) rfl (by kernel_rfl) (by kernel_rfl) (by kernel_rfl) (fun _ _ _ h => np_panic h) (Or.inr ⟨by rfl, rfl⟩) (by assumption) ?_
        simp only [Act.put, List.setIfInBounds_toArray, List.set_cons_zero, List.set_cons_succ, List.getElem_toArray, List.getElem_cons_succ, List.getElem_cons_zero]
        refine wpAnyH_take (i := 21) (v := undef) rfl (by kernel_rfl) (by kernel_rfl) (by kernel_rfl) (fun _ _ _ h => np_panic h) (Or.inr ⟨by rfl, rfl⟩) (by assumption) ?_
        simp only [Act.put, List.setIfInBounds_toArray, List.set_cons_zero, List.set_cons_succ, List.getElem_toArray, List.getElem_cons_succ, List.getElem_cons_zero]
        refine wpAnyH_take (i := 22) (v := undef) rfl (by kernel_rfl) (by kernel_rfl) (by kernel_rfl) (fun _ _ _ h => np_panic h) (Or.inr ⟨by rfl, rfl⟩) (by assumption) ?_
        simp only [Act.put, List.setIfInBounds_toArray, List.set_cons_zero, List.set_cons_succ, List.getElem_toArray, List.getElem_cons_succ, List.getElem_cons_zero]
        refine wpAnyH_take (i := 23) (v := undef) rfl (by kernel_rfl) (by kernel_rfl) (by kernel_rfl) (fun _ _ _ h => np_panic h) (Or.inr ⟨by rfl, rfl⟩) (by assumption) ?_
        simp only [Act.put, List.setIfInBounds_toArray, List.set_cons_zero, List.set_cons_succ, List.getElem_toArray, List.getElem_cons_succ, List.getElem_cons_zero]
        refine wpAnyH_take (i := 24) (v := undef) rfl (by kernel_rfl) (by kernel_rfl) (by kernel_rfl) (fun _ _ _ h => np_panic h) (Or.inr ⟨by rfl, rfl⟩) (by assumption) ?_
        simp only [Act.put, List.setIfInBounds_toArray, List.set_cons_zero, List.set_cons_succ, List.getElem_toArray, List.getElem_cons_succ, List.getElem_cons_zero]
        refine wpAnyH_take (i := 25) (v := undef) rfl (by kernel_rfl) (by kernel_rfl) (by kernel_rfl) (fun _ _ _ h => np_panic h) (Or.inr ⟨by rfl, rfl⟩) (by assumption) ?_
        simp only [Act.put, List.setIfInBounds_toArray, List.set_cons_zero, List.set_cons_succ, List.getElem_toArray, List.getElem_cons_succ, List.getElem_cons_zero]
        refine wpAnyH_take (i := 26) (v := ?v15) rfl (by kernel_rfl) (by kernel_rfl) (by kernel_rfl) (fun _ _ _ h => np_panic h) (Or.inl ⟨by rfl, ?hy15⟩) (by assumption) ?_
        case hy15 => (intro w' hS'; (try dsimp only at hS'); go_simp; try with_reducible rfl)
        simp only [Act.put, List.setIfInBounds_toArray, List.set_cons_zero, List.set_cons_succ, List.getElem_toArray, List.getElem_cons_succ, List.getElem_cons_zero]
        refine wpAnyH_done (by kernel_rfl) (NoPanic.normal ?_) _
        go_wp2_with fail
        go_roundw
        case rel => exact ⟨k + 1, L1, by omega, by omega, by go_num, by omega, s1, bE, hd (no_more hL1 hS.out (fun h h' => absurd ((HR.out h).2 h'.1) (by simp)))⟩
        case measure => simp [intOf]; omega
      | true =>
        refine hK.out _ _ sY ?_
        clear hK K
        intro hSw
        try simp only [Act.put, List.setIfInBounds_toArray, List.set_cons_zero, List.set_cons_succ]
        refine wpAnyH_take (i := 10) (v := ?v30) rfl (by kernel_rfl) (by kernel_rfl) (by kernel_rfl) (fun _ _ _ h => np_panic h) (Or.inl ⟨by rfl, ?hy30⟩) (by assumption) ?_
        case hy30 => (intro w' hS'; (try dsimp only at hS'); go_simp; try with_reducible rfl)
        simp only [Act.put, List.setIfInBounds_toArray, List.set_cons_zero, List.set_cons_succ, List.getElem_toArray, List.getElem_cons_succ, List.getElem_cons_zero]
        refine wpAnyH_take (i := 11) (v := ?v31) rfl (by kernel_rfl) (by kernel_rfl) (by kernel_rfl) (fun _ _ _ h => np_panic h) (Or.inl ⟨by rfl, ?hy31⟩) (by assumption) ?_
        case hy31 => (intro w' hS'; (try dsimp only at hS'); go_simp; try with_reducible rfl)
        simp only [Act.put, List.setIfInBounds_toArray, List.set_cons_zero, List.set_cons_succ, List.getElem_toArray, List.getElem_cons_succ, List.getElem_cons_zero]
        refine wpAnyH_take (i := 12) (v := ?v32) rfl (by kernel_rfl) (by kernel_rfl) (by kernel_rfl) (fun _ _ _ h => np_panic h) (Or.inl ⟨by rfl, ?hy32⟩) (by assumption) ?_
        case hy32 => (intro w' hS'; (try dsimp only at hS'); go_simp; try with_reducible rfl)
        simp only [Act.put, List.setIfInBounds_toArray, List.set_cons_zero, List.set_cons_succ, List.getElem_toArray, List.getElem_cons_succ, List.getElem_cons_zero]
        refine wpAnyH_take (i := 13) (v := ?v33) rfl (by kernel_rfl) (by kernel_rfl) (by kernel_rfl) (fun _ _ _ h => np_panic h) (Or.inl ⟨by rfl, ?hy33⟩) (by assumption) ?_
        case hy33 => (intro w' hS'; (try dsimp only at hS'); go_simp; try with_reducible rfl)
        simp only [Act.put, List.setIfInBounds_toArray, List.set_cons_zero, List.set_cons_succ, List.getElem_toArray, List.getElem_cons_succ, List.getElem_cons_zero]
        by_cases hkj : k = j - i
        · have hkb : ((k : Int) == ((j - i : Nat) : Int)) = true := by rw [hkj]; simp
          have HJK := hd hkj
          clear hkj
          refine wpAnyH_take (i := 14) (v := ?v34) rfl (by kernel_rfl) (by kernel_rfl) (by kernel_rfl) (fun _ _ _ h => np_panic h) (Or.inl ⟨by rfl, ?hy34⟩) (by assumption) ?_
          case hy34 => (intro w' hS'; (try dsimp only at hS'); go_simp; try with_reducible rfl)
          simp only [Act.put, List.setIfInBounds_toArray, List.set_cons_zero, List.set_cons_succ, List.getElem_toArray, List.getElem_cons_succ, List.getElem_cons_zero]
          refine wpAnyH_take (i := 15) (v := ?v35) rfl (by kernel_rfl) (by kernel_rfl) (by kernel_rfl) (fun _ _ _ h => np_panic h) (Or.inl ⟨by rfl, ?hy35⟩) (by assumption) ?_
          case hy35 => (intro w' hS'; (try dsimp only at hS'); go_simp; try with_reducible rfl)
          simp only [Act.put, List.setIfInBounds_toArray, List.set_cons_zero, List.set_cons_succ, List.getElem_toArray, List.getElem_cons_succ, List.getElem_cons_zero]
          refine wpAnyH_take (i := 16) (v := undef) rfl (by kernel_rfl) (by kernel_rfl) (by kernel_rfl) (fun _ _ _ h => np_panic h) (Or.inr ⟨by rfl, rfl⟩) (by assumption) ?_
          simp only [Act.put, List.setIfInBounds_toArray, List.set_cons_zero, List.set_cons_succ, List.getElem_toArray, List.getElem_cons_succ, List.getElem_cons_zero]
          refine wpAnyH_take (i := 17) (v := undef) rfl (by kernel_rfl) (by kernel_rfl) (by kernel_rfl) (fun _ _ _ h => np_panic h) (Or.inr ⟨by rfl, rfl⟩) (by assumption) ?_
          simp only [Act.put, List.setIfInBounds_toArray, List.set_cons_zero, List.set_cons_succ, List.getElem_toArray, List.getElem_cons_succ, List.getElem_cons_zero]
          refine wpAnyH_take (i := 18) (v := undef) rfl (by kernel_rfl) (by kernel_rfl) (by kernel_rfl) (fun _ _ _ h => np_panic h) (Or.inr ⟨by rfl, rfl⟩) (by assumption) ?_
          simp only [Act.put, List.setIfInBounds_toArray, List.set_cons_zero, List.set_cons_succ, List.getElem_toArray, List.getElem_cons_succ, List.getElem_cons_zero]
          refine wpAnyH_take (i := 19) (v := undef) rfl (by kernel_rfl) (by kernel_rfl) (by kernel_rfl) (fun _ _ _ h => np_panic h) (Or.inr ⟨by rfl, rfl⟩) (by assumption) ?_
          simp only [Act.put, List.setIfInBounds_toArray, List.set_cons_zero, List.set_cons_succ, List.getElem_toArray, List.getElem_cons_succ, List.getElem_cons_zero]
          refine wpAnyH_take (i := 20) (v := undef) rfl (by kernel_rfl) (by kernel_rfl) (by kernel_rfl) (fun _ _ _ h => np_panic h) (Or.inr ⟨by rfl, rfl⟩) (by assumption) ?_
          simp only [Act.put, List.setIfInBounds_toArray, List.set_cons_zero, List.set_cons_succ, List.getElem_toArray, List.getElem_cons_succ, List.getElem_cons_zero]
          refine wpAnyH_take (i := 21) (v := undef) rfl (by kernel_rfl) (by kernel_rfl) (by kernel_rfl) (fun _ _ _ h => np_panic h) (Or.inr ⟨by rfl, rfl⟩) (by assumption) ?_
          simp only [Act.put, List.setIfInBounds_toArray, List.set_cons_zero, List.set_cons_succ, List.getElem_toArray, List.getElem_cons_succ, List.getElem_cons_zero]
          refine wpAnyH_take (i := 22) (v := undef) rfl (by kernel_rfl) (by kernel_rfl) (by kernel_rfl) (fun _ _ _ h => np_panic h) (Or.inr ⟨by rfl, rfl⟩) (by assumption) ?_
          simp only [Act.put, List.setIfInBounds_toArray, List.set_cons_zero, List.set_cons_succ, List.getElem_toArray, List.getElem_cons_succ, List.getElem_cons_zero]
          refine wpAnyH_take (i := 23) (v := undef) rfl (by kernel_rfl) (by kernel_rfl) (by kernel_rfl) (fun _ _ _ h => np_panic h) (Or.inr ⟨by rfl, rfl⟩) (by assumption) ?_
          simp only [Act.put, List.setIfInBounds_toArray, List.set_cons_zero, List.set_cons_succ, List.getElem_toArray, List.getElem_cons_succ, List.getElem_cons_zero]
          refine wpAnyH_take (i := 24) (v := undef) rfl (by kernel_rfl) (by kernel_rfl) (by kernel_rfl) (fun _ _ _ h => np_panic h) (Or.inr ⟨by rfl, rfl⟩) (by assumption) ?_
          simp only [Act.put, List.setIfInBounds_toArray, List.set_cons_zero, List.set_cons_succ, List.getElem_toArray, List.getElem_cons_succ, List.getElem_cons_zero]
          refine wpAnyH_take (i := 25) (v := ?v16) rfl (by kernel_rfl) (by kernel_rfl) (by kernel_rfl) (fun _ _ _ h => np_panic h) (Or.inl ⟨by rfl, ?hy16⟩) (by assumption) ?_
          case hy16 => (intro w' hS'; (try dsimp only at hS'); go_simp; try with_reducible rfl)
          simp only [Act.put, List.setIfInBounds_toArray, List.set_cons_zero, List.set_cons_succ, List.getElem_toArray, List.getElem_cons_succ, List.getElem_cons_zero]
          refine wpAnyH_take (i := 26) (v := ?v17) rfl (by kernel_rfl) (by kernel_rfl) (by kernel_rfl) (fun _ _ _ h => np_panic h) (Or.inl ⟨by rfl, ?hy17⟩) (by assumption) ?_
          case hy17 => (intro w' hS'; (try dsimp only at hS'); go_simp; try with_reducible rfl)
          simp only [Act.put, List.setIfInBounds_toArray, List.set_cons_zero, List.set_cons_succ, List.getElem_toArray, List.getElem_cons_succ, List.getElem_cons_zero]
          refine wpAnyH_done (by kernel_rfl) (NoPanic.normal ?_) _
          go_wp2_with fail
          go_ret
          exact ⟨true, L1, rfl, by omega, s1, bW.trans bE, fun h => ⟨fun _ => HP.out.2 ⟨i + k, by omega, by omega, (HR.out h).1 trivial, .inl (by have := HJK.out; omega)⟩, fun _ => rfl⟩⟩
        · have hkb : ((k : Int) == ((j - i : Nat) : Int)) = false := by simp; omega
          have HJK := hd hkj
          have hkl : k < j - i := by omega
          have hcn : ¬ ct = k := by omega
          clear hkj
          refine wpAnyH_take (i := 14) (v := ?v36) rfl (by kernel_rfl) (by kernel_rfl) (by kernel_rfl) (fun _ _ _ h => np_panic h) (Or.inl ⟨by rfl, ?hy36⟩) (by assumption) ?_
          case hy36 => (intro w' hS'; (try dsimp only at hS'); go_simp; try with_reducible rfl)
          simp only [Act.put, List.setIfInBounds_toArray, List.set_cons_zero, List.set_cons_succ, List.getElem_toArray, List.getElem_cons_succ, List.getElem_cons_zero]
          refine wpAnyH_take (i := 15) (v := ?v37) rfl (by kernel_rfl) (by kernel_rfl) (by kernel_rfl) (fun _ _ _ h => np_panic h) (Or.inl ⟨by rfl, ?hy37⟩) (by assumption) ?_
          case hy37 => (intro w' hS'; (try dsimp only at hS'); go_simp; try with_reducible rfl)
          simp only [Act.put, List.setIfInBounds_toArray, List.set_cons_zero, List.set_cons_succ, List.getElem_toArray, List.getElem_cons_succ, List.getElem_cons_zero]
          refine wpAnyH_take (i := 16) (v := ?v18) rfl (by kernel_rfl) (by kernel_rfl) (by kernel_rfl) (fun _ _ _ h => np_panic h) (Or.inl ⟨by rfl, ?hy18⟩) (by assumption) ?_
          case hy18 => (intro w' hS'; (try dsimp only at hS'); go_simp; try with_reducible rfl)
          simp only [Act.put, List.setIfInBounds_toArray, List.set_cons_zero, List.set_cons_succ, List.getElem_toArray, List.getElem_cons_succ, List.getElem_cons_zero]
          refine wpAnyH_take (i := 17) (v := ?v19) rfl (by kernel_rfl) (by kernel_rfl) (by kernel_rfl) (fun _ _ _ h => np_panic h) (Or.inl ⟨by rfl, ?hy19⟩) (by assumption) ?_
          case hy19 => (intro w' hS'; (try dsimp only at hS'); go_simp; try with_reducible rfl)
          simp only [Act.put, List.setIfInBounds_toArray, List.set_cons_zero, List.set_cons_succ, List.getElem_toArray, List.getElem_cons_succ, List.getElem_cons_zero]
          refine wpAnyH_take (i := 18) (v := ?v20) rfl (by kernel_rfl) (by kernel_rfl) (by kernel_rfl) (fun _ _ _ h => np_panic h) (Or.inl ⟨by rfl, ?hy20⟩) (by assumption) ?_
          case hy20 => (intro w' hS'; (try dsimp only at hS'); go_simp; try with_reducible rfl)
          simp only [Act.put, List.setIfInBounds_toArray, List.set_cons_zero, List.set_cons_succ, List.getElem_toArray, List.getElem_cons_succ, List.getElem_cons_zero]
          refine wpAnyH_take (i := 19) (v := ?v21) rfl (by kernel_rfl) (by kernel_rfl) (by kernel_rfl) (fun _ _ _ h => np_panic h) (Or.inl ⟨by rfl, ?hy21⟩) (by assumption) ?_
          case hy21 => (intro w' hS'; (try dsimp only at hS'); go_simp; try with_reducible rfl)
          simp only [Act.put, List.setIfInBounds_toArray, List.set_cons_zero, List.set_cons_succ, List.getElem_toArray, List.getElem_cons_succ, List.getElem_cons_zero]
          refine wpAnyH_take (i := 20) (v := ?v22) rfl (by kernel_rfl) (by kernel_rfl) (by kernel_rfl) (fun _ _ _ h => np_panic h) (Or.inl ⟨by rfl, ?hy22⟩) (by assumption) ?_
          case hy22 => (intro w' hS'; (try dsimp only at hS'); go_simp; try with_reducible rfl)
          simp only [Act.put, List.setIfInBounds_toArray, List.set_cons_zero, List.set_cons_succ, List.getElem_toArray, List.getElem_cons_succ, List.getElem_cons_zero]
          refine wpAnyH_take (i := 21) (v := ?v23) rfl (by kernel_rfl) (by kernel_rfl) (by kernel_rfl) (fun _ _ _ h => np_panic h) (Or.inl ⟨by rfl, ?hy23⟩) (by assumption) ?_
          case hy23 => (intro w' hS'; (try dsimp only at hS'); go_simp; try with_reducible rfl)
          simp only [Act.put, List.setIfInBounds_toArray, List.set_cons_zero, List.set_cons_succ, List.getElem_toArray, List.getElem_cons_succ, List.getElem_cons_zero]
          refine wpAnyH_take (i := 22) (v := ?v24) rfl (by kernel_rfl) (by kernel_rfl) (by kernel_rfl) (fun _ _ _ h => np_panic h) (Or.inl ⟨by rfl, ?hy24⟩) (by assumption) ?_
          case hy24 => (intro w' hS'; (try dsimp only at hS'); go_simp; try with_reducible rfl)
          simp only [Act.put, List.setIfInBounds_toArray, List.set_cons_zero, List.set_cons_succ, List.getElem_toArray, List.getElem_cons_succ, List.getElem_cons_zero]
          refine wpAnyH_take (i := 23) (v := ?v25) rfl (by kernel_rfl) (by kernel_rfl) (by kernel_rfl) (fun _ _ _ h => np_panic h) (Or.inl ⟨by rfl, ?hy25⟩) (by assumption) ?_
          case hy25 => (intro w' hS'; (try dsimp only at hS'); go_simp; try with_reducible rfl)
          simp only [Act.put, List.setIfInBounds_toArray, List.set_cons_zero, List.set_cons_succ, List.getElem_toArray, List.getElem_cons_succ, List.getElem_cons_zero]
          refine wpAnyH_ready (rs := [24]) (by kernel_rfl) (by simp) ?_
          refine AllReadyH.cons rfl (fun K hK => ?_) AllReadyH.nil
          go_simp
          have tZ := (tW.kp bE.kp (fun _ _ h => h)).drop (k := k) (by omega)
          simp only [sliced, if_neg hcn, Option.map_some, G.addr_add, Nat.mul_one] at tZ
          have IA2 := IH L1 (by omega) (stX x) (d + 1) (i + k) j (.agg #[.int .i64 6, .string ⟨#[]⟩, .slice (some ⟨b, o, none⟩) x.kids.len ck]) _ y1 ⟨_, rfl, uW.kp bE.kp (fun _ _ h => h)⟩ ⟨fun _ => hk0, hg.2⟩ tZ s1 (dW.kp bE.kp (fun _ _ h => h)) hd6
          rw [hN] at IA2
          refine IA2.mono ?_
          rintro e y2 ⟨r2, L2, rfl, hL2, s2, b2, h1⟩
          have HR2 := hd h1
          clear h1 IA2
          have bF : But ra W y2 := bE.trans b2
          have sZ : World.cell? y2 ⟨w.heap.size, 2, none⟩ = some (.slice (some ⟨b, o, none⟩) x.kids.len ck) ∧ World.cell? y2 ⟨b, o, none⟩ = some (.int .i64 (x.kids.at_ 0).op) ∧ World.cell? y2 ⟨b, o + 1, none⟩ = some (.string (x.kids.at_ 0).nm) ∧ World.cell? y2 ⟨b, o + 2, none⟩ = some (.slice aq (x.kids.at_ 0).kids.len cq) := ⟨but_cell bF hwr x2, but_cell bF hob c0, but_cell bF hob c1, but_cell bF hob c2⟩
          cases r2 with
          | true =>
            refine hK.out _ _ sZ ?_
            clear hK K
            intro hSw
            try simp only [Act.put, List.setIfInBounds_toArray, List.set_cons_zero, List.set_cons_succ]
            refine wpAnyH_take (i := 25) (v := ?v26) rfl (by kernel_rfl) (by kernel_rfl) (by kernel_rfl) (fun _ _ _ h => np_panic h) (Or.inl ⟨by rfl, ?hy26⟩) (by assumption) ?_
            case hy26 => (intro w' hS'; (try dsimp only at hS'); go_simp; try with_reducible rfl)
            simp only [Act.put, List.setIfInBounds_toArray, List.set_cons_zero, List.set_cons_succ, List.getElem_toArray, List.getElem_cons_succ, List.getElem_cons_zero]
            refine wpAnyH_take (i := 26) (v := ?v27) rfl (by kernel_rfl) (by kernel_rfl) (by kernel_rfl) (fun _ _ _ h => np_panic h) (Or.inl ⟨by rfl, ?hy27⟩) (by assumption) ?_
            case hy27 => (intro w' hS'; (try dsimp only at hS'); go_simp; try with_reducible rfl)
            simp only [Act.put, List.setIfInBounds_toArray, List.set_cons_zero, List.set_cons_succ, List.getElem_toArray, List.getElem_cons_succ, List.getElem_cons_zero]
            refine wpAnyH_done (by kernel_rfl) (NoPanic.normal ?_) _
            go_wp2_with fail
            go_ret
            exact ⟨true, L2, rfl, by omega, s2, bW.trans bF, fun h => ⟨fun _ => HP.out.2 ⟨i + k, by omega, by omega, (HR.out (by omega)).1 trivial, .inr ((HR2.out h).1 trivial)⟩, fun _ => rfl⟩⟩
          | false =>
            refine hK.out _ _ sZ ?_
            clear hK K
            intro hSw
            try simp only [Act.put, List.setIfInBounds_toArray, List.set_cons_zero, List.set_cons_succ]
            refine wpAnyH_take (i := 25) (v := ?v28) rfl (by kernel_rfl) (by kernel_rfl) (by kernel_rfl) (fun _ _ _ h => np_panic h) (Or.inl ⟨by rfl, ?hy28⟩) (by assumption) ?_
            case hy28 => (intro w' hS'; (try dsimp only at hS'); go_simp; try with_reducible rfl)
            simp only [Act.put, List.setIfInBounds_toArray, List.set_cons_zero, List.set_cons_succ, List.getElem_toArray, List.getElem_cons_succ, List.getElem_cons_zero]
            refine wpAnyH_take (i := 26) (v := ?v29) rfl (by kernel_rfl) (by kernel_rfl) (by kernel_rfl) (fun _ _ _ h => np_panic h) (Or.inl ⟨by rfl, ?hy29⟩) (by assumption) ?_
            case hy29 => (intro w' hS'; (try dsimp only at hS'); go_simp; try with_reducible rfl)
            simp only [Act.put, List.setIfInBounds_toArray, List.set_cons_zero, List.set_cons_succ, List.getElem_toArray, List.getElem_cons_succ, List.getElem_cons_zero]
            refine wpAnyH_done (by kernel_rfl) (NoPanic.normal ?_) _
            go_wp2_with fail
            go_roundw
            case rel => exact ⟨k + 1, L2, by omega, by omega, by go_num, by omega, s2, bF, hd (no_more (by omega) hS.out (fun h h' => h'.2.elim (fun e => by have := HJK.out; omega) (fun e => absurd ((HR2.out h).2 e) (by simp))))⟩
            case measure => simp [intOf]; omega
    · have HE : Hid (Lk ≠ 0 → ¬ SaD N X (ds.map Df.e) (d + 1) x i j) := hd (fun h h' => by
        obtain ⟨m, m1, m2, m3⟩ := HP.out.1 h'
        exact hS.out h m m1 (by omega) m3)
      have hle2 : ¬ (k : Int) ≤ ((j - i : Nat) : Int) := by omega
      go_wp2_with fail
      go_ret
      exact ⟨false, Lk, rfl, by omega, sk, bW.trans bk, fun h => by simpa using HE.out h⟩
set_option maxRecDepth 100000 in
set_option maxHeartbeats 16000000 in
theorem says7 (ds : List Df) (X : List ByteArray) (ra : Nat) (v0 : Value) (l d i j : Nat) (IH : SaysH ds X ra v0 l) (x : Xp) (vx vt : Value) (w : World) (hx : XcV w (Oth ra) vx x) (hg : x.gd) (ht : TxV w (Oth ra) vt X i j) (hs : AsS w ra v0 (l + 1)) (hds : DcV w (Oth ra) v0 ds) (_h60 : ds.length ≤ 60) (_hgd : ∀ e ∈ ds, e.e.gd) (hl6 : l + 1 ≤ 1000000) (hd6 : d + 1 ≤ 1000000) (h1 : x.op = 7):
    Calls Try.prog 32 #[.pointer (some ⟨ra, 0, none⟩), vx, vt, .int .i64 ((d : Int) + 1)] w (OutS w ra v0 (l + 1) (SaD (nms ds) X (ds.map Df.e) (d + 1) x i j)) := by
  have hk0 := hg.1 (by omega)
  have H1 := hd h1
  clear h1
  obtain ⟨u, rfl, hu⟩ := hx
  obtain ⟨ak, ck, rfl, hck⟩ := hu.slice
  obtain ⟨av, ct, rfl, hct⟩ := ht.slice
  have hul := hu.1
  have hij := ht.1
  have hjX := ht.2.1
  have hX6 := ht.2.2.1
  obtain ⟨hdl, ad, cd, rfl, hdin⟩ := id hds
  obtain ⟨W0, hW0⟩ : ∃ W0, W0 = (w.alloc (.cells #[.int .i64 x.op, .string x.nm, .slice ak x.kids.len ck] 64)).alloc (.cells #[.slice ad ds.length cd] 42) := ⟨_, rfl⟩
  have kW0 : Below w.heap.size w W0 := by rw [hW0]; exact G.al2 _ _ _
  have hra : ra < w.heap.size := G.lt_of_cell hs.c0
  have s0 := hs.lw kW0
  obtain ⟨V, hV⟩ : ∃ V, V = w.setCell ⟨ra, 1, none⟩ (.int .i64 (l : Int)) := ⟨_, rfl⟩
  have zV : V.heap.size = w.heap.size := by rw [hV]; simp
  obtain ⟨W, hW⟩ : ∃ W, W = (V.alloc (.cells #[.int .i64 x.op, .string x.nm, .slice ak x.kids.len ck] 64)).alloc (.cells #[.slice ad ds.length cd] 42) := ⟨_, rfl⟩
  have kVW : Below V.heap.size V W := by rw [hW]; exact G.al2 _ _ _
  have sW : AsS W ra (.slice ad ds.length cd) l := AsS.lw (by rw [hV]; exact hs.set l) kVW
  have bW : But ra w W := But.trans (by rw [hV]; exact (But.refl ra w).setCell (p := ⟨ra, 1, none⟩) (.inl rfl) _) (But.of_below kVW)
  have x0 : W.cell? ⟨w.heap.size, 0, none⟩ = some (.int .i64 x.op) := by rw [hW, ← zV]; simp
  have x1 : W.cell? ⟨w.heap.size, 1, none⟩ = some (.string x.nm) := by rw [hW, ← zV]; simp
  have x2 : W.cell? ⟨w.heap.size, 2, none⟩ = some (.slice ak x.kids.len ck) := by rw [hW, ← zV]; simp
  have t0 : W.cell? ⟨w.heap.size + 1, 0, none⟩ = some (.slice ad ds.length cd) := by rw [hW, ← zV]; simp
  have zW : W.heap.size = w.heap.size + 2 := by rw [hW, ← zV]; simp
  have uW := hu.kp bW.kp (fun _ _ h => h)
  have tW := ht.kp bW.kp (fun _ _ h => h)
  have dW := hds.kp bW.kp (fun _ _ h => h)
  have q0 := G.alcell hs.c0 (.cells #[.int .i64 x.op, .string x.nm, .slice ak x.kids.len ck] 64)
  have q1 : ((w.alloc (.cells #[.int .i64 x.op, .string x.nm, .slice ak x.kids.len ck] 64)).alloc (.cells #[.slice ad ds.length cd] 42)).cell? ⟨ra, 1, none⟩ = some (.int .i64 ((l : Int) + 1)) := by rw [← hW0]; simpa using s0.c1
  have qf : ((w.alloc (.cells #[.int .i64 x.op, .string x.nm, .slice ak x.kids.len ck] 64)).alloc (.cells #[.slice ad ds.length cd] 42)).frozen? ⟨ra, 1, none⟩ = false := by rw [← hW0]; exact s0.fz
  have hl1 : ((l : Int) + 1 == 0) = false := by simp; omega
  have hd1 : ((d : Int) + 1 == 0) = false := by simp; omega
  clear hu ht kW0 s0
  generalize hN : nms ds = N at *
  go_enter Try.func32, Try.ntmps32
  go_upto_region 5 with fail
  rw [← hV, ← hW]
  clear hW0 hV hW q0 q1 qf zV kVW
  have h1 := H1.out
  have hb1 : (x.op == 1) = false := by simp; omega
  have hb2 : (x.op == 2) = false := by simp; omega
  have hb4 : (x.op == 4) = false := by simp; omega
  have hb5 : (x.op == 5) = false := by simp; omega
  have hb6 : (x.op == 6) = false := by simp; omega
  have hb7 : (x.op == 7) = true := by simpa using h1
  clear h1
  obtain ⟨b, o, rfl, hob, c0, c1, aq, cq, c2, hq⟩ := uW.at_ (k := 0) (by omega)
  simp only [Nat.zero_mul, Nat.add_zero] at c0 c1 c2
  have hn0 : (0 : Int) < (x.kids.len : Int) := by omega
  have hn1 : 0 < x.kids.len := by omega
  have hgk := hg.2.at_ (i := 0) (by omega)
  have hwr : w.heap.size ≠ ra := by omega
  by_cases h2 : j - i = 0
  · have h2b : (((j - i : Nat) : Int) == 0) = true := by rw [h2]; rfl
    have hji : j = i := by omega
    have HP2 : Hid (SaD N X (ds.map Df.e) (d + 1) x i j ↔ SaD N X (ds.map Df.e) (d + 1) (x.kids.at_ 0) i j) := hd (by rw [hji]; exact SaD_plus H1.out hk0)
    have IA := IH l (Nat.le_refl _) (x.kids.at_ 0) (d + 1) i j _ _ W ⟨_, rfl, hq⟩ hgk tW sW dW hd6
    rw [hN] at IA
    have HH := hd h2
    clear h2 hji
    go_wp2_with fail
    refine IA.mono ?_
    rintro e w1 ⟨r, L1, rfl, hL1, s1, b1, h1⟩
    have HR := hd h1
    clear h1
    go_wp2_with fail
    go_ret
    exact ⟨r, L1, rfl, by omega, s1, bW.trans b1, fun h => (HR.out h).trans HP2.out.symm⟩
  have h2b : (((j - i : Nat) : Int) == 0) = false := by simp; omega
  have HP := hd (SaD_star (N := N) (X := X) (E := ds.map Df.e) (d := d) (x := x) (i := i) (j := j) (.inr H1.out) hk0 (by omega))
  obtain ⟨_, _, _, av', ct', e', _, _, h6⟩ := id tW
  simp at e'
  obtain ⟨rfl, rfl⟩ := e'
  rcases h6 with h6 | ⟨bv, ov, rfl, _, _⟩
  · omega
  have HJ := hd h2
  clear h2
  go_wp2_with fail
  go_loopw [12] (fun q wr => ∃ k Lk : Nat, 1 ≤ k ∧ k ≤ (j - i) + 1 ∧ q = .int .i64 k ∧ Lk ≤ l ∧ AsS wr ra (.slice ad ds.length cd) Lk ∧ But ra W wr ∧ Hid (Lk ≠ 0 → ∀ m, i < m → m < i + k → ¬ (SaD N X (ds.map Df.e) (d + 1) (x.kids.at_ 0) i m ∧ (m = j ∨ SaD N X (ds.map Df.e) (d + 1) (stX x) m j)))) (fun q _ => (j - i) + 1 - (intOf q).toNat)
  case atStart => exact ⟨1, l, by omega, by omega, rfl, Nat.le_refl _, sW, But.refl _ _, hd (fun _ m h1 h2 => by omega)⟩
  case round =>
    obtain ⟨k, Lk, hk1, hk, rfl, hLk, sk, bk, hS⟩ := hrel
    by_cases hle : k ≤ j - i
    · have hle2 : (k : Int) ≤ ((j - i : Nat) : Int) := by omega
      have hkc : (k : Int) ≤ (ct : Int) := by omega
      have dwD := G.drw1 wr
      have sD := sk.lw dwD
      have bD : But ra W wr.drew := bk.trans (But.of_below dwD)
      have hs0 : World.cell? wr.drew ⟨w.heap.size, 2, none⟩ = some (.slice (some ⟨b, o, none⟩) x.kids.len ck) ∧ World.cell? wr.drew ⟨b, o, none⟩ = some (.int .i64 (x.kids.at_ 0).op) ∧ World.cell? wr.drew ⟨b, o + 1, none⟩ = some (.string (x.kids.at_ 0).nm) ∧ World.cell? wr.drew ⟨b, o + 2, none⟩ = some (.slice aq (x.kids.at_ 0).kids.len cq) := ⟨but_cell bD hwr x2, but_cell bD hob c0, but_cell bD hob c1, but_cell bD hob c2⟩
      have IHL := IH Lk hLk
      go_wp2_with fail
      refine wp_region_noPanic ?_
      refine wp_region_held_drew (S := fun w' => World.cell? w' ⟨w.heap.size, 2, none⟩ = some (.slice (some ⟨b, o, none⟩) x.kids.len ck) ∧ World.cell? w' ⟨b, o, none⟩ = some (.int .i64 (x.kids.at_ 0).op) ∧ World.cell? w' ⟨b, o + 1, none⟩ = some (.string (x.kids.at_ 0).nm) ∧ World.cell? w' ⟨b, o + 2, none⟩ = some (.slice aq (x.kids.at_ 0).kids.len cq)) (by kernel_rfl) hs0 ?_
      intro hSw
      obtain ⟨y0, hy0⟩ : ∃ y0, y0 = wr.drew := ⟨_, rfl⟩
      rw [← hy0] at hSw sD bD ⊢
      clear hy0
      refine wpAnyH_take (i := 0) (v := ?v38) rfl (by kernel_rfl) (by kernel_rfl) (by kernel_rfl) (fun _ _ _ h => np_panic h) (Or.inl ⟨by rfl, ?hy38⟩) (by assumption) ?_
      case hy38 => (intro w' hS'; (try dsimp only at hS'); go_simp; try with_reducible rfl)
      simp only [Act.put, List.setIfInBounds_toArray, List.set_cons_zero, List.set_cons_succ, List.getElem_toArray, List.getElem_cons_zero]
      refine wpAnyH_take (i := 1) (v := ?v39) rfl (by kernel_rfl) (by kernel_rfl) (by kernel_rfl) (fun _ _ _ h => np_panic h) (Or.inl ⟨by rfl, ?hy39⟩) (by assumption) ?_
      case hy39 => (intro w' hS'; (try dsimp only at hS'); go_simp; try with_reducible rfl)
      simp only [Act.put, List.setIfInBounds_toArray, List.set_cons_zero, List.set_cons_succ, List.getElem_toArray, List.getElem_cons_succ, List.getElem_cons_zero]
      refine wpAnyH_take (i := 2) (v := ?v40) rfl (by kernel_rfl) (by kernel_rfl) (by kernel_rfl) (fun _ _ _ h => np_panic h) (Or.inl ⟨by rfl, ?hy40⟩) (by assumption) ?_
      case hy40 => (intro w' hS'; (try dsimp only at hS'); go_simp; try with_reducible rfl)
      simp only [Act.put, List.setIfInBounds_toArray, List.set_cons_zero, List.set_cons_succ, List.getElem_toArray, List.getElem_cons_succ, List.getElem_cons_zero]
      refine wpAnyH_take (i := 3) (v := ?v41) rfl (by kernel_rfl) (by kernel_rfl) (by kernel_rfl) (fun _ _ _ h => np_panic h) (Or.inl ⟨by rfl, ?hy41⟩) (by assumption) ?_
      case hy41 => (intro w' hS'; (try dsimp only at hS'); go_simp; try with_reducible rfl)
      simp only [Act.put, List.setIfInBounds_toArray, List.set_cons_zero, List.set_cons_succ, List.getElem_toArray, List.getElem_cons_succ, List.getElem_cons_zero]
      refine wpAnyH_take (i := 4) (v := ?v42) rfl (by kernel_rfl) (by kernel_rfl) (by kernel_rfl) (fun _ _ _ h => np_panic h) (Or.inl ⟨by rfl, ?hy42⟩) (by assumption) ?_
      case hy42 => (intro w' hS'; (try dsimp only at hS'); go_simp; try with_reducible rfl)
      simp only [Act.put, List.setIfInBounds_toArray, List.set_cons_zero, List.set_cons_succ, List.getElem_toArray, List.getElem_cons_succ, List.getElem_cons_zero]
      refine wpAnyH_take (i := 5) (v := ?v43) rfl (by kernel_rfl) (by kernel_rfl) (by kernel_rfl) (fun _ _ _ h => np_panic h) (Or.inl ⟨by rfl, ?hy43⟩) (by assumption) ?_
      case hy43 => (intro w' hS'; (try dsimp only at hS'); go_simp; try with_reducible rfl)
      simp only [Act.put, List.setIfInBounds_toArray, List.set_cons_zero, List.set_cons_succ, List.getElem_toArray, List.getElem_cons_succ, List.getElem_cons_zero]
      refine wpAnyH_take (i := 6) (v := ?v44) rfl (by kernel_rfl) (by kernel_rfl) (by kernel_rfl) (fun _ _ _ h => np_panic h) (Or.inl ⟨by rfl, ?hy44⟩) (by assumption) ?_
      case hy44 => (intro w' hS'; (try dsimp only at hS'); go_simp; try with_reducible rfl)
      simp only [Act.put, List.setIfInBounds_toArray, List.set_cons_zero, List.set_cons_succ, List.getElem_toArray, List.getElem_cons_succ, List.getElem_cons_zero]
      refine wpAnyH_take (i := 7) (v := ?v45) rfl (by kernel_rfl) (by kernel_rfl) (by kernel_rfl) (fun _ _ _ h => np_panic h) (Or.inl ⟨by rfl, ?hy45⟩) (by assumption) ?_
      case hy45 => (intro w' hS'; (try dsimp only at hS'); go_simp; try with_reducible rfl)
      simp only [Act.put, List.setIfInBounds_toArray, List.set_cons_zero, List.set_cons_succ, List.getElem_toArray, List.getElem_cons_succ, List.getElem_cons_zero]
      refine wpAnyH_take (i := 8) (v := ?v46) rfl (by kernel_rfl) (by kernel_rfl) (by kernel_rfl) (fun _ _ _ h => np_panic h) (Or.inl ⟨by rfl, ?hy46⟩) (by assumption) ?_
      case hy46 => (intro w' hS'; (try dsimp only at hS'); go_simp; try with_reducible rfl)
      simp only [Act.put, List.setIfInBounds_toArray, List.set_cons_zero, List.set_cons_succ, List.getElem_toArray, List.getElem_cons_succ, List.getElem_cons_zero]
      refine wpAnyH_ready (rs := [9]) (by kernel_rfl) (by simp) ?_
      refine AllReadyH.cons rfl (fun K hK => ?_) AllReadyH.nil
      go_simp
      have tY := (tW.kp bD.kp (fun _ _ h => h)).take (k := k) (by omega)
      have IA := IHL (x.kids.at_ 0) (d + 1) i (i + k) _ _ y0 ⟨_, rfl, hq.kp bD.kp (fun _ _ h => h)⟩ hgk tY sD (dW.kp bD.kp (fun _ _ h => h)) hd6
      rw [hN] at IA
      refine IA.mono ?_
      rintro e y1 ⟨r1, L1, rfl, hL1, s1, b1, h1⟩
      have HR := hd h1
      clear h1 IA
      have bE : But ra W y1 := bD.trans b1
      have sY : World.cell? y1 ⟨w.heap.size, 2, none⟩ = some (.slice (some ⟨b, o, none⟩) x.kids.len ck) ∧ World.cell? y1 ⟨b, o, none⟩ = some (.int .i64 (x.kids.at_ 0).op) ∧ World.cell? y1 ⟨b, o + 1, none⟩ = some (.string (x.kids.at_ 0).nm) ∧ World.cell? y1 ⟨b, o + 2, none⟩ = some (.slice aq (x.kids.at_ 0).kids.len cq) := ⟨but_cell bE hwr x2, but_cell bE hob c0, but_cell bE hob c1, but_cell bE hob c2⟩
      cases r1 with
      | false =>
        refine hK.out _ _ sY ?_
        clear hK K
        intro hSw
        try simp only [Act.put, List.setIfInBounds_toArray, List.set_cons_zero, List.set_cons_succ]
        refine wpAnyH_take (i := 10) (v := ?v47) rfl (by kernel_rfl) (by kernel_rfl) (by kernel_rfl) (fun _ _ _ h => np_panic h) (Or.inl ⟨by rfl, ?hy47⟩) (by assumption) ?_
        case hy47 => (intro w' hS'; (try dsimp only at hS'); go_simp; try with_reducible rfl)
        simp only [Act.put, List.setIfInBounds_toArray, List.set_cons_zero, List.set_cons_succ, List.getElem_toArray, List.getElem_cons_succ, List.getElem_cons_zero]
        refine wpAnyH_take (i := 11) (v := undef) rfl (by kernel_rfl) (by kernel_rfl) (by kernel_rfl) (fun _ _ _ h => np_panic h) (Or.inr ⟨by rfl, rfl⟩) (by assumption) ?_
        simp only [Act.put, List.setIfInBounds_toArray, List.set_cons_zero, List.set_cons_succ, List.getElem_toArray, List.getElem_cons_succ, List.getElem_cons_zero]
        refine wpAnyH_take (i := 12) (v := undef) rfl (by kernel_rfl) (by kernel_rfl) (by kernel_rfl) (fun _ _ _ h => np_panic h) (Or.inr ⟨by rfl, rfl⟩) (by assumption) ?_
        simp only [Act.put, List.setIfInBounds_toArray, List.set_cons_zero, List.set_cons_succ, List.getElem_toArray, List.getElem_cons_succ, List.getElem_cons_zero]
        refine wpAnyH_take (i := 13) (v := undef) rfl (by kernel_rfl) (by kernel_rfl) (by kernel_rfl) (fun _ _ _ h => np_panic h) (Or.inr ⟨by rfl, rfl⟩) (by assumption) ?_
        simp only [Act.put, List.setIfInBounds_toArray, List.set_cons_zero, List.set_cons_succ, List.getElem_toArray, List.getElem_cons_succ, List.getElem_cons_zero]
        refine wpAnyH_take (i := 14) (v := undef) rfl (by kernel_rfl) (by kernel_rfl) (by kernel_rfl) (fun _ _ _ h => np_panic h) (Or.inr ⟨by rfl, rfl⟩) (by assumption) ?_
        simp only [Act.put, List.setIfInBounds_toArray, List.set_cons_zero, List.set_cons_succ, List.getElem_toArray, List.getElem_cons_succ, List.getElem_cons_zero]
        refine wpAnyH_take (i := 15) (v := undef) rfl (by kernel_rfl) (by kernel_rfl) (by kernel_rfl) (fun _ _ _ h => np_panic h) (Or.inr ⟨by rfl, rfl⟩) (by assumption) ?_
        simp only [Act.put, List.setIfInBounds_toArray, List.set_cons_zero, List.set_cons_succ, List.getElem_toArray, List.getElem_cons_succ, List.getElem_cons_zero]
        refine wpAnyH_take (i := 16) (v := undef) rfl (by kernel_rfl) (by kernel_rfl) (by kernel_rfl) (fun _ _ _ h => np_panic h) (Or.inr ⟨by rfl, rfl⟩) (by assumption) ?_
        simp only [Act.put, List.setIfInBounds_toArray, List.set_cons_zero, List.set_cons_succ, List.getElem_toArray, List.getElem_cons_succ, List.getElem_cons_zero]
        refine wpAnyH_take (i := 17) (v := undef) rfl (by kernel_rfl) (by kernel_rfl) (by kernel_rfl) (fun _ _ _ h => np_panic h) (Or.inr ⟨by rfl, rfl⟩) (by assumption) ?_
        simp only [Act.put, List.setIfInBounds_toArray, List.set_cons_zero, List.set_cons_succ, List.getElem_toArray, List.getElem_cons_succ, List.getElem_cons_zero]
        refine wpAnyH_take (i := 18) (v := undef) rfl (by kernel_rfl) (by kernel_rfl) (by kernel_rfl) (fun _ _ _ h => np_panic h) (Or.inr ⟨by rfl, rfl⟩) (by assumption) ?_
        simp only [Act.put, List.setIfInBounds_toArray, List.set_cons_zero, List.set_cons_succ, List.getElem_toArray, List.getElem_cons_succ, List.getElem_cons_zero]
        refine wpAnyH_take (i := 19) (v := undef) rfl (by kernel_rfl) (by kernel_rfl) (by kernel_rfl) (fun _ _ _ h => np_panic h) (Or.inr ⟨by rfl, rfl⟩) (by assumption) ?_
        simp only [Act.put, List.setIfInBounds_toArray, List.set_cons_zero, List.set_cons_succ, List.getElem_toArray, List.getElem_cons_succ, List.getElem_cons_zero]
        refine wpAnyH_take (i := 20) (v := undef) rfl (by kernel_rfl) (by kernel_rfl) (by kernel_rfl) (fun _ _ _ h => np_panic h) (Or.inr ⟨by rfl, rfl⟩) (by assumption) ?_
        simp only [Act.put, List.setIfInBounds_toArray, List.set_cons_zero, List.set_cons_succ, List.getElem_toArray, List.getElem_cons_succ, List.getElem_cons_zero]
        refine wpAnyH_take (i := 21) (v := undef) rfl (by kernel_rfl) (by kernel_rfl) (by kernel_rfl) (fun _ _ _ h => np_panic h) (Or.inr ⟨by rfl, rfl⟩) (by assumption) ?_
        simp only [Act.put, List.setIfInBounds_toArray, List.set_cons_zero, List.set_cons_succ, List.getElem_toArray, List.getElem_cons_succ, List.getElem_cons_zero]
        refine wpAnyH_take (i := 22) (v := undef) rfl (by kernel_rfl) (by kernel_rfl) (by kernel_rfl) (fun _ _ _ h => np_panic h) (Or.inr ⟨by rfl, rfl⟩) (by assumption) ?_
        simp only [Act.put, List.setIfInBounds_toArray, List.set_cons_zero, List.set_cons_succ, List.getElem_toArray, List.getElem_cons_succ, List.getElem_cons_zero]
        refine wpAnyH_take (i := 23) (v := undef) rfl (by kernel_rfl) (by kernel_rfl) (by kernel_rfl) (fun _ _ _ h => np_panic h) (Or.inr ⟨by rfl, rfl⟩) (by assumption) ?_
        simp only [Act.put, List.setIfInBounds_toArray, List.set_cons_zero, List.set_cons_succ, List.getElem_toArray, List.getElem_cons_succ, List.getElem_cons_zero]
        refine wpAnyH_take (i := 24) (v := undef) rfl (by kernel_rfl) (by kernel_rfl) (by kernel_rfl) (fun _ _ _ h => np_panic h) (Or.inr ⟨by rfl, rfl⟩) (by assumption) ?_
        simp only [Act.put, List.setIfInBounds_toArray, List.set_cons_zero, List.set_cons_succ, List.getElem_toArray, List.getElem_cons_succ, List.getElem_cons_zero]
        refine wpAnyH_take (i := 25) (v := undef) rfl (by kernel_rfl) (by kernel_rfl) (by kernel_rfl) (fun _ _ _ h => np_panic h) (Or.inr ⟨by rfl, rfl⟩) (by assumption) ?_
        simp only [Act.put, List.setIfInBounds_toArray, List.set_cons_zero, List.set_cons_succ, List.getElem_toArray, List.getElem_cons_succ, List.getElem_cons_zero]
        refine wpAnyH_take (i := 26) (v := ?v48) rfl (by kernel_rfl) (by kernel_rfl) (by kernel_rfl) (fun _ _ _ h => np_panic h) (Or.inl ⟨by rfl, ?hy48⟩) (by assumption) ?_
        case hy48 => (intro w' hS'; (try dsimp only at hS'); go_simp; try with_reducible rfl)
        simp only [Act.put, List.setIfInBounds_toArray, List.set_cons_zero, List.set_cons_succ, List.getElem_toArray, List.getElem_cons_succ, List.getElem_cons_zero]
        refine wpAnyH_done (by kernel_rfl) (NoPanic.normal ?_) _
        go_wp2_with fail
        go_roundw
        case rel => exact ⟨k + 1, L1, by omega, by omega, by go_num, by omega, s1, bE, hd (no_more hL1 hS.out (fun h h' => absurd ((HR.out h).2 h'.1) (by simp)))⟩
        case measure => simp [intOf]; omega
      | true =>
        refine hK.out _ _ sY ?_
        clear hK K
        intro hSw
        try simp only [Act.put, List.setIfInBounds_toArray, List.set_cons_zero, List.set_cons_succ]
        refine wpAnyH_take (i := 10) (v := ?v63) rfl (by kernel_rfl) (by kernel_rfl) (by kernel_rfl) (fun _ _ _ h => np_panic h) (Or.inl ⟨by rfl, ?hy63⟩) (by assumption) ?_
        case hy63 => (intro w' hS'; (try dsimp only at hS'); go_simp; try with_reducible rfl)
        simp only [Act.put, List.setIfInBounds_toArray, List.set_cons_zero, List.set_cons_succ, List.getElem_toArray, List.getElem_cons_succ, List.getElem_cons_zero]
        refine wpAnyH_take (i := 11) (v := ?v64) rfl (by kernel_rfl) (by kernel_rfl) (by kernel_rfl) (fun _ _ _ h => np_panic h) (Or.inl ⟨by rfl, ?hy64⟩) (by assumption) ?_
        case hy64 => (intro w' hS'; (try dsimp only at hS'); go_simp; try with_reducible rfl)
        simp only [Act.put, List.setIfInBounds_toArray, List.set_cons_zero, List.set_cons_succ, List.getElem_toArray, List.getElem_cons_succ, List.getElem_cons_zero]
        refine wpAnyH_take (i := 12) (v := ?v65) rfl (by kernel_rfl) (by kernel_rfl) (by kernel_rfl) (fun _ _ _ h => np_panic h) (Or.inl ⟨by rfl, ?hy65⟩) (by assumption) ?_
        case hy65 => (intro w' hS'; (try dsimp only at hS'); go_simp; try with_reducible rfl)
        simp only [Act.put, List.setIfInBounds_toArray, List.set_cons_zero, List.set_cons_succ, List.getElem_toArray, List.getElem_cons_succ, List.getElem_cons_zero]
        refine wpAnyH_take (i := 13) (v := ?v66) rfl (by kernel_rfl) (by kernel_rfl) (by kernel_rfl) (fun _ _ _ h => np_panic h) (Or.inl ⟨by rfl, ?hy66⟩) (by assumption) ?_
        case hy66 => (intro w' hS'; (try dsimp only at hS'); go_simp; try with_reducible rfl)
        simp only [Act.put, List.setIfInBounds_toArray, List.set_cons_zero, List.set_cons_succ, List.getElem_toArray, List.getElem_cons_succ, List.getElem_cons_zero]
        by_cases hkj : k = j - i
        · have hkb : ((k : Int) == ((j - i : Nat) : Int)) = true := by rw [hkj]; simp
          have HJK := hd hkj
          clear hkj
          refine wpAnyH_take (i := 14) (v := ?v67) rfl (by kernel_rfl) (by kernel_rfl) (by kernel_rfl) (fun _ _ _ h => np_panic h) (Or.inl ⟨by rfl, ?hy67⟩) (by assumption) ?_
          case hy67 => (intro w' hS'; (try dsimp only at hS'); go_simp; try with_reducible rfl)
          simp only [Act.put, List.setIfInBounds_toArray, List.set_cons_zero, List.set_cons_succ, List.getElem_toArray, List.getElem_cons_succ, List.getElem_cons_zero]
          refine wpAnyH_take (i := 15) (v := ?v68) rfl (by kernel_rfl) (by kernel_rfl) (by kernel_rfl) (fun _ _ _ h => np_panic h) (Or.inl ⟨by rfl, ?hy68⟩) (by assumption) ?_
          case hy68 => (intro w' hS'; (try dsimp only at hS'); go_simp; try with_reducible rfl)
          simp only [Act.put, List.setIfInBounds_toArray, List.set_cons_zero, List.set_cons_succ, List.getElem_toArray, List.getElem_cons_succ, List.getElem_cons_zero]
          refine wpAnyH_take (i := 16) (v := undef) rfl (by kernel_rfl) (by kernel_rfl) (by kernel_rfl) (fun _ _ _ h => np_panic h) (Or.inr ⟨by rfl, rfl⟩) (by assumption) ?_
          simp only [Act.put, List.setIfInBounds_toArray, List.set_cons_zero, List.set_cons_succ, List.getElem_toArray, List.getElem_cons_succ, List.getElem_cons_zero]
          refine wpAnyH_take (i := 17) (v := undef) rfl (by kernel_rfl) (by kernel_rfl) (by kernel_rfl) (fun _ _ _ h => np_panic h) (Or.inr ⟨by rfl, rfl⟩) (by assumption) ?_
          simp only [Act.put, List.setIfInBounds_toArray, List.set_cons_zero, List.set_cons_succ, List.getElem_toArray, List.getElem_cons_succ, List.getElem_cons_zero]
          refine wpAnyH_take (i := 18) (v := undef) rfl (by kernel_rfl) (by kernel_rfl) (by kernel_rfl) (fun _ _ _ h => np_panic h) (Or.inr ⟨by rfl, rfl⟩) (by assumption) ?_
          simp only [Act.put, List.setIfInBounds_toArray, List.set_cons_zero, List.set_cons_succ, List.getElem_toArray, List.getElem_cons_succ, List.getElem_cons_zero]
          refine wpAnyH_take (i := 19) (v := undef) rfl (by kernel_rfl) (by kernel_rfl) (by kernel_rfl) (fun _ _ _ h => np_panic h) (Or.inr ⟨by rfl, rfl⟩) (by assumption) ?_
          simp only [Act.put, List.setIfInBounds_toArray, List.set_cons_zero, List.set_cons_succ, List.getElem_toArray, List.getElem_cons_succ, List.getElem_cons_zero]
          refine wpAnyH_take (i := 20) (v := undef) rfl (by kernel_rfl) (by kernel_rfl) (by kernel_rfl) (fun _ _ _ h => np_panic h) (Or.inr ⟨by rfl, rfl⟩) (by assumption) ?_
          simp only [Act.put, List.setIfInBounds_toArray, List.set_cons_zero, List.set_cons_succ, List.getElem_toArray, List.getElem_cons_succ, List.getElem_cons_zero]
          refine wpAnyH_take (i := 21) (v := undef) rfl (by kernel_rfl) (by kernel_rfl) (by kernel_rfl) (fun _ _ _ h => np_panic h) (Or.inr ⟨by rfl, rfl⟩) (by assumption) ?_
          simp only [Act.put, List.setIfInBounds_toArray, List.set_cons_zero, List.set_cons_succ, List.getElem_toArray, List.getElem_cons_succ, List.getElem_cons_zero]
          refine wpAnyH_take (i := 22) (v := undef) rfl (by kernel_rfl) (by kernel_rfl) (by kernel_rfl) (fun _ _ _ h => np_panic h) (Or.inr ⟨by rfl, rfl⟩) (by assumption) ?_
          simp only [Act.put, List.setIfInBounds_toArray, List.set_cons_zero, List.set_cons_succ, List.getElem_toArray, List.getElem_cons_succ, List.getElem_cons_zero]
          refine wpAnyH_take (i := 23) (v := undef) rfl (by kernel_rfl) (by kernel_rfl) (by kernel_rfl) (fun _ _ _ h => np_panic h) (Or.inr ⟨by rfl, rfl⟩) (by assumption) ?_
          simp only [Act.put, List.setIfInBounds_toArray, List.set_cons_zero, List.set_cons_succ, List.getElem_toArray, List.getElem_cons_succ, List.getElem_cons_zero]
          refine wpAnyH_take (i := 24) (v := undef) rfl (by kernel_rfl) (by kernel_rfl) (by kernel_rfl) (fun _ _ _ h => np_panic h) (Or.inr ⟨by rfl, rfl⟩) (by assumption) ?_
          simp only [Act.put, List.setIfInBounds_toArray, List.set_cons_zero, List.set_cons_succ, List.getElem_toArray, List.getElem_cons_succ, List.getElem_cons_zero]
          refine wpAnyH_take (i := 25) (v := ?v49) rfl (by kernel_rfl) (by kernel_rfl) (by kernel_rfl) (fun _ _ _ h => np_panic h) (Or.inl ⟨by rfl, ?hy49⟩) (by assumption) ?_
          case hy49 => (intro w' hS'; (try dsimp only at hS'); go_simp; try with_reducible rfl)
          simp only [Act.put, List.setIfInBounds_toArray, List.set_cons_zero, List.set_cons_succ, List.getElem_toArray, List.getElem_cons_succ, List.getElem_cons_zero]
          refine wpAnyH_take (i := 26) (v := ?v50) rfl (by kernel_rfl) (by kernel_rfl) (by kernel_rfl) (fun _ _ _ h => np_panic h) (Or.inl ⟨by rfl, ?hy50⟩) (by assumption) ?_
          case hy50 => (intro w' hS'; (try dsimp only at hS'); go_simp; try with_reducible rfl)
          simp only [Act.put, List.setIfInBounds_toArray, List.set_cons_zero, List.set_cons_succ, List.getElem_toArray, List.getElem_cons_succ, List.getElem_cons_zero]
          refine wpAnyH_done (by kernel_rfl) (NoPanic.normal ?_) _
          go_wp2_with fail
          go_ret
          exact ⟨true, L1, rfl, by omega, s1, bW.trans bE, fun h => ⟨fun _ => HP.out.2 ⟨i + k, by omega, by omega, (HR.out h).1 trivial, .inl (by have := HJK.out; omega)⟩, fun _ => rfl⟩⟩
        · have hkb : ((k : Int) == ((j - i : Nat) : Int)) = false := by simp; omega
          have HJK := hd hkj
          have hkl : k < j - i := by omega
          have hcn : ¬ ct = k := by omega
          clear hkj
          refine wpAnyH_take (i := 14) (v := ?v69) rfl (by kernel_rfl) (by kernel_rfl) (by kernel_rfl) (fun _ _ _ h => np_panic h) (Or.inl ⟨by rfl, ?hy69⟩) (by assumption) ?_
          case hy69 => (intro w' hS'; (try dsimp only at hS'); go_simp; try with_reducible rfl)
          simp only [Act.put, List.setIfInBounds_toArray, List.set_cons_zero, List.set_cons_succ, List.getElem_toArray, List.getElem_cons_succ, List.getElem_cons_zero]
          refine wpAnyH_take (i := 15) (v := ?v70) rfl (by kernel_rfl) (by kernel_rfl) (by kernel_rfl) (fun _ _ _ h => np_panic h) (Or.inl ⟨by rfl, ?hy70⟩) (by assumption) ?_
          case hy70 => (intro w' hS'; (try dsimp only at hS'); go_simp; try with_reducible rfl)
          simp only [Act.put, List.setIfInBounds_toArray, List.set_cons_zero, List.set_cons_succ, List.getElem_toArray, List.getElem_cons_succ, List.getElem_cons_zero]
          refine wpAnyH_take (i := 16) (v := ?v51) rfl (by kernel_rfl) (by kernel_rfl) (by kernel_rfl) (fun _ _ _ h => np_panic h) (Or.inl ⟨by rfl, ?hy51⟩) (by assumption) ?_
          case hy51 => (intro w' hS'; (try dsimp only at hS'); go_simp; try with_reducible rfl)
          simp only [Act.put, List.setIfInBounds_toArray, List.set_cons_zero, List.set_cons_succ, List.getElem_toArray, List.getElem_cons_succ, List.getElem_cons_zero]
          refine wpAnyH_take (i := 17) (v := ?v52) rfl (by kernel_rfl) (by kernel_rfl) (by kernel_rfl) (fun _ _ _ h => np_panic h) (Or.inl ⟨by rfl, ?hy52⟩) (by assumption) ?_
          case hy52 => (intro w' hS'; (try dsimp only at hS'); go_simp; try with_reducible rfl)
          simp only [Act.put, List.setIfInBounds_toArray, List.set_cons_zero, List.set_cons_succ, List.getElem_toArray, List.getElem_cons_succ, List.getElem_cons_zero]
          refine wpAnyH_take (i := 18) (v := ?v53) rfl (by kernel_rfl) (by kernel_rfl) (by kernel_rfl) (fun _ _ _ h => np_panic h) (Or.inl ⟨by rfl, ?hy53⟩) (by assumption) ?_
          case hy53 => (intro w' hS'; (try dsimp only at hS'); go_simp; try with_reducible rfl)
          simp only [Act.put, List.setIfInBounds_toArray, List.set_cons_zero, List.set_cons_succ, List.getElem_toArray, List.getElem_cons_succ, List.getElem_cons_zero]
          refine wpAnyH_take (i := 19) (v := ?v54) rfl (by kernel_rfl) (by kernel_rfl) (by kernel_rfl) (fun _ _ _ h => np_panic h) (Or.inl ⟨by rfl, ?hy54⟩) (by assumption) ?_
          case hy54 => (intro w' hS'; (try dsimp only at hS'); go_simp; try with_reducible rfl)
          simp only [Act.put, List.setIfInBounds_toArray, List.set_cons_zero, List.set_cons_succ, List.getElem_toArray, List.getElem_cons_succ, List.getElem_cons_zero]
          refine wpAnyH_take (i := 20) (v := ?v55) rfl (by kernel_rfl) (by kernel_rfl) (by kernel_rfl) (fun _ _ _ h => np_panic h) (Or.inl ⟨by rfl, ?hy55⟩) (by assumption) ?_
          case hy55 => (intro w' hS'; (try dsimp only at hS'); go_simp; try with_reducible rfl)
          simp only [Act.put, List.setIfInBounds_toArray, List.set_cons_zero, List.set_cons_succ, List.getElem_toArray, List.getElem_cons_succ, List.getElem_cons_zero]
          refine wpAnyH_take (i := 21) (v := ?v56) rfl (by kernel_rfl) (by kernel_rfl) (by kernel_rfl) (fun _ _ _ h => np_panic h) (Or.inl ⟨by rfl, ?hy56⟩) (by assumption) ?_
          case hy56 => (intro w' hS'; (try dsimp only at hS'); go_simp; try with_reducible rfl)
          simp only [Act.put, List.setIfInBounds_toArray, List.set_cons_zero, List.set_cons_succ, List.getElem_toArray, List.getElem_cons_succ, List.getElem_cons_zero]
          refine wpAnyH_take (i := 22) (v := ?v57) rfl (by kernel_rfl) (by kernel_rfl) (by kernel_rfl) (fun _ _ _ h => np_panic h) (Or.inl ⟨by rfl, ?hy57⟩) (by assumption) ?_
          case hy57 => (intro w' hS'; (try dsimp only at hS'); go_simp; try with_reducible rfl)
          simp only [Act.put, List.setIfInBounds_toArray, List.set_cons_zero, List.set_cons_succ, List.getElem_toArray, List.getElem_cons_succ, List.getElem_cons_zero]
          refine wpAnyH_take (i := 23) (v := ?v58) rfl (by kernel_rfl) (by kernel_rfl) (by kernel_rfl) (fun _ _ _ h => np_panic h) (Or.inl ⟨by rfl, ?hy58⟩) (by assumption) ?_
          case hy58 => (intro w' hS'; (try dsimp only at hS'); go_simp; try with_reducible rfl)
          simp only [Act.put, List.setIfInBounds_toArray, List.set_cons_zero, List.set_cons_succ, List.getElem_toArray, List.getElem_cons_succ, List.getElem_cons_zero]
          refine wpAnyH_ready (rs := [24]) (by kernel_rfl) (by simp) ?_
          refine AllReadyH.cons rfl (fun K hK => ?_) AllReadyH.nil
          go_simp
          have tZ := (tW.kp bE.kp (fun _ _ h => h)).drop (k := k) (by omega)
          simp only [sliced, if_neg hcn, Option.map_some, G.addr_add, Nat.mul_one] at tZ
          have IA2 := IH L1 (by omega) (stX x) (d + 1) (i + k) j (.agg #[.int .i64 6, .string ⟨#[]⟩, .slice (some ⟨b, o, none⟩) x.kids.len ck]) _ y1 ⟨_, rfl, uW.kp bE.kp (fun _ _ h => h)⟩ ⟨fun _ => hk0, hg.2⟩ tZ s1 (dW.kp bE.kp (fun _ _ h => h)) hd6
          rw [hN] at IA2
          refine IA2.mono ?_
          rintro e y2 ⟨r2, L2, rfl, hL2, s2, b2, h1⟩
          have HR2 := hd h1
          clear h1 IA2
          have bF : But ra W y2 := bE.trans b2
          have sZ : World.cell? y2 ⟨w.heap.size, 2, none⟩ = some (.slice (some ⟨b, o, none⟩) x.kids.len ck) ∧ World.cell? y2 ⟨b, o, none⟩ = some (.int .i64 (x.kids.at_ 0).op) ∧ World.cell? y2 ⟨b, o + 1, none⟩ = some (.string (x.kids.at_ 0).nm) ∧ World.cell? y2 ⟨b, o + 2, none⟩ = some (.slice aq (x.kids.at_ 0).kids.len cq) := ⟨but_cell bF hwr x2, but_cell bF hob c0, but_cell bF hob c1, but_cell bF hob c2⟩
          cases r2 with
          | true =>
            refine hK.out _ _ sZ ?_
            clear hK K
            intro hSw
            try simp only [Act.put, List.setIfInBounds_toArray, List.set_cons_zero, List.set_cons_succ]
            refine wpAnyH_take (i := 25) (v := ?v59) rfl (by kernel_rfl) (by kernel_rfl) (by kernel_rfl) (fun _ _ _ h => np_panic h) (Or.inl ⟨by rfl, ?hy59⟩) (by assumption) ?_
            case hy59 => (intro w' hS'; (try dsimp only at hS'); go_simp; try with_reducible rfl)
            simp only [Act.put, List.setIfInBounds_toArray, List.set_cons_zero, List.set_cons_succ, List.getElem_toArray, List.getElem_cons_succ, List.getElem_cons_zero]
            refine wpAnyH_take (i := 26) (v := ?v60) rfl (by kernel_rfl) (by kernel_rfl) (by kernel_rfl) (fun _ _ _ h => np_panic h) (Or.inl ⟨by rfl, ?hy60⟩) (by assumption) ?_
            case hy60 => (intro w' hS'; (try dsimp only at hS'); go_simp; try with_reducible rfl)
            simp only [Act.put, List.setIfInBounds_toArray, List.set_cons_zero, List.set_cons_succ, List.getElem_toArray, List.getElem_cons_succ, List.getElem_cons_zero]
            refine wpAnyH_done (by kernel_rfl) (NoPanic.normal ?_) _
            go_wp2_with fail
            go_ret
            exact ⟨true, L2, rfl, by omega, s2, bW.trans bF, fun h => ⟨fun _ => HP.out.2 ⟨i + k, by omega, by omega, (HR.out (by omega)).1 trivial, .inr ((HR2.out h).1 trivial)⟩, fun _ => rfl⟩⟩
          | false =>
            refine hK.out _ _ sZ ?_
            clear hK K
            intro hSw
            try simp only [Act.put, List.setIfInBounds_toArray, List.set_cons_zero, List.set_cons_succ]
            refine wpAnyH_take (i := 25) (v := ?v61) rfl (by kernel_rfl) (by kernel_rfl) (by kernel_rfl) (fun _ _ _ h => np_panic h) (Or.inl ⟨by rfl, ?hy61⟩) (by assumption) ?_
            case hy61 => (intro w' hS'; (try dsimp only at hS'); go_simp; try with_reducible rfl)
            simp only [Act.put, List.setIfInBounds_toArray, List.set_cons_zero, List.set_cons_succ, List.getElem_toArray, List.getElem_cons_succ, List.getElem_cons_zero]
            refine wpAnyH_take (i := 26) (v := ?v62) rfl (by kernel_rfl) (by kernel_rfl) (by kernel_rfl) (fun _ _ _ h => np_panic h) (Or.inl ⟨by rfl, ?hy62⟩) (by assumption) ?_
            case hy62 => (intro w' hS'; (try dsimp only at hS'); go_simp; try with_reducible rfl)
            simp only [Act.put, List.setIfInBounds_toArray, List.set_cons_zero, List.set_cons_succ, List.getElem_toArray, List.getElem_cons_succ, List.getElem_cons_zero]
            refine wpAnyH_done (by kernel_rfl) (NoPanic.normal ?_) _
            go_wp2_with fail
            go_roundw
            case rel => exact ⟨k + 1, L2, by omega, by omega, by go_num, by omega, s2, bF, hd (no_more (by omega) hS.out (fun h h' => h'.2.elim (fun e => by have := HJK.out; omega) (fun e => absurd ((HR2.out h).2 e) (by simp))))⟩
            case measure => simp [intOf]; omega
    · have HE : Hid (Lk ≠ 0 → ¬ SaD N X (ds.map Df.e) (d + 1) x i j) := hd (fun h h' => by
        obtain ⟨m, m1, m2, m3⟩ := HP.out.1 h'
        exact hS.out h m m1 (by omega) m3)
      have hle2 : ¬ (k : Int) ≤ ((j - i : Nat) : Int) := by omega
      go_wp2_with fail
      go_ret
      exact ⟨false, Lk, rfl, by omega, sk, bW.trans bk, fun h => by simpa using HE.out h⟩
end Go.Proofs.Ytghplmldnkcpnac
