/- In how many ways symbols stand for a word from a place to another, as the document reckons them. -/
import Derived.Test.YtlhdppkllmnmkadL07
import Derived.Test.YtlhdppkllmnmkadL03
import Derived.OwnWalk
namespace Go.Proofs.Ytlhdppkllmnmkad.G
open Go.RowKit

def lpE (val : Nat → Int) (x m : Int) : Nat → Nat → List Int → List Int
  | 0, _, nx => nx
  | n + 1, e, nx => lpE val x m n (e + 1) (nx.set e (smI (nx.getD e 0) (prI x (val e) m) m))
def lpM (val : Nat → Nat → Int) (a : List Int) (j : Nat) (m : Int) : Nat → Nat → List Int → List Int
  | 0, _, nx => nx
  | n + 1, k, nx => lpM val a j m n (k + 1) (if 0 < a.getD k 0 then lpE (val k) (a.getD k 0) m (j + 1 - k) k nx else nx)
/-- What a symbol counts, from a place to another. -/
def vlF (f : Nat → Nat → Nat → Int) (W : List Int) (s : Int) (a b : Nat) : Int := if 0 ≤ s then f s.toNat a b else if b = a + 1 ∧ W[a]? = some (-1 - s) then 1 else 0
def lpK (f : Nat → Nat → Nat → Int) (W : List Int) (m : Int) (i j : Nat) : List Int → List Int → List Int
  | [], a => a
  | s :: ss, a => lpK f W m i j ss (lpM (vlF f W s) a j m (j + 1 - i) i (List.replicate (W.length + 1) 0))
def wyN (f : Nat → Nat → Nat → Int) (W : List Int) (m : Int) (i j : Nat) (l : List Int) : Int := (lpK f W m i j l ((List.replicate (W.length + 1) 0).set i 1)).getD j 0
def Rng (m : Int) (l : List Int) : Prop := ∀ x ∈ l, 0 ≤ x ∧ x ≤ m
theorem Rng.getD {m : Int} {l : List Int} (h : Rng m l) (hm : 1 ≤ m) (k : Nat) : 0 ≤ l.getD k 0 ∧ l.getD k 0 ≤ m := by
  rcases Nat.lt_or_ge k l.length with hk | hk
  · rw [List.getD_eq_getElem?_getD, List.getElem?_eq_getElem hk]; exact h _ (List.getElem_mem hk)
  · rw [List.getD_eq_getElem?_getD, List.getElem?_eq_none hk]; simp; omega
theorem Rng.set {m : Int} {l : List Int} (h : Rng m l) {k : Nat} {x : Int} (hx : 0 ≤ x ∧ x ≤ m) : Rng m (l.set k x) := fun y hy => by
  rcases List.mem_or_eq_of_mem_set hy with h1 | h1
  · exact h y h1
  · rw [h1]; exact hx
theorem Rng.zeros {m : Int} (hm : 1 ≤ m) (n : Nat) : Rng m (List.replicate n 0) := fun x hx => by rw [List.eq_of_mem_replicate hx]; omega
theorem made_zero (n : Nat) : (madeCells #[Value.int .i64 0] n).toList = ints (List.replicate n 0) := by
  unfold madeCells ints
  apply List.ext_getElem
  · simp
  · intro k h1 h2
    simp [Nat.mod_one]
theorem ints_set (l : List Int) (k : Nat) (x : Int) : (ints l).set k (.int .i64 x) = ints (l.set k x) := by unfold ints; rw [List.map_set]
theorem ints_at {l : List Int} {k : Nat} (h : k < l.length) : (ints l)[k]? = some (.int .i64 (l.getD k 0)) := by
  unfold ints
  rw [List.getElem?_map, List.getElem?_eq_getElem h, List.getD_eq_getElem?_getD, List.getElem?_eq_getElem h]; rfl
/-- The counts, in memory: of each nonterminal, from each place to each other. -/
structure TbR (w : World) (V L b0 : Nat) (b1 c1 : Nat → Nat) (rb : Nat → Nat → Nat) (f : Nat → Nat → Nat → Int) : Prop where
  h0 : ∀ v, v < V → w.cell? ⟨b0, v, none⟩ = some (.slice (some ⟨b1 v, 0, none⟩) (L + 1) (c1 v))
  h1 : ∀ v i, v < V → i ≤ L → w.cell? ⟨b1 v, i, none⟩ = some (.slice (some ⟨rb v i, 0, none⟩) (L + 1) (L + 1))
  h2 : ∀ v i j, v < V → i ≤ L → j ≤ L → w.cell? ⟨rb v i, j, none⟩ = some (.int .i64 (f v i j))
theorem TbR.lw {w w' : World} {V L b0 : Nat} {b1 c1 : Nat → Nat} {rb : Nat → Nat → Nat} {f : Nat → Nat → Nat → Int} (h : TbR w V L b0 b1 c1 rb f) (hb : Below w.heap.size w w') : TbR w' V L b0 b1 c1 rb f :=
  ⟨fun v hv => bkeep hb (h.h0 v hv), fun v i hv hi => bkeep hb (h.h1 v i hv hi), fun v i j hv hi hj => bkeep hb (h.h2 v i j hv hi hj)⟩
theorem owns_ne {w : World} {base : Nat} {e : TypeId} {size : Nat} {v u : Value} {n : Nat} {xs : List Value} {a : Addr} (h : w.ownsRow base e size v n xs) (ha : v.ownBlock ≠ some a.block) : (w.setCell a u).ownsRow base e size v n xs := by
  obtain ⟨h1, h2⟩ := h
  refine ⟨h1, ?_⟩
  rcases h2 with h2 | ⟨g, cap, cur, e1, e2, e3, e4⟩
  · exact .inl h2
  · exact .inr ⟨g, cap, cur, e1, e2, by rw [Below.heap_setCell _ _ _ _ (fun e => ha (by rw [e1, ← e]; rfl))]; exact e3, e4⟩
set_option maxRecDepth 100000 in
set_option maxHeartbeats 16000000 in
theorem cways_any (cb : Nat) (vW : Value) (W : List Int) (m : Int) (V b0 c0 : Nat) (b1 c1 : Nat → Nat) (rb : Nat → Nat → Nat) (f : Nat → Nat → Nat → Int) (u : Value) (l : List Int) (i j : Nat) (w : World)
    (k4 : w.cell? ⟨cb, 4, none⟩ = some vW) (hW : IsV w All vW W) (k5 : w.cell? ⟨cb, 5, none⟩ = some (.int .i64 m)) (k6 : w.cell? ⟨cb, 6, none⟩ = some (.slice (some ⟨b0, 0, none⟩) V c0)) (tb : TbR w V W.length b0 b1 c1 rb f)
    (hu : IsV w All u l) (hl : ∀ s ∈ l, s < V ∧ -1000000 ≤ s) (hWl : W.length ≤ 1000) (_hV : V ≤ 1000) (_hWr : ∀ x ∈ W, -1000000 ≤ x ∧ x ≤ 1000000) (hij : i ≤ j) (hjL : j ≤ W.length) (hm : 1 ≤ m) (h62 : m ≤ 4611686018427387904) (hf : ∀ v a b, v < V → a ≤ W.length → b ≤ W.length → 0 ≤ f v a b ∧ f v a b ≤ m) :
    Calls Try.prog 93 #[.pointer (some ⟨cb, 0, none⟩), u, .int .i64 i, .int .i64 j] w fun e w' => e = .returned (.int .i64 (wyN f W m i j l)) ∧ Below w.heap.size w w' := by
  obtain ⟨j0, hj, jz0, jz1, jz2⟩ := info_parts Try.infoInt
  obtain ⟨aoW, capW, rfl⟩ := hW.slice
  obtain ⟨aol, capl, rfl⟩ := hu.slice
  have hul := hu.1
  unfold wyN
  have hcz := lt_of_cell k4
  obtain ⟨A0, hA0⟩ : ∃ A0, A0 = (List.replicate (W.length + 1) (0 : Int)).set i 1 := ⟨_, rfl⟩
  obtain ⟨RV, hRV⟩ : ∃ RV, RV = (lpK f W m i j l A0).getD j 0 := ⟨_, rfl⟩
  rw [← hA0, ← hRV]
  have HRV := hd hRV
  have HA0 := hd hA0
  clear hRV hA0
  go_enter Try.func93, Try.ntmps93
  go_wp2_with (first | (refine wpList_make_full _ rfl _ _ 35 rfl w.heap.size 3 j0 (.int .i64 0) 1 Try.underlying35 hj jz0 jz1 .i64 .i64 _ _ (W.length + 1) rfl rfl (by go_num) (by go_num) (by rw [jz2]; omega) (by unfold maxLen; omega) (Nat.le_refl _) ?_))
  intro w1 own1 grow1
  have hb1 := grown_below grow1
  rw [made_zero] at own1
  have f1 := World.ownsRow.frozenAt own1
  have a1 : w1.cell? ⟨w.heap.size, i, none⟩ = some (.int .i64 0) := by
    rw [World.ownsRow.cellAt own1 i (by omega), ints_at (by simp; omega)]; simp [List.getD_eq_getElem?_getD, show i < W.length + 1 by omega]
  have q1 := World.ownsRow.stored own1 i (.int .i64 1)
  rw [ints_set] at q1
  have bS : Below w.heap.size w (w1.setCell ⟨w.heap.size, i, none⟩ (.int .i64 1)) := hb1.setCell (p := ⟨w.heap.size, i, none⟩) (Nat.le_refl _) _
  have rS : Rng m ((List.replicate (W.length + 1) 0).set i 1) := (Rng.zeros hm _).set (by omega)
  have lS : ((List.replicate (W.length + 1) (0 : Int)).set i 1).length = W.length + 1 := by simp
  have own0 := q1.1
  rw [← HA0.out] at rS lS own0
  obtain ⟨R, hR⟩ : ∃ R, Hid (lpK f W m i j (l.drop 0) A0 = R) := ⟨_, hd rfl⟩
  have hRl : lpK f W m i j l A0 = R := by rw [← hR.out, List.drop_zero]
  have hw1 := hb1.size
  clear own1 q1
  go_wp2_with fail
  go_loopw [9, 10] (fun v k wr => ∃ (kk ga : Nat) (A : List Int), kk ≤ l.length ∧ k = .int .i64 kk ∧ v = .slice (some ⟨ga, 0, none⟩) (W.length + 1) (W.length + 1) ∧ wr.ownsRow w.heap.size 3 1 (.slice (some ⟨ga, 0, none⟩) (W.length + 1) (W.length + 1)) (W.length + 1) (ints A) ∧ A.length = W.length + 1 ∧ Rng m A ∧ Hid (lpK f W m i j (l.drop kk) A = R) ∧ Below w.heap.size w wr) (fun _ k _ => l.length - (intOf k).toNat)
  case atStart => exact ⟨0, w.heap.size, A0, Nat.zero_le _, rfl, rfl, own0, lS, rS, hR, bS⟩
  case round =>
    obtain ⟨kk, ga, A, hk, rfl, rfl, ownA, hA, rA, hE, bel⟩ := hrel
    have n4 := bkeep bel k4
    have n5 := bkeep bel k5
    have n6 := bkeep bel k6
    by_cases hlt : kk < l.length
    · obtain ⟨bl, ol, rfl, cs0⟩ := hu.at_ hlt
      have cs := bkeep bel cs0
      have hsr := hl l[kk] (List.getElem_mem hlt)
      have hE' := hE.out
      rw [List.drop_eq_getElem_cons hlt, lpK] at hE'
      generalize l[kk] = s at *
      clear hE
      go_upto_region 6 with fail
      go_wp2_with (first | (refine wpList_make_full _ rfl _ _ 35 rfl w.heap.size 3 j0 (.int .i64 0) 1 Try.underlying35 hj jz0 jz1 .i64 .i64 _ _ (W.length + 1) rfl rfl (by go_num) (by go_num) (by rw [jz2]; omega) (by unfold maxLen; omega) bel.size ?_))
      intro w2 own2 grow2
      have hb2 := grown_below grow2
      rw [made_zero] at own2
      have ownA2 := owns_below ownA hb2
      have hga : ga < wr.heap.size := (ownA.lt ga rfl).2
      have hgw : w.heap.size ≤ ga := (ownA.lt ga rfl).1
      obtain ⟨gb, hgb⟩ : ∃ gb, gb = wr.heap.size := ⟨_, rfl⟩
      rw [← hgb] at own2 hga ⊢
      have bel2 := bthen bel hb2
      have rB := Rng.zeros hm (W.length + 1)
      have lB : (List.replicate (W.length + 1) (0 : Int)).length = W.length + 1 := by simp
      have hgbw : w.heap.size ≤ gb := by have := bel.size; omega
      generalize List.replicate (W.length + 1) (0 : Int) = B0 at *
      obtain ⟨RM, hRM⟩ : ∃ RM, Hid (lpM (vlF f W s) A j m (j + 1 - i) i B0 = RM) := ⟨_, hd rfl⟩
      have HE : Hid (lpK f W m i j (l.drop (kk + 1)) RM = R) := hd (by rw [← hRM.out]; exact hE')
      clear hE' grow2 ownA hgb
      go_wp2_with fail
      go_loopw [12] (fun mm wr2 => ∃ (mn : Nat) (B : List Int), i ≤ mn ∧ mn ≤ j + 1 ∧ mm = .int .i64 mn ∧ wr2.ownsRow w.heap.size 3 1 (.slice (some ⟨ga, 0, none⟩) (W.length + 1) (W.length + 1)) (W.length + 1) (ints A) ∧ wr2.ownsRow w.heap.size 3 1 (.slice (some ⟨gb, 0, none⟩) (W.length + 1) (W.length + 1)) (W.length + 1) (ints B) ∧ B.length = W.length + 1 ∧ Rng m B ∧ Hid (lpM (vlF f W s) A j m (j + 1 - mn) mn B = RM) ∧ Below w.heap.size w wr2) (fun mm _ => j + 1 - (intOf mm).toNat)
      case atStart => exact ⟨i, B0, Nat.le_refl _, by omega, rfl, ownA2, own2, lB, rB, hRM, bel2⟩
      case round =>
        obtain ⟨mn, B, hmi, hmj, rfl, oA, oB, hBl, rgB, hEM, be2⟩ := hrel
        by_cases hlt2 : mn ≤ j
        · have hEM' := hEM.out
          rw [show j + 1 - mn = (j - mn) + 1 by omega, lpM] at hEM'
          have gA := World.ownsRow.cellAt oA mn (by omega)
          rw [ints_at (by omega)] at gA
          have hAx := rA.getD hm mn
          generalize hx : A.getD mn 0 = x at *
          obtain ⟨RE, hRE⟩ : ∃ RE, Hid ((if 0 < x then lpE (vlF f W s mn) x m (j + 1 - mn) mn B else B) = RE) := ⟨_, hd rfl⟩
          have HEM : Hid (lpM (vlF f W s) A j m (j + 1 - (mn + 1)) (mn + 1) RE = RM) := hd (by rw [← hRE.out, show j + 1 - (mn + 1) = j - mn by omega]; exact hEM')
          clear hEM hEM'
          go_wp2_with fail
          go_loopw [13] (fun ee wr3 => ∃ (en : Nat) (C : List Int), mn ≤ en ∧ en ≤ j + 1 ∧ ee = .int .i64 en ∧ wr3.ownsRow w.heap.size 3 1 (.slice (some ⟨ga, 0, none⟩) (W.length + 1) (W.length + 1)) (W.length + 1) (ints A) ∧ wr3.ownsRow w.heap.size 3 1 (.slice (some ⟨gb, 0, none⟩) (W.length + 1) (W.length + 1)) (W.length + 1) (ints C) ∧ C.length = W.length + 1 ∧ Rng m C ∧ Hid ((if 0 < x then lpE (vlF f W s mn) x m (j + 1 - en) en C else C) = RE) ∧ Below w.heap.size w wr3) (fun ee _ => j + 1 - (intOf ee).toNat)
          case atStart => exact ⟨mn, B, Nat.le_refl _, by omega, rfl, oA, oB, hBl, rgB, hRE, be2⟩
          case round =>
            obtain ⟨en, C, hem, hej, rfl, oA3, oC, hCl, rgC, hEE, be3⟩ := hrel
            have gA3 := World.ownsRow.cellAt oA3 mn (by omega)
            rw [ints_at (by omega), hx] at gA3
            have hEE' := hEE.out
            by_cases hlt3 : en ≤ j
            · by_cases hpos : 0 < x
              · rw [if_pos hpos, show j + 1 - en = (j - en) + 1 by omega, lpE] at hEE'
                have hen1 : en < W.length + 1 := by omega
                have hmn1 : mn < W.length + 1 := by omega
                have hen2 : (en : Int) < (W.length : Int) + 1 := by omega
                have hmn2 : (mn : Int) < (W.length : Int) + 1 := by omega
                have k5' := bkeep be3 k5
                have k4' := bkeep be3 k4
                have k6' := bkeep be3 k6
                have cs3 := bkeep be3 cs0
                have gC := World.ownsRow.cellAt oC en (by omega)
                rw [ints_at (by omega)] at gC
                have hCx := rgC.getD hm en
                have fC := World.ownsRow.frozenAt oC
                generalize hz : C.getD en 0 = z at *
                by_cases hs : 0 ≤ s
                · obtain ⟨sv, rfl⟩ := Int.eq_ofNat_of_zero_le hs
                  have hsv : sv < V := by omega
                  have t0 := bkeep be3 (tb.h0 sv hsv)
                  have t1 := bkeep be3 (tb.h1 sv mn hsv (by omega))
                  have t2 := bkeep be3 (tb.h2 sv mn en hsv (by omega) (by omega))
                  have hfr := hf sv mn en hsv (by omega) (by omega)
                  have hvl : vlF f W (sv : Int) mn en = f sv mn en := by unfold vlF; rw [if_pos (by omega)]; simp
                  rw [hvl] at hEE'
                  generalize f sv mn en = nv at *
                  have hnv := hfr
                  have hpr := prI_rng hAx.1 hnv.1 hm
                  have hsm := smI_rng hCx.1 hpr.1 hm
                  have hEE2 : Hid ((if 0 < x then lpE (vlF f W (sv : Int) mn) x m (j + 1 - (en + 1)) (en + 1) (C.set en (smI z (prI x nv m) m)) else C.set en (smI z (prI x nv m) m)) = RE) := hd (by rw [if_pos hpos, show j + 1 - (en + 1) = j - en by omega]; exact hEE')
                  clear hEE' hEE hvl
                  go_wp2_with fail
                  go_quiet (fail)
                  go_wp2_with fail
                  obtain ⟨Y, hY⟩ : ∃ Y, Y = wr.drewN nq := ⟨_, rfl⟩
                  have bY : Below wr.heap.size wr Y := by rw [hY]; exact drwN wr nq
                  rw [← hY]
                  clear hY
                  have bYd : Below wr.heap.size wr Y.drew := bthen bY (drw1 Y)
                  have oAY := owns_below oA3 bYd
                  have oCY := owns_below oC bYd
                  have gCY := bkeep bYd gC
                  have S18 : World.cell? Y.drew ⟨ga, mn, none⟩ = some (.int .i64 x) ∧ World.cell? Y.drew ⟨cb, 5, none⟩ = some (.int .i64 m) := ⟨bkeep bYd gA3, bkeep bYd k5'⟩
                  have fCY := World.ownsRow.frozenAt oCY
                  have beY := bthen be3 bYd
                  refine wp_region_noPanic ?_
                  refine wp_region_held_drew (S := fun w' => World.cell? w' ⟨ga, mn, none⟩ = some (.int .i64 x) ∧ World.cell? w' ⟨cb, 5, none⟩ = some (.int .i64 m)) (by kernel_rfl) S18 ?_
                  intro hSw
                  obtain ⟨y0, hy0⟩ : ∃ y0, y0 = Y.drew := ⟨_, rfl⟩
                  rw [← hy0] at hSw oAY oCY gCY fCY beY ⊢
                  clear hy0
                  refine wpAnyH_take (i := 0) (v := ?v41) rfl (by kernel_rfl) (by kernel_rfl) (by kernel_rfl) (fun _ _ _ h => np_panic h) (Or.inl ⟨by rfl, ?hy41⟩) (by assumption) ?_
                  case hy41 => (intro w' hS'; (try dsimp only at hS'); go_simp; try with_reducible rfl)
                  simp only [Act.put, List.setIfInBounds_toArray, List.set_cons_zero, List.set_cons_succ, List.getElem_toArray, List.getElem_cons_zero]
                  refine wpAnyH_take (i := 1) (v := ?v42) rfl (by kernel_rfl) (by kernel_rfl) (by kernel_rfl) (fun _ _ _ h => np_panic h) (Or.inl ⟨by rfl, ?hy42⟩) (by assumption) ?_
                  case hy42 => (intro w' hS'; (try dsimp only at hS'); go_simp; try with_reducible rfl)
                  simp only [Act.put, List.setIfInBounds_toArray, List.set_cons_zero, List.set_cons_succ, List.getElem_toArray, List.getElem_cons_succ, List.getElem_cons_zero]
                  refine wpAnyH_take (i := 2) (v := ?v43) rfl (by kernel_rfl) (by kernel_rfl) (by kernel_rfl) (fun _ _ _ h => np_panic h) (Or.inl ⟨by rfl, ?hy43⟩) (by assumption) ?_
                  case hy43 => (intro w' hS'; (try dsimp only at hS'); go_simp; try with_reducible rfl)
                  simp only [Act.put, List.setIfInBounds_toArray, List.set_cons_zero, List.set_cons_succ, List.getElem_toArray, List.getElem_cons_succ, List.getElem_cons_zero]
                  refine wpAnyH_take (i := 3) (v := ?v44) rfl (by kernel_rfl) (by kernel_rfl) (by kernel_rfl) (fun _ _ _ h => np_panic h) (Or.inl ⟨by rfl, ?hy44⟩) (by assumption) ?_
                  case hy44 => (intro w' hS'; (try dsimp only at hS'); go_simp; try with_reducible rfl)
                  simp only [Act.put, List.setIfInBounds_toArray, List.set_cons_zero, List.set_cons_succ, List.getElem_toArray, List.getElem_cons_succ, List.getElem_cons_zero]
                  refine wpAnyH_take (i := 4) (v := ?v45) rfl (by kernel_rfl) (by kernel_rfl) (by kernel_rfl) (fun _ _ _ h => np_panic h) (Or.inl ⟨by rfl, ?hy45⟩) (by assumption) ?_
                  case hy45 => (intro w' hS'; (try dsimp only at hS'); go_simp; try with_reducible rfl)
                  simp only [Act.put, List.setIfInBounds_toArray, List.set_cons_zero, List.set_cons_succ, List.getElem_toArray, List.getElem_cons_succ, List.getElem_cons_zero]
                  refine wpAnyH_take (i := 6) (v := ?v46) rfl (by kernel_rfl) (by kernel_rfl) (by kernel_rfl) (fun _ _ _ h => np_panic h) (Or.inl ⟨by rfl, ?hy46⟩) (by assumption) ?_
                  case hy46 => (intro w' hS'; (try dsimp only at hS'); go_simp; try with_reducible rfl)
                  simp only [Act.put, List.setIfInBounds_toArray, List.set_cons_zero, List.set_cons_succ, List.getElem_toArray, List.getElem_cons_succ, List.getElem_cons_zero]
                  refine wpAnyH_take (i := 7) (v := ?v47) rfl (by kernel_rfl) (by kernel_rfl) (by kernel_rfl) (fun _ _ _ h => np_panic h) (Or.inl ⟨by rfl, ?hy47⟩) (by assumption) ?_
                  case hy47 => (intro w' hS'; (try dsimp only at hS'); go_simp; try with_reducible rfl)
                  simp only [Act.put, List.setIfInBounds_toArray, List.set_cons_zero, List.set_cons_succ, List.getElem_toArray, List.getElem_cons_succ, List.getElem_cons_zero]
                  refine wpAnyH_take (i := 8) (v := ?v48) rfl (by kernel_rfl) (by kernel_rfl) (by kernel_rfl) (fun _ _ _ h => np_panic h) (Or.inl ⟨by rfl, ?hy48⟩) (by assumption) ?_
                  case hy48 => (intro w' hS'; (try dsimp only at hS'); go_simp; try with_reducible rfl)
                  simp only [Act.put, List.setIfInBounds_toArray, List.set_cons_zero, List.set_cons_succ, List.getElem_toArray, List.getElem_cons_succ, List.getElem_cons_zero]
                  refine wpAnyH_take (i := 9) (v := ?v49) rfl (by kernel_rfl) (by kernel_rfl) (by kernel_rfl) (fun _ _ _ h => np_panic h) (Or.inl ⟨by rfl, ?hy49⟩) (by assumption) ?_
                  case hy49 => (intro w' hS'; (try dsimp only at hS'); go_simp; try with_reducible rfl)
                  simp only [Act.put, List.setIfInBounds_toArray, List.set_cons_zero, List.set_cons_succ, List.getElem_toArray, List.getElem_cons_succ, List.getElem_cons_zero]
                  refine wpAnyH_take (i := 10) (v := ?v50) rfl (by kernel_rfl) (by kernel_rfl) (by kernel_rfl) (fun _ _ _ h => np_panic h) (Or.inl ⟨by rfl, ?hy50⟩) (by assumption) ?_
                  case hy50 => (intro w' hS'; (try dsimp only at hS'); go_simp; try with_reducible rfl)
                  simp only [Act.put, List.setIfInBounds_toArray, List.set_cons_zero, List.set_cons_succ, List.getElem_toArray, List.getElem_cons_succ, List.getElem_cons_zero]
                  refine wpAnyH_take (i := 11) (v := ?v51) rfl (by kernel_rfl) (by kernel_rfl) (by kernel_rfl) (fun _ _ _ h => np_panic h) (Or.inl ⟨by rfl, ?hy51⟩) (by assumption) ?_
                  case hy51 => (intro w' hS'; (try dsimp only at hS'); go_simp; try with_reducible rfl)
                  simp only [Act.put, List.setIfInBounds_toArray, List.set_cons_zero, List.set_cons_succ, List.getElem_toArray, List.getElem_cons_succ, List.getElem_cons_zero]
                  refine wpAnyH_take (i := 12) (v := ?v52) rfl (by kernel_rfl) (by kernel_rfl) (by kernel_rfl) (fun _ _ _ h => np_panic h) (Or.inl ⟨by rfl, ?hy52⟩) (by assumption) ?_
                  case hy52 => (intro w' hS'; (try dsimp only at hS'); go_simp; try with_reducible rfl)
                  simp only [Act.put, List.setIfInBounds_toArray, List.set_cons_zero, List.set_cons_succ, List.getElem_toArray, List.getElem_cons_succ, List.getElem_cons_zero]
                  refine wpAnyH_take (i := 13) (v := ?v53) rfl (by kernel_rfl) (by kernel_rfl) (by kernel_rfl) (fun _ _ _ h => np_panic h) (Or.inl ⟨by rfl, ?hy53⟩) (by assumption) ?_
                  case hy53 => (intro w' hS'; (try dsimp only at hS'); go_simp; try with_reducible rfl)
                  simp only [Act.put, List.setIfInBounds_toArray, List.set_cons_zero, List.set_cons_succ, List.getElem_toArray, List.getElem_cons_succ, List.getElem_cons_zero]
                  refine wpAnyH_take (i := 14) (v := ?v54) rfl (by kernel_rfl) (by kernel_rfl) (by kernel_rfl) (fun _ _ _ h => np_panic h) (Or.inl ⟨by rfl, ?hy54⟩) (by assumption) ?_
                  case hy54 => (intro w' hS'; (try dsimp only at hS'); go_simp; try with_reducible rfl)
                  simp only [Act.put, List.setIfInBounds_toArray, List.set_cons_zero, List.set_cons_succ, List.getElem_toArray, List.getElem_cons_succ, List.getElem_cons_zero]
                  refine wpAnyH_take (i := 16) (v := ?v55) rfl (by kernel_rfl) (by kernel_rfl) (by kernel_rfl) (fun _ _ _ h => np_panic h) (Or.inl ⟨by rfl, ?hy55⟩) (by assumption) ?_
                  case hy55 => (intro w' hS'; (try dsimp only at hS'); go_simp; try with_reducible rfl)
                  simp only [Act.put, List.setIfInBounds_toArray, List.set_cons_zero, List.set_cons_succ, List.getElem_toArray, List.getElem_cons_succ, List.getElem_cons_zero]
                  refine wpAnyH_take (i := 17) (v := ?v56) rfl (by kernel_rfl) (by kernel_rfl) (by kernel_rfl) (fun _ _ _ h => np_panic h) (Or.inl ⟨by rfl, ?hy56⟩) (by assumption) ?_
                  case hy56 => (intro w' hS'; (try dsimp only at hS'); go_simp; try with_reducible rfl)
                  simp only [Act.put, List.setIfInBounds_toArray, List.set_cons_zero, List.set_cons_succ, List.getElem_toArray, List.getElem_cons_succ, List.getElem_cons_zero]
                  refine wpAnyH_take (i := 18) (v := ?v57) rfl (by kernel_rfl) (by kernel_rfl) (by kernel_rfl) (fun _ _ _ h => np_panic h) (Or.inl ⟨by rfl, ?hy57⟩) (by assumption) ?_
                  case hy57 => (intro w' hS'; (try dsimp only at hS'); go_simp; try with_reducible rfl)
                  simp only [Act.put, List.setIfInBounds_toArray, List.set_cons_zero, List.set_cons_succ, List.getElem_toArray, List.getElem_cons_succ, List.getElem_cons_zero]
                  refine wpAnyH_take (i := 19) (v := ?v58) rfl (by kernel_rfl) (by kernel_rfl) (by kernel_rfl) (fun _ _ _ h => np_panic h) (Or.inl ⟨by rfl, ?hy58⟩) (by assumption) ?_
                  case hy58 => (intro w' hS'; (try dsimp only at hS'); go_simp; try with_reducible rfl)
                  simp only [Act.put, List.setIfInBounds_toArray, List.set_cons_zero, List.set_cons_succ, List.getElem_toArray, List.getElem_cons_succ, List.getElem_cons_zero]
                  refine wpAnyH_ready (rs := [5, 15]) (by kernel_rfl) (by simp) ?_
                  refine AllReadyH.cons rfl (fun K hK => ?_) (AllReadyH.cons rfl (fun K hK => ?_) AllReadyH.nil)
                  · go_simp
                    refine hK.out _ _ hSw ?_
                    clear hK K
                    intro hSw
                    try simp only [Act.put, List.setIfInBounds_toArray, List.set_cons_zero, List.set_cons_succ]
                    refine wpAnyH_ready (rs := [15]) (by kernel_rfl) (by simp) ?_
                    refine AllReadyH.cons rfl (fun K hK => ?_) AllReadyH.nil
                    go_simp
                    go_at_call 103
                    refine (product_any x nv m _ hAx.1 hnv.1 hm h62 hAx.2 hnv.2).mono ?_
                    rintro e wx ⟨rfl, hwx⟩
                    obtain rfl := hwx.symm
                    refine hK.out _ _ hSw ?_
                    clear hK K
                    intro hSw
                    try simp only [Act.put, List.setIfInBounds_toArray, List.set_cons_zero, List.set_cons_succ]
                    refine wpAnyH_ready (rs := [20]) (by kernel_rfl) (by simp) ?_
                    refine AllReadyH.cons rfl (fun K hK => ?_) AllReadyH.nil
                    go_simp
                    go_at_call 92
                    refine (sum_any z (prI x nv m) m _ hCx.1 hpr.1 hm h62 hCx.2 hpr.2).mono ?_
                    rintro e wx ⟨rfl, hwx⟩
                    obtain rfl := hwx.symm
                    refine hK.out _ _ hSw ?_
                    clear hK K
                    intro hSw
                    try simp only [Act.put, List.setIfInBounds_toArray, List.set_cons_zero, List.set_cons_succ]
                    refine wpAnyH_take (i := 21) (v := ?v59) rfl (by kernel_rfl) (by kernel_rfl) (by kernel_rfl) (fun _ _ _ h => np_panic h) (Or.inl ⟨by rfl, ?hy59⟩) (by assumption) ?_
                    case hy59 => (intro w' hS'; (try dsimp only at hS'); go_simp; try with_reducible rfl)
                    simp only [Act.put, List.setIfInBounds_toArray, List.set_cons_zero, List.set_cons_succ, List.getElem_toArray, List.getElem_cons_succ, List.getElem_cons_zero]
                    refine wpAnyH_ready (rs := [22]) (by kernel_rfl) (by simp) ?_
                    refine AllReadyH.cons rfl (fun K hK => ?_) AllReadyH.nil
                    go_simp
                    have q9 := World.ownsRow.stored oCY en (.int .i64 (smI z (prI x nv m) m))
                    rw [ints_set] at q9
                    have oA9 := owns_ne (a := ⟨gb, en, none⟩) (u := .int .i64 (smI z (prI x nv m) m)) oAY (by simp [Value.ownBlock]; omega)
                    have be9 := beY.setCell (p := ⟨gb, en, none⟩) hgbw (.int .i64 (smI z (prI x nv m) m))
                    have st9 : World.cell? (World.setCell y0 ⟨gb, en, none⟩ (.int .i64 (smI z (prI x nv m) m))) ⟨ga, mn, none⟩ = some (.int .i64 x) ∧ World.cell? (World.setCell y0 ⟨gb, en, none⟩ (.int .i64 (smI z (prI x nv m) m))) ⟨cb, 5, none⟩ = some (.int .i64 m) := ⟨by rw [World.cell?_of_block (w := y0) (a := ⟨ga, mn, none⟩) (Below.heap_setCell _ _ _ _ (by show ga ≠ gb; omega))]; exact hSw.1, by rw [World.cell?_of_block (w := y0) (a := ⟨cb, 5, none⟩) (Below.heap_setCell _ _ _ _ (by show cb ≠ gb; omega))]; exact hSw.2⟩
                    refine hK.out _ _ st9 ?_
                    clear hK K
                    intro hSw
                    try simp only [Act.put, List.setIfInBounds_toArray, List.set_cons_zero, List.set_cons_succ]
                    refine wpAnyH_done (by kernel_rfl) (NoPanic.normal ?_) _
                    go_wp2_with fail
                    go_roundw
                    case rel => exact ⟨en + 1, C.set en (smI z (prI x nv m) m), by omega, by omega, by go_num, oA9, q9.1, by simpa using hCl, rgC.set hsm, hEE2, be9⟩
                    case measure => simp [intOf]; omega
                  · go_simp
                    go_at_call 103
                    refine (product_any x nv m _ hAx.1 hnv.1 hm h62 hAx.2 hnv.2).mono ?_
                    rintro e wx ⟨rfl, hwx⟩
                    obtain rfl := hwx.symm
                    refine hK.out _ _ hSw ?_
                    clear hK K
                    intro hSw
                    try simp only [Act.put, List.setIfInBounds_toArray, List.set_cons_zero, List.set_cons_succ]
                    refine wpAnyH_ready (rs := [5]) (by kernel_rfl) (by simp) ?_
                    refine AllReadyH.cons rfl (fun K hK => ?_) AllReadyH.nil
                    go_simp
                    refine hK.out _ _ hSw ?_
                    clear hK K
                    intro hSw
                    try simp only [Act.put, List.setIfInBounds_toArray, List.set_cons_zero, List.set_cons_succ]
                    refine wpAnyH_ready (rs := [20]) (by kernel_rfl) (by simp) ?_
                    refine AllReadyH.cons rfl (fun K hK => ?_) AllReadyH.nil
                    go_simp
                    go_at_call 92
                    refine (sum_any z (prI x nv m) m _ hCx.1 hpr.1 hm h62 hCx.2 hpr.2).mono ?_
                    rintro e wx ⟨rfl, hwx⟩
                    obtain rfl := hwx.symm
                    refine hK.out _ _ hSw ?_
                    clear hK K
                    intro hSw
                    try simp only [Act.put, List.setIfInBounds_toArray, List.set_cons_zero, List.set_cons_succ]
                    refine wpAnyH_take (i := 21) (v := ?v60) rfl (by kernel_rfl) (by kernel_rfl) (by kernel_rfl) (fun _ _ _ h => np_panic h) (Or.inl ⟨by rfl, ?hy60⟩) (by assumption) ?_
                    case hy60 => (intro w' hS'; (try dsimp only at hS'); go_simp; try with_reducible rfl)
                    simp only [Act.put, List.setIfInBounds_toArray, List.set_cons_zero, List.set_cons_succ, List.getElem_toArray, List.getElem_cons_succ, List.getElem_cons_zero]
                    refine wpAnyH_ready (rs := [22]) (by kernel_rfl) (by simp) ?_
                    refine AllReadyH.cons rfl (fun K hK => ?_) AllReadyH.nil
                    go_simp
                    have q9 := World.ownsRow.stored oCY en (.int .i64 (smI z (prI x nv m) m))
                    rw [ints_set] at q9
                    have oA9 := owns_ne (a := ⟨gb, en, none⟩) (u := .int .i64 (smI z (prI x nv m) m)) oAY (by simp [Value.ownBlock]; omega)
                    have be9 := beY.setCell (p := ⟨gb, en, none⟩) hgbw (.int .i64 (smI z (prI x nv m) m))
                    have st9 : World.cell? (World.setCell y0 ⟨gb, en, none⟩ (.int .i64 (smI z (prI x nv m) m))) ⟨ga, mn, none⟩ = some (.int .i64 x) ∧ World.cell? (World.setCell y0 ⟨gb, en, none⟩ (.int .i64 (smI z (prI x nv m) m))) ⟨cb, 5, none⟩ = some (.int .i64 m) := ⟨by rw [World.cell?_of_block (w := y0) (a := ⟨ga, mn, none⟩) (Below.heap_setCell _ _ _ _ (by show ga ≠ gb; omega))]; exact hSw.1, by rw [World.cell?_of_block (w := y0) (a := ⟨cb, 5, none⟩) (Below.heap_setCell _ _ _ _ (by show cb ≠ gb; omega))]; exact hSw.2⟩
                    refine hK.out _ _ st9 ?_
                    clear hK K
                    intro hSw
                    try simp only [Act.put, List.setIfInBounds_toArray, List.set_cons_zero, List.set_cons_succ]
                    refine wpAnyH_done (by kernel_rfl) (NoPanic.normal ?_) _
                    go_wp2_with fail
                    go_roundw
                    case rel => exact ⟨en + 1, C.set en (smI z (prI x nv m) m), by omega, by omega, by go_num, oA9, q9.1, by simpa using hCl, rgC.set hsm, hEE2, be9⟩
                    case measure => simp [intOf]; omega
                · have hsn : ¬ (0 : Int) ≤ s := hs
                  have hsb : s < 0 := by omega
                  have hwr : IntKind.i64.wrap (-1 - s) = -1 - s := by rw [IntKind.wrap_i64]; omega
                  have hWm := (hW.lw be3)
                  by_cases hem1 : en = mn + 1
                  · have hmW : mn < W.length := by omega
                    have hmW2 : (mn : Int) < (W.length : Int) := by omega
                    obtain ⟨bW, oW, rfl, cW⟩ := hWm.at_ hmW
                    have hgW : W[mn]? = some W[mn] := List.getElem?_eq_getElem hmW
                    have hmn0 : (0 : Int) ≤ (mn : Int) + 1 := by omega
                    subst hem1
                    by_cases hq : W[mn] = -1 - s
                    · have hvl : vlF f W s mn (mn + 1) = 1 := by unfold vlF; rw [if_neg hs, if_pos ⟨rfl, by rw [hgW, hq]⟩]
                      rw [hq] at cW
                      rw [hvl] at hEE'
                      have hnv : (0 : Int) ≤ 1 ∧ (1 : Int) ≤ m := by omega
                      have hpr := prI_rng (b := 1) hAx.1 hnv.1 hm
                      have hsm := smI_rng hCx.1 hpr.1 hm
                      have hEE2 : Hid ((if 0 < x then lpE (vlF f W s mn) x m (j + 1 - ((mn + 1) + 1)) ((mn + 1) + 1) (C.set (mn + 1) (smI z (prI x 1 m) m)) else C.set (mn + 1) (smI z (prI x 1 m) m)) = RE) := hd (by rw [if_pos hpos, show j + 1 - ((mn + 1) + 1) = j - (mn + 1) by omega]; exact hEE')
                      clear hEE' hEE hvl
                      go_wp2_with fail
                      go_quiet (fail)
                      go_wp2_with fail
                      obtain ⟨Y, hY⟩ : ∃ Y, Y = wr.drewN nq := ⟨_, rfl⟩
                      have bY : Below wr.heap.size wr Y := by rw [hY]; exact drwN wr nq
                      rw [← hY]
                      clear hY
                      have bYd : Below wr.heap.size wr Y.drew := bthen bY (drw1 Y)
                      have oAY := owns_below oA3 bYd
                      have oCY := owns_below oC bYd
                      have gCY := bkeep bYd gC
                      have S18 : World.cell? Y.drew ⟨ga, mn, none⟩ = some (.int .i64 x) ∧ World.cell? Y.drew ⟨cb, 5, none⟩ = some (.int .i64 m) := ⟨bkeep bYd gA3, bkeep bYd k5'⟩
                      have fCY := World.ownsRow.frozenAt oCY
                      have beY := bthen be3 bYd
                      refine wp_region_noPanic ?_
                      refine wp_region_held_drew (S := fun w' => World.cell? w' ⟨ga, mn, none⟩ = some (.int .i64 x) ∧ World.cell? w' ⟨cb, 5, none⟩ = some (.int .i64 m)) (by kernel_rfl) S18 ?_
                      intro hSw
                      obtain ⟨y0, hy0⟩ : ∃ y0, y0 = Y.drew := ⟨_, rfl⟩
                      rw [← hy0] at hSw oAY oCY gCY fCY beY ⊢
                      clear hy0
                      refine wpAnyH_take (i := 0) (v := ?v1) rfl (by kernel_rfl) (by kernel_rfl) (by kernel_rfl) (fun _ _ _ h => np_panic h) (Or.inl ⟨by rfl, ?hy1⟩) (by assumption) ?_
                      case hy1 => (intro w' hS'; (try dsimp only at hS'); go_simp; try with_reducible rfl)
                      simp only [Act.put, List.setIfInBounds_toArray, List.set_cons_zero, List.set_cons_succ, List.getElem_toArray, List.getElem_cons_zero]
                      refine wpAnyH_take (i := 1) (v := ?v2) rfl (by kernel_rfl) (by kernel_rfl) (by kernel_rfl) (fun _ _ _ h => np_panic h) (Or.inl ⟨by rfl, ?hy2⟩) (by assumption) ?_
                      case hy2 => (intro w' hS'; (try dsimp only at hS'); go_simp; try with_reducible rfl)
                      simp only [Act.put, List.setIfInBounds_toArray, List.set_cons_zero, List.set_cons_succ, List.getElem_toArray, List.getElem_cons_succ, List.getElem_cons_zero]
                      refine wpAnyH_take (i := 2) (v := ?v3) rfl (by kernel_rfl) (by kernel_rfl) (by kernel_rfl) (fun _ _ _ h => np_panic h) (Or.inl ⟨by rfl, ?hy3⟩) (by assumption) ?_
                      case hy3 => (intro w' hS'; (try dsimp only at hS'); go_simp; try with_reducible rfl)
                      simp only [Act.put, List.setIfInBounds_toArray, List.set_cons_zero, List.set_cons_succ, List.getElem_toArray, List.getElem_cons_succ, List.getElem_cons_zero]
                      refine wpAnyH_take (i := 3) (v := ?v4) rfl (by kernel_rfl) (by kernel_rfl) (by kernel_rfl) (fun _ _ _ h => np_panic h) (Or.inl ⟨by rfl, ?hy4⟩) (by assumption) ?_
                      case hy4 => (intro w' hS'; (try dsimp only at hS'); go_simp; try with_reducible rfl)
                      simp only [Act.put, List.setIfInBounds_toArray, List.set_cons_zero, List.set_cons_succ, List.getElem_toArray, List.getElem_cons_succ, List.getElem_cons_zero]
                      refine wpAnyH_take (i := 4) (v := ?v5) rfl (by kernel_rfl) (by kernel_rfl) (by kernel_rfl) (fun _ _ _ h => np_panic h) (Or.inl ⟨by rfl, ?hy5⟩) (by assumption) ?_
                      case hy5 => (intro w' hS'; (try dsimp only at hS'); go_simp; try with_reducible rfl)
                      simp only [Act.put, List.setIfInBounds_toArray, List.set_cons_zero, List.set_cons_succ, List.getElem_toArray, List.getElem_cons_succ, List.getElem_cons_zero]
                      refine wpAnyH_take (i := 6) (v := ?v6) rfl (by kernel_rfl) (by kernel_rfl) (by kernel_rfl) (fun _ _ _ h => np_panic h) (Or.inl ⟨by rfl, ?hy6⟩) (by assumption) ?_
                      case hy6 => (intro w' hS'; (try dsimp only at hS'); go_simp; try with_reducible rfl)
                      simp only [Act.put, List.setIfInBounds_toArray, List.set_cons_zero, List.set_cons_succ, List.getElem_toArray, List.getElem_cons_succ, List.getElem_cons_zero]
                      refine wpAnyH_take (i := 7) (v := ?v7) rfl (by kernel_rfl) (by kernel_rfl) (by kernel_rfl) (fun _ _ _ h => np_panic h) (Or.inl ⟨by rfl, ?hy7⟩) (by assumption) ?_
                      case hy7 => (intro w' hS'; (try dsimp only at hS'); go_simp; try with_reducible rfl)
                      simp only [Act.put, List.setIfInBounds_toArray, List.set_cons_zero, List.set_cons_succ, List.getElem_toArray, List.getElem_cons_succ, List.getElem_cons_zero]
                      refine wpAnyH_take (i := 8) (v := ?v8) rfl (by kernel_rfl) (by kernel_rfl) (by kernel_rfl) (fun _ _ _ h => np_panic h) (Or.inl ⟨by rfl, ?hy8⟩) (by assumption) ?_
                      case hy8 => (intro w' hS'; (try dsimp only at hS'); go_simp; try with_reducible rfl)
                      simp only [Act.put, List.setIfInBounds_toArray, List.set_cons_zero, List.set_cons_succ, List.getElem_toArray, List.getElem_cons_succ, List.getElem_cons_zero]
                      refine wpAnyH_take (i := 9) (v := ?v9) rfl (by kernel_rfl) (by kernel_rfl) (by kernel_rfl) (fun _ _ _ h => np_panic h) (Or.inl ⟨by rfl, ?hy9⟩) (by assumption) ?_
                      case hy9 => (intro w' hS'; (try dsimp only at hS'); go_simp; try with_reducible rfl)
                      simp only [Act.put, List.setIfInBounds_toArray, List.set_cons_zero, List.set_cons_succ, List.getElem_toArray, List.getElem_cons_succ, List.getElem_cons_zero]
                      refine wpAnyH_take (i := 10) (v := ?v10) rfl (by kernel_rfl) (by kernel_rfl) (by kernel_rfl) (fun _ _ _ h => np_panic h) (Or.inl ⟨by rfl, ?hy10⟩) (by assumption) ?_
                      case hy10 => (intro w' hS'; (try dsimp only at hS'); go_simp; try with_reducible rfl)
                      simp only [Act.put, List.setIfInBounds_toArray, List.set_cons_zero, List.set_cons_succ, List.getElem_toArray, List.getElem_cons_succ, List.getElem_cons_zero]
                      refine wpAnyH_take (i := 11) (v := ?v11) rfl (by kernel_rfl) (by kernel_rfl) (by kernel_rfl) (fun _ _ _ h => np_panic h) (Or.inl ⟨by rfl, ?hy11⟩) (by assumption) ?_
                      case hy11 => (intro w' hS'; (try dsimp only at hS'); go_simp; try with_reducible rfl)
                      simp only [Act.put, List.setIfInBounds_toArray, List.set_cons_zero, List.set_cons_succ, List.getElem_toArray, List.getElem_cons_succ, List.getElem_cons_zero]
                      refine wpAnyH_take (i := 12) (v := ?v12) rfl (by kernel_rfl) (by kernel_rfl) (by kernel_rfl) (fun _ _ _ h => np_panic h) (Or.inl ⟨by rfl, ?hy12⟩) (by assumption) ?_
                      case hy12 => (intro w' hS'; (try dsimp only at hS'); go_simp; try with_reducible rfl)
                      simp only [Act.put, List.setIfInBounds_toArray, List.set_cons_zero, List.set_cons_succ, List.getElem_toArray, List.getElem_cons_succ, List.getElem_cons_zero]
                      refine wpAnyH_take (i := 13) (v := ?v13) rfl (by kernel_rfl) (by kernel_rfl) (by kernel_rfl) (fun _ _ _ h => np_panic h) (Or.inl ⟨by rfl, ?hy13⟩) (by assumption) ?_
                      case hy13 => (intro w' hS'; (try dsimp only at hS'); go_simp; try with_reducible rfl)
                      simp only [Act.put, List.setIfInBounds_toArray, List.set_cons_zero, List.set_cons_succ, List.getElem_toArray, List.getElem_cons_succ, List.getElem_cons_zero]
                      refine wpAnyH_take (i := 14) (v := ?v14) rfl (by kernel_rfl) (by kernel_rfl) (by kernel_rfl) (fun _ _ _ h => np_panic h) (Or.inl ⟨by rfl, ?hy14⟩) (by assumption) ?_
                      case hy14 => (intro w' hS'; (try dsimp only at hS'); go_simp; try with_reducible rfl)
                      simp only [Act.put, List.setIfInBounds_toArray, List.set_cons_zero, List.set_cons_succ, List.getElem_toArray, List.getElem_cons_succ, List.getElem_cons_zero]
                      refine wpAnyH_take (i := 16) (v := ?v15) rfl (by kernel_rfl) (by kernel_rfl) (by kernel_rfl) (fun _ _ _ h => np_panic h) (Or.inl ⟨by rfl, ?hy15⟩) (by assumption) ?_
                      case hy15 => (intro w' hS'; (try dsimp only at hS'); go_simp; try with_reducible rfl)
                      simp only [Act.put, List.setIfInBounds_toArray, List.set_cons_zero, List.set_cons_succ, List.getElem_toArray, List.getElem_cons_succ, List.getElem_cons_zero]
                      refine wpAnyH_take (i := 17) (v := ?v16) rfl (by kernel_rfl) (by kernel_rfl) (by kernel_rfl) (fun _ _ _ h => np_panic h) (Or.inl ⟨by rfl, ?hy16⟩) (by assumption) ?_
                      case hy16 => (intro w' hS'; (try dsimp only at hS'); go_simp; try with_reducible rfl)
                      simp only [Act.put, List.setIfInBounds_toArray, List.set_cons_zero, List.set_cons_succ, List.getElem_toArray, List.getElem_cons_succ, List.getElem_cons_zero]
                      refine wpAnyH_take (i := 18) (v := ?v17) rfl (by kernel_rfl) (by kernel_rfl) (by kernel_rfl) (fun _ _ _ h => np_panic h) (Or.inl ⟨by rfl, ?hy17⟩) (by assumption) ?_
                      case hy17 => (intro w' hS'; (try dsimp only at hS'); go_simp; try with_reducible rfl)
                      simp only [Act.put, List.setIfInBounds_toArray, List.set_cons_zero, List.set_cons_succ, List.getElem_toArray, List.getElem_cons_succ, List.getElem_cons_zero]
                      refine wpAnyH_take (i := 19) (v := ?v18) rfl (by kernel_rfl) (by kernel_rfl) (by kernel_rfl) (fun _ _ _ h => np_panic h) (Or.inl ⟨by rfl, ?hy18⟩) (by assumption) ?_
                      case hy18 => (intro w' hS'; (try dsimp only at hS'); go_simp; try with_reducible rfl)
                      simp only [Act.put, List.setIfInBounds_toArray, List.set_cons_zero, List.set_cons_succ, List.getElem_toArray, List.getElem_cons_succ, List.getElem_cons_zero]
                      refine wpAnyH_ready (rs := [5, 15]) (by kernel_rfl) (by simp) ?_
                      refine AllReadyH.cons rfl (fun K hK => ?_) (AllReadyH.cons rfl (fun K hK => ?_) AllReadyH.nil)
                      · go_simp
                        refine hK.out _ _ hSw ?_
                        clear hK K
                        intro hSw
                        try simp only [Act.put, List.setIfInBounds_toArray, List.set_cons_zero, List.set_cons_succ]
                        refine wpAnyH_ready (rs := [15]) (by kernel_rfl) (by simp) ?_
                        refine AllReadyH.cons rfl (fun K hK => ?_) AllReadyH.nil
                        go_simp
                        go_at_call 103
                        refine (product_any x 1 m _ hAx.1 hnv.1 hm h62 hAx.2 hnv.2).mono ?_
                        rintro e wx ⟨rfl, hwx⟩
                        obtain rfl := hwx.symm
                        refine hK.out _ _ hSw ?_
                        clear hK K
                        intro hSw
                        try simp only [Act.put, List.setIfInBounds_toArray, List.set_cons_zero, List.set_cons_succ]
                        refine wpAnyH_ready (rs := [20]) (by kernel_rfl) (by simp) ?_
                        refine AllReadyH.cons rfl (fun K hK => ?_) AllReadyH.nil
                        go_simp
                        go_at_call 92
                        refine (sum_any z (prI x 1 m) m _ hCx.1 hpr.1 hm h62 hCx.2 hpr.2).mono ?_
                        rintro e wx ⟨rfl, hwx⟩
                        obtain rfl := hwx.symm
                        refine hK.out _ _ hSw ?_
                        clear hK K
                        intro hSw
                        try simp only [Act.put, List.setIfInBounds_toArray, List.set_cons_zero, List.set_cons_succ]
                        refine wpAnyH_take (i := 21) (v := ?v19) rfl (by kernel_rfl) (by kernel_rfl) (by kernel_rfl) (fun _ _ _ h => np_panic h) (Or.inl ⟨by rfl, ?hy19⟩) (by assumption) ?_
                        case hy19 => (intro w' hS'; (try dsimp only at hS'); go_simp; try with_reducible rfl)
                        simp only [Act.put, List.setIfInBounds_toArray, List.set_cons_zero, List.set_cons_succ, List.getElem_toArray, List.getElem_cons_succ, List.getElem_cons_zero]
                        refine wpAnyH_ready (rs := [22]) (by kernel_rfl) (by simp) ?_
                        refine AllReadyH.cons rfl (fun K hK => ?_) AllReadyH.nil
                        go_simp
                        have q9 := World.ownsRow.stored oCY (mn + 1) (.int .i64 (smI z (prI x 1 m) m))
                        rw [ints_set] at q9
                        have oA9 := owns_ne (a := ⟨gb, (mn + 1), none⟩) (u := .int .i64 (smI z (prI x 1 m) m)) oAY (by simp [Value.ownBlock]; omega)
                        have be9 := beY.setCell (p := ⟨gb, (mn + 1), none⟩) hgbw (.int .i64 (smI z (prI x 1 m) m))
                        have st9 : World.cell? (World.setCell y0 ⟨gb, (mn + 1), none⟩ (.int .i64 (smI z (prI x 1 m) m))) ⟨ga, mn, none⟩ = some (.int .i64 x) ∧ World.cell? (World.setCell y0 ⟨gb, (mn + 1), none⟩ (.int .i64 (smI z (prI x 1 m) m))) ⟨cb, 5, none⟩ = some (.int .i64 m) := ⟨by rw [World.cell?_of_block (w := y0) (a := ⟨ga, mn, none⟩) (Below.heap_setCell _ _ _ _ (by show ga ≠ gb; omega))]; exact hSw.1, by rw [World.cell?_of_block (w := y0) (a := ⟨cb, 5, none⟩) (Below.heap_setCell _ _ _ _ (by show cb ≠ gb; omega))]; exact hSw.2⟩
                        refine hK.out _ _ st9 ?_
                        clear hK K
                        intro hSw
                        try simp only [Act.put, List.setIfInBounds_toArray, List.set_cons_zero, List.set_cons_succ]
                        refine wpAnyH_done (by kernel_rfl) (NoPanic.normal ?_) _
                        go_wp2_with fail
                        go_roundw
                        case rel => exact ⟨(mn + 1) + 1, C.set (mn + 1) (smI z (prI x 1 m) m), by omega, by omega, by go_num, oA9, q9.1, by simpa using hCl, rgC.set hsm, hEE2, be9⟩
                        case measure => simp [intOf]; omega
                      · go_simp
                        go_at_call 103
                        refine (product_any x 1 m _ hAx.1 hnv.1 hm h62 hAx.2 hnv.2).mono ?_
                        rintro e wx ⟨rfl, hwx⟩
                        obtain rfl := hwx.symm
                        refine hK.out _ _ hSw ?_
                        clear hK K
                        intro hSw
                        try simp only [Act.put, List.setIfInBounds_toArray, List.set_cons_zero, List.set_cons_succ]
                        refine wpAnyH_ready (rs := [5]) (by kernel_rfl) (by simp) ?_
                        refine AllReadyH.cons rfl (fun K hK => ?_) AllReadyH.nil
                        go_simp
                        refine hK.out _ _ hSw ?_
                        clear hK K
                        intro hSw
                        try simp only [Act.put, List.setIfInBounds_toArray, List.set_cons_zero, List.set_cons_succ]
                        refine wpAnyH_ready (rs := [20]) (by kernel_rfl) (by simp) ?_
                        refine AllReadyH.cons rfl (fun K hK => ?_) AllReadyH.nil
                        go_simp
                        go_at_call 92
                        refine (sum_any z (prI x 1 m) m _ hCx.1 hpr.1 hm h62 hCx.2 hpr.2).mono ?_
                        rintro e wx ⟨rfl, hwx⟩
                        obtain rfl := hwx.symm
                        refine hK.out _ _ hSw ?_
                        clear hK K
                        intro hSw
                        try simp only [Act.put, List.setIfInBounds_toArray, List.set_cons_zero, List.set_cons_succ]
                        refine wpAnyH_take (i := 21) (v := ?v20) rfl (by kernel_rfl) (by kernel_rfl) (by kernel_rfl) (fun _ _ _ h => np_panic h) (Or.inl ⟨by rfl, ?hy20⟩) (by assumption) ?_
                        case hy20 => (intro w' hS'; (try dsimp only at hS'); go_simp; try with_reducible rfl)
                        simp only [Act.put, List.setIfInBounds_toArray, List.set_cons_zero, List.set_cons_succ, List.getElem_toArray, List.getElem_cons_succ, List.getElem_cons_zero]
                        refine wpAnyH_ready (rs := [22]) (by kernel_rfl) (by simp) ?_
                        refine AllReadyH.cons rfl (fun K hK => ?_) AllReadyH.nil
                        go_simp
                        have q9 := World.ownsRow.stored oCY (mn + 1) (.int .i64 (smI z (prI x 1 m) m))
                        rw [ints_set] at q9
                        have oA9 := owns_ne (a := ⟨gb, (mn + 1), none⟩) (u := .int .i64 (smI z (prI x 1 m) m)) oAY (by simp [Value.ownBlock]; omega)
                        have be9 := beY.setCell (p := ⟨gb, (mn + 1), none⟩) hgbw (.int .i64 (smI z (prI x 1 m) m))
                        have st9 : World.cell? (World.setCell y0 ⟨gb, (mn + 1), none⟩ (.int .i64 (smI z (prI x 1 m) m))) ⟨ga, mn, none⟩ = some (.int .i64 x) ∧ World.cell? (World.setCell y0 ⟨gb, (mn + 1), none⟩ (.int .i64 (smI z (prI x 1 m) m))) ⟨cb, 5, none⟩ = some (.int .i64 m) := ⟨by rw [World.cell?_of_block (w := y0) (a := ⟨ga, mn, none⟩) (Below.heap_setCell _ _ _ _ (by show ga ≠ gb; omega))]; exact hSw.1, by rw [World.cell?_of_block (w := y0) (a := ⟨cb, 5, none⟩) (Below.heap_setCell _ _ _ _ (by show cb ≠ gb; omega))]; exact hSw.2⟩
                        refine hK.out _ _ st9 ?_
                        clear hK K
                        intro hSw
                        try simp only [Act.put, List.setIfInBounds_toArray, List.set_cons_zero, List.set_cons_succ]
                        refine wpAnyH_done (by kernel_rfl) (NoPanic.normal ?_) _
                        go_wp2_with fail
                        go_roundw
                        case rel => exact ⟨(mn + 1) + 1, C.set (mn + 1) (smI z (prI x 1 m) m), by omega, by omega, by go_num, oA9, q9.1, by simpa using hCl, rgC.set hsm, hEE2, be9⟩
                        case measure => simp [intOf]; omega
                    · have hvl : vlF f W s mn (mn + 1) = 0 := by unfold vlF; rw [if_neg hs, if_neg (by rw [hgW]; simp [hq])]
                      have hqb : (W[mn] == -1 - s) = false := by simpa using hq
                      generalize W[mn] = wm at *
                      rw [hvl] at hEE'
                      have hnv : (0 : Int) ≤ 0 ∧ (0 : Int) ≤ m := by omega
                      have hpr := prI_rng (b := 0) hAx.1 hnv.1 hm
                      have hsm := smI_rng hCx.1 hpr.1 hm
                      have hEE2 : Hid ((if 0 < x then lpE (vlF f W s mn) x m (j + 1 - ((mn + 1) + 1)) ((mn + 1) + 1) (C.set (mn + 1) (smI z (prI x 0 m) m)) else C.set (mn + 1) (smI z (prI x 0 m) m)) = RE) := hd (by rw [if_pos hpos, show j + 1 - ((mn + 1) + 1) = j - (mn + 1) by omega]; exact hEE')
                      clear hEE' hEE hvl
                      go_wp2_with fail
                      go_quiet (fail)
                      go_wp2_with fail
                      obtain ⟨Y, hY⟩ : ∃ Y, Y = wr.drewN nq := ⟨_, rfl⟩
                      have bY : Below wr.heap.size wr Y := by rw [hY]; exact drwN wr nq
                      rw [← hY]
                      clear hY
                      have bYd : Below wr.heap.size wr Y.drew := bthen bY (drw1 Y)
                      have oAY := owns_below oA3 bYd
                      have oCY := owns_below oC bYd
                      have gCY := bkeep bYd gC
                      have S18 : World.cell? Y.drew ⟨ga, mn, none⟩ = some (.int .i64 x) ∧ World.cell? Y.drew ⟨cb, 5, none⟩ = some (.int .i64 m) := ⟨bkeep bYd gA3, bkeep bYd k5'⟩
                      have fCY := World.ownsRow.frozenAt oCY
                      have beY := bthen be3 bYd
                      refine wp_region_noPanic ?_
                      refine wp_region_held_drew (S := fun w' => World.cell? w' ⟨ga, mn, none⟩ = some (.int .i64 x) ∧ World.cell? w' ⟨cb, 5, none⟩ = some (.int .i64 m)) (by kernel_rfl) S18 ?_
                      intro hSw
                      obtain ⟨y0, hy0⟩ : ∃ y0, y0 = Y.drew := ⟨_, rfl⟩
                      rw [← hy0] at hSw oAY oCY gCY fCY beY ⊢
                      clear hy0
                      refine wpAnyH_take (i := 0) (v := ?v21) rfl (by kernel_rfl) (by kernel_rfl) (by kernel_rfl) (fun _ _ _ h => np_panic h) (Or.inl ⟨by rfl, ?hy21⟩) (by assumption) ?_
                      case hy21 => (intro w' hS'; (try dsimp only at hS'); go_simp; try with_reducible rfl)
                      simp only [Act.put, List.setIfInBounds_toArray, List.set_cons_zero, List.set_cons_succ, List.getElem_toArray, List.getElem_cons_zero]
                      refine wpAnyH_take (i := 1) (v := ?v22) rfl (by kernel_rfl) (by kernel_rfl) (by kernel_rfl) (fun _ _ _ h => np_panic h) (Or.inl ⟨by rfl, ?hy22⟩) (by assumption) ?_
                      case hy22 => (intro w' hS'; (try dsimp only at hS'); go_simp; try with_reducible rfl)
                      simp only [Act.put, List.setIfInBounds_toArray, List.set_cons_zero, List.set_cons_succ, List.getElem_toArray, List.getElem_cons_succ, List.getElem_cons_zero]
                      refine wpAnyH_take (i := 2) (v := ?v23) rfl (by kernel_rfl) (by kernel_rfl) (by kernel_rfl) (fun _ _ _ h => np_panic h) (Or.inl ⟨by rfl, ?hy23⟩) (by assumption) ?_
                      case hy23 => (intro w' hS'; (try dsimp only at hS'); go_simp; try with_reducible rfl)
                      simp only [Act.put, List.setIfInBounds_toArray, List.set_cons_zero, List.set_cons_succ, List.getElem_toArray, List.getElem_cons_succ, List.getElem_cons_zero]
                      refine wpAnyH_take (i := 3) (v := ?v24) rfl (by kernel_rfl) (by kernel_rfl) (by kernel_rfl) (fun _ _ _ h => np_panic h) (Or.inl ⟨by rfl, ?hy24⟩) (by assumption) ?_
                      case hy24 => (intro w' hS'; (try dsimp only at hS'); go_simp; try with_reducible rfl)
                      simp only [Act.put, List.setIfInBounds_toArray, List.set_cons_zero, List.set_cons_succ, List.getElem_toArray, List.getElem_cons_succ, List.getElem_cons_zero]
                      refine wpAnyH_take (i := 4) (v := ?v25) rfl (by kernel_rfl) (by kernel_rfl) (by kernel_rfl) (fun _ _ _ h => np_panic h) (Or.inl ⟨by rfl, ?hy25⟩) (by assumption) ?_
                      case hy25 => (intro w' hS'; (try dsimp only at hS'); go_simp; try with_reducible rfl)
                      simp only [Act.put, List.setIfInBounds_toArray, List.set_cons_zero, List.set_cons_succ, List.getElem_toArray, List.getElem_cons_succ, List.getElem_cons_zero]
                      refine wpAnyH_take (i := 6) (v := ?v26) rfl (by kernel_rfl) (by kernel_rfl) (by kernel_rfl) (fun _ _ _ h => np_panic h) (Or.inl ⟨by rfl, ?hy26⟩) (by assumption) ?_
                      case hy26 => (intro w' hS'; (try dsimp only at hS'); go_simp; try with_reducible rfl)
                      simp only [Act.put, List.setIfInBounds_toArray, List.set_cons_zero, List.set_cons_succ, List.getElem_toArray, List.getElem_cons_succ, List.getElem_cons_zero]
                      refine wpAnyH_take (i := 7) (v := ?v27) rfl (by kernel_rfl) (by kernel_rfl) (by kernel_rfl) (fun _ _ _ h => np_panic h) (Or.inl ⟨by rfl, ?hy27⟩) (by assumption) ?_
                      case hy27 => (intro w' hS'; (try dsimp only at hS'); go_simp; try with_reducible rfl)
                      simp only [Act.put, List.setIfInBounds_toArray, List.set_cons_zero, List.set_cons_succ, List.getElem_toArray, List.getElem_cons_succ, List.getElem_cons_zero]
                      refine wpAnyH_take (i := 8) (v := ?v28) rfl (by kernel_rfl) (by kernel_rfl) (by kernel_rfl) (fun _ _ _ h => np_panic h) (Or.inl ⟨by rfl, ?hy28⟩) (by assumption) ?_
                      case hy28 => (intro w' hS'; (try dsimp only at hS'); go_simp; try with_reducible rfl)
                      simp only [Act.put, List.setIfInBounds_toArray, List.set_cons_zero, List.set_cons_succ, List.getElem_toArray, List.getElem_cons_succ, List.getElem_cons_zero]
                      refine wpAnyH_take (i := 9) (v := ?v29) rfl (by kernel_rfl) (by kernel_rfl) (by kernel_rfl) (fun _ _ _ h => np_panic h) (Or.inl ⟨by rfl, ?hy29⟩) (by assumption) ?_
                      case hy29 => (intro w' hS'; (try dsimp only at hS'); go_simp; try with_reducible rfl)
                      simp only [Act.put, List.setIfInBounds_toArray, List.set_cons_zero, List.set_cons_succ, List.getElem_toArray, List.getElem_cons_succ, List.getElem_cons_zero]
                      refine wpAnyH_take (i := 10) (v := ?v30) rfl (by kernel_rfl) (by kernel_rfl) (by kernel_rfl) (fun _ _ _ h => np_panic h) (Or.inl ⟨by rfl, ?hy30⟩) (by assumption) ?_
                      case hy30 => (intro w' hS'; (try dsimp only at hS'); go_simp; try with_reducible rfl)
                      simp only [Act.put, List.setIfInBounds_toArray, List.set_cons_zero, List.set_cons_succ, List.getElem_toArray, List.getElem_cons_succ, List.getElem_cons_zero]
                      refine wpAnyH_take (i := 11) (v := ?v31) rfl (by kernel_rfl) (by kernel_rfl) (by kernel_rfl) (fun _ _ _ h => np_panic h) (Or.inl ⟨by rfl, ?hy31⟩) (by assumption) ?_
                      case hy31 => (intro w' hS'; (try dsimp only at hS'); go_simp; try with_reducible rfl)
                      simp only [Act.put, List.setIfInBounds_toArray, List.set_cons_zero, List.set_cons_succ, List.getElem_toArray, List.getElem_cons_succ, List.getElem_cons_zero]
                      refine wpAnyH_take (i := 12) (v := ?v32) rfl (by kernel_rfl) (by kernel_rfl) (by kernel_rfl) (fun _ _ _ h => np_panic h) (Or.inl ⟨by rfl, ?hy32⟩) (by assumption) ?_
                      case hy32 => (intro w' hS'; (try dsimp only at hS'); go_simp; try with_reducible rfl)
                      simp only [Act.put, List.setIfInBounds_toArray, List.set_cons_zero, List.set_cons_succ, List.getElem_toArray, List.getElem_cons_succ, List.getElem_cons_zero]
                      refine wpAnyH_take (i := 13) (v := ?v33) rfl (by kernel_rfl) (by kernel_rfl) (by kernel_rfl) (fun _ _ _ h => np_panic h) (Or.inl ⟨by rfl, ?hy33⟩) (by assumption) ?_
                      case hy33 => (intro w' hS'; (try dsimp only at hS'); go_simp; try with_reducible rfl)
                      simp only [Act.put, List.setIfInBounds_toArray, List.set_cons_zero, List.set_cons_succ, List.getElem_toArray, List.getElem_cons_succ, List.getElem_cons_zero]
                      refine wpAnyH_take (i := 14) (v := ?v34) rfl (by kernel_rfl) (by kernel_rfl) (by kernel_rfl) (fun _ _ _ h => np_panic h) (Or.inl ⟨by rfl, ?hy34⟩) (by assumption) ?_
                      case hy34 => (intro w' hS'; (try dsimp only at hS'); go_simp; try with_reducible rfl)
                      simp only [Act.put, List.setIfInBounds_toArray, List.set_cons_zero, List.set_cons_succ, List.getElem_toArray, List.getElem_cons_succ, List.getElem_cons_zero]
                      refine wpAnyH_take (i := 16) (v := ?v35) rfl (by kernel_rfl) (by kernel_rfl) (by kernel_rfl) (fun _ _ _ h => np_panic h) (Or.inl ⟨by rfl, ?hy35⟩) (by assumption) ?_
                      case hy35 => (intro w' hS'; (try dsimp only at hS'); go_simp; try with_reducible rfl)
                      simp only [Act.put, List.setIfInBounds_toArray, List.set_cons_zero, List.set_cons_succ, List.getElem_toArray, List.getElem_cons_succ, List.getElem_cons_zero]
                      refine wpAnyH_take (i := 17) (v := ?v36) rfl (by kernel_rfl) (by kernel_rfl) (by kernel_rfl) (fun _ _ _ h => np_panic h) (Or.inl ⟨by rfl, ?hy36⟩) (by assumption) ?_
                      case hy36 => (intro w' hS'; (try dsimp only at hS'); go_simp; try with_reducible rfl)
                      simp only [Act.put, List.setIfInBounds_toArray, List.set_cons_zero, List.set_cons_succ, List.getElem_toArray, List.getElem_cons_succ, List.getElem_cons_zero]
                      refine wpAnyH_take (i := 18) (v := ?v37) rfl (by kernel_rfl) (by kernel_rfl) (by kernel_rfl) (fun _ _ _ h => np_panic h) (Or.inl ⟨by rfl, ?hy37⟩) (by assumption) ?_
                      case hy37 => (intro w' hS'; (try dsimp only at hS'); go_simp; try with_reducible rfl)
                      simp only [Act.put, List.setIfInBounds_toArray, List.set_cons_zero, List.set_cons_succ, List.getElem_toArray, List.getElem_cons_succ, List.getElem_cons_zero]
                      refine wpAnyH_take (i := 19) (v := ?v38) rfl (by kernel_rfl) (by kernel_rfl) (by kernel_rfl) (fun _ _ _ h => np_panic h) (Or.inl ⟨by rfl, ?hy38⟩) (by assumption) ?_
                      case hy38 => (intro w' hS'; (try dsimp only at hS'); go_simp; try with_reducible rfl)
                      simp only [Act.put, List.setIfInBounds_toArray, List.set_cons_zero, List.set_cons_succ, List.getElem_toArray, List.getElem_cons_succ, List.getElem_cons_zero]
                      refine wpAnyH_ready (rs := [5, 15]) (by kernel_rfl) (by simp) ?_
                      refine AllReadyH.cons rfl (fun K hK => ?_) (AllReadyH.cons rfl (fun K hK => ?_) AllReadyH.nil)
                      · go_simp
                        refine hK.out _ _ hSw ?_
                        clear hK K
                        intro hSw
                        try simp only [Act.put, List.setIfInBounds_toArray, List.set_cons_zero, List.set_cons_succ]
                        refine wpAnyH_ready (rs := [15]) (by kernel_rfl) (by simp) ?_
                        refine AllReadyH.cons rfl (fun K hK => ?_) AllReadyH.nil
                        go_simp
                        go_at_call 103
                        refine (product_any x 0 m _ hAx.1 hnv.1 hm h62 hAx.2 hnv.2).mono ?_
                        rintro e wx ⟨rfl, hwx⟩
                        obtain rfl := hwx.symm
                        refine hK.out _ _ hSw ?_
                        clear hK K
                        intro hSw
                        try simp only [Act.put, List.setIfInBounds_toArray, List.set_cons_zero, List.set_cons_succ]
                        refine wpAnyH_ready (rs := [20]) (by kernel_rfl) (by simp) ?_
                        refine AllReadyH.cons rfl (fun K hK => ?_) AllReadyH.nil
                        go_simp
                        go_at_call 92
                        refine (sum_any z (prI x 0 m) m _ hCx.1 hpr.1 hm h62 hCx.2 hpr.2).mono ?_
                        rintro e wx ⟨rfl, hwx⟩
                        obtain rfl := hwx.symm
                        refine hK.out _ _ hSw ?_
                        clear hK K
                        intro hSw
                        try simp only [Act.put, List.setIfInBounds_toArray, List.set_cons_zero, List.set_cons_succ]
                        refine wpAnyH_take (i := 21) (v := ?v39) rfl (by kernel_rfl) (by kernel_rfl) (by kernel_rfl) (fun _ _ _ h => np_panic h) (Or.inl ⟨by rfl, ?hy39⟩) (by assumption) ?_
                        case hy39 => (intro w' hS'; (try dsimp only at hS'); go_simp; try with_reducible rfl)
                        simp only [Act.put, List.setIfInBounds_toArray, List.set_cons_zero, List.set_cons_succ, List.getElem_toArray, List.getElem_cons_succ, List.getElem_cons_zero]
                        refine wpAnyH_ready (rs := [22]) (by kernel_rfl) (by simp) ?_
                        refine AllReadyH.cons rfl (fun K hK => ?_) AllReadyH.nil
                        go_simp
                        have q9 := World.ownsRow.stored oCY (mn + 1) (.int .i64 (smI z (prI x 0 m) m))
                        rw [ints_set] at q9
                        have oA9 := owns_ne (a := ⟨gb, (mn + 1), none⟩) (u := .int .i64 (smI z (prI x 0 m) m)) oAY (by simp [Value.ownBlock]; omega)
                        have be9 := beY.setCell (p := ⟨gb, (mn + 1), none⟩) hgbw (.int .i64 (smI z (prI x 0 m) m))
                        have st9 : World.cell? (World.setCell y0 ⟨gb, (mn + 1), none⟩ (.int .i64 (smI z (prI x 0 m) m))) ⟨ga, mn, none⟩ = some (.int .i64 x) ∧ World.cell? (World.setCell y0 ⟨gb, (mn + 1), none⟩ (.int .i64 (smI z (prI x 0 m) m))) ⟨cb, 5, none⟩ = some (.int .i64 m) := ⟨by rw [World.cell?_of_block (w := y0) (a := ⟨ga, mn, none⟩) (Below.heap_setCell _ _ _ _ (by show ga ≠ gb; omega))]; exact hSw.1, by rw [World.cell?_of_block (w := y0) (a := ⟨cb, 5, none⟩) (Below.heap_setCell _ _ _ _ (by show cb ≠ gb; omega))]; exact hSw.2⟩
                        refine hK.out _ _ st9 ?_
                        clear hK K
                        intro hSw
                        try simp only [Act.put, List.setIfInBounds_toArray, List.set_cons_zero, List.set_cons_succ]
                        refine wpAnyH_done (by kernel_rfl) (NoPanic.normal ?_) _
                        go_wp2_with fail
                        go_roundw
                        case rel => exact ⟨(mn + 1) + 1, C.set (mn + 1) (smI z (prI x 0 m) m), by omega, by omega, by go_num, oA9, q9.1, by simpa using hCl, rgC.set hsm, hEE2, be9⟩
                        case measure => simp [intOf]; omega
                      · go_simp
                        go_at_call 103
                        refine (product_any x 0 m _ hAx.1 hnv.1 hm h62 hAx.2 hnv.2).mono ?_
                        rintro e wx ⟨rfl, hwx⟩
                        obtain rfl := hwx.symm
                        refine hK.out _ _ hSw ?_
                        clear hK K
                        intro hSw
                        try simp only [Act.put, List.setIfInBounds_toArray, List.set_cons_zero, List.set_cons_succ]
                        refine wpAnyH_ready (rs := [5]) (by kernel_rfl) (by simp) ?_
                        refine AllReadyH.cons rfl (fun K hK => ?_) AllReadyH.nil
                        go_simp
                        refine hK.out _ _ hSw ?_
                        clear hK K
                        intro hSw
                        try simp only [Act.put, List.setIfInBounds_toArray, List.set_cons_zero, List.set_cons_succ]
                        refine wpAnyH_ready (rs := [20]) (by kernel_rfl) (by simp) ?_
                        refine AllReadyH.cons rfl (fun K hK => ?_) AllReadyH.nil
                        go_simp
                        go_at_call 92
                        refine (sum_any z (prI x 0 m) m _ hCx.1 hpr.1 hm h62 hCx.2 hpr.2).mono ?_
                        rintro e wx ⟨rfl, hwx⟩
                        obtain rfl := hwx.symm
                        refine hK.out _ _ hSw ?_
                        clear hK K
                        intro hSw
                        try simp only [Act.put, List.setIfInBounds_toArray, List.set_cons_zero, List.set_cons_succ]
                        refine wpAnyH_take (i := 21) (v := ?v40) rfl (by kernel_rfl) (by kernel_rfl) (by kernel_rfl) (fun _ _ _ h => np_panic h) (Or.inl ⟨by rfl, ?hy40⟩) (by assumption) ?_
                        case hy40 => (intro w' hS'; (try dsimp only at hS'); go_simp; try with_reducible rfl)
                        simp only [Act.put, List.setIfInBounds_toArray, List.set_cons_zero, List.set_cons_succ, List.getElem_toArray, List.getElem_cons_succ, List.getElem_cons_zero]
                        refine wpAnyH_ready (rs := [22]) (by kernel_rfl) (by simp) ?_
                        refine AllReadyH.cons rfl (fun K hK => ?_) AllReadyH.nil
                        go_simp
                        have q9 := World.ownsRow.stored oCY (mn + 1) (.int .i64 (smI z (prI x 0 m) m))
                        rw [ints_set] at q9
                        have oA9 := owns_ne (a := ⟨gb, (mn + 1), none⟩) (u := .int .i64 (smI z (prI x 0 m) m)) oAY (by simp [Value.ownBlock]; omega)
                        have be9 := beY.setCell (p := ⟨gb, (mn + 1), none⟩) hgbw (.int .i64 (smI z (prI x 0 m) m))
                        have st9 : World.cell? (World.setCell y0 ⟨gb, (mn + 1), none⟩ (.int .i64 (smI z (prI x 0 m) m))) ⟨ga, mn, none⟩ = some (.int .i64 x) ∧ World.cell? (World.setCell y0 ⟨gb, (mn + 1), none⟩ (.int .i64 (smI z (prI x 0 m) m))) ⟨cb, 5, none⟩ = some (.int .i64 m) := ⟨by rw [World.cell?_of_block (w := y0) (a := ⟨ga, mn, none⟩) (Below.heap_setCell _ _ _ _ (by show ga ≠ gb; omega))]; exact hSw.1, by rw [World.cell?_of_block (w := y0) (a := ⟨cb, 5, none⟩) (Below.heap_setCell _ _ _ _ (by show cb ≠ gb; omega))]; exact hSw.2⟩
                        refine hK.out _ _ st9 ?_
                        clear hK K
                        intro hSw
                        try simp only [Act.put, List.setIfInBounds_toArray, List.set_cons_zero, List.set_cons_succ]
                        refine wpAnyH_done (by kernel_rfl) (NoPanic.normal ?_) _
                        go_wp2_with fail
                        go_roundw
                        case rel => exact ⟨(mn + 1) + 1, C.set (mn + 1) (smI z (prI x 0 m) m), by omega, by omega, by go_num, oA9, q9.1, by simpa using hCl, rgC.set hsm, hEE2, be9⟩
                        case measure => simp [intOf]; omega
                  · have hvl : vlF f W s mn en = 0 := by unfold vlF; rw [if_neg hs, if_neg (fun h => hem1 h.1)]
                    have hem3 : ((en : Int) == (mn : Int) + 1) = false := by simp; omega
                    rw [hvl] at hEE'
                    have hnv : (0 : Int) ≤ 0 ∧ (0 : Int) ≤ m := by omega
                    have hpr := prI_rng (b := 0) hAx.1 hnv.1 hm
                    have hsm := smI_rng hCx.1 hpr.1 hm
                    have hEE2 : Hid ((if 0 < x then lpE (vlF f W s mn) x m (j + 1 - (en + 1)) (en + 1) (C.set en (smI z (prI x 0 m) m)) else C.set en (smI z (prI x 0 m) m)) = RE) := hd (by rw [if_pos hpos, show j + 1 - (en + 1) = j - en by omega]; exact hEE')
                    clear hEE' hEE hvl
                    go_wp2_with fail
                    go_quiet (fail)
                    go_wp2_with fail
                    obtain ⟨Y, hY⟩ : ∃ Y, Y = wr.drewN nq := ⟨_, rfl⟩
                    have bY : Below wr.heap.size wr Y := by rw [hY]; exact drwN wr nq
                    rw [← hY]
                    clear hY
                    have bYd : Below wr.heap.size wr Y.drew := bthen bY (drw1 Y)
                    have oAY := owns_below oA3 bYd
                    have oCY := owns_below oC bYd
                    have gCY := bkeep bYd gC
                    have S18 : World.cell? Y.drew ⟨ga, mn, none⟩ = some (.int .i64 x) ∧ World.cell? Y.drew ⟨cb, 5, none⟩ = some (.int .i64 m) := ⟨bkeep bYd gA3, bkeep bYd k5'⟩
                    have fCY := World.ownsRow.frozenAt oCY
                    have beY := bthen be3 bYd
                    refine wp_region_noPanic ?_
                    refine wp_region_held_drew (S := fun w' => World.cell? w' ⟨ga, mn, none⟩ = some (.int .i64 x) ∧ World.cell? w' ⟨cb, 5, none⟩ = some (.int .i64 m)) (by kernel_rfl) S18 ?_
                    intro hSw
                    obtain ⟨y0, hy0⟩ : ∃ y0, y0 = Y.drew := ⟨_, rfl⟩
                    rw [← hy0] at hSw oAY oCY gCY fCY beY ⊢
                    clear hy0
                    refine wpAnyH_take (i := 0) (v := ?v61) rfl (by kernel_rfl) (by kernel_rfl) (by kernel_rfl) (fun _ _ _ h => np_panic h) (Or.inl ⟨by rfl, ?hy61⟩) (by assumption) ?_
                    case hy61 => (intro w' hS'; (try dsimp only at hS'); go_simp; try with_reducible rfl)
                    simp only [Act.put, List.setIfInBounds_toArray, List.set_cons_zero, List.set_cons_succ, List.getElem_toArray, List.getElem_cons_zero]
                    refine wpAnyH_take (i := 1) (v := ?v62) rfl (by kernel_rfl) (by kernel_rfl) (by kernel_rfl) (fun _ _ _ h => np_panic h) (Or.inl ⟨by rfl, ?hy62⟩) (by assumption) ?_
                    case hy62 => (intro w' hS'; (try dsimp only at hS'); go_simp; try with_reducible rfl)
                    simp only [Act.put, List.setIfInBounds_toArray, List.set_cons_zero, List.set_cons_succ, List.getElem_toArray, List.getElem_cons_succ, List.getElem_cons_zero]
                    refine wpAnyH_take (i := 2) (v := ?v63) rfl (by kernel_rfl) (by kernel_rfl) (by kernel_rfl) (fun _ _ _ h => np_panic h) (Or.inl ⟨by rfl, ?hy63⟩) (by assumption) ?_
                    case hy63 => (intro w' hS'; (try dsimp only at hS'); go_simp; try with_reducible rfl)
                    simp only [Act.put, List.setIfInBounds_toArray, List.set_cons_zero, List.set_cons_succ, List.getElem_toArray, List.getElem_cons_succ, List.getElem_cons_zero]
                    refine wpAnyH_take (i := 3) (v := ?v64) rfl (by kernel_rfl) (by kernel_rfl) (by kernel_rfl) (fun _ _ _ h => np_panic h) (Or.inl ⟨by rfl, ?hy64⟩) (by assumption) ?_
                    case hy64 => (intro w' hS'; (try dsimp only at hS'); go_simp; try with_reducible rfl)
                    simp only [Act.put, List.setIfInBounds_toArray, List.set_cons_zero, List.set_cons_succ, List.getElem_toArray, List.getElem_cons_succ, List.getElem_cons_zero]
                    refine wpAnyH_take (i := 4) (v := ?v65) rfl (by kernel_rfl) (by kernel_rfl) (by kernel_rfl) (fun _ _ _ h => np_panic h) (Or.inl ⟨by rfl, ?hy65⟩) (by assumption) ?_
                    case hy65 => (intro w' hS'; (try dsimp only at hS'); go_simp; try with_reducible rfl)
                    simp only [Act.put, List.setIfInBounds_toArray, List.set_cons_zero, List.set_cons_succ, List.getElem_toArray, List.getElem_cons_succ, List.getElem_cons_zero]
                    refine wpAnyH_take (i := 6) (v := ?v66) rfl (by kernel_rfl) (by kernel_rfl) (by kernel_rfl) (fun _ _ _ h => np_panic h) (Or.inl ⟨by rfl, ?hy66⟩) (by assumption) ?_
                    case hy66 => (intro w' hS'; (try dsimp only at hS'); go_simp; try with_reducible rfl)
                    simp only [Act.put, List.setIfInBounds_toArray, List.set_cons_zero, List.set_cons_succ, List.getElem_toArray, List.getElem_cons_succ, List.getElem_cons_zero]
                    refine wpAnyH_take (i := 7) (v := ?v67) rfl (by kernel_rfl) (by kernel_rfl) (by kernel_rfl) (fun _ _ _ h => np_panic h) (Or.inl ⟨by rfl, ?hy67⟩) (by assumption) ?_
                    case hy67 => (intro w' hS'; (try dsimp only at hS'); go_simp; try with_reducible rfl)
                    simp only [Act.put, List.setIfInBounds_toArray, List.set_cons_zero, List.set_cons_succ, List.getElem_toArray, List.getElem_cons_succ, List.getElem_cons_zero]
                    refine wpAnyH_take (i := 8) (v := ?v68) rfl (by kernel_rfl) (by kernel_rfl) (by kernel_rfl) (fun _ _ _ h => np_panic h) (Or.inl ⟨by rfl, ?hy68⟩) (by assumption) ?_
                    case hy68 => (intro w' hS'; (try dsimp only at hS'); go_simp; try with_reducible rfl)
                    simp only [Act.put, List.setIfInBounds_toArray, List.set_cons_zero, List.set_cons_succ, List.getElem_toArray, List.getElem_cons_succ, List.getElem_cons_zero]
                    refine wpAnyH_take (i := 9) (v := ?v69) rfl (by kernel_rfl) (by kernel_rfl) (by kernel_rfl) (fun _ _ _ h => np_panic h) (Or.inl ⟨by rfl, ?hy69⟩) (by assumption) ?_
                    case hy69 => (intro w' hS'; (try dsimp only at hS'); go_simp; try with_reducible rfl)
                    simp only [Act.put, List.setIfInBounds_toArray, List.set_cons_zero, List.set_cons_succ, List.getElem_toArray, List.getElem_cons_succ, List.getElem_cons_zero]
                    refine wpAnyH_take (i := 10) (v := ?v70) rfl (by kernel_rfl) (by kernel_rfl) (by kernel_rfl) (fun _ _ _ h => np_panic h) (Or.inl ⟨by rfl, ?hy70⟩) (by assumption) ?_
                    case hy70 => (intro w' hS'; (try dsimp only at hS'); go_simp; try with_reducible rfl)
                    simp only [Act.put, List.setIfInBounds_toArray, List.set_cons_zero, List.set_cons_succ, List.getElem_toArray, List.getElem_cons_succ, List.getElem_cons_zero]
                    refine wpAnyH_take (i := 11) (v := ?v71) rfl (by kernel_rfl) (by kernel_rfl) (by kernel_rfl) (fun _ _ _ h => np_panic h) (Or.inl ⟨by rfl, ?hy71⟩) (by assumption) ?_
                    case hy71 => (intro w' hS'; (try dsimp only at hS'); go_simp; try with_reducible rfl)
                    simp only [Act.put, List.setIfInBounds_toArray, List.set_cons_zero, List.set_cons_succ, List.getElem_toArray, List.getElem_cons_succ, List.getElem_cons_zero]
                    refine wpAnyH_take (i := 12) (v := ?v72) rfl (by kernel_rfl) (by kernel_rfl) (by kernel_rfl) (fun _ _ _ h => np_panic h) (Or.inl ⟨by rfl, ?hy72⟩) (by assumption) ?_
                    case hy72 => (intro w' hS'; (try dsimp only at hS'); go_simp; try with_reducible rfl)
                    simp only [Act.put, List.setIfInBounds_toArray, List.set_cons_zero, List.set_cons_succ, List.getElem_toArray, List.getElem_cons_succ, List.getElem_cons_zero]
                    refine wpAnyH_take (i := 13) (v := ?v73) rfl (by kernel_rfl) (by kernel_rfl) (by kernel_rfl) (fun _ _ _ h => np_panic h) (Or.inl ⟨by rfl, ?hy73⟩) (by assumption) ?_
                    case hy73 => (intro w' hS'; (try dsimp only at hS'); go_simp; try with_reducible rfl)
                    simp only [Act.put, List.setIfInBounds_toArray, List.set_cons_zero, List.set_cons_succ, List.getElem_toArray, List.getElem_cons_succ, List.getElem_cons_zero]
                    refine wpAnyH_take (i := 14) (v := ?v74) rfl (by kernel_rfl) (by kernel_rfl) (by kernel_rfl) (fun _ _ _ h => np_panic h) (Or.inl ⟨by rfl, ?hy74⟩) (by assumption) ?_
                    case hy74 => (intro w' hS'; (try dsimp only at hS'); go_simp; try with_reducible rfl)
                    simp only [Act.put, List.setIfInBounds_toArray, List.set_cons_zero, List.set_cons_succ, List.getElem_toArray, List.getElem_cons_succ, List.getElem_cons_zero]
                    refine wpAnyH_take (i := 16) (v := ?v75) rfl (by kernel_rfl) (by kernel_rfl) (by kernel_rfl) (fun _ _ _ h => np_panic h) (Or.inl ⟨by rfl, ?hy75⟩) (by assumption) ?_
                    case hy75 => (intro w' hS'; (try dsimp only at hS'); go_simp; try with_reducible rfl)
                    simp only [Act.put, List.setIfInBounds_toArray, List.set_cons_zero, List.set_cons_succ, List.getElem_toArray, List.getElem_cons_succ, List.getElem_cons_zero]
                    refine wpAnyH_take (i := 17) (v := ?v76) rfl (by kernel_rfl) (by kernel_rfl) (by kernel_rfl) (fun _ _ _ h => np_panic h) (Or.inl ⟨by rfl, ?hy76⟩) (by assumption) ?_
                    case hy76 => (intro w' hS'; (try dsimp only at hS'); go_simp; try with_reducible rfl)
                    simp only [Act.put, List.setIfInBounds_toArray, List.set_cons_zero, List.set_cons_succ, List.getElem_toArray, List.getElem_cons_succ, List.getElem_cons_zero]
                    refine wpAnyH_take (i := 18) (v := ?v77) rfl (by kernel_rfl) (by kernel_rfl) (by kernel_rfl) (fun _ _ _ h => np_panic h) (Or.inl ⟨by rfl, ?hy77⟩) (by assumption) ?_
                    case hy77 => (intro w' hS'; (try dsimp only at hS'); go_simp; try with_reducible rfl)
                    simp only [Act.put, List.setIfInBounds_toArray, List.set_cons_zero, List.set_cons_succ, List.getElem_toArray, List.getElem_cons_succ, List.getElem_cons_zero]
                    refine wpAnyH_take (i := 19) (v := ?v78) rfl (by kernel_rfl) (by kernel_rfl) (by kernel_rfl) (fun _ _ _ h => np_panic h) (Or.inl ⟨by rfl, ?hy78⟩) (by assumption) ?_
                    case hy78 => (intro w' hS'; (try dsimp only at hS'); go_simp; try with_reducible rfl)
                    simp only [Act.put, List.setIfInBounds_toArray, List.set_cons_zero, List.set_cons_succ, List.getElem_toArray, List.getElem_cons_succ, List.getElem_cons_zero]
                    refine wpAnyH_ready (rs := [5, 15]) (by kernel_rfl) (by simp) ?_
                    refine AllReadyH.cons rfl (fun K hK => ?_) (AllReadyH.cons rfl (fun K hK => ?_) AllReadyH.nil)
                    · go_simp
                      refine hK.out _ _ hSw ?_
                      clear hK K
                      intro hSw
                      try simp only [Act.put, List.setIfInBounds_toArray, List.set_cons_zero, List.set_cons_succ]
                      refine wpAnyH_ready (rs := [15]) (by kernel_rfl) (by simp) ?_
                      refine AllReadyH.cons rfl (fun K hK => ?_) AllReadyH.nil
                      go_simp
                      go_at_call 103
                      refine (product_any x 0 m _ hAx.1 hnv.1 hm h62 hAx.2 hnv.2).mono ?_
                      rintro e wx ⟨rfl, hwx⟩
                      obtain rfl := hwx.symm
                      refine hK.out _ _ hSw ?_
                      clear hK K
                      intro hSw
                      try simp only [Act.put, List.setIfInBounds_toArray, List.set_cons_zero, List.set_cons_succ]
                      refine wpAnyH_ready (rs := [20]) (by kernel_rfl) (by simp) ?_
                      refine AllReadyH.cons rfl (fun K hK => ?_) AllReadyH.nil
                      go_simp
                      go_at_call 92
                      refine (sum_any z (prI x 0 m) m _ hCx.1 hpr.1 hm h62 hCx.2 hpr.2).mono ?_
                      rintro e wx ⟨rfl, hwx⟩
                      obtain rfl := hwx.symm
                      refine hK.out _ _ hSw ?_
                      clear hK K
                      intro hSw
                      try simp only [Act.put, List.setIfInBounds_toArray, List.set_cons_zero, List.set_cons_succ]
                      refine wpAnyH_take (i := 21) (v := ?v79) rfl (by kernel_rfl) (by kernel_rfl) (by kernel_rfl) (fun _ _ _ h => np_panic h) (Or.inl ⟨by rfl, ?hy79⟩) (by assumption) ?_
                      case hy79 => (intro w' hS'; (try dsimp only at hS'); go_simp; try with_reducible rfl)
                      simp only [Act.put, List.setIfInBounds_toArray, List.set_cons_zero, List.set_cons_succ, List.getElem_toArray, List.getElem_cons_succ, List.getElem_cons_zero]
                      refine wpAnyH_ready (rs := [22]) (by kernel_rfl) (by simp) ?_
                      refine AllReadyH.cons rfl (fun K hK => ?_) AllReadyH.nil
                      go_simp
                      have q9 := World.ownsRow.stored oCY en (.int .i64 (smI z (prI x 0 m) m))
                      rw [ints_set] at q9
                      have oA9 := owns_ne (a := ⟨gb, en, none⟩) (u := .int .i64 (smI z (prI x 0 m) m)) oAY (by simp [Value.ownBlock]; omega)
                      have be9 := beY.setCell (p := ⟨gb, en, none⟩) hgbw (.int .i64 (smI z (prI x 0 m) m))
                      have st9 : World.cell? (World.setCell y0 ⟨gb, en, none⟩ (.int .i64 (smI z (prI x 0 m) m))) ⟨ga, mn, none⟩ = some (.int .i64 x) ∧ World.cell? (World.setCell y0 ⟨gb, en, none⟩ (.int .i64 (smI z (prI x 0 m) m))) ⟨cb, 5, none⟩ = some (.int .i64 m) := ⟨by rw [World.cell?_of_block (w := y0) (a := ⟨ga, mn, none⟩) (Below.heap_setCell _ _ _ _ (by show ga ≠ gb; omega))]; exact hSw.1, by rw [World.cell?_of_block (w := y0) (a := ⟨cb, 5, none⟩) (Below.heap_setCell _ _ _ _ (by show cb ≠ gb; omega))]; exact hSw.2⟩
                      refine hK.out _ _ st9 ?_
                      clear hK K
                      intro hSw
                      try simp only [Act.put, List.setIfInBounds_toArray, List.set_cons_zero, List.set_cons_succ]
                      refine wpAnyH_done (by kernel_rfl) (NoPanic.normal ?_) _
                      go_wp2_with fail
                      go_roundw
                      case rel => exact ⟨en + 1, C.set en (smI z (prI x 0 m) m), by omega, by omega, by go_num, oA9, q9.1, by simpa using hCl, rgC.set hsm, hEE2, be9⟩
                      case measure => simp [intOf]; omega
                    · go_simp
                      go_at_call 103
                      refine (product_any x 0 m _ hAx.1 hnv.1 hm h62 hAx.2 hnv.2).mono ?_
                      rintro e wx ⟨rfl, hwx⟩
                      obtain rfl := hwx.symm
                      refine hK.out _ _ hSw ?_
                      clear hK K
                      intro hSw
                      try simp only [Act.put, List.setIfInBounds_toArray, List.set_cons_zero, List.set_cons_succ]
                      refine wpAnyH_ready (rs := [5]) (by kernel_rfl) (by simp) ?_
                      refine AllReadyH.cons rfl (fun K hK => ?_) AllReadyH.nil
                      go_simp
                      refine hK.out _ _ hSw ?_
                      clear hK K
                      intro hSw
                      try simp only [Act.put, List.setIfInBounds_toArray, List.set_cons_zero, List.set_cons_succ]
                      refine wpAnyH_ready (rs := [20]) (by kernel_rfl) (by simp) ?_
                      refine AllReadyH.cons rfl (fun K hK => ?_) AllReadyH.nil
                      go_simp
                      go_at_call 92
                      refine (sum_any z (prI x 0 m) m _ hCx.1 hpr.1 hm h62 hCx.2 hpr.2).mono ?_
                      rintro e wx ⟨rfl, hwx⟩
                      obtain rfl := hwx.symm
                      refine hK.out _ _ hSw ?_
                      clear hK K
                      intro hSw
                      try simp only [Act.put, List.setIfInBounds_toArray, List.set_cons_zero, List.set_cons_succ]
                      refine wpAnyH_take (i := 21) (v := ?v80) rfl (by kernel_rfl) (by kernel_rfl) (by kernel_rfl) (fun _ _ _ h => np_panic h) (Or.inl ⟨by rfl, ?hy80⟩) (by assumption) ?_
                      case hy80 => (intro w' hS'; (try dsimp only at hS'); go_simp; try with_reducible rfl)
                      simp only [Act.put, List.setIfInBounds_toArray, List.set_cons_zero, List.set_cons_succ, List.getElem_toArray, List.getElem_cons_succ, List.getElem_cons_zero]
                      refine wpAnyH_ready (rs := [22]) (by kernel_rfl) (by simp) ?_
                      refine AllReadyH.cons rfl (fun K hK => ?_) AllReadyH.nil
                      go_simp
                      have q9 := World.ownsRow.stored oCY en (.int .i64 (smI z (prI x 0 m) m))
                      rw [ints_set] at q9
                      have oA9 := owns_ne (a := ⟨gb, en, none⟩) (u := .int .i64 (smI z (prI x 0 m) m)) oAY (by simp [Value.ownBlock]; omega)
                      have be9 := beY.setCell (p := ⟨gb, en, none⟩) hgbw (.int .i64 (smI z (prI x 0 m) m))
                      have st9 : World.cell? (World.setCell y0 ⟨gb, en, none⟩ (.int .i64 (smI z (prI x 0 m) m))) ⟨ga, mn, none⟩ = some (.int .i64 x) ∧ World.cell? (World.setCell y0 ⟨gb, en, none⟩ (.int .i64 (smI z (prI x 0 m) m))) ⟨cb, 5, none⟩ = some (.int .i64 m) := ⟨by rw [World.cell?_of_block (w := y0) (a := ⟨ga, mn, none⟩) (Below.heap_setCell _ _ _ _ (by show ga ≠ gb; omega))]; exact hSw.1, by rw [World.cell?_of_block (w := y0) (a := ⟨cb, 5, none⟩) (Below.heap_setCell _ _ _ _ (by show cb ≠ gb; omega))]; exact hSw.2⟩
                      refine hK.out _ _ st9 ?_
                      clear hK K
                      intro hSw
                      try simp only [Act.put, List.setIfInBounds_toArray, List.set_cons_zero, List.set_cons_succ]
                      refine wpAnyH_done (by kernel_rfl) (NoPanic.normal ?_) _
                      go_wp2_with fail
                      go_roundw
                      case rel => exact ⟨en + 1, C.set en (smI z (prI x 0 m) m), by omega, by omega, by go_num, oA9, q9.1, by simpa using hCl, rgC.set hsm, hEE2, be9⟩
                      case measure => simp [intOf]; omega
              · rw [if_neg hpos] at hEE'
                subst hEE'
                go_wp2_with fail
                go_roundw
                case rel => exact ⟨mn + 1, C, by omega, by omega, by go_num, oA3, oC, hCl, rgC, HEM, be3⟩
                case measure => simp [intOf]; omega
            · have hje : j + 1 - en = 0 := by omega
              rw [hje] at hEE'
              have hRC : C = RE := by
                rw [← hEE']
                split
                · rw [lpE]
                · rfl
              subst hRC
              go_wp2_with fail
              go_roundw
              case rel => exact ⟨mn + 1, C, by omega, by omega, by go_num, oA3, oC, hCl, rgC, HEM, be3⟩
              case measure => simp [intOf]; omega
        · have hEM' := hEM.out
          rw [show j + 1 - mn = 0 by omega, lpM] at hEM'
          subst hEM'
          go_wp2_with fail
          go_roundw
          case rel => exact ⟨kk + 1, gb, B, by omega, by go_num, rfl, oB, hBl, rgB, HE, be2⟩
          case measure => simp [intOf]; omega
    · have hE' := hE.out
      rw [List.drop_of_length_le (by omega), lpK] at hE'
      subst hE'
      have gA := World.ownsRow.cellAt ownA j (by omega)
      rw [ints_at (by omega)] at gA
      go_wp2_with fail
      go_ret
      exact ⟨ret_int (by rw [HRV.out, hRl, List.getD_eq_getElem?_getD]), bel⟩
end Go.Proofs.Ytlhdppkllmnmkad.G
