/- One step or more, the program's way. -/
import Derived.Test.YtlhdppkllmnmkadL10
import Derived.Test.YtlhdppkllmnmkadL03
namespace Go.Proofs.Ytlhdppkllmnmkad.G
open Go.RowKit
theorem Try.infoSet : (Try.prog.info? 112).map (fun i => (i.zero, i.size, i.bytes)) = some (some (.int .u64 0), 1, 8) := by kernel_rfl
def sets (l : List (BitVec 64)) : List Value := l.map fun s => .int .u64 (U s)
theorem sets_at {l : List (BitVec 64)} {k : Nat} (h : k < l.length) : (sets l)[k]? = some (.int .u64 (U (l.getD k 0#64))) := by simp [sets, List.getD_eq_getElem?_getD, h]
theorem sets_set (l : List (BitVec 64)) (k : Nat) (x : BitVec 64) : (sets l).set k (.int .u64 (U x)) = sets (l.set k x) := by simp [sets, List.map_set]
theorem made_sets (n : Nat) : (madeCells #[Value.int .u64 0] n).toList = sets (List.replicate n 0#64) := by
  unfold madeCells sets
  apply List.ext_getElem
  · simp
  · intro k h1 h2
    simp [Nat.mod_one]
    rfl
set_option maxRecDepth 100000 in
set_option maxHeartbeats 4000000 in
theorem onward1_any (N : List (BitVec 64)) (s : BitVec 64) (gb cap pn : Nat) (w : World) (hin : ∀ v, hasB s v = true → v.toNat < N.length)
    (hp : w.cell? ⟨pn, 0, none⟩ = some (.slice (some ⟨gb, 0, none⟩) N.length cap)) (hN : ∀ j, j < N.length → w.cell? ⟨gb, j, none⟩ = some (.int .u64 (U (N.getD j 0#64)))) :
    Calls Try.prog 157 #[.int .u64 (U s), .pointer (some ⟨pn, 0, none⟩)] w fun e w' => e = .returned (.int .u64 (U (moreB N s))) ∧ Below w.heap.size w w' := by
  have LA := list_any s w
  have hin' : ∀ v ∈ listB s, 0 ≤ v ∧ v.toNat < N.length := fun v hv => ⟨(has_in (mem_listB.1 hv)).1, hin v (mem_listB.1 hv)⟩
  have hlen : (listB s).length ≤ 64 := upto_len _ _
  have HM : Hid (moreB N s = (listB s).foldl (fun s w => s ||| N.getD w.toNat 0#64) s) := hd rfl
  generalize listB s = l at *
  generalize moreB N s = M at *
  clear hin
  go_enter Try.func157, Try.ntmps157
  go_wp2_with fail
  refine LA.mono ?_
  rintro e w1 ⟨v1, rfl, own1, k1⟩
  have i1 : IsV w1 All v1 l := IsV_owned own1 (by omega) (fun _ _ => trivial)
  obtain ⟨ao, cp, rfl⟩ := i1.slice
  have hp1 := bkeep k1 hp
  clear own1
  go_wp2_with fail
  go_loopw [0, 9] (fun v i wr => ∃ (k : Nat) (acc : BitVec 64), k ≤ l.length ∧ i = .int .i64 k ∧ v = .int .u64 (U acc) ∧ Hid (acc = (l.take k).foldl (fun s w => s ||| N.getD w.toNat 0#64) s) ∧ wr = w1) (fun _ i _ => l.length - (intOf i).toNat)
  case atStart => exact ⟨0, s, Nat.zero_le _, rfl, rfl, hd (by simp), rfl⟩
  case round =>
    obtain ⟨k, acc, hk, rfl, rfl, hacc, rfl⟩ := hrel
    by_cases hlt : k < l.length
    · obtain ⟨b, o, rfl, c0⟩ := i1.at_ hlt
      obtain ⟨x0, x1⟩ := hin' l[k] (List.getElem_mem hlt)
      obtain ⟨m, hm⟩ : ∃ m : Nat, l[k] = m := ⟨l[k].toNat, by omega⟩
      have HA : Hid (acc ||| N.getD m 0#64 = (l.take (k + 1)).foldl (fun s w => s ||| N.getD w.toNat 0#64) s) := hd (by rw [take_snoc l hlt, List.foldl_append, ← hacc.out, hm]; rfl)
      rw [hm] at c0 x1
      clear hacc x0 hm
      have hmN : m < N.length := by simpa using x1
      have cm := bkeep k1 (hN m hmN)
      have hm2 : (m : Int) < (N.length : Int) := by omega
      obtain ⟨T, hT⟩ : ∃ T, T = acc ||| N.getD m 0#64 := ⟨_, rfl⟩
      have HO : bits .or .u64 (U acc) (U (N.getD m 0#64)) = U T := by rw [hT]; exact U_or ..
      rw [← hT] at HA
      clear hT x1
      generalize N.getD m 0#64 = z at *
      go_wp2_with fail
      go_roundw
      case rel => exact ⟨k + 1, T, by omega, by go_num, rfl, HA, trivial⟩
      case measure => simp [intOf]; omega
    · have he : Hid (acc = M) := hd (by rw [HM.out, hacc.out, List.take_of_length_le (by omega)])
      clear hacc
      go_wp2_with fail
      go_ret
      exact ⟨ret_u (by rw [he.out]), k1⟩
theorem nextR_snoc (c : Bool) (e : BitVec 64) (R : List Ru) (N : List (BitVec 64)) {k : Nat} (h : k < R.length) : nextR c e (R.take (k + 1)) N = (nextR c e (R.take k) N).set R[k].left.toNat ((nextR c e (R.take k) N).getD R[k].left.toNat 0#64 ||| stepB c R[k].right e) := by
  unfold nextR
  rw [take_snoc R h, List.foldl_append]
  rfl
set_option maxRecDepth 100000 in
set_option maxHeartbeats 16000000 in
theorem onward_any (c : Bool) (fid : Nat) (hs : StpC fid c) (g : Gm) (V : Nat) (hgv : g.vars = V) (h1 : 1 ≤ V) (hv : Vrs V g.rules) (va : Value) (w : World) (ha : GV w All va g) :
    Calls Try.prog 150 #[va, .func (.func fid) #[] #[]] w fun e w' => ∃ gb N, e = .returned (.slice (some ⟨gb, 0, none⟩) V V) ∧ w'.ownsRow w.heap.size 112 1 (.slice (some ⟨gb, 0, none⟩) V V) V (sets N) ∧ Onw c (Gen false g.rules) g.rules V V N ∧ Below w.heap.size w w' := by
  obtain ⟨i0, hi, iz0, iz1, iz2⟩ := info_parts Try.infoSet
  obtain ⟨hcf, hst⟩ := hs
  unfold Cal at hcf
  obtain ⟨u, rfl, hr⟩ := ha
  obtain ⟨ao, cap, rfl⟩ := hr.slice
  have hl := hr.1
  rw [hgv]
  obtain ⟨W, hW⟩ : ∃ W, W = w.alloc (.cells #[.int .i64 V, .int .i64 g.terms, .int .i64 g.start, .slice ao g.rules.length cap] 24) := ⟨_, rfl⟩
  have hWb : Below w.heap.size w W := by rw [hW]; exact al1 _ _
  have hWz : W.heap.size = w.heap.size + 1 := by rw [hW]; simp
  have hW0 : W.cell? ⟨w.heap.size, 0, none⟩ = some (.int .i64 V) := by rw [hW]; simp
  have hW3 : W.cell? ⟨w.heap.size, 3, none⟩ = some (.slice ao g.rules.length cap) := by rw [hW]; simp
  have NA := (nullable_any g hv.lfs).2 _ W ⟨.slice ao g.rules.length cap, rfl, hr.lw hWb⟩
  rw [hgv] at NA
  have hV64 := hv.1
  have HGV := hd hgv
  clear hgv
  go_enter Try.func150, Try.ntmps150
  go_wp2_with fail
  rw [← hW]
  refine NA.mono ?_
  rintro e w1 ⟨em, rfl, hE, k1⟩
  have HE := hd hE
  clear hE hW NA
  have a0 := bkeep k1 hW0
  have a3 := bkeep k1 hW3
  have b1 := bthen hWb k1
  have hz1 := b1.size
  go_wp2_with (first | (refine wpList_make_full _ rfl _ _ 164 rfl w1.heap.size 112 i0 (.int .u64 0) 1 Try.underlying164 hi iz0 iz1 .i64 .i64 _ _ V rfl rfl rfl rfl (by rw [iz2]; omega) (by unfold maxLen; omega) (Nat.le_refl _) ?_))
  intro w2 own2 grow2
  have k2 := grown_below grow2
  rw [made_sets] at own2
  have hq : w1.heap.size < w2.heap.size := (own2.lt w1.heap.size rfl).2
  obtain ⟨gb, hgb⟩ : ∃ gb, gb = w1.heap.size := ⟨_, rfl⟩
  obtain ⟨pn, hpn⟩ : ∃ pn, pn = w2.heap.size := ⟨_, rfl⟩
  rw [← hgb] at own2 hq ⊢
  have hgp : gb ≠ pn := by omega
  have hgb1 : w1.heap.size ≤ gb := by omega
  obtain ⟨w3, hw3⟩ : ∃ w3, w3 = w2.alloc (.cells #[.slice (some ⟨gb, 0, none⟩) V V] 164) := ⟨_, rfl⟩
  have k3 : Below w2.heap.size w2 w3 := by rw [hw3]; exact al1 _ _
  have own3 : w3.ownsRow gb 112 1 (.slice (some ⟨gb, 0, none⟩) V V) V (sets (List.replicate V 0#64)) := owns_below own2 k3
  have p3 : w3.cell? ⟨pn, 0, none⟩ = some (.slice (some ⟨gb, 0, none⟩) V V) := by rw [hw3, hpn]; simp
  have b3 : Below w1.heap.size w1 w3 := bthen k2 k3
  have a30 := bkeep b3 a3
  have hA3 := alcell (bkeep k2 a3) (.cells #[.slice (some ⟨gb, 0, none⟩) V V] 164)
  have HG := hd hgb
  have HP := hd hpn
  clear hgb hpn
  go_wp2_with fail
  rw [← HP.out, ← hw3]
  clear hw3 own2 hA3 grow2
  go_loopw [18] (fun i wr => ∃ (k : Nat) (N : List (BitVec 64)), k ≤ g.rules.length ∧ i = .int .i64 k ∧ Hid (N = nextR c em (g.rules.take k) (List.replicate V 0#64)) ∧ N.length = V ∧ wr.ownsRow gb 112 1 (.slice (some ⟨gb, 0, none⟩) V V) V (sets N) ∧ wr.cell? ⟨pn, 0, none⟩ = some (.slice (some ⟨gb, 0, none⟩) V V) ∧ Below w1.heap.size w1 wr) (fun i _ => g.rules.length - (intOf i).toNat)
  case atStart => exact ⟨0, _, Nat.zero_le _, rfl, hd (by simp [nextR]), by simp, own3, p3, b3⟩
  case round =>
    obtain ⟨k, N, hk, rfl, hN, hNl, own, pw, bel⟩ := hrel
    have belw : Below w.heap.size w wr := bthen b1 bel
    by_cases hlt : k < g.rules.length
    · have hRk := hv.2 _ (List.getElem_mem hlt)
      obtain ⟨b, o, rfl, c0, ar, cr, c1, hc⟩ := (hr.lw belw).at_ hlt
      have HN1 := hd (nextR_snoc c em g.rules (List.replicate V 0#64) hlt)
      generalize g.rules[k] = x at *
      obtain ⟨m, hm⟩ : ∃ m : Nat, x.left = m := ⟨x.left.toNat, by omega⟩
      have hmV : m < V := by omega
      have hm2 : (m : Int) < (V : Int) := by omega
      obtain ⟨T, hT⟩ : ∃ T, T = N.getD m 0#64 ||| stepB c x.right em := ⟨_, rfl⟩
      have HO : bits .or .u64 (U (N.getD m 0#64)) (U (stepB c x.right em)) = U T := by rw [hT]; exact U_or ..
      have HN2 : Hid (N.set m T = nextR c em (g.rules.take (k + 1)) (List.replicate V 0#64)) := hd (by rw [HN1.out, ← hN.out, hm, hT]; rfl)
      clear HN1 hN hT hRk
      have hxl := hc.1
      obtain ⟨Y, hY⟩ : ∃ Y, Y = wr.alloc (.cells #[.int .i64 m, .slice ar x.right.length cr] 77) := ⟨_, rfl⟩
      have hYb : Below wr.heap.size wr Y := by rw [hY]; exact al1 _ _
      have hY1 : Y.cell? ⟨wr.heap.size, 1, none⟩ = some (.slice ar x.right.length cr) := by rw [hY]; simp
      have hY0 : Y.cell? ⟨wr.heap.size, 0, none⟩ = some (.int .i64 m) := by rw [hY]; simp
      rw [hm] at c0
      have dY := bthen hYb (drw1 Y)
      have isD := hc.lw dY
      have ownD := owns_below own dY
      have beD := bthen bel dY
      have pD := bkeep dY pw
      have d0 := bkeep (drw1 Y) hY0
      have d1 := bkeep (drw1 Y) hY1
      have hgw : gb < wr.heap.size := (own.lt gb rfl).2
      have hpw := lt_of_cell pw
      obtain ⟨rb, hrb⟩ : ∃ rb, rb = wr.heap.size := ⟨_, rfl⟩
      rw [← hrb] at d0 d1 hgw hpw
      have cg : Y.drew.cell? ⟨gb, m, none⟩ = some (.int .u64 (U (N.getD m 0#64))) := by rw [World.ownsRow.cellAt ownD m (by omega), sets_at (by omega)]
      have fg := World.ownsRow.frozenAt ownD
      have hs0 : World.cell? Y.drew ⟨pn, 0, none⟩ = some (.slice (some ⟨gb, 0, none⟩) V V) ∧ World.cell? Y.drew ⟨rb, 0, none⟩ = some (.int .i64 m) ∧ World.cell? Y.drew ⟨rb, 1, none⟩ = some (.slice ar x.right.length cr) := ⟨pD, d0, d1⟩
      clear hc hm hY0 hY1 dY pD d0 d1
      generalize N.getD m 0#64 = z at *
      go_wp2_with fail
      rw [← hY, ← hrb]
      clear hY hrb
      refine wp_region_noPanic ?_
      refine wp_region_held_drew (S := fun w' => World.cell? w' ⟨pn, 0, none⟩ = some (.slice (some ⟨gb, 0, none⟩) V V) ∧ World.cell? w' ⟨rb, 0, none⟩ = some (.int .i64 m) ∧ World.cell? w' ⟨rb, 1, none⟩ = some (.slice ar x.right.length cr)) (by kernel_rfl) hs0 ?_
      intro hSw
      obtain ⟨y0, hy0⟩ : ∃ y0, y0 = Y.drew := ⟨_, rfl⟩
      rw [← hy0] at hSw isD ownD beD cg fg ⊢
      clear hy0
      refine wpAnyH_take (i := 0) (v := ?v1) rfl (by kernel_rfl) (by kernel_rfl) (by kernel_rfl) (fun _ _ _ h => np_panic h) (Or.inl ⟨by rfl, ?hy1⟩) (by assumption) ?_
      case hy1 => (intro w' hS'; (try dsimp only at hS'); go_simp; try with_reducible rfl)
      simp only [Act.put, List.setIfInBounds_toArray, List.set_cons_zero, List.set_cons_succ, List.getElem_toArray, List.getElem_cons_zero]
      refine wpAnyH_take (i := 1) (v := ?v2) rfl (by kernel_rfl) (by kernel_rfl) (by kernel_rfl) (fun _ _ _ h => np_panic h) (Or.inl ⟨by rfl, ?hy2⟩) (by assumption) ?_
      case hy2 => (intro w' hS'; (try dsimp only at hS'); go_simp; try with_reducible rfl)
      simp only [Act.put, List.setIfInBounds_toArray, List.set_cons_zero, List.set_cons_succ, List.getElem_toArray, List.getElem_cons_succ, List.getElem_cons_zero]
      refine wpAnyH_take (i := 2) (v := ?v3) rfl (by kernel_rfl) (by kernel_rfl) (by kernel_rfl) (fun _ _ _ h => np_panic h) (Or.inl ⟨by rfl, ?hy3⟩) (by assumption) ?_
      case hy3 => (intro w' hS'; (try dsimp only at hS'); go_simp; try with_reducible rfl)
      simp only [Act.put, List.setIfInBounds_toArray, List.set_cons_zero, List.set_cons_succ, List.getElem_toArray, List.getElem_cons_succ, List.getElem_cons_zero]
      refine wpAnyH_take (i := 3) (v := ?v4) rfl (by kernel_rfl) (by kernel_rfl) (by kernel_rfl) (fun _ _ _ h => np_panic h) (Or.inl ⟨by rfl, ?hy4⟩) (by assumption) ?_
      case hy4 => (intro w' hS'; (try dsimp only at hS'); go_simp; try with_reducible rfl)
      simp only [Act.put, List.setIfInBounds_toArray, List.set_cons_zero, List.set_cons_succ, List.getElem_toArray, List.getElem_cons_succ, List.getElem_cons_zero]
      refine wpAnyH_take (i := 5) (v := ?v5) rfl (by kernel_rfl) (by kernel_rfl) (by kernel_rfl) (fun _ _ _ h => np_panic h) (Or.inl ⟨by rfl, ?hy5⟩) (by assumption) ?_
      case hy5 => (intro w' hS'; (try dsimp only at hS'); go_simp; try with_reducible rfl)
      simp only [Act.put, List.setIfInBounds_toArray, List.set_cons_zero, List.set_cons_succ, List.getElem_toArray, List.getElem_cons_succ, List.getElem_cons_zero]
      refine wpAnyH_take (i := 6) (v := ?v6) rfl (by kernel_rfl) (by kernel_rfl) (by kernel_rfl) (fun _ _ _ h => np_panic h) (Or.inl ⟨by rfl, ?hy6⟩) (by assumption) ?_
      case hy6 => (intro w' hS'; (try dsimp only at hS'); go_simp; try with_reducible rfl)
      simp only [Act.put, List.setIfInBounds_toArray, List.set_cons_zero, List.set_cons_succ, List.getElem_toArray, List.getElem_cons_succ, List.getElem_cons_zero]
      refine wpAnyH_take (i := 7) (v := ?v7) rfl (by kernel_rfl) (by kernel_rfl) (by kernel_rfl) (fun _ _ _ h => np_panic h) (Or.inl ⟨by rfl, ?hy7⟩) (by assumption) ?_
      case hy7 => (intro w' hS'; (try dsimp only at hS'); go_simp; try with_reducible rfl)
      simp only [Act.put, List.setIfInBounds_toArray, List.set_cons_zero, List.set_cons_succ, List.getElem_toArray, List.getElem_cons_succ, List.getElem_cons_zero]
      refine wpAnyH_take (i := 8) (v := ?v8) rfl (by kernel_rfl) (by kernel_rfl) (by kernel_rfl) (fun _ _ _ h => np_panic h) (Or.inl ⟨by rfl, ?hy8⟩) (by assumption) ?_
      case hy8 => (intro w' hS'; (try dsimp only at hS'); go_simp; try with_reducible rfl)
      simp only [Act.put, List.setIfInBounds_toArray, List.set_cons_zero, List.set_cons_succ, List.getElem_toArray, List.getElem_cons_succ, List.getElem_cons_zero]
      refine wpAnyH_ready (rs := [4, 9]) (by kernel_rfl) (by simp) ?_
      refine AllReadyH.cons rfl (fun K hK => ?_) (AllReadyH.cons rfl (fun K hK => ?_) AllReadyH.nil)
      · go_simp
        refine hK.out _ _ hSw ?_
        clear hK K
        intro hSw
        try simp only [Act.put, List.setIfInBounds_toArray, List.set_cons_zero, List.set_cons_succ]
        refine wpAnyH_ready (rs := [9]) (by kernel_rfl) (by simp) ?_
        refine AllReadyH.cons rfl (fun K hK => ?_) AllReadyH.nil
        go_simp
        refine (hst x.right em _ y0 isD).mono ?_
        rintro e yy ⟨rfl, hby⟩
        have ownY := owns_below ownD hby
        have beY := bthen beD hby
        have cgY := bkeep hby cg
        have fgY := World.ownsRow.frozenAt ownY
        have sY : World.cell? yy ⟨pn, 0, none⟩ = some (.slice (some ⟨gb, 0, none⟩) V V) ∧ World.cell? yy ⟨rb, 0, none⟩ = some (.int .i64 m) ∧ World.cell? yy ⟨rb, 1, none⟩ = some (.slice ar x.right.length cr) := ⟨bkeep hby hSw.1, bkeep hby hSw.2.1, bkeep hby hSw.2.2⟩
        refine hK.out _ _ sY ?_
        clear hK K
        intro hSw
        try simp only [Act.put, List.setIfInBounds_toArray, List.set_cons_zero, List.set_cons_succ]
        refine wpAnyH_take (i := 10) (v := ?v9) rfl (by kernel_rfl) (by kernel_rfl) (by kernel_rfl) (fun _ _ _ h => np_panic h) (Or.inl ⟨by rfl, ?hy9⟩) (by assumption) ?_
        case hy9 => (intro w' hS'; (try dsimp only at hS'); go_simp; try with_reducible rfl)
        simp only [Act.put, List.setIfInBounds_toArray, List.set_cons_zero, List.set_cons_succ, List.getElem_toArray, List.getElem_cons_succ, List.getElem_cons_zero]
        refine wpAnyH_take (i := 11) (v := ?v10) rfl (by kernel_rfl) (by kernel_rfl) (by kernel_rfl) (fun _ _ _ h => np_panic h) (Or.inl ⟨by rfl, ?hy10⟩) (by assumption) ?_
        case hy10 => (intro w' hS'; (try dsimp only at hS'); go_simp; try with_reducible rfl)
        simp only [Act.put, List.setIfInBounds_toArray, List.set_cons_zero, List.set_cons_succ, List.getElem_toArray, List.getElem_cons_succ, List.getElem_cons_zero]
        refine wpAnyH_ready (rs := [12]) (by kernel_rfl) (by simp) ?_
        refine AllReadyH.cons rfl (fun K hK => ?_) AllReadyH.nil
        go_simp
        have q9 := World.ownsRow.stored ownY m (.int .u64 (U T))
        have be9 := beY.setCell (p := ⟨gb, m, none⟩) hgb1 (.int .u64 (U T))
        have kp : ∀ b o u, b ≠ gb → World.cell? yy ⟨b, o, none⟩ = some u → (World.setCell yy ⟨gb, m, none⟩ (.int .u64 (U T))).cell? ⟨b, o, none⟩ = some u := fun b o u hb hc => by
          rw [World.cell?_of_block (w := yy) (a := ⟨b, o, none⟩) (Below.heap_setCell _ _ _ _ hb)]; exact hc
        have s9 : World.cell? (World.setCell yy ⟨gb, m, none⟩ (.int .u64 (U T))) ⟨pn, 0, none⟩ = some (.slice (some ⟨gb, 0, none⟩) V V) ∧ World.cell? (World.setCell yy ⟨gb, m, none⟩ (.int .u64 (U T))) ⟨rb, 0, none⟩ = some (.int .i64 m) ∧ World.cell? (World.setCell yy ⟨gb, m, none⟩ (.int .u64 (U T))) ⟨rb, 1, none⟩ = some (.slice ar x.right.length cr) := ⟨kp _ _ _ (by omega) hSw.1, kp _ _ _ (by omega) hSw.2.1, kp _ _ _ (by omega) hSw.2.2⟩
        refine hK.out _ _ s9 ?_
        clear hK K
        intro hSw
        try simp only [Act.put, List.setIfInBounds_toArray, List.set_cons_zero, List.set_cons_succ]
        refine wpAnyH_done (by kernel_rfl) (NoPanic.normal ?_) _
        go_wp2_with fail
        go_roundw
        case rel => exact ⟨k + 1, N.set m T, by omega, by go_num, HN2, by simpa using hNl, by rw [← sets_set]; exact q9.1, s9.1, be9⟩
        case measure => simp [intOf]; omega
      · go_simp
        refine (hst x.right em _ y0 isD).mono ?_
        rintro e yy ⟨rfl, hby⟩
        have ownY := owns_below ownD hby
        have beY := bthen beD hby
        have cgY := bkeep hby cg
        have fgY := World.ownsRow.frozenAt ownY
        have sY : World.cell? yy ⟨pn, 0, none⟩ = some (.slice (some ⟨gb, 0, none⟩) V V) ∧ World.cell? yy ⟨rb, 0, none⟩ = some (.int .i64 m) ∧ World.cell? yy ⟨rb, 1, none⟩ = some (.slice ar x.right.length cr) := ⟨bkeep hby hSw.1, bkeep hby hSw.2.1, bkeep hby hSw.2.2⟩
        refine hK.out _ _ sY ?_
        clear hK K
        intro hSw
        try simp only [Act.put, List.setIfInBounds_toArray, List.set_cons_zero, List.set_cons_succ]
        refine wpAnyH_ready (rs := [4]) (by kernel_rfl) (by simp) ?_
        refine AllReadyH.cons rfl (fun K hK => ?_) AllReadyH.nil
        go_simp
        refine hK.out _ _ hSw ?_
        clear hK K
        intro hSw
        try simp only [Act.put, List.setIfInBounds_toArray, List.set_cons_zero, List.set_cons_succ]
        refine wpAnyH_take (i := 10) (v := ?v11) rfl (by kernel_rfl) (by kernel_rfl) (by kernel_rfl) (fun _ _ _ h => np_panic h) (Or.inl ⟨by rfl, ?hy11⟩) (by assumption) ?_
        case hy11 => (intro w' hS'; (try dsimp only at hS'); go_simp; try with_reducible rfl)
        simp only [Act.put, List.setIfInBounds_toArray, List.set_cons_zero, List.set_cons_succ, List.getElem_toArray, List.getElem_cons_succ, List.getElem_cons_zero]
        refine wpAnyH_take (i := 11) (v := ?v12) rfl (by kernel_rfl) (by kernel_rfl) (by kernel_rfl) (fun _ _ _ h => np_panic h) (Or.inl ⟨by rfl, ?hy12⟩) (by assumption) ?_
        case hy12 => (intro w' hS'; (try dsimp only at hS'); go_simp; try with_reducible rfl)
        simp only [Act.put, List.setIfInBounds_toArray, List.set_cons_zero, List.set_cons_succ, List.getElem_toArray, List.getElem_cons_succ, List.getElem_cons_zero]
        refine wpAnyH_ready (rs := [12]) (by kernel_rfl) (by simp) ?_
        refine AllReadyH.cons rfl (fun K hK => ?_) AllReadyH.nil
        go_simp
        have q9 := World.ownsRow.stored ownY m (.int .u64 (U T))
        have be9 := beY.setCell (p := ⟨gb, m, none⟩) hgb1 (.int .u64 (U T))
        have kp : ∀ b o u, b ≠ gb → World.cell? yy ⟨b, o, none⟩ = some u → (World.setCell yy ⟨gb, m, none⟩ (.int .u64 (U T))).cell? ⟨b, o, none⟩ = some u := fun b o u hb hc => by
          rw [World.cell?_of_block (w := yy) (a := ⟨b, o, none⟩) (Below.heap_setCell _ _ _ _ hb)]; exact hc
        have s9 : World.cell? (World.setCell yy ⟨gb, m, none⟩ (.int .u64 (U T))) ⟨pn, 0, none⟩ = some (.slice (some ⟨gb, 0, none⟩) V V) ∧ World.cell? (World.setCell yy ⟨gb, m, none⟩ (.int .u64 (U T))) ⟨rb, 0, none⟩ = some (.int .i64 m) ∧ World.cell? (World.setCell yy ⟨gb, m, none⟩ (.int .u64 (U T))) ⟨rb, 1, none⟩ = some (.slice ar x.right.length cr) := ⟨kp _ _ _ (by omega) hSw.1, kp _ _ _ (by omega) hSw.2.1, kp _ _ _ (by omega) hSw.2.2⟩
        refine hK.out _ _ s9 ?_
        clear hK K
        intro hSw
        try simp only [Act.put, List.setIfInBounds_toArray, List.set_cons_zero, List.set_cons_succ]
        refine wpAnyH_done (by kernel_rfl) (NoPanic.normal ?_) _
        go_wp2_with fail
        go_roundw
        case rel => exact ⟨k + 1, N.set m T, by omega, by go_num, HN2, by simpa using hNl, by rw [← sets_set]; exact q9.1, s9.1, be9⟩
        case measure => simp [intOf]; omega
    · have ho : Onw c (Gen false g.rules) g.rules V 0 N := by
        rw [hN.out, List.take_of_length_le (by omega)]
        exact onw_start hv HE.out
      have HO := hd ho
      clear ho hN
      go_wp2_with fail
      go_loopw [37] (fun i wx => ∃ (k : Nat) (N : List (BitVec 64)), k ≤ V ∧ i = .int .i64 k ∧ Hid (Onw c (Gen false g.rules) g.rules V k N) ∧ N.length = V ∧ wx.ownsRow gb 112 1 (.slice (some ⟨gb, 0, none⟩) V V) V (sets N) ∧ wx.cell? ⟨pn, 0, none⟩ = some (.slice (some ⟨gb, 0, none⟩) V V) ∧ Below w1.heap.size w1 wx) (fun i _ => V - (intOf i).toNat)
      case atStart => exact ⟨0, N, Nat.zero_le _, rfl, HO, hNl, own, pw, bel⟩
      case round =>
        clear hNl own pw bel HO belw
        obtain ⟨k2, N2, hk2, rfl, hO, hNl, own, pw, bel⟩ := hrel
        by_cases hlt2 : k2 < V
        · have hlt3 : (k2 : Int) < (V : Int) := by omega
          have dY := drw1 wr
          have ownD := owns_below own dY
          have beD := bthen bel dY
          have pD := bkeep dY pw
          have hIn : ∀ a, a < V → ∀ v, hasB (N2.getD a 0#64) v = true → v.toNat < V := fun a ha v hb => by have := hv.led ((hO.out.2 a ha).1 v hb); omega
          have hcl : ∀ w' : World, w'.ownsRow gb 112 1 (.slice (some ⟨gb, 0, none⟩) V V) V (sets N2) → ∀ j, j < N2.length → w'.cell? ⟨gb, j, none⟩ = some (.int .u64 (U (N2.getD j 0#64))) := fun w' ho j hj => by rw [World.ownsRow.cellAt ho j (by omega), sets_at hj]
          have GA := grow_any (moreB N2) (fun t => ∀ v, hasB t v = true → v.toNat < V) (N2.getD k2 0#64) (hIn k2 hlt2) (fun t ht v h' => by
              rw [has_or, Bool.or_eq_true, has_more] at h'
              rcases h' with h' | h' | ⟨q, h1, h2⟩
              · exact ht v h'
              · exact ht v h'
              · exact hIn _ (ht q h1) v h2) 157 #[.pointer (some ⟨pn, 0, none⟩)] wr.drew (fun args w => by go_simp)
            (fun t wz ht hz => onward1_any N2 t gb V pn wz (fun v h' => by rw [hNl]; exact ht v h') (by rw [hNl]; exact bkeep hz pD) (hcl wz (owns_below ownD hz)))
          have HON : Hid (∀ r, Grows (moreB N2) (N2.getD k2 0#64) r → r ||| moreB N2 r = r → Onw c (Gen false g.rules) g.rules V (k2 + 1) (N2.set k2 r)) := hd (fun r r1 r2 => onw_step hv hO.out hlt2 r1 r2)
          have cg := hcl _ ownD k2 (by omega)
          clear hIn hcl dY
          generalize N2.getD k2 0#64 = z at *
          have hs0 : World.cell? wr.drew ⟨pn, 0, none⟩ = some (.slice (some ⟨gb, 0, none⟩) V V) := pD
          go_wp2_with fail
          refine wp_region_noPanic ?_
          refine wp_region_held_drew (S := fun w' => World.cell? w' ⟨pn, 0, none⟩ = some (.slice (some ⟨gb, 0, none⟩) V V)) (by kernel_rfl) hs0 ?_
          intro hSw
          obtain ⟨y0, hy0⟩ : ∃ y0, y0 = wr.drew := ⟨_, rfl⟩
          rw [← hy0] at hSw ownD beD cg GA ⊢
          clear hy0
          refine wpAnyH_take (i := 0) (v := ?v13) rfl (by kernel_rfl) (by kernel_rfl) (by kernel_rfl) (fun _ _ _ h => np_panic h) (Or.inl ⟨by rfl, ?hy13⟩) (by assumption) ?_
          case hy13 => (intro w' hS'; (try dsimp only at hS'); go_simp; try with_reducible rfl)
          simp only [Act.put, List.setIfInBounds_toArray, List.set_cons_zero, List.set_cons_succ, List.getElem_toArray, List.getElem_cons_zero]
          refine wpAnyH_take (i := 1) (v := ?v14) rfl (by kernel_rfl) (by kernel_rfl) (by kernel_rfl) (fun _ _ _ h => np_panic h) (Or.inl ⟨by rfl, ?hy14⟩) (by assumption) ?_
          case hy14 => (intro w' hS'; (try dsimp only at hS'); go_simp; try with_reducible rfl)
          simp only [Act.put, List.setIfInBounds_toArray, List.set_cons_zero, List.set_cons_succ, List.getElem_toArray, List.getElem_cons_succ, List.getElem_cons_zero]
          refine wpAnyH_take (i := 2) (v := ?v15) rfl (by kernel_rfl) (by kernel_rfl) (by kernel_rfl) (fun _ _ _ h => np_panic h) (Or.inl ⟨by rfl, ?hy15⟩) (by assumption) ?_
          case hy15 => (intro w' hS'; (try dsimp only at hS'); go_simp; try with_reducible rfl)
          simp only [Act.put, List.setIfInBounds_toArray, List.set_cons_zero, List.set_cons_succ, List.getElem_toArray, List.getElem_cons_succ, List.getElem_cons_zero]
          refine wpAnyH_take (i := 3) (v := ?v16) rfl (by kernel_rfl) (by kernel_rfl) (by kernel_rfl) (fun _ _ _ h => np_panic h) (Or.inl ⟨by rfl, ?hy16⟩) (by assumption) ?_
          case hy16 => (intro w' hS'; (try dsimp only at hS'); go_simp; try with_reducible rfl)
          simp only [Act.put, List.setIfInBounds_toArray, List.set_cons_zero, List.set_cons_succ, List.getElem_toArray, List.getElem_cons_succ, List.getElem_cons_zero]
          refine wpAnyH_take (i := 4) (v := ?v17) rfl (by kernel_rfl) (by kernel_rfl) (by kernel_rfl) (fun _ _ _ h => np_panic h) (Or.inl ⟨by rfl, ?hy17⟩) (by assumption) ?_
          case hy17 => (intro w' hS'; (try dsimp only at hS'); go_simp; try with_reducible rfl)
          simp only [Act.put, List.setIfInBounds_toArray, List.set_cons_zero, List.set_cons_succ, List.getElem_toArray, List.getElem_cons_succ, List.getElem_cons_zero]
          refine wpAnyH_take (i := 6) (v := ?v18) rfl (by kernel_rfl) (by kernel_rfl) (by kernel_rfl) (fun _ _ _ h => np_panic h) (Or.inl ⟨by rfl, ?hy18⟩) (by assumption) ?_
          case hy18 => (intro w' hS'; (try dsimp only at hS'); go_simp; try with_reducible rfl)
          simp only [Act.put, List.setIfInBounds_toArray, List.set_cons_zero, List.set_cons_succ, List.getElem_toArray, List.getElem_cons_succ, List.getElem_cons_zero]
          refine wpAnyH_ready (rs := [5]) (by kernel_rfl) (by simp) ?_
          refine AllReadyH.cons rfl (fun K hK => ?_) AllReadyH.nil
          go_simp
          refine hK.out _ _ hSw ?_
          clear hK K
          intro hSw
          try simp only [Act.put, List.setIfInBounds_toArray, List.set_cons_zero, List.set_cons_succ]
          refine wpAnyH_ready (rs := [7]) (by kernel_rfl) (by simp) ?_
          refine AllReadyH.cons rfl (fun K hK => ?_) AllReadyH.nil
          go_simp
          refine GA.mono ?_
          rintro e yy ⟨r, rfl, r1, r2, hby⟩
          have HON' := hd (HON.out r r1 r2)
          have ownY := owns_below ownD hby
          have beY := bthen beD hby
          have cgY := bkeep hby cg
          have fgY := World.ownsRow.frozenAt ownY
          clear r1 r2
          have sY : World.cell? yy ⟨pn, 0, none⟩ = some (.slice (some ⟨gb, 0, none⟩) V V) := bkeep hby hSw
          refine hK.out _ _ sY ?_
          clear hK K
          intro hSw
          try simp only [Act.put, List.setIfInBounds_toArray, List.set_cons_zero, List.set_cons_succ]
          refine wpAnyH_take (i := 8) (v := ?v19) rfl (by kernel_rfl) (by kernel_rfl) (by kernel_rfl) (fun _ _ _ h => np_panic h) (Or.inl ⟨by rfl, ?hy19⟩) (by assumption) ?_
          case hy19 => (intro w' hS'; (try dsimp only at hS'); go_simp; try with_reducible rfl)
          simp only [Act.put, List.setIfInBounds_toArray, List.set_cons_zero, List.set_cons_succ, List.getElem_toArray, List.getElem_cons_succ, List.getElem_cons_zero]
          refine wpAnyH_ready (rs := [9]) (by kernel_rfl) (by simp) ?_
          refine AllReadyH.cons rfl (fun K hK => ?_) AllReadyH.nil
          go_simp
          have q9 := World.ownsRow.stored ownY k2 (.int .u64 (U r))
          have be9 := beY.setCell (p := ⟨gb, k2, none⟩) hgb1 (.int .u64 (U r))
          have s9 : World.cell? (World.setCell yy ⟨gb, k2, none⟩ (.int .u64 (U r))) ⟨pn, 0, none⟩ = some (.slice (some ⟨gb, 0, none⟩) V V) := by
            rw [World.cell?_of_block (w := yy) (a := ⟨pn, 0, none⟩) (Below.heap_setCell _ _ _ _ hgp.symm)]; exact hSw
          refine hK.out _ _ s9 ?_
          clear hK K
          intro hSw
          try simp only [Act.put, List.setIfInBounds_toArray, List.set_cons_zero, List.set_cons_succ]
          refine wpAnyH_done (by kernel_rfl) (NoPanic.normal ?_) _
          go_wp2_with fail
          go_roundw
          case rel => exact ⟨k2 + 1, N2.set k2 r, by omega, by go_num, HON', by simpa using hNl, by rw [← sets_set]; exact q9.1, s9, be9⟩
          case measure => simp [intOf]; omega
        · obtain rfl : k2 = V := by omega
          have HO' := hO
          clear hO
          go_wp2_with fail
          go_ret
          exact ⟨gb, N2, rfl, owns_mono own (by omega), HO'.out, bthen b1 bel⟩
end Go.Proofs.Ytlhdppkllmnmkad.G
