/- The document's own copies of expressions. -/
import Derived.Test.YtdikjhfnmkejcabRf
import Derived.Test.YtdikjhfnmkejcabText
import Derived.Deep.RegionLaw
namespace Go.Proofs.Ytdikjhfnmkejcab
open Go.RowKit
theorem step_own {P : Program} {ops : Array Oper} {o : Oper} {a : Act} {w : World} {K : Act → World → Prop} {Q : Exit → Act → World → Prop} {E : Prop}
    (hg : o.guard = none) (s x : Operand) (t : TypeId) (hop : o.op = Op.call { callee := Callee.builtin Builtin.append, args := #[s, x], argTypes := #[t, t] })
    (base : Nat) (e : TypeId) (i : TypeInfo) (z : Value) (size bytes : Nat) (h1 : P.underlying t = some (.slice e)) (h2 : P.info? e = some i) (h3 : i.zero = some z) (h4 : i.size = size) (h5 : i.bytes = bytes) (h6 : z.cells.size = size) (h7 : 0 < size)
    (v : Value) (n : Nat) (xs : List Value) (hs : a.eval s = v) (hown : w.ownsRow base e size v n xs)
    (ad : Addr) (m c : Nat) (news : List Value) (hx : a.eval x = .slice (some ad) m c) (hn : news.length = m * size) (hc : ∀ j u, news[j]? = some u → w.cell? (ad.add j) = some u) (h1c : ∀ u ∈ news, u.oneCell' = true)
    (b1 : n + m ≤ maxLen) (b2 : (n + m) * bytes ≤ 140737488355328) (hbase : base ≤ w.heap.size)
    (hK : ∀ v' w', w'.ownsRow base e size v' (n + m) (xs ++ news) → w.grownBy w' v.ownBlock → (v'.ownBlock = v.ownBlock ∨ v'.ownBlock = some w.heap.size) → K (a.put o.dst v') w') :
    if Region.wanted o (yielded ops a.tmps) = true then Oper.wp P o a w K Q else E := by
  have hw : Region.wanted o (yielded ops a.tmps) = true := by simp [Region.wanted, hg]
  rw [if_pos hw]
  obtain ⟨v', w', hrun, r1, r2, _, r4⟩ := run_append_own_at (P := P) w base t o.type e i z size bytes h1 h2 h3 h4 h5 h6 h7 v n xs hown ad m c news hn hc h1c b1 b2 hbase
  unfold Oper.wp
  simp [execOp, hop, resolve, invoke, builtin, hs, hx, hrun, Result.andThen]
  exact hK v' w' r1 r2 r4
theorem cell3_new1 (w : World) (v0 v1 v2 : Value) (t : TypeId) : ∀ j u, [v0, v1, v2][j]? = some u → (w.alloc (.cells #[v0, v1, v2] t)).cell? ((⟨w.heap.size, 0, none⟩ : Addr).add j) = some u := by
  intro j u hj
  match j, hj with
  | 0, hj => simp at hj; subst hj; simp [Addr.add]
  | 1, hj => simp at hj; subst hj; simp [Addr.add]
  | 2, hj => simp at hj; subst hj; simp [Addr.add]
  | n + 3, hj => simp at hj
theorem Fo.snoc_at : ∀ (f : Fo) (x : Xp) (i : Nat), i < f.len → (f.snoc x).at_ i = f.at_ i
  | .nil, _, _, h => absurd h (Nat.not_lt_zero _)
  | .cons .., _, 0, _ => rfl
  | .cons _ _ _ r, x, i + 1, h => Fo.snoc_at r x i (by simpa [Fo.len] using h)
theorem Fo.snoc_last : ∀ (f : Fo) (x : Xp), (f.snoc x).at_ f.len = x
  | .nil, _ => rfl
  | .cons _ _ _ r, x => Fo.snoc_last r x
theorem Fo.sz_le : ∀ {f : Fo} {i : Nat}, i < f.len → (f.at_ i).sz ≤ f.sz
  | .nil, _, h => absurd h (Nat.not_lt_zero _)
  | .cons .., 0, _ => Nat.le_add_right _ _
  | .cons _ _ _ r, i + 1, h => Nat.le_trans (Fo.sz_le (f := r) (i := i) (by simpa [Fo.len] using h)) (Nat.le_add_left _ _)
def OwOK (x : Xp) : Prop := ∀ (va : Value) (w : World), XV w All va x → x.sz ≤ 3000 →
  Calls Try.prog 37 #[va] w fun e w' => ∃ v, e = .returned v ∧ XV w' (fun k => w.heap.size ≤ k) v x ∧ Below w.heap.size w w'
set_option maxRecDepth 100000 in
set_option maxHeartbeats 16000000 in
theorem ow_head (x : Xp) (ih : ∀ i, i < x.kids.len → OwOK (x.kids.at_ i)) : OwOK x := by
  intro va w hx hsz
  obtain ⟨i0, hi, iz0, iz1, iz2⟩ := info_parts Try.infoExpr
  obtain ⟨u, rfl, hl, ao, cap, rfl, hin⟩ := hx
  have hls := Fo.len_sz x.kids
  have hxs : x.sz = 1 + x.kids.sz := rfl
  obtain ⟨V, hV⟩ : ∃ V, V = (w.alloc (.cells #[.int .i64 x.op, .string x.nm, .slice ao x.kids.len cap] 48)).alloc (.cells #[.int .i64 0, .string ⟨#[]⟩, .slice none 0 0] 48) := ⟨_, rfl⟩
  have hVz : V.heap.size = w.heap.size + 2 := by rw [hV]; simp
  obtain ⟨W, hW⟩ : ∃ W, W = V.alloc (.cells #[.int .i64 x.op, .string x.nm, .slice none 0 0] 48) := ⟨_, rfl⟩
  have hVW : Below V.heap.size V W := by rw [hW]; exact al1 _ _
  have hWz : W.heap.size = w.heap.size + 3 := by rw [hW]; simp; omega
  have hVb : Below w.heap.size w V := by rw [hV]; exact al2 _ _ _
  have hWb : Below w.heap.size w W := hVb.trans (hVW.mono (by omega))
  have hW2 : W.cell? ⟨w.heap.size, 2, none⟩ = some (.slice ao x.kids.len cap) := bkeep hVW (by rw [hV]; simp)
  have hWr0 : W.cell? ⟨w.heap.size + 1, 0, none⟩ = some (.int .i64 0) := bkeep hVW (by rw [hV]; simp)
  have hWr1 : W.cell? ⟨w.heap.size + 1, 1, none⟩ = some (.string ⟨#[]⟩) := bkeep hVW (by rw [hV]; simp)
  have hWr2 : W.cell? ⟨w.heap.size + 1, 2, none⟩ = some (.slice none 0 0) := bkeep hVW (by rw [hV]; simp)
  have hWrf : ∀ i, W.frozen? ⟨w.heap.size + 1, i, none⟩ = false := fun i => by
    rw [World.frozen?_of_block (w := V) (a := ⟨w.heap.size + 1, i, none⟩) (hVW.block (w.heap.size + 1) (by omega)), hV]; simp [go_sem]
  have hWo : ∀ i, W.cell? ⟨w.heap.size + 2, i, none⟩ = (V.alloc (.cells #[.int .i64 x.op, .string x.nm, .slice none 0 0] 48)).cell? ⟨V.heap.size, i, none⟩ := fun i => by rw [hW, hVz]
  have hWo0 : W.cell? ⟨w.heap.size + 2, 0, none⟩ = some (.int .i64 x.op) := by rw [hWo]; simp
  have hWo1 : W.cell? ⟨w.heap.size + 2, 1, none⟩ = some (.string x.nm) := by rw [hWo]; simp
  have hWo2 : W.cell? ⟨w.heap.size + 2, 2, none⟩ = some (.slice none 0 0) := by rw [hWo]; simp
  have hWof : ∀ i, W.frozen? ⟨w.heap.size + 2, i, none⟩ = false := fun i => by rw [hW, ← hVz]; simp [go_sem]
  clear hWo
  go_enter Try.func37, Try.ntmps37
  go_wp2_with fail
  rw [← hV, ← hW]
  have HW := hd hW
  have HV := hd hV
  clear hW hV
  go_loopw [4] (fun i wr => ∃ (k : Nat) (acc : Fo) (v : Value) (xs : List Value), k ≤ x.kids.len ∧ i = .int .i64 k ∧ acc.len = k ∧ Hid (∀ j, j < k → acc.at_ j = x.kids.at_ j) ∧ wr.ownsRow (w.heap.size + 3) 48 3 v acc.len xs ∧ FoC wr (fun q => w.heap.size + 3 ≤ q ∧ v.ownBlock ≠ some q) xs acc ∧
    wr.cell? ⟨w.heap.size + 2, 0, none⟩ = some (.int .i64 x.op) ∧ wr.cell? ⟨w.heap.size + 2, 1, none⟩ = some (.string x.nm) ∧ wr.cell? ⟨w.heap.size + 2, 2, none⟩ = some v ∧ (∀ i, wr.frozen? ⟨w.heap.size + 2, i, none⟩ = false) ∧ But (w.heap.size + 2) W wr) (fun i _ => x.kids.len - (intOf i).toNat)
  case atStart => exact ⟨0, .nil, .slice none 0 0, [], Nat.zero_le _, rfl, rfl, hd (fun j hj => absurd hj (Nat.not_lt_zero _)), World.ownsRow_nil _ _ _ _, trivial, hWo0, hWo1, hWo2, hWof, But.refl _ _⟩
  case round =>
    obtain ⟨k, acc, v, xs, hk, rfl, hal, hac, hown, hfc, o0, o1, o2, hof, hbt⟩ := hrel
    have hz := hbt.size
    have bel : Below w.heap.size w wr := hWb.trans (hbt.below (by omega) (by omega))
    have s2 : wr.cell? ⟨w.heap.size, 2, none⟩ = some (.slice ao x.kids.len cap) := by rw [hbt.cell (by omega) (by omega)]; exact hW2
    by_cases hlt : k < x.kids.len
    · obtain h0 | ⟨ba, oa, rfl, hia⟩ := hin
      · omega
      have kA : ∀ b o v, All b → w.cell? ⟨b, o, none⟩ = some v → All b ∧ wr.cell? ⟨b, o, none⟩ = some v := keep_cell (fun _ _ h => h) (Kp.of_below bel).block
      obtain ⟨ua, a0, a1, a2, hxa⟩ := ((hia.mono kA).at_ k hlt).xv
      have hxa' := hxa
      obtain ⟨_, e, _, aoa', capa', rfl, _⟩ := hxa'
      simp at e; subst e
      have hks := Fo.sz_le hlt
      have IH := fun w hx => ih k hlt (.agg #[.int .i64 (x.kids.at_ k).op, .string (x.kids.at_ k).nm, .slice aoa' (x.kids.at_ k).kids.len capa']) w hx (by omega)
      have hac' : Hid (∀ y, y = x.kids.at_ k → ∀ j, j < k + 1 → (acc.snoc y).at_ j = x.kids.at_ j) := hd (fun y hy j hj => by
        by_cases e : j = k
        · rw [e, ← hal, Fo.snoc_last, hal]; exact hy
        · rw [Fo.snoc_at _ _ _ (by omega)]; exact hac.out j (by omega))
      have HLT := hd hlt
      rw [hal] at hown
      have HAL := hd hal
      clear hal
      obtain ⟨xk, hxk⟩ : ∃ xk, xk = x.kids.at_ k := ⟨_, rfl⟩
      have HXK := hd hxk
      rw [← hxk] at a0 a1 a2 hxa IH hks
      clear hxk
      have hvl : ∀ q, v.ownBlock = some q → w.heap.size + 3 ≤ q ∧ q < wr.heap.size := fun q e => hown.lt q e
      obtain ⟨aov, capv, rfl⟩ := owns_slice hown
      have drw : Below wr.heap.size wr wr.drew := ⟨rfl, rfl, rfl, Nat.le_refl _, fun _ _ => rfl⟩
      have IHd := IH wr.drew (hxa.below drw)
      have hown0 : wr.drew.ownsRow (w.heap.size + 3) 48 3 (.slice aov k capv) k xs := hown
      have bt0 : But (w.heap.size + 2) W wr.drew := hbt.drew
      have of0 : ∀ i, wr.drew.frozen? ⟨w.heap.size + 2, i, none⟩ = false := hof
      have e0 : wr.drew.cell? ⟨w.heap.size + 2, 0, none⟩ = some (.int .i64 x.op) := o0
      have e1 : wr.drew.cell? ⟨w.heap.size + 2, 1, none⟩ = some (.string x.nm) := o1
      have e2 : wr.drew.cell? ⟨w.heap.size + 2, 2, none⟩ = some (.slice aov k capv) := o2
      go_wp2_with fail
      go_region_law
        (first
          | (go_simp; go_at_call 37; refine IHd.mono ?_; rintro e w2 ⟨_, rfl, ⟨u2, rfl, hu2⟩, hb2⟩; obtain ⟨hl2, ao2, cap2, rfl, hin2⟩ := id hu2; have z2 : wr.heap.size ≤ w2.heap.size := hb2.size; have f0 := bkeep hb2 e0; have f1 := bkeep hb2 e1; have f2 := bkeep hb2 e2; have ff : ∀ i, w2.frozen? ⟨w.heap.size + 2, i, none⟩ = false := (fun i => (World.frozen?_of_block (a := ⟨w.heap.size + 2, i, none⟩) (hb2.block _ (lt_of_cell e0))).trans (of0 i)); have f2u : (w2.alloc (.cells #[.int .i64 xk.op, .string xk.nm, .slice ao2 xk.kids.len cap2] 48)).cell? ⟨w.heap.size + 2, 2, none⟩ = some (.slice aov k capv) := alcell f2 _; have own2 := owns_but hown0 (But.of_below (r := w.heap.size + 2) hb2) (by omega); have own3 : (w2.alloc (.cells #[.int .i64 xk.op, .string xk.nm, .slice ao2 xk.kids.len cap2] 48)).ownsRow (w.heap.size + 3) 48 3 (.slice aov k capv) k xs := own2.alloc _; have bt3 : But (w.heap.size + 2) W (w2.alloc (.cells #[.int .i64 xk.op, .string xk.nm, .slice ao2 xk.kids.len cap2] 48)) := (bt0.trans (But.of_below hb2)).alloc _)
          | (refine step_own rfl (.tmp 18) (.tmp 25) 46 rfl (w.heap.size + 3) 48 i0 (.agg #[.int .i64 0, .string ⟨#[]⟩, .slice none 0 0]) 3 48 Try.underlying46 hi iz0 iz1 iz2 rfl (by decide) (.slice aov k capv) k xs (by simp [Act.eval]) own3 ⟨w2.heap.size, 0, none⟩ 1 1 [.int .i64 xk.op, .string xk.nm, .slice ao2 xk.kids.len cap2] (by simp [Act.eval]) rfl (cell3_new1 w2 _ _ _ _) (oneX _ _ _ _ _) (by unfold maxLen; omega) (by omega) (by simp; omega) ?_; intro v' w4 own4 grow4 hat; have bt4 : But (w.heap.size + 2) W w4 := bt3.grown grow4 (fun q e => by have := (hvl q e).1; omega); have z4 := grow4.size; have gk : ∀ q, q < w2.heap.size → q < w.heap.size + 3 → w4.heap[q]? = w2.heap[q]? := (fun q h1 h2 => by rw [grow4.block q (by simp; omega) (fun e => by have := (hvl q e.symm).1; omega)]; exact (al1 w2 _).block q h1); have f40 : w4.cell? ⟨w.heap.size + 2, 0, none⟩ = some (.int .i64 x.op) := (World.cell?_of_block (a := ⟨w.heap.size + 2, 0, none⟩) (gk (w.heap.size + 2) (lt_of_cell f0) (by omega))).trans f0; have f41 : w4.cell? ⟨w.heap.size + 2, 1, none⟩ = some (.string x.nm) := (World.cell?_of_block (a := ⟨w.heap.size + 2, 1, none⟩) (gk (w.heap.size + 2) (lt_of_cell f0) (by omega))).trans f1; have f42 : w4.cell? ⟨w.heap.size + 2, 2, none⟩ = some (.slice aov k capv) := (World.cell?_of_block (a := ⟨w.heap.size + 2, 2, none⟩) (gk (w.heap.size + 2) (lt_of_cell f0) (by omega))).trans f2; have f4f : ∀ i, w4.frozen? ⟨w.heap.size + 2, i, none⟩ = false := (fun i => (World.frozen?_of_block (a := ⟨w.heap.size + 2, i, none⟩) (gk (w.heap.size + 2) (lt_of_cell f0) (by omega))).trans (ff i)); obtain ⟨ao4, cap4, rfl⟩ := owns_slice own4))
      all_goals
        have bt5 : But (w.heap.size + 2) W (w4.setCell ⟨w.heap.size + 2, 2, none⟩ (.slice ao4 (k + 1) cap4)) := bt4.setCell (.inl rfl) _
        have own5 := (owns_setCell (a := ⟨w.heap.size + 2, 2, none⟩) own4 (by show w.heap.size + 2 < w.heap.size + 3; omega) : (w4.setCell ⟨w.heap.size + 2, 2, none⟩ (.slice ao4 (k + 1) cap4)).ownsRow _ _ _ _ _ _)
        have z4' : w2.heap.size + 1 ≤ w4.heap.size := by simpa using z4
        have fc5 : FoC (w4.setCell ⟨w.heap.size + 2, 2, none⟩ (.slice ao4 (k + 1) cap4)) (fun q => w.heap.size + 3 ≤ q ∧ (Value.slice ao4 (k + 1) cap4).ownBlock ≠ some q) (xs ++ [.int .i64 xk.op, .string xk.nm, .slice ao2 xk.kids.len cap2]) (acc.snoc xk) := by
          refine FoC_step (w1 := w2) (g := w2.heap.size + 1) (x := xk) hfc hu2 (by omega) (by omega) ?_ ?_ (fun q e => (hvl q e).2) z2 (by simpa using hat)
          · have kk1 : Kp (fun q => w.heap.size + 3 ≤ q ∧ (Value.slice aov k capv).ownBlock ≠ some q) wr w2 := ⟨hb2.size, fun q hq _ => hb2.block q hq⟩
            exact Kp.setCell ((kk1.alloc _).grown grow4 (fun q e => .inl fun hs => hs.2 e)) (.inl fun hs => by have := hs.1; simp at this) _
          · exact Kp.setCell (((Kp.refl _ w2).alloc _).grown grow4 (fun q e => .inl fun hs => by have := (hvl q e).2; omega)) (.inl fun hs => by simp at hs; omega) _
        have p0 : (w4.setCell ⟨w.heap.size + 2, 2, none⟩ (.slice ao4 (k + 1) cap4)).cell? ⟨w.heap.size + 2, 0, none⟩ = some (.int .i64 x.op) := by rw [World.cell?_setCell_other _ _ _ _ (by simp)]; exact f40
        have p1 : (w4.setCell ⟨w.heap.size + 2, 2, none⟩ (.slice ao4 (k + 1) cap4)).cell? ⟨w.heap.size + 2, 1, none⟩ = some (.string x.nm) := by rw [World.cell?_setCell_other _ _ _ _ (by simp)]; exact f41
        have p2 : (w4.setCell ⟨w.heap.size + 2, 2, none⟩ (.slice ao4 (k + 1) cap4)).cell? ⟨w.heap.size + 2, 2, none⟩ = some (.slice ao4 (k + 1) cap4) := World.cell?_setCell_same _ _ _ f42
        have pf : ∀ i, (w4.setCell ⟨w.heap.size + 2, 2, none⟩ (.slice ao4 (k + 1) cap4)).frozen? ⟨w.heap.size + 2, i, none⟩ = false := fun i => by simp [go_sem, f4f i]
        obtain ⟨Z, hZ⟩ : ∃ Z, Z = w4.setCell ⟨w.heap.size + 2, 2, none⟩ (.slice ao4 (k + 1) cap4) := ⟨_, rfl⟩
        rw [← hZ] at bt5 own5 fc5 p0 p1 p2 pf
        rw [← hZ]
        clear hZ bt4 own4 f40 f41 f42 f4f
        go_wp2_with fail
        go_roundw
        case rel => exact ⟨k + 1, acc.snoc xk, _, _, by omega, by go_num, by rw [Fo.len_snoc, HAL.out], hd (hac'.out xk HXK.out), by rw [Fo.len_snoc, HAL.out]; exact own5, fc5, p0, p1, p2, pf, bt5⟩
        case measure => simp [intOf]; omega
    · have hke : k = x.kids.len := by omega
      have hacc : acc = x.kids := Fo.ext_at _ _ (by omega) (fun j hj => hac.out j (by omega))
      have hfv := FoV_owned (T := fun q => w.heap.size + 3 ≤ q) hown hfc (fun _ h => h.1) (fun _ h => h) (by omega)
      rw [hacc] at hfv
      obtain ⟨aov, capv, rfl⟩ := owns_slice hown
      have r0 : wr.cell? ⟨w.heap.size + 1, 0, none⟩ = some (.int .i64 0) := by rw [hbt.cell (by omega) (by omega)]; exact hWr0
      have r1 : wr.cell? ⟨w.heap.size + 1, 1, none⟩ = some (.string ⟨#[]⟩) := by rw [hbt.cell (by omega) (by omega)]; exact hWr1
      have r2 : wr.cell? ⟨w.heap.size + 1, 2, none⟩ = some (.slice none 0 0) := by rw [hbt.cell (by omega) (by omega)]; exact hWr2
      have rf : ∀ i, wr.frozen? ⟨w.heap.size + 1, i, none⟩ = false := fun i => by rw [hbt.frozen (by omega) (by omega)]; exact hWrf i
      have HKE := hd hke
      have HAC := hd hacc
      have HAL := hd hal
      clear hke hacc hal hown hfc
      go_wp2_with fail
      refine bodyPost_ret (v := .agg #[.int .i64 x.op, .string x.nm, .slice aov acc.len capv]) (by simp [results, Try.results37, go_sem, r0, r1, r2]) rfl ⟨_, rfl, ⟨_, rfl, ?_⟩, ?_⟩
      · refine hfv.kp (((Kp.refl _ wr).setCell (.inl ?_) _).setCell (.inl ?_) _ |>.setCell (.inl ?_) _) (fun q _ h => by omega) <;> simp
      · exact ((bel.setCell (p := ⟨w.heap.size + 1, 0, none⟩) (Nat.le_succ _) _).setCell (p := ⟨w.heap.size + 1, 1, none⟩) (Nat.le_succ _) _).setCell (p := ⟨w.heap.size + 1, 2, none⟩) (Nat.le_succ _) _
theorem ow_all : ∀ (f : Fo) (i : Nat), i < f.len → OwOK (f.at_ i)
  | .nil, _, h => absurd h (Nat.not_lt_zero _)
  | .cons op nm kids _, 0, _ => ow_head ⟨op, nm, kids⟩ (ow_all kids)
  | .cons _ _ _ rest, i + 1, h => ow_all rest i (by simpa [Fo.len] using h)
theorem ow_any (x : Xp) : OwOK x := ow_head x (ow_all x.kids)
end Go.Proofs.Ytdikjhfnmkejcab
