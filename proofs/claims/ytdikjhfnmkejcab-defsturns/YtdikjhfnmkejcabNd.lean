/- Names of a kind, in the document's way; the names of definitions, both ways. -/
import Derived.Test.YtdikjhfnmkejcabSl
import Derived.Test.YtdikjhfnmkejcabOw
import Derived.Laws.AppendOwnNone
namespace Go.Proofs.Ytdikjhfnmkejcab
open Go.RowKit
theorem Try.infoStr : (Try.prog.info? 9).map (fun i => (i.zero, i.size, i.bytes)) = some (some (.string ⟨#[]⟩), 1, 16) := by kernel_rfl
theorem oneSs (l : List ByteArray) : ∀ u ∈ l.map Value.string, u.oneCell' = true := by
  intro u hu
  obtain ⟨s, _, rfl⟩ := List.mem_map.1 hu
  rfl
theorem cell_one_at (w : World) (x : Value) (t : TypeId) {n : Nat} (hn : n = w.heap.size) : ∀ j u, [x][j]? = some u → (w.alloc (.cells #[x] t)).cell? ((⟨n, 0, none⟩ : Addr).add j) = some u := by
  subst hn; exact cell_one_new w x t
/-- A slice of one's own behind another. -/
theorem wpList_append_row {P : Program} (w : World) {ops : Array Oper} {rest : List Oper} {o : Oper} {a : Act} {Q : Exit → Act → World → Prop} (hgd : o.guard = none) (s x : Operand) (t : TypeId)
    (ho : o.op = .call { callee := .builtin .append, args := #[s, x], argTypes := #[t, t] })
    (base base2 : Nat) (e : TypeId) (i : TypeInfo) (z : Value) (size bytes : Nat) (ht : P.underlying t = some (.slice e)) (hi : P.info? e = some i) (hz : i.zero = some z)
    (hsize : i.size = size) (hby : i.bytes = bytes) (hzs : z.cells.size = size) (hsz : 0 < size)
    (v : Value) (n : Nat) (xs : List Value) (hs : a.eval s = v) (hown : w.ownsRow base e size v n xs)
    (v2 : Value) (m : Nat) (ys : List Value) (hx : a.eval x = v2) (hown2 : w.ownsRow base2 e size v2 m ys) (h1 : ∀ u ∈ ys, u.oneCell' = true)
    (h63 : n + m ≤ maxLen) (hbytes : (n + m) * bytes ≤ 140737488355328) (hbase : base ≤ w.heap.size)
    (h : ∀ v' w', w'.ownsRow base e size v' (n + m) (xs ++ ys) → w.grownBy w' v.ownBlock → wpList P ops Q rest (a.put o.dst v') w') : wpList P ops Q (o :: rest) a w := by
  have h0 := hown2
  rcases hown2.2 with ⟨rfl, rfl⟩ | ⟨g, cap, cur, rfl, _⟩
  · have hy : ys = [] := List.eq_nil_of_length_eq_zero (by rw [hown2.1]; omega)
    subst hy
    refine wpList_append_own_none hgd s x t ho base e i size ht hi v n xs hs hown hx (h v w ?_ ⟨rfl, rfl, rfl, Nat.le_refl _, fun _ _ _ => rfl⟩)
    simpa using hown
  · refine wpList_append_own w hgd s x t ho base e i z size bytes ht hi hz hsize hby hzs hsz v n xs hs hown ⟨g, 0, none⟩ m cap ys hx hown2.1 (fun j u hj => ?_) h1 h63 hbytes hbase (fun v' w' q1 q2 _ => h v' w' q1 q2)
    have hj' : j < ys.length := by
      rcases Nat.lt_or_ge j ys.length with h | h
      · exact h
      · rw [List.getElem?_eq_none h] at hj; cases hj
    have := World.ownsRow.cellAt h0 j (by rw [← hown2.1]; exact hj')
    rw [hj] at this
    rw [show (⟨g, 0, none⟩ : Addr).add j = ⟨g, j, none⟩ by cases j <;> simp [Addr.add]]; exact this
def NdOK (x : Xp) : Prop := ∀ (q : Int) (va : Value) (w : World), XV w All va x → x.sz ≤ 3000 →
  Calls Try.prog 45 #[va, .int .i64 q] w fun e w' => ∃ v, e = .returned v ∧ w'.ownsRow w.heap.size 9 1 v (x.nmd q).length ((x.nmd q).map .string) ∧ Below w.heap.size w w'
set_option maxRecDepth 100000 in
set_option maxHeartbeats 8000000 in
theorem nd_head (x : Xp) (ih : ∀ i, i < x.kids.len → NdOK (x.kids.at_ i)) : NdOK x := by
  intro q va w hx hsz
  obtain ⟨i0, hi, iz0, iz1, iz2⟩ := info_parts Try.infoStr
  obtain ⟨u, rfl, hl, ao, cap, rfl, hin⟩ := hx
  have hxs : x.sz = 1 + x.kids.sz := rfl
  obtain ⟨V, hV⟩ : ∃ V, V = w.alloc (.cells #[.int .i64 x.op, .string x.nm, .slice ao x.kids.len cap] 48) := ⟨_, rfl⟩
  have hVz : V.heap.size = w.heap.size + 1 := by rw [hV]; simp
  have hVb : Below w.heap.size w V := by rw [hV]; exact al1 _ _
  have hV0 : V.cell? ⟨w.heap.size, 0, none⟩ = some (.int .i64 x.op) := by rw [hV]; simp
  have hV1 : V.cell? ⟨w.heap.size, 1, none⟩ = some (.string x.nm) := by rw [hV]; simp
  have hV2 : V.cell? ⟨w.heap.size, 2, none⟩ = some (.slice ao x.kids.len cap) := by rw [hV]; simp
  by_cases hq : x.op = q
  · have hst : x.nmd q = [x.nm] ++ (x.kids.drp 0).nmd q := by rw [Fo.drp_zero, Xp.nmd, if_pos hq]
    subst hq
    have HST := hd hst
    clear hst
    go_enter Try.func45, Try.ntmps45
    go_wp2_with (first | (at_builtin; go_must (refine wpList_append_own _ rfl _ _ 39 rfl (w.heap.size + 1) 9 i0 (.string ⟨#[]⟩) 1 16 Try.underlying39 hi iz0 iz1 iz2 rfl (by decide) _ _ _ rfl (World.ownsRow_nil _ _ _ _) ⟨w.heap.size + 1, 0, none⟩ 1 1 [.string x.nm] rfl rfl (cell_one_at _ _ _ (by simp)) (oneSs [x.nm]) (by unfold maxLen; omega) (by omega) (by simp <;> omega) ?_)))
    intro v1 W own1 grow1 _
    rw [← hV] at grow1
    have hVW : Below V.heap.size V W := (al1 V _).grown grow1 (al1 V _).size (fun j hj => by cases hj)
    have HV := hd hV
    clear hV grow1
    have hWz : w.heap.size + 1 ≤ W.heap.size := by have := hVW.size; omega
    have hWb : Below w.heap.size w W := hVb.trans (hVW.mono (by omega))
    have hW2 := bkeep hVW hV2
    clear hVb hV0 hV1 hV2 hVW
    go_wp2_with fail
    go_loopw [5, 6] (fun v i wr => ∃ (k : Nat) (acc : List ByteArray), k ≤ x.kids.len ∧ i = .int .i64 k ∧ Hid (acc ++ (x.kids.drp k).nmd x.op = x.nmd x.op) ∧ acc.length ≤ 3000 ∧ wr.ownsRow (w.heap.size + 1) 9 1 v acc.length (acc.map .string) ∧ Below (w.heap.size + 1) W wr) (fun _ i _ => x.kids.len - (intOf i).toNat)
    case atStart => exact ⟨0, [x.nm], Nat.zero_le _, rfl, hd HST.out.symm, by simp, by simpa using own1, Below.refl _ _⟩
    case round =>
      obtain ⟨k, acc, hk, rfl, hacc, hal, hown, hb⟩ := hrel
      have hz := hb.size
      have bel : Below w.heap.size w wr := hWb.trans (hb.mono (by omega))
      have s2 : wr.cell? ⟨w.heap.size, 2, none⟩ = some (.slice ao x.kids.len cap) := by rw [hb.cell (p := ⟨w.heap.size, 2, none⟩) (by simp)]; exact hW2
      by_cases hlt : k < x.kids.len
      · obtain h0 | ⟨ba, oa, rfl, hia⟩ := hin
        · omega
        have kA : ∀ b o v, All b → w.cell? ⟨b, o, none⟩ = some v → All b ∧ wr.cell? ⟨b, o, none⟩ = some v := keep_cell (fun _ _ h => h) (Kp.of_below bel).block
        obtain ⟨ua, a0, a1, a2, hxa⟩ := ((hia.mono kA).at_ k hlt).xv
        have hxa' := hxa
        obtain ⟨_, e, _, aoa', capa', rfl, _⟩ := hxa'
        simp at e; subst e
        have hks := Fo.sz_le hlt
        have IH := fun w hx => ih k hlt x.op (.agg #[.int .i64 (x.kids.at_ k).op, .string (x.kids.at_ k).nm, .slice aoa' (x.kids.at_ k).kids.len capa']) w hx (by omega)
        have hacc' : Hid ((acc ++ (x.kids.at_ k).nmd x.op) ++ (x.kids.drp (k + 1)).nmd x.op = x.nmd x.op) := hd (by rw [← hacc.out, Fo.nmd_at x.op hlt, List.append_assoc])
        have hml : acc.length + ((x.kids.at_ k).nmd x.op).length ≤ 3000 := by
          have h1 := Xp.nmd_len x.op x
          rw [← hacc'.out] at h1
          simp only [List.length_append] at h1
          omega
        generalize (x.kids.at_ k).nmd x.op = L at *
        generalize x.kids.at_ k = xk at *
        clear hacc
        obtain ⟨aov, capv, rfl⟩ := owns_slice hown
        go_wp2_with fail
        refine (IH _ hxa).mono ?_
        rintro e w2 ⟨v2, rfl, own2, hb2⟩
        have z2 := hb2.size
        have own1 : w2.ownsRow (w.heap.size + 1) 9 1 (.slice aov acc.length capv) acc.length (acc.map .string) := owns_below hown hb2
        obtain ⟨aov2, capv2, rfl⟩ := owns_slice own2
        go_wp2_with (first | (at_builtin; go_must (refine wpList_append_row _ rfl _ _ 39 rfl (w.heap.size + 1) wr.heap.size 9 i0 (.string ⟨#[]⟩) 1 16 Try.underlying39 hi iz0 iz1 iz2 rfl (by decide) _ _ _ rfl own1 _ _ _ rfl own2 (oneSs L) (by unfold maxLen; omega) (by omega) (by omega) ?_)))
        intro v' w4 own4 grow4
        go_wp2_with fail
        go_roundw
        case rel => exact ⟨k + 1, acc ++ L, by omega, by go_num, hacc', by simp; omega, by simpa using own4, (hb.trans (hb2.mono (by omega))).grown grow4 (by omega) (fun j hj => (own1.lt j hj).1)⟩
        case measure => simp [intOf]; omega
      · have he : acc = x.nmd x.op := by rw [← hacc.out, Fo.nmd_end x.op (by omega), List.append_nil]
        rw [he] at hown
        clear hacc hal
        go_wp2_with fail
        go_ret
        exact ⟨_, rfl, owns_mono hown (by omega), bel⟩
  · have hst : x.nmd q = (x.kids.drp 0).nmd q := by rw [Fo.drp_zero, Xp.nmd, if_neg hq]; rfl
    have hqb : (x.op == q) = false := by simpa using hq
    clear hq
    have HST := hd hst
    clear hst
    obtain ⟨W, hW⟩ : ∃ W, W = V := ⟨_, rfl⟩
    have hWz : w.heap.size + 1 ≤ W.heap.size := by rw [hW]; omega
    have hWb : Below w.heap.size w W := by rw [hW]; exact hVb
    have hW2 : W.cell? ⟨w.heap.size, 2, none⟩ = some (.slice ao x.kids.len cap) := by rw [hW]; exact hV2
    go_enter Try.func45, Try.ntmps45
    go_wp2_with fail
    rw [← hV, ← hW]
    have HV := hd hV
    have HW := hd hW
    clear hV hVb hV0 hV1 hV2 hW
    go_loopw [5, 6] (fun v i wr => ∃ (k : Nat) (acc : List ByteArray), k ≤ x.kids.len ∧ i = .int .i64 k ∧ Hid (acc ++ (x.kids.drp k).nmd q = x.nmd q) ∧ acc.length ≤ 3000 ∧ wr.ownsRow (w.heap.size + 1) 9 1 v acc.length (acc.map .string) ∧ Below (w.heap.size + 1) W wr) (fun _ i _ => x.kids.len - (intOf i).toNat)
    case atStart => exact ⟨0, [], Nat.zero_le _, rfl, hd HST.out.symm, by simp, World.ownsRow_nil _ _ _ _, Below.refl _ _⟩
    case round =>
      obtain ⟨k, acc, hk, rfl, hacc, hal, hown, hb⟩ := hrel
      have hz := hb.size
      have bel : Below w.heap.size w wr := hWb.trans (hb.mono (by omega))
      have s2 : wr.cell? ⟨w.heap.size, 2, none⟩ = some (.slice ao x.kids.len cap) := by rw [hb.cell (p := ⟨w.heap.size, 2, none⟩) (by simp)]; exact hW2
      by_cases hlt : k < x.kids.len
      · obtain h0 | ⟨ba, oa, rfl, hia⟩ := hin
        · omega
        have kA : ∀ b o v, All b → w.cell? ⟨b, o, none⟩ = some v → All b ∧ wr.cell? ⟨b, o, none⟩ = some v := keep_cell (fun _ _ h => h) (Kp.of_below bel).block
        obtain ⟨ua, a0, a1, a2, hxa⟩ := ((hia.mono kA).at_ k hlt).xv
        have hxa' := hxa
        obtain ⟨_, e, _, aoa', capa', rfl, _⟩ := hxa'
        simp at e; subst e
        have hks := Fo.sz_le hlt
        have IH := fun w hx => ih k hlt q (.agg #[.int .i64 (x.kids.at_ k).op, .string (x.kids.at_ k).nm, .slice aoa' (x.kids.at_ k).kids.len capa']) w hx (by omega)
        have hacc' : Hid ((acc ++ (x.kids.at_ k).nmd q) ++ (x.kids.drp (k + 1)).nmd q = x.nmd q) := hd (by rw [← hacc.out, Fo.nmd_at q hlt, List.append_assoc])
        have hml : acc.length + ((x.kids.at_ k).nmd q).length ≤ 3000 := by
          have h1 := Xp.nmd_len q x
          rw [← hacc'.out] at h1
          simp only [List.length_append] at h1
          omega
        generalize (x.kids.at_ k).nmd q = L at *
        generalize x.kids.at_ k = xk at *
        clear hacc
        obtain ⟨aov, capv, rfl⟩ := owns_slice hown
        go_wp2_with fail
        refine (IH _ hxa).mono ?_
        rintro e w2 ⟨v2, rfl, own2, hb2⟩
        have z2 := hb2.size
        have own1 : w2.ownsRow (w.heap.size + 1) 9 1 (.slice aov acc.length capv) acc.length (acc.map .string) := owns_below hown hb2
        obtain ⟨aov2, capv2, rfl⟩ := owns_slice own2
        go_wp2_with (first | (at_builtin; go_must (refine wpList_append_row _ rfl _ _ 39 rfl (w.heap.size + 1) wr.heap.size 9 i0 (.string ⟨#[]⟩) 1 16 Try.underlying39 hi iz0 iz1 iz2 rfl (by decide) _ _ _ rfl own1 _ _ _ rfl own2 (oneSs L) (by unfold maxLen; omega) (by omega) (by omega) ?_)))
        intro v' w4 own4 grow4
        go_wp2_with fail
        go_roundw
        case rel => exact ⟨k + 1, acc ++ L, by omega, by go_num, hacc', by simp; omega, by simpa using own4, (hb.trans (hb2.mono (by omega))).grown grow4 (by omega) (fun j hj => (own1.lt j hj).1)⟩
        case measure => simp [intOf]; omega
      · have he : acc = x.nmd q := by rw [← hacc.out, Fo.nmd_end q (by omega), List.append_nil]
        rw [he] at hown
        clear hacc hal
        go_wp2_with fail
        go_ret
        exact ⟨_, rfl, owns_mono hown (by omega), bel⟩
theorem nd_all : ∀ (f : Fo) (i : Nat), i < f.len → NdOK (f.at_ i)
  | .nil, _, h => absurd h (Nat.not_lt_zero _)
  | .cons op nm kids rest, 0, _ => nd_head ⟨op, nm, kids⟩ (nd_all kids)
  | .cons _ _ _ rest, i + 1, h => nd_all rest i (by simpa [Fo.len] using h)
theorem nd_any (x : Xp) : NdOK x := nd_head x (nd_all x.kids)
set_option maxRecDepth 100000 in
set_option maxHeartbeats 8000000 in
theorem namesOf_any (ds : List Df) (va : Value) (w : World) (hx : DsV w All va ds) (h60 : ds.length ≤ 60) :
    Calls Try.prog 22 #[.agg #[va]] w fun e w' => ∃ v, e = .returned v ∧ w'.ownsRow w.heap.size 9 1 v (nms ds).length ((nms ds).map .string) ∧ Below w.heap.size w w' := by
  obtain ⟨i0, hi, iz0, iz1, iz2⟩ := info_parts Try.infoStr
  obtain ⟨hl, ao, cap, rfl, hin⟩ := hx
  have HNL := nms_len ds
  obtain ⟨W, hW⟩ : ∃ W, W = w.alloc (.cells #[.slice ao ds.length cap] 24) := ⟨_, rfl⟩
  have hWz : W.heap.size = w.heap.size + 1 := by rw [hW]; simp
  have hWb : Below w.heap.size w W := by rw [hW]; exact al1 _ _
  have hW0 : W.cell? ⟨w.heap.size, 0, none⟩ = some (.slice ao ds.length cap) := by rw [hW]; simp
  go_enter Try.func22, Try.ntmps22
  go_wp2_with fail
  rw [← hW]
  have HW := hd hW
  clear hW
  go_loopw [3, 4] (fun v i wr => ∃ (k : Nat) (acc : List ByteArray), k ≤ ds.length ∧ i = .int .i64 k ∧ Hid (acc = (nms ds).take k) ∧ Hid (acc.length = k) ∧ wr.ownsRow (w.heap.size + 1) 9 1 v acc.length (acc.map .string) ∧ Below W.heap.size W wr) (fun _ i _ => ds.length - (intOf i).toNat)
  case atStart => exact ⟨0, [], Nat.zero_le _, rfl, hd (by simp), hd rfl, World.ownsRow_nil _ _ _ _, Below.refl _ _⟩
  case round =>
    obtain ⟨k, acc, hk, rfl, hacc, hal, hown, hb⟩ := hrel
    have hz := hb.size
    have bel : Below w.heap.size w wr := hWb.trans (hb.mono (by omega))
    have s2 : wr.cell? ⟨w.heap.size, 0, none⟩ = some (.slice ao ds.length cap) := bkeep hb hW0
    by_cases hlt : k < ds.length
    · obtain h0 | ⟨ba, oa, rfl, hia⟩ := hin
      · omega
      have kA : ∀ b o v, All b → w.cell? ⟨b, o, none⟩ = some v → All b ∧ wr.cell? ⟨b, o, none⟩ = some v := keep_cell (fun _ _ h => h) (Kp.of_below bel).block
      obtain ⟨an, aa, ax⟩ := (hia.mono kA).at_ k hlt
      obtain ⟨ua, a0, a1, a2, hxa⟩ := ax.xv
      have hacc' : Hid (acc ++ [ds[k].nm] = (nms ds).take (k + 1)) := hd (by rw [hacc.out, List.take_succ_eq_append_getElem (by omega)]; simp [nms])
      generalize ds[k] = dk at *
      obtain ⟨aov, capv, rfl⟩ := owns_slice hown
      clear hacc
      have hxa' := hxa
      obtain ⟨_, e, _, aoa', capa', rfl, _⟩ := hxa'
      simp at e; subst e
      go_wp2_with (first | (at_builtin; go_must (refine wpList_append_own _ rfl _ _ 39 rfl (w.heap.size + 1) 9 i0 (.string ⟨#[]⟩) 1 16 Try.underlying39 hi iz0 iz1 iz2 rfl (by decide) _ _ _ rfl (hown.alloc _) ⟨wr.heap.size, 0, none⟩ 1 1 [.string dk.nm] rfl rfl (cell_one_at _ _ _ (by simp)) (oneSs [dk.nm]) (by have := hal.out; unfold maxLen; omega) (by have := hal.out; omega) (by simp <;> omega) ?_)))
      intro v1 W1 own1 grow1 _
      go_wp2_with fail
      go_roundw
      case rel => exact ⟨k + 1, acc ++ [dk.nm], by omega, by go_num, hacc', by simp; omega, by simpa using own1, (hb.alloc hz _).grown grow1 (by simp <;> omega) (fun j hj => by have := (hown.lt j hj).1; omega)⟩
      case measure => simp [intOf]; omega
    · have he : acc = nms ds := by rw [hacc.out, List.take_of_length_le (by omega)]
      rw [he] at hown
      clear hacc hal
      go_wp2_with fail
      go_ret
      exact ⟨_, rfl, owns_mono hown (by omega), bel⟩
set_option maxRecDepth 100000 in
set_option maxHeartbeats 8000000 in
theorem names_any (ds : List Df) (va : Value) (w : World) (hx : DsV w All va ds) (h60 : ds.length ≤ 60) :
    Calls Try.prog 21 #[.agg #[va]] w fun e w' => ∃ v, e = .returned v ∧ w'.ownsRow w.heap.size 9 1 v (nms ds).length ((nms ds).map .string) ∧ Below w.heap.size w w' := by
  obtain ⟨i0, hi, iz0, iz1, iz2⟩ := info_parts Try.infoStr
  obtain ⟨hl, ao, cap, rfl, hin⟩ := hx
  have HNL := nms_len ds
  obtain ⟨W, hW⟩ : ∃ W, W = w.alloc (.cells #[.slice ao ds.length cap] 24) := ⟨_, rfl⟩
  have hWz : W.heap.size = w.heap.size + 1 := by rw [hW]; simp
  have hWb : Below w.heap.size w W := by rw [hW]; exact al1 _ _
  have hW0 : W.cell? ⟨w.heap.size, 0, none⟩ = some (.slice ao ds.length cap) := by rw [hW]; simp
  go_enter Try.func21, Try.ntmps21
  go_wp2_with fail
  rw [← hW]
  have HW := hd hW
  clear hW
  go_loopw [3, 9] (fun v i wr => ∃ (k : Nat) (acc : List ByteArray), k ≤ ds.length ∧ i = .int .i64 k ∧ Hid (acc = (nms ds).take k) ∧ Hid (acc.length = k) ∧ wr.ownsRow (w.heap.size + 1) 9 1 v acc.length (acc.map .string) ∧ Below W.heap.size W wr) (fun _ i _ => ds.length - (intOf i).toNat)
  case atStart => exact ⟨0, [], Nat.zero_le _, rfl, hd (by simp), hd rfl, World.ownsRow_nil _ _ _ _, Below.refl _ _⟩
  case round =>
    obtain ⟨k, acc, hk, rfl, hacc, hal, hown, hb⟩ := hrel
    have hz := hb.size
    have bel : Below w.heap.size w wr := hWb.trans (hb.mono (by omega))
    have s2 : wr.cell? ⟨w.heap.size, 0, none⟩ = some (.slice ao ds.length cap) := bkeep hb hW0
    by_cases hlt : k < ds.length
    · obtain h0 | ⟨ba, oa, rfl, hia⟩ := hin
      · omega
      have kA : ∀ b o v, All b → w.cell? ⟨b, o, none⟩ = some v → All b ∧ wr.cell? ⟨b, o, none⟩ = some v := keep_cell (fun _ _ h => h) (Kp.of_below bel).block
      obtain ⟨an, aa, ax⟩ := (hia.mono kA).at_ k hlt
      obtain ⟨ua, a0, a1, a2, hxa⟩ := ax.xv
      have hacc' : Hid (acc ++ [ds[k].nm] = (nms ds).take (k + 1)) := hd (by rw [hacc.out, List.take_succ_eq_append_getElem (by omega)]; simp [nms])
      generalize ds[k] = dk at *
      obtain ⟨aov, capv, rfl⟩ := owns_slice hown
      clear hacc
      have hxa' := hxa
      obtain ⟨_, e, _, aoa', capa', rfl, _⟩ := hxa'
      simp at e; subst e
      go_wp2_with (first | (at_builtin; go_must (refine wpList_append_own _ rfl _ _ 39 rfl (w.heap.size + 1) 9 i0 (.string ⟨#[]⟩) 1 16 Try.underlying39 hi iz0 iz1 iz2 rfl (by decide) _ _ _ rfl ((hown.alloc _).alloc _) ⟨wr.heap.size + 1, 0, none⟩ 1 1 [.string dk.nm] rfl rfl (cell_one_at _ _ _ (by simp)) (oneSs [dk.nm]) (by have := hal.out; unfold maxLen; omega) (by have := hal.out; omega) (by simp <;> omega) ?_)))
      intro v1 W1 own1 grow1 _
      go_wp2_with fail
      go_roundw
      case rel => exact ⟨k + 1, acc ++ [dk.nm], by omega, by go_num, hacc', by simp; omega, by simpa using own1, ((hb.alloc hz _).alloc (by simp <;> omega) _).grown grow1 (by simp <;> omega) (fun j hj => by have := (hown.lt j hj).1; omega)⟩
      case measure => simp [intOf]; omega
    · have he : acc = nms ds := by rw [hacc.out, List.take_of_length_le (by omega)]
      rw [he] at hown
      clear hacc hal
      go_wp2_with fail
      go_ret
      exact ⟨_, rfl, owns_mono hown (by omega), bel⟩
end Go.Proofs.Ytdikjhfnmkejcab
