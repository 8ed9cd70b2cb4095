/- Texts laid together: Nd Nt Nf Pn Po. -/
import Derived.Test.YtcanphhmflbdmacL11
import Derived.Test.YtcanphhmflbdmacL19
import Derived.Laws.AppendOwnNone
import Derived.Deep.RegionLaw
import Derived.Laws.EntriesVeiled
/- Names of a kind, in the document's way; the names of definitions, both ways. -/
namespace Go.Proofs.Ytcanphhmflbdmac
open Go.RowKit
theorem Try.infoStr : (Try.prog.info? 9).map (fun i => (i.zero, i.size, i.bytes)) = some (some (.string ⟨#[]⟩), 1, 16) := by kernel_rfl
theorem oneSs (l : List ByteArray) : ∀ u ∈ l.map Value.string, u.oneCell' = true := by
  intro u hu
  obtain ⟨s, _, rfl⟩ := List.mem_map.1 hu
  rfl
theorem cell_one_at (w : World) (x : Value) (t : TypeId) {n : Nat} (hn : n = w.heap.size) : ∀ j u, [x][j]? = some u → (w.alloc (.cells #[x] t)).cell? ((⟨n, 0, none⟩ : Addr).add j) = some u := by
  subst hn; exact cell_one_new w x t
/-- A slice of one's own behind another. -/
theorem wpList_append_row {P : Program} (w : World) {ops : Array Oper} {rest : List Oper} {o : Oper} {a : Act} {Q : Exit → Act → World → Prop} (hgd : o.guard = none) (s x : Operand) (t : TypeId)
    (ho : o.op = .call { callee := .builtin .append, args := #[s, x], argTypes := #[t, t] })
    (base base2 : Nat) (e : TypeId) (i : TypeInfo) (z : Value) (size bytes : Nat) (ht : P.underlying t = some (.slice e)) (hi : P.info? e = some i) (hz : i.zero = some z)
    (hsize : i.size = size) (hby : i.bytes = bytes) (hzs : z.cells.size = size) (hsz : 0 < size)
    (v : Value) (n : Nat) (xs : List Value) (hs : a.eval s = v) (hown : w.ownsRow base e size v n xs)
    (v2 : Value) (m : Nat) (ys : List Value) (hx : a.eval x = v2) (hown2 : w.ownsRow base2 e size v2 m ys) (h1 : ∀ u ∈ ys, u.oneCell' = true)
    (h63 : n + m ≤ maxLen) (hbytes : (n + m) * bytes ≤ 140737488355328) (hbase : base ≤ w.heap.size)
    (h : ∀ v' w', w'.ownsRow base e size v' (n + m) (xs ++ ys) → w.grownBy w' v.ownBlock → wpList P ops Q rest (a.put o.dst v') w') : wpList P ops Q (o :: rest) a w := by
  have h0 := hown2
  rcases hown2.2 with ⟨rfl, rfl⟩ | ⟨g, cap, cur, rfl, _⟩
  · have hy : ys = [] := List.eq_nil_of_length_eq_zero (by rw [hown2.1]; omega)
    subst hy
    refine wpList_append_own_none hgd s x t ho base e i size ht hi v n xs hs hown hx (h v w ?_ ⟨rfl, rfl, rfl, Nat.le_refl _, fun _ _ _ => rfl⟩)
    simpa using hown
  · refine wpList_append_own w hgd s x t ho base e i z size bytes ht hi hz hsize hby hzs hsz v n xs hs hown ⟨g, 0, none⟩ m cap ys hx hown2.1 (fun j u hj => ?_) h1 h63 hbytes hbase (fun v' w' q1 q2 _ => h v' w' q1 q2)
    have hj' : j < ys.length := by
      rcases Nat.lt_or_ge j ys.length with h | h
      · exact h
      · rw [List.getElem?_eq_none h] at hj; cases hj
    have := World.ownsRow.cellAt h0 j (by rw [← hown2.1]; exact hj')
    rw [hj] at this
    rw [show (⟨g, 0, none⟩ : Addr).add j = ⟨g, j, none⟩ by cases j <;> simp [Addr.add]]; exact this
def NdOK (x : Xp) : Prop := ∀ (q : Int) (va : Value) (w : World), XV w All va x → x.sz ≤ 3000 →
  Calls Try.prog 49 #[va, .int .i64 q] w fun e w' => ∃ v, e = .returned v ∧ w'.ownsRow w.heap.size 9 1 v (x.nmd q).length ((x.nmd q).map .string) ∧ Below w.heap.size w w'
set_option maxRecDepth 100000 in
set_option maxHeartbeats 8000000 in
theorem nd_head (x : Xp) (ih : ∀ i, i < x.kids.len → NdOK (x.kids.at_ i)) : NdOK x := by
  intro q va w hx hsz
  obtain ⟨i0, hi, iz0, iz1, iz2⟩ := info_parts Try.infoStr
  obtain ⟨u, rfl, hl, ao, cap, rfl, hin⟩ := hx
  have hxs : x.sz = 1 + x.kids.sz := rfl
  obtain ⟨V, hV⟩ : ∃ V, V = w.alloc (.cells #[.int .i64 x.op, .string x.nm, .slice ao x.kids.len cap] 64) := ⟨_, rfl⟩
  have hVz : V.heap.size = w.heap.size + 1 := by rw [hV]; simp
  have hVb : Below w.heap.size w V := by rw [hV]; exact al1 _ _
  have hV0 : V.cell? ⟨w.heap.size, 0, none⟩ = some (.int .i64 x.op) := by rw [hV]; simp
  have hV1 : V.cell? ⟨w.heap.size, 1, none⟩ = some (.string x.nm) := by rw [hV]; simp
  have hV2 : V.cell? ⟨w.heap.size, 2, none⟩ = some (.slice ao x.kids.len cap) := by rw [hV]; simp
  by_cases hq : x.op = q
  · have hst : x.nmd q = [x.nm] ++ (x.kids.drp 0).nmd q := by rw [Fo.drp_zero, Xp.nmd, if_pos hq]
    subst hq
    have HST := hd hst
    clear hst
    go_enter Try.func49, Try.ntmps49
    go_wp2_with (first | (at_builtin; go_must (refine wpList_append_own _ rfl _ _ 45 rfl (w.heap.size + 1) 9 i0 (.string ⟨#[]⟩) 1 16 Try.underlying45 hi iz0 iz1 iz2 rfl (by decide) _ _ _ rfl (World.ownsRow_nil _ _ _ _) ⟨w.heap.size + 1, 0, none⟩ 1 1 [.string x.nm] rfl rfl (cell_one_at _ _ _ (by simp)) (oneSs [x.nm]) (by unfold maxLen; omega) (by omega) (by simp <;> omega) ?_)))
    intro v1 W own1 grow1 _
    rw [← hV] at grow1
    have hVW : Below V.heap.size V W := (al1 V _).grown grow1 (al1 V _).size (fun j hj => by cases hj)
    have HV := hd hV
    clear hV grow1
    have hWz : w.heap.size + 1 ≤ W.heap.size := by have := hVW.size; omega
    have hWb : Below w.heap.size w W := hVb.trans (hVW.mono (by omega))
    have hW2 := bkeep hVW hV2
    clear hVb hV0 hV1 hV2 hVW
    go_wp2_with fail
    go_loopw [5, 6] (fun v i wr => ∃ (k : Nat) (acc : List ByteArray), k ≤ x.kids.len ∧ i = .int .i64 k ∧ Hid (acc ++ (x.kids.drp k).nmd x.op = x.nmd x.op) ∧ acc.length ≤ 3000 ∧ wr.ownsRow (w.heap.size + 1) 9 1 v acc.length (acc.map .string) ∧ Below (w.heap.size + 1) W wr) (fun _ i _ => x.kids.len - (intOf i).toNat)
    case atStart => exact ⟨0, [x.nm], Nat.zero_le _, rfl, hd HST.out.symm, by simp, by simpa using own1, Below.refl _ _⟩
    case round =>
      obtain ⟨k, acc, hk, rfl, hacc, hal, hown, hb⟩ := hrel
      have hz := hb.size
      have bel : Below w.heap.size w wr := hWb.trans (hb.mono (by omega))
      have s2 : wr.cell? ⟨w.heap.size, 2, none⟩ = some (.slice ao x.kids.len cap) := by rw [hb.cell (p := ⟨w.heap.size, 2, none⟩) (by simp)]; exact hW2
      by_cases hlt : k < x.kids.len
      · obtain h0 | ⟨ba, oa, rfl, hia⟩ := hin
        · omega
        have kA : ∀ b o v, All b → w.cell? ⟨b, o, none⟩ = some v → All b ∧ wr.cell? ⟨b, o, none⟩ = some v := keep_cell (fun _ _ h => h) (Kp.of_below bel).block
        obtain ⟨ua, a0, a1, a2, hxa⟩ := ((hia.mono kA).at_ k hlt).xv
        have hxa' := hxa
        obtain ⟨_, e, _, aoa', capa', rfl, _⟩ := hxa'
        simp at e; subst e
        have hks := Fo.sz_le hlt
        have IH := fun w hx => ih k hlt x.op (.agg #[.int .i64 (x.kids.at_ k).op, .string (x.kids.at_ k).nm, .slice aoa' (x.kids.at_ k).kids.len capa']) w hx (by omega)
        have hacc' : Hid ((acc ++ (x.kids.at_ k).nmd x.op) ++ (x.kids.drp (k + 1)).nmd x.op = x.nmd x.op) := hd (by rw [← hacc.out, Fo.nmd_at x.op hlt, List.append_assoc])
        have hml : acc.length + ((x.kids.at_ k).nmd x.op).length ≤ 3000 := by
          have h1 := Xp.nmd_len x.op x
          rw [← hacc'.out] at h1
          simp only [List.length_append] at h1
          omega
        generalize (x.kids.at_ k).nmd x.op = L at *
        generalize x.kids.at_ k = xk at *
        clear hacc
        obtain ⟨aov, capv, rfl⟩ := owns_slice hown
        go_wp2_with fail
        refine (IH _ hxa).mono ?_
        rintro e w2 ⟨v2, rfl, own2, hb2⟩
        have z2 := hb2.size
        have own1 : w2.ownsRow (w.heap.size + 1) 9 1 (.slice aov acc.length capv) acc.length (acc.map .string) := owns_below hown hb2
        obtain ⟨aov2, capv2, rfl⟩ := owns_slice own2
        go_wp2_with (first | (at_builtin; go_must (refine wpList_append_row _ rfl _ _ 45 rfl (w.heap.size + 1) wr.heap.size 9 i0 (.string ⟨#[]⟩) 1 16 Try.underlying45 hi iz0 iz1 iz2 rfl (by decide) _ _ _ rfl own1 _ _ _ rfl own2 (oneSs L) (by unfold maxLen; omega) (by omega) (by omega) ?_)))
        intro v' w4 own4 grow4
        go_wp2_with fail
        go_roundw
        case rel => exact ⟨k + 1, acc ++ L, by omega, by go_num, hacc', by simp; omega, by simpa using own4, (hb.trans (hb2.mono (by omega))).grown grow4 (by omega) (fun j hj => (own1.lt j hj).1)⟩
        case measure => simp [intOf]; omega
      · have he : acc = x.nmd x.op := by rw [← hacc.out, Fo.nmd_end x.op (by omega), List.append_nil]
        rw [he] at hown
        clear hacc hal
        go_wp2_with fail
        go_ret
        exact ⟨_, rfl, owns_mono hown (by omega), bel⟩
  · have hst : x.nmd q = (x.kids.drp 0).nmd q := by rw [Fo.drp_zero, Xp.nmd, if_neg hq]; rfl
    have hqb : (x.op == q) = false := by simpa using hq
    clear hq
    have HST := hd hst
    clear hst
    obtain ⟨W, hW⟩ : ∃ W, W = V := ⟨_, rfl⟩
    have hWz : w.heap.size + 1 ≤ W.heap.size := by rw [hW]; omega
    have hWb : Below w.heap.size w W := by rw [hW]; exact hVb
    have hW2 : W.cell? ⟨w.heap.size, 2, none⟩ = some (.slice ao x.kids.len cap) := by rw [hW]; exact hV2
    go_enter Try.func49, Try.ntmps49
    go_wp2_with fail
    rw [← hV, ← hW]
    have HV := hd hV
    have HW := hd hW
    clear hV hVb hV0 hV1 hV2 hW
    go_loopw [5, 6] (fun v i wr => ∃ (k : Nat) (acc : List ByteArray), k ≤ x.kids.len ∧ i = .int .i64 k ∧ Hid (acc ++ (x.kids.drp k).nmd q = x.nmd q) ∧ acc.length ≤ 3000 ∧ wr.ownsRow (w.heap.size + 1) 9 1 v acc.length (acc.map .string) ∧ Below (w.heap.size + 1) W wr) (fun _ i _ => x.kids.len - (intOf i).toNat)
    case atStart => exact ⟨0, [], Nat.zero_le _, rfl, hd HST.out.symm, by simp, World.ownsRow_nil _ _ _ _, Below.refl _ _⟩
    case round =>
      obtain ⟨k, acc, hk, rfl, hacc, hal, hown, hb⟩ := hrel
      have hz := hb.size
      have bel : Below w.heap.size w wr := hWb.trans (hb.mono (by omega))
      have s2 : wr.cell? ⟨w.heap.size, 2, none⟩ = some (.slice ao x.kids.len cap) := by rw [hb.cell (p := ⟨w.heap.size, 2, none⟩) (by simp)]; exact hW2
      by_cases hlt : k < x.kids.len
      · obtain h0 | ⟨ba, oa, rfl, hia⟩ := hin
        · omega
        have kA : ∀ b o v, All b → w.cell? ⟨b, o, none⟩ = some v → All b ∧ wr.cell? ⟨b, o, none⟩ = some v := keep_cell (fun _ _ h => h) (Kp.of_below bel).block
        obtain ⟨ua, a0, a1, a2, hxa⟩ := ((hia.mono kA).at_ k hlt).xv
        have hxa' := hxa
        obtain ⟨_, e, _, aoa', capa', rfl, _⟩ := hxa'
        simp at e; subst e
        have hks := Fo.sz_le hlt
        have IH := fun w hx => ih k hlt q (.agg #[.int .i64 (x.kids.at_ k).op, .string (x.kids.at_ k).nm, .slice aoa' (x.kids.at_ k).kids.len capa']) w hx (by omega)
        have hacc' : Hid ((acc ++ (x.kids.at_ k).nmd q) ++ (x.kids.drp (k + 1)).nmd q = x.nmd q) := hd (by rw [← hacc.out, Fo.nmd_at q hlt, List.append_assoc])
        have hml : acc.length + ((x.kids.at_ k).nmd q).length ≤ 3000 := by
          have h1 := Xp.nmd_len q x
          rw [← hacc'.out] at h1
          simp only [List.length_append] at h1
          omega
        generalize (x.kids.at_ k).nmd q = L at *
        generalize x.kids.at_ k = xk at *
        clear hacc
        obtain ⟨aov, capv, rfl⟩ := owns_slice hown
        go_wp2_with fail
        refine (IH _ hxa).mono ?_
        rintro e w2 ⟨v2, rfl, own2, hb2⟩
        have z2 := hb2.size
        have own1 : w2.ownsRow (w.heap.size + 1) 9 1 (.slice aov acc.length capv) acc.length (acc.map .string) := owns_below hown hb2
        obtain ⟨aov2, capv2, rfl⟩ := owns_slice own2
        go_wp2_with (first | (at_builtin; go_must (refine wpList_append_row _ rfl _ _ 45 rfl (w.heap.size + 1) wr.heap.size 9 i0 (.string ⟨#[]⟩) 1 16 Try.underlying45 hi iz0 iz1 iz2 rfl (by decide) _ _ _ rfl own1 _ _ _ rfl own2 (oneSs L) (by unfold maxLen; omega) (by omega) (by omega) ?_)))
        intro v' w4 own4 grow4
        go_wp2_with fail
        go_roundw
        case rel => exact ⟨k + 1, acc ++ L, by omega, by go_num, hacc', by simp; omega, by simpa using own4, (hb.trans (hb2.mono (by omega))).grown grow4 (by omega) (fun j hj => (own1.lt j hj).1)⟩
        case measure => simp [intOf]; omega
      · have he : acc = x.nmd q := by rw [← hacc.out, Fo.nmd_end q (by omega), List.append_nil]
        rw [he] at hown
        clear hacc hal
        go_wp2_with fail
        go_ret
        exact ⟨_, rfl, owns_mono hown (by omega), bel⟩
theorem nd_all : ∀ (f : Fo) (i : Nat), i < f.len → NdOK (f.at_ i)
  | .nil, _, h => absurd h (Nat.not_lt_zero _)
  | .cons op nm kids rest, 0, _ => nd_head ⟨op, nm, kids⟩ (nd_all kids)
  | .cons _ _ _ rest, i + 1, h => nd_all rest i (by simpa [Fo.len] using h)
theorem nd_any (x : Xp) : NdOK x := nd_head x (nd_all x.kids)
set_option maxRecDepth 100000 in
set_option maxHeartbeats 8000000 in
theorem namesOf_any (ds : List Df) (va : Value) (w : World) (hx : DsV w All va ds) (h60 : ds.length ≤ 60) :
    Calls Try.prog 26 #[.agg #[va]] w fun e w' => ∃ v, e = .returned v ∧ w'.ownsRow w.heap.size 9 1 v (nms ds).length ((nms ds).map .string) ∧ Below w.heap.size w w' := by
  obtain ⟨i0, hi, iz0, iz1, iz2⟩ := info_parts Try.infoStr
  obtain ⟨hl, ao, cap, rfl, hin⟩ := hx
  have HNL := nms_len ds
  obtain ⟨W, hW⟩ : ∃ W, W = w.alloc (.cells #[.slice ao ds.length cap] 42) := ⟨_, rfl⟩
  have hWz : W.heap.size = w.heap.size + 1 := by rw [hW]; simp
  have hWb : Below w.heap.size w W := by rw [hW]; exact al1 _ _
  have hW0 : W.cell? ⟨w.heap.size, 0, none⟩ = some (.slice ao ds.length cap) := by rw [hW]; simp
  go_enter Try.func26, Try.ntmps26
  go_wp2_with fail
  rw [← hW]
  have HW := hd hW
  clear hW
  go_loopw [3, 4] (fun v i wr => ∃ (k : Nat) (acc : List ByteArray), k ≤ ds.length ∧ i = .int .i64 k ∧ Hid (acc = (nms ds).take k) ∧ Hid (acc.length = k) ∧ wr.ownsRow (w.heap.size + 1) 9 1 v acc.length (acc.map .string) ∧ Below W.heap.size W wr) (fun _ i _ => ds.length - (intOf i).toNat)
  case atStart => exact ⟨0, [], Nat.zero_le _, rfl, hd (by simp), hd rfl, World.ownsRow_nil _ _ _ _, Below.refl _ _⟩
  case round =>
    obtain ⟨k, acc, hk, rfl, hacc, hal, hown, hb⟩ := hrel
    have hz := hb.size
    have bel : Below w.heap.size w wr := hWb.trans (hb.mono (by omega))
    have s2 : wr.cell? ⟨w.heap.size, 0, none⟩ = some (.slice ao ds.length cap) := bkeep hb hW0
    by_cases hlt : k < ds.length
    · obtain h0 | ⟨ba, oa, rfl, hia⟩ := hin
      · omega
      have kA : ∀ b o v, All b → w.cell? ⟨b, o, none⟩ = some v → All b ∧ wr.cell? ⟨b, o, none⟩ = some v := keep_cell (fun _ _ h => h) (Kp.of_below bel).block
      obtain ⟨an, aa, ax⟩ := (hia.mono kA).at_ k hlt
      obtain ⟨ua, a0, a1, a2, hxa⟩ := ax.xv
      have hacc' : Hid (acc ++ [ds[k].nm] = (nms ds).take (k + 1)) := hd (by rw [hacc.out, List.take_succ_eq_append_getElem (by omega)]; simp [nms])
      generalize ds[k] = dk at *
      obtain ⟨aov, capv, rfl⟩ := owns_slice hown
      clear hacc
      have hxa' := hxa
      obtain ⟨_, e, _, aoa', capa', rfl, _⟩ := hxa'
      simp at e; subst e
      go_wp2_with (first | (at_builtin; go_must (refine wpList_append_own _ rfl _ _ 45 rfl (w.heap.size + 1) 9 i0 (.string ⟨#[]⟩) 1 16 Try.underlying45 hi iz0 iz1 iz2 rfl (by decide) _ _ _ rfl (hown.alloc _) ⟨wr.heap.size, 0, none⟩ 1 1 [.string dk.nm] rfl rfl (cell_one_at _ _ _ (by simp)) (oneSs [dk.nm]) (by have := hal.out; unfold maxLen; omega) (by have := hal.out; omega) (by simp <;> omega) ?_)))
      intro v1 W1 own1 grow1 _
      go_wp2_with fail
      go_roundw
      case rel => exact ⟨k + 1, acc ++ [dk.nm], by omega, by go_num, hacc', by simp; omega, by simpa using own1, (hb.alloc hz _).grown grow1 (by simp <;> omega) (fun j hj => by have := (hown.lt j hj).1; omega)⟩
      case measure => simp [intOf]; omega
    · have he : acc = nms ds := by rw [hacc.out, List.take_of_length_le (by omega)]
      rw [he] at hown
      clear hacc hal
      go_wp2_with fail
      go_ret
      exact ⟨_, rfl, owns_mono hown (by omega), bel⟩
set_option maxRecDepth 100000 in
set_option maxHeartbeats 8000000 in
theorem names_any (ds : List Df) (va : Value) (w : World) (hx : DsV w All va ds) (h60 : ds.length ≤ 60) :
    Calls Try.prog 42 #[.agg #[va]] w fun e w' => ∃ v, e = .returned v ∧ w'.ownsRow w.heap.size 9 1 v (nms ds).length ((nms ds).map .string) ∧ Below w.heap.size w w' := by
  obtain ⟨i0, hi, iz0, iz1, iz2⟩ := info_parts Try.infoStr
  obtain ⟨hl, ao, cap, rfl, hin⟩ := hx
  have HNL := nms_len ds
  obtain ⟨W, hW⟩ : ∃ W, W = w.alloc (.cells #[.slice ao ds.length cap] 42) := ⟨_, rfl⟩
  have hWz : W.heap.size = w.heap.size + 1 := by rw [hW]; simp
  have hWb : Below w.heap.size w W := by rw [hW]; exact al1 _ _
  have hW0 : W.cell? ⟨w.heap.size, 0, none⟩ = some (.slice ao ds.length cap) := by rw [hW]; simp
  go_enter Try.func42, Try.ntmps42
  go_wp2_with fail
  rw [← hW]
  have HW := hd hW
  clear hW
  go_loopw [3, 9] (fun v i wr => ∃ (k : Nat) (acc : List ByteArray), k ≤ ds.length ∧ i = .int .i64 k ∧ Hid (acc = (nms ds).take k) ∧ Hid (acc.length = k) ∧ wr.ownsRow (w.heap.size + 1) 9 1 v acc.length (acc.map .string) ∧ Below W.heap.size W wr) (fun _ i _ => ds.length - (intOf i).toNat)
  case atStart => exact ⟨0, [], Nat.zero_le _, rfl, hd (by simp), hd rfl, World.ownsRow_nil _ _ _ _, Below.refl _ _⟩
  case round =>
    obtain ⟨k, acc, hk, rfl, hacc, hal, hown, hb⟩ := hrel
    have hz := hb.size
    have bel : Below w.heap.size w wr := hWb.trans (hb.mono (by omega))
    have s2 : wr.cell? ⟨w.heap.size, 0, none⟩ = some (.slice ao ds.length cap) := bkeep hb hW0
    by_cases hlt : k < ds.length
    · obtain h0 | ⟨ba, oa, rfl, hia⟩ := hin
      · omega
      have kA : ∀ b o v, All b → w.cell? ⟨b, o, none⟩ = some v → All b ∧ wr.cell? ⟨b, o, none⟩ = some v := keep_cell (fun _ _ h => h) (Kp.of_below bel).block
      obtain ⟨an, aa, ax⟩ := (hia.mono kA).at_ k hlt
      obtain ⟨ua, a0, a1, a2, hxa⟩ := ax.xv
      have hacc' : Hid (acc ++ [ds[k].nm] = (nms ds).take (k + 1)) := hd (by rw [hacc.out, List.take_succ_eq_append_getElem (by omega)]; simp [nms])
      generalize ds[k] = dk at *
      obtain ⟨aov, capv, rfl⟩ := owns_slice hown
      clear hacc
      have hxa' := hxa
      obtain ⟨_, e, _, aoa', capa', rfl, _⟩ := hxa'
      simp at e; subst e
      go_wp2_with (first | (at_builtin; go_must (refine wpList_append_own _ rfl _ _ 45 rfl (w.heap.size + 1) 9 i0 (.string ⟨#[]⟩) 1 16 Try.underlying45 hi iz0 iz1 iz2 rfl (by decide) _ _ _ rfl ((hown.alloc _).alloc _) ⟨wr.heap.size + 1, 0, none⟩ 1 1 [.string dk.nm] rfl rfl (cell_one_at _ _ _ (by simp)) (oneSs [dk.nm]) (by have := hal.out; unfold maxLen; omega) (by have := hal.out; omega) (by simp <;> omega) ?_)))
      intro v1 W1 own1 grow1 _
      go_wp2_with fail
      go_roundw
      case rel => exact ⟨k + 1, acc ++ [dk.nm], by omega, by go_num, hacc', by simp; omega, by simpa using own1, ((hb.alloc hz _).alloc (by simp <;> omega) _).grown grow1 (by simp <;> omega) (fun j hj => by have := (hown.lt j hj).1; omega)⟩
      case measure => simp [intOf]; omega
    · have he : acc = nms ds := by rw [hacc.out, List.take_of_length_le (by omega)]
      rw [he] at hown
      clear hacc hal
      go_wp2_with fail
      go_ret
      exact ⟨_, rfl, owns_mono hown (by omega), bel⟩
end Go.Proofs.Ytcanphhmflbdmac

/- The terminals of definitions, in the document's way. -/
namespace Go.Proofs.Ytcanphhmflbdmac
open Go.RowKit
theorem SsV.at_ {w : World} {ao : Option Addr} {n cap : Nat} {l : List ByteArray} (h : SsV w (.slice ao n cap) l) {k : Nat} (hk : k < l.length) : ∃ b o, ao = some ⟨b, o, none⟩ ∧ w.cell? ⟨b, o + k, none⟩ = some (.string l[k]) := by
  obtain ⟨_, ao', cap', e, _, h0 | ⟨b, o, e2, hc⟩⟩ := h
  · omega
  · simp at e
    exact ⟨b, o, by rw [e.1, e2], hc k hk⟩
theorem drop_flat {ds : List Df} {k : Nat} (h : k < ds.length) : (ds.drop k).flatMap Df.trm = ds[k].e.nmd 1 ++ (ds.drop (k + 1)).flatMap Df.trm := by
  rw [List.drop_eq_getElem_cons h, List.flatMap_cons]; rfl
set_option maxRecDepth 100000 in
set_option maxHeartbeats 16000000 in
theorem termsOf_any (ds : List Df) (va : Value) (w : World) (hx : DsV w All va ds) (h60 : ds.length ≤ 60) (hsz : ∀ d ∈ ds, d.e.sz ≤ 3000) :
    Calls Try.prog 27 #[.agg #[va]] w fun e w' => ∃ v, e = .returned v ∧ w'.ownsRow w.heap.size 9 1 v (trms ds).length ((trms ds).map .string) ∧ Below w.heap.size w w' := by
  obtain ⟨i0, hi, iz0, iz1, iz2⟩ := info_parts Try.infoStr
  obtain ⟨hl, ao, cap, rfl, hin⟩ := hx
  obtain ⟨W, hW⟩ : ∃ W, W = w.alloc (.cells #[.slice ao ds.length cap] 42) := ⟨_, rfl⟩
  have hWz : W.heap.size = w.heap.size + 1 := by rw [hW]; simp
  have hWb : Below w.heap.size w W := by rw [hW]; exact al1 _ _
  have hW0 : W.cell? ⟨w.heap.size, 0, none⟩ = some (.slice ao ds.length cap) := by rw [hW]; simp
  have HSZ := hd hsz
  clear hsz
  go_enter Try.func27, Try.ntmps27
  go_wp2_with fail
  rw [← hW]
  have HW := hd hW
  clear hW
  go_loopw [3, 4] (fun v i wr => ∃ (k : Nat) (acc : List ByteArray), k ≤ ds.length ∧ i = .int .i64 k ∧ Hid (trm acc ((ds.drop k).flatMap Df.trm) = trms ds) ∧ acc.length ≤ 3000 * k ∧ wr.ownsRow (w.heap.size + 1) 9 1 v acc.length (acc.map .string) ∧ Below (w.heap.size + 1) W wr) (fun _ i _ => ds.length - (intOf i).toNat)
  case atStart => exact ⟨0, [], Nat.zero_le _, rfl, hd rfl, by simp, World.ownsRow_nil _ _ _ _, Below.refl _ _⟩
  case round =>
    obtain ⟨k, acc, hk, rfl, hacc, hal, hown, hb⟩ := hrel
    have hz := hb.size
    have bel : Below w.heap.size w wr := hWb.trans (hb.mono (by omega))
    have s2 : wr.cell? ⟨w.heap.size, 0, none⟩ = some (.slice ao ds.length cap) := by rw [hb.cell (p := ⟨w.heap.size, 0, none⟩) (by simp)]; exact hW0
    by_cases hlt : k < ds.length
    · obtain h0 | ⟨ba, oa, rfl, hia⟩ := hin
      · omega
      have kA : ∀ b o v, All b → w.cell? ⟨b, o, none⟩ = some v → All b ∧ wr.cell? ⟨b, o, none⟩ = some v := keep_cell (fun _ _ h => h) (Kp.of_below bel).block
      obtain ⟨an, aa, ax⟩ := (hia.mono kA).at_ k hlt
      obtain ⟨ua, a0, a1, a2, hxa⟩ := ax.xv
      have hacc' : Hid (trm (trm acc (ds[k].e.nmd 1)) ((ds.drop (k + 1)).flatMap Df.trm) = trms ds) := hd (by rw [← hacc.out, drop_flat hlt, trm_app])
      have hs := HSZ.out ds[k] (List.getElem_mem hlt)
      generalize ds[k] = dk at *
      have hxa' := hxa
      obtain ⟨_, e, _, aoa', capa', rfl, _⟩ := hxa'
      simp at e; subst e
      have ND := fun w' hx => nd_any dk.e 1 (.agg #[.int .i64 dk.e.op, .string dk.e.nm, .slice aoa' dk.e.kids.len capa']) w' hx hs
      have hLl := Nat.le_trans (Xp.nmd_len 1 dk.e) hs
      generalize dk.e.nmd 1 = L at *
      obtain ⟨aov, capv, rfl⟩ := owns_slice hown
      clear hacc
      have HLT := hd hlt
      go_wp2_with fail
      refine (ND _ hxa).mono ?_
      rintro e w2 ⟨v2, rfl, own2, hb2⟩
      have z2 := hb2.size
      have own1 : w2.ownsRow (w.heap.size + 1) 9 1 (.slice aov acc.length capv) acc.length (acc.map .string) := owns_below hown hb2
      have hap : ∀ q, v2.ownBlock = some q → (Value.slice aov acc.length capv).ownBlock ≠ some q := fun q h1 h2 => by
        have e1 := (own2.lt q h1).1
        have e2 := (hown.lt q h2).2
        omega
      have bel2 : Below (w.heap.size + 1) W w2 := hb.trans (hb2.mono (by omega))
      obtain ⟨aov2, capv2, rfl⟩ := owns_slice own2
      obtain ⟨B2, hB2⟩ : ∃ B2, B2 = wr.heap.size := ⟨_, rfl⟩
      rw [← hB2] at own2
      clear ND a0 a1 a2 hxa kA ax an aa hown hb s2 bel hb2
      go_wp2_with fail
      go_loopw [3, 6] (fun v i wr => ∃ (j : Nat) (acc' : List ByteArray), j ≤ L.length ∧ i = .int .i64 j ∧ Hid (trm acc' (L.drop j) = trm acc L) ∧ acc'.length ≤ 3000 * k + j ∧ wr.ownsRow (w.heap.size + 1) 9 1 v acc'.length (acc'.map .string) ∧
        wr.ownsRow B2 9 1 (.slice aov2 L.length capv2) L.length (L.map .string) ∧ (∀ q, (Value.slice aov2 L.length capv2).ownBlock = some q → v.ownBlock ≠ some q) ∧ Below (w.heap.size + 1) w2 wr) (fun _ i _ => L.length - (intOf i).toNat)
      case atStart => exact ⟨0, acc, Nat.zero_le _, rfl, hd rfl, by omega, own1, own2, hap, Below.refl _ _⟩
      case round =>
        obtain ⟨j, acc', hj, rfl, hac, hal', own, ownL, hap', hbi⟩ := hrel
        have hzi := hbi.size
        obtain ⟨aoc, capc, rfl⟩ := owns_slice own
        by_cases hjl : j < L.length
        · obtain ⟨b, o, rfl, cL⟩ := (SsV_owned ownL (by omega)).at_ hjl
          have hnx : Hid (trm (addS acc' L[j]) (L.drop (j + 1)) = trm acc L) := hd (by rw [← hac.out, List.drop_eq_getElem_cons hjl, trm_cons])
          generalize L[j] = t at *
          have PO := placeOf_any acc' t _ wr (SsV_owned own (by omega))
          have hw := whr_mem acc' t
          generalize whr acc' t = r at *
          clear hac
          by_cases hr : 0 ≤ r
          · have hin' := hw.1 hr
            rw [addS, if_pos (inB_iff.2 hin')] at hnx
            have hr' : ¬ r < 0 := by omega
            clear hw hin'
            go_wp2_with (go_at_call 50; refine PO.mono ?_; rintro e wx ⟨rfl, hwx⟩; obtain rfl := hwx.symm)
            go_roundw
            case rel => exact ⟨j + 1, acc', by omega, by go_num, hnx, by omega, own, ownL, hap', hbi⟩
            case measure => simp [intOf]; omega
          · rw [addS, if_neg (fun h => hr (hw.2 (inB_iff.1 h)))] at hnx
            have hr' : r < 0 := by omega
            have hne : ∀ q, (Value.slice (some ⟨b, o, none⟩) L.length capv2).ownBlock = some q → q < wr.heap.size := fun q h => (ownL.lt q h).2
            clear hw
            go_wp2_with (first
              | (go_at_call 50; refine PO.mono ?_; rintro e wx ⟨rfl, hwx⟩; obtain rfl := hwx.symm)
              | (at_builtin; go_must (refine wpList_append_own_at _ rfl _ _ 45 rfl (w.heap.size + 1) 9 i0 (.string ⟨#[]⟩) 1 16 Try.underlying45 hi iz0 iz1 iz2 rfl (by decide) _ _ _ rfl (own.alloc _) ⟨wr.heap.size, 0, none⟩ 1 1 [.string t] rfl rfl (cell_one_at _ _ _ (by simp)) (oneSs [t]) (by unfold maxLen; omega) (by omega) (by simp <;> omega) ?_)))
            intro v' w4 own4 grow4 _ hat
            have z4 := grow4.size
            have own4' : w4.ownsRow (w.heap.size + 1) 9 1 v' (acc' ++ [t]).length ((acc' ++ [t]).map .string) := by simpa using own4
            have ownL4 := (ownL.alloc (.cells #[.string t] 9)).kept grow4 (.inr (fun e => hap' b rfl (e.symm.trans rfl)))
            have hap4 : ∀ q, (Value.slice (some ⟨b, o, none⟩) L.length capv2).ownBlock = some q → v'.ownBlock ≠ some q := fun q h1 h2 => by
              rcases hat with h | h
              · exact hap' q h1 (by rw [← h]; exact h2)
              · rw [h] at h2
                have := hne q h1
                simp at h2
                omega
            have hb4 : Below (w.heap.size + 1) w2 w4 := (hbi.alloc (by omega) _).grown grow4 (by simp <;> omega) (fun q hq => (own.lt q hq).1)
            clear own4 grow4 hat
            go_wp2_with fail
            go_roundw
            case rel => exact ⟨j + 1, acc' ++ [t], by omega, by go_num, hnx, by simp <;> omega, own4', ownL4, hap4, hb4⟩
            case measure => simp [intOf]; omega
        · have he : acc' = trm acc L := by rw [← hac.out, List.drop_of_length_le (by omega)]; rfl
          rw [he] at own
          have hll : (trm acc L).length ≤ 3000 * (k + 1) := by rw [← he]; omega
          have own' := own
          rw [← he] at own
          clear hac
          go_wp2_with fail
          go_roundw
          case rel => exact ⟨k + 1, trm acc L, by have := HLT.out; omega, by go_num, hacc', hll, by rw [← he]; exact own, bel2.trans hbi⟩
          case measure => simp [intOf]; have := HLT.out; omega
    · have he : acc = trms ds := by rw [← hacc.out, List.drop_of_length_le (by omega)]; rfl
      rw [he] at hown
      clear hacc hal
      go_wp2_with fail
      go_ret
      exact ⟨_, rfl, owns_mono hown (by omega), bel⟩
end Go.Proofs.Ytcanphhmflbdmac

/- What is wrong with definitions, in the document's way. -/
namespace Go.Proofs.Ytcanphhmflbdmac
open Go.RowKit
theorem SsV.cap {w : World} {ao : Option Addr} {n cap : Nat} {l : List ByteArray} (h : SsV w (.slice ao n cap) l) : l.length ≤ cap := by
  obtain ⟨_, ao', cap', e, h3, _⟩ := h
  simp at e
  omega
theorem drw1 (w : World) : Below w.heap.size w w.drew := ⟨rfl, rfl, rfl, Nat.le_refl _, fun _ _ => rfl⟩
set_option maxRecDepth 100000 in
set_option maxHeartbeats 16000000 in
theorem dfault_any (ds : List Df) (va : Value) (w : World) (hx : DsV w All va ds) (h60 : ds.length ≤ 60) (hs : ∀ d ∈ ds, d.e.sz ≤ 3000 ∧ d.sh) :
    Calls Try.prog 46 #[.agg #[va]] w fun e w' => e = .returned (.agg #[.int .i64 (dfl ds).1, .int .i64 (dfl ds).2]) ∧ Below w.heap.size w w' := by
  have RA := fun w' (hb : Below w.heap.size w w') => rfault_any ds va w' (hx.kp (Kp.of_below hb) (fun _ _ h => h)) hs
  have NA := fun w' (hb : Below w.heap.size w w') => namesOf_any ds va w' (hx.kp (Kp.of_below hb) (fun _ _ h => h)) h60
  have TA := fun w' (hb : Below w.heap.size w w') => termsOf_any ds va w' (hx.kp (Kp.of_below hb) (fun _ _ h => h)) h60 (fun d hd => (hs d hd).1)
  obtain ⟨hl, ao, cap, rfl, hin⟩ := hx
  obtain ⟨W, hW⟩ : ∃ W, W = (w.alloc (.cells #[.slice ao ds.length cap] 42)).alloc (.cells #[.int .i64 0, .int .i64 0] 29) := ⟨_, rfl⟩
  have hWz : W.heap.size = w.heap.size + 2 := by rw [hW]; simp
  have hWb : Below w.heap.size w W := by rw [hW]; exact al2 _ _ _
  have hWc : W.cell? ⟨w.heap.size, 0, none⟩ = some (.slice ao ds.length cap) := by rw [hW]; simp
  have hWr : RB W (w.heap.size + 1) := by rw [hW]; exact ⟨by simp, by simp, fun i => by simp [go_sem]⟩
  have HS := hd hs
  clear hs
  by_cases hc : (rflt ds).1 = 0
  rotate_left
  · rw [dfl_bad hc]
    generalize rflt ds = R at *
    have hcb : (R.1 != 0) = true := by simpa using hc
    clear NA TA
    go_enter Try.func46, Try.ntmps46
    go_wp2_with fail
    rw [← hW]
    refine (RA _ hWb).mono ?_
    rintro e w1 ⟨rfl, hb1⟩
    have HW := hd hW
    clear hW
    have bel1 : Below w.heap.size w w1 := hWb.trans (hb1.mono hWb.size)
    have r1 := (hWr.below hb1).below (al1 w1 (.cells #[.int .i64 R.1, .int .i64 R.2] 29))
    have q0 := r1.c0
    have q1 := r1.c1
    have qf := r1.fz
    go_wp2_with fail
    refine bodyPost_ret (v := .agg #[.int .i64 R.1, .int .i64 R.2]) (by simp [results, Try.results46, go_sem, q0, q1]) rfl ⟨rfl, ?_⟩
    exact ((bel1.alloc bel1.size _).setCell (p := ⟨w.heap.size + 1, 0, none⟩) (Nat.le_succ _) _).setCell (p := ⟨w.heap.size + 1, 1, none⟩) (Nat.le_succ _) _
  have hdf : dfl ds = if 0 ≤ tw ds then (7, tw ds) else if 0 ≤ op ds then (8, op ds) else if 16 < (trms ds).length then (6, -1) else (0, 0) := if_neg (not_not_intro hc)
  generalize dfl ds = D at *
  have HDF := hd hdf
  have hcb : ((rflt ds).1 != 0) = false := by simpa using hc
  clear hdf hc
  generalize rflt ds = R at *
  have hnl := nms_len ds
  go_enter Try.func46, Try.ntmps46
  go_wp2_with fail
  rw [← hW]
  refine (RA _ hWb).mono ?_
  rintro e w1 ⟨rfl, hb1⟩
  have HW := hd hW
  clear hW RA
  have t0 := alcell (bkeep hb1 hWc) (.cells #[.int .i64 R.1, .int .i64 R.2] 29)
  have bel0 : Below w.heap.size w w1 := hWb.trans (hb1.mono hWb.size)
  have bel1 : Below w.heap.size w (w1.alloc (.cells #[.int .i64 R.1, .int .i64 R.2] 29)) := bel0.alloc bel0.size _
  have r1 := (hWr.below hb1).below (al1 w1 (.cells #[.int .i64 R.1, .int .i64 R.2] 29))
  go_wp2_with fail
  refine (NA _ bel1).mono ?_
  rintro e w2 ⟨vN, rfl, ownN, hb2⟩
  have bel2 : Below w.heap.size w w2 := bel1.trans (hb2.mono bel1.size)
  have t2 := bkeep hb2 t0
  have r2 := r1.below hb2
  have sN : SsV w2 vN (nms ds) := SsV_owned ownN (by omega)
  obtain ⟨aoN, capN, rfl⟩ := owns_slice ownN
  have hcp := sN.cap
  rw [hnl] at sN
  have z2 := bel2.size
  clear NA t0 bel0 bel1 r1 hb2 ownN hb1 hWr hWc hWb
  go_wp2_with fail
  go_loopw [5] (fun i wr => ∃ k : Nat, k ≤ (nms ds).length ∧ i = .int .i64 k ∧ Hid (∀ j, j < k → isTw (nms ds) j = false) ∧ Below w2.heap.size w2 wr) (fun i _ => (nms ds).length - (intOf i).toNat)
  case atStart => exact ⟨0, Nat.zero_le _, rfl, hd (fun j hj => absurd hj (Nat.not_lt_zero _)), Below.refl _ _⟩
  case round =>
    obtain ⟨k, hk, rfl, hall, hb⟩ := hrel
    have hz := hb.size
    have sr := sN.below hb
    by_cases hlt : k < (nms ds).length
    · obtain ⟨b, o, rfl, cL⟩ := sr.at_ hlt
      have st := sr.take (k := k) hk
      have hit := isTw_lt hlt
      generalize (nms ds)[k] = t at *
      have PO := fun w' h => placeOf_any ((nms ds).take k) t (.slice (some ⟨b, o, none⟩) k capN) w' h
      have hw := whr_mem ((nms ds).take k) t
      generalize whr ((nms ds).take k) t = r at *
      have hck : k ≤ capN := by omega
      have POd := PO wr.drew (st.below (drw1 wr))
      have cLd : wr.drew.cell? ⟨b, o + k, none⟩ = some (.string t) := cL
      clear PO st sr
      have bd : Below w.heap.size w wr.drew := (bel2.trans (hb.mono z2)).drew
      have rd := (r2.below hb).below (drw1 wr)
      by_cases hr : r ≥ 0
      · have hD : D = (7, (k : Int)) := by
          have e1 : tw ds = k := fstI_hit (by rw [hit]; exact inB_iff.2 (hw.1 hr)) hall.out (by omega)
          rw [HDF.out, e1, if_pos (by omega)]
        clear HDF
        subst hD
        go_wp2_with fail
        go_region_law (first | (go_simp; go_at_call 50; refine POd.mono ?_; rintro e wx ⟨rfl, hwx⟩; obtain rfl := hwx.symm))
        all_goals
          go_wp2_with fail
          refine (rF_any _ _ _).mono ?_
          rintro e wf ⟨rfl, hbf⟩
          have rf := rd.below hbf
          have q0 := rf.c0
          have q1 := rf.c1
          have qf := rf.fz
          have bf : Below w.heap.size w wf := bd.trans (hbf.mono bd.size)
          go_wp2_with fail
          refine bodyPost_ret (v := .agg #[.int .i64 7, .int .i64 k]) (by simp [results, Try.results46, go_sem, q0, q1]) rfl ⟨rfl, ?_⟩
          exact (bf.setCell (p := ⟨w.heap.size + 1, 0, none⟩) (Nat.le_succ _) _).setCell (p := ⟨w.heap.size + 1, 1, none⟩) (Nat.le_succ _) _
      · have hnx : Hid (∀ j, j < k + 1 → isTw (nms ds) j = false) := hd (fun j hj => by
          by_cases e : j = k
          · subst e; rw [hit]; exact inB_not.2 (fun h => hr (hw.2 h))
          · exact hall.out j (by omega))
        clear hit hw
        go_wp2_with fail
        go_region_law (first | (go_simp; go_at_call 50; refine POd.mono ?_; rintro e wx ⟨rfl, hwx⟩; obtain rfl := hwx.symm))
        all_goals
          go_wp2_with fail
          go_roundw
          case rel => exact ⟨k + 1, by omega, by go_num, hnx, hb.drew⟩
          case measure => simp [intOf]; omega
    · have htw : ¬ 0 ≤ tw ds := by rw [tw, fstI_neg]; exact fun j hj => hall.out j (by omega)
      have HD2 : Hid (D = if 0 ≤ op ds then (8, op ds) else if 16 < (trms ds).length then (6, -1) else (0, 0)) := hd (by rw [HDF.out, if_neg htw])
      have b3 : Below w.heap.size w wr := bel2.trans (hb.mono z2)
      have r3 := r2.below hb
      have t3 := bkeep hb t2
      have hkb : decide (k < ds.length) = false := by simp; omega
      rename World => w3
      clear hall htw HDF bel2 r2 t2 sN hb hk
      have z3 := b3.size
      go_wp2_with fail
      go_loopw [6] (fun i wr => ∃ k : Nat, k ≤ ds.length ∧ i = .int .i64 k ∧ Hid (∀ j, j < k → isOp (nms ds) ds j = false) ∧ Below w3.heap.size w3 wr) (fun i _ => ds.length - (intOf i).toNat)
      case atStart => exact ⟨0, Nat.zero_le _, rfl, hd (fun j hj => absurd hj (Nat.not_lt_zero _)), Below.refl _ _⟩
      case round =>
        obtain ⟨k, hk, rfl, hall, hb⟩ := hrel
        have s2 := bkeep hb t3
        have bel : Below w.heap.size w wr := b3.trans (hb.mono z3)
        by_cases hlt : k < ds.length
        · obtain h0 | ⟨ba, oa, rfl, hia⟩ := hin
          · omega
          have kA : ∀ b o v, All b → w.cell? ⟨b, o, none⟩ = some v → All b ∧ wr.cell? ⟨b, o, none⟩ = some v := keep_cell (fun _ _ h => h) (Kp.of_below bel).block
          obtain ⟨an, aa, ax⟩ := (hia.mono kA).at_ k hlt
          obtain ⟨ua, a0, a1, a2, hxa⟩ := ax.xv
          have hio := isOp_lt (names := nms ds) hlt
          have hsk := (HS.out ds[k] (List.getElem_mem hlt)).1
          generalize ds[k] = dk at *
          have hxa' := hxa
          obtain ⟨_, e, _, aoa', capa', rfl, _⟩ := hxa'
          simp at e; subst e
          have ND := fun w' hx => nd_any dk.e 2 (.agg #[.int .i64 dk.e.op, .string dk.e.nm, .slice aoa' dk.e.kids.len capa']) w' hx hsk
          have hLl := Nat.le_trans (Xp.nmd_len 2 dk.e) hsk
          generalize dk.e.nmd 2 = L at *
          have HLT := hd hlt
          have rr := r3.below hb
          go_wp2_with fail
          refine (ND _ hxa).mono ?_
          rintro e w4 ⟨v4, rfl, own4, hb4⟩
          have sL : SsV w4 v4 L := SsV_owned own4 (by omega)
          obtain ⟨aoL, capL, rfl⟩ := owns_slice own4
          have sN4 := (sr.below hb).below hb4
          have r4 := rr.below hb4
          have b4 : Below w.heap.size w w4 := bel.trans (hb4.mono bel.size)
          have z4 := b4.size
          have hb34 : Below w3.heap.size w3 w4 := hb.trans (hb4.mono hb.size)
          clear ND a0 a1 a2 hxa kA ax an aa hb s2 bel hb4 own4 rr
          go_wp2_with fail
          go_loopw [8] (fun i wr => ∃ j : Nat, j ≤ L.length ∧ i = .int .i64 j ∧ Hid (okN (nms ds) (L.take j) = true) ∧ Below w4.heap.size w4 wr) (fun i _ => L.length - (intOf i).toNat)
          case atStart => exact ⟨0, Nat.zero_le _, rfl, hd rfl, Below.refl _ _⟩
          case round =>
            obtain ⟨j, hj, rfl, hok, hbi⟩ := hrel
            by_cases hjl : j < L.length
            · obtain ⟨bL, oL, rfl, cL⟩ := (sL.below hbi).at_ hjl
              have htk : L.take (j + 1) = L.take j ++ [L[j]] := List.take_succ_eq_append_getElem hjl
              have hmem : L[j] ∈ L := List.getElem_mem hjl
              generalize L[j] = t at *
              have PO := placeOf_any (nms ds) t _ wr (sN4.below hbi)
              have hw := whr_mem (nms ds) t
              generalize whr (nms ds) t = r at *
              have bd : Below w.heap.size w wr := b4.trans (hbi.mono z4)
              have rd := r4.below hbi
              by_cases hr : r < 0
              · have hD : D = (8, (k : Int)) := by
                  have h1 : isOp (nms ds) ds k = true := by
                    rw [hio, Bool.not_eq_true', okN, List.all_eq_false]
                    exact ⟨t, hmem, by simp [inB_not.2 (fun h => by have := hw.2 h; omega)]⟩
                  have e1 : op ds = k := fstI_hit h1 hall.out HLT.out
                  rw [HD2.out, e1, if_pos (by omega)]
                clear HD2 hw hio htk hmem
                subst hD
                go_wp2_with (first
                  | (go_at_call 50; refine PO.mono ?_; rintro e wx ⟨rfl, hwx⟩; obtain rfl := hwx.symm)
                  | fail)
                refine (rF_any _ _ _).mono ?_
                rintro e wf ⟨rfl, hbf⟩
                have rf := rd.below hbf
                have q0 := rf.c0
                have q1 := rf.c1
                have qf := rf.fz
                have bf : Below w.heap.size w wf := bd.trans (hbf.mono bd.size)
                go_wp2_with fail
                refine bodyPost_ret (v := .agg #[.int .i64 8, .int .i64 k]) (by simp [results, Try.results46, go_sem, q0, q1]) rfl ⟨rfl, ?_⟩
                exact (bf.setCell (p := ⟨w.heap.size + 1, 0, none⟩) (Nat.le_succ _) _).setCell (p := ⟨w.heap.size + 1, 1, none⟩) (Nat.le_succ _) _
              · have hnx : Hid (okN (nms ds) (L.take (j + 1)) = true) := hd (by
                  rw [htk, okN_app, hok.out, okN, List.all_cons, List.all_nil, inB_iff.2 (hw.1 (by omega))]; rfl)
                clear hw htk hmem hio
                go_wp2_with (go_at_call 50; refine PO.mono ?_; rintro e wx ⟨rfl, hwx⟩; obtain rfl := hwx.symm)
                go_roundw
                case rel => exact ⟨j + 1, by omega, by go_num, hnx, hbi⟩
                case measure => simp [intOf]; omega
            · have hnx : Hid (∀ j, j < k + 1 → isOp (nms ds) ds j = false) := hd (fun i hi => by
                by_cases e : i = k
                · subst e
                  have := hok.out
                  rw [List.take_of_length_le (by omega)] at this
                  rw [hio, this]; rfl
                · exact hall.out i (by omega))
              clear hio hall hok
              go_wp2_with fail
              go_roundw
              case rel => exact ⟨k + 1, by have := HLT.out; omega, by go_num, hnx, hb34.trans (hbi.mono hb34.size)⟩
              case measure => simp [intOf]; have := HLT.out; omega
        · have hop : ¬ 0 ≤ op ds := by rw [op, fstI_neg]; exact fun j hj => hall.out j (by omega)
          have HD3 : Hid (D = if 16 < (trms ds).length then (6, -1) else (0, 0)) := hd (by rw [HD2.out, if_neg hop])
          have r5 := r3.below hb
          clear HD2 hall hop
          go_wp2_with fail
          refine (TA _ bel).mono ?_
          rintro e w6 ⟨vT, rfl, ownT, hb6⟩
          obtain ⟨aoT, capT, rfl⟩ := owns_slice ownT
          have r6 := r5.below hb6
          have b6 : Below w.heap.size w w6 := bel.trans (hb6.mono bel.size)
          clear ownT
          by_cases h16 : 16 < (trms ds).length
          · have hD : D = (6, -1) := by rw [HD3.out, if_pos h16]
            clear HD3
            subst hD
            generalize (trms ds).length = tl at *
            have h16' : (16 : Int) < (tl : Int) := by omega
            go_wp2_with fail
            refine (rF_any _ _ _).mono ?_
            rintro e wf ⟨rfl, hbf⟩
            have rf := r6.below hbf
            have q0 := rf.c0
            have q1 := rf.c1
            have qf := rf.fz
            have bf : Below w.heap.size w wf := b6.trans (hbf.mono b6.size)
            go_wp2_with fail
            refine bodyPost_ret (v := .agg #[.int .i64 6, .int .i64 (-1)]) (by simp [results, Try.results46, go_sem, q0, q1]) rfl ⟨rfl, ?_⟩
            exact (bf.setCell (p := ⟨w.heap.size + 1, 0, none⟩) (Nat.le_succ _) _).setCell (p := ⟨w.heap.size + 1, 1, none⟩) (Nat.le_succ _) _
          · have hD : D = (0, 0) := by rw [HD3.out, if_neg h16]
            clear HD3
            subst hD
            generalize (trms ds).length = tl at *
            have h16' : ¬ (16 : Int) < (tl : Int) := by omega
            have q0 := r6.c0
            have q1 := r6.c1
            have qf := r6.fz
            go_wp2_with fail
            refine bodyPost_ret (v := .agg #[.int .i64 0, .int .i64 0]) (by simp [results, Try.results46, go_sem, q0, q1]) rfl ⟨rfl, ?_⟩
            exact (b6.setCell (p := ⟨w.heap.size + 1, 0, none⟩) (Nat.le_succ _) _).setCell (p := ⟨w.heap.size + 1, 1, none⟩) (Nat.le_succ _) _
end Go.Proofs.Ytcanphhmflbdmac

/- Names that come twice, names that have no definition: the program's way. -/
namespace Go.Proofs.Ytcanphhmflbdmac
open Go.RowKit
set_option maxRecDepth 100000 in
set_option maxHeartbeats 4000000 in
theorem firstTwice_any (l : List ByteArray) (v : Value) (w : World) (h : SsV w v l) :
    Calls Try.prog 60 #[v] w fun e w' => e = .returned (.int .i64 (fstI (isTw l) l.length)) ∧ w' = w := by
  obtain ⟨ao, cap, rfl⟩ := h.slice
  have hcp := h.cap
  have hl := h.1
  go_enter Try.func60, Try.ntmps60
  go_wp2_with fail
  go_loopw [7] (fun i wr => ∃ k : Nat, k ≤ l.length ∧ i = .int .i64 k ∧ wr = w ∧ Hid (∀ j, j < k → isTw l j = false)) (fun i _ => l.length - (intOf i).toNat)
  case atStart => exact ⟨0, Nat.zero_le _, rfl, rfl, hd (fun j hj => absurd hj (Nat.not_lt_zero _))⟩
  case round =>
    obtain ⟨k, hk, rfl, rfl, hall⟩ := hrel
    by_cases hlt : k < l.length
    · obtain ⟨b, o, rfl, cL⟩ := h.at_ hlt
      have st := h.take (k := k) hk
      have hit := isTw_lt hlt
      generalize l[k] = t at *
      have CO := contains_any (l.take k) t (.slice (some ⟨b, o, none⟩) k cap) wr st
      generalize inB t (l.take k) = q at *
      have hck : k ≤ cap := by omega
      have HLT := hd hlt
      have HIT := hd hit
      clear st hit
      cases q with
      | true =>
        go_wp2_with (go_at_call 73; refine CO.mono ?_; rintro e wx ⟨rfl, hwx⟩; obtain rfl := hwx.symm)
        go_ret
        exact ⟨by rw [fstI_hit (k := k) HIT.out hall.out HLT.out]; rfl, rfl⟩
      | false =>
        go_wp2_with (go_at_call 73; refine CO.mono ?_; rintro e wx ⟨rfl, hwx⟩; obtain rfl := hwx.symm)
        go_roundw
        case rel => exact ⟨k + 1, by omega, by go_num, trivial, hd (fun j hj => by
          by_cases e : j = k
          · subst e; exact HIT.out
          · exact hall.out j (by omega))⟩
        case measure => simp [intOf]; omega
    · go_wp2_with fail
      go_ret
      exact ⟨by rw [fstI_none (fun j hj => hall.out j (by omega))]; rfl, rfl⟩
/-- Is the name there that it speaks of? -/
def okX (l : List ByteArray) (op : Int) (nm : ByteArray) : Bool := if op = 2 then inB nm l else true
theorem okN_x (l : List ByteArray) (x : Xp) : okN l (x.nmd 2) = (okX l x.op x.nm && okN l (x.kids.nmd 2)) := by
  unfold Xp.nmd okX
  rw [okN_app]
  split <;> simp [okN]
set_option maxRecDepth 100000 in
set_option maxHeartbeats 4000000 in
theorem known_any (l : List ByteArray) (vN : Value) (bn : Nat) (op : Int) (nm : ByteArray) (ao : Option Addr) (n cap : Nat) (w : World) (hc : w.cell? ⟨bn, 0, none⟩ = some vN) (hs : SsV w vN l) :
    Calls Try.prog 74 #[.agg #[.int .i64 op, .string nm, .slice ao n cap], .pointer (some ⟨bn, 0, none⟩)] w fun e w' => e = .returned (.bool (okX l op nm)) ∧ Below w.heap.size w w' := by
  have CO := contains_any l nm vN (w.alloc (.cells #[.int .i64 op, .string nm, .slice ao n cap] 64)) (hs.below (al1 _ _))
  have hc' := alcell hc (.cells #[.int .i64 op, .string nm, .slice ao n cap] 64)
  obtain ⟨aoN, capN, rfl⟩ := hs.slice
  clear hs
  by_cases h2 : op = 2
  · subst h2
    rw [okX, if_pos rfl]
    generalize inB nm l = q at *
    go_enter Try.func74, Try.ntmps74
    go_wp2_with (go_at_call 73; refine CO.mono ?_; rintro e wx ⟨rfl, hwx⟩; obtain rfl := hwx.symm)
    go_ret
    exact ⟨rfl, al1 _ _⟩
  · rw [okX, if_neg h2]
    have hb : (op != 2) = true := by simpa using h2
    go_enter Try.func74, Try.ntmps74
    go_wp2_with fail
    go_ret
    exact ⟨rfl, al1 _ _⟩
def HkOK (x : Xp) : Prop := ∀ (l : List ByteArray) (vN : Value) (bn : Nat) (va : Value) (w : World), XV w All va x → w.cell? ⟨bn, 0, none⟩ = some vN → SsV w vN l →
  Calls Try.prog 63 #[va, .func (.func 74) #[] #[.pointer (some ⟨bn, 0, none⟩)]] w fun e w' => e = .returned (.bool (okN l (x.nmd 2))) ∧ Below w.heap.size w w'
set_option maxRecDepth 100000 in
set_option maxHeartbeats 8000000 in
theorem hk_head (x : Xp) (ih : ∀ i, i < x.kids.len → HkOK (x.kids.at_ i)) : HkOK x := by
  intro l vN bn va w hx hc hs
  obtain ⟨u, rfl, hl, ao, cap, rfl, hin⟩ := hx
  obtain ⟨W, hW⟩ : ∃ W, W = w.alloc (.cells #[.int .i64 x.op, .string x.nm, .slice ao x.kids.len cap] 64) := ⟨_, rfl⟩
  have hWz : W.heap.size = w.heap.size + 1 := by rw [hW]; simp
  have hWb : Below w.heap.size w W := by rw [hW]; exact al1 _ _
  have hW2 : W.cell? ⟨w.heap.size, 2, none⟩ = some (.slice ao x.kids.len cap) := by rw [hW]; simp
  have KN := fun w' (hb : Below w.heap.size w w') => known_any l vN bn x.op x.nm ao x.kids.len cap w' (bkeep hb hc) (hs.below hb)
  have hok := okN_x l x
  generalize okN l (x.nmd 2) = R at *
  generalize okX l x.op x.nm = q at *
  cases q with
  | false =>
    have hR : R = false := by rw [hok]; rfl
    subst hR
    clear hok
    go_enter Try.func63, Try.ntmps63
    go_wp2_with fail
    rw [← hW]
    refine (KN _ hWb).mono ?_
    rintro e w1 ⟨rfl, hb1⟩
    go_wp2_with fail
    go_ret
    exact ⟨rfl, hWb.trans (hb1.mono hWb.size)⟩
  | true =>
    rw [Bool.true_and] at hok
    have HOK := hd hok
    clear hok
    go_enter Try.func63, Try.ntmps63
    go_wp2_with fail
    rw [← hW]
    refine (KN _ hWb).mono ?_
    rintro e w1 ⟨rfl, hb1⟩
    have HW := hd hW
    clear hW KN
    have bel1 : Below w.heap.size w w1 := hWb.trans (hb1.mono hWb.size)
    have z1 := bel1.size
    have c2 := bkeep hb1 hW2
    clear hb1 hWb hW2
    go_wp2_with fail
    go_loopw [14] (fun i wr => ∃ k : Nat, k ≤ x.kids.len ∧ i = .int .i64 k ∧ Hid (R = okN l ((x.kids.drp k).nmd 2)) ∧ Below w1.heap.size w1 wr) (fun i _ => x.kids.len - (intOf i).toNat)
    case atStart => exact ⟨0, Nat.zero_le _, rfl, hd (by rw [Fo.drp_zero]; exact HOK.out), Below.refl _ _⟩
    case round =>
      obtain ⟨k, hk, rfl, hall, hb⟩ := hrel
      have bel : Below w.heap.size w wr := bel1.trans (hb.mono z1)
      by_cases hlt : k < x.kids.len
      · obtain h0 | ⟨ba, oa, rfl, hia⟩ := hin
        · omega
        have kA : ∀ b o v, All b → w.cell? ⟨b, o, none⟩ = some v → All b ∧ wr.cell? ⟨b, o, none⟩ = some v := keep_cell (fun _ _ h => h) (Kp.of_below bel).block
        obtain ⟨ua, a0, a1, a2, hxa⟩ := ((hia.mono kA).at_ k hlt).xv
        have hxa' := hxa
        obtain ⟨_, e, _, aoa', capa', rfl, _⟩ := hxa'
        simp at e; subst e
        have IH := fun w' hx hc hs => ih k hlt l vN bn (.agg #[.int .i64 (x.kids.at_ k).op, .string (x.kids.at_ k).nm, .slice aoa' (x.kids.at_ k).kids.len capa']) w' hx hc hs
        have hnx : Hid (R = (okN l ((x.kids.at_ k).nmd 2) && okN l ((x.kids.drp (k + 1)).nmd 2))) := hd (by rw [hall.out, Fo.nmd_at 2 hlt, okN_app])
        generalize okN l ((x.kids.at_ k).nmd 2) = q at *
        generalize x.kids.at_ k = xk at *
        obtain ⟨U, hU⟩ : ∃ U, U = wr.alloc (.cells #[.int .i64 xk.op, .string xk.nm, .slice aoa' xk.kids.len capa'] 64) := ⟨_, rfl⟩
        have hUb : Below wr.heap.size wr U := by rw [hU]; exact al1 _ _
        have bU : Below w.heap.size w U := bel.trans (hUb.mono bel.size)
        have CA := IH U (hxa.below hUb) (bkeep bU hc) (hs.below bU)
        clear hall IH kA
        cases q with
        | false =>
          have hR : R = false := by rw [hnx.out]; rfl
          go_wp2_with fail
          rw [← hU]
          refine CA.mono ?_
          rintro e w2 ⟨rfl, hb2⟩
          go_wp2_with fail
          go_ret
          exact ⟨by rw [hR]; rfl, bU.trans (hb2.mono bU.size)⟩
        | true =>
          go_wp2_with fail
          rw [← hU]
          refine CA.mono ?_
          rintro e w2 ⟨rfl, hb2⟩
          have HU := hd hU
          clear hU
          go_wp2_with fail
          go_roundw
          case rel => exact ⟨k + 1, by omega, by go_num, hd (by rw [hnx.out, Bool.true_and]), hb.trans ((hUb.trans (hb2.mono hUb.size)).mono hb.size)⟩
          case measure => simp [intOf]; omega
      · have hR : R = true := by rw [hall.out, Fo.nmd_end 2 (by omega)]; rfl
        go_wp2_with fail
        go_ret
        exact ⟨by rw [hR]; rfl, bel⟩
theorem hk_all : ∀ (f : Fo) (i : Nat), i < f.len → HkOK (f.at_ i)
  | .nil, _, h => absurd h (Nat.not_lt_zero _)
  | .cons op nm kids rest, 0, _ => hk_head ⟨op, nm, kids⟩ (hk_all kids)
  | .cons _ _ _ rest, i + 1, h => hk_all rest i (by simpa [Fo.len] using h)
theorem hk_any (x : Xp) : HkOK x := hk_head x (hk_all x.kids)
end Go.Proofs.Ytcanphhmflbdmac

/- The first definition that speaks of one that is not there: the program's way. -/
namespace Go.Proofs.Ytcanphhmflbdmac
open Go.RowKit
set_option maxRecDepth 100000 in
set_option maxHeartbeats 4000000 in
theorem opens_any (l : List ByteArray) (vN : Value) (bn bk : Nat) (d : Df) (ao : Option Addr) (cap : Nat) (w : World) (hx : XV w All (.agg #[.int .i64 d.e.op, .string d.e.nm, .slice ao d.e.kids.len cap]) d.e) (hc : w.cell? ⟨bn, 0, none⟩ = some vN) (hs : SsV w vN l)
    (hf : w.cell? ⟨bk, 0, none⟩ = some (.func (.func 74) #[] #[.pointer (some ⟨bn, 0, none⟩)])) :
    Calls Try.prog 76 #[.agg #[.string d.nm, .int .i64 d.at_, .int .i64 d.e.op, .string d.e.nm, .slice ao d.e.kids.len cap], .pointer (some ⟨bk, 0, none⟩)] w fun e w' => e = .returned (.bool (!okN l (d.e.nmd 2))) ∧ Below w.heap.size w w' := by
  obtain ⟨W, hW⟩ : ∃ W, W = w.alloc (.cells #[.string d.nm, .int .i64 d.at_, .int .i64 d.e.op, .string d.e.nm, .slice ao d.e.kids.len cap] 66) := ⟨_, rfl⟩
  have hWb : Below w.heap.size w W := by rw [hW]; exact al1 _ _
  have HK := hk_any d.e l vN bn _ W (hx.below hWb) (bkeep hWb hc) (hs.below hWb)
  have hf' := alcell hf (.cells #[.string d.nm, .int .i64 d.at_, .int .i64 d.e.op, .string d.e.nm, .slice ao d.e.kids.len cap] 66)
  generalize okN l (d.e.nmd 2) = q at *
  clear hc hs hx hf
  go_enter Try.func76, Try.ntmps76
  go_wp2_with fail
  rw [← hW]
  refine HK.mono ?_
  rintro e w1 ⟨rfl, hb1⟩
  go_wp2_with fail
  go_ret
  exact ⟨rfl, hWb.trans (hb1.mono hWb.size)⟩
set_option maxRecDepth 100000 in
set_option maxHeartbeats 4000000 in
theorem indexFunc_any (ds : List Df) (l : List ByteArray) (va vN : Value) (bn bk : Nat) (w : World) (hx : DsV w All va ds) (hc : w.cell? ⟨bn, 0, none⟩ = some vN) (hs : SsV w vN l)
    (hf : w.cell? ⟨bk, 0, none⟩ = some (.func (.func 74) #[] #[.pointer (some ⟨bn, 0, none⟩)])) :
    Calls Try.prog 75 #[va, .func (.func 76) #[] #[.pointer (some ⟨bk, 0, none⟩)]] w fun e w' => e = .returned (.int .i64 (fstI (isOp l ds) ds.length)) ∧ Below w.heap.size w w' := by
  obtain ⟨hl, ao, cap, rfl, hin⟩ := hx
  go_enter Try.func75, Try.ntmps75
  go_wp2_with fail
  go_loopw [8] (fun i wr => ∃ k : Nat, k ≤ ds.length ∧ i = .int .i64 k ∧ Hid (∀ j, j < k → isOp l ds j = false) ∧ Below w.heap.size w wr) (fun i _ => ds.length - (intOf i).toNat)
  case atStart => exact ⟨0, Nat.zero_le _, rfl, hd (fun j hj => absurd hj (Nat.not_lt_zero _)), Below.refl _ _⟩
  case round =>
    obtain ⟨k, hk, rfl, hall, hb⟩ := hrel
    by_cases hlt : k < ds.length
    · obtain h0 | ⟨ba, oa, rfl, hia⟩ := hin
      · omega
      have kA : ∀ b o v, All b → w.cell? ⟨b, o, none⟩ = some v → All b ∧ wr.cell? ⟨b, o, none⟩ = some v := keep_cell (fun _ _ h => h) (Kp.of_below hb).block
      obtain ⟨an, aa, ax⟩ := (hia.mono kA).at_ k hlt
      obtain ⟨ua, a0, a1, a2, hxa⟩ := ax.xv
      have hio := isOp_lt (names := l) hlt
      generalize ds[k] = dk at *
      have hxa' := hxa
      obtain ⟨_, e, _, aoa', capa', rfl, _⟩ := hxa'
      simp at e; subst e
      have OA := opens_any l vN bn bk dk aoa' capa' wr hxa (bkeep hb hc) (hs.below hb) (bkeep hb hf)
      have HIO := hd hio
      have HLT := hd hlt
      clear hio kA ax
      generalize okN l (dk.e.nmd 2) = q at *
      cases q with
      | false =>
        go_wp2_with fail
        refine OA.mono ?_
        rintro e w1 ⟨rfl, hb1⟩
        go_wp2_with fail
        go_ret
        exact ⟨by rw [fstI_hit (k := k) HIO.out hall.out HLT.out]; rfl, hb.trans (hb1.mono hb.size)⟩
      | true =>
        go_wp2_with fail
        refine OA.mono ?_
        rintro e w1 ⟨rfl, hb1⟩
        go_wp2_with fail
        go_roundw
        case rel => exact ⟨k + 1, by omega, by go_num, hd (fun j hj => by
          by_cases e : j = k
          · subst e; exact HIO.out
          · exact hall.out j (by omega)), hb.trans (hb1.mono hb.size)⟩
        case measure => simp [intOf]; omega
    · go_wp2_with fail
      go_ret
      exact ⟨by rw [fstI_none (fun j hj => hall.out j (by omega))]; rfl, hb⟩
set_option maxRecDepth 100000 in
set_option maxHeartbeats 4000000 in
theorem firstOpen_any (ds : List Df) (l : List ByteArray) (va vN : Value) (w : World) (hx : DsV w All va ds) (hs : SsV w vN l) :
    Calls Try.prog 61 #[va, vN] w fun e w' => e = .returned (.int .i64 (fstI (isOp l ds) ds.length)) ∧ Below w.heap.size w w' := by
  obtain ⟨aoN, capN, rfl⟩ := hs.slice
  obtain ⟨W, hW⟩ : ∃ W, W = (w.alloc (.cells #[.slice aoN l.length capN] 45)).alloc (.cells #[.func (.func 74) #[] #[.pointer (some ⟨w.heap.size, 0, none⟩)]] 96) := ⟨_, rfl⟩
  have hWb : Below w.heap.size w W := by rw [hW]; exact al2 _ _ _
  have hW0 : W.cell? ⟨w.heap.size, 0, none⟩ = some (.slice aoN l.length capN) := by rw [hW]; simp
  have hW1 : W.cell? ⟨w.heap.size + 1, 0, none⟩ = some (.func (.func 74) #[] #[.pointer (some ⟨w.heap.size, 0, none⟩)]) := by rw [hW]; simp
  have IA := indexFunc_any ds l va _ w.heap.size (w.heap.size + 1) W (hx.kp (Kp.of_below hWb) (fun _ _ h => h)) hW0 (hs.below hWb) hW1
  generalize fstI (isOp l ds) ds.length = r at *
  obtain ⟨hl, ao, cap, rfl, hin⟩ := hx
  clear hs hin
  go_enter Try.func61, Try.ntmps61
  go_wp2_with fail
  rw [← hW]
  refine IA.mono ?_
  rintro e w1 ⟨rfl, hb1⟩
  go_wp2_with fail
  go_ret
  exact ⟨rfl, hWb.trans (hb1.mono hWb.size)⟩
end Go.Proofs.Ytcanphhmflbdmac
