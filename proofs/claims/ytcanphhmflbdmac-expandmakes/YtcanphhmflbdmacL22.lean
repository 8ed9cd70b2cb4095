/- The program's maker: the symbols of an expression. -/
import Derived.Test.YtcanphhmflbdmacL21
import Derived.Deep.RegionLaw
namespace Go.Proofs.Ytcanphhmflbdmac
open Go.RowKit G
section
variable {N T : List ByteArray}
theorem SsL.slice {w : World} {r : Nat} {v : Value} {l : List ByteArray} (h : SsL w r v l) : ∃ ao cap, v = .slice ao l.length cap := h.1.slice
theorem whr_ge (l : List ByteArray) (s : ByteArray) : -1 ≤ whr l s := by
  unfold whr
  rcases fstI_spec (fun i => decide (l[i]? = some s)) l.length with ⟨h1, h2⟩ | ⟨k, h1, h2, h3, _⟩
  · rw [h1]; omega
  · rw [h2]; omega
theorem whr_le {l : List ByteArray} (hl : l.length ≤ 9223372036854775807) (s : ByteArray) : whr l s ≤ 9223372036854775806 := by
  unfold whr
  rcases fstI_spec (fun i => decide (l[i]? = some s)) l.length with ⟨h1, h2⟩ | ⟨k, h1, h2, h3, _⟩
  · rw [h1]; omega
  · rw [h2]; omega
set_option maxRecDepth 100000 in
set_option maxHeartbeats 8000000 in
theorem sym_leaf {x : Xp} (h12 : x.op = 1 ∨ x.op = 2) : SymOK N T x := by
  intro r vn vt s q X df va w h hx hb hs
  obtain ⟨u, rfl, hf⟩ := hx
  obtain ⟨hl, ao, cap, rfl, hin⟩ := hf
  obtain ⟨V, hV⟩ : ∃ V, V = w.alloc (.cells #[.int .i64 x.op, .string x.nm, .slice ao x.kids.len cap] 64) := ⟨_, rfl⟩
  have hVb : Below w.heap.size w V := by rw [hV]; exact G.al1 _ _
  have hV0 : V.cell? ⟨w.heap.size, 0, none⟩ = some (.int .i64 x.op) := by rw [hV]; simp
  have hV1 : V.cell? ⟨w.heap.size, 1, none⟩ = some (.string x.nm) := by rw [hV]; simp
  have hmV := h.lw hVb
  have hm := h
  have hD : Below w.heap.size w V.drew := bthen hVb (G.drw1 V)
  have zD : V.drew.heap.size = V.heap.size := rfl
  have zV := hVb.size
  rcases h12 with h1 | h1
  · have IA := index_any T x.nm vt V.drew (h.lw hD).st.tt.1
    have hg := whr_ge T x.nm
    have hle := whr_le h.st.tt.1.1 x.nm
    have c1 := hmV.st.c1
    rw [sy_term h.nb h1, h1]
    rw [h1] at hV0 hV
    generalize whr T x.nm = p at *
    have hwr : IntKind.i64.wrap (-1 - p) = -1 - p := by rw [IntKind.wrap_i64]; omega
    clear h
    go_enter Try.func66, Try.ntmps66
    go_wp2_with fail
    rw [← hV]
    have HV := hd hV
    clear hV
    go_region_with (go_at_call 78; refine IA.mono ?_; rintro e wx ⟨rfl, hwx⟩; obtain rfl := hwx.symm)
    all_goals
      go_wp2_with fail
      go_ret
      have own : (V.alloc (.cells #[.int .i64 (-1 - p)] 3)).drew.ownsRow w.heap.size 3 1 (.slice (some ⟨V.heap.size, 0, none⟩) 1 1) 1 (ints [-1 - p]) := G.owns_below (owns_one V (-1 - p) w.heap.size hVb.size) (G.drw1 _)
      have bel : Below w.heap.size w (V.alloc (.cells #[.int .i64 (-1 - p)] 3)).drew := bthen hVb (bthen (G.al1 _ _) (G.drw1 _))
      exact OutM_yes (v := .slice (some ⟨V.heap.size, 0, none⟩) 1 1) own (hm.open_ bel (fun k e => own.lt k e)) (Fm.of_below bel) (.inl rfl)
  · have IA := index_any N x.nm vn V.drew (h.lw hD).st.nn.1
    have c1 := hmV.st.c0
    rw [sy_name h.nb h1, h1]
    rw [h1] at hV0 hV
    generalize whr N x.nm = p at *
    clear h
    go_enter Try.func66, Try.ntmps66
    go_wp2_with fail
    rw [← hV]
    have HV := hd hV
    clear hV
    go_region_with (go_at_call 78; refine IA.mono ?_; rintro e wx ⟨rfl, hwx⟩; obtain rfl := hwx.symm)
    all_goals
      go_wp2_with fail
      go_ret
      have own : (V.alloc (.cells #[.int .i64 p] 3)).drew.ownsRow w.heap.size 3 1 (.slice (some ⟨V.heap.size, 0, none⟩) 1 1) 1 (ints [p]) := G.owns_below (owns_one V p w.heap.size hVb.size) (G.drw1 _)
      have bel : Below w.heap.size w (V.alloc (.cells #[.int .i64 p] 3)).drew := bthen hVb (bthen (G.al1 _ _) (G.drw1 _))
      exact OutM_yes (v := .slice (some ⟨V.heap.size, 0, none⟩) 1 1) own (hm.open_ bel (fun k e => own.lt k e)) (Fm.of_below bel) (.inl rfl)
set_option maxRecDepth 100000 in
set_option maxHeartbeats 8000000 in
theorem sym_row {x : Xp} (h3 : x.op = 3) (ih : ∀ i, i < x.kids.len → SymOK N T (x.kids.at_ i)) : SymOK N T x := by
  intro r vn vt s q X df va w h hx hb hs
  obtain ⟨j0, hj, jz0, jz1, jz2⟩ := info_parts Try.infoInt
  obtain ⟨u, rfl, hf⟩ := hx
  have hf' := hf
  obtain ⟨hl, ao, cap, rfl, hin⟩ := hf'
  have wyw : ∀ w', Below r w w' → WyV w' r G.All (.slice ao x.kids.len cap) x.kids := fun w' hb => WyV_fov (hf.mono fun b o v hs hc => ⟨hs, by rw [hb.cell (p := ⟨b, o, none⟩) hs]; exact hc⟩) (fun _ _ => trivial)
  obtain ⟨V, hV⟩ : ∃ V, V = w.alloc (.cells #[.int .i64 x.op, .string x.nm, .slice ao x.kids.len cap] 64) := ⟨_, rfl⟩
  have hVb : Below w.heap.size w V := by rw [hV]; exact G.al1 _ _
  have hV0 : V.cell? ⟨w.heap.size, 0, none⟩ = some (.int .i64 x.op) := by rw [hV]; simp
  have hV2 : V.cell? ⟨w.heap.size, 2, none⟩ = some (.slice ao x.kids.len cap) := by rw [hV]; simp
  have hmV := h.lw hVb
  have hfV : Fm r q w V := Fm.of_below hVb
  have hlow := fun w' (hb : Fm r q w w') => h.st.low hb
  have zV : V.heap.size = w.heap.size + 1 := by rw [hV]; simp
  have hks : x.kids.sz ≤ 3000 := by unfold Xp.sz at hs; omega
  have hkb := (Xp.bad_zero hb).2
  rw [sy_row h.nb h3]
  have hR : (x.kids.drp 0).go N T .row s = x.kids.go N T .row s := by rw [Fo.drp_zero]
  have hRl := Fo.go_len (N := N) (T := T) x.kids s
  have hok : ∀ i, i < x.kids.len → (x.kids.at_ i).bad = 0 ∧ (x.kids.at_ i).sz ≤ 3000 := fun i hi => ⟨Fo.bad_in hkb hi, by have := Fo.sz_le hi; omega⟩
  generalize x.kids.go N T .row s = R at *
  generalize x.kids = F at *
  rw [h3] at hV0 hV ⊢
  go_enter Try.func66, Try.ntmps66
  go_wp2_with fail
  rw [← hV]
  have HV := hd hV
  have HR := hd hR
  clear hV hR
  go_loopw [5, 36] (fun v i wr => ∃ (k : Nat) (acc : List Int) (s1 : Sp) (q1 : Option Nat), k ≤ F.len ∧ i = .int .i64 k ∧ MkS wr r vn vt N T s1 q1 (op1 X v) df ∧ Hid ((acc ++ ((F.drp k).go N T .row s1).1, ((F.drp k).go N T .row s1).2) = R) ∧ wr.ownsRow (w.heap.size + 1) 3 1 v acc.length (ints acc) ∧ Fm r q w wr ∧ Own w q q1 ∧ w.heap.size + 1 ≤ wr.heap.size) (fun _ i _ => F.len - (intOf i).toNat)
  case atStart => exact ⟨0, [], s, q, Nat.zero_le _, rfl, hmV.weak (fun k hk => hk.elim id (fun e => by cases e)), HR, World.ownsRow_nil _ _ _ _, hfV, .inl rfl, by omega⟩
  case round =>
    obtain ⟨k, acc, s1, q1, hk, rfl, hm, hE, hown, hfr, how, hzr⟩ := hrel
    have wy := wyw wr (hlow wr hfr)
    clear HR
    have hE' := hE.out
    obtain ⟨aov, capv, rfl⟩ := owns_slice hown
    by_cases hlt : k < F.len
    · obtain ⟨b, o, ak, ck, rfl, a0, a1, a2, hfk⟩ := wy.cells hlt
      have hz := hfr.size
      have IH := fun w' hb => ih k hlt r vn vt s1 q1 _ df (.agg #[.int .i64 (F.at_ k).op, .string (F.at_ k).nm, .slice ak (F.at_ k).kids.len ck]) w' (hm.lw hb) ⟨_, rfl, hfk.mono fun _ _ _ hs h => ⟨hs, bkeep hb h⟩⟩ (hok k hlt).1 (hok k hlt).2
      rw [Fo.row_at hlt] at hE'
      have hkl := hfk.1
      generalize (F.at_ k).sy N T s1 = y at *
      obtain ⟨L, s2⟩ := y
      generalize F.at_ k = xk at *
      simp only at IH hE'
      clear hE
      cases hs2 : s2.bad with
      | true =>
        rw [Fo.go_bad hs2] at hE'
        simp only at hE'
        subst hE'
        clear hRl
        go_wp2_with fail
        refine (IH _ (G.al1 _ _)).mono ?_
        rintro e w2 h2
        obtain ⟨rfl, g1, g2, g3⟩ := (h2.no hs2).pre (hfr.thenB (G.al1 _ _)) how
        go_wp2_with fail
        exact ⟨rfl, OutM_no hs2 ⟨rfl, g1, g2, g3⟩⟩
      | false =>
        have HE := hd hE'
        have hal : acc.length + L.length ≤ 3000 := by
          rw [← hE'] at hRl
          simp only [List.length_append] at hRl
          omega
        clear hE' hRl
        go_wp2_with fail
        refine (IH _ (G.al1 _ _)).mono ?_
        rintro e w2 h2
        obtain ⟨v2, q2, rfl, own2, hm2, hf2, ow2⟩ := h2.yes hs2
        have hf12 : Fm r q1 wr w2 := (Fm.of_below (q := q1) (G.al1 wr _)).trans hf2 (.inl rfl)
        have ow12 : Own wr q1 q2 := (Own.refl wr q1).trans ow2 (G.al1 wr _).size
        have iv2 : IsV w2 G.All v2 L := IsV_owned own2 (by omega) (fun _ _ => trivial)
        have ownA : w2.ownsRow (w.heap.size + 1) 3 1 (.slice aov acc.length capv) acc.length (ints acc) := owns_fr hown hf12 (fun k e => ⟨by have := (hm.st.xo k (.inr e)).1; omega, (hm.st.xo k (.inr e)).2.2⟩)
        have hm2' : MkS w2 r vn vt N T s2 q2 (op1 X (.slice aov acc.length capv)) df := hm2.weak (fun _ h => .inl h)
        have z2 := hf12.size
        obtain ⟨ao2, cap2, rfl⟩ := owns_slice own2
        clear own2 hm2 IH wy
        go_wp2_with (first | (at_builtin; go_must (refine wpList_append_ints _ rfl _ _ 33 rfl (w.heap.size + 1) 3 j0 Try.underlying33 hj jz0 jz1 jz2 _ _ _ rfl ownA G.All _ L rfl iv2 (by omega) (by omega) ?_)))
        intro v5 w5 own5 grow5 hat5
        have hm5 := hm2'.grow grow5 hat5 (fun k e => (own5.lt k e).2)
        have f02 : Fm r q w w2 := hfr.trans hf12 how
        have f05 : Fm r q w w5 := f02.grown grow5 (.inr fun k e => by have := (ownA.lt k e).1; omega)
        have HE' : Hid (((acc ++ L) ++ ((F.drp (k + 1)).go N T .row s2).1, ((F.drp (k + 1)).go N T .row s2).2) = R) := hd (by rw [List.append_assoc]; exact HE.out)
        go_wp2_with fail
        go_roundw
        case rel => exact ⟨k + 1, acc ++ L, s2, q2, by omega, by go_num, hm5, HE', by rw [ints_app, List.length_append]; exact own5, f05, how.trans ow12 hz, by have := grow5.size; omega⟩
        case measure => simp [intOf]; omega
    · rw [Fo.row_end (by omega)] at hE'
      simp only [List.append_nil] at hE'
      subst hE'
      clear hE
      go_wp2_with fail
      go_ret
      exact OutM_yes (owns_mono hown (Nat.le_succ _)) hm hfr how
set_option maxRecDepth 100000 in
set_option maxHeartbeats 4000000 in
theorem sym_new {x : Xp} (h1 : x.op ≠ 1) (h2 : x.op ≠ 2) (h3 : x.op ≠ 3) (hg : GrowOK N T x) : SymOK N T x := by
  intro r vn vt s q X df va w h hx hb hs
  have hxx := hx
  obtain ⟨u, rfl, hf⟩ := hxx
  obtain ⟨hl, ao, cap, rfl, hin⟩ := hf
  obtain ⟨V, hV⟩ : ∃ V, V = w.alloc (.cells #[.int .i64 x.op, .string x.nm, .slice ao x.kids.len cap] 64) := ⟨_, rfl⟩
  have hVb : Below w.heap.size w V := by rw [hV]; exact G.al1 _ _
  have GA := hg r vn vt s q X df _ V (h.lw hVb) (hx.mono fun _ _ _ hs h => ⟨hs, bkeep hVb h⟩) hb hs
  have hV0 : V.cell? ⟨w.heap.size, 0, none⟩ = some (.int .i64 x.op) := by rw [hV]; simp
  have hV1 : V.cell? ⟨w.heap.size, 1, none⟩ = some (.string x.nm) := by rw [hV]; simp
  have hV2 : V.cell? ⟨w.heap.size, 2, none⟩ = some (.slice ao x.kids.len cap) := by rw [hV]; simp
  have b1 : (x.op == 1) = false := by simpa using h1
  have b2 : (x.op == 2) = false := by simpa using h2
  have b3 : (x.op == 3) = false := by simpa using h3
  have fV : Fm r q w V := Fm.of_below hVb
  generalize x.sy N T s = R at *
  obtain ⟨L, s'⟩ := R
  simp only at GA ⊢
  clear hx
  go_enter Try.func66, Try.ntmps66
  go_wp2_with fail
  rw [← hV]
  refine GA.mono ?_
  rintro e w1 h1
  cases hb' : s'.bad with
  | true =>
    obtain ⟨rfl, g1, g2, g3⟩ := (h1.no hb').pre fV (.inl rfl)
    go_wp2_with fail
    exact ⟨rfl, OutM_no hb' ⟨rfl, g1, g2, g3⟩⟩
  | false =>
    obtain ⟨v1, q1, rfl, ⟨rfl, hL⟩, hm1, hf1, ow1⟩ := h1.yes hb'
    subst hL
    have f1 : Fm r q w w1 := fV.trans hf1 (.inl rfl)
    have z1 := f1.size
    have zV := hVb.size
    have own := owns_one w1 (s.vars : Int) w.heap.size z1
    go_wp2_with fail
    go_ret
    exact OutM_yes own (hm1.open_ (G.al1 _ _) (fun k e => ⟨by simp [Value.ownBlock] at e; omega, (own.lt k e).2⟩)) (f1.thenB (G.al1 _ _)) (Own.trans (.inl rfl) ow1 zV)
/-- Whatever the expression: its symbols, and those of each way of it. -/
theorem sym_head (x : Xp) (ih : ∀ i, i < x.kids.len → SymOK N T (x.kids.at_ i) ∧ ∀ j, j < (x.kids.at_ i).ways.len → SymOK N T ((x.kids.at_ i).ways.at_ j)) : SymOK N T x ∧ ∀ j, j < x.ways.len → SymOK N T (x.ways.at_ j) := by
  have hs : SymOK N T x := by
    by_cases h1 : x.op = 1
    · exact sym_leaf (.inl h1)
    by_cases h2 : x.op = 2
    · exact sym_leaf (.inr h2)
    by_cases h3 : x.op = 3
    · exact sym_row h3 fun i hi => (ih i hi).1
    · exact sym_new h1 h2 h3 (grow_head h1 h2 h3 (fun i hi => (ih i hi).2) fun h4 i hi => by
        unfold Xp.ways at hi ⊢
        rw [if_pos h4] at hi ⊢
        exact (ih i hi).1)
  refine ⟨hs, fun j hj => ?_⟩
  unfold Xp.ways at hj ⊢
  split at hj
  · rename_i h4
    rw [if_pos h4]
    exact (ih j hj).1
  · rename_i h4
    rw [if_neg h4]
    obtain rfl : j = 0 := by simpa [Fo.len] using hj
    exact hs
theorem sym_all : ∀ (f : Fo) (i : Nat), i < f.len → SymOK N T (f.at_ i) ∧ ∀ j, j < (f.at_ i).ways.len → SymOK N T ((f.at_ i).ways.at_ j)
  | .nil, _, h => absurd h (Nat.not_lt_zero _)
  | .cons op nm kids rest, 0, _ => sym_head ⟨op, nm, kids⟩ (sym_all kids)
  | .cons _ _ _ rest, i + 1, h => sym_all rest i (by simpa [Fo.len] using h)
theorem sym_any (x : Xp) : SymOK N T x ∧ ∀ j, j < x.ways.len → SymOK N T (x.ways.at_ j) := sym_head x (sym_all x.kids)
end
end Go.Proofs.Ytcanphhmflbdmac
