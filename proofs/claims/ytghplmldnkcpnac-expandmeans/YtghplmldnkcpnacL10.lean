/- Texts laid together: Ee Ev Nd Nt Nf Pn Po Pe. -/
import Derived.Test.YtghplmldnkcpnacL09
import Derived.Deep.RegionLaw
import Derived.Test.YtghplmldnkcpnacL08
import Derived.Test.YtghplmldnkcpnacL04
import Derived.Laws.AppendOwnNone
import Derived.Laws.EntriesVeiled
import Derived.Maps.OwnSet
import Derived.WideLaws
/- The program's maker: the symbols of an expression. -/
namespace Go.Proofs.Ytghplmldnkcpnac
open Go.RowKit G
section
variable {N T : List ByteArray}
theorem SsL.slice {w : World} {r : Nat} {v : Value} {l : List ByteArray} (h : SsL w r v l) : ∃ ao cap, v = .slice ao l.length cap := h.1.slice
theorem whr_ge (l : List ByteArray) (s : ByteArray) : -1 ≤ whr l s := by
  unfold whr
  rcases fstI_spec (fun i => decide (l[i]? = some s)) l.length with ⟨h1, h2⟩ | ⟨k, h1, h2, h3, _⟩
  · rw [h1]; omega
  · rw [h2]; omega
theorem whr_le {l : List ByteArray} (hl : l.length ≤ 9223372036854775807) (s : ByteArray) : whr l s ≤ 9223372036854775806 := by
  unfold whr
  rcases fstI_spec (fun i => decide (l[i]? = some s)) l.length with ⟨h1, h2⟩ | ⟨k, h1, h2, h3, _⟩
  · rw [h1]; omega
  · rw [h2]; omega
set_option maxRecDepth 100000 in
set_option maxHeartbeats 8000000 in
theorem sym_leaf {x : Xp} (h12 : x.op = 1 ∨ x.op = 2) : SymOK N T x := by
  intro r vn vt s q X df va w h hx hb hs
  obtain ⟨u, rfl, hf⟩ := hx
  obtain ⟨hl, ao, cap, rfl, hin⟩ := hf
  obtain ⟨V, hV⟩ : ∃ V, V = w.alloc (.cells #[.int .i64 x.op, .string x.nm, .slice ao x.kids.len cap] 64) := ⟨_, rfl⟩
  have hVb : Below w.heap.size w V := by rw [hV]; exact G.al1 _ _
  have hV0 : V.cell? ⟨w.heap.size, 0, none⟩ = some (.int .i64 x.op) := by rw [hV]; simp
  have hV1 : V.cell? ⟨w.heap.size, 1, none⟩ = some (.string x.nm) := by rw [hV]; simp
  have hmV := h.lw hVb
  have hm := h
  have hD : Below w.heap.size w V.drew := bthen hVb (G.drw1 V)
  have zD : V.drew.heap.size = V.heap.size := rfl
  have zV := hVb.size
  rcases h12 with h1 | h1
  · have IA := index_any T x.nm vt V.drew (h.lw hD).st.tt.1
    have hg := whr_ge T x.nm
    have hle := whr_le h.st.tt.1.1 x.nm
    have c1 := hmV.st.c1
    rw [sy_term h.nb h1, h1]
    rw [h1] at hV0 hV
    generalize whr T x.nm = p at *
    have hwr : IntKind.i64.wrap (-1 - p) = -1 - p := by rw [IntKind.wrap_i64]; omega
    clear h
    go_enter Try.func96, Try.ntmps96
    go_wp2_with fail
    rw [← hV]
    have HV := hd hV
    clear hV
    go_region_with (go_at_call 117; refine IA.mono ?_; rintro e wx ⟨rfl, hwx⟩; obtain rfl := hwx.symm)
    all_goals
      go_wp2_with fail
      go_ret
      have own : (V.alloc (.cells #[.int .i64 (-1 - p)] 3)).drew.ownsRow w.heap.size 3 1 (.slice (some ⟨V.heap.size, 0, none⟩) 1 1) 1 (ints [-1 - p]) := G.owns_below (owns_one V (-1 - p) w.heap.size hVb.size) (G.drw1 _)
      have bel : Below w.heap.size w (V.alloc (.cells #[.int .i64 (-1 - p)] 3)).drew := bthen hVb (bthen (G.al1 _ _) (G.drw1 _))
      exact OutM_yes (v := .slice (some ⟨V.heap.size, 0, none⟩) 1 1) own (hm.open_ bel (fun k e => own.lt k e)) (Fm.of_below bel) (.inl rfl)
  · have IA := index_any N x.nm vn V.drew (h.lw hD).st.nn.1
    have c1 := hmV.st.c0
    rw [sy_name h.nb h1, h1]
    rw [h1] at hV0 hV
    generalize whr N x.nm = p at *
    clear h
    go_enter Try.func96, Try.ntmps96
    go_wp2_with fail
    rw [← hV]
    have HV := hd hV
    clear hV
    go_region_with (go_at_call 117; refine IA.mono ?_; rintro e wx ⟨rfl, hwx⟩; obtain rfl := hwx.symm)
    all_goals
      go_wp2_with fail
      go_ret
      have own : (V.alloc (.cells #[.int .i64 p] 3)).drew.ownsRow w.heap.size 3 1 (.slice (some ⟨V.heap.size, 0, none⟩) 1 1) 1 (ints [p]) := G.owns_below (owns_one V p w.heap.size hVb.size) (G.drw1 _)
      have bel : Below w.heap.size w (V.alloc (.cells #[.int .i64 p] 3)).drew := bthen hVb (bthen (G.al1 _ _) (G.drw1 _))
      exact OutM_yes (v := .slice (some ⟨V.heap.size, 0, none⟩) 1 1) own (hm.open_ bel (fun k e => own.lt k e)) (Fm.of_below bel) (.inl rfl)
set_option maxRecDepth 100000 in
set_option maxHeartbeats 8000000 in
theorem sym_row {x : Xp} (h3 : x.op = 3) (ih : ∀ i, i < x.kids.len → SymOK N T (x.kids.at_ i)) : SymOK N T x := by
  intro r vn vt s q X df va w h hx hb hs
  obtain ⟨j0, hj, jz0, jz1, jz2⟩ := info_parts Try.infoInt
  obtain ⟨u, rfl, hf⟩ := hx
  have hf' := hf
  obtain ⟨hl, ao, cap, rfl, hin⟩ := hf'
  have wyw : ∀ w', Below r w w' → WyV w' r G.All (.slice ao x.kids.len cap) x.kids := fun w' hb => WyV_fov (hf.mono fun b o v hs hc => ⟨hs, by rw [hb.cell (p := ⟨b, o, none⟩) hs]; exact hc⟩) (fun _ _ => trivial)
  obtain ⟨V, hV⟩ : ∃ V, V = w.alloc (.cells #[.int .i64 x.op, .string x.nm, .slice ao x.kids.len cap] 64) := ⟨_, rfl⟩
  have hVb : Below w.heap.size w V := by rw [hV]; exact G.al1 _ _
  have hV0 : V.cell? ⟨w.heap.size, 0, none⟩ = some (.int .i64 x.op) := by rw [hV]; simp
  have hV2 : V.cell? ⟨w.heap.size, 2, none⟩ = some (.slice ao x.kids.len cap) := by rw [hV]; simp
  have hmV := h.lw hVb
  have hfV : Fm r q w V := Fm.of_below hVb
  have hlow := fun w' (hb : Fm r q w w') => h.st.low hb
  have zV : V.heap.size = w.heap.size + 1 := by rw [hV]; simp
  have hks : x.kids.sz ≤ 3000 := by unfold Xp.sz at hs; omega
  have hkb := (Xp.bad_zero hb).2
  rw [sy_row h.nb h3]
  have hR : (x.kids.drp 0).go N T .row s = x.kids.go N T .row s := by rw [Fo.drp_zero]
  have hRl := Fo.go_len (N := N) (T := T) x.kids s
  have hok : ∀ i, i < x.kids.len → (x.kids.at_ i).bad = 0 ∧ (x.kids.at_ i).sz ≤ 3000 := fun i hi => ⟨Fo.bad_in hkb hi, by have := Fo.sz_le hi; omega⟩
  generalize x.kids.go N T .row s = R at *
  generalize x.kids = F at *
  rw [h3] at hV0 hV ⊢
  go_enter Try.func96, Try.ntmps96
  go_wp2_with fail
  rw [← hV]
  have HV := hd hV
  have HR := hd hR
  clear hV hR
  go_loopw [5, 36] (fun v i wr => ∃ (k : Nat) (acc : List Int) (s1 : Sp) (q1 : Option Nat), k ≤ F.len ∧ i = .int .i64 k ∧ MkS wr r vn vt N T s1 q1 (op1 X v) df ∧ Hid ((acc ++ ((F.drp k).go N T .row s1).1, ((F.drp k).go N T .row s1).2) = R) ∧ wr.ownsRow (w.heap.size + 1) 3 1 v acc.length (ints acc) ∧ Fm r q w wr ∧ Own w q q1 ∧ w.heap.size + 1 ≤ wr.heap.size) (fun _ i _ => F.len - (intOf i).toNat)
  case atStart => exact ⟨0, [], s, q, Nat.zero_le _, rfl, hmV.weak (fun k hk => hk.elim id (fun e => by cases e)), HR, World.ownsRow_nil _ _ _ _, hfV, .inl rfl, by omega⟩
  case round =>
    obtain ⟨k, acc, s1, q1, hk, rfl, hm, hE, hown, hfr, how, hzr⟩ := hrel
    have wy := wyw wr (hlow wr hfr)
    clear HR
    have hE' := hE.out
    obtain ⟨aov, capv, rfl⟩ := owns_slice hown
    by_cases hlt : k < F.len
    · obtain ⟨b, o, ak, ck, rfl, a0, a1, a2, hfk⟩ := wy.cells hlt
      have hz := hfr.size
      have IH := fun w' hb => ih k hlt r vn vt s1 q1 _ df (.agg #[.int .i64 (F.at_ k).op, .string (F.at_ k).nm, .slice ak (F.at_ k).kids.len ck]) w' (hm.lw hb) ⟨_, rfl, hfk.mono fun _ _ _ hs h => ⟨hs, bkeep hb h⟩⟩ (hok k hlt).1 (hok k hlt).2
      rw [Fo.row_at hlt] at hE'
      have hkl := hfk.1
      generalize (F.at_ k).sy N T s1 = y at *
      obtain ⟨L, s2⟩ := y
      generalize F.at_ k = xk at *
      simp only at IH hE'
      clear hE
      cases hs2 : s2.bad with
      | true =>
        rw [Fo.go_bad hs2] at hE'
        simp only at hE'
        subst hE'
        clear hRl
        go_wp2_with fail
        refine (IH _ (G.al1 _ _)).mono ?_
        rintro e w2 h2
        obtain ⟨rfl, g1, g2, g3⟩ := (h2.no hs2).pre (hfr.thenB (G.al1 _ _)) how
        go_wp2_with fail
        exact ⟨rfl, OutM_no hs2 ⟨rfl, g1, g2, g3⟩⟩
      | false =>
        have HE := hd hE'
        have hal : acc.length + L.length ≤ 3000 := by
          rw [← hE'] at hRl
          simp only [List.length_append] at hRl
          omega
        clear hE' hRl
        go_wp2_with fail
        refine (IH _ (G.al1 _ _)).mono ?_
        rintro e w2 h2
        obtain ⟨v2, q2, rfl, own2, hm2, hf2, ow2⟩ := h2.yes hs2
        have hf12 : Fm r q1 wr w2 := (Fm.of_below (q := q1) (G.al1 wr _)).trans hf2 (.inl rfl)
        have ow12 : Own wr q1 q2 := (Own.refl wr q1).trans ow2 (G.al1 wr _).size
        have iv2 : IsV w2 G.All v2 L := IsV_owned own2 (by omega) (fun _ _ => trivial)
        have ownA : w2.ownsRow (w.heap.size + 1) 3 1 (.slice aov acc.length capv) acc.length (ints acc) := owns_fr hown hf12 (fun k e => ⟨by have := (hm.st.xo k (.inr e)).1; omega, (hm.st.xo k (.inr e)).2.2⟩)
        have hm2' : MkS w2 r vn vt N T s2 q2 (op1 X (.slice aov acc.length capv)) df := hm2.weak (fun _ h => .inl h)
        have z2 := hf12.size
        obtain ⟨ao2, cap2, rfl⟩ := owns_slice own2
        clear own2 hm2 IH wy
        go_wp2_with (first | (at_builtin; go_must (refine wpList_append_ints _ rfl _ _ 33 rfl (w.heap.size + 1) 3 j0 Try.underlying33 hj jz0 jz1 jz2 _ _ _ rfl ownA G.All _ L rfl iv2 (by omega) (by omega) ?_)))
        intro v5 w5 own5 grow5 hat5
        have hm5 := hm2'.grow grow5 hat5 (fun k e => (own5.lt k e).2)
        have f02 : Fm r q w w2 := hfr.trans hf12 how
        have f05 : Fm r q w w5 := f02.grown grow5 (.inr fun k e => by have := (ownA.lt k e).1; omega)
        have HE' : Hid (((acc ++ L) ++ ((F.drp (k + 1)).go N T .row s2).1, ((F.drp (k + 1)).go N T .row s2).2) = R) := hd (by rw [List.append_assoc]; exact HE.out)
        go_wp2_with fail
        go_roundw
        case rel => exact ⟨k + 1, acc ++ L, s2, q2, by omega, by go_num, hm5, HE', by rw [ints_app, List.length_append]; exact own5, f05, how.trans ow12 hz, by have := grow5.size; omega⟩
        case measure => simp [intOf]; omega
    · rw [Fo.row_end (by omega)] at hE'
      simp only [List.append_nil] at hE'
      subst hE'
      clear hE
      go_wp2_with fail
      go_ret
      exact OutM_yes (owns_mono hown (Nat.le_succ _)) hm hfr how
set_option maxRecDepth 100000 in
set_option maxHeartbeats 4000000 in
theorem sym_new {x : Xp} (h1 : x.op ≠ 1) (h2 : x.op ≠ 2) (h3 : x.op ≠ 3) (hg : GrowOK N T x) : SymOK N T x := by
  intro r vn vt s q X df va w h hx hb hs
  have hxx := hx
  obtain ⟨u, rfl, hf⟩ := hxx
  obtain ⟨hl, ao, cap, rfl, hin⟩ := hf
  obtain ⟨V, hV⟩ : ∃ V, V = w.alloc (.cells #[.int .i64 x.op, .string x.nm, .slice ao x.kids.len cap] 64) := ⟨_, rfl⟩
  have hVb : Below w.heap.size w V := by rw [hV]; exact G.al1 _ _
  have GA := hg r vn vt s q X df _ V (h.lw hVb) (hx.mono fun _ _ _ hs h => ⟨hs, bkeep hVb h⟩) hb hs
  have hV0 : V.cell? ⟨w.heap.size, 0, none⟩ = some (.int .i64 x.op) := by rw [hV]; simp
  have hV1 : V.cell? ⟨w.heap.size, 1, none⟩ = some (.string x.nm) := by rw [hV]; simp
  have hV2 : V.cell? ⟨w.heap.size, 2, none⟩ = some (.slice ao x.kids.len cap) := by rw [hV]; simp
  have b1 : (x.op == 1) = false := by simpa using h1
  have b2 : (x.op == 2) = false := by simpa using h2
  have b3 : (x.op == 3) = false := by simpa using h3
  have fV : Fm r q w V := Fm.of_below hVb
  generalize x.sy N T s = R at *
  obtain ⟨L, s'⟩ := R
  simp only at GA ⊢
  clear hx
  go_enter Try.func96, Try.ntmps96
  go_wp2_with fail
  rw [← hV]
  refine GA.mono ?_
  rintro e w1 h1
  cases hb' : s'.bad with
  | true =>
    obtain ⟨rfl, g1, g2, g3⟩ := (h1.no hb').pre fV (.inl rfl)
    go_wp2_with fail
    exact ⟨rfl, OutM_no hb' ⟨rfl, g1, g2, g3⟩⟩
  | false =>
    obtain ⟨v1, q1, rfl, ⟨rfl, hL⟩, hm1, hf1, ow1⟩ := h1.yes hb'
    subst hL
    have f1 : Fm r q w w1 := fV.trans hf1 (.inl rfl)
    have z1 := f1.size
    have zV := hVb.size
    have own := owns_one w1 (s.vars : Int) w.heap.size z1
    go_wp2_with fail
    go_ret
    exact OutM_yes own (hm1.open_ (G.al1 _ _) (fun k e => ⟨by simp [Value.ownBlock] at e; omega, (own.lt k e).2⟩)) (f1.thenB (G.al1 _ _)) (Own.trans (.inl rfl) ow1 zV)
/-- Whatever the expression: its symbols, and those of each way of it. -/
theorem sym_head (x : Xp) (ih : ∀ i, i < x.kids.len → SymOK N T (x.kids.at_ i) ∧ ∀ j, j < (x.kids.at_ i).ways.len → SymOK N T ((x.kids.at_ i).ways.at_ j)) : SymOK N T x ∧ ∀ j, j < x.ways.len → SymOK N T (x.ways.at_ j) := by
  have hs : SymOK N T x := by
    by_cases h1 : x.op = 1
    · exact sym_leaf (.inl h1)
    by_cases h2 : x.op = 2
    · exact sym_leaf (.inr h2)
    by_cases h3 : x.op = 3
    · exact sym_row h3 fun i hi => (ih i hi).1
    · exact sym_new h1 h2 h3 (grow_head h1 h2 h3 (fun i hi => (ih i hi).2) fun h4 i hi => by
        unfold Xp.ways at hi ⊢
        rw [if_pos h4] at hi ⊢
        exact (ih i hi).1)
  refine ⟨hs, fun j hj => ?_⟩
  unfold Xp.ways at hj ⊢
  split at hj
  · rename_i h4
    rw [if_pos h4]
    exact (ih j hj).1
  · rename_i h4
    rw [if_neg h4]
    obtain rfl : j = 0 := by simpa [Fo.len] using hj
    exact hs
theorem sym_all : ∀ (f : Fo) (i : Nat), i < f.len → SymOK N T (f.at_ i) ∧ ∀ j, j < (f.at_ i).ways.len → SymOK N T ((f.at_ i).ways.at_ j)
  | .nil, _, h => absurd h (Nat.not_lt_zero _)
  | .cons op nm kids rest, 0, _ => sym_head ⟨op, nm, kids⟩ (sym_all kids)
  | .cons _ _ _ rest, i + 1, h => sym_all rest i (by simpa [Fo.len] using h)
theorem sym_any (x : Xp) : SymOK N T x ∧ ∀ j, j < x.ways.len → SymOK N T (x.ways.at_ j) := sym_head x (sym_all x.kids)
end
end Go.Proofs.Ytghplmldnkcpnac

/- The document's way from definitions to a grammar: the symbols of an expression. -/
namespace Go.Proofs.Ytghplmldnkcpnac
open Go.RowKit G
section
variable {N T : List ByteArray} {w w' : World} {r : Nat} {vn vt : Value} {s : Sp} {q : Option Nat} {X : Nat → Prop}
theorem SdS.more (h : SdS w r vn vt N T s q X) (hv : ¬ 64 ≤ s.vars) : SdS (w.setCell ⟨r, 2, none⟩ (.int .i64 ((s.vars : Int) + 1))) r vn vt N T s.more q X := by
  have e : (s.vars : Int) + 1 = ((s.vars + 1 : Nat) : Int) := by omega
  rw [e]
  exact ⟨h.st.setVars (n := s.vars + 1) (by omega), by rw [World.cell?_setCell_other _ _ _ _ (by simp)]; exact h.c4⟩
end
end Go.Proofs.Ytghplmldnkcpnac

/- Names of a kind, in the document's way; the names of definitions, both ways. -/
namespace Go.Proofs.Ytghplmldnkcpnac
open Go.RowKit
theorem Try.infoStr : (Try.prog.info? 9).map (fun i => (i.zero, i.size, i.bytes)) = some (some (.string ⟨#[]⟩), 1, 16) := by kernel_rfl
theorem oneSs (l : List ByteArray) : ∀ u ∈ l.map Value.string, u.oneCell' = true := by
  intro u hu
  obtain ⟨s, _, rfl⟩ := List.mem_map.1 hu
  rfl
theorem cell_one_at (w : World) (x : Value) (t : TypeId) {n : Nat} (hn : n = w.heap.size) : ∀ j u, [x][j]? = some u → (w.alloc (.cells #[x] t)).cell? ((⟨n, 0, none⟩ : Addr).add j) = some u := by
  subst hn; exact cell_one_new w x t
set_option maxRecDepth 100000 in
set_option maxHeartbeats 8000000 in
theorem namesOf_any (ds : List Df) (va : Value) (w : World) (hx : DsV w All va ds) (h60 : ds.length ≤ 60) :
    Calls Try.prog 29 #[.agg #[va]] w fun e w' => ∃ v, e = .returned v ∧ w'.ownsRow w.heap.size 9 1 v (nms ds).length ((nms ds).map .string) ∧ Below w.heap.size w w' := by
  obtain ⟨i0, hi, iz0, iz1, iz2⟩ := info_parts Try.infoStr
  obtain ⟨hl, ao, cap, rfl, hin⟩ := hx
  have HNL := nms_len ds
  obtain ⟨W, hW⟩ : ∃ W, W = w.alloc (.cells #[.slice ao ds.length cap] 42) := ⟨_, rfl⟩
  have hWz : W.heap.size = w.heap.size + 1 := by rw [hW]; simp
  have hWb : Below w.heap.size w W := by rw [hW]; exact al1 _ _
  have hW0 : W.cell? ⟨w.heap.size, 0, none⟩ = some (.slice ao ds.length cap) := by rw [hW]; simp
  go_enter Try.func29, Try.ntmps29
  go_wp2_with fail
  rw [← hW]
  have HW := hd hW
  clear hW
  go_loopw [3, 4] (fun v i wr => ∃ (k : Nat) (acc : List ByteArray), k ≤ ds.length ∧ i = .int .i64 k ∧ Hid (acc = (nms ds).take k) ∧ Hid (acc.length = k) ∧ wr.ownsRow (w.heap.size + 1) 9 1 v acc.length (acc.map .string) ∧ Below W.heap.size W wr) (fun _ i _ => ds.length - (intOf i).toNat)
  case atStart => exact ⟨0, [], Nat.zero_le _, rfl, hd (by simp), hd rfl, World.ownsRow_nil _ _ _ _, Below.refl _ _⟩
  case round =>
    obtain ⟨k, acc, hk, rfl, hacc, hal, hown, hb⟩ := hrel
    have hz := hb.size
    have bel : Below w.heap.size w wr := hWb.trans (hb.mono (by omega))
    have s2 : wr.cell? ⟨w.heap.size, 0, none⟩ = some (.slice ao ds.length cap) := bkeep hb hW0
    by_cases hlt : k < ds.length
    · obtain h0 | ⟨ba, oa, rfl, hia⟩ := hin
      · omega
      have kA : ∀ b o v, All b → w.cell? ⟨b, o, none⟩ = some v → All b ∧ wr.cell? ⟨b, o, none⟩ = some v := keep_cell (fun _ _ h => h) (Kp.of_below bel).block
      obtain ⟨an, aa, ax⟩ := (hia.mono kA).at_ k hlt
      obtain ⟨ua, a0, a1, a2, hxa⟩ := ax.xv
      have hacc' : Hid (acc ++ [ds[k].nm] = (nms ds).take (k + 1)) := hd (by rw [hacc.out, List.take_succ_eq_append_getElem (by omega)]; simp [nms])
      generalize ds[k] = dk at *
      obtain ⟨aov, capv, rfl⟩ := owns_slice hown
      clear hacc
      have hxa' := hxa
      obtain ⟨_, e, _, aoa', capa', rfl, _⟩ := hxa'
      simp at e; subst e
      go_wp2_with (first | (at_builtin; go_must (refine wpList_append_own _ rfl _ _ 45 rfl (w.heap.size + 1) 9 i0 (.string ⟨#[]⟩) 1 16 Try.underlying45 hi iz0 iz1 iz2 rfl (by decide) _ _ _ rfl (hown.alloc _) ⟨wr.heap.size, 0, none⟩ 1 1 [.string dk.nm] rfl rfl (cell_one_at _ _ _ (by simp)) (oneSs [dk.nm]) (by have := hal.out; unfold maxLen; omega) (by have := hal.out; omega) (by simp <;> omega) ?_)))
      intro v1 W1 own1 grow1 _
      go_wp2_with fail
      go_roundw
      case rel => exact ⟨k + 1, acc ++ [dk.nm], by omega, by go_num, hacc', by simp; omega, by simpa using own1, (hb.alloc hz _).grown grow1 (by simp <;> omega) (fun j hj => by have := (hown.lt j hj).1; omega)⟩
      case measure => simp [intOf]; omega
    · have he : acc = nms ds := by rw [hacc.out, List.take_of_length_le (by omega)]
      rw [he] at hown
      clear hacc hal
      go_wp2_with fail
      go_ret
      exact ⟨_, rfl, owns_mono hown (by omega), bel⟩
set_option maxRecDepth 100000 in
set_option maxHeartbeats 8000000 in
theorem names_any (ds : List Df) (va : Value) (w : World) (hx : DsV w All va ds) (h60 : ds.length ≤ 60) :
    Calls Try.prog 61 #[.agg #[va]] w fun e w' => ∃ v, e = .returned v ∧ w'.ownsRow w.heap.size 9 1 v (nms ds).length ((nms ds).map .string) ∧ Below w.heap.size w w' := by
  obtain ⟨i0, hi, iz0, iz1, iz2⟩ := info_parts Try.infoStr
  obtain ⟨hl, ao, cap, rfl, hin⟩ := hx
  have HNL := nms_len ds
  obtain ⟨W, hW⟩ : ∃ W, W = w.alloc (.cells #[.slice ao ds.length cap] 42) := ⟨_, rfl⟩
  have hWz : W.heap.size = w.heap.size + 1 := by rw [hW]; simp
  have hWb : Below w.heap.size w W := by rw [hW]; exact al1 _ _
  have hW0 : W.cell? ⟨w.heap.size, 0, none⟩ = some (.slice ao ds.length cap) := by rw [hW]; simp
  go_enter Try.func61, Try.ntmps61
  go_wp2_with fail
  rw [← hW]
  have HW := hd hW
  clear hW
  go_loopw [3, 9] (fun v i wr => ∃ (k : Nat) (acc : List ByteArray), k ≤ ds.length ∧ i = .int .i64 k ∧ Hid (acc = (nms ds).take k) ∧ Hid (acc.length = k) ∧ wr.ownsRow (w.heap.size + 1) 9 1 v acc.length (acc.map .string) ∧ Below W.heap.size W wr) (fun _ i _ => ds.length - (intOf i).toNat)
  case atStart => exact ⟨0, [], Nat.zero_le _, rfl, hd (by simp), hd rfl, World.ownsRow_nil _ _ _ _, Below.refl _ _⟩
  case round =>
    obtain ⟨k, acc, hk, rfl, hacc, hal, hown, hb⟩ := hrel
    have hz := hb.size
    have bel : Below w.heap.size w wr := hWb.trans (hb.mono (by omega))
    have s2 : wr.cell? ⟨w.heap.size, 0, none⟩ = some (.slice ao ds.length cap) := bkeep hb hW0
    by_cases hlt : k < ds.length
    · obtain h0 | ⟨ba, oa, rfl, hia⟩ := hin
      · omega
      have kA : ∀ b o v, All b → w.cell? ⟨b, o, none⟩ = some v → All b ∧ wr.cell? ⟨b, o, none⟩ = some v := keep_cell (fun _ _ h => h) (Kp.of_below bel).block
      obtain ⟨an, aa, ax⟩ := (hia.mono kA).at_ k hlt
      obtain ⟨ua, a0, a1, a2, hxa⟩ := ax.xv
      have hacc' : Hid (acc ++ [ds[k].nm] = (nms ds).take (k + 1)) := hd (by rw [hacc.out, List.take_succ_eq_append_getElem (by omega)]; simp [nms])
      generalize ds[k] = dk at *
      obtain ⟨aov, capv, rfl⟩ := owns_slice hown
      clear hacc
      have hxa' := hxa
      obtain ⟨_, e, _, aoa', capa', rfl, _⟩ := hxa'
      simp at e; subst e
      go_wp2_with (first | (at_builtin; go_must (refine wpList_append_own _ rfl _ _ 45 rfl (w.heap.size + 1) 9 i0 (.string ⟨#[]⟩) 1 16 Try.underlying45 hi iz0 iz1 iz2 rfl (by decide) _ _ _ rfl ((hown.alloc _).alloc _) ⟨wr.heap.size + 1, 0, none⟩ 1 1 [.string dk.nm] rfl rfl (cell_one_at _ _ _ (by simp)) (oneSs [dk.nm]) (by have := hal.out; unfold maxLen; omega) (by have := hal.out; omega) (by simp <;> omega) ?_)))
      intro v1 W1 own1 grow1 _
      go_wp2_with fail
      go_roundw
      case rel => exact ⟨k + 1, acc ++ [dk.nm], by omega, by go_num, hacc', by simp; omega, by simpa using own1, ((hb.alloc hz _).alloc (by simp <;> omega) _).grown grow1 (by simp <;> omega) (fun j hj => by have := (hown.lt j hj).1; omega)⟩
      case measure => simp [intOf]; omega
    · have he : acc = nms ds := by rw [hacc.out, List.take_of_length_le (by omega)]
      rw [he] at hown
      clear hacc hal
      go_wp2_with fail
      go_ret
      exact ⟨_, rfl, owns_mono hown (by omega), bel⟩
end Go.Proofs.Ytghplmldnkcpnac

/- The terminals of definitions, in the document's way. -/
namespace Go.Proofs.Ytghplmldnkcpnac
open Go.RowKit
theorem SsV.at_ {w : World} {ao : Option Addr} {n cap : Nat} {l : List ByteArray} (h : SsV w (.slice ao n cap) l) {k : Nat} (hk : k < l.length) : ∃ b o, ao = some ⟨b, o, none⟩ ∧ w.cell? ⟨b, o + k, none⟩ = some (.string l[k]) := by
  obtain ⟨_, ao', cap', e, _, h0 | ⟨b, o, e2, hc⟩⟩ := h
  · omega
  · simp at e
    exact ⟨b, o, by rw [e.1, e2], hc k hk⟩
theorem drop_flat {ds : List Df} {k : Nat} (h : k < ds.length) : (ds.drop k).flatMap Df.trm = ds[k].e.nmd 1 ++ (ds.drop (k + 1)).flatMap Df.trm := by
  rw [List.drop_eq_getElem_cons h, List.flatMap_cons]; rfl
end Go.Proofs.Ytghplmldnkcpnac

/- What is wrong with definitions, in the document's way. -/
namespace Go.Proofs.Ytghplmldnkcpnac
open Go.RowKit
theorem SsV.cap {w : World} {ao : Option Addr} {n cap : Nat} {l : List ByteArray} (h : SsV w (.slice ao n cap) l) : l.length ≤ cap := by
  obtain ⟨_, ao', cap', e, h3, _⟩ := h
  simp at e
  omega
theorem drw1 (w : World) : Below w.heap.size w w.drew := ⟨rfl, rfl, rfl, Nat.le_refl _, fun _ _ => rfl⟩
end Go.Proofs.Ytghplmldnkcpnac

/- Names that come twice, names that have no definition: the program's way. -/
namespace Go.Proofs.Ytghplmldnkcpnac
open Go.RowKit
set_option maxRecDepth 100000 in
set_option maxHeartbeats 4000000 in
theorem firstTwice_any (l : List ByteArray) (v : Value) (w : World) (h : SsV w v l) :
    Calls Try.prog 90 #[v] w fun e w' => e = .returned (.int .i64 (fstI (isTw l) l.length)) ∧ w' = w := by
  obtain ⟨ao, cap, rfl⟩ := h.slice
  have hcp := h.cap
  have hl := h.1
  go_enter Try.func90, Try.ntmps90
  go_wp2_with fail
  go_loopw [7] (fun i wr => ∃ k : Nat, k ≤ l.length ∧ i = .int .i64 k ∧ wr = w ∧ Hid (∀ j, j < k → isTw l j = false)) (fun i _ => l.length - (intOf i).toNat)
  case atStart => exact ⟨0, Nat.zero_le _, rfl, rfl, hd (fun j hj => absurd hj (Nat.not_lt_zero _))⟩
  case round =>
    obtain ⟨k, hk, rfl, rfl, hall⟩ := hrel
    by_cases hlt : k < l.length
    · obtain ⟨b, o, rfl, cL⟩ := h.at_ hlt
      have st := h.take (k := k) hk
      have hit := isTw_lt hlt
      generalize l[k] = t at *
      have CO := contains_any (l.take k) t (.slice (some ⟨b, o, none⟩) k cap) wr st
      generalize inB t (l.take k) = q at *
      have hck : k ≤ cap := by omega
      have HLT := hd hlt
      have HIT := hd hit
      clear st hit
      cases q with
      | true =>
        go_wp2_with (go_at_call 112; refine CO.mono ?_; rintro e wx ⟨rfl, hwx⟩; obtain rfl := hwx.symm)
        go_ret
        exact ⟨by rw [fstI_hit (k := k) HIT.out hall.out HLT.out]; rfl, rfl⟩
      | false =>
        go_wp2_with (go_at_call 112; refine CO.mono ?_; rintro e wx ⟨rfl, hwx⟩; obtain rfl := hwx.symm)
        go_roundw
        case rel => exact ⟨k + 1, by omega, by go_num, trivial, hd (fun j hj => by
          by_cases e : j = k
          · subst e; exact HIT.out
          · exact hall.out j (by omega))⟩
        case measure => simp [intOf]; omega
    · go_wp2_with fail
      go_ret
      exact ⟨by rw [fstI_none (fun j hj => hall.out j (by omega))]; rfl, rfl⟩
/-- Is the name there that it speaks of? -/
def okX (l : List ByteArray) (op : Int) (nm : ByteArray) : Bool := if op = 2 then inB nm l else true
theorem okN_x (l : List ByteArray) (x : Xp) : okN l (x.nmd 2) = (okX l x.op x.nm && okN l (x.kids.nmd 2)) := by
  unfold Xp.nmd okX
  rw [okN_app]
  split <;> simp [okN]
set_option maxRecDepth 100000 in
set_option maxHeartbeats 4000000 in
theorem known_any (l : List ByteArray) (vN : Value) (bn : Nat) (op : Int) (nm : ByteArray) (ao : Option Addr) (n cap : Nat) (w : World) (hc : w.cell? ⟨bn, 0, none⟩ = some vN) (hs : SsV w vN l) :
    Calls Try.prog 113 #[.agg #[.int .i64 op, .string nm, .slice ao n cap], .pointer (some ⟨bn, 0, none⟩)] w fun e w' => e = .returned (.bool (okX l op nm)) ∧ Below w.heap.size w w' := by
  have CO := contains_any l nm vN (w.alloc (.cells #[.int .i64 op, .string nm, .slice ao n cap] 64)) (hs.below (al1 _ _))
  have hc' := alcell hc (.cells #[.int .i64 op, .string nm, .slice ao n cap] 64)
  obtain ⟨aoN, capN, rfl⟩ := hs.slice
  clear hs
  by_cases h2 : op = 2
  · subst h2
    rw [okX, if_pos rfl]
    generalize inB nm l = q at *
    go_enter Try.func113, Try.ntmps113
    go_wp2_with (go_at_call 112; refine CO.mono ?_; rintro e wx ⟨rfl, hwx⟩; obtain rfl := hwx.symm)
    go_ret
    exact ⟨rfl, al1 _ _⟩
  · rw [okX, if_neg h2]
    have hb : (op != 2) = true := by simpa using h2
    go_enter Try.func113, Try.ntmps113
    go_wp2_with fail
    go_ret
    exact ⟨rfl, al1 _ _⟩
def HkOK (x : Xp) : Prop := ∀ (l : List ByteArray) (vN : Value) (bn : Nat) (va : Value) (w : World), XV w All va x → w.cell? ⟨bn, 0, none⟩ = some vN → SsV w vN l →
  Calls Try.prog 93 #[va, .func (.func 113) #[] #[.pointer (some ⟨bn, 0, none⟩)]] w fun e w' => e = .returned (.bool (okN l (x.nmd 2))) ∧ Below w.heap.size w w'
set_option maxRecDepth 100000 in
set_option maxHeartbeats 8000000 in
theorem hk_head (x : Xp) (ih : ∀ i, i < x.kids.len → HkOK (x.kids.at_ i)) : HkOK x := by
  intro l vN bn va w hx hc hs
  obtain ⟨u, rfl, hl, ao, cap, rfl, hin⟩ := hx
  obtain ⟨W, hW⟩ : ∃ W, W = w.alloc (.cells #[.int .i64 x.op, .string x.nm, .slice ao x.kids.len cap] 64) := ⟨_, rfl⟩
  have hWz : W.heap.size = w.heap.size + 1 := by rw [hW]; simp
  have hWb : Below w.heap.size w W := by rw [hW]; exact al1 _ _
  have hW2 : W.cell? ⟨w.heap.size, 2, none⟩ = some (.slice ao x.kids.len cap) := by rw [hW]; simp
  have KN := fun w' (hb : Below w.heap.size w w') => known_any l vN bn x.op x.nm ao x.kids.len cap w' (bkeep hb hc) (hs.below hb)
  have hok := okN_x l x
  generalize okN l (x.nmd 2) = R at *
  generalize okX l x.op x.nm = q at *
  cases q with
  | false =>
    have hR : R = false := by rw [hok]; rfl
    subst hR
    clear hok
    go_enter Try.func93, Try.ntmps93
    go_wp2_with fail
    rw [← hW]
    refine (KN _ hWb).mono ?_
    rintro e w1 ⟨rfl, hb1⟩
    go_wp2_with fail
    go_ret
    exact ⟨rfl, hWb.trans (hb1.mono hWb.size)⟩
  | true =>
    rw [Bool.true_and] at hok
    have HOK := hd hok
    clear hok
    go_enter Try.func93, Try.ntmps93
    go_wp2_with fail
    rw [← hW]
    refine (KN _ hWb).mono ?_
    rintro e w1 ⟨rfl, hb1⟩
    have HW := hd hW
    clear hW KN
    have bel1 : Below w.heap.size w w1 := hWb.trans (hb1.mono hWb.size)
    have z1 := bel1.size
    have c2 := bkeep hb1 hW2
    clear hb1 hWb hW2
    go_wp2_with fail
    go_loopw [14] (fun i wr => ∃ k : Nat, k ≤ x.kids.len ∧ i = .int .i64 k ∧ Hid (R = okN l ((x.kids.drp k).nmd 2)) ∧ Below w1.heap.size w1 wr) (fun i _ => x.kids.len - (intOf i).toNat)
    case atStart => exact ⟨0, Nat.zero_le _, rfl, hd (by rw [Fo.drp_zero]; exact HOK.out), Below.refl _ _⟩
    case round =>
      obtain ⟨k, hk, rfl, hall, hb⟩ := hrel
      have bel : Below w.heap.size w wr := bel1.trans (hb.mono z1)
      by_cases hlt : k < x.kids.len
      · obtain h0 | ⟨ba, oa, rfl, hia⟩ := hin
        · omega
        have kA : ∀ b o v, All b → w.cell? ⟨b, o, none⟩ = some v → All b ∧ wr.cell? ⟨b, o, none⟩ = some v := keep_cell (fun _ _ h => h) (Kp.of_below bel).block
        obtain ⟨ua, a0, a1, a2, hxa⟩ := ((hia.mono kA).at_ k hlt).xv
        have hxa' := hxa
        obtain ⟨_, e, _, aoa', capa', rfl, _⟩ := hxa'
        simp at e; subst e
        have IH := fun w' hx hc hs => ih k hlt l vN bn (.agg #[.int .i64 (x.kids.at_ k).op, .string (x.kids.at_ k).nm, .slice aoa' (x.kids.at_ k).kids.len capa']) w' hx hc hs
        have hnx : Hid (R = (okN l ((x.kids.at_ k).nmd 2) && okN l ((x.kids.drp (k + 1)).nmd 2))) := hd (by rw [hall.out, Fo.nmd_at 2 hlt, okN_app])
        generalize okN l ((x.kids.at_ k).nmd 2) = q at *
        generalize x.kids.at_ k = xk at *
        obtain ⟨U, hU⟩ : ∃ U, U = wr.alloc (.cells #[.int .i64 xk.op, .string xk.nm, .slice aoa' xk.kids.len capa'] 64) := ⟨_, rfl⟩
        have hUb : Below wr.heap.size wr U := by rw [hU]; exact al1 _ _
        have bU : Below w.heap.size w U := bel.trans (hUb.mono bel.size)
        have CA := IH U (hxa.below hUb) (bkeep bU hc) (hs.below bU)
        clear hall IH kA
        cases q with
        | false =>
          have hR : R = false := by rw [hnx.out]; rfl
          go_wp2_with fail
          rw [← hU]
          refine CA.mono ?_
          rintro e w2 ⟨rfl, hb2⟩
          go_wp2_with fail
          go_ret
          exact ⟨by rw [hR]; rfl, bU.trans (hb2.mono bU.size)⟩
        | true =>
          go_wp2_with fail
          rw [← hU]
          refine CA.mono ?_
          rintro e w2 ⟨rfl, hb2⟩
          have HU := hd hU
          clear hU
          go_wp2_with fail
          go_roundw
          case rel => exact ⟨k + 1, by omega, by go_num, hd (by rw [hnx.out, Bool.true_and]), hb.trans ((hUb.trans (hb2.mono hUb.size)).mono hb.size)⟩
          case measure => simp [intOf]; omega
      · have hR : R = true := by rw [hall.out, Fo.nmd_end 2 (by omega)]; rfl
        go_wp2_with fail
        go_ret
        exact ⟨by rw [hR]; rfl, bel⟩
theorem hk_all : ∀ (f : Fo) (i : Nat), i < f.len → HkOK (f.at_ i)
  | .nil, _, h => absurd h (Nat.not_lt_zero _)
  | .cons op nm kids rest, 0, _ => hk_head ⟨op, nm, kids⟩ (hk_all kids)
  | .cons _ _ _ rest, i + 1, h => hk_all rest i (by simpa [Fo.len] using h)
theorem hk_any (x : Xp) : HkOK x := hk_head x (hk_all x.kids)
end Go.Proofs.Ytghplmldnkcpnac

/- The first definition that speaks of one that is not there: the program's way. -/
namespace Go.Proofs.Ytghplmldnkcpnac
open Go.RowKit
set_option maxRecDepth 100000 in
set_option maxHeartbeats 4000000 in
theorem opens_any (l : List ByteArray) (vN : Value) (bn bk : Nat) (d : Df) (ao : Option Addr) (cap : Nat) (w : World) (hx : XV w All (.agg #[.int .i64 d.e.op, .string d.e.nm, .slice ao d.e.kids.len cap]) d.e) (hc : w.cell? ⟨bn, 0, none⟩ = some vN) (hs : SsV w vN l)
    (hf : w.cell? ⟨bk, 0, none⟩ = some (.func (.func 113) #[] #[.pointer (some ⟨bn, 0, none⟩)])) :
    Calls Try.prog 115 #[.agg #[.string d.nm, .int .i64 d.at_, .int .i64 d.e.op, .string d.e.nm, .slice ao d.e.kids.len cap], .pointer (some ⟨bk, 0, none⟩)] w fun e w' => e = .returned (.bool (!okN l (d.e.nmd 2))) ∧ Below w.heap.size w w' := by
  obtain ⟨W, hW⟩ : ∃ W, W = w.alloc (.cells #[.string d.nm, .int .i64 d.at_, .int .i64 d.e.op, .string d.e.nm, .slice ao d.e.kids.len cap] 66) := ⟨_, rfl⟩
  have hWb : Below w.heap.size w W := by rw [hW]; exact al1 _ _
  have HK := hk_any d.e l vN bn _ W (hx.below hWb) (bkeep hWb hc) (hs.below hWb)
  have hf' := alcell hf (.cells #[.string d.nm, .int .i64 d.at_, .int .i64 d.e.op, .string d.e.nm, .slice ao d.e.kids.len cap] 66)
  generalize okN l (d.e.nmd 2) = q at *
  clear hc hs hx hf
  go_enter Try.func115, Try.ntmps115
  go_wp2_with fail
  rw [← hW]
  refine HK.mono ?_
  rintro e w1 ⟨rfl, hb1⟩
  go_wp2_with fail
  go_ret
  exact ⟨rfl, hWb.trans (hb1.mono hWb.size)⟩
set_option maxRecDepth 100000 in
set_option maxHeartbeats 4000000 in
theorem indexFunc_any (ds : List Df) (l : List ByteArray) (va vN : Value) (bn bk : Nat) (w : World) (hx : DsV w All va ds) (hc : w.cell? ⟨bn, 0, none⟩ = some vN) (hs : SsV w vN l)
    (hf : w.cell? ⟨bk, 0, none⟩ = some (.func (.func 113) #[] #[.pointer (some ⟨bn, 0, none⟩)])) :
    Calls Try.prog 114 #[va, .func (.func 115) #[] #[.pointer (some ⟨bk, 0, none⟩)]] w fun e w' => e = .returned (.int .i64 (fstI (isOp l ds) ds.length)) ∧ Below w.heap.size w w' := by
  obtain ⟨hl, ao, cap, rfl, hin⟩ := hx
  go_enter Try.func114, Try.ntmps114
  go_wp2_with fail
  go_loopw [8] (fun i wr => ∃ k : Nat, k ≤ ds.length ∧ i = .int .i64 k ∧ Hid (∀ j, j < k → isOp l ds j = false) ∧ Below w.heap.size w wr) (fun i _ => ds.length - (intOf i).toNat)
  case atStart => exact ⟨0, Nat.zero_le _, rfl, hd (fun j hj => absurd hj (Nat.not_lt_zero _)), Below.refl _ _⟩
  case round =>
    obtain ⟨k, hk, rfl, hall, hb⟩ := hrel
    by_cases hlt : k < ds.length
    · obtain h0 | ⟨ba, oa, rfl, hia⟩ := hin
      · omega
      have kA : ∀ b o v, All b → w.cell? ⟨b, o, none⟩ = some v → All b ∧ wr.cell? ⟨b, o, none⟩ = some v := keep_cell (fun _ _ h => h) (Kp.of_below hb).block
      obtain ⟨an, aa, ax⟩ := (hia.mono kA).at_ k hlt
      obtain ⟨ua, a0, a1, a2, hxa⟩ := ax.xv
      have hio := isOp_lt (names := l) hlt
      generalize ds[k] = dk at *
      have hxa' := hxa
      obtain ⟨_, e, _, aoa', capa', rfl, _⟩ := hxa'
      simp at e; subst e
      have OA := opens_any l vN bn bk dk aoa' capa' wr hxa (bkeep hb hc) (hs.below hb) (bkeep hb hf)
      have HIO := hd hio
      have HLT := hd hlt
      clear hio kA ax
      generalize okN l (dk.e.nmd 2) = q at *
      cases q with
      | false =>
        go_wp2_with fail
        refine OA.mono ?_
        rintro e w1 ⟨rfl, hb1⟩
        go_wp2_with fail
        go_ret
        exact ⟨by rw [fstI_hit (k := k) HIO.out hall.out HLT.out]; rfl, hb.trans (hb1.mono hb.size)⟩
      | true =>
        go_wp2_with fail
        refine OA.mono ?_
        rintro e w1 ⟨rfl, hb1⟩
        go_wp2_with fail
        go_roundw
        case rel => exact ⟨k + 1, by omega, by go_num, hd (fun j hj => by
          by_cases e : j = k
          · subst e; exact HIO.out
          · exact hall.out j (by omega)), hb.trans (hb1.mono hb.size)⟩
        case measure => simp [intOf]; omega
    · go_wp2_with fail
      go_ret
      exact ⟨by rw [fstI_none (fun j hj => hall.out j (by omega))]; rfl, hb⟩
set_option maxRecDepth 100000 in
set_option maxHeartbeats 4000000 in
theorem firstOpen_any (ds : List Df) (l : List ByteArray) (va vN : Value) (w : World) (hx : DsV w All va ds) (hs : SsV w vN l) :
    Calls Try.prog 91 #[va, vN] w fun e w' => e = .returned (.int .i64 (fstI (isOp l ds) ds.length)) ∧ Below w.heap.size w w' := by
  obtain ⟨aoN, capN, rfl⟩ := hs.slice
  obtain ⟨W, hW⟩ : ∃ W, W = (w.alloc (.cells #[.slice aoN l.length capN] 45)).alloc (.cells #[.func (.func 113) #[] #[.pointer (some ⟨w.heap.size, 0, none⟩)]] 119) := ⟨_, rfl⟩
  have hWb : Below w.heap.size w W := by rw [hW]; exact al2 _ _ _
  have hW0 : W.cell? ⟨w.heap.size, 0, none⟩ = some (.slice aoN l.length capN) := by rw [hW]; simp
  have hW1 : W.cell? ⟨w.heap.size + 1, 0, none⟩ = some (.func (.func 113) #[] #[.pointer (some ⟨w.heap.size, 0, none⟩)]) := by rw [hW]; simp
  have IA := indexFunc_any ds l va _ w.heap.size (w.heap.size + 1) W (hx.kp (Kp.of_below hWb) (fun _ _ h => h)) hW0 (hs.below hWb) hW1
  generalize fstI (isOp l ds) ds.length = r at *
  obtain ⟨hl, ao, cap, rfl, hin⟩ := hx
  clear hs hin
  go_enter Try.func91, Try.ntmps91
  go_wp2_with fail
  rw [← hW]
  refine IA.mono ?_
  rintro e w1 ⟨rfl, hb1⟩
  go_wp2_with fail
  go_ret
  exact ⟨rfl, hWb.trans (hb1.mono hWb.size)⟩
end Go.Proofs.Ytghplmldnkcpnac

/- The terminals of definitions: the program's way. -/
namespace Go.Proofs.Ytghplmldnkcpnac
open Go.RowKit Go.Maps Go.WideMaps
def lits (acc : List ByteArray) : List Lit := acc.map fun s => .string s.data.toList
/-- The set of what has been seen. -/
def stD (acc : List ByteArray) : DataW Unit := setOf (.agg []) (lits acc)
theorem stD_snoc (acc : List ByteArray) (s : ByteArray) : stD (acc ++ [s]) = (stD acc).put (.string s.data.toList) (.agg []) := by
  unfold stD lits
  rw [List.map_append, List.map_singleton, setOf_snoc]
theorem any_str (x : ByteArray) : ∀ l : List ByteArray, (lits l).any (fun y => y.sameKey (.string x.data.toList)) = inB x l
  | [] => rfl
  | a :: r => by
    have ih := any_str x r
    unfold lits at ih ⊢
    rw [List.map_cons, List.any_cons, ih, inB]
    congr 1
    rw [Bool.eq_iff_iff, WideAt.sameKey_iff (b := Lit.string x.data.toList) trivial, decide_eq_true_iff]
    constructor
    · intro h
      have h1 : a.data.toList = x.data.toList := by simpa using h
      have h2 : a.data = x.data := Array.ext' h1
      cases a; cases x; simp at h2; rw [h2]
    · intro h; rw [h]
theorem has_stD (acc : List ByteArray) (s : ByteArray) : Maps.has (stD acc) (.string s.data.toList) = inB s acc := by
  unfold stD
  rw [has_setOf _ _ _ (fun y hy => by obtain ⟨_, _, rfl⟩ := List.mem_map.1 hy; trivial)]
  exact any_str s acc
theorem lawS : Keyed Try.prog 9 := string_keyed Try.underlying9
theorem zeroU (w : World) : (zeroValue 123).run Try.prog w = .ok (.agg #[]) w := by kernel_rfl
/-- What the closure has at hand: the list, the set, their variables. -/
structure LkS (w : World) (B : Nat) (acc : List ByteArray) : Prop where
  sz : B + 3 ≤ w.heap.size
  cs : w.cell? ⟨B + 2, 0, none⟩ = some (.map (some (B + 1)))
  mp : w.ownsMap Try.prog 9 unitElem (B + 1) acc.length (stD acc)
  ct : ∃ v, w.cell? ⟨B, 0, none⟩ = some v ∧ w.ownsRow (B + 3) 9 1 v acc.length (acc.map .string)
  ft : w.frozen? ⟨B, 0, none⟩ = false
theorem grown_of_below {w w' : World} (hb : Below w.heap.size w w') : w.grownBy w' none := ⟨hb.os, hb.tape, hb.output, hb.size, fun k hk _ => hb.block k hk⟩
theorem LkS.below {w w' : World} {B : Nat} {acc : List ByteArray} (h : LkS w B acc) (hb : Below w.heap.size w w') : LkS w' B acc := by
  obtain ⟨v, h1, h2⟩ := h.ct
  exact ⟨Nat.le_trans h.sz hb.size, bkeep hb h.cs, h.mp.kept (grown_of_below hb) (by simp), ⟨v, bkeep hb h1, owns_below h2 hb⟩,
    (World.frozen?_of_block (w := w) (a := ⟨B, 0, none⟩) (hb.block B (lt_of_cell h1))).trans h.ft⟩
/-- All that is neither the list nor the set is as it was. -/
def Ls (B : Nat) (w w' : World) : Prop := ∀ k, k < w.heap.size → k ≠ B → k ≠ B + 1 → (∀ v, w.cell? ⟨B, 0, none⟩ = some v → v.ownBlock ≠ some k) → w'.heap[k]? = w.heap[k]?
set_option maxRecDepth 100000 in
set_option maxHeartbeats 8000000 in
theorem look_any (B : Nat) (acc : List ByteArray) (op : Int) (nm : ByteArray) (ao : Option Addr) (n cap : Nat) (w : World) (h : LkS w B acc) (hnm : nm.size ≤ 5000) (hal : acc.length ≤ 200000) :
    Calls Try.prog 92 #[.agg #[.int .i64 op, .string nm, .slice ao n cap], .pointer (some ⟨B + 2, 0, none⟩), .pointer (some ⟨B, 0, none⟩)] w fun e w' =>
      e = .returned (.bool true) ∧ LkS w' B (if op = 1 then addS acc nm else acc) ∧ Below B w w' ∧ Ls B w w' := by
  obtain ⟨i0, hi, iz0, iz1, iz2⟩ := info_parts Try.infoStr
  have hkey : keyOf Try.prog 9 (.string nm) = some (.string nm.data.toList) := keyOf_string_mk Try.underlying9 (by unfold maxLen; omega)
  have hhas := has_stD acc nm
  obtain ⟨v, ct, own⟩ := h.ct
  have hsz := h.sz
  obtain ⟨W1, hW1⟩ : ∃ W1, W1 = w.alloc (.cells #[.int .i64 op, .string nm, .slice ao n cap] 64) := ⟨_, rfl⟩
  have hb1 : Below w.heap.size w W1 := by rw [hW1]; exact al1 _ _
  have l1 := h.below hb1
  have cs1 := l1.cs
  have mp1 := l1.mp
  rw [hW1] at cs1 mp1
  have bel0 : Below B w w := Below.refl _ _
  have bel2 : Below w.heap.size w ((w.alloc (.cells #[.int .i64 op, .string nm, .slice ao n cap] 64)).alloc (.cells #[] 123)) := al2 _ _ _
  by_cases h1 : op = 1
  rotate_left
  · rw [if_neg h1]
    have hob : (op == 1) = false := by simpa using h1
    generalize inB nm acc = q at *
    go_enter Try.func92, Try.ntmps92
    go_wp2_with (at_lookup; go_must (refine wpList_lookup_own_unit _ rfl _ _ 122 rfl 9 123 lawS Try.underlying122 (zeroU _) (B + 1) acc.length _ rfl mp1 _ _ rfl hkey ?_))
    go_ret
    exact ⟨rfl, h.below bel2, bel2.mono (by omega), fun k hk _ _ _ => bel2.block k hk⟩
  subst h1
  rw [if_pos rfl, addS]
  cases hq : inB nm acc with
  | true =>
    rw [hq] at hhas
    rw [if_pos rfl]
    clear hq
    go_enter Try.func92, Try.ntmps92
    go_wp2_with (at_lookup; go_must (refine wpList_lookup_own_unit _ rfl _ _ 122 rfl 9 123 lawS Try.underlying122 (zeroU _) (B + 1) acc.length _ rfl mp1 _ _ rfl hkey ?_))
    go_ret
    exact ⟨rfl, h.below bel2, bel2.mono (by omega), fun k hk _ _ _ => bel2.block k hk⟩
  | false =>
    rw [hq] at hhas
    rw [if_neg (by simp)]
    clear hq
    have l2 := h.below bel2
    have cs2 := l2.cs
    have mp2 := l2.mp
    obtain ⟨ao1, cap1, rfl⟩ := owns_slice own
    go_enter Try.func92, Try.ntmps92
    go_wp2_with (first
      | (at_lookup; go_must (refine wpList_lookup_own_unit _ rfl _ _ 122 rfl 9 123 lawS Try.underlying122 (zeroU _) (B + 1) acc.length _ rfl mp1 _ _ rfl hkey ?_))
      | (at_mapUpdate; go_must (refine wpList_mapUpdate_own _ rfl _ _ _ 122 rfl 9 123 lawS Try.underlying122 (unitElem (H := Unit)) (B + 1) acc.length _ rfl mp2 (by unfold maxLen; omega) _ _ _ rfl rfl hkey _ [] unitElem_mk ?_)))
    intro w1 hown1 hgrow1
    obtain ⟨W2, hW2⟩ : ∃ W2, W2 = (w.alloc (.cells #[.int .i64 1, .string nm, .slice ao n cap] 64)).alloc (.cells #[] 123) := ⟨_, rfl⟩
    rw [← hW2] at hgrow1 bel2 l2
    have z2 : W2.heap.size = w.heap.size + 2 := by rw [hW2]; simp
    have ce : W2.cell? ⟨w.heap.size, 1, none⟩ = some (.string nm) := by rw [hW2]; exact alcell (by simp) _
    have z1 := hgrow1.size
    have kb : ∀ k, k < W2.heap.size → k ≠ B + 1 → w1.heap[k]? = W2.heap[k]? := fun k hk hne => hgrow1.block k hk (fun e => hne (Option.some.inj e))
    have ct1 : w1.cell? ⟨B, 0, none⟩ = some (.slice ao1 acc.length cap1) := (World.cell?_of_block (w := W2) (a := ⟨B, 0, none⟩) (kb B (by omega) (by omega))).trans (bkeep bel2 ct)
    have ft1 : w1.frozen? ⟨B, 0, none⟩ = false := (World.frozen?_of_block (w := W2) (a := ⟨B, 0, none⟩) (kb B (by omega) (by omega))).trans l2.ft
    have cs3 : w1.cell? ⟨B + 2, 0, none⟩ = some (.map (some (B + 1))) := (World.cell?_of_block (w := W2) (a := ⟨B + 2, 0, none⟩) (kb (B + 2) (by omega) (by omega))).trans l2.cs
    have ce1 : w1.cell? ⟨w.heap.size, 1, none⟩ = some (.string nm) := (World.cell?_of_block (w := W2) (a := ⟨w.heap.size, 1, none⟩) (kb w.heap.size (by omega) (by omega))).trans ce
    have own1 : w1.ownsRow (B + 3) 9 1 (.slice ao1 acc.length cap1) acc.length (acc.map .string) := (owns_below own bel2).kept hgrow1 (.inr (fun e => by have := (own.lt (B + 1) e).1; omega))
    have bel3 : Below B w w1 := (bel2.mono (by omega)).grown hgrow1 (by omega) (fun j hj => by cases hj; omega)
    have HW2 := hd hW2
    have HW1 := hd hW1
    clear hW2 hW1 cs1 mp1 cs2 mp2 l1 hb1
    go_wp2_with (at_builtin; go_must (refine wpList_append_own _ rfl _ _ 45 rfl (B + 3) 9 i0 (.string ⟨#[]⟩) 1 16 Try.underlying45 hi iz0 iz1 iz2 rfl (by decide) _ _ _ rfl (own1.alloc _) ⟨w1.heap.size, 0, none⟩ 1 1 [.string nm] rfl rfl (cell_one_at _ _ _ (by simp)) (oneSs [nm]) (by unfold maxLen; omega) (by omega) (by simp <;> omega) ?_))
    intro v' w2 own2 hgrow2 _
    obtain ⟨ao2, cap2, rfl⟩ := owns_slice own2
    have z3 := hgrow2.size
    have nrow : ∀ k, k < B + 3 → (Value.slice ao1 acc.length cap1).ownBlock ≠ some k := fun k hk e => by have := (own.lt k e).1; omega
    have kb2 : ∀ k, k < w1.heap.size → (Value.slice ao1 acc.length cap1).ownBlock ≠ some k → w2.heap[k]? = w1.heap[k]? := fun k hk hne => (hgrow2.block k (by simp <;> omega) (fun e => hne e.symm)).trans ((al1 w1 _).block k hk)
    have ct2 : w2.cell? ⟨B, 0, none⟩ = some (.slice ao1 acc.length cap1) := (World.cell?_of_block (w := w1) (a := ⟨B, 0, none⟩) (kb2 B (by omega) (nrow B (by omega)))).trans ct1
    have ft2 : w2.frozen? ⟨B, 0, none⟩ = false := (World.frozen?_of_block (w := w1) (a := ⟨B, 0, none⟩) (kb2 B (by omega) (nrow B (by omega)))).trans ft1
    have cs4 : w2.cell? ⟨B + 2, 0, none⟩ = some (.map (some (B + 1))) := (World.cell?_of_block (w := w1) (a := ⟨B + 2, 0, none⟩) (kb2 (B + 2) (by omega) (nrow (B + 2) (by omega)))).trans cs3
    have mp3 := (hown1.alloc (.cells #[.string nm] 9)).kept hgrow2 (fun e => nrow (B + 1) (by omega) e.symm)
    have bel4 : Below B w w2 := (bel3.alloc (by omega) _).grown hgrow2 (by simp <;> omega) (fun j hj => by have := (own.lt j hj).1; omega)
    have z4 : w1.heap.size + 1 ≤ w2.heap.size := by simpa using z3
    have lss : Ls B w w2 := fun k hk h1 h2 h3 => ((kb2 k (by omega) (h3 _ ct)).trans (kb k (by omega) h2)).trans (bel2.block k hk)
    clear hgrow1 hgrow2 own1 hown1 kb kb2 ce ce1 ct1 ft1 cs3
    go_wp2_with fail
    go_ret
    have own3 : w2.ownsRow (B + 3) 9 1 (.slice ao2 (acc.length + 1) cap2) (acc ++ [nm]).length ((acc ++ [nm]).map .string) := by simpa using own2
    refine ⟨rfl, ⟨by simpa [World.setCell] using (by omega : B + 3 ≤ w2.heap.size), ?_, ?_, ⟨_, World.cell?_setCell_same _ _ _ ct2, owns_setCell own3 (by show B < B + 3; omega)⟩, by simp [ft2]⟩, bel4.setCell (p := ⟨B, 0, none⟩) (Nat.le_refl _) _, fun k hk h1 h2 h3 => by rw [Below.heap_setCell _ _ _ _ (by exact h1)]; exact lss k hk h1 h2 h3⟩
    · rw [World.cell?_setCell_other _ _ _ _ (by simp)]; exact cs4
    · rw [stD_snoc, List.length_append]
      exact mp3.setCell (a := ⟨B, 0, none⟩) (by show B + 1 ≠ B; omega) _
end Go.Proofs.Ytghplmldnkcpnac
