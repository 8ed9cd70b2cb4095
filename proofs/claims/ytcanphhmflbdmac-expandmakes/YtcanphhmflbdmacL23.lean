/- The document's way from definitions to a grammar: the symbols of an expression. -/
import Derived.Test.YtcanphhmflbdmacL20
import Derived.Test.YtcanphhmflbdmacL22
namespace Go.Proofs.Ytcanphhmflbdmac
open Go.RowKit G
/-- How the document's symbols end. -/
def ROutS (N T : List ByteArray) (x : Xp) (r : Nat) (vn vt : Value) (s : Sp) (q : Option Nat) (X : Nat → Prop) (w : World) (e : Ending) (w' : World) : Prop :=
  ∃ v q', e = .returned v ∧ w'.ownsRow w.heap.size 3 1 v (x.sy N T s).1.length (ints (x.sy N T s).1) ∧ SdS w' r vn vt N T (x.sy N T s).2 q' (op1 X v) ∧ Fm r q w w' ∧ Own w q q'
section
variable {N T : List ByteArray} {w w' : World} {r : Nat} {vn vt : Value} {s : Sp} {q : Option Nat} {X : Nat → Prop}
theorem op1_nil {X : Nat → Prop} : ∀ k, op1 X (.slice none 0 0) k → X k := fun _ h => h.elim id (fun e => by cases e)
theorem SdS.more (h : SdS w r vn vt N T s q X) (hv : ¬ 64 ≤ s.vars) : SdS (w.setCell ⟨r, 2, none⟩ (.int .i64 ((s.vars : Int) + 1))) r vn vt N T s.more q X := by
  have e : (s.vars : Int) + 1 = ((s.vars + 1 : Nat) : Int) := by omega
  rw [e]
  exact ⟨h.st.setVars (n := s.vars + 1) (by omega), by rw [World.cell?_setCell_other _ _ _ _ (by simp)]; exact h.c4⟩
set_option maxRecDepth 100000 in
set_option maxHeartbeats 4000000 in
theorem rsym_gone {x : Xp} (h : SdS w r vn vt N T s q X) (hb : s.bad = true) {va : Value} (hx : XV w (fun k => k < r) va x) :
    Calls Try.prog 68 #[.pointer (some ⟨r, 0, none⟩), va] w (ROutS N T x r vn vt s q X w) := by
  obtain ⟨u, rfl, hf⟩ := hx
  obtain ⟨hl, ao, cap, rfl, hin⟩ := hf
  have c4 := h.c4
  have hsz := h.st.sz
  rw [hb] at c4
  unfold ROutS
  rw [Xp.sy_bad hb]
  go_enter Try.func68, Try.ntmps68
  go_wp2_with fail
  go_ret
  exact ⟨_, q, rfl, World.ownsRow_nil _ _ _ _, (h.lw (G.al1 _ _)).weak op1_nil, Fm.of_below (G.al1 _ _), .inl rfl⟩
set_option maxRecDepth 100000 in
set_option maxHeartbeats 8000000 in
theorem rsym_leaf {x : Xp} (h12 : x.op = 1 ∨ x.op = 2) : RSymOK N T x := by
  intro r vn vt s q X va w h hx hb hs
  cases hsb : s.bad with
  | true => exact rsym_gone h hsb hx
  | false =>
  obtain ⟨u, rfl, hf⟩ := hx
  obtain ⟨hl, ao, cap, rfl, hin⟩ := hf
  obtain ⟨V, hV⟩ : ∃ V, V = w.alloc (.cells #[.int .i64 x.op, .string x.nm, .slice ao x.kids.len cap] 64) := ⟨_, rfl⟩
  have hVb : Below w.heap.size w V := by rw [hV]; exact G.al1 _ _
  have hV0 : V.cell? ⟨w.heap.size, 0, none⟩ = some (.int .i64 x.op) := by rw [hV]; simp
  have hV1 : V.cell? ⟨w.heap.size, 1, none⟩ = some (.string x.nm) := by rw [hV]; simp
  have hmV := h.lw hVb
  have c4 := hmV.c4
  rw [hsb] at c4
  have c4w := h.c4
  rw [hsb] at c4w
  have hsz := h.st.sz
  have hm := h
  have hD : Below w.heap.size w V.drew := bthen hVb (G.drw1 V)
  have zD : V.drew.heap.size = V.heap.size := rfl
  have zV := hVb.size
  rcases h12 with h1 | h1
  · have IA := placeOf_any T x.nm vt V.drew (h.lw hD).st.tt.1
    have hg := whr_ge T x.nm
    have hle := whr_le h.st.tt.1.1 x.nm
    have c1 := hmV.st.c1
    rw [sy_term hsb h1, h1]
    rw [h1] at hV0 hV
    generalize whr T x.nm = p at *
    have hwr : IntKind.i64.wrap (-1 - p) = -1 - p := by rw [IntKind.wrap_i64]; omega
    clear h
    go_enter Try.func68, Try.ntmps68
    go_wp2_with fail
    rw [← hV]
    have HV := hd hV
    clear hV
    go_region_with (go_at_call 50; refine IA.mono ?_; rintro e wx ⟨rfl, hwx⟩; obtain rfl := hwx.symm)
    all_goals
      go_wp2_with fail
      go_ret
      have own : (V.alloc (.cells #[.int .i64 (-1 - p)] 3)).drew.ownsRow w.heap.size 3 1 (.slice (some ⟨V.heap.size, 0, none⟩) 1 1) 1 (ints [-1 - p]) := G.owns_below (owns_one V (-1 - p) w.heap.size hVb.size) (G.drw1 _)
      have bel : Below w.heap.size w (V.alloc (.cells #[.int .i64 (-1 - p)] 3)).drew := bthen hVb (bthen (G.al1 _ _) (G.drw1 _))
      exact ⟨.slice (some ⟨V.heap.size, 0, none⟩) 1 1, q, rfl, own, hm.open_ bel (fun k e => own.lt k e), Fm.of_below bel, .inl rfl⟩
  · have IA := placeOf_any N x.nm vn V.drew (h.lw hD).st.nn.1
    have c1 := hmV.st.c0
    rw [sy_name hsb h1, h1]
    rw [h1] at hV0 hV
    generalize whr N x.nm = p at *
    clear h
    go_enter Try.func68, Try.ntmps68
    go_wp2_with fail
    rw [← hV]
    have HV := hd hV
    clear hV
    go_region_with (go_at_call 50; refine IA.mono ?_; rintro e wx ⟨rfl, hwx⟩; obtain rfl := hwx.symm)
    all_goals
      go_wp2_with fail
      go_ret
      have own : (V.alloc (.cells #[.int .i64 p] 3)).drew.ownsRow w.heap.size 3 1 (.slice (some ⟨V.heap.size, 0, none⟩) 1 1) 1 (ints [p]) := G.owns_below (owns_one V p w.heap.size hVb.size) (G.drw1 _)
      have bel : Below w.heap.size w (V.alloc (.cells #[.int .i64 p] 3)).drew := bthen hVb (bthen (G.al1 _ _) (G.drw1 _))
      exact ⟨.slice (some ⟨V.heap.size, 0, none⟩) 1 1, q, rfl, own, hm.open_ bel (fun k e => own.lt k e), Fm.of_below bel, .inl rfl⟩
set_option maxRecDepth 100000 in
set_option maxHeartbeats 8000000 in
theorem rsym_row {x : Xp} (h3 : x.op = 3) (ih : ∀ i, i < x.kids.len → RSymOK N T (x.kids.at_ i)) : RSymOK N T x := by
  intro r vn vt s q X va w h hx hb hs
  cases hsb : s.bad with
  | true => exact rsym_gone h hsb hx
  | false =>
  obtain ⟨j0, hj, jz0, jz1, jz2⟩ := info_parts Try.infoInt
  obtain ⟨u, rfl, hf⟩ := hx
  have hf' := hf
  obtain ⟨hl, ao, cap, rfl, hin⟩ := hf'
  have wyw : ∀ w', Below r w w' → WyV w' r G.All (.slice ao x.kids.len cap) x.kids := fun w' hb => WyV_fov (hf.mono fun b o v hs hc => ⟨hs, by rw [hb.cell (p := ⟨b, o, none⟩) hs]; exact hc⟩) (fun _ _ => trivial)
  obtain ⟨V, hV⟩ : ∃ V, V = w.alloc (.cells #[.int .i64 x.op, .string x.nm, .slice ao x.kids.len cap] 64) := ⟨_, rfl⟩
  have hVb : Below w.heap.size w V := by rw [hV]; exact G.al1 _ _
  have hV0 : V.cell? ⟨w.heap.size, 0, none⟩ = some (.int .i64 x.op) := by rw [hV]; simp
  have hV2 : V.cell? ⟨w.heap.size, 2, none⟩ = some (.slice ao x.kids.len cap) := by rw [hV]; simp
  have hmV := h.lw hVb
  have c4w := h.c4
  rw [hsb] at c4w
  have hsz := h.st.sz
  have nq : q ≠ some w.heap.size := fun e => by have := (h.st.own _ e).2; omega
  have nr : w.heap.size ≠ r := by omega
  have hfV : Fm r q w V := Fm.of_below hVb
  have hlow := fun w' (hb : Fm r q w w') => h.st.low hb
  have zV : V.heap.size = w.heap.size + 1 := by rw [hV]; simp
  have hks : x.kids.sz ≤ 3000 := by unfold Xp.sz at hs; omega
  have hkb := (Xp.bad_zero hb).2
  rw [sy_row hsb h3]
  have hR : (x.kids.drp 0).go N T .row s = x.kids.go N T .row s := by rw [Fo.drp_zero]
  have hRl := Fo.go_len (N := N) (T := T) x.kids s
  have hok : ∀ i, i < x.kids.len → (x.kids.at_ i).bad = 0 ∧ (x.kids.at_ i).sz ≤ 3000 := fun i hi => ⟨Fo.bad_in hkb hi, by have := Fo.sz_le hi; omega⟩
  generalize x.kids.go N T .row s = R at *
  generalize x.kids = F at *
  rw [h3] at hV0 hV ⊢
  go_enter Try.func68, Try.ntmps68
  go_wp2_with fail
  rw [← hV]
  have HV := hd hV
  have HR := hd hR
  clear hV hR
  go_loopw [5, 6] (fun v i wr => ∃ (k : Nat) (acc : List Int) (s1 : Sp) (q1 : Option Nat), k ≤ F.len ∧ i = .int .i64 k ∧ SdS wr r vn vt N T s1 q1 (op1 X v) ∧ Hid ((acc ++ ((F.drp k).go N T .row s1).1, ((F.drp k).go N T .row s1).2) = R) ∧ wr.ownsRow (w.heap.size + 1) 3 1 v acc.length (ints acc) ∧ Fm r q V wr ∧ Own V q q1) (fun _ i _ => F.len - (intOf i).toNat)
  case atStart => exact ⟨0, [], s, q, Nat.zero_le _, rfl, hmV.weak op1_nil, HR, World.ownsRow_nil _ _ _ _, Fm.refl _ _ _, .inl rfl⟩
  case round =>
    obtain ⟨k, acc, s1, q1, hk, rfl, hm, hE, hown, hfr, how⟩ := hrel
    have fwr : Fm r q w wr := hfV.trans hfr (.inl rfl)
    have wy := wyw wr (hlow wr fwr)
    have s2c := hfr.cell hV2 nr nq
    clear HR
    have hE' := hE.out
    obtain ⟨aov, capv, rfl⟩ := owns_slice hown
    by_cases hlt : k < F.len
    · obtain ⟨b, o, ak, ck, rfl, a0, a1, a2, hfk⟩ := wy.cells hlt
      have hz := hfr.size
      have IH := ih k hlt r vn vt s1 q1 _ (.agg #[.int .i64 (F.at_ k).op, .string (F.at_ k).nm, .slice ak (F.at_ k).kids.len ck]) wr hm ⟨_, rfl, hfk⟩ (hok k hlt).1 (hok k hlt).2
      rw [Fo.row_at hlt] at hE'
      have hkl := hfk.1
      generalize (F.at_ k).sy N T s1 = y at *
      obtain ⟨L, s2⟩ := y
      generalize F.at_ k = xk at *
      simp only at IH hE'
      clear hE
      have HE := hd hE'
      have hal : acc.length + L.length ≤ 3000 := by
        rw [← hE'] at hRl
        simp only [List.length_append] at hRl
        omega
      clear hE' hRl
      go_wp2_with fail
      refine IH.mono ?_
      rintro e w2 ⟨v2, q2, rfl, own2, hm2, hf2, ow2⟩
      have iv2 : IsV w2 G.All v2 L := IsV_owned own2 (by omega) (fun _ _ => trivial)
      have ownA : w2.ownsRow (w.heap.size + 1) 3 1 (.slice aov acc.length capv) acc.length (ints acc) := owns_fr hown hf2 (fun k e => ⟨by have := (hm.st.xo k (.inr e)).1; omega, (hm.st.xo k (.inr e)).2.2⟩)
      have hm2' : SdS w2 r vn vt N T s2 q2 (op1 X (.slice aov acc.length capv)) := hm2.weak (fun _ h => .inl h)
      have z2 := hf2.size
      obtain ⟨ao2, cap2, rfl⟩ := owns_slice own2
      clear own2 hm2 IH wy
      go_wp2_with (first | (at_builtin; go_must (refine wpList_append_ints _ rfl _ _ 33 rfl (w.heap.size + 1) 3 j0 Try.underlying33 hj jz0 jz1 jz2 _ _ _ rfl ownA G.All _ L rfl iv2 (by omega) (by omega) ?_)))
      intro v5 w5 own5 grow5 hat5
      have hm5 := hm2'.grow grow5 hat5 (fun k e => (own5.lt k e).2)
      have f05 : Fm r q V w5 := (hfr.trans hf2 how).grown grow5 (.inr fun k e => by have := (ownA.lt k e).1; omega)
      have HE' : Hid (((acc ++ L) ++ ((F.drp (k + 1)).go N T .row s2).1, ((F.drp (k + 1)).go N T .row s2).2) = R) := hd (by rw [List.append_assoc]; exact HE.out)
      go_wp2_with fail
      go_roundw
      case rel => exact ⟨k + 1, acc ++ L, s2, q2, by omega, by go_num, hm5, HE', by rw [ints_app, List.length_append]; exact own5, f05, how.trans ow2 hz⟩
      case measure => simp [intOf]; omega
    · rw [Fo.row_end (by omega)] at hE'
      simp only [List.append_nil] at hE'
      subst hE'
      clear hE
      go_wp2_with fail
      go_ret
      have how' : Own w q q1 := (Own.refl w q).trans how (by rw [zV]; exact Nat.le_succ _)
      have own' := owns_mono hown (Nat.le_succ w.heap.size)
      exact ⟨_, rfl, own', q1, hm, fwr, how'⟩
set_option maxRecDepth 100000 in
set_option maxHeartbeats 16000000 in
theorem rsym_new {x : Xp} (h1 : x.op ≠ 1) (h2 : x.op ≠ 2) (h3 : x.op ≠ 3) (ih : ∀ i, i < x.kids.len → ∀ j, j < (x.kids.at_ i).ways.len → RSymOK N T ((x.kids.at_ i).ways.at_ j)) (iw : x.op = 4 → ∀ i, i < x.ways.len → RSymOK N T (x.ways.at_ i)) : RSymOK N T x := by
  intro r vn vt s q X va w h hx hb hs
  cases hsb : s.bad with
  | true => exact rsym_gone h hsb hx
  | false =>
  have hxx := hx
  obtain ⟨u, rfl, hf⟩ := hxx
  have hf' := hf
  obtain ⟨hl, ao, cap, rfl, hin⟩ := hf'
  obtain ⟨V, hV⟩ : ∃ V, V = w.alloc (.cells #[.int .i64 x.op, .string x.nm, .slice ao x.kids.len cap] 64) := ⟨_, rfl⟩
  have hVb : Below w.heap.size w V := by rw [hV]; exact G.al1 _ _
  have hV0 : V.cell? ⟨w.heap.size, 0, none⟩ = some (.int .i64 x.op) := by rw [hV]; simp
  have hV1 : V.cell? ⟨w.heap.size, 1, none⟩ = some (.string x.nm) := by rw [hV]; simp
  have hV2 : V.cell? ⟨w.heap.size, 2, none⟩ = some (.slice ao x.kids.len cap) := by rw [hV]; simp
  have hmV := h.lw hVb
  have nq : q ≠ some w.heap.size := fun e => by have := (h.st.own _ e).2; omega
  have nr : w.heap.size ≠ r := by have := h.st.sz; omega
  have fV : Fm r q w V := Fm.of_below hVb
  have oV : Own w q q := .inl rfl
  have zV := hVb.size
  have c4 := hmV.c4
  rw [hsb] at c4
  have c2 := hmV.st.c2
  have fz := hmV.st.fz
  have hrV := hmV.st.sz
  have c4w := h.c4
  rw [hsb] at c4w
  have c2w := h.st.c2
  have fzw := h.st.fz
  have hrw := h.st.sz
  have b1 : (x.op == 1) = false := by simpa using h1
  have b2 : (x.op == 2) = false := by simpa using h2
  have b3 : (x.op == 3) = false := by simpa using h3
  by_cases hv : 64 ≤ s.vars
  · have hvb : (64 : Int) ≤ (s.vars : Int) := by omega
    rw [sy_full hsb h1 h2 h3 hv]
    have G1 := h.gone
    go_enter Try.func68, Try.ntmps68
    go_wp2_with fail
    go_ret
    exact ⟨_, q, rfl, World.ownsRow_nil _ _ _ _, (G1.lw (G.al1 _ _)).weak op1_nil, ((Fm.refl r q w).setCell (.inl rfl) _).thenB (G.al1 _ _), .inl rfl⟩
  have hvb : ¬ ((64 : Int) ≤ (s.vars : Int)) := by omega
  have H1 := h.more hv
  obtain ⟨V1, hV1d⟩ : ∃ V1, V1 = (w.setCell ⟨r, 2, none⟩ (.int .i64 ((s.vars : Int) + 1))).alloc (.cells #[.int .i64 x.op, .string x.nm, .slice ao x.kids.len cap] 64) := ⟨_, rfl⟩
  have hm1 : SdS V1 r vn vt N T s.more q X := by rw [hV1d]; exact H1.lw (G.al1 _ _)
  have f01 : Fm r q w V1 := by rw [hV1d]; exact ((Fm.refl r q w).setCell (.inl rfl) _).thenB (G.al1 _ _)
  have d0 : V1.cell? ⟨w.heap.size, 0, none⟩ = some (.int .i64 x.op) := by rw [hV1d]; simp [go_sem]
  have d1 : V1.cell? ⟨w.heap.size, 1, none⟩ = some (.string x.nm) := by rw [hV1d]; simp [go_sem]
  have d2 : V1.cell? ⟨w.heap.size, 2, none⟩ = some (.slice ao x.kids.len cap) := by rw [hV1d]; simp [go_sem]
  have z1 : w.heap.size + 1 ≤ V1.heap.size := by rw [hV1d]; simp [World.setCell]
  have lw1 : Below r w V1 := h.st.low f01
  have hvd : ∃ v : Int, v = (s.vars : Int) := ⟨_, rfl⟩
  obtain ⟨v, hvd⟩ := hvd
  rcases kinds hb with hk | hk | ⟨h4, hk⟩ | ⟨h567, hk⟩
  · omega
  · omega
  · have hsy := sy_alt (N := N) (T := T) hsb h4 hv
    rw [hsy]
    have PA := rput_tf (N := N) (T := T) (x := x) (iw h4) hm1 (va := .agg #[.int .i64 x.op, .string x.nm, .slice ao x.kids.len cap]) ⟨_, rfl, hf.mono fun b o v hb hc => ⟨hb, by rw [lw1.cell (p := ⟨b, o, none⟩) hb]; exact hc⟩⟩ hb hs (s.vars : Int)
    generalize hR : x.put N T s.vars true false s.more = R at *
    clear hsy hR
    rw [h4] at hV1d PA d0 hV0 hV ⊢
    clear b1 b2 b3
    go_enter Try.func68, Try.ntmps68
    go_wp2_with fail
    rw [← hV1d]
    have HV1 := hd hV1d
    clear hV1d
    refine PA.mono ?_
    rintro e w2 ⟨rfl, q2, hm2, hf2, ow2⟩
    have f02 : Fm r q w w2 := f01.trans hf2 oV
    have own := owns_one w2 (s.vars : Int) w.heap.size f02.size
    have z2 := f02.size
    go_wp2_with fail
    go_ret
    exact ⟨_, q2, rfl, own, hm2.open_ (G.al1 _ _) (fun k e => ⟨by simp [Value.ownBlock] at e; omega, (own.lt k e).2⟩), f02.thenB (G.al1 _ _), oV.trans ow2 f01.size⟩
  · have hl0 : 0 < x.kids.len := by omega
    have hin0 : ∃ b o, ao = some ⟨b, o, none⟩ ∧ x.kids.In w (fun k => k < r) b o := by
      rcases hin with h0 | h0
      · omega
      · exact h0
    obtain ⟨b, o, rfl, hi0⟩ := hin0
    have hbr : b < r := by
      have hi0' := hi0
      revert hi0'
      cases hkk : x.kids with
      | nil => rw [hkk] at hl0; simp [Fo.len] at hl0
      | cons => exact fun h => h.1
    obtain ⟨a0, a1, uk, a2, hfk⟩ := hi0.at_ 0 hl0
    have hfk' := hfk
    obtain ⟨_, ak, ck, rfl, _⟩ := hfk'
    simp only [Nat.zero_mul, Nat.add_zero] at a0 a1 a2
    have hkb := Fo.bad_in (Xp.bad_zero hb).2 hl0
    have hks : (x.kids.at_ 0).sz ≤ 3000 := by have := Fo.sz_le hl0; unfold Xp.sz at hs; omega
    have IW := ih 0 hl0
    have lowc : ∀ w', Below r w w' → ∀ i u, w.cell? ⟨b, i, none⟩ = some u → w'.cell? ⟨b, i, none⟩ = some u := fun w' hb i u hc => by rw [hb.cell (p := ⟨b, i, none⟩) hbr]; exact hc
    have lowf : ∀ w', Below r w w' → XV w' (fun k => k < r) (.agg #[.int .i64 (x.kids.at_ 0).op, .string (x.kids.at_ 0).nm, .slice ak (x.kids.at_ 0).kids.len ck]) (x.kids.at_ 0) := fun w' hb => ⟨_, rfl, hfk.mono fun b o v hs hc => ⟨hs, by rw [hb.cell (p := ⟨b, o, none⟩) hs]; exact hc⟩⟩
    have hlk := hfk.1
    rw [hk] at hV1d d2 hV hV2 ⊢
    rcases h567 with h5 | h6 | h7
    · have hsy := sy_opt (N := N) (T := T) hsb h5 hl0 hv
      rw [hsy]
      rw [h5] at hV1d d0 hV0 hV ⊢
      clear b1 b2 b3
      generalize x.kids.at_ 0 = y at *
      have PA := fun w' q' s' (hm : SdS w' r vn vt N T s' q' X) hx => rput_tf (N := N) (T := T) (x := y) IW hm (va := .agg #[.int .i64 y.op, .string y.nm, .slice ak y.kids.len ck]) hx hkb hks (s.vars : Int)
      have hRd : ∃ R, R = y.put N T s.vars true false (s.more.rule s.vars []) := ⟨_, rfl⟩
      obtain ⟨R, hRd⟩ := hRd
      rw [← hRd]
      have HRd := hd hRd
      clear hsy ih iw hRd
      go_enter Try.func68, Try.ntmps68
      go_wp2_with fail
      rw [← hV1d]
      have HV1 := hd hV1d
      clear hV1d
      refine (rrule_any hm1 (v := (s.vars : Int)) (IsV_nil V1 _)).mono ?_
      rintro e w2 ⟨rfl, q2, hm2, hf2, ow2⟩
      have f02 : Fm r q w w2 := f01.trans hf2 oV
      have ow02 : Own w q q2 := oV.trans ow2 f01.size
      have g0 := hf2.cell d0 nr nq
      have g2 := hf2.cell d2 nr nq
      have z2 : w.heap.size + 1 ≤ w2.heap.size := by have := hf2.size; omega
      have hq2n : q2 ≠ some w.heap.size := ow2.ne (by omega) nq
      go_upto_region 25 with fail
      have lw2 := h.st.low f02
      have P2 := PA w2.drew q2 _ (hm2.lw (G.drw1 w2)) (lowf _ (h.st.low (f02.thenB (G.drw1 w2))))
      rw [← HRd.out] at P2
      have S0 : w2.drew.cell? ⟨w.heap.size, 0, none⟩ = some (.int .i64 5) ∧ w2.drew.cell? ⟨w.heap.size, 2, none⟩ = some (.slice (some ⟨b, o, none⟩) 1 cap) ∧ w2.drew.cell? ⟨b, o, none⟩ = some (.int .i64 y.op) ∧ w2.drew.cell? ⟨b, o + 1, none⟩ = some (.string y.nm) ∧ w2.drew.cell? ⟨b, o + 2, none⟩ = some (.slice ak y.kids.len ck) := ⟨g0, g2, lowc w2 lw2 _ _ a0, lowc w2 lw2 _ _ a1, lowc w2 lw2 _ _ a2⟩
      have fD : Fm r q2 w2 w2.drew := Fm.of_below (G.drw1 w2)
      have zD : w2.drew.heap.size = w2.heap.size := rfl
      clear PA
      refine wp_region_noPanic ?_
      refine wp_region_held_drew (S := fun w' => w'.cell? ⟨w.heap.size, 0, none⟩ = some (.int .i64 5) ∧ w'.cell? ⟨w.heap.size, 2, none⟩ = some (.slice (some ⟨b, o, none⟩) 1 cap) ∧ w'.cell? ⟨b, o, none⟩ = some (.int .i64 y.op) ∧ w'.cell? ⟨b, o + 1, none⟩ = some (.string y.nm) ∧ w'.cell? ⟨b, o + 2, none⟩ = some (.slice ak y.kids.len ck)) (by kernel_rfl) S0 ?_
      intro hSw
      obtain ⟨y0, hy0⟩ : ∃ y0, y0 = w2.drew := ⟨_, rfl⟩
      rw [← hy0] at hSw P2 fD zD ⊢
      clear hy0
      refine wpAnyH_take (i := 0) (v := ?v1) rfl (by kernel_rfl) (by kernel_rfl) (by kernel_rfl) (fun _ _ _ h => np_panic h) (Or.inl ⟨by rfl, ?hy1⟩) (by assumption) ?_
      case hy1 => (intro w' hS'; (try dsimp only at hS'); go_simp; try with_reducible rfl)
      simp only [Act.put, List.setIfInBounds_toArray, List.set_cons_zero, List.set_cons_succ, List.getElem_toArray, List.getElem_cons_zero]
      refine wpAnyH_take (i := 1) (v := ?v2) rfl (by kernel_rfl) (by kernel_rfl) (by kernel_rfl) (fun _ _ _ h => np_panic h) (Or.inl ⟨by rfl, ?hy2⟩) (by assumption) ?_
      case hy2 => (intro w' hS'; (try dsimp only at hS'); go_simp; try with_reducible rfl)
      simp only [Act.put, List.setIfInBounds_toArray, List.set_cons_zero, List.set_cons_succ, List.getElem_toArray, List.getElem_cons_succ, List.getElem_cons_zero]
      refine wpAnyH_take (i := 2) (v := ?v3) rfl (by kernel_rfl) (by kernel_rfl) (by kernel_rfl) (fun _ _ _ h => np_panic h) (Or.inl ⟨by rfl, ?hy3⟩) (by assumption) ?_
      case hy3 => (intro w' hS'; (try dsimp only at hS'); go_simp; try with_reducible rfl)
      simp only [Act.put, List.setIfInBounds_toArray, List.set_cons_zero, List.set_cons_succ, List.getElem_toArray, List.getElem_cons_succ, List.getElem_cons_zero]
      refine wpAnyH_take (i := 3) (v := ?v4) rfl (by kernel_rfl) (by kernel_rfl) (by kernel_rfl) (fun _ _ _ h => np_panic h) (Or.inl ⟨by rfl, ?hy4⟩) (by assumption) ?_
      case hy4 => (intro w' hS'; (try dsimp only at hS'); go_simp; try with_reducible rfl)
      simp only [Act.put, List.setIfInBounds_toArray, List.set_cons_zero, List.set_cons_succ, List.getElem_toArray, List.getElem_cons_succ, List.getElem_cons_zero]
      refine wpAnyH_take (i := 4) (v := ?v5) rfl (by kernel_rfl) (by kernel_rfl) (by kernel_rfl) (fun _ _ _ h => np_panic h) (Or.inl ⟨by rfl, ?hy5⟩) (by assumption) ?_
      case hy5 => (intro w' hS'; (try dsimp only at hS'); go_simp; try with_reducible rfl)
      simp only [Act.put, List.setIfInBounds_toArray, List.set_cons_zero, List.set_cons_succ, List.getElem_toArray, List.getElem_cons_succ, List.getElem_cons_zero]
      refine wpAnyH_take (i := 5) (v := ?v6) rfl (by kernel_rfl) (by kernel_rfl) (by kernel_rfl) (fun _ _ _ h => np_panic h) (Or.inl ⟨by rfl, ?hy6⟩) (by assumption) ?_
      case hy6 => (intro w' hS'; (try dsimp only at hS'); go_simp; try with_reducible rfl)
      simp only [Act.put, List.setIfInBounds_toArray, List.set_cons_zero, List.set_cons_succ, List.getElem_toArray, List.getElem_cons_succ, List.getElem_cons_zero]
      refine wpAnyH_take (i := 6) (v := ?v7) rfl (by kernel_rfl) (by kernel_rfl) (by kernel_rfl) (fun _ _ _ h => np_panic h) (Or.inl ⟨by rfl, ?hy7⟩) (by assumption) ?_
      case hy7 => (intro w' hS'; (try dsimp only at hS'); go_simp; try with_reducible rfl)
      simp only [Act.put, List.setIfInBounds_toArray, List.set_cons_zero, List.set_cons_succ, List.getElem_toArray, List.getElem_cons_succ, List.getElem_cons_zero]
      refine wpAnyH_take (i := 7) (v := ?v8) rfl (by kernel_rfl) (by kernel_rfl) (by kernel_rfl) (fun _ _ _ h => np_panic h) (Or.inl ⟨by rfl, ?hy8⟩) (by assumption) ?_
      case hy8 => (intro w' hS'; (try dsimp only at hS'); go_simp; try with_reducible rfl)
      simp only [Act.put, List.setIfInBounds_toArray, List.set_cons_zero, List.set_cons_succ, List.getElem_toArray, List.getElem_cons_succ, List.getElem_cons_zero]
      refine wpAnyH_take (i := 8) (v := ?v9) rfl (by kernel_rfl) (by kernel_rfl) (by kernel_rfl) (fun _ _ _ h => np_panic h) (Or.inl ⟨by rfl, ?hy9⟩) (by assumption) ?_
      case hy9 => (intro w' hS'; (try dsimp only at hS'); go_simp; try with_reducible rfl)
      simp only [Act.put, List.setIfInBounds_toArray, List.set_cons_zero, List.set_cons_succ, List.getElem_toArray, List.getElem_cons_succ, List.getElem_cons_zero]
      refine wpAnyH_take (i := 9) (v := ?v10) rfl (by kernel_rfl) (by kernel_rfl) (by kernel_rfl) (fun _ _ _ h => np_panic h) (Or.inl ⟨by rfl, ?hy10⟩) (by assumption) ?_
      case hy10 => (intro w' hS'; (try dsimp only at hS'); go_simp; try with_reducible rfl)
      simp only [Act.put, List.setIfInBounds_toArray, List.set_cons_zero, List.set_cons_succ, List.getElem_toArray, List.getElem_cons_succ, List.getElem_cons_zero]
      refine wpAnyH_take (i := 10) (v := ?v11) rfl (by kernel_rfl) (by kernel_rfl) (by kernel_rfl) (fun _ _ _ h => np_panic h) (Or.inl ⟨by rfl, ?hy11⟩) (by assumption) ?_
      case hy11 => (intro w' hS'; (try dsimp only at hS'); go_simp; try with_reducible rfl)
      simp only [Act.put, List.setIfInBounds_toArray, List.set_cons_zero, List.set_cons_succ, List.getElem_toArray, List.getElem_cons_succ, List.getElem_cons_zero]
      refine wpAnyH_take (i := 11) (v := ?v12) rfl (by kernel_rfl) (by kernel_rfl) (by kernel_rfl) (fun _ _ _ h => np_panic h) (Or.inl ⟨by rfl, ?hy12⟩) (by assumption) ?_
      case hy12 => (intro w' hS'; (try dsimp only at hS'); go_simp; try with_reducible rfl)
      simp only [Act.put, List.setIfInBounds_toArray, List.set_cons_zero, List.set_cons_succ, List.getElem_toArray, List.getElem_cons_succ, List.getElem_cons_zero]
      refine wpAnyH_ready (rs := [12]) (by kernel_rfl) (by simp) ?_
      refine AllReadyH.cons rfl (fun K hK => ?_) AllReadyH.nil
      go_simp
      go_at_call 47
      refine P2.mono ?_
      rintro e w3 ⟨rfl, q3, hm3, hf3, ow3⟩
      have f23 : Fm r q2 w2 w3 := fD.trans hf3 (.inl rfl)
      have f03 : Fm r q w w3 := f02.trans f23 ow02
      have lw3 := h.st.low f03
      have nq2 : q2 ≠ some w.heap.size := hq2n
      refine hK.out _ _ ⟨f23.cell g0 nr nq2, f23.cell g2 nr nq2, lowc w3 lw3 _ _ a0, lowc w3 lw3 _ _ a1, lowc w3 lw3 _ _ a2⟩ ?_
      clear hK K
      intro hSw
      try simp only [Act.put, List.setIfInBounds_toArray, List.set_cons_zero, List.set_cons_succ]
      refine wpAnyH_done (by kernel_rfl) (NoPanic.normal ?_) _
      have own := owns_one w3 (s.vars : Int) w.heap.size f03.size
      have z3 := f03.size
      go_wp2_with fail
      go_ret
      have A1 := hm3.open_ (v := .slice (some ⟨w3.heap.size, 0, none⟩) 1 1) (G.al1 w3 (.cells #[.int .i64 (s.vars : Int)] 3)) (fun k e => ⟨by simp [Value.ownBlock] at e; omega, (own.lt k e).2⟩)
      have A2 := f03.thenB (G.al1 w3 (.cells #[.int .i64 (s.vars : Int)] 3))
      have A3 := ow02.trans ow3 (by omega)
      first | exact ⟨_, q3, rfl, own, A1, A2, A3⟩ | exact ⟨_, rfl, own, q3, A1, A2, A3⟩
    · have hsy := sy_star (N := N) (T := T) hsb h6 hl0 hv
      rw [hsy]
      rw [h6] at hV1d d0 hV0 hV ⊢
      clear b1 b2 b3
      generalize x.kids.at_ 0 = y at *
      have PA := fun w' q' s' (hm : SdS w' r vn vt N T s' q' X) hx => rput_ft (N := N) (T := T) (x := y) IW hm (va := .agg #[.int .i64 y.op, .string y.nm, .slice ak y.kids.len ck]) hx hkb hks (s.vars : Int)
      have hRd : ∃ R, R = y.put N T s.vars false true (s.more.rule s.vars []) := ⟨_, rfl⟩
      obtain ⟨R, hRd⟩ := hRd
      rw [← hRd]
      have HRd := hd hRd
      clear hsy ih iw hRd
      go_enter Try.func68, Try.ntmps68
      go_wp2_with fail
      rw [← hV1d]
      have HV1 := hd hV1d
      clear hV1d
      refine (rrule_any hm1 (v := (s.vars : Int)) (IsV_nil V1 _)).mono ?_
      rintro e w2 ⟨rfl, q2, hm2, hf2, ow2⟩
      have f02 : Fm r q w w2 := f01.trans hf2 oV
      have ow02 : Own w q q2 := oV.trans ow2 f01.size
      have g0 := hf2.cell d0 nr nq
      have g2 := hf2.cell d2 nr nq
      have z2 : w.heap.size + 1 ≤ w2.heap.size := by have := hf2.size; omega
      have hq2n : q2 ≠ some w.heap.size := ow2.ne (by omega) nq
      go_upto_region 25 with fail
      have lw2 := h.st.low f02
      have P2 := PA w2.drew q2 _ (hm2.lw (G.drw1 w2)) (lowf _ (h.st.low (f02.thenB (G.drw1 w2))))
      rw [← HRd.out] at P2
      have S0 : w2.drew.cell? ⟨w.heap.size, 0, none⟩ = some (.int .i64 6) ∧ w2.drew.cell? ⟨w.heap.size, 2, none⟩ = some (.slice (some ⟨b, o, none⟩) 1 cap) ∧ w2.drew.cell? ⟨b, o, none⟩ = some (.int .i64 y.op) ∧ w2.drew.cell? ⟨b, o + 1, none⟩ = some (.string y.nm) ∧ w2.drew.cell? ⟨b, o + 2, none⟩ = some (.slice ak y.kids.len ck) := ⟨g0, g2, lowc w2 lw2 _ _ a0, lowc w2 lw2 _ _ a1, lowc w2 lw2 _ _ a2⟩
      have fD : Fm r q2 w2 w2.drew := Fm.of_below (G.drw1 w2)
      have zD : w2.drew.heap.size = w2.heap.size := rfl
      clear PA
      refine wp_region_noPanic ?_
      refine wp_region_held_drew (S := fun w' => w'.cell? ⟨w.heap.size, 0, none⟩ = some (.int .i64 6) ∧ w'.cell? ⟨w.heap.size, 2, none⟩ = some (.slice (some ⟨b, o, none⟩) 1 cap) ∧ w'.cell? ⟨b, o, none⟩ = some (.int .i64 y.op) ∧ w'.cell? ⟨b, o + 1, none⟩ = some (.string y.nm) ∧ w'.cell? ⟨b, o + 2, none⟩ = some (.slice ak y.kids.len ck)) (by kernel_rfl) S0 ?_
      intro hSw
      obtain ⟨y0, hy0⟩ : ∃ y0, y0 = w2.drew := ⟨_, rfl⟩
      rw [← hy0] at hSw P2 fD zD ⊢
      clear hy0
      refine wpAnyH_take (i := 0) (v := ?v13) rfl (by kernel_rfl) (by kernel_rfl) (by kernel_rfl) (fun _ _ _ h => np_panic h) (Or.inl ⟨by rfl, ?hy13⟩) (by assumption) ?_
      case hy13 => (intro w' hS'; (try dsimp only at hS'); go_simp; try with_reducible rfl)
      simp only [Act.put, List.setIfInBounds_toArray, List.set_cons_zero, List.set_cons_succ, List.getElem_toArray, List.getElem_cons_zero]
      refine wpAnyH_take (i := 1) (v := ?v14) rfl (by kernel_rfl) (by kernel_rfl) (by kernel_rfl) (fun _ _ _ h => np_panic h) (Or.inl ⟨by rfl, ?hy14⟩) (by assumption) ?_
      case hy14 => (intro w' hS'; (try dsimp only at hS'); go_simp; try with_reducible rfl)
      simp only [Act.put, List.setIfInBounds_toArray, List.set_cons_zero, List.set_cons_succ, List.getElem_toArray, List.getElem_cons_succ, List.getElem_cons_zero]
      refine wpAnyH_take (i := 2) (v := ?v15) rfl (by kernel_rfl) (by kernel_rfl) (by kernel_rfl) (fun _ _ _ h => np_panic h) (Or.inl ⟨by rfl, ?hy15⟩) (by assumption) ?_
      case hy15 => (intro w' hS'; (try dsimp only at hS'); go_simp; try with_reducible rfl)
      simp only [Act.put, List.setIfInBounds_toArray, List.set_cons_zero, List.set_cons_succ, List.getElem_toArray, List.getElem_cons_succ, List.getElem_cons_zero]
      refine wpAnyH_take (i := 3) (v := ?v16) rfl (by kernel_rfl) (by kernel_rfl) (by kernel_rfl) (fun _ _ _ h => np_panic h) (Or.inl ⟨by rfl, ?hy16⟩) (by assumption) ?_
      case hy16 => (intro w' hS'; (try dsimp only at hS'); go_simp; try with_reducible rfl)
      simp only [Act.put, List.setIfInBounds_toArray, List.set_cons_zero, List.set_cons_succ, List.getElem_toArray, List.getElem_cons_succ, List.getElem_cons_zero]
      refine wpAnyH_take (i := 4) (v := ?v17) rfl (by kernel_rfl) (by kernel_rfl) (by kernel_rfl) (fun _ _ _ h => np_panic h) (Or.inl ⟨by rfl, ?hy17⟩) (by assumption) ?_
      case hy17 => (intro w' hS'; (try dsimp only at hS'); go_simp; try with_reducible rfl)
      simp only [Act.put, List.setIfInBounds_toArray, List.set_cons_zero, List.set_cons_succ, List.getElem_toArray, List.getElem_cons_succ, List.getElem_cons_zero]
      refine wpAnyH_take (i := 5) (v := ?v18) rfl (by kernel_rfl) (by kernel_rfl) (by kernel_rfl) (fun _ _ _ h => np_panic h) (Or.inl ⟨by rfl, ?hy18⟩) (by assumption) ?_
      case hy18 => (intro w' hS'; (try dsimp only at hS'); go_simp; try with_reducible rfl)
      simp only [Act.put, List.setIfInBounds_toArray, List.set_cons_zero, List.set_cons_succ, List.getElem_toArray, List.getElem_cons_succ, List.getElem_cons_zero]
      refine wpAnyH_take (i := 6) (v := ?v19) rfl (by kernel_rfl) (by kernel_rfl) (by kernel_rfl) (fun _ _ _ h => np_panic h) (Or.inl ⟨by rfl, ?hy19⟩) (by assumption) ?_
      case hy19 => (intro w' hS'; (try dsimp only at hS'); go_simp; try with_reducible rfl)
      simp only [Act.put, List.setIfInBounds_toArray, List.set_cons_zero, List.set_cons_succ, List.getElem_toArray, List.getElem_cons_succ, List.getElem_cons_zero]
      refine wpAnyH_take (i := 7) (v := ?v20) rfl (by kernel_rfl) (by kernel_rfl) (by kernel_rfl) (fun _ _ _ h => np_panic h) (Or.inl ⟨by rfl, ?hy20⟩) (by assumption) ?_
      case hy20 => (intro w' hS'; (try dsimp only at hS'); go_simp; try with_reducible rfl)
      simp only [Act.put, List.setIfInBounds_toArray, List.set_cons_zero, List.set_cons_succ, List.getElem_toArray, List.getElem_cons_succ, List.getElem_cons_zero]
      refine wpAnyH_take (i := 8) (v := ?v21) rfl (by kernel_rfl) (by kernel_rfl) (by kernel_rfl) (fun _ _ _ h => np_panic h) (Or.inl ⟨by rfl, ?hy21⟩) (by assumption) ?_
      case hy21 => (intro w' hS'; (try dsimp only at hS'); go_simp; try with_reducible rfl)
      simp only [Act.put, List.setIfInBounds_toArray, List.set_cons_zero, List.set_cons_succ, List.getElem_toArray, List.getElem_cons_succ, List.getElem_cons_zero]
      refine wpAnyH_take (i := 9) (v := ?v22) rfl (by kernel_rfl) (by kernel_rfl) (by kernel_rfl) (fun _ _ _ h => np_panic h) (Or.inl ⟨by rfl, ?hy22⟩) (by assumption) ?_
      case hy22 => (intro w' hS'; (try dsimp only at hS'); go_simp; try with_reducible rfl)
      simp only [Act.put, List.setIfInBounds_toArray, List.set_cons_zero, List.set_cons_succ, List.getElem_toArray, List.getElem_cons_succ, List.getElem_cons_zero]
      refine wpAnyH_take (i := 10) (v := ?v23) rfl (by kernel_rfl) (by kernel_rfl) (by kernel_rfl) (fun _ _ _ h => np_panic h) (Or.inl ⟨by rfl, ?hy23⟩) (by assumption) ?_
      case hy23 => (intro w' hS'; (try dsimp only at hS'); go_simp; try with_reducible rfl)
      simp only [Act.put, List.setIfInBounds_toArray, List.set_cons_zero, List.set_cons_succ, List.getElem_toArray, List.getElem_cons_succ, List.getElem_cons_zero]
      refine wpAnyH_take (i := 11) (v := ?v24) rfl (by kernel_rfl) (by kernel_rfl) (by kernel_rfl) (fun _ _ _ h => np_panic h) (Or.inl ⟨by rfl, ?hy24⟩) (by assumption) ?_
      case hy24 => (intro w' hS'; (try dsimp only at hS'); go_simp; try with_reducible rfl)
      simp only [Act.put, List.setIfInBounds_toArray, List.set_cons_zero, List.set_cons_succ, List.getElem_toArray, List.getElem_cons_succ, List.getElem_cons_zero]
      refine wpAnyH_ready (rs := [12]) (by kernel_rfl) (by simp) ?_
      refine AllReadyH.cons rfl (fun K hK => ?_) AllReadyH.nil
      go_simp
      go_at_call 47
      refine P2.mono ?_
      rintro e w3 ⟨rfl, q3, hm3, hf3, ow3⟩
      have f23 : Fm r q2 w2 w3 := fD.trans hf3 (.inl rfl)
      have f03 : Fm r q w w3 := f02.trans f23 ow02
      have lw3 := h.st.low f03
      have nq2 : q2 ≠ some w.heap.size := hq2n
      refine hK.out _ _ ⟨f23.cell g0 nr nq2, f23.cell g2 nr nq2, lowc w3 lw3 _ _ a0, lowc w3 lw3 _ _ a1, lowc w3 lw3 _ _ a2⟩ ?_
      clear hK K
      intro hSw
      try simp only [Act.put, List.setIfInBounds_toArray, List.set_cons_zero, List.set_cons_succ]
      refine wpAnyH_done (by kernel_rfl) (NoPanic.normal ?_) _
      have own := owns_one w3 (s.vars : Int) w.heap.size f03.size
      have z3 := f03.size
      go_wp2_with fail
      go_ret
      have A1 := hm3.open_ (v := .slice (some ⟨w3.heap.size, 0, none⟩) 1 1) (G.al1 w3 (.cells #[.int .i64 (s.vars : Int)] 3)) (fun k e => ⟨by simp [Value.ownBlock] at e; omega, (own.lt k e).2⟩)
      have A2 := f03.thenB (G.al1 w3 (.cells #[.int .i64 (s.vars : Int)] 3))
      have A3 := ow02.trans ow3 (by omega)
      first | exact ⟨_, q3, rfl, own, A1, A2, A3⟩ | exact ⟨_, rfl, own, q3, A1, A2, A3⟩
    · have hsy := sy_plus (N := N) (T := T) hsb h7 hl0 hv
      rw [hsy]
      rw [h7] at hV1d d0 hV0 hV ⊢
      clear b1 b2 b3
      generalize x.kids.at_ 0 = y at *
      have PA := fun w' q' s' (hm : SdS w' r vn vt N T s' q' X) hx => rput_tt (N := N) (T := T) (x := y) IW hm (va := .agg #[.int .i64 y.op, .string y.nm, .slice ak y.kids.len ck]) hx hkb hks (s.vars : Int)
      have hRd : ∃ R, R = y.put N T s.vars true true s.more := ⟨_, rfl⟩
      obtain ⟨R, hRd⟩ := hRd
      rw [← hRd]
      have HRd := hd hRd
      clear hsy ih iw hRd
      go_enter Try.func68, Try.ntmps68
      obtain ⟨w2, hw2⟩ : ∃ w2, w2 = V1 := ⟨_, rfl⟩
      obtain ⟨q2, hq2⟩ : ∃ q2, q2 = q := ⟨_, rfl⟩
      have hm2 : SdS w2 r vn vt N T s.more q2 X := by rw [hw2, hq2]; exact hm1
      have f02 : Fm r q w w2 := by rw [hw2]; exact f01
      have ow02 : Own w q q2 := by rw [hq2]; exact oV
      have g0 : w2.cell? ⟨w.heap.size, 0, none⟩ = some (.int .i64 7) := by rw [hw2]; exact d0
      have g2 : w2.cell? ⟨w.heap.size, 2, none⟩ = some (.slice (some ⟨b, o, none⟩) 1 cap) := by rw [hw2]; exact d2
      have z2 : w.heap.size + 1 ≤ w2.heap.size := by rw [hw2]; exact z1
      have hq2n : q2 ≠ some w.heap.size := by rw [hq2]; exact nq
      go_upto_region 25 with fail
      rw [← hV1d, ← hw2]
      clear hw2 hq2 hV1d
      have lw2 := h.st.low f02
      have P2 := PA w2.drew q2 _ (hm2.lw (G.drw1 w2)) (lowf _ (h.st.low (f02.thenB (G.drw1 w2))))
      rw [← HRd.out] at P2
      have S0 : w2.drew.cell? ⟨w.heap.size, 0, none⟩ = some (.int .i64 7) ∧ w2.drew.cell? ⟨w.heap.size, 2, none⟩ = some (.slice (some ⟨b, o, none⟩) 1 cap) ∧ w2.drew.cell? ⟨b, o, none⟩ = some (.int .i64 y.op) ∧ w2.drew.cell? ⟨b, o + 1, none⟩ = some (.string y.nm) ∧ w2.drew.cell? ⟨b, o + 2, none⟩ = some (.slice ak y.kids.len ck) := ⟨g0, g2, lowc w2 lw2 _ _ a0, lowc w2 lw2 _ _ a1, lowc w2 lw2 _ _ a2⟩
      have fD : Fm r q2 w2 w2.drew := Fm.of_below (G.drw1 w2)
      have zD : w2.drew.heap.size = w2.heap.size := rfl
      clear PA
      refine wp_region_noPanic ?_
      refine wp_region_held_drew (S := fun w' => w'.cell? ⟨w.heap.size, 0, none⟩ = some (.int .i64 7) ∧ w'.cell? ⟨w.heap.size, 2, none⟩ = some (.slice (some ⟨b, o, none⟩) 1 cap) ∧ w'.cell? ⟨b, o, none⟩ = some (.int .i64 y.op) ∧ w'.cell? ⟨b, o + 1, none⟩ = some (.string y.nm) ∧ w'.cell? ⟨b, o + 2, none⟩ = some (.slice ak y.kids.len ck)) (by kernel_rfl) S0 ?_
      intro hSw
      obtain ⟨y0, hy0⟩ : ∃ y0, y0 = w2.drew := ⟨_, rfl⟩
      rw [← hy0] at hSw P2 fD zD ⊢
      clear hy0
      refine wpAnyH_take (i := 0) (v := ?v25) rfl (by kernel_rfl) (by kernel_rfl) (by kernel_rfl) (fun _ _ _ h => np_panic h) (Or.inl ⟨by rfl, ?hy25⟩) (by assumption) ?_
      case hy25 => (intro w' hS'; (try dsimp only at hS'); go_simp; try with_reducible rfl)
      simp only [Act.put, List.setIfInBounds_toArray, List.set_cons_zero, List.set_cons_succ, List.getElem_toArray, List.getElem_cons_zero]
      refine wpAnyH_take (i := 1) (v := ?v26) rfl (by kernel_rfl) (by kernel_rfl) (by kernel_rfl) (fun _ _ _ h => np_panic h) (Or.inl ⟨by rfl, ?hy26⟩) (by assumption) ?_
      case hy26 => (intro w' hS'; (try dsimp only at hS'); go_simp; try with_reducible rfl)
      simp only [Act.put, List.setIfInBounds_toArray, List.set_cons_zero, List.set_cons_succ, List.getElem_toArray, List.getElem_cons_succ, List.getElem_cons_zero]
      refine wpAnyH_take (i := 2) (v := ?v27) rfl (by kernel_rfl) (by kernel_rfl) (by kernel_rfl) (fun _ _ _ h => np_panic h) (Or.inl ⟨by rfl, ?hy27⟩) (by assumption) ?_
      case hy27 => (intro w' hS'; (try dsimp only at hS'); go_simp; try with_reducible rfl)
      simp only [Act.put, List.setIfInBounds_toArray, List.set_cons_zero, List.set_cons_succ, List.getElem_toArray, List.getElem_cons_succ, List.getElem_cons_zero]
      refine wpAnyH_take (i := 3) (v := ?v28) rfl (by kernel_rfl) (by kernel_rfl) (by kernel_rfl) (fun _ _ _ h => np_panic h) (Or.inl ⟨by rfl, ?hy28⟩) (by assumption) ?_
      case hy28 => (intro w' hS'; (try dsimp only at hS'); go_simp; try with_reducible rfl)
      simp only [Act.put, List.setIfInBounds_toArray, List.set_cons_zero, List.set_cons_succ, List.getElem_toArray, List.getElem_cons_succ, List.getElem_cons_zero]
      refine wpAnyH_take (i := 4) (v := ?v29) rfl (by kernel_rfl) (by kernel_rfl) (by kernel_rfl) (fun _ _ _ h => np_panic h) (Or.inl ⟨by rfl, ?hy29⟩) (by assumption) ?_
      case hy29 => (intro w' hS'; (try dsimp only at hS'); go_simp; try with_reducible rfl)
      simp only [Act.put, List.setIfInBounds_toArray, List.set_cons_zero, List.set_cons_succ, List.getElem_toArray, List.getElem_cons_succ, List.getElem_cons_zero]
      refine wpAnyH_take (i := 5) (v := ?v30) rfl (by kernel_rfl) (by kernel_rfl) (by kernel_rfl) (fun _ _ _ h => np_panic h) (Or.inl ⟨by rfl, ?hy30⟩) (by assumption) ?_
      case hy30 => (intro w' hS'; (try dsimp only at hS'); go_simp; try with_reducible rfl)
      simp only [Act.put, List.setIfInBounds_toArray, List.set_cons_zero, List.set_cons_succ, List.getElem_toArray, List.getElem_cons_succ, List.getElem_cons_zero]
      refine wpAnyH_take (i := 6) (v := ?v31) rfl (by kernel_rfl) (by kernel_rfl) (by kernel_rfl) (fun _ _ _ h => np_panic h) (Or.inl ⟨by rfl, ?hy31⟩) (by assumption) ?_
      case hy31 => (intro w' hS'; (try dsimp only at hS'); go_simp; try with_reducible rfl)
      simp only [Act.put, List.setIfInBounds_toArray, List.set_cons_zero, List.set_cons_succ, List.getElem_toArray, List.getElem_cons_succ, List.getElem_cons_zero]
      refine wpAnyH_take (i := 7) (v := ?v32) rfl (by kernel_rfl) (by kernel_rfl) (by kernel_rfl) (fun _ _ _ h => np_panic h) (Or.inl ⟨by rfl, ?hy32⟩) (by assumption) ?_
      case hy32 => (intro w' hS'; (try dsimp only at hS'); go_simp; try with_reducible rfl)
      simp only [Act.put, List.setIfInBounds_toArray, List.set_cons_zero, List.set_cons_succ, List.getElem_toArray, List.getElem_cons_succ, List.getElem_cons_zero]
      refine wpAnyH_take (i := 8) (v := ?v33) rfl (by kernel_rfl) (by kernel_rfl) (by kernel_rfl) (fun _ _ _ h => np_panic h) (Or.inl ⟨by rfl, ?hy33⟩) (by assumption) ?_
      case hy33 => (intro w' hS'; (try dsimp only at hS'); go_simp; try with_reducible rfl)
      simp only [Act.put, List.setIfInBounds_toArray, List.set_cons_zero, List.set_cons_succ, List.getElem_toArray, List.getElem_cons_succ, List.getElem_cons_zero]
      refine wpAnyH_take (i := 9) (v := ?v34) rfl (by kernel_rfl) (by kernel_rfl) (by kernel_rfl) (fun _ _ _ h => np_panic h) (Or.inl ⟨by rfl, ?hy34⟩) (by assumption) ?_
      case hy34 => (intro w' hS'; (try dsimp only at hS'); go_simp; try with_reducible rfl)
      simp only [Act.put, List.setIfInBounds_toArray, List.set_cons_zero, List.set_cons_succ, List.getElem_toArray, List.getElem_cons_succ, List.getElem_cons_zero]
      refine wpAnyH_take (i := 10) (v := ?v35) rfl (by kernel_rfl) (by kernel_rfl) (by kernel_rfl) (fun _ _ _ h => np_panic h) (Or.inl ⟨by rfl, ?hy35⟩) (by assumption) ?_
      case hy35 => (intro w' hS'; (try dsimp only at hS'); go_simp; try with_reducible rfl)
      simp only [Act.put, List.setIfInBounds_toArray, List.set_cons_zero, List.set_cons_succ, List.getElem_toArray, List.getElem_cons_succ, List.getElem_cons_zero]
      refine wpAnyH_take (i := 11) (v := ?v36) rfl (by kernel_rfl) (by kernel_rfl) (by kernel_rfl) (fun _ _ _ h => np_panic h) (Or.inl ⟨by rfl, ?hy36⟩) (by assumption) ?_
      case hy36 => (intro w' hS'; (try dsimp only at hS'); go_simp; try with_reducible rfl)
      simp only [Act.put, List.setIfInBounds_toArray, List.set_cons_zero, List.set_cons_succ, List.getElem_toArray, List.getElem_cons_succ, List.getElem_cons_zero]
      refine wpAnyH_ready (rs := [12]) (by kernel_rfl) (by simp) ?_
      refine AllReadyH.cons rfl (fun K hK => ?_) AllReadyH.nil
      go_simp
      go_at_call 47
      refine P2.mono ?_
      rintro e w3 ⟨rfl, q3, hm3, hf3, ow3⟩
      have f23 : Fm r q2 w2 w3 := fD.trans hf3 (.inl rfl)
      have f03 : Fm r q w w3 := f02.trans f23 ow02
      have lw3 := h.st.low f03
      have nq2 : q2 ≠ some w.heap.size := hq2n
      refine hK.out _ _ ⟨f23.cell g0 nr nq2, f23.cell g2 nr nq2, lowc w3 lw3 _ _ a0, lowc w3 lw3 _ _ a1, lowc w3 lw3 _ _ a2⟩ ?_
      clear hK K
      intro hSw
      try simp only [Act.put, List.setIfInBounds_toArray, List.set_cons_zero, List.set_cons_succ]
      refine wpAnyH_done (by kernel_rfl) (NoPanic.normal ?_) _
      have own := owns_one w3 (s.vars : Int) w.heap.size f03.size
      have z3 := f03.size
      go_wp2_with fail
      go_ret
      have A1 := hm3.open_ (v := .slice (some ⟨w3.heap.size, 0, none⟩) 1 1) (G.al1 w3 (.cells #[.int .i64 (s.vars : Int)] 3)) (fun k e => ⟨by simp [Value.ownBlock] at e; omega, (own.lt k e).2⟩)
      have A2 := f03.thenB (G.al1 w3 (.cells #[.int .i64 (s.vars : Int)] 3))
      have A3 := ow02.trans ow3 (by omega)
      first | exact ⟨_, q3, rfl, own, A1, A2, A3⟩ | exact ⟨_, rfl, own, q3, A1, A2, A3⟩
theorem rsym_head (x : Xp) (ih : ∀ i, i < x.kids.len → RSymOK N T (x.kids.at_ i) ∧ ∀ j, j < (x.kids.at_ i).ways.len → RSymOK N T ((x.kids.at_ i).ways.at_ j)) : RSymOK N T x ∧ ∀ j, j < x.ways.len → RSymOK N T (x.ways.at_ j) := by
  have hs : RSymOK N T x := by
    by_cases h1 : x.op = 1
    · exact rsym_leaf (.inl h1)
    by_cases h2 : x.op = 2
    · exact rsym_leaf (.inr h2)
    by_cases h3 : x.op = 3
    · exact rsym_row h3 fun i hi => (ih i hi).1
    · exact rsym_new h1 h2 h3 (fun i hi => (ih i hi).2) fun h4 i hi => by
        unfold Xp.ways at hi ⊢
        rw [if_pos h4] at hi ⊢
        exact (ih i hi).1
  refine ⟨hs, fun j hj => ?_⟩
  unfold Xp.ways at hj ⊢
  split at hj
  · rename_i h4
    rw [if_pos h4]
    exact (ih j hj).1
  · rename_i h4
    rw [if_neg h4]
    obtain rfl : j = 0 := by simpa [Fo.len] using hj
    exact hs
theorem rsym_all : ∀ (f : Fo) (i : Nat), i < f.len → RSymOK N T (f.at_ i) ∧ ∀ j, j < (f.at_ i).ways.len → RSymOK N T ((f.at_ i).ways.at_ j)
  | .nil, _, h => absurd h (Nat.not_lt_zero _)
  | .cons op nm kids rest, 0, _ => rsym_head ⟨op, nm, kids⟩ (rsym_all kids)
  | .cons _ _ _ rest, i + 1, h => rsym_all rest i (by simpa [Fo.len] using h)
theorem rsym_any (x : Xp) : RSymOK N T x ∧ ∀ j, j < x.ways.len → RSymOK N T (x.ways.at_ j) := rsym_head x (rsym_all x.kids)
end
end Go.Proofs.Ytcanphhmflbdmac
