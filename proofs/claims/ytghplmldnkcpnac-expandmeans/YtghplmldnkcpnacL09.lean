/- The program's maker: a new nonterminal that stands for an expression; the symbols of an expression. -/
import Derived.Test.YtghplmldnkcpnacL08
namespace Go.Proofs.Ytghplmldnkcpnac
open Go.RowKit G

def GrowOK (N T : List ByteArray) (x : Xp) : Prop := ∀ (r : Nat) (vn vt : Value) (s : Sp) (q : Option Nat) (X : Nat → Prop) (df : Int) (va : Value) (w : World), MkS w r vn vt N T s q X df → XV w (fun k => k < r) va x → x.bad = 0 → x.sz ≤ 3000 →
  Calls Try.prog 118 #[.pointer (some ⟨r, 0, none⟩), va] w (OutM r vn vt N T q df (x.sy N T s).2 (fun _ => X) w fun v _ => v = .int .i64 s.vars ∧ (x.sy N T s).1 = [(s.vars : Int)])
section
variable {N T : List ByteArray}
theorem kinds {x : Xp} (hb : x.bad = 0) : ((x.op = 1 ∨ x.op = 2) ∧ x.kids.len = 0) ∨ (x.op = 3 ∧ x.kids.len ≠ 1) ∨ (x.op = 4 ∧ 2 ≤ x.kids.len) ∨ ((x.op = 5 ∨ x.op = 6 ∨ x.op = 7) ∧ x.kids.len = 1) := by
  have := form_kinds (code_zero (Xp.bad_zero hb).1).1
  omega
set_option maxRecDepth 100000 in
set_option maxHeartbeats 16000000 in
theorem grow_head {x : Xp} (h1 : x.op ≠ 1) (h2 : x.op ≠ 2) (h3 : x.op ≠ 3) (ih : ∀ i, i < x.kids.len → ∀ j, j < (x.kids.at_ i).ways.len → SymOK N T ((x.kids.at_ i).ways.at_ j)) (iw : x.op = 4 → ∀ i, i < x.ways.len → SymOK N T (x.ways.at_ i)) : GrowOK N T x := by
  intro r vn vt s q X df va w h hx hb hs
  obtain ⟨j0, hj, jz0, jz1, jz2⟩ := info_parts Try.infoInt
  have hxx := hx
  obtain ⟨u, rfl, hf⟩ := hxx
  have hf' := hf
  obtain ⟨hl, ao, cap, rfl, hin⟩ := hf'
  obtain ⟨V, hV⟩ : ∃ V, V = w.alloc (.cells #[.int .i64 x.op, .string x.nm, .slice ao x.kids.len cap] 64) := ⟨_, rfl⟩
  have hVb : Below w.heap.size w V := by rw [hV]; exact G.al1 _ _
  have hV0 : V.cell? ⟨w.heap.size, 0, none⟩ = some (.int .i64 x.op) := by rw [hV]; simp
  have hV1 : V.cell? ⟨w.heap.size, 1, none⟩ = some (.string x.nm) := by rw [hV]; simp
  have hV2 : V.cell? ⟨w.heap.size, 2, none⟩ = some (.slice ao x.kids.len cap) := by rw [hV]; simp
  have hmV := h.lw hVb
  have nq : q ≠ some w.heap.size := fun e => by have := (h.st.own _ e).2; omega
  have nr : w.heap.size ≠ r := by have := h.st.sz; omega
  have fV : Fm r q w V := Fm.of_below hVb
  have oV : Own w q q := .inl rfl
  have zV := hVb.size
  by_cases hv : 64 ≤ s.vars
  · have FN := fresh_no hmV hv
    rw [sy_full h.nb h1 h2 h3 hv]
    go_enter Try.func118, Try.ntmps118
    go_wp2_with fail
    rw [← hV]
    refine FN.mono ?_
    rintro e w1 hp
    obtain ⟨rfl, g1, g2, g3⟩ := hp.pre fV oV
    go_wp2_with fail
    exact ⟨rfl, OutM_no rfl ⟨rfl, g1, g2, g3⟩⟩
  have FY := fresh_yes hmV hv
  have hvb : (s.vars : Int) ≤ 64 := by omega
  obtain ⟨v, hvd⟩ : ∃ v : Int, v = (s.vars : Int) := ⟨_, rfl⟩
  rcases kinds hb with hk | hk | ⟨h4, hk⟩ | ⟨h567, hk⟩
  · omega
  · omega
  · -- a choice
    have hsy := sy_alt (N := N) (T := T) h.nb h4 hv
    rw [hsy]
    have PA := fun w' (hm : MkS w' r vn vt N T s.more q X df) hx => putAll_of (N := N) (T := T) (x := x) (iw h4) hm (va := .agg #[.int .i64 x.op, .string x.nm, .slice ao x.kids.len cap]) hx hb hs (s.vars : Int)
    generalize hR : x.put N T s.vars true false s.more = R at *
    clear hsy hR
    rw [← hvd] at FY PA ⊢
    clear hvd
    rw [h4] at hV0 hV PA ⊢
    go_enter Try.func118, Try.ntmps118
    go_wp2_with fail
    rw [← hV]
    have HV := hd hV
    clear hV
    refine FY.mono ?_
    rintro e w1 ⟨rfl, hm1, hf1⟩
    have c0 := hf1.cell hV0 nr nq
    have c1 := hf1.cell hV1 nr nq
    have c2 := hf1.cell hV2 nr nq
    have lw1 : Below r w w1 := h.st.low (fV.trans hf1 oV)
    have PA1 := PA w1 hm1 ⟨_, by rw [h4], hf.mono fun b o v hb hc => ⟨hb, by rw [lw1.cell (p := ⟨b, o, none⟩) hb]; exact hc⟩⟩
    go_wp2_with fail
    refine PA1.mono ?_
    rintro e w2 ho
    cases hRb : R.bad with
    | true =>
      obtain ⟨rfl, g1, g2, g3⟩ := (ho.no hRb).pre (fV.trans hf1 oV) oV
      go_wp2_with fail
      exact ⟨rfl, OutM_no hRb ⟨rfl, g1, g2, g3⟩⟩
    | false =>
      obtain ⟨u2, q2, rfl, rfl, hm2, hf2, ow2⟩ := ho.yes hRb
      go_wp2_with fail
      go_ret
      exact OutM_yes ⟨by first | rfl | trivial, by first | rfl | trivial⟩ hm2 ((fV.trans hf1 oV).trans hf2 oV) (oV.trans ow2 (by have := hf1.size; omega))
  · -- one part
    have hl0 : 0 < x.kids.len := by omega
    have hin0 : ∃ b o, ao = some ⟨b, o, none⟩ ∧ x.kids.In w (fun k => k < r) b o := by
      rcases hin with h0 | h0
      · omega
      · exact h0
    obtain ⟨b, o, rfl, hi0⟩ := hin0
    have hbr : b < r := by
      have hi0' := hi0
      revert hi0'
      cases hkk : x.kids with
      | nil => rw [hkk] at hl0; simp [Fo.len] at hl0
      | cons => exact fun h => h.1
    obtain ⟨a0, a1, uk, a2, hfk⟩ := hi0.at_ 0 hl0
    have hfk' := hfk
    obtain ⟨_, ak, ck, rfl, _⟩ := hfk'
    simp only [Nat.zero_mul, Nat.add_zero] at a0 a1 a2
    have hkb := Fo.bad_in (Xp.bad_zero hb).2 hl0
    have hks : (x.kids.at_ 0).sz ≤ 3000 := by have := Fo.sz_le hl0; unfold Xp.sz at hs; omega
    have IW := ih 0 hl0
    have lowc : ∀ w', Below r w w' → ∀ i u, w.cell? ⟨b, i, none⟩ = some u → w'.cell? ⟨b, i, none⟩ = some u := fun w' hb i u hc => by rw [hb.cell (p := ⟨b, i, none⟩) hbr]; exact hc
    have lowf : ∀ w', Below r w w' → XV w' (fun k => k < r) (.agg #[.int .i64 (x.kids.at_ 0).op, .string (x.kids.at_ 0).nm, .slice ak (x.kids.at_ 0).kids.len ck]) (x.kids.at_ 0) := fun w' hb => ⟨_, rfl, hfk.mono fun b o v hs hc => ⟨hs, by rw [hb.cell (p := ⟨b, o, none⟩) hs]; exact hc⟩⟩
    have hlk := hfk.1
    rw [hk] at hV hV2 ⊢
    rcases h567 with h5 | h6 | h7
    · -- or nothing
      have hsy := sy_opt (N := N) (T := T) h.nb h5 hl0 hv
      rw [hsy]
      rw [h5] at hV0 hV ⊢
      have hok := Xp.ways_ok hkb hks
      generalize x.kids.at_ 0 = y at *
      have PN := fun w' (hm : MkS w' r vn vt N T s.more q X df) hn => mput_no hm (v := (s.vars : Int)) (IsV_nil w' G.All) hn
      have PY := fun w' (hm : MkS w' r vn vt N T s.more q X df) h1 h2 => mput_yes hm (v := (s.vars : Int)) (IsV_nil w' G.All) h1 h2
      have PA := fun w' q' (hm : MkS w' r vn vt N T (s.more.rule s.vars []) q' X df) hx => putAll_of (N := N) (T := T) (x := y) IW hm (va := .agg #[.int .i64 y.op, .string y.nm, .slice ak y.kids.len ck]) hx hkb hks (s.vars : Int)
      clear hsy ih iw
      rw [← hvd] at FY PA PN PY ⊢
      clear hvd
      generalize hRd : y.put N T v true false (s.more.rule v []) = R at *
      go_enter Try.func118, Try.ntmps118
      go_wp2_with fail
      rw [← hV]
      have HV := hd hV
      clear hV
      refine FY.mono ?_
      rintro e w1 ⟨rfl, hm1, hf1⟩
      have c0 := hf1.cell hV0 nr nq
      have c1 := hf1.cell hV1 nr nq
      have c2 := hf1.cell hV2 nr nq
      have f01 : Fm r q w w1 := fV.trans hf1 oV
      by_cases hn : 160 ≤ s.more.rules.length ∨ 10 < ([] : List Int).length
      · have P1 := PN w1 hm1 hn
        clear PN PY PA
        rw [rule_no hn, Xp.put_bad rfl] at hRd
        go_wp2_with fail
        refine P1.mono ?_
        rintro e w2 h2
        obtain ⟨rfl, g1, g2, g3⟩ := h2.pre f01 oV
        go_wp2_with fail
        exact ⟨rfl, OutM_no (by rw [← hRd]; rfl) ⟨rfl, g1, g2, g3⟩⟩
      · have P1 := PY w1 hm1 (fun h => hn (.inl h)) (fun h => hn (.inr h))
        clear PN PY
        go_wp2_with fail
        refine P1.mono ?_
        rintro e w2 ⟨rfl, q2, hm2, hf2, ow2⟩
        have d2 := hf2.cell c2 nr nq
        have d0 := hf2.cell c0 nr nq
        have f02 : Fm r q w w2 := f01.trans hf2 oV
        have ow02 : Own w q q2 := oV.trans ow2 f01.size
        have lw2 := h.st.low f02
        have e0 := lowc w2 lw2 _ _ a0
        have e1 := lowc w2 lw2 _ _ a1
        have e2 := lowc w2 lw2 _ _ a2
        have PA2 := PA w2 q2 hm2 (lowf w2 lw2)
        go_wp2_with fail
        refine PA2.mono ?_
        rintro e w3 ho
        cases hRb : R.bad with
        | true =>
          obtain ⟨rfl, g1, g2, g3⟩ := (ho.no hRb).pre f02 ow02
          go_wp2_with fail
          exact ⟨rfl, OutM_no hRb ⟨rfl, g1, g2, g3⟩⟩
        | false =>
          obtain ⟨u3, q3, rfl, rfl, hm3, hf3, ow3⟩ := ho.yes hRb
          go_wp2_with fail
          go_ret
          exact OutM_yes ⟨by first | rfl | trivial, by first | rfl | trivial⟩ hm3 (f02.trans hf3 ow02) (ow02.trans ow3 f02.size)
    · -- any number of times
      have hsy := sy_star (N := N) (T := T) h.nb h6 hl0 hv
      rw [hsy]
      rw [h6] at hV0 hV ⊢
      have hok := Xp.ways_ok hkb hks
      generalize x.kids.at_ 0 = y at *
      have PN := fun w' (hm : MkS w' r vn vt N T s.more q X df) hn => mput_no hm (v := (s.vars : Int)) (IsV_nil w' G.All) hn
      have PY := fun w' (hm : MkS w' r vn vt N T s.more q X df) h1 h2 => mput_yes hm (v := (s.vars : Int)) (IsV_nil w' G.All) h1 h2
      have WA := fun w' q' s' (hm : MkS w' r vn vt N T s' q' X df) hx => ways_any y (.agg #[.int .i64 y.op, .string y.nm, .slice ak y.kids.len ck]) w' r (fun k => k ≠ r ∧ q' ≠ some k) hx (wy_cls hm).1 (wy_cls hm).2
      have hput : ∀ s', ((y.ways.drp 0).go N T (.ways v false true) s').2 = y.put N T v false true s' := fun s' => by rw [Fo.drp_zero]; rfl
      clear hsy ih iw
      rw [← hvd] at FY PN PY ⊢
      clear hvd
      have hR0 := hput (s.more.rule v [])
      generalize y.put N T v false true (s.more.rule v []) = R at *
      clear hput
      generalize y.ways = F at *
      go_enter Try.func118, Try.ntmps118
      go_wp2_with fail
      rw [← hV]
      have HV := hd hV
      clear hV
      refine FY.mono ?_
      rintro e w1 ⟨rfl, hm1, hf1⟩
      have c0 := hf1.cell hV0 nr nq
      have c1 := hf1.cell hV1 nr nq
      have c2 := hf1.cell hV2 nr nq
      have f01 : Fm r q w w1 := fV.trans hf1 oV
      by_cases hn : 160 ≤ s.more.rules.length ∨ 10 < ([] : List Int).length
      · have P1 := PN w1 hm1 hn
        clear PN PY
        rw [rule_no hn, Fo.go_bad rfl] at hR0
        go_wp2_with fail
        refine P1.mono ?_
        rintro e w2 h2
        obtain ⟨rfl, g1, g2, g3⟩ := h2.pre f01 oV
        go_wp2_with fail
        exact ⟨rfl, OutM_no (by rw [← hR0]; rfl) ⟨rfl, g1, g2, g3⟩⟩
      have P1 := PY w1 hm1 (fun h => hn (.inl h)) (fun h => hn (.inr h))
      clear PN PY
      go_wp2_with fail
      refine P1.mono ?_
      rintro e w2 ⟨rfl, q2, hm2, hf2, ow2⟩
      have d2 := hf2.cell c2 nr nq
      have f02 : Fm r q w w2 := f01.trans hf2 oV
      have ow02 : Own w q q2 := oV.trans ow2 f01.size
      have lw2 := h.st.low f02
      have e0 := lowc w2 lw2 _ _ a0
      have e1 := lowc w2 lw2 _ _ a1
      have e2 := lowc w2 lw2 _ _ a2
      have W2 := WA w2 q2 _ hm2 (lowf w2 lw2)
      generalize (s.more.rule v []) = s2 at *
      go_wp2_with fail
      refine W2.mono ?_
      rintro e w3 ⟨v3, rfl, wy3, hb3⟩
      obtain ⟨hFl, aoF, capF, rfl, _⟩ := id wy3
      have hm3 := hm2.lw hb3
      have HR := hd hR0
      clear hR0 W2 WA
      go_wp2_with fail
      go_loopw [44] (fun i wr => ∃ (k : Nat) (s1 : Sp) (q1 : Option Nat), k ≤ F.len ∧ i = .int .i64 k ∧ MkS wr r vn vt N T s1 q1 X df ∧ Hid (((F.drp k).go N T (.ways v false true) s1).2 = R) ∧ WyV wr r (fun k => k ≠ r ∧ q1 ≠ some k) (.slice aoF F.len capF) F ∧ Fm r q w wr ∧ Own w q q1) (fun i _ => F.len - (intOf i).toNat)
      case atStart => exact ⟨0, s2, q2, Nat.zero_le _, rfl, hm3, HR, wy3, f02.thenB hb3, ow02⟩
      case round =>
        obtain ⟨k, s1, q1, hkF, rfl, hm, hE, wy, hfr, how⟩ := hrel
        clear HR hm3 hm2 wy3 hmV hm1 FY
        by_cases hlt : k < F.len
        · obtain ⟨bF, oF, aF, cF, rfl, p0, p1, p2, hfF⟩ := wy.cells hlt
          have hz := hfr.size
          have IH := fun w' hb => IW k hlt r vn vt s1 q1 X df (.agg #[.int .i64 (F.at_ k).op, .string (F.at_ k).nm, .slice aF (F.at_ k).kids.len cF]) w' (hm.lw hb) ⟨_, rfl, hfF.mono fun _ _ _ hs h => ⟨hs, bkeep hb h⟩⟩ (hok k hlt).1 (hok k hlt).2
          have hE' := hE.out
          rw [Fo.ways_at hlt hm.nb] at hE'
          have hlen := Xp.sy_len (N := N) (T := T) (F.at_ k) s1
          have hl3 := (hok k hlt).2
          have hkl := hfF.1
          generalize (F.at_ k).sy N T s1 = z at *
          obtain ⟨L, s4⟩ := z
          generalize F.at_ k = xk at *
          simp only at IH hlen
          clear hE
          cases hs4 : s4.bad with
          | true =>
            rw [wayR_bad hs4, Fo.go_bad hs4] at hE'
            simp only at hE'
            subst hE'
            go_wp2_with fail
            refine (IH _ (G.al1 _ _)).mono ?_
            rintro e w4 h4
            obtain ⟨rfl, g1, g2, g3⟩ := (h4.no hs4).pre (hfr.thenB (G.al1 _ _)) how
            go_wp2_with fail
            exact ⟨rfl, OutM_no hs4 ⟨rfl, g1, g2, g3⟩⟩
          | false =>
            have HE := hd hE'
            clear hE'
            go_wp2_with fail
            refine (IH _ (G.al1 _ _)).mono ?_
            rintro e w4 h4
            obtain ⟨v4, q4, rfl, own4, hm4, hf4, ow4⟩ := h4.yes hs4
            have hf14 : Fm r q1 wr w4 := (Fm.of_below (q := q1) (G.al1 wr _)).trans hf4 (.inl rfl)
            have ow14 : Own wr q1 q4 := (Own.refl wr q1).trans ow4 (G.al1 wr _).size
            have wy4 := wy.fr hf14 (hm.st.low hf14) ow14
            have f04 : Fm r q w w4 := hfr.trans hf14 how
            have ow04 : Own w q q4 := how.trans ow14 hz
            have z4 := hf4.size
            simp at z4
            obtain ⟨ao4, cap4, rfl⟩ := owns_slice own4
            clear IH hfF p0 p1 p2
            have hbig : L.length ≤ 3000 := by omega
            have own4' : w4.ownsRow (wr.heap.size + 1) 3 1 (.slice ao4 L.length cap4) L.length (ints L) := by simpa using own4
            go_wp2_with (first | (at_builtin; go_must (refine wpList_append_ints _ rfl _ _ 33 rfl (wr.heap.size + 1) 3 j0 Try.underlying33 hj jz0 jz1 jz2 _ _ _ rfl (own4'.alloc _) G.All _ [v] rfl (IsV_one _ _ _) (by simp; omega) (by simp; omega) ?_)))
            intro v5 w5 own5 grow5 hat5
            have hm5 : MkS w5 r vn vt N T s4 q4 (op1 X v5) df := (hm4.lw (G.al1 w4 _)).grow grow5 (by simpa using hat5) (fun k e => (own5.lt k e).2)
            have hf15 : Fm r q1 wr w5 := (hf14.thenB (G.al1 w4 _)).grown grow5 (.inr fun k e => by have := (own4'.lt k e).1; omega)
            have wy5 := wy.fr hf15 (hm.st.low hf15) ow14
            have f05 : Fm r q w w5 := hfr.trans hf15 how
            have iv5 : IsV w5 G.All v5 (L ++ [v]) := IsV_owned (by rw [ints_app, List.length_append]; exact own5) (by simp; omega) (fun _ _ => trivial)
            have hm5' : MkS w5 r vn vt N T s4 q4 X df := hm5.weak (fun _ h => .inl h)
            have hlow := fun w6 (hf : Fm r q4 w5 w6) => hm5'.st.low hf
            have HE' : Hid (((F.drp (k + 1)).go N T (.ways v false true) (s4.rule v (L ++ [v]))).2 = R) := HE
            clear HE own4 own4' hm4 wy wy4 hm5
            by_cases hn : 160 ≤ s4.rules.length ∨ 10 < (L ++ [v]).length
            · have hR : R = s4.gone := by rw [← HE'.out, rule_no hn, Fo.go_bad rfl]
              have PN := mput_no hm5' (v := v) iv5 hn
              clear HE' own5 iv5 hm5'
              go_wp2_with fail
              refine PN.mono ?_
              rintro e w6 h6
              obtain ⟨rfl, g1, g2, g3⟩ := h6.pre f05 ow04
              go_wp2_with fail
              exact ⟨rfl, OutM_no (by rw [hR]; rfl) ⟨rfl, g1, g2, g3⟩⟩
            · have PY := mput_yes hm5' (v := v) iv5 (fun h => hn (.inl h)) (fun h => hn (.inr h))
              clear own5 iv5 hm5'
              go_wp2_with fail
              refine PY.mono ?_
              rintro e w6 ⟨rfl, q6, hm6, hf6, ow6⟩
              have wy6 := wy5.fr hf6 (hlow _ hf6) ow6
              go_wp2_with fail
              go_roundw
              case rel => exact ⟨k + 1, _, q6, by omega, by go_num, hm6, HE', wy6, f05.trans hf6 ow04, ow04.trans ow6 f05.size⟩
              case measure => simp [intOf]; omega
        · have hE' := hE.out
          rw [Fo.ways_end (by omega)] at hE'
          simp only at hE'
          subst hE'
          clear hE
          go_wp2_with fail
          go_ret
          exact OutM_yes ⟨by first | rfl | trivial, by first | rfl | trivial⟩ hm hfr how
    · -- once or more
      have hsy := sy_plus (N := N) (T := T) h.nb h7 hl0 hv
      rw [hsy]
      rw [h7] at hV0 hV ⊢
      have hok := Xp.ways_ok hkb hks
      generalize x.kids.at_ 0 = y at *
      have WA := fun w' q' s' (hm : MkS w' r vn vt N T s' q' X df) hx => ways_any y (.agg #[.int .i64 y.op, .string y.nm, .slice ak y.kids.len ck]) w' r (fun k => k ≠ r ∧ q' ≠ some k) hx (wy_cls hm).1 (wy_cls hm).2
      have hput : ∀ s', ((y.ways.drp 0).go N T (.ways v true true) s').2 = y.put N T v true true s' := fun s' => by rw [Fo.drp_zero]; rfl
      clear hsy ih iw
      rw [← hvd] at FY ⊢
      clear hvd
      have hR0 := hput s.more
      generalize y.put N T v true true s.more = R at *
      clear hput
      generalize y.ways = F at *
      go_enter Try.func118, Try.ntmps118
      go_wp2_with fail
      rw [← hV]
      have HV := hd hV
      clear hV
      refine FY.mono ?_
      rintro e w1 ⟨rfl, hm1, hf1⟩
      have c0 := hf1.cell hV0 nr nq
      have c1 := hf1.cell hV1 nr nq
      have c2 := hf1.cell hV2 nr nq
      have f01 : Fm r q w w1 := fV.trans hf1 oV
      obtain ⟨w2, hw2⟩ : ∃ w2, w2 = w1 := ⟨_, rfl⟩
      obtain ⟨q2, hq2⟩ : ∃ q2, q2 = q := ⟨_, rfl⟩
      have hm2 : MkS w2 r vn vt N T s.more q2 X df := by rw [hw2, hq2]; exact hm1
      have d2 : w2.cell? ⟨w.heap.size, 2, none⟩ = some (.slice (some ⟨b, o, none⟩) 1 cap) := by rw [hw2]; exact c2
      have d0 : w2.cell? ⟨w.heap.size, 0, none⟩ = some (.int .i64 7) := by rw [hw2]; exact c0
      have f02 : Fm r q w w2 := by rw [hw2]; exact f01
      have ow02 : Own w q q2 := by rw [hq2]; exact oV
      rw [← hw2]
      clear hw2 hq2
      have lw2 := h.st.low f02
      have e0 := lowc w2 lw2 _ _ a0
      have e1 := lowc w2 lw2 _ _ a1
      have e2 := lowc w2 lw2 _ _ a2
      have W2 := WA w2 q2 _ hm2 (lowf w2 lw2)
      generalize s.more = s2 at *
      go_wp2_with fail
      refine W2.mono ?_
      rintro e w3 ⟨v3, rfl, wy3, hb3⟩
      obtain ⟨hFl, aoF, capF, rfl, _⟩ := id wy3
      have hm3 := hm2.lw hb3
      have HR := hd hR0
      clear hR0 W2 WA
      go_wp2_with fail
      go_loopw [66] (fun i wr => ∃ (k : Nat) (s1 : Sp) (q1 : Option Nat), k ≤ F.len ∧ i = .int .i64 k ∧ MkS wr r vn vt N T s1 q1 X df ∧ Hid (((F.drp k).go N T (.ways v true true) s1).2 = R) ∧ WyV wr r (fun k => k ≠ r ∧ q1 ≠ some k) (.slice aoF F.len capF) F ∧ Fm r q w wr ∧ Own w q q1) (fun i _ => F.len - (intOf i).toNat)
      case atStart => exact ⟨0, s2, q2, Nat.zero_le _, rfl, hm3, HR, wy3, f02.thenB hb3, ow02⟩
      case round =>
        obtain ⟨k, s1, q1, hkF, rfl, hm, hE, wy, hfr, how⟩ := hrel
        clear HR hm3 hm2 wy3 hmV hm1 FY
        by_cases hlt : k < F.len
        · obtain ⟨bF, oF, aF, cF, rfl, p0, p1, p2, hfF⟩ := wy.cells hlt
          have hz := hfr.size
          have IH := fun w' hb => IW k hlt r vn vt s1 q1 X df (.agg #[.int .i64 (F.at_ k).op, .string (F.at_ k).nm, .slice aF (F.at_ k).kids.len cF]) w' (hm.lw hb) ⟨_, rfl, hfF.mono fun _ _ _ hs h => ⟨hs, bkeep hb h⟩⟩ (hok k hlt).1 (hok k hlt).2
          have hE' := hE.out
          rw [Fo.ways_at hlt hm.nb] at hE'
          have hlen := Xp.sy_len (N := N) (T := T) (F.at_ k) s1
          have hl3 := (hok k hlt).2
          have hkl := hfF.1
          generalize (F.at_ k).sy N T s1 = z at *
          obtain ⟨L, s4⟩ := z
          generalize F.at_ k = xk at *
          simp only at IH hlen
          clear hE
          cases hs4 : s4.bad with
          | true =>
            rw [wayR_bad hs4, Fo.go_bad hs4] at hE'
            simp only at hE'
            subst hE'
            go_wp2_with fail
            refine (IH _ (G.al1 _ _)).mono ?_
            rintro e w4 h4
            obtain ⟨rfl, g1, g2, g3⟩ := (h4.no hs4).pre (hfr.thenB (G.al1 _ _)) how
            go_wp2_with fail
            exact ⟨rfl, OutM_no hs4 ⟨rfl, g1, g2, g3⟩⟩
          | false =>
            have HE := hd hE'
            clear hE'
            go_wp2_with fail
            refine (IH _ (G.al1 _ _)).mono ?_
            rintro e w4 h4
            obtain ⟨v4, q4, rfl, own4, hm4, hf4, ow4⟩ := h4.yes hs4
            have hf14 : Fm r q1 wr w4 := (Fm.of_below (q := q1) (G.al1 wr _)).trans hf4 (.inl rfl)
            have ow14 : Own wr q1 q4 := (Own.refl wr q1).trans ow4 (G.al1 wr _).size
            have wy4 := wy.fr hf14 (hm.st.low hf14) ow14
            have f04 : Fm r q w w4 := hfr.trans hf14 how
            have ow04 : Own w q q4 := how.trans ow14 hz
            have z4 := hf4.size
            simp at z4
            obtain ⟨ao4, cap4, rfl⟩ := owns_slice own4
            clear IH hfF p0 p1 p2
            have hbig : L.length ≤ 3000 := by omega
            have own4' : w4.ownsRow (wr.heap.size + 1) 3 1 (.slice ao4 L.length cap4) L.length (ints L) := by simpa using own4
            have iv4 : IsV w4 G.All (.slice ao4 L.length cap4) L := IsV_owned own4 (by omega) (fun _ _ => trivial)
            by_cases hn : 160 ≤ s4.rules.length ∨ 10 < L.length
            · have hR : R = s4.gone := by
                rw [← HE.out]
                unfold wayR wayP
                simp only [if_true]
                rw [rule_no hn, wayA_bad rfl, Fo.go_bad rfl]
              have PN := mput_no hm4 (v := v) iv4 hn
              clear HE own4 own4' iv4 hm4 wy wy4
              go_wp2_with fail
              refine PN.mono ?_
              rintro e w6 h6
              obtain ⟨rfl, g1, g2, g3⟩ := h6.pre f04 ow04
              go_wp2_with fail
              exact ⟨rfl, OutM_no (by rw [hR]; rfl) ⟨rfl, g1, g2, g3⟩⟩
            have PY := mput_yes hm4 (v := v) iv4 (fun h => hn (.inl h)) (fun h => hn (.inr h))
            have hxo := fun k (e : (Value.slice ao4 L.length cap4).ownBlock = some k) => hm4.st.xo k (.inr e)
            have HE' : Hid (((F.drp (k + 1)).go N T (.ways v true true) ((s4.rule v L).rule v (L ++ [v]))).2 = R) := HE
            clear HE own4 iv4 hm4 wy4
            go_wp2_with fail
            refine PY.mono ?_
            rintro e w6 ⟨rfl, q6, hm6, hf6, ow6⟩
            have own6 := owns_fr own4' hf6 (fun k e => ⟨by have := (hxo k e).1; omega, (hxo k e).2.2⟩)
            have hf16 : Fm r q1 wr w6 := hf14.trans hf6 ow14
            have ow16 : Own wr q1 q6 := ow14.trans ow6 hf14.size
            have ow06 : Own w q q6 := how.trans ow16 hz
            have z6 := hf6.size
            generalize s4.rule v L = s5 at *
            go_wp2_with (first | (at_builtin; go_must (refine wpList_append_ints _ rfl _ _ 33 rfl (wr.heap.size + 1) 3 j0 Try.underlying33 hj jz0 jz1 jz2 _ _ _ rfl (own6.alloc _) G.All _ [v] rfl (IsV_one _ _ _) (by simp; omega) (by simp; omega) ?_)))
            intro v7 w7 own7 grow7 hat7
            have hm7 : MkS w7 r vn vt N T s5 q6 (op1 X v7) df := (hm6.lw (G.al1 w6 _)).grow grow7 (by simpa using hat7) (fun k e => (own7.lt k e).2)
            have hf17 : Fm r q1 wr w7 := (hf16.thenB (G.al1 w6 _)).grown grow7 (.inr fun k e => by have := (own6.lt k e).1; omega)
            have wy7 := wy.fr hf17 (hm.st.low hf17) ow16
            have f07 : Fm r q w w7 := hfr.trans hf17 how
            have iv7 : IsV w7 G.All v7 (L ++ [v]) := IsV_owned (by rw [ints_app, List.length_append]; exact own7) (by simp; omega) (fun _ _ => trivial)
            have hm7' : MkS w7 r vn vt N T s5 q6 X df := hm7.weak (fun _ h => .inl h)
            have hlow := fun w8 (hf : Fm r q6 w7 w8) => hm7'.st.low hf
            clear own6 own4' hm6 wy hm7
            by_cases hn2 : 160 ≤ s5.rules.length ∨ 10 < (L ++ [v]).length
            · have hR : R = s5.gone := by rw [← HE'.out, rule_no hn2, Fo.go_bad rfl]
              have PN := mput_no hm7' (v := v) iv7 hn2
              clear HE' own7 iv7 hm7'
              go_wp2_with fail
              refine PN.mono ?_
              rintro e w8 h8
              obtain ⟨rfl, g1, g2, g3⟩ := h8.pre f07 ow06
              go_wp2_with fail
              exact ⟨rfl, OutM_no (by rw [hR]; rfl) ⟨rfl, g1, g2, g3⟩⟩
            · have PY := mput_yes hm7' (v := v) iv7 (fun h => hn2 (.inl h)) (fun h => hn2 (.inr h))
              clear own7 iv7 hm7'
              go_wp2_with fail
              refine PY.mono ?_
              rintro e w8 ⟨rfl, q8, hm8, hf8, ow8⟩
              have wy8 := wy7.fr hf8 (hlow _ hf8) ow8
              go_wp2_with fail
              go_roundw
              case rel => exact ⟨k + 1, _, q8, by omega, by go_num, hm8, HE', wy8, f07.trans hf8 ow06, ow06.trans ow8 f07.size⟩
              case measure => simp [intOf]; omega
        · have hE' := hE.out
          rw [Fo.ways_end (by omega)] at hE'
          simp only at hE'
          subst hE'
          clear hE
          go_wp2_with fail
          go_ret
          exact OutM_yes ⟨by first | rfl | trivial, by first | rfl | trivial⟩ hm hfr how
end
end Go.Proofs.Ytghplmldnkcpnac
