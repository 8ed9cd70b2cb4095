/- Texts laid together: Tk Vq Zi. -/
import Derived.Test.YtlhdppkllmnmkaeL03
import Derived.Test.YtlhdppkllmnmkaeL23
import Derived.Test.YtlhdppkllmnmkaeL14
import Derived.Test.YtlhdppkllmnmkaeL01
/- The word of a tree, the document's way. -/
namespace Go.Proofs.Ytlhdppkllmnmkae.G
open Go.RowKit
def WoOK (t : Tr) : Prop := ∀ (g : Gm) (va vt : Value) (v : Int) (w : World), GV w All va g → TrV w All vt t → Small g.rules → Near g.rules → fitT g.rules t v = true → (wdT g.rules t).length ≤ 1000000 →
  Calls Try.prog 48 #[va, vt] w fun e w' => ∃ vo, e = .returned vo ∧ w'.ownsRow w.heap.size 3 1 vo (wdT g.rules t).length (ints (wdT g.rules t)) ∧ Below w.heap.size w w'
set_option maxRecDepth 100000 in
set_option maxHeartbeats 16000000 in
theorem wo_head (t : Tr) (ih : ∀ i, i < t.kids.len → WoOK (t.kids.at_ i)) : WoOK t := by
  intro g va vt v w hg ht hs hn hf hlen
  obtain ⟨i0, hi, iz0, iz1, iz2⟩ := info_parts Try.infoInt
  obtain ⟨ua, rfl, ra⟩ := hg
  obtain ⟨ut, rfl, kt⟩ := ht
  obtain ⟨ao, cap, rfl⟩ := ra.slice
  obtain ⟨at_, ct, rfl, _⟩ := kt.slice
  obtain ⟨r, hr, hrule, _, hfk, hword⟩ := fit_rule hf
  obtain ⟨R, hR⟩ : ∃ R, R = wdT g.rules t := ⟨_, rfl⟩
  rw [← hR] at hlen hword ⊢
  obtain ⟨W, hW⟩ : ∃ W, W = (w.alloc (.cells #[.int .i64 g.vars, .int .i64 g.terms, .int .i64 g.start, .slice ao g.rules.length cap] 24)).alloc (.cells #[.int .i64 t.rule, .slice at_ t.kids.len ct] 44) := ⟨_, rfl⟩
  have hWb : Below w.heap.size w W := by rw [hW]; exact al2 _ _ _
  have hWz := hWb.size
  have x0 : W.cell? ⟨w.heap.size, 0, none⟩ = some (.int .i64 g.vars) := by rw [hW]; simp
  have x1 : W.cell? ⟨w.heap.size, 1, none⟩ = some (.int .i64 g.terms) := by rw [hW]; simp
  have x2 : W.cell? ⟨w.heap.size, 2, none⟩ = some (.int .i64 g.start) := by rw [hW]; simp
  have x3 : W.cell? ⟨w.heap.size, 3, none⟩ = some (.slice ao g.rules.length cap) := by rw [hW]; simp
  have y1 : W.cell? ⟨w.heap.size + 1, 1, none⟩ = some (.slice at_ t.kids.len ct) := by rw [hW]; simp
  rw [hrule] at hW ⊢
  obtain ⟨b, o, rfl, c0, ar, cr, c1, hx⟩ := (ra.lw hWb).at_ hr
  have hnr := hn r hr
  have hl := ra.1
  have hm := kt.1
  have raW := ra.lw hWb
  have ktW := kt.lw hWb
  generalize g.rules[r] = x at *
  have hxl := hx.1
  clear ra kt hf
  rw [hW] at c0 c1
  go_enter Try.func48, Try.ntmps48
  go_wp2_with fail
  rw [← hW]
  rw [← hW] at c0 c1
  have HW := hd hW
  clear hW
  go_loopw [5, 6, 8] (fun a1 jj i wr => ∃ (k j : Nat) (acc : List Int) (vr : Value), vr = a1 ∧ k ≤ x.right.length ∧ j ≤ t.kids.len ∧ i = .int .i64 k ∧ jj = .int .i64 j ∧ Hid (R = acc ++ wdR (x.right.drop k) (wdF g.rules (t.kids.drp j))) ∧ Hid (fitF g.rules (t.kids.drp j) (kidsL (x.right.drop k)) = true) ∧ wr.ownsRow W.heap.size 3 1 vr acc.length (ints acc) ∧ Below W.heap.size W wr) (fun _ _ i _ => x.right.length - (intOf i).toNat)
  case atStart => exact ⟨0, 0, [], _, rfl, Nat.zero_le _, Nat.zero_le _, rfl, rfl, hd (by rw [hword, Tf.drp_zero, List.drop_zero]; rfl), hd (by rw [Tf.drp_zero, List.drop_zero]; exact hfk), World.ownsRow_nil _ _ _ _, Below.refl _ _⟩
  case round =>
    obtain ⟨k, j, acc, vr, rfl, hk, hj, rfl, rfl, hinv, hfit, hown, hb⟩ := hrel
    have hz := hb.size
    clear hR hword
    by_cases hlt : k < x.right.length
    · obtain ⟨br, or', rfl, d0⟩ := (hx.lw hb).at_ hlt
      obtain ⟨hb1, hb2⟩ := hnr k hlt
      by_cases hs0 : x.right[k] < 0
      · have HI : Hid (R = (acc ++ [-1 - x.right[k]]) ++ wdR (x.right.drop (k + 1)) (wdF g.rules (t.kids.drp j))) := hd (by rw [hinv.out, wdR_neg hlt hs0]; simp)
        have HF : Hid (fitF g.rules (t.kids.drp j) (kidsL (x.right.drop (k + 1))) = true) := hd (by rw [← kidsL_dneg hlt hs0]; exact hfit.out)
        have hal : acc.length + 1 ≤ 1000000 := by
          have := congrArg List.length HI.out
          simp at this; omega
        clear hinv hfit
        generalize x.right[k] = s at *
        obtain ⟨arv, crv, rfl⟩ := owns_slice hown
        go_wp2_with (first | (at_builtin; go_must (refine wpList_append_own_at _ rfl _ _ 25 rfl W.heap.size 3 i0 (.int .i64 0) 1 8 Try.underlying25 hi iz0 iz1 iz2 rfl (by decide) _ _ _ rfl (hown.alloc _) ⟨wr.heap.size, 0, none⟩ 1 1 [.int .i64 (-1 - s)] rfl rfl (cell_one_at _ _ _ (by simp)) (oneInts [-1 - s]) (by unfold maxLen; omega) (by omega) (by simp <;> omega) ?_)))
        intro v1 W1 own1 grow1 _ _
        go_wp2_with fail
        go_roundw
        case rel => exact ⟨k + 1, j, acc ++ [-1 - s], _, rfl, by omega, hj, by go_num, rfl, HI, HF, by rw [List.length_append, ints_app]; exact own1, (hb.alloc hz _).grown grow1 (by simp <;> omega) (fun q e => (hown.lt q e).1)⟩
        case measure => simp [intOf]; omega
      · obtain ⟨hjl, hft, hfr⟩ := fit_pos hlt hs0 hfit.out
        have HI : Hid (R = (acc ++ wdT g.rules (t.kids.at_ j)) ++ wdR (x.right.drop (k + 1)) (wdF g.rules (t.kids.drp (j + 1)))) := hd (by rw [hinv.out, wdR_pos hlt hs0 hjl, List.append_assoc])
        have HF := hd hfr
        have hal : acc.length + (wdT g.rules (t.kids.at_ j)).length ≤ 1000000 := by
          have := congrArg List.length HI.out
          rw [List.length_append, List.length_append] at this
          omega
        obtain ⟨bk, ok, rfl, _, e0, aq, cq, e1, hq⟩ := (ktW.lw hb).at_ hjl
        have IH := ih j hjl
        clear hinv hfit hfr
        generalize t.kids.at_ j = y at *
        have drw : Below wr.heap.size wr wr.drew := drw1 wr
        have bD := bthen hb drw
        have IHd := IH g _ _ x.right[k] wr.drew ⟨_, rfl, raW.lw bD⟩ (TrV_mk (hq.lw drw)) hs hn hft (by omega)
        generalize x.right[k] = s at *
        have hsb : decide (s < 0) = false := by simpa using hs0
        have p0 : wr.drew.cell? ⟨w.heap.size, 0, none⟩ = _ := bkeep hb x0
        have p1 : wr.drew.cell? ⟨w.heap.size, 1, none⟩ = _ := bkeep hb x1
        have p2 : wr.drew.cell? ⟨w.heap.size, 2, none⟩ = _ := bkeep hb x2
        have p3 : wr.drew.cell? ⟨w.heap.size, 3, none⟩ = _ := bkeep hb x3
        have p4 : wr.drew.cell? ⟨w.heap.size + 1, 1, none⟩ = _ := bkeep hb y1
        have e0' : wr.drew.cell? ⟨bk, ok + j * 2, none⟩ = _ := e0
        have e1' : wr.drew.cell? ⟨bk, ok + j * 2 + 1, none⟩ = _ := e1
        have hvl : ∀ q, vr.ownBlock = some q → W.heap.size ≤ q ∧ q < wr.heap.size := fun q e => hown.lt q e
        have hownD : wr.drew.ownsRow W.heap.size 3 1 vr acc.length (ints acc) := hown
        obtain ⟨arv, crv, rfl⟩ := owns_slice hown
        generalize hwt : wdT g.rules y = L at *
        have HWT := hd hwt
        clear hwt
        go_wp2_with fail
        go_region_law
          (first
            | (go_simp; go_at_call 48; refine IHd.mono ?_; rintro e w2 ⟨v2, rfl, own2, hb2⟩; have i2 := IsV_owned (S := All) own2 (by omega) (fun _ _ => trivial); obtain ⟨a2, c2, rfl⟩ := i2.slice; have z2 := hb2.size; have own3 := owns_below hownD hb2)
            | (refine step_ints rfl (.tmp 35) (.tmp 42) 25 rfl W.heap.size 3 i0 Try.underlying25 hi iz0 iz1 iz2 (.slice arv acc.length crv) acc.length (ints acc) rfl own3 All (.slice a2 L.length c2) L rfl i2 hal (by have : W.heap.size ≤ wr.drew.heap.size := hz; omega) ?_; intro v4 w4 own4 grow4 hat4))
        all_goals
          have b4 : Below W.heap.size W w4 := (bD.trans (hb2.mono hz)).grown grow4 (by have : wr.drew.heap.size = wr.heap.size := rfl; omega) (fun q e => (hvl q e).1)
          go_wp2_with fail
          go_roundw
          case rel => exact ⟨k + 1, j + 1, acc ++ L, _, rfl, by omega, by omega, by go_num, by go_num, HI, HF, by rw [List.length_append, ints_app]; exact own4, b4⟩
          case measure => simp [intOf]; omega
    · have he : acc = R := by rw [hinv.out, wdR_end (by omega), List.append_nil]
      rw [he] at hown
      clear hinv he
      obtain ⟨arv, crv, rfl⟩ := owns_slice hown
      go_wp2_with fail
      go_ret
      exact ⟨_, rfl, owns_mono hown (by omega), bthen hWb hb⟩
theorem wo_all : ∀ (f : Tf) (i : Nat), i < f.len → WoOK (f.at_ i)
  | .nil, _, h => absurd h (Nat.not_lt_zero _)
  | .cons rule kids _, 0, _ => wo_head ⟨rule, kids⟩ (wo_all kids)
  | .cons _ _ rest, i + 1, h => wo_all rest i (by simpa [Tf.len] using h)
theorem wordOf_any (t : Tr) : WoOK t := wo_head t (wo_all t.kids)
end Go.Proofs.Ytlhdppkllmnmkae.G

/- The document's order of a word's trees. -/
namespace Go.Proofs.Ytlhdppkllmnmkae.G
open Go.RowKit
def AhOK (a : Tr) : Prop := ∀ (b : Tr) (g : Gm) (va vb vg : Value) (v : Int) (w : World), GV w All vg g → TrV w All va a → TrV w All vb b → Small g.rules → Near g.rules → fitT g.rules a v = true → fitT g.rules b v = true → a.sz ≤ 400 → b.sz ≤ 400 →
  Calls Try.prog 23 #[vg, va, vb] w fun e w' => e = .returned (.int .i64 (ahT g.rules a b)) ∧ Below w.heap.size w w'
theorem ahF_nil (R : List Ru) (f : Tf) : ahF R .nil f = 0 := by cases f <;> rfl
theorem fit_kid {R : List Ru} : ∀ {f : Tf} {vs : List Int} {q : Nat}, fitF R f vs = true → q < f.len → ∃ h : q < vs.length, fitT R (f.at_ q) vs[q] = true
  | .nil, _, _, _, h => absurd h (Nat.not_lt_zero _)
  | .cons r k rest, [], _, h, _ => by simp [fitF] at h
  | .cons r k rest, v :: vs, 0, h, _ => by
    rw [fitF_cons, Bool.and_eq_true] at h
    exact ⟨by simp, h.1⟩
  | .cons r k rest, v :: vs, q + 1, h, hq => by
    rw [fitF_cons, Bool.and_eq_true] at h
    obtain ⟨h1, h2⟩ := fit_kid h.2 (q := q) (by simpa [Tf.len] using hq)
    exact ⟨by simpa using h1, by show fitT R (rest.at_ q) _ = true; simpa using h2⟩
set_option maxRecDepth 100000 in
set_option maxHeartbeats 1000000 in
theorem ah_head (a : Tr) (ih : ∀ i, i < a.kids.len → AhOK (a.kids.at_ i)) : AhOK a := by
  intro b g va vb vg v w hg ha hb hs hn hfa hfb hsa hsb
  obtain ⟨p, hp, hra, _, hka, _⟩ := fit_rule hfa
  obtain ⟨p', hp', hrb, _, hkb, _⟩ := fit_rule hfb
  obtain ⟨ug, rfl, hr⟩ := hg
  obtain ⟨ag, cg, rfl⟩ := hr.slice
  obtain ⟨ua, rfl, hxa⟩ := ha
  obtain ⟨aa, ca, rfl, _⟩ := hxa.slice
  obtain ⟨ub, rfl, hxb⟩ := hb
  obtain ⟨ab, cb, rfl, _⟩ := hxb.slice
  obtain ⟨W, hW⟩ : ∃ W, W = ((w.alloc (.cells #[.int .i64 g.vars, .int .i64 g.terms, .int .i64 g.start, .slice ag g.rules.length cg] 24)).alloc (.cells #[.int .i64 a.rule, .slice aa a.kids.len ca] 44)).alloc (.cells #[.int .i64 b.rule, .slice ab b.kids.len cb] 44) := ⟨_, rfl⟩
  have hWb : Below w.heap.size w W := by rw [hW]; exact (al2 _ _ _).alloc (by simp; omega) _
  have d0 : W.cell? ⟨w.heap.size, 0, none⟩ = some (.int .i64 g.vars) := by rw [hW]; simp [go_sem]
  have d1 : W.cell? ⟨w.heap.size, 1, none⟩ = some (.int .i64 g.terms) := by rw [hW]; simp [go_sem]
  have d2 : W.cell? ⟨w.heap.size, 2, none⟩ = some (.int .i64 g.start) := by rw [hW]; simp [go_sem]
  have d3 : W.cell? ⟨w.heap.size, 3, none⟩ = some (.slice ag g.rules.length cg) := by rw [hW]; simp [go_sem]
  have a0 : W.cell? ⟨w.heap.size + 1, 0, none⟩ = some (.int .i64 a.rule) := by rw [hW]; simp [go_sem]
  have a1 : W.cell? ⟨w.heap.size + 1, 1, none⟩ = some (.slice aa a.kids.len ca) := by rw [hW]; simp [go_sem]
  have b0 : W.cell? ⟨w.heap.size + 1 + 1, 0, none⟩ = some (.int .i64 b.rule) := by rw [hW]; simp [go_sem]
  have b1 : W.cell? ⟨w.heap.size + 1 + 1, 1, none⟩ = some (.slice ab b.kids.len cb) := by rw [hW]; simp [go_sem]
  obtain ⟨R, hR⟩ : ∃ R, R = ahT g.rules a b := ⟨_, rfl⟩
  rw [← hR]
  by_cases h1 : a.rule < b.rule
  · have hz := hd (hR.trans (if_pos h1))
    have hne : (a.rule != b.rule) = true := by simp; omega
    have hlt : decide (a.rule < b.rule) = true := decide_eq_true h1
    clear hR hra hrb
    go_enter Try.func23, Try.ntmps23
    rw [hW] at a0 b0
    go_wp2_with fail
    rw [← hW]
    go_ret
    exact ⟨ret_int hz.out.symm, hWb⟩
  by_cases h2 : b.rule < a.rule
  · have hz := hd (hR.trans ((if_neg h1).trans (if_pos h2)))
    have hne : (a.rule != b.rule) = true := by simp; omega
    have hlt : decide (a.rule < b.rule) = false := decide_eq_false h1
    clear hR hra hrb
    go_enter Try.func23, Try.ntmps23
    rw [hW] at a0 b0
    go_wp2_with fail
    rw [← hW]
    go_ret
    exact ⟨ret_int hz.out.symm, hWb⟩
  have heq : a.rule = b.rule := by omega
  have hR2 : R = ahF g.rules a.kids b.kids := hR.trans ((if_neg h1).trans (if_neg h2))
  obtain rfl : p = p' := by omega
  have hl : a.kids.len = b.kids.len := by rw [fitF_len _ _ _ hka, fitF_len _ _ _ hkb]
  have hne : (a.rule != b.rule) = false := by simpa using heq
  have hkl : a.kids.len ≤ 400 := by have := Tf.len_sz a.kids; unfold Tr.sz at hsa; omega
  have HKA := hd hka
  have HKB := hd hkb
  have HR2 := hd hR2
  have HLL := hd hl
  clear hl
  clear hR hR2 h1 h2 hfa hfb hka hkb
  rw [← heq] at hW b0 hne ⊢
  generalize a.rule = ru at *
  clear hra hrb heq
  go_enter Try.func23, Try.ntmps23
  rw [hW] at a0 b0
  go_wp2_with fail
  rw [← hW]
  rw [← hW] at a0 b0
  have HW := hd hW
  clear hW
  go_loopw [7] (fun i wr => ∃ k : Nat, k ≤ a.kids.len ∧ i = .int .i64 k ∧ Hid (R = ahF g.rules (a.kids.drp k) (b.kids.drp k)) ∧ Below W.heap.size W wr) (fun i _ => a.kids.len - (intOf i).toNat)
  case atStart => exact ⟨0, Nat.zero_le _, rfl, hd (by rw [Tf.drp_zero, Tf.drp_zero]; exact HR2.out), Below.refl _ _⟩
  case round =>
    obtain ⟨k, hk, rfl, hinv, hbr⟩ := hrel
    have bel := bthen hWb hbr
    by_cases hlt : k < a.kids.len
    · have hltb : k < b.kids.len := by have := HLL.out; omega
      have IH := ih k hlt (b.kids.at_ k)
      obtain ⟨h1, f1⟩ := fit_kid HKA.out hlt
      obtain ⟨h2, f2⟩ := fit_kid HKB.out hltb
      have hza := Tf.sz_at hlt
      have hzb := Tf.sz_at hltb
      have HI : Hid (R = if (wdT g.rules (a.kids.at_ k)).length < (wdT g.rules (b.kids.at_ k)).length then -1 else if (wdT g.rules (b.kids.at_ k)).length < (wdT g.rules (a.kids.at_ k)).length then 1 else if ahT g.rules (a.kids.at_ k) (b.kids.at_ k) ≠ 0 then ahT g.rules (a.kids.at_ k) (b.kids.at_ k) else ahF g.rules (a.kids.drp (k + 1)) (b.kids.drp (k + 1))) := hd (by
        rw [hinv.out, Tf.drp_at hlt, Tf.drp_at hltb, ahF_cons])
      obtain ⟨ba, oa, rfl, _, c0, aq, cq, c1, hqa⟩ := (hxa.lw bel).at_ hlt
      obtain ⟨bb, ob, rfl, _, e0, ar, cr, e1, hqb⟩ := (hxb.lw bel).at_ hltb
      have hsa' : (a.kids.at_ k).sz ≤ 400 := by unfold Tr.sz at hsa; omega
      have hsb' : (b.kids.at_ k).sz ≤ 400 := by unfold Tr.sz at hsb; omega
      clear hinv hza hzb
      generalize a.kids.at_ k = x at *
      generalize b.kids.at_ k = y at *
      generalize (kidsL (g.rules[p]'hp).right)[k] = s at *
      have hlx := wdT_len hs x
      have hly := wdT_len hs y
      have drw : Below wr.heap.size wr wr.drew := drw1 wr
      have WX := fun u (hu : Below wr.heap.size wr u) => wordOf_any x g (.agg #[.int .i64 g.vars, .int .i64 g.terms, .int .i64 g.start, .slice ag g.rules.length cg]) (.agg #[.int .i64 x.rule, .slice aq x.kids.len cq]) s u ⟨_, rfl, hr.lw (bthen bel hu)⟩ (TrV_mk (hqa.lw hu)) hs hn f1 (by omega)
      have WY := fun u (hu : Below wr.heap.size wr u) => wordOf_any y g (.agg #[.int .i64 g.vars, .int .i64 g.terms, .int .i64 g.start, .slice ag g.rules.length cg]) (.agg #[.int .i64 y.rule, .slice ar y.kids.len cr]) s u ⟨_, rfl, hr.lw (bthen bel hu)⟩ (TrV_mk (hqb.lw hu)) hs hn f2 (by omega)
      have IH' := fun u (hu : Below wr.heap.size wr u) => IH g (.agg #[.int .i64 x.rule, .slice aq x.kids.len cq]) (.agg #[.int .i64 y.rule, .slice ar y.kids.len cr]) (.agg #[.int .i64 g.vars, .int .i64 g.terms, .int .i64 g.start, .slice ag g.rules.length cg]) s u ⟨_, rfl, hr.lw (bthen bel hu)⟩ (TrV_mk (hqa.lw hu)) (TrV_mk (hqb.lw hu)) hs hn f1 f2 hsa' hsb'
      have eR : wr.cell? ⟨w.heap.size, 0, none⟩ = some (.int .i64 g.vars) ∧ wr.cell? ⟨w.heap.size, 1, none⟩ = some (.int .i64 g.terms) ∧ wr.cell? ⟨w.heap.size, 2, none⟩ = some (.int .i64 g.start) ∧ wr.cell? ⟨w.heap.size, 3, none⟩ = some (.slice ag g.rules.length cg) ∧ wr.cell? ⟨w.heap.size + 1, 1, none⟩ = some (.slice (some ⟨ba, oa, none⟩) a.kids.len ca) ∧ wr.cell? ⟨w.heap.size + 1 + 1, 1, none⟩ = some (.slice (some ⟨bb, ob, none⟩) b.kids.len cb) ∧ wr.cell? ⟨ba, oa + k * 2, none⟩ = some (.int .i64 x.rule) ∧ wr.cell? ⟨ba, oa + k * 2 + 1, none⟩ = some (.slice aq x.kids.len cq) ∧ wr.cell? ⟨bb, ob + k * 2, none⟩ = some (.int .i64 y.rule) ∧ wr.cell? ⟨bb, ob + k * 2 + 1, none⟩ = some (.slice ar y.kids.len cr) := ⟨bkeep hbr d0, bkeep hbr d1, bkeep hbr d2, bkeep hbr d3, bkeep hbr a1, bkeep hbr b1, c0, c1, e0, e1⟩
      have eP : wr.drew.cell? ⟨w.heap.size, 0, none⟩ = some (.int .i64 g.vars) ∧ wr.drew.cell? ⟨w.heap.size, 1, none⟩ = some (.int .i64 g.terms) ∧ wr.drew.cell? ⟨w.heap.size, 2, none⟩ = some (.int .i64 g.start) ∧ wr.drew.cell? ⟨w.heap.size, 3, none⟩ = some (.slice ag g.rules.length cg) ∧ wr.drew.cell? ⟨w.heap.size + 1, 1, none⟩ = some (.slice (some ⟨ba, oa, none⟩) a.kids.len ca) ∧ wr.drew.cell? ⟨w.heap.size + 1 + 1, 1, none⟩ = some (.slice (some ⟨bb, ob, none⟩) b.kids.len cb) ∧ wr.drew.cell? ⟨ba, oa + k * 2, none⟩ = some (.int .i64 x.rule) ∧ wr.drew.cell? ⟨ba, oa + k * 2 + 1, none⟩ = some (.slice aq x.kids.len cq) ∧ wr.drew.cell? ⟨bb, ob + k * 2, none⟩ = some (.int .i64 y.rule) ∧ wr.drew.cell? ⟨bb, ob + k * 2 + 1, none⟩ = some (.slice ar y.kids.len cr) := eR
      generalize (wdT g.rules x).length = lx at *
      generalize (wdT g.rules y).length = ly at *
      clear IH f1 f2 hqa hqb c0 c1 e0 e1 hlx hly
      go_wp2_with fail
      refine wp_region_noPanic ?_
      refine wp_region_held_drew (S := fun w' => w'.cell? ⟨w.heap.size, 0, none⟩ = some (.int .i64 g.vars) ∧ w'.cell? ⟨w.heap.size, 1, none⟩ = some (.int .i64 g.terms) ∧ w'.cell? ⟨w.heap.size, 2, none⟩ = some (.int .i64 g.start) ∧ w'.cell? ⟨w.heap.size, 3, none⟩ = some (.slice ag g.rules.length cg) ∧ w'.cell? ⟨w.heap.size + 1, 1, none⟩ = some (.slice (some ⟨ba, oa, none⟩) a.kids.len ca) ∧ w'.cell? ⟨w.heap.size + 1 + 1, 1, none⟩ = some (.slice (some ⟨bb, ob, none⟩) b.kids.len cb) ∧ w'.cell? ⟨ba, oa + k * 2, none⟩ = some (.int .i64 x.rule) ∧ w'.cell? ⟨ba, oa + k * 2 + 1, none⟩ = some (.slice aq x.kids.len cq) ∧ w'.cell? ⟨bb, ob + k * 2, none⟩ = some (.int .i64 y.rule) ∧ w'.cell? ⟨bb, ob + k * 2 + 1, none⟩ = some (.slice ar y.kids.len cr)) (by kernel_rfl) eP ?_
      intro hSw
      obtain ⟨y0, hy0⟩ : ∃ y0, y0 = wr.drew := ⟨_, rfl⟩
      rw [← hy0] at hSw drw ⊢
      clear hy0
      refine wpAnyH_take (i := 0) (v := ?v1) rfl (by kernel_rfl) (by kernel_rfl) (by kernel_rfl) (fun _ _ _ h => np_panic h) (Or.inl ⟨by rfl, ?hy1⟩) (by assumption) ?_
      case hy1 => (intro w' hS'; (try dsimp only at hS'); go_simp; try with_reducible rfl)
      simp only [Act.put, List.setIfInBounds_toArray, List.set_cons_zero, List.set_cons_succ, List.getElem_toArray, List.getElem_cons_zero]
      refine wpAnyH_take (i := 1) (v := ?v2) rfl (by kernel_rfl) (by kernel_rfl) (by kernel_rfl) (fun _ _ _ h => np_panic h) (Or.inl ⟨by rfl, ?hy2⟩) (by assumption) ?_
      case hy2 => (intro w' hS'; (try dsimp only at hS'); go_simp; try with_reducible rfl)
      simp only [Act.put, List.setIfInBounds_toArray, List.set_cons_zero, List.set_cons_succ, List.getElem_toArray, List.getElem_cons_succ, List.getElem_cons_zero]
      refine wpAnyH_take (i := 2) (v := ?v3) rfl (by kernel_rfl) (by kernel_rfl) (by kernel_rfl) (fun _ _ _ h => np_panic h) (Or.inl ⟨by rfl, ?hy3⟩) (by assumption) ?_
      case hy3 => (intro w' hS'; (try dsimp only at hS'); go_simp; try with_reducible rfl)
      simp only [Act.put, List.setIfInBounds_toArray, List.set_cons_zero, List.set_cons_succ, List.getElem_toArray, List.getElem_cons_succ, List.getElem_cons_zero]
      refine wpAnyH_take (i := 3) (v := ?v4) rfl (by kernel_rfl) (by kernel_rfl) (by kernel_rfl) (fun _ _ _ h => np_panic h) (Or.inl ⟨by rfl, ?hy4⟩) (by assumption) ?_
      case hy4 => (intro w' hS'; (try dsimp only at hS'); go_simp; try with_reducible rfl)
      simp only [Act.put, List.setIfInBounds_toArray, List.set_cons_zero, List.set_cons_succ, List.getElem_toArray, List.getElem_cons_succ, List.getElem_cons_zero]
      refine wpAnyH_take (i := 4) (v := ?v5) rfl (by kernel_rfl) (by kernel_rfl) (by kernel_rfl) (fun _ _ _ h => np_panic h) (Or.inl ⟨by rfl, ?hy5⟩) (by assumption) ?_
      case hy5 => (intro w' hS'; (try dsimp only at hS'); go_simp; try with_reducible rfl)
      simp only [Act.put, List.setIfInBounds_toArray, List.set_cons_zero, List.set_cons_succ, List.getElem_toArray, List.getElem_cons_succ, List.getElem_cons_zero]
      refine wpAnyH_take (i := 5) (v := ?v6) rfl (by kernel_rfl) (by kernel_rfl) (by kernel_rfl) (fun _ _ _ h => np_panic h) (Or.inl ⟨by rfl, ?hy6⟩) (by assumption) ?_
      case hy6 => (intro w' hS'; (try dsimp only at hS'); go_simp; try with_reducible rfl)
      simp only [Act.put, List.setIfInBounds_toArray, List.set_cons_zero, List.set_cons_succ, List.getElem_toArray, List.getElem_cons_succ, List.getElem_cons_zero]
      refine wpAnyH_take (i := 8) (v := ?v7) rfl (by kernel_rfl) (by kernel_rfl) (by kernel_rfl) (fun _ _ _ h => np_panic h) (Or.inl ⟨by rfl, ?hy7⟩) (by assumption) ?_
      case hy7 => (intro w' hS'; (try dsimp only at hS'); go_simp; try with_reducible rfl)
      simp only [Act.put, List.setIfInBounds_toArray, List.set_cons_zero, List.set_cons_succ, List.getElem_toArray, List.getElem_cons_succ, List.getElem_cons_zero]
      refine wpAnyH_take (i := 9) (v := ?v8) rfl (by kernel_rfl) (by kernel_rfl) (by kernel_rfl) (fun _ _ _ h => np_panic h) (Or.inl ⟨by rfl, ?hy8⟩) (by assumption) ?_
      case hy8 => (intro w' hS'; (try dsimp only at hS'); go_simp; try with_reducible rfl)
      simp only [Act.put, List.setIfInBounds_toArray, List.set_cons_zero, List.set_cons_succ, List.getElem_toArray, List.getElem_cons_succ, List.getElem_cons_zero]
      refine wpAnyH_take (i := 10) (v := ?v9) rfl (by kernel_rfl) (by kernel_rfl) (by kernel_rfl) (fun _ _ _ h => np_panic h) (Or.inl ⟨by rfl, ?hy9⟩) (by assumption) ?_
      case hy9 => (intro w' hS'; (try dsimp only at hS'); go_simp; try with_reducible rfl)
      simp only [Act.put, List.setIfInBounds_toArray, List.set_cons_zero, List.set_cons_succ, List.getElem_toArray, List.getElem_cons_succ, List.getElem_cons_zero]
      refine wpAnyH_take (i := 11) (v := ?v10) rfl (by kernel_rfl) (by kernel_rfl) (by kernel_rfl) (fun _ _ _ h => np_panic h) (Or.inl ⟨by rfl, ?hy10⟩) (by assumption) ?_
      case hy10 => (intro w' hS'; (try dsimp only at hS'); go_simp; try with_reducible rfl)
      simp only [Act.put, List.setIfInBounds_toArray, List.set_cons_zero, List.set_cons_succ, List.getElem_toArray, List.getElem_cons_succ, List.getElem_cons_zero]
      refine wpAnyH_take (i := 12) (v := ?v11) rfl (by kernel_rfl) (by kernel_rfl) (by kernel_rfl) (fun _ _ _ h => np_panic h) (Or.inl ⟨by rfl, ?hy11⟩) (by assumption) ?_
      case hy11 => (intro w' hS'; (try dsimp only at hS'); go_simp; try with_reducible rfl)
      simp only [Act.put, List.setIfInBounds_toArray, List.set_cons_zero, List.set_cons_succ, List.getElem_toArray, List.getElem_cons_succ, List.getElem_cons_zero]
      refine wpAnyH_take (i := 13) (v := ?v12) rfl (by kernel_rfl) (by kernel_rfl) (by kernel_rfl) (fun _ _ _ h => np_panic h) (Or.inl ⟨by rfl, ?hy12⟩) (by assumption) ?_
      case hy12 => (intro w' hS'; (try dsimp only at hS'); go_simp; try with_reducible rfl)
      simp only [Act.put, List.setIfInBounds_toArray, List.set_cons_zero, List.set_cons_succ, List.getElem_toArray, List.getElem_cons_succ, List.getElem_cons_zero]
      refine wpAnyH_ready (rs := [6]) (by kernel_rfl) (by simp) ?_
      refine AllReadyH.cons rfl (fun K hK => ?_) AllReadyH.nil
      go_simp
      go_at_call 48
      refine (WX _ drw).mono ?_
      rintro e w1 ⟨v1, rfl, own1, bz1⟩
      obtain ⟨ax, cx, rfl⟩ := owns_slice own1
      have bz01 := bthen drw bz1
      have e1 : w1.cell? ⟨w.heap.size, 0, none⟩ = some (.int .i64 g.vars) ∧ w1.cell? ⟨w.heap.size, 1, none⟩ = some (.int .i64 g.terms) ∧ w1.cell? ⟨w.heap.size, 2, none⟩ = some (.int .i64 g.start) ∧ w1.cell? ⟨w.heap.size, 3, none⟩ = some (.slice ag g.rules.length cg) ∧ w1.cell? ⟨w.heap.size + 1, 1, none⟩ = some (.slice (some ⟨ba, oa, none⟩) a.kids.len ca) ∧ w1.cell? ⟨w.heap.size + 1 + 1, 1, none⟩ = some (.slice (some ⟨bb, ob, none⟩) b.kids.len cb) ∧ w1.cell? ⟨ba, oa + k * 2, none⟩ = some (.int .i64 x.rule) ∧ w1.cell? ⟨ba, oa + k * 2 + 1, none⟩ = some (.slice aq x.kids.len cq) ∧ w1.cell? ⟨bb, ob + k * 2, none⟩ = some (.int .i64 y.rule) ∧ w1.cell? ⟨bb, ob + k * 2 + 1, none⟩ = some (.slice ar y.kids.len cr) := ⟨bkeep bz1 hSw.1, bkeep bz1 hSw.2.1, bkeep bz1 hSw.2.2.1, bkeep bz1 hSw.2.2.2.1, bkeep bz1 hSw.2.2.2.2.1, bkeep bz1 hSw.2.2.2.2.2.1, bkeep bz1 hSw.2.2.2.2.2.2.1, bkeep bz1 hSw.2.2.2.2.2.2.2.1, bkeep bz1 hSw.2.2.2.2.2.2.2.2.1, bkeep bz1 hSw.2.2.2.2.2.2.2.2.2⟩
      refine hK.out _ _ e1 ?_
      clear hK K
      intro hSw
      try simp only [Act.put, List.setIfInBounds_toArray, List.set_cons_zero, List.set_cons_succ, List.getElem_toArray, List.getElem_cons_succ, List.getElem_cons_zero]
      refine wpAnyH_take (i := 7) (v := ?v13) rfl (by kernel_rfl) (by kernel_rfl) (by kernel_rfl) (fun _ _ _ h => np_panic h) (Or.inl ⟨by rfl, ?hy13⟩) (by assumption) ?_
      case hy13 => (intro w' hS'; (try dsimp only at hS'); go_simp; try with_reducible rfl)
      simp only [Act.put, List.setIfInBounds_toArray, List.set_cons_zero, List.set_cons_succ, List.getElem_toArray, List.getElem_cons_succ, List.getElem_cons_zero]
      refine wpAnyH_ready (rs := [14]) (by kernel_rfl) (by simp) ?_
      refine AllReadyH.cons rfl (fun K hK => ?_) AllReadyH.nil
      go_simp
      go_at_call 48
      refine (WY _ bz01).mono ?_
      rintro e w2 ⟨v2, rfl, own2, bzz⟩
      obtain ⟨ay, cy, rfl⟩ := owns_slice own2
      have bz2 := bthen bz01 bzz
      have e2 : w2.cell? ⟨w.heap.size, 0, none⟩ = some (.int .i64 g.vars) ∧ w2.cell? ⟨w.heap.size, 1, none⟩ = some (.int .i64 g.terms) ∧ w2.cell? ⟨w.heap.size, 2, none⟩ = some (.int .i64 g.start) ∧ w2.cell? ⟨w.heap.size, 3, none⟩ = some (.slice ag g.rules.length cg) ∧ w2.cell? ⟨w.heap.size + 1, 1, none⟩ = some (.slice (some ⟨ba, oa, none⟩) a.kids.len ca) ∧ w2.cell? ⟨w.heap.size + 1 + 1, 1, none⟩ = some (.slice (some ⟨bb, ob, none⟩) b.kids.len cb) ∧ w2.cell? ⟨ba, oa + k * 2, none⟩ = some (.int .i64 x.rule) ∧ w2.cell? ⟨ba, oa + k * 2 + 1, none⟩ = some (.slice aq x.kids.len cq) ∧ w2.cell? ⟨bb, ob + k * 2, none⟩ = some (.int .i64 y.rule) ∧ w2.cell? ⟨bb, ob + k * 2 + 1, none⟩ = some (.slice ar y.kids.len cr) := ⟨bkeep bzz hSw.1, bkeep bzz hSw.2.1, bkeep bzz hSw.2.2.1, bkeep bzz hSw.2.2.2.1, bkeep bzz hSw.2.2.2.2.1, bkeep bzz hSw.2.2.2.2.2.1, bkeep bzz hSw.2.2.2.2.2.2.1, bkeep bzz hSw.2.2.2.2.2.2.2.1, bkeep bzz hSw.2.2.2.2.2.2.2.2.1, bkeep bzz hSw.2.2.2.2.2.2.2.2.2⟩
      refine hK.out _ _ e2 ?_
      clear hK K
      intro hSw
      try simp only [Act.put, List.setIfInBounds_toArray, List.set_cons_zero, List.set_cons_succ, List.getElem_toArray, List.getElem_cons_succ, List.getElem_cons_zero]
      refine wpAnyH_take (i := 15) (v := ?v14) rfl (by kernel_rfl) (by kernel_rfl) (by kernel_rfl) (fun _ _ _ h => np_panic h) (Or.inl ⟨by rfl, ?hy14⟩) (by assumption) ?_
      case hy14 => (intro w' hS'; (try dsimp only at hS'); go_simp; try with_reducible rfl)
      simp only [Act.put, List.setIfInBounds_toArray, List.set_cons_zero, List.set_cons_succ, List.getElem_toArray, List.getElem_cons_succ, List.getElem_cons_zero]
      refine wpAnyH_take (i := 16) (v := ?v15) rfl (by kernel_rfl) (by kernel_rfl) (by kernel_rfl) (fun _ _ _ h => np_panic h) (Or.inl ⟨by rfl, ?hy15⟩) (by assumption) ?_
      case hy15 => (intro w' hS'; (try dsimp only at hS'); go_simp; try with_reducible rfl)
      simp only [Act.put, List.setIfInBounds_toArray, List.set_cons_zero, List.set_cons_succ, List.getElem_toArray, List.getElem_cons_succ, List.getElem_cons_zero]
      refine wpAnyH_take (i := 17) (v := ?v16) rfl (by kernel_rfl) (by kernel_rfl) (by kernel_rfl) (fun _ _ _ h => np_panic h) (Or.inl ⟨by rfl, ?hy16⟩) (by assumption) ?_
      case hy16 => (intro w' hS'; (try dsimp only at hS'); go_simp; try with_reducible rfl)
      simp only [Act.put, List.setIfInBounds_toArray, List.set_cons_zero, List.set_cons_succ, List.getElem_toArray, List.getElem_cons_succ, List.getElem_cons_zero]
      refine wpAnyH_done (by kernel_rfl) (NoPanic.normal ?_) _
      have b3 := bthen hbr bz2
      clear WX WY
      by_cases h3 : lx = ly
      · subst h3
        have HI' : Hid (R = if ahT g.rules x y ≠ 0 then ahT g.rules x y else ahF g.rules (a.kids.drp (k + 1)) (b.kids.drp (k + 1))) := hd (by rw [HI.out, if_neg (Nat.lt_irrefl _), if_neg (Nat.lt_irrefl _)])
        have SI := fun z : Wd w2 => IH' z.u (bthen bz2 z.h)
        have NE := Wd.ne w2
        have s0 := fun z : Wd w2 => z.cell e2.1
        have s1 := fun z : Wd w2 => z.cell e2.2.1
        have s2 := fun z : Wd w2 => z.cell e2.2.2.1
        have s3 := fun z : Wd w2 => z.cell e2.2.2.2.1
        have s4 := fun z : Wd w2 => z.cell e2.2.2.2.2.1
        have s5 := fun z : Wd w2 => z.cell e2.2.2.2.2.2.1
        have s6 := fun z : Wd w2 => z.cell e2.2.2.2.2.2.2.1
        have s7 := fun z : Wd w2 => z.cell e2.2.2.2.2.2.2.2.1
        have s8 := fun z : Wd w2 => z.cell e2.2.2.2.2.2.2.2.2.1
        have s9 := fun z : Wd w2 => z.cell e2.2.2.2.2.2.2.2.2.2
        clear HI IH'
        generalize ahT g.rules x y = c at *
        go_wp2_with fail
        refine region_quiet_lit (C := fun w' => ∃ z : Wd w2, w' = z.u) (by kernel_rfl) (by kernel_rfl) (Wd.drawn _) ?_
        iterate 11 (go_big_quiet_step (fail))
        go_big_quiet_step (exact calls_wd (SI _))
        iterate 1 (go_big_quiet_step (fail))
        refine wpQuiet_nil ?_
        intro _ hw'
        obtain ⟨z, hw''⟩ := hw'
        subst hw''
        have bz := bthen b3 z.h
        clear s0 s1 s2 s3 s4 s5 s6 s7 s8 s9 SI
        by_cases hc : c = 0
        · have HF : Hid (R = ahF g.rules (a.kids.drp (k + 1)) (b.kids.drp (k + 1))) := hd (by rw [HI'.out, if_neg (by simp [hc])])
          subst hc
          go_wp2_with fail
          go_roundw
          case rel => exact ⟨k + 1, by omega, by go_num, HF, bz⟩
          case measure => simp [intOf]; omega
        · have HF : Hid (R = c) := hd (by rw [HI'.out, if_pos hc])
          have hcb : (c != 0) = true := by simpa using hc
          go_wp2_with fail
          go_ret
          exact ⟨ret_int HF.out.symm, bthen hWb bz⟩
      · have hb3 : ((lx : Int) != (ly : Int)) = true := by simp; omega
        by_cases h4 : lx < ly
        · have HF : Hid (R = -1) := hd (by rw [HI.out, if_pos h4])
          have h4' : (lx : Int) < (ly : Int) := by omega
          clear HI IH'
          go_wp2_with fail
          go_ret
          exact ⟨ret_int HF.out.symm, bthen hWb b3⟩
        · have HF : Hid (R = 1) := hd (by rw [HI.out, if_neg h4, if_pos (by omega)])
          have h4' : ¬ (lx : Int) < (ly : Int) := by omega
          clear HI IH'
          go_wp2_with fail
          go_ret
          exact ⟨ret_int HF.out.symm, bthen hWb b3⟩
    · have HI : Hid (R = 0) := hd (by rw [hinv.out, Tf.drp_end (by omega), ahF_nil])
      have a1' := bkeep hbr a1
      go_wp2_with fail
      go_ret
      exact ⟨ret_int HI.out.symm, bel⟩
theorem ah_all : ∀ (f : Tf) (i : Nat), i < f.len → AhOK (f.at_ i)
  | .nil, _, h => absurd h (Nat.not_lt_zero _)
  | .cons rule kids _, 0, _ => ah_head ⟨rule, kids⟩ (ah_all kids)
  | .cons _ _ rest, i + 1, h => ah_all rest i (by simpa [Tf.len] using h)
theorem ahead'_any (t : Tr) : AhOK t := ah_head t (ah_all t.kids)
end Go.Proofs.Ytlhdppkllmnmkae.G

/- Words that are too much: the document's Heavy. -/
namespace Go.Proofs.Ytlhdppkllmnmkae.G
open Go.RowKit
def HvR (g : Gm) (W : List Int) (w : World) (e : Ending) (w' : World) : Prop := ∃ q : Bool, e = .returned (.bool q) ∧ (q = false → Small g.rules ∧ W.length ≤ 300 ∧ ¬ (7 < W.length ∧ W.length ≤ 12 ∧ 40 < g.rules.length) ∧ ¬ (5 < W.length ∧ W.length ≤ 12 ∧ 100 < g.rules.length)) ∧ Below w.heap.size w w'
theorem hvr_yes {g : Gm} {W : List Int} {w w' : World} {e : Ending} (h : e = .returned (.bool true)) (hb : Below w.heap.size w w') : HvR g W w e w' := ⟨true, h, (fun h => by cases h), hb⟩
theorem hvr_no {g : Gm} {W : List Int} {w w' : World} {e : Ending} (h : e = .returned (.bool false)) (hs : Small g.rules) (h3 : W.length ≤ 300) (h4 : ¬ (7 < W.length ∧ W.length ≤ 12 ∧ 40 < g.rules.length)) (h5 : ¬ (5 < W.length ∧ W.length ≤ 12 ∧ 100 < g.rules.length)) (hb : Below w.heap.size w w') : HvR g W w e w' := ⟨false, h, fun _ => ⟨hs, h3, h4, h5⟩, hb⟩
set_option maxRecDepth 100000 in
set_option maxHeartbeats 4000000 in
theorem heavy_any (g : Gm) (W : List Int) (va vw : Value) (w : World) (hg : GV w All va g) (hw : IsV w All vw W) :
    Calls Try.prog 8 #[va, vw] w (HvR g W w) := by
  have GG := fun w' (hb : Below w.heap.size w w') => great_any g va w' (hg.lw hb)
  obtain ⟨ua, rfl, ra⟩ := hg
  obtain ⟨ao, cap, rfl⟩ := ra.slice
  obtain ⟨aw, cw, rfl⟩ := hw.slice
  obtain ⟨Z, hZ⟩ : ∃ Z, Z = w.alloc (.cells #[.int .i64 g.vars, .int .i64 g.terms, .int .i64 g.start, .slice ao g.rules.length cap] 24) := ⟨_, rfl⟩
  have hZb : Below w.heap.size w Z := by rw [hZ]; exact al1 _ _
  have x3 : Z.cell? ⟨w.heap.size, 3, none⟩ = some (.slice ao g.rules.length cap) := by rw [hZ]; simp
  have GZ := GG Z hZb
  clear GG
  go_enter Try.func8, Try.ntmps8
  go_wp2_with fail
  rw [← hZ]
  have HZ := hd hZ
  clear hZ
  refine GZ.mono ?_
  rintro e w1 ⟨q, rfl, hq, hb1⟩
  have b1 := bthen hZb hb1
  have y3 := bkeep hb1 x3
  cases q with
  | true =>
    go_wp2_with fail
    go_ret
    exact hvr_yes rfl b1
  | false =>
  have hsm := hq rfl
  have HQ := hd hsm
  clear hsm hq
  by_cases h3 : (300 : Int) < (W.length : Int)
  · go_wp2_with fail
    go_ret
    exact hvr_yes rfl b1
  by_cases h12 : (W.length : Int) ≤ 12
  rotate_left
  · have H3 := hd h3
    have H12 := hd h12
    go_wp2_with fail
    go_ret
    have h3 := H3.out
    exact hvr_no (by first | rfl | exact ret_bool (by simp only [decide_eq_false_iff_not]; omega)) HQ.out (by omega) (fun h => by have := H12.out; omega) (fun h => by have := H12.out; omega) b1
  by_cases h5 : (5 : Int) < (W.length : Int)
  rotate_left
  · have h7 : ¬ ((7 : Int) < (W.length : Int)) := by omega
    have H3 := hd h3
    have H5 := hd h5
    go_wp2_with fail
    go_ret
    have h3 := H3.out
    exact hvr_no (by first | rfl | exact ret_bool (by simp only [decide_eq_false_iff_not]; omega)) HQ.out (by omega) (fun h => by have := H5.out; omega) (fun h => by have := H5.out; omega) b1
  by_cases h100 : (100 : Int) < (g.rules.length : Int)
  · by_cases h7 : (7 : Int) < (W.length : Int)
    · have h40 : (40 : Int) < (g.rules.length : Int) := by omega
      go_wp2_with fail
      go_ret
      exact hvr_yes rfl b1
    · go_wp2_with fail
      go_ret
      exact hvr_yes rfl b1
  by_cases h7 : (7 : Int) < (W.length : Int)
  · by_cases h40 : (40 : Int) < (g.rules.length : Int)
    · go_wp2_with fail
      go_ret
      exact hvr_yes rfl b1
    · have H3 := hd h3
      have H4 := hd h40
      have H1 := hd h100
      go_wp2_with fail
      go_ret
      have h3 := H3.out
      exact hvr_no (by first | rfl | exact ret_bool (by simp only [Bool.or_eq_false_iff, decide_eq_false_iff_not]; omega)) HQ.out (by omega) (fun h => by have := H4.out; omega) (fun h => by have := H1.out; omega) b1
  · have H3 := hd h3
    have H7 := hd h7
    have H1 := hd h100
    go_wp2_with fail
    go_ret
    have h3 := H3.out
    exact hvr_no (by first | rfl | exact ret_bool (by simp only [Bool.or_eq_false_iff, decide_eq_false_iff_not]; omega)) HQ.out (by omega) (fun h => by have := H7.out; omega) (fun h => by have := H1.out; omega) b1
end Go.Proofs.Ytlhdppkllmnmkae.G
