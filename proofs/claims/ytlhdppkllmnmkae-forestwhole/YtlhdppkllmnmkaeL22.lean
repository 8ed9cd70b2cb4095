/- The word of a tree, the program's way. -/
import Derived.Test.YtlhdppkllmnmkaeL03
import Derived.Test.YtlhdppkllmnmkaeL21
namespace Go.Proofs.Ytlhdppkllmnmkae.G
open Go.RowKit
theorem gr_then {W a b : World} {row row' : Option Nat} (h : W.grownBy a row) (k : a.grownBy b row') (hr : row' = row ∨ ∀ q, row' = some q → W.heap.size ≤ q) : W.grownBy b row :=
  ⟨k.os.trans h.os, k.tape.trans h.tape, k.output.trans h.output, Nat.le_trans h.size k.size, fun q hq hne => by
    rw [k.block q (Nat.lt_of_lt_of_le hq h.size) (fun e => by rcases hr with hr | hr; exact hne (e.trans hr); have := hr q e.symm; omega)]
    exact h.block q hq hne⟩
theorem own_then {o1 o2 row : Option Nat} {n m : Nat} (h : o1 = row ∨ ∀ q, o1 = some q → n ≤ q) (k : o2 = o1 ∨ ∀ q, o2 = some q → m ≤ q) (hn : n ≤ m) : o2 = row ∨ ∀ q, o2 = some q → n ≤ q := by
  rcases k with k | k
  · rcases h with h | h
    · exact .inl (k.trans h)
    · exact .inr fun q e => h q (k ▸ e)
  · exact .inr fun q e => Nat.le_trans hn (k q e)
theorem gr_below {a b : World} {row : Option Nat} (h : Below a.heap.size a b) : a.grownBy b row := ⟨h.os, h.tape, h.output, h.size, fun k hk _ => h.block k hk⟩
theorem kp_gr {S : Nat → Prop} {a b : World} {row : Option Nat} (h : a.grownBy b row) (hS : ∀ q, q < a.heap.size → S q → some q ≠ row) : Kp S a b := ⟨h.size, fun k hk hs => h.block k hk (hS k hk hs)⟩
def SlOK (t : Tr) : Prop := ∀ (g : Gm) (acc : List Int) (va vt vw : Value) (v : Int) (base : Nat) (w : World), GV w (fun k => vw.ownBlock ≠ some k) va g → TrV w (fun k => vw.ownBlock ≠ some k) vt t → Small g.rules → Near g.rules → fitT g.rules t v = true →
  w.ownsRow base 3 1 vw acc.length (ints acc) → base ≤ w.heap.size → (acc ++ wdT g.rules t).length ≤ 1000000 →
  Calls Try.prog 44 #[va, vt, vw] w fun e w' => ∃ vo, e = .returned vo ∧ w'.ownsRow base 3 1 vo (acc ++ wdT g.rules t).length (ints (acc ++ wdT g.rules t)) ∧ w.grownBy w' vw.ownBlock ∧ (vo.ownBlock = vw.ownBlock ∨ ∀ k, vo.ownBlock = some k → w.heap.size ≤ k)
set_option maxRecDepth 100000 in
set_option maxHeartbeats 16000000 in
theorem sl_head (t : Tr) (ih : ∀ i, i < t.kids.len → SlOK (t.kids.at_ i)) : SlOK t := by
  intro g acc va vt vw v base w hg ht hs hn hf hown hbase hlen
  obtain ⟨i0, hi, iz0, iz1, iz2⟩ := info_parts Try.infoInt
  obtain ⟨ua, rfl, ra⟩ := hg
  obtain ⟨ut, rfl, kt⟩ := ht
  obtain ⟨ao, cap, rfl⟩ := ra.slice
  obtain ⟨at_, ct, rfl, _⟩ := kt.slice
  obtain ⟨r, hr, hrule, _, hfk, hword⟩ := fit_rule hf
  obtain ⟨R, hR⟩ : ∃ R, R = acc ++ wdT g.rules t := ⟨_, rfl⟩
  rw [← hR] at hlen ⊢
  have hvl : ∀ q, vw.ownBlock = some q → base ≤ q ∧ q < w.heap.size := fun q e => hown.lt q e
  obtain ⟨aw, cw, rfl⟩ := owns_slice hown
  generalize hrow : (Value.slice aw acc.length cw).ownBlock = row at *
  obtain ⟨W, hW⟩ : ∃ W, W = (w.alloc (.cells #[.int .i64 g.vars, .int .i64 g.terms, .int .i64 g.start, .slice ao g.rules.length cap] 24)).alloc (.cells #[.int .i64 t.rule, .slice at_ t.kids.len ct] 44) := ⟨_, rfl⟩
  have hWb : Below w.heap.size w W := by rw [hW]; exact al2 _ _ _
  have hWz : W.heap.size = w.heap.size + 2 := by rw [hW]; simp
  have x0 : W.cell? ⟨w.heap.size, 0, none⟩ = some (.int .i64 g.vars) := by rw [hW]; simp
  have x1 : W.cell? ⟨w.heap.size, 1, none⟩ = some (.int .i64 g.terms) := by rw [hW]; simp
  have x2 : W.cell? ⟨w.heap.size, 2, none⟩ = some (.int .i64 g.start) := by rw [hW]; simp
  have x3 : W.cell? ⟨w.heap.size, 3, none⟩ = some (.slice ao g.rules.length cap) := by rw [hW]; simp
  rw [hrule] at hW ⊢
  have hne : some w.heap.size ≠ row := fun e => by have := (hvl _ e.symm).2; omega
  obtain ⟨C, hC⟩ : ∃ C : Nat → Prop, C = fun k => k < W.heap.size ∧ row ≠ some k := ⟨_, rfl⟩
  have toC : ∀ b o v, row ≠ some b → w.cell? ⟨b, o, none⟩ = some v → C b ∧ W.cell? ⟨b, o, none⟩ = some v := fun b o v h1 h2 => ⟨by rw [hC]; exact ⟨lt_of_cell (bkeep hWb h2), h1⟩, bkeep hWb h2⟩
  have raC : RsV W C (.slice ao g.rules.length cap) g.rules := ra.mono toC
  have ktC : TfV W C (.slice at_ t.kids.len ct) t.kids := kt.mono toC
  have kpC : ∀ wr, W.grownBy wr row → Kp C W wr := fun wr h => kp_gr h fun q _ hq e => by rw [hC] at hq; exact hq.2 e.symm
  have hownW := owns_below hown hWb
  obtain ⟨b, o, rfl, c0, ar, cr, c1, hx⟩ := raC.at_ hr
  have hnr := hn r hr
  have hl := raC.1
  generalize g.rules[r] = x at *
  have hxl := hx.1
  clear ra kt toC hf hown
  rw [hW] at c0 c1
  go_enter Try.func44, Try.ntmps44
  go_wp2_with fail
  rw [← hW]
  rw [← hW] at c0 c1
  have HW := hd hW
  have HRW := hd hrow
  have HCC := hd hC
  clear hW hrow hC
  go_loopw [2, 7, 20] (fun a1 a2 i wr => ∃ (k j : Nat) (acc' : List Int) (vr vk : Value), vr = a1 ∧ vk = a2 ∧ k ≤ x.right.length ∧ j ≤ t.kids.len ∧ i = .int .i64 k ∧ Hid (R = acc' ++ wdR (x.right.drop k) (wdF g.rules (t.kids.drp j))) ∧ Hid (fitF g.rules (t.kids.drp j) (kidsL (x.right.drop k)) = true) ∧ TfV wr C vk (t.kids.drp j) ∧ wr.ownsRow base 3 1 vr acc'.length (ints acc') ∧ W.grownBy wr row ∧ (vr.ownBlock = row ∨ ∀ q, vr.ownBlock = some q → W.heap.size ≤ q)) (fun _ _ i _ => x.right.length - (intOf i).toNat)
  case atStart => exact ⟨0, 0, acc, _, _, rfl, rfl, Nat.zero_le _, Nat.zero_le _, rfl, hd (by rw [hR, hword, Tf.drp_zero, List.drop_zero]), hd (by rw [Tf.drp_zero, List.drop_zero]; exact hfk), by rw [Tf.drp_zero]; exact ktC, hownW, gr_below (Below.refl _ _), .inl HRW.out⟩
  case round =>
    obtain ⟨k, j, acc', vr, vk, rfl, rfl, hk, hj, rfl, hinv, hfit, hkv, hown', hgr, hat⟩ := hrel
    have hz := hgr.size
    have p0 := hgr.cell x0 hne
    have p1 := hgr.cell x1 hne
    have p2 := hgr.cell x2 hne
    have p3 := hgr.cell x3 hne
    have hxr := hx.kp (kpC wr hgr) (fun _ _ h => h)
    have hrr := raC.kp (kpC wr hgr) (fun _ _ h => h)
    have hnc : ∀ q, vr.ownBlock = some q → ¬ C q := fun q e hq => by
      rw [HCC.out] at hq
      rcases hat with h | h
      · exact hq.2 (h ▸ e)
      · have := h q e; omega
    clear hR
    by_cases hlt : k < x.right.length
    · obtain ⟨br, or', rfl, d0⟩ := hxr.at_ hlt
      obtain ⟨hb1, hb2⟩ := hnr k hlt
      by_cases hs0 : x.right[k] < 0
      · have HI : Hid (R = (acc' ++ [-1 - x.right[k]]) ++ wdR (x.right.drop (k + 1)) (wdF g.rules (t.kids.drp j))) := hd (by rw [hinv.out, wdR_neg hlt hs0]; simp)
        have HF : Hid (fitF g.rules (t.kids.drp j) (kidsL (x.right.drop (k + 1))) = true) := hd (by rw [← kidsL_dneg hlt hs0]; exact hfit.out)
        have hal : acc'.length + 1 ≤ 1000000 := by
          have := congrArg List.length HI.out
          simp at this; omega
        clear hinv hfit
        generalize x.right[k] = s at *
        obtain ⟨arv, crv, rfl⟩ := owns_slice hown'
        obtain ⟨ak, ck, rfl, _⟩ := hkv.slice
        go_wp2_with (first | (at_builtin; go_must (refine wpList_append_own_at _ rfl _ _ 25 rfl base 3 i0 (.int .i64 0) 1 8 Try.underlying25 hi iz0 iz1 iz2 rfl (by decide) _ _ _ rfl (hown'.alloc _) ⟨wr.heap.size, 0, none⟩ 1 1 [.int .i64 (-1 - s)] rfl rfl (cell_one_at _ _ _ (by simp)) (oneInts [-1 - s]) (by unfold maxLen; omega) (by omega) (by simp <;> omega) ?_)))
        intro v1 W1 own1 grow1 _ hat1
        have hg1 : wr.grownBy W1 (Value.slice arv acc'.length crv).ownBlock := gr_then (gr_below (al1 wr _)) grow1 (.inl rfl)
        have kp1 : Kp C wr W1 := kp_gr hg1 fun q _ hq e => hnc q e.symm hq
        go_wp2_with fail
        go_roundw
        case rel => exact ⟨k + 1, j, acc' ++ [-1 - s], _, _, rfl, rfl, by omega, hj, by go_num, HI, HF, hkv.kp kp1 (fun _ _ h => h), by simpa [ints] using own1, gr_then hgr hg1 hat, own_then hat (hat1.imp id fun e q hq => by rw [e] at hq; simp at hq; omega) hz⟩
        case measure => simp [intOf]; omega
      · obtain ⟨hjl, hft, hfr⟩ := fit_pos hlt hs0 hfit.out
        have HI : Hid (R = (acc' ++ wdT g.rules (t.kids.at_ j)) ++ wdR (x.right.drop (k + 1)) (wdF g.rules (t.kids.drp (j + 1)))) := hd (by rw [hinv.out, wdR_pos hlt hs0 hjl, List.append_assoc])
        have HF := hd hfr
        have hal : (acc' ++ wdT g.rules (t.kids.at_ j)).length ≤ 1000000 := by
          have := congrArg List.length HI.out
          rw [List.length_append] at this
          omega
        have IH := ih j hjl
        have hdj := Tf.drp_at hjl
        rw [hdj] at hkv
        obtain ⟨f1, hf1⟩ : ∃ f1, f1 = t.kids.drp (j + 1) := ⟨_, rfl⟩
        have HF1 := hd hf1
        rw [← hf1] at HI HF hkv hfr hdj
        clear hf1
        generalize t.kids.at_ j = y at *
        clear hinv hfit hdj hfr
        obtain ⟨hl1, aok, capk, rfl, hck, hno, h5⟩ := id hkv
        simp only [Tf.len] at hl1 hck h5
        rcases h5 with h5 | ⟨bk, ok, rfl, hCb, e0, ⟨hl2, aq, cq, e1, hcq, hnq, hq5⟩, hrest⟩
        · omega
        have hyk : TfV wr C (.slice aq y.kids.len cq) y.kids := ⟨hl2, aq, cq, rfl, hcq, hnq, hq5⟩
        have kk := TfV.drop1 hkv (by simp [Tf.len])
        have hd1 : (Tf.cons y.rule y.kids f1).drp 1 = f1 := by cases f1 <;> rfl
        rw [hd1] at kk
        clear hd1 hkv hq5 hnq hrest hno
        have h0nl : 0 < (Tf.cons y.rule y.kids f1).len := by simp [Tf.len]
        have hn1 : (Tf.cons y.rule y.kids f1).len ≤ capk := by simp only [Tf.len]; omega
        generalize (Tf.cons y.rule y.kids f1).len = nl at *
        have drw : Below wr.heap.size wr wr.drew := drw1 wr
        have toO : ∀ q, q < wr.heap.size → C q → vr.ownBlock ≠ some q := fun q _ hq e => hnc q e hq
        have IHd := IH g acc' _ _ vr x.right[k] base wr.drew ⟨_, rfl, hrr.kp (Kp.of_below drw) toO⟩ (TrV_mk (hyk.kp (Kp.of_below drw) toO)) hs hn hft hown' (by show base ≤ wr.heap.size; omega) hal
        generalize x.right[k] = s at *
        obtain ⟨arv, crv, rfl⟩ := owns_slice hown'
        have hsb : decide (s < 0) = false := by simpa using hs0
        by_cases hc1 : capk = 1
        · subst hc1
          simp only [sliced, if_true, Nat.sub_self, Nat.sub_eq_zero_of_le hn1] at kk
          go_wp2_with fail
          go_region_law
            (go_simp; go_at_call 44; refine IHd.mono ?_; rintro e w2 ⟨vo, rfl, own2, grow2, hat2⟩)
          all_goals
            have hg2 := gr_then (gr_below drw) grow2 (.inl rfl)
            have kp2 : Kp C wr w2 := kp_gr hg2 fun q _ hq e => hnc q e.symm hq
            have kk2 := kk.kp kp2 (fun _ _ h => h)
            go_wp2_with fail
            go_roundw
            case rel => exact ⟨k + 1, j + 1, acc' ++ wdT g.rules y, _, _, rfl, rfl, by omega, by omega, by go_num, hd (by rw [← HF1.out]; exact HI.out), hd (by rw [← HF1.out]; exact HF.out), by rw [← HF1.out]; exact kk2, own2, gr_then hgr hg2 hat, own_then hat hat2 hz⟩
            case measure => simp [intOf]; omega
        · simp only [sliced, if_neg hc1, Option.map_some, addr_add, Nat.one_mul] at kk
          go_wp2_with fail
          go_region_law
            (go_simp; go_at_call 44; refine IHd.mono ?_; rintro e w2 ⟨vo, rfl, own2, grow2, hat2⟩)
          all_goals
            have hg2 := gr_then (gr_below drw) grow2 (.inl rfl)
            have kp2 : Kp C wr w2 := kp_gr hg2 fun q _ hq e => hnc q e.symm hq
            have kk2 := kk.kp kp2 (fun _ _ h => h)
            go_wp2_with fail
            go_roundw
            case rel => exact ⟨k + 1, j + 1, acc' ++ wdT g.rules y, _, _, rfl, rfl, by omega, by omega, by go_num, hd (by rw [← HF1.out]; exact HI.out), hd (by rw [← HF1.out]; exact HF.out), by rw [← HF1.out]; exact kk2, own2, gr_then hgr hg2 hat, own_then hat hat2 hz⟩
            case measure => simp [intOf]; omega
    · have HE : Hid (acc' = R) := hd (by rw [hinv.out, wdR_end (by omega), List.append_nil])
      have he := HE.out
      rw [he] at hown'
      clear hinv he
      obtain ⟨arv, crv, rfl⟩ := owns_slice hown'
      go_wp2_with fail
      go_ret
      exact ⟨_, rfl, hown', gr_then (gr_below hWb) hgr (.inl rfl), hat.imp id fun h q e => by have := h q e; omega⟩
theorem sl_all : ∀ (f : Tf) (i : Nat), i < f.len → SlOK (f.at_ i)
  | .nil, _, h => absurd h (Nat.not_lt_zero _)
  | .cons rule kids _, 0, _ => sl_head ⟨rule, kids⟩ (sl_all kids)
  | .cons _ _ rest, i + 1, h => sl_all rest i (by simpa [Tf.len] using h)
theorem spell_any (t : Tr) : SlOK t := sl_head t (sl_all t.kids)
theorem tFl_zero {g : Gm} {t : Tr} {v : Int} (h : (tFl g t v).1 = 0) : (gFl g).1 = 0 ∧ t.sz ≤ 400 ∧ fitT g.rules t v = true ∧ (tFl g t v).2 = 0 := by
  unfold tFl at h ⊢
  split at h
  · rename_i h0; exact absurd h h0
  · rename_i h0
    split at h
    · cases h
    · rename_i h4
      split at h
      · rename_i hf
        exact ⟨by simpa using h0, by omega, hf, by rw [if_neg h0, if_neg h4, if_pos hf]⟩
      · cases h
def wdE (g : Gm) (t : Tr) : List Int := if (tFl g t g.start).1 = 0 then wdT g.rules t else []
set_option maxRecDepth 100000 in
set_option maxHeartbeats 16000000 in
theorem word_any (g : Gm) (t : Tr) (va vt : Value) (w : World) (hg : GV w All va g) (ht : TrV w All vt t) (hs : Small g.rules) :
    Calls Try.prog 20 #[va, vt] w fun e w' => ∃ vo, e = .returned (.tuple #[vo, .agg #[.int .i64 (tFl g t g.start).1, .int .i64 (tFl g t g.start).2]]) ∧ IsV w' (fun k => w.heap.size ≤ k) vo (wdE g t) ∧ Below w.heap.size w w' := by
  obtain ⟨R, hR0⟩ : ∃ R, R = tFl g t g.start := ⟨_, rfl⟩
  obtain ⟨L, hL0⟩ : ∃ L, L = wdE g t := ⟨_, rfl⟩
  have hL1 : L = if R.1 = 0 then wdT g.rules t else [] := by rw [hL0, hR0]; rfl
  have hz : R.1 = 0 → (gFl g).1 = 0 ∧ t.sz ≤ 400 ∧ fitT g.rules t g.start = true ∧ R.2 = 0 := fun h => hR0 ▸ tFl_zero (v := g.start) (by rw [← hR0]; exact h)
  have CK := fun w' (hb : Below w.heap.size w w') => tcheck_any g t g.start va vt w' (hg.lw hb) (ht.lw hb) hs
  rw [← hR0] at CK
  rw [← hR0, ← hL0]
  clear hR0 hL0
  have SL := fun w' vc vd (hb : Below w.heap.size w w') hg' ht' hn hf hl => spell_any t g [] vc vd (.slice none 0 0) g.start w'.heap.size w' hg' ht' hs hn hf (World.ownsRow_nil _ _ _ _) (Nat.le_refl _) hl
  obtain ⟨D1, D2⟩ := R
  simp only at CK hL1 hz
  have HZ := hd hz
  have HL := hd hL1
  clear hz hL1
  obtain ⟨ua, rfl, ra⟩ := hg
  obtain ⟨ut, rfl, kt⟩ := ht
  obtain ⟨ao, cap, rfl⟩ := ra.slice
  obtain ⟨at_, ct, rfl, _⟩ := kt.slice
  obtain ⟨W, hW⟩ : ∃ W, W = ((w.alloc (.cells #[.int .i64 g.vars, .int .i64 g.terms, .int .i64 g.start, .slice ao g.rules.length cap] 24)).alloc (.cells #[.int .i64 t.rule, .slice at_ t.kids.len ct] 44)).alloc (.cells #[.int .i64 0, .int .i64 0] 30) := ⟨_, rfl⟩
  have hWb : Below w.heap.size w W := by rw [hW]; exact (al2 w _ _).alloc (by simp <;> omega) _
  have x0 : W.cell? ⟨w.heap.size, 0, none⟩ = some (.int .i64 g.vars) := by rw [hW]; simp [go_sem]
  have x1 : W.cell? ⟨w.heap.size, 1, none⟩ = some (.int .i64 g.terms) := by rw [hW]; simp [go_sem]
  have x2 : W.cell? ⟨w.heap.size, 2, none⟩ = some (.int .i64 g.start) := by rw [hW]; simp [go_sem]
  have x3 : W.cell? ⟨w.heap.size, 3, none⟩ = some (.slice ao g.rules.length cap) := by rw [hW]; simp [go_sem]
  have y0 : W.cell? ⟨w.heap.size + 1, 0, none⟩ = some (.int .i64 t.rule) := by rw [hW]; simp [go_sem]
  have y1 : W.cell? ⟨w.heap.size + 1, 1, none⟩ = some (.slice at_ t.kids.len ct) := by rw [hW]; simp [go_sem]
  have hWr : RB W (w.heap.size + 2) := by rw [hW]; exact ⟨by simp [go_sem], by simp [go_sem], fun i => by simp [go_sem]⟩
  have CW := CK W hWb
  go_enter Try.func20, Try.ntmps20
  go_wp2_with fail
  rw [← hW]
  have HW := hd hW
  clear hW
  refine CW.mono ?_
  rintro e w1 ⟨rfl, hb1⟩
  obtain ⟨V, hV⟩ : ∃ V, V = w1.alloc (.cells #[.int .i64 D1, .int .i64 D2] 30) := ⟨_, rfl⟩
  have hVb : Below w1.heap.size w1 V := by rw [hV]; exact al1 _ _
  have bW := bthen hb1 hVb
  have bV := bthen hWb bW
  have tr := (hWr.below hb1).below hVb
  have f0 : V.cell? ⟨w1.heap.size, 0, none⟩ = some (.int .i64 D1) := by rw [hV]; simp
  have f1 : V.cell? ⟨w1.heap.size, 1, none⟩ = some (.int .i64 D2) := by rw [hV]; simp
  clear CW CK
  by_cases hc : D1 = 0
  rotate_left
  · have hl : L = [] := by rw [HL.out, if_neg hc]
    subst hl
    have hcb : (D1 != 0) = true := by simpa using hc
    have q0 : V.cell? ⟨w.heap.size + 1 + 1, 0, none⟩ = _ := tr.c0
    have q1 : V.cell? ⟨w.heap.size + 1 + 1, 1, none⟩ = _ := tr.c1
    have qf : ∀ i, V.frozen? ⟨w.heap.size + 1 + 1, i, none⟩ = false := tr.fz
    have bD : Below w.heap.size w V.drew := bthen bV (drw1 V)
    clear hc
    go_wp2_with fail
    rw [← hV]
    have HV := hd hV
    clear hV
    go_region
    go_wp2_with fail
    refine bodyPost_ret (v := .tuple #[.slice none 0 0, .agg #[.int .i64 D1, .int .i64 D2]]) (by simp [results, Try.results20, go_sem, q0, q1]) rfl ⟨_, rfl, IsV_nil _ _, ?_⟩
    exact (bD.setCell (p := ⟨w.heap.size + 2, 0, none⟩) (by show w.heap.size ≤ w.heap.size + 2; omega) _).setCell (p := ⟨w.heap.size + 2, 1, none⟩) (by show w.heap.size ≤ w.heap.size + 2; omega) _
  subst hc
  obtain ⟨hg0, h400, hfit, hd2⟩ := HZ.out rfl
  subst hd2
  have hl : L = wdT g.rules t := by rw [HL.out, if_pos rfl]
  have hwl := wdT_len hs t
  have hN : ∀ k : Nat, (Value.slice none 0 0).ownBlock ≠ some k := fun k h => by simp [Value.ownBlock] at h
  have SV := SL V (.agg #[.int .i64 g.vars, .int .i64 g.terms, .int .i64 g.start, .slice ao g.rules.length cap]) (.agg #[.int .i64 t.rule, .slice at_ t.kids.len ct]) bV
    ⟨_, rfl, (ra.lw bV).kp (Kp.of_below (Below.refl _ _)) (fun q _ _ => hN q)⟩ ⟨_, rfl, (kt.lw bV).kp (Kp.of_below (Below.refl _ _)) (fun q _ _ => hN q)⟩ (near_of hg0) hfit (by simp; omega)
  simp only [List.nil_append] at SV
  rw [← hl] at SV hwl
  have u0 := alcell (bkeep hb1 x0) (.cells #[.int .i64 0, .int .i64 0] 30)
  have u1 := alcell (bkeep hb1 x1) (.cells #[.int .i64 0, .int .i64 0] 30)
  have u2 := alcell (bkeep hb1 x2) (.cells #[.int .i64 0, .int .i64 0] 30)
  have u3 := alcell (bkeep hb1 x3) (.cells #[.int .i64 0, .int .i64 0] 30)
  have u4 := alcell (bkeep hb1 y0) (.cells #[.int .i64 0, .int .i64 0] 30)
  have u5 := alcell (bkeep hb1 y1) (.cells #[.int .i64 0, .int .i64 0] 30)
  have HH := hd hl
  have Hg0 := hd hg0
  clear SL hl hfit hg0 x0 x1 x2 x3 y0 y1
  go_wp2_with fail
  rw [← hV]
  have HV := hd hV
  clear hV
  refine SV.mono ?_
  rintro e w2 ⟨vo, rfl, own2, grow2, hat2⟩
  have hb2 : Below V.heap.size V w2 := grown_below grow2
  have b2 := bthen bV hb2
  have t2 := tr.below hb2
  have q0 := t2.c0
  have q1 := t2.c1
  have qf := t2.fz
  have iv : IsV w2 (fun k => V.heap.size ≤ k) vo L := IsV_owned own2 (by omega) (fun q e => (own2.lt q e).1)
  have hVz := bV.size
  have z1 := bthen hWb hb1
  have z2 := z1.size
  have hVz' : V.heap.size = w1.heap.size + 1 := by rw [HV.out]; simp
  have hWz : w.heap.size + 3 ≤ W.heap.size := by rw [HW.out]; simp
  have hWw1 := hb1.size
  go_wp2_with fail
  refine bodyPost_ret (v := .tuple #[vo, .agg #[.int .i64 0, .int .i64 0]]) (by simp [results, Try.results20, go_sem, q0, q1]) rfl ⟨_, rfl, ?_, ?_⟩
  · refine iv.kp (((Kp.refl _ w2).setCell (p := ⟨w.heap.size + 2, 0, none⟩) (.inl ?_) _).setCell (p := ⟨w.heap.size + 2, 1, none⟩) (.inl ?_) _) (fun q _ h => by show w.heap.size ≤ q; have : V.heap.size ≤ q := h; omega) <;> (show ¬ V.heap.size ≤ w.heap.size + 2; omega)
  · exact (b2.setCell (p := ⟨w.heap.size + 2, 0, none⟩) (by show w.heap.size ≤ w.heap.size + 2; omega) _).setCell (p := ⟨w.heap.size + 2, 1, none⟩) (by show w.heap.size ≤ w.heap.size + 2; omega) _
end Go.Proofs.Ytlhdppkllmnmkae.G
