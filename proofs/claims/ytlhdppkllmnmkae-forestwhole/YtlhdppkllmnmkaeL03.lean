/- Texts laid together: Te Ti Za Zc. -/
import Derived.Test.YtlhdppkllmnmkaeL01
import Derived.Test.YtlhdppkllmnmkaeL02
/- Is it a tree of a nonterminal? What that is, the program's way, the document's way. -/
namespace Go.Proofs.Ytlhdppkllmnmkae.G
open Go.RowKit
/-- The rule of a number, if it is one. -/
def rOf (rs : List Ru) (r : Int) : Option Ru := if 0 ≤ r then rs[r.toNat]? else none
/-- Are these the trees of nonterminals, one of each? -/
def fitF (rs : List Ru) : Tf → List Int → Bool
  | .nil, [] => true
  | .cons r k rest, v :: vs => (match rOf rs r with
    | none => false
    | some u => decide (u.left = v) && fitF rs k (kidsL u.right)) && fitF rs rest vs
  | .nil, _ :: _ => false
  | .cons .., [] => false
def fitT (rs : List Ru) (t : Tr) (v : Int) : Bool := match rOf rs t.rule with
  | none => false
  | some u => decide (u.left = v) && fitF rs t.kids (kidsL u.right)
theorem fitF_cons (rs : List Ru) (r : Int) (k rest : Tf) (v : Int) (vs : List Int) : fitF rs (.cons r k rest) (v :: vs) = (fitT rs ⟨r, k⟩ v && fitF rs rest vs) := rfl
theorem fitF_len (rs : List Ru) : ∀ (f : Tf) (vs : List Int), fitF rs f vs = true → f.len = vs.length
  | .nil, [], _ => rfl
  | .nil, _ :: _, h => by simp [fitF] at h
  | .cons .., [], h => by simp [fitF] at h
  | .cons r k rest, v :: vs, h => by
    rw [fitF_cons, Bool.and_eq_true] at h
    have := fitF_len rs rest vs h.2
    simp [Tf.len, this]
theorem fitF_at {rs : List Ru} {f : Tf} {vs : List Int} {k : Nat} (h1 : k < f.len) (h2 : k < vs.length) : fitF rs (f.drp k) (vs.drop k) = (fitT rs (f.at_ k) vs[k] && fitF rs (f.drp (k + 1)) (vs.drop (k + 1))) := by
  rw [Tf.drp_at h1, List.drop_eq_getElem_cons h2, fitF_cons]
theorem fitF_end {rs : List Ru} {f : Tf} {vs : List Int} {k : Nat} (h1 : f.len ≤ k) (h2 : vs.length ≤ k) : fitF rs (f.drp k) (vs.drop k) = true := by
  rw [Tf.drp_end h1, List.drop_of_length_le h2]; rfl
theorem rOf_nat {rs : List Ru} {r : Nat} (h : r < rs.length) : rOf rs (r : Int) = some rs[r] := by
  unfold rOf; rw [if_pos (by omega)]; simp [h]
theorem rOf_neg {rs : List Ru} {r : Int} (h : r < 0) : rOf rs r = none := by unfold rOf; rw [if_neg (by omega)]
theorem rOf_high {rs : List Ru} {r : Int} (h : (rs.length : Int) ≤ r) : rOf rs r = none := by
  unfold rOf
  split
  · rw [List.getElem?_eq_none (by omega)]
  · rfl

theorem keep5c {W a e : World} {b1 o1 b2 o2 b3 o3 b4 o4 b5 o5 : Nat} {v1 v2 v3 v4 v5 : Value} (st : Stp a e) (h : Below W.heap.size W a ∧ a.cell? ⟨b1, o1, none⟩ = some v1 ∧ a.cell? ⟨b2, o2, none⟩ = some v2 ∧ a.cell? ⟨b3, o3, none⟩ = some v3 ∧ a.cell? ⟨b4, o4, none⟩ = some v4 ∧ a.cell? ⟨b5, o5, none⟩ = some v5) :
    Below W.heap.size W e ∧ e.cell? ⟨b1, o1, none⟩ = some v1 ∧ e.cell? ⟨b2, o2, none⟩ = some v2 ∧ e.cell? ⟨b3, o3, none⟩ = some v3 ∧ e.cell? ⟨b4, o4, none⟩ = some v4 ∧ e.cell? ⟨b5, o5, none⟩ = some v5 :=
  ⟨bthen h.1 st.h, bkeep st.h h.2.1, bkeep st.h h.2.2.1, bkeep st.h h.2.2.2.1, bkeep st.h h.2.2.2.2.1, bkeep st.h h.2.2.2.2.2⟩

/-! The program's. -/
def FtOK (t : Tr) : Prop := ∀ (g : Gm) (va vt : Value) (v : Int) (w : World), GV w All va g → TrV w All vt t → Small g.rules →
  Calls Try.prog 67 #[va, vt, .int .i64 v] w fun e w' => e = .returned (.bool (fitT g.rules t v)) ∧ Below w.heap.size w w'
set_option maxRecDepth 100000 in
set_option maxHeartbeats 4000000 in
theorem fits1_any (t : Tr) (ih : FtOK t) (g : Gm) (ao aq : Option Addr) (cap cq bk : Nat) (v : Int) (w : World) (hg : RsV w All (.slice ao g.rules.length cap) g.rules) (ht : TfV w All (.slice aq t.kids.len cq) t.kids) (hs : Small g.rules)
    (b0 : w.cell? ⟨bk, 0, none⟩ = some (.int .i64 g.vars)) (b1 : w.cell? ⟨bk, 1, none⟩ = some (.int .i64 g.terms)) (b2 : w.cell? ⟨bk, 2, none⟩ = some (.int .i64 g.start)) (b3 : w.cell? ⟨bk, 3, none⟩ = some (.slice ao g.rules.length cap)) :
    Calls Try.prog 81 #[.agg #[.int .i64 t.rule, .slice aq t.kids.len cq], .int .i64 v, .pointer (some ⟨bk, 0, none⟩)] w fun e w' => e = .returned (.bool (fitT g.rules t v)) ∧ Below w.heap.size w w' := by
  obtain ⟨W, hW⟩ : ∃ W, W = w.alloc (.cells #[.int .i64 t.rule, .slice aq t.kids.len cq] 44) := ⟨_, rfl⟩
  have hWb : Below w.heap.size w W := by rw [hW]; exact al1 _ _
  have IH := ih g _ _ v W ⟨_, rfl, hg.lw hWb⟩ (TrV_mk (ht.lw hWb)) hs
  have c0 := alcell b0 (.cells #[.int .i64 t.rule, .slice aq t.kids.len cq] 44)
  have c1 := alcell b1 (.cells #[.int .i64 t.rule, .slice aq t.kids.len cq] 44)
  have c2 := alcell b2 (.cells #[.int .i64 t.rule, .slice aq t.kids.len cq] 44)
  have c3 := alcell b3 (.cells #[.int .i64 t.rule, .slice aq t.kids.len cq] 44)
  generalize fitT g.rules t v = q at *
  go_enter Try.func81, Try.ntmps81
  go_wp2_with fail
  rw [← hW]
  refine IH.mono ?_
  rintro e w1 ⟨rfl, hb1⟩
  have bz := bthen hWb hb1
  have HW := hd hW
  clear hW
  go_wp2_with fail
  go_ret
  exact ⟨rfl, bz⟩
set_option maxRecDepth 100000 in
set_option maxHeartbeats 8000000 in
theorem equalTrees_any (f : Tf) (vs : List Int) (g : Gm) (ao : Option Addr) (cap bk : Nat) (va vb : Value) (w : World) (ih : ∀ i, i < f.len → FtOK (f.at_ i)) (ha : TfV w All va f) (hb : IsV w All vb vs) (hg : RsV w All (.slice ao g.rules.length cap) g.rules) (hs : Small g.rules)
    (b0 : w.cell? ⟨bk, 0, none⟩ = some (.int .i64 g.vars)) (b1 : w.cell? ⟨bk, 1, none⟩ = some (.int .i64 g.terms)) (b2 : w.cell? ⟨bk, 2, none⟩ = some (.int .i64 g.start)) (b3 : w.cell? ⟨bk, 3, none⟩ = some (.slice ao g.rules.length cap)) :
    Calls Try.prog 79 #[va, vb, .func (.func 81) #[] #[.pointer (some ⟨bk, 0, none⟩)]] w fun e w' => e = .returned (.bool (fitF g.rules f vs)) ∧ Below w.heap.size w w' := by
  obtain ⟨ao1, cap1, rfl, _⟩ := ha.slice
  obtain ⟨ao2, cap2, rfl⟩ := hb.slice
  have hl := ha.1
  have hm := hb.1
  obtain ⟨R, hR⟩ : ∃ R, R = fitF g.rules f vs := ⟨_, rfl⟩
  rw [← hR]
  by_cases hlm : f.len = vs.length
  · go_enter Try.func79, Try.ntmps79
    rw [← hlm]
    have HLM := hd hlm
    clear hlm
    go_wp2_with fail
    go_loopw [17] (fun i wr => ∃ k : Nat, k ≤ f.len ∧ i = .int .i64 k ∧ Hid (R = fitF g.rules (f.drp k) (vs.drop k)) ∧ Below w.heap.size w wr) (fun i _ => f.len - (intOf i).toNat)
    case atStart => exact ⟨0, Nat.zero_le _, rfl, hd (by rw [hR, Tf.drp_zero, List.drop_zero]), Below.refl _ _⟩
    case round =>
      obtain ⟨k, hk, rfl, hinv, bel⟩ := hrel
      clear hR
      by_cases hlt : k < f.len
      · have hlt' : k < vs.length := by have := HLM.out; omega
        obtain ⟨b, o, rfl, _, c0, aq, cq, c1, hq⟩ := (ha.lw bel).at_ hlt
        obtain ⟨b', o', rfl, d0⟩ := (hb.lw bel).at_ hlt'
        have HI := hd (hinv.out.trans (fitF_at hlt hlt'))
        have IH := fits1_any (f.at_ k) (ih k hlt) g ao aq cap cq bk vs[k]
        clear hinv
        generalize f.at_ k = x at *
        generalize vs[k] = y at *
        obtain ⟨V, hV⟩ : ∃ V, V = wr.alloc (.cells #[.int .i64 x.rule, .slice aq x.kids.len cq] 44) := ⟨_, rfl⟩
        have hVb : Below wr.heap.size wr V := by rw [hV]; exact al1 _ _
        have bV := bthen bel hVb
        have SR := IH V (hg.lw bV) (hq.lw hVb) hs (bkeep bV b0) (bkeep bV b1) (bkeep bV b2) (bkeep bV b3)
        have d0' := alcell d0 (.cells #[.int .i64 x.rule, .slice aq x.kids.len cq] 44)
        generalize fitT g.rules x y = z at *
        cases z with
        | true =>
          have HI' := hd (HI.out.trans (Bool.true_and _))
          go_wp2_with fail
          rw [← hV]
          refine SR.mono ?_
          rintro e w1 ⟨rfl, hb1⟩
          have HV := hd hV
          clear hV
          have bz := bthen bV hb1
          go_wp2_with fail
          go_roundw
          case rel => exact ⟨k + 1, by omega, by go_num, HI', bz⟩
          case measure => simp [intOf]; omega
        | false =>
          have HI' := hd (HI.out.trans (Bool.false_and _))
          go_wp2_with fail
          rw [← hV]
          refine SR.mono ?_
          rintro e w1 ⟨rfl, hb1⟩
          have HV := hd hV
          clear hV
          have bz := bthen bV hb1
          go_wp2_with fail
          go_ret
          exact ⟨ret_bool HI'.out.symm, bz⟩
      · have HI := hd (hinv.out.trans (fitF_end (by omega) (by have := HLM.out; omega)))
        go_wp2_with fail
        go_ret
        exact ⟨ret_bool HI.out.symm, bel⟩
  · have hne : Hid (R = false) := hd (by
      rw [hR, ← Bool.not_eq_true]
      exact fun h => hlm (fitF_len _ _ _ h))
    clear hR
    have hb' : ((f.len : Int) != (vs.length : Int)) = true := by simp; omega
    go_enter Try.func79, Try.ntmps79
    go_wp2_with fail
    go_ret
    exact ⟨ret_bool hne.out.symm, Below.refl _ _⟩
set_option maxRecDepth 100000 in
set_option maxHeartbeats 8000000 in
theorem ft_head (t : Tr) (ih : ∀ i, i < t.kids.len → FtOK (t.kids.at_ i)) : FtOK t := by
  intro g va vt v w hg ht hs
  obtain ⟨ua, rfl, ra⟩ := hg
  obtain ⟨ut, rfl, kt⟩ := ht
  obtain ⟨ao, cap, rfl⟩ := ra.slice
  obtain ⟨at_, ct, rfl, _⟩ := kt.slice
  have hl := ra.1
  obtain ⟨R, hR⟩ : ∃ R, R = fitT g.rules t v := ⟨_, rfl⟩
  rw [← hR]
  obtain ⟨W, hW⟩ : ∃ W, W = (w.alloc (.cells #[.int .i64 g.vars, .int .i64 g.terms, .int .i64 g.start, .slice ao g.rules.length cap] 24)).alloc (.cells #[.int .i64 t.rule, .slice at_ t.kids.len ct] 44) := ⟨_, rfl⟩
  have hWb : Below w.heap.size w W := by rw [hW]; exact al2 _ _ _
  have x0 : W.cell? ⟨w.heap.size, 0, none⟩ = some (.int .i64 g.vars) := by rw [hW]; simp
  have x1 : W.cell? ⟨w.heap.size, 1, none⟩ = some (.int .i64 g.terms) := by rw [hW]; simp
  have x2 : W.cell? ⟨w.heap.size, 2, none⟩ = some (.int .i64 g.start) := by rw [hW]; simp
  have x3 : W.cell? ⟨w.heap.size, 3, none⟩ = some (.slice ao g.rules.length cap) := by rw [hW]; simp
  have y0 : W.cell? ⟨w.heap.size + 1, 0, none⟩ = some (.int .i64 t.rule) := by rw [hW]; simp
  have y1 : W.cell? ⟨w.heap.size + 1, 1, none⟩ = some (.slice at_ t.kids.len ct) := by rw [hW]; simp
  by_cases h1 : t.rule < 0
  · have hR' : Hid (R = false) := hd (by rw [hR]; unfold fitT; rw [rOf_neg h1])
    clear hR
    go_enter Try.func67, Try.ntmps67
    go_wp2_with fail
    rw [← hW]
    go_ret
    exact ⟨ret_bool hR'.out.symm, hWb⟩
  by_cases h2 : (g.rules.length : Int) ≤ t.rule
  · have hR' : Hid (R = false) := hd (by rw [hR]; unfold fitT; rw [rOf_high h2])
    clear hR
    go_enter Try.func67, Try.ntmps67
    go_wp2_with fail
    rw [← hW]
    go_ret
    exact ⟨ret_bool hR'.out.symm, hWb⟩
  obtain ⟨r, hr⟩ : ∃ r : Nat, t.rule = r := ⟨t.rule.toNat, by omega⟩
  have hlt : r < g.rules.length := by omega
  have hR1 : R = (decide (g.rules[r].left = v) && fitF g.rules t.kids (kidsL g.rules[r].right)) := by rw [hR]; unfold fitT; rw [hr, rOf_nat hlt]
  have hrl := hs.2 r hlt
  clear hR
  rw [hr] at hW y0 ⊢
  have HR := hd hr
  obtain ⟨b, o, rfl, c0, ar, cr, c1, hc⟩ := (ra.lw hWb).at_ hlt
  have EQ := equalTrees_any t.kids (kidsL g.rules[r].right) g (some ⟨b, o, none⟩) cap w.heap.size (.slice at_ t.kids.len ct)
  have KA := kids_any g.rules[r] ar cr W hc (by omega)
  have hkl := kidsL_len g.rules[r].right
  have hKl : (kidsL g.rules[r].right).length ≤ 9223372036854775807 := by omega
  clear h1 h2 hr
  generalize g.rules[r] = x at *
  by_cases hv : x.left = v
  · rw [decide_eq_true hv, Bool.true_and] at hR1
    have HRF := hd hR1
    have hvb : (x.left != v) = false := by simpa using hv
    clear hv hR1
    go_enter Try.func67, Try.ntmps67
    rw [hW] at c0 c1
    go_wp2_with fail
    rw [← hW]
    have HW := hd hW
    rw [← hW] at c0 c1
    clear hW
    have g0 : Below W.heap.size W W ∧ W.cell? ⟨w.heap.size + 1, 1, none⟩ = some (.slice at_ t.kids.len ct) ∧ W.cell? ⟨w.heap.size, 3, none⟩ = some (.slice (some ⟨b, o, none⟩) g.rules.length cap) ∧ W.cell? ⟨w.heap.size + 1, 0, none⟩ = some (.int .i64 r) ∧ W.cell? ⟨b, o + r * 2, none⟩ = some (.int .i64 x.left) ∧ W.cell? ⟨b, o + r * 2 + 1, none⟩ = some (.slice ar x.right.length cr) := ⟨Below.refl _ _, y1, x3, y0, c0, c1⟩
    have st0 : Stp W W.drew := ⟨drw1 W⟩
    have KA' := fun w' (hb : Below W.heap.size W w') => kids_any x ar cr w' (hc.lw hb) (by omega)
    have EQ' := fun v w' (hb : Below W.heap.size W w') i1 => EQ v w' ih (kt.lw (bthen hWb hb)) i1 (ra.lw (bthen hWb hb)) hs (bkeep hb x0) (bkeep hb x1) (bkeep hb x2) (bkeep hb x3)
    clear KA EQ
    generalize kidsL x.right = K at *
    generalize fitF g.rules t.kids K = z at *
    clear x0 x1 x2 x3 y0 y1 c0 c1 hc
    go_region_held3 (fun w' => Below W.heap.size W w' ∧ w'.cell? ⟨w.heap.size + 1, 1, none⟩ = some (.slice at_ t.kids.len ct) ∧ w'.cell? ⟨w.heap.size, 3, none⟩ = some (.slice (some ⟨b, o, none⟩) g.rules.length cap) ∧ w'.cell? ⟨w.heap.size + 1, 0, none⟩ = some (.int .i64 r) ∧ w'.cell? ⟨b, o + r * 2, none⟩ = some (.int .i64 x.left) ∧ w'.cell? ⟨b, o + r * 2 + 1, none⟩ = some (.slice ar x.right.length cr))
      (first | assumption | exact keep5c (by assumption) (by assumption))
      (first
        | (go_at_call 80; refine (KA' _ (And.left (by assumption))).mono ?_; rintro e w1 ⟨v1, rfl, own1, hb1⟩; have st1 := Stp.mk hb1; clear hb1; have i1 := IsV_owned (S := All) own1 hKl (fun _ _ => trivial); obtain ⟨ao1, cap1, rfl⟩ := i1.slice; clear own1)
        | (go_at_call 79; refine (EQ' _ _ (And.left (by assumption)) i1).mono ?_; rintro e w2 ⟨rfl, hb2⟩; have st2 := Stp.mk hb2; clear hb2))
    all_goals
      rename Below W.heap.size W w2 ∧ _ => hS
      have bz2 := bthen hWb hS.1
      go_wp2_with fail
      go_ret
      exact ⟨ret_bool HRF.out.symm, bz2⟩
  · have HRF : Hid (R = false) := hd (by rw [hR1, decide_eq_false hv, Bool.false_and])
    have hvb : (x.left != v) = true := by simpa using hv
    clear hv hR1
    go_enter Try.func67, Try.ntmps67
    rw [hW] at c0 c1
    go_wp2_with fail
    rw [← hW]
    go_ret
    exact ⟨ret_bool HRF.out.symm, hWb⟩
theorem ft_all : ∀ (f : Tf) (i : Nat), i < f.len → FtOK (f.at_ i)
  | .nil, _, h => absurd h (Nat.not_lt_zero _)
  | .cons rule kids _, 0, _ => ft_head ⟨rule, kids⟩ (ft_all kids)
  | .cons _ _ rest, i + 1, h => ft_all rest i (by simpa [Tf.len] using h)
theorem fits_any (t : Tr) : FtOK t := ft_head t (ft_all t.kids)
end Go.Proofs.Ytlhdppkllmnmkae.G

/- The words of trees: what they are; what a right grammar's symbols may be. -/
namespace Go.Proofs.Ytlhdppkllmnmkae.G
open Go.RowKit
/-- The right side of a rule, if it is one. -/
def rgOf (rs : List Ru) (r : Int) : List Int := match rOf rs r with
  | none => []
  | some u => u.right
/-- A right side with words in the place of its nonterminals. -/
def wdR : List Int → List (List Int) → List Int
  | [], _ => []
  | s :: l, ws => if s < 0 then (-1 - s) :: wdR l ws else ws.headD [] ++ wdR l ws.tail
/-- The words of a row of trees. -/
def wdF (rs : List Ru) : Tf → List (List Int)
  | .nil => []
  | .cons r k rest => wdR (rgOf rs r) (wdF rs k) :: wdF rs rest
def wdT (rs : List Ru) (t : Tr) : List Int := wdR (rgOf rs t.rule) (wdF rs t.kids)
def lenL (ws : List (List Int)) : Nat := (ws.map List.length).sum
theorem wdR_len : ∀ (l : List Int) (ws : List (List Int)), (wdR l ws).length ≤ l.length + lenL ws
  | [], _ => by simp [wdR]
  | s :: l, ws => by
    unfold wdR
    split
    · have := wdR_len l ws
      simp only [List.length_cons]; omega
    · have := wdR_len l ws.tail
      cases ws with
      | nil => simp [lenL] at this ⊢; omega
      | cons x ws => simp [lenL] at this ⊢; omega
theorem rgOf_len {rs : List Ru} (h : Small rs) (r : Int) : (rgOf rs r).length ≤ 100 := by
  unfold rgOf rOf
  split
  · simp
  · rename_i u hu
    split at hu
    · obtain ⟨h1, rfl⟩ := List.getElem?_eq_some_iff.1 hu
      exact h.2 _ h1
    · cases hu
theorem wdF_len {rs : List Ru} (h : Small rs) : ∀ f : Tf, lenL (wdF rs f) ≤ f.sz * 100
  | .nil => by simp [wdF, lenL]
  | .cons r k rest => by
    have h1 := wdF_len h k
    have h2 := wdF_len h rest
    have h3 := wdR_len (rgOf rs r) (wdF rs k)
    have h4 := rgOf_len h r
    simp only [wdF, lenL, Tf.sz, List.map_cons, List.sum_cons] at *
    omega
theorem wdT_len {rs : List Ru} (h : Small rs) (t : Tr) : (wdT rs t).length ≤ t.sz * 100 := by
  have h1 := wdF_len h t.kids
  have h3 := wdR_len (rgOf rs t.rule) (wdF rs t.kids)
  have h4 := rgOf_len h t.rule
  simp only [wdT, Tr.sz] at *
  omega
theorem wdR_neg {l : List Int} {k : Nat} (h : k < l.length) (hs : l[k] < 0) (ws : List (List Int)) : wdR (l.drop k) ws = (-1 - l[k]) :: wdR (l.drop (k + 1)) ws := by
  rw [List.drop_eq_getElem_cons h]; simp only [wdR, hs, if_true]
theorem wdR_pos {l : List Int} {k : Nat} (h : k < l.length) (hs : ¬ l[k] < 0) {rs : List Ru} {f : Tf} {j : Nat} (hj : j < f.len) : wdR (l.drop k) (wdF rs (f.drp j)) = wdT rs (f.at_ j) ++ wdR (l.drop (k + 1)) (wdF rs (f.drp (j + 1))) := by
  rw [List.drop_eq_getElem_cons h, Tf.drp_at hj]; simp only [wdR, hs, if_false, wdF, List.headD_cons, List.tail_cons, wdT]
theorem wdR_end {l : List Int} {k : Nat} (h : l.length ≤ k) (ws : List (List Int)) : wdR (l.drop k) ws = [] := by rw [List.drop_of_length_le h]; rfl
theorem kidsL_dneg {l : List Int} {k : Nat} (h : k < l.length) (hs : l[k] < 0) : kidsL (l.drop k) = kidsL (l.drop (k + 1)) := by
  rw [List.drop_eq_getElem_cons h]; simp only [kidsL, List.filter_cons]; rw [if_neg (by simpa using hs)]
theorem kidsL_dpos {l : List Int} {k : Nat} (h : k < l.length) (hs : ¬ l[k] < 0) : kidsL (l.drop k) = l[k] :: kidsL (l.drop (k + 1)) := by
  rw [List.drop_eq_getElem_cons h]; simp only [kidsL, List.filter_cons]; rw [if_pos (by simpa using hs)]
theorem fit_pos {rs : List Ru} {l : List Int} {f : Tf} {k j : Nat} (h : k < l.length) (hs : ¬ l[k] < 0) (hf : fitF rs (f.drp j) (kidsL (l.drop k)) = true) : j < f.len ∧ fitT rs (f.at_ j) l[k] = true ∧ fitF rs (f.drp (j + 1)) (kidsL (l.drop (k + 1))) = true := by
  rw [kidsL_dpos h hs] at hf
  have hj : j < f.len := by
    rcases Nat.lt_or_ge j f.len with h | h
    · exact h
    · rw [Tf.drp_end h] at hf; simp [fitF] at hf
  rw [Tf.drp_at hj, fitF_cons, Bool.and_eq_true] at hf
  exact ⟨hj, hf.1, hf.2⟩
/-- A fitting tree's rule. -/
theorem fit_rule {rs : List Ru} {t : Tr} {v : Int} (h : fitT rs t v = true) : ∃ (r : Nat) (hr : r < rs.length), t.rule = r ∧ rs[r].left = v ∧ fitF rs t.kids (kidsL rs[r].right) = true ∧ wdT rs t = wdR rs[r].right (wdF rs t.kids) := by
  unfold fitT rOf at h
  by_cases h0 : 0 ≤ t.rule
  · rw [if_pos h0] at h
    rcases Nat.lt_or_ge t.rule.toNat rs.length with h1 | h1
    · rw [List.getElem?_eq_getElem h1] at h
      simp at h
      refine ⟨t.rule.toNat, h1, by omega, h.1, h.2, ?_⟩
      unfold wdT rgOf rOf
      rw [if_pos h0, List.getElem?_eq_getElem h1]
    · rw [List.getElem?_eq_none h1] at h; simp at h
  · rw [if_neg h0] at h; simp at h

/-- Symbols that are not far from 0. -/
def Near (rs : List Ru) : Prop := ∀ i (h : i < rs.length), ∀ k (hk : k < rs[i].right.length), -1000 ≤ rs[i].right[k] ∧ rs[i].right[k] ≤ 1000
theorem rsF_all {g : Gm} : ∀ {l : List Ru} {k : Nat}, (rsF g l k).1 = 0 → ∀ r ∈ l, ruF g r = 0
  | [], _, _ => by simp
  | r :: l, k, h => by
    unfold rsF at h
    split at h
    next h0 =>
      exact fun x hx => by
        rcases List.mem_cons.1 hx with rfl | hx
        · exact h0
        · exact rsF_all h x hx
    next h0 => exact absurd h h0
theorem near_of {g : Gm} (h : (gFl g).1 = 0) : Near g.rules := by
  unfold gFl at h
  split at h
  next hs =>
    split at h
    · cases h
    · intro i hi k hk
      have h1 := rsF_all h g.rules[i] (List.getElem_mem hi)
      unfold szB at hs
      simp at hs
      unfold ruF at h1
      split at h1
      · cases h1
      · split at h1
        next h2 =>
          have := List.all_eq_true.1 h2.2 _ (List.getElem_mem hk)
          simp [syB] at this
          omega
        · cases h1
  · cases h
end Go.Proofs.Ytlhdppkllmnmkae.G

/- In how many ways symbols stand for a word, exactly. -/
namespace Go.Proofs.Ytlhdppkllmnmkae.G
open Go.RowKit
/-! Sums of so many numbers. -/
def sm (n : Nat) (F : Nat → Nat) : Nat := match n with
  | 0 => 0
  | k + 1 => sm k F + F k
theorem sm_congr {F G : Nat → Nat} : ∀ {n : Nat}, (∀ k, k < n → F k = G k) → sm n F = sm n G
  | 0, _ => rfl
  | n + 1, h => by simp only [sm]; rw [sm_congr fun k hk => h k (by omega), h n (by omega)]
theorem sm_zero {F : Nat → Nat} : ∀ {n : Nat}, (∀ k, k < n → F k = 0) → sm n F = 0
  | 0, _ => rfl
  | n + 1, h => by simp only [sm]; rw [sm_zero fun k hk => h k (by omega), h n (by omega)]
theorem sm_add (F G : Nat → Nat) : ∀ n : Nat, sm n (fun k => F k + G k) = sm n F + sm n G
  | 0 => rfl
  | n + 1 => by simp only [sm]; rw [sm_add F G n]; omega
theorem sm_one {F : Nat → Nat} {p : Nat} : ∀ {n : Nat}, p < n → (∀ k, k < n → k ≠ p → F k = 0) → sm n F = F p
  | 0, h, _ => absurd h (Nat.not_lt_zero _)
  | n + 1, h, hz => by
    simp only [sm]
    by_cases e : p = n
    · subst e; rw [sm_zero fun k hk => hz k (by omega) (by omega), Nat.zero_add]
    · rw [sm_one (by omega) fun k hk hn => hz k (by omega) hn, hz n (by omega) (Ne.symm e)]; rfl
theorem sm_le {F G : Nat → Nat} : ∀ {n : Nat}, (∀ k, k < n → F k ≤ G k) → sm n F ≤ sm n G
  | 0, _ => Nat.le_refl _
  | n + 1, h => by have h1 := sm_le (n := n) fun k hk => h k (by omega); have h2 := h n (by omega); simp only [sm]; omega
/-! Ways, exactly. -/
/-- What a symbol counts, from a place to another. -/
def vlN (f : Nat → Nat → Nat → Nat) (W : List Int) (s : Int) (a b : Nat) : Nat := if 0 ≤ s then f s.toNat a b else if b = a + 1 ∧ W[a]? = some (-1 - s) then 1 else 0
/-- Symbols one behind the other. -/
def chN (f : Nat → Nat → Nat → Nat) (W : List Int) : List Int → Nat → Nat → Nat
  | [], i, j => if i = j then 1 else 0
  | s :: ss, i, j => sm (W.length + 1) fun m => if i ≤ m ∧ m ≤ j then vlN f W s i m * chN f W ss m j else 0
/-- By these rules. -/
def stN (f : Nat → Nat → Nat → Nat) (W : List Int) (v : Int) (i j : Nat) : List Ru → Nat
  | [] => 0
  | r :: rs => (if r.left = v then chN f W r.right i j else 0) + stN f W v i j rs
/-- By trees of so many levels. -/
def nT (R : List Ru) (W : List Int) : Nat → Nat → Nat → Nat → Nat
  | 0 => fun _ _ _ => 0
  | t + 1 => fun v i j => stN (nT R W t) W (v : Int) i j R
end Go.Proofs.Ytlhdppkllmnmkae.G

/- The trees of a word, one behind the other: as many as are counted, each once. -/
namespace Go.Proofs.Ytlhdppkllmnmkae.G
open Go.RowKit
/-- The rows of trees of symbols. -/
def rowsT (F : Int → Nat → Nat → List Tr) (W : List Int) : List Int → Nat → Nat → List Tf
  | [], i, j => if i = j then [.nil] else []
  | s :: ss, i, j => (List.range (W.length + 1)).flatMap fun m => if i ≤ m ∧ m ≤ j then
      (if 0 ≤ s then (F s i m).flatMap fun t => (rowsT F W ss m j).map fun f => .cons t.rule t.kids f else if m = i + 1 ∧ W[i]? = some (-1 - s) then rowsT F W ss m j else []) else []
/-- By these rules, whose numbers rise from k on. -/
def lvT (F : Int → Nat → Nat → List Tr) (W : List Int) (v : Int) (i j : Nat) : List Ru → Nat → List Tr
  | [], _ => []
  | r :: rs, k => (if r.left = v then (rowsT F W r.right i j).map fun f => ⟨(k : Int), f⟩ else []) ++ lvT F W v i j rs (k + 1)
/-- Trees of so many levels. -/
def LT (R : List Ru) (W : List Int) : Nat → Int → Nat → Nat → List Tr
  | 0 => fun _ _ _ => []
  | h + 1 => fun v i j => lvT (LT R W h) W v i j R 0
theorem flat_len {α : Type} (G : Nat → List α) : ∀ n : Nat, ((List.range n).flatMap G).length = sm n fun k => (G k).length
  | 0 => rfl
  | n + 1 => by rw [List.range_succ, List.flatMap_append, List.length_append, flat_len G n]; simp [sm]
theorem flat_mul {α β γ : Type} (l : List α) (m : List β) (g : α → β → γ) : (l.flatMap fun t => m.map (g t)).length = l.length * m.length := by
  induction l with
  | nil => simp
  | cons a l ih => rw [List.flatMap_cons, List.length_append, ih, List.length_map, List.length_cons, Nat.add_mul]; omega
theorem rowsT_len {F : Int → Nat → Nat → List Tr} {f : Nat → Nat → Nat → Nat} {W : List Int} (hf : ∀ v a b, f v a b = (F (v : Int) a b).length) : ∀ (l : List Int) (i j : Nat), (rowsT F W l i j).length = chN f W l i j
  | [], i, j => by simp only [rowsT, chN]; split <;> rfl
  | s :: ss, i, j => by
    simp only [rowsT, chN]
    rw [flat_len]
    refine sm_congr fun m _ => ?_
    by_cases hm : i ≤ m ∧ m ≤ j
    · rw [if_pos hm, if_pos hm]
      unfold vlN
      by_cases hs : 0 ≤ s
      · rw [if_pos hs, if_pos hs, flat_mul, rowsT_len hf ss m j, hf, Int.toNat_of_nonneg hs]
      · rw [if_neg hs, if_neg hs]
        by_cases hc : m = i + 1 ∧ W[i]? = some (-1 - s)
        · rw [if_pos hc, if_pos hc, rowsT_len hf ss m j, Nat.one_mul]
        · rw [if_neg hc, if_neg hc, Nat.zero_mul]; rfl
    · rw [if_neg hm, if_neg hm]; rfl
theorem lvT_len {F : Int → Nat → Nat → List Tr} {f : Nat → Nat → Nat → Nat} {W : List Int} {v : Int} {i j : Nat} (hf : ∀ v a b, f v a b = (F (v : Int) a b).length) : ∀ (rs : List Ru) (k : Nat), (lvT F W v i j rs k).length = stN f W v i j rs
  | [], _ => rfl
  | r :: rs, k => by
    simp only [lvT, stN]
    rw [List.length_append, lvT_len hf rs]
    congr 1
    split
    · rw [List.length_map, rowsT_len hf]
    · rfl
/-- As many as are counted. -/
theorem LT_len (R : List Ru) (W : List Int) : ∀ (h : Nat) (v i j : Nat), (LT R W h (v : Int) i j).length = nT R W h v i j
  | 0, _, _, _ => rfl
  | h + 1, _v, _i, _j => lvT_len (fun v a b => (LT_len R W h v a b).symm) R 0

/-! Which trees they are. -/
def Tf.hg : Tf → Nat
  | .nil => 0
  | .cons _ k rest => max (1 + k.hg) rest.hg
def Tr.hg (t : Tr) : Nat := 1 + t.kids.hg
/-- The word from a place to ahead of another. -/
def seg (W : List Int) (i j : Nat) : List Int := (W.drop i).take (j - i)
theorem seg_len {W : List Int} {i j : Nat} (h : i ≤ j) (hj : j ≤ W.length) : (seg W i j).length = j - i := by unfold seg; rw [List.length_take, List.length_drop]; omega
theorem seg_app {W : List Int} {i m j : Nat} (h1 : i ≤ m) (h2 : m ≤ j) : seg W i m ++ seg W m j = seg W i j := by
  unfold seg
  rw [show W.drop m = (W.drop i).drop (m - i) by rw [List.drop_drop]; congr 1; omega]
  rw [show j - i = (m - i) + (j - m) by omega, ← List.take_add]
theorem seg_self (W : List Int) (i : Nat) : seg W i i = [] := by unfold seg; simp
theorem seg_one {W : List Int} {i : Nat} {x : Int} (h : W[i]? = some x) : seg W i (i + 1) = [x] := by
  obtain ⟨hi, rfl⟩ := List.getElem?_eq_some_iff.1 h
  unfold seg
  rw [List.drop_eq_getElem_cons hi, show i + 1 - i = 1 by omega]; rfl
theorem app_cut {a b a' b' : List Int} (h : a ++ b = a' ++ b') (hl : a.length = a'.length) : a = a' ∧ b = b' := List.append_inj h hl
/-- What is a tree of v with the word from i to j, of so many levels. -/
def IsT (R : List Ru) (W : List Int) (h : Nat) (v : Int) (i j : Nat) (t : Tr) : Prop := fitT R t v = true ∧ wdT R t = seg W i j ∧ i ≤ j ∧ t.hg ≤ h
def IsR (R : List Ru) (W : List Int) (h : Nat) (l : List Int) (i j : Nat) (f : Tf) : Prop := fitF R f (kidsL l) = true ∧ wdR l (wdF R f) = seg W i j ∧ i ≤ j ∧ f.hg ≤ h
theorem kidsL_pos {s : Int} {l : List Int} (h : 0 ≤ s) : kidsL (s :: l) = s :: kidsL l := by unfold kidsL; rw [List.filter_cons, if_pos (by simpa using h)]
theorem kidsL_ng {s : Int} {l : List Int} (h : ¬ 0 ≤ s) : kidsL (s :: l) = kidsL l := by unfold kidsL; rw [List.filter_cons, if_neg (by simpa using h)]
theorem rowsT_mem {R : List Ru} {W : List Int} {h : Nat} {F : Int → Nat → Nat → List Tr} (hF : ∀ (v : Int) (a b : Nat) (t : Tr), 0 ≤ v → b ≤ W.length → (t ∈ F v a b ↔ IsT R W h v a b t)) : ∀ (l : List Int) (i j : Nat) (f : Tf), j ≤ W.length → (f ∈ rowsT F W l i j ↔ IsR R W h l i j f)
  | [], i, j, f, hj => by
    have hk : kidsL [] = [] := rfl
    simp only [rowsT]
    unfold IsR
    rw [hk]
    constructor
    · intro hm
      split at hm
      · rename_i e
        rw [List.mem_singleton] at hm
        subst e hm
        exact ⟨rfl, (seg_self W i).symm, Nat.le_refl _, Nat.zero_le _⟩
      · cases hm
    · rintro ⟨h1, h2, h3, _⟩
      have hl := seg_len (W := W) h3 hj
      rw [← h2] at hl
      have e : i = j := by have : ([] : List Int).length = j - i := hl; simp at this; omega
      rw [if_pos e]
      cases f with
      | nil => exact List.mem_singleton.2 rfl
      | cons r k rest => simp [fitF] at h1
  | s :: ss, i, j, f, hj => by
    simp only [rowsT, List.mem_flatMap, List.mem_range]
    unfold IsR
    by_cases hs : 0 ≤ s
    · rw [kidsL_pos hs]
      constructor
      · rintro ⟨m, hm, hmem⟩
        split at hmem
        · rename_i hc
          rw [List.mem_flatMap] at hmem
          obtain ⟨t, ht, hmem⟩ := hmem
          obtain ⟨f', hf', rfl⟩ := List.mem_map.1 hmem
          obtain ⟨g1, g2, g3, g4⟩ := (hF s i m t hs (by omega)).1 ht
          obtain ⟨k1, k2, k3, k4⟩ := (rowsT_mem hF ss m j f' hj).1 hf'
          refine ⟨by rw [fitF_cons, Bool.and_eq_true]; exact ⟨g1, k1⟩, ?_, by omega, ?_⟩
          · show wdR (s :: ss) (wdT R t :: wdF R f') = _
            unfold wdR
            rw [if_neg (by omega)]
            show wdT R t ++ wdR ss (wdF R f') = _
            rw [g2, k2, seg_app hc.1 hc.2]
          · show max (1 + t.kids.hg) f'.hg ≤ h
            have : 1 + t.kids.hg ≤ h := g4
            omega
        · cases hmem
      · rintro ⟨h1, h2, h3, h4⟩
        cases f with
        | nil => simp [fitF] at h1
        | cons r k rest =>
          rw [fitF_cons, Bool.and_eq_true] at h1
          have h2' : wdT R ⟨r, k⟩ ++ wdR ss (wdF R rest) = seg W i j := by
            have : wdR (s :: ss) (wdT R ⟨r, k⟩ :: wdF R rest) = seg W i j := h2
            unfold wdR at this
            rw [if_neg (by omega)] at this
            exact this
          have hl := congrArg List.length h2'
          rw [List.length_append, seg_len h3 hj] at hl
          have hcut := app_cut (h2'.trans (seg_app (m := i + (wdT R ⟨r, k⟩).length) (by omega) (by omega)).symm) (by rw [seg_len (by omega) (by omega)]; omega)
          have hh : max (1 + k.hg) rest.hg ≤ h := h4
          refine ⟨i + (wdT R ⟨r, k⟩).length, by omega, ?_⟩
          rw [if_pos (by omega), if_pos hs, List.mem_flatMap]
          refine ⟨⟨r, k⟩, (hF s _ _ _ hs (by omega)).2 ⟨h1.1, hcut.1, by omega, by show 1 + k.hg ≤ h; omega⟩, List.mem_map.2 ⟨rest, (rowsT_mem hF ss _ j rest hj).2 ⟨h1.2, hcut.2, by omega, by omega⟩, rfl⟩⟩
    · rw [kidsL_ng hs]
      constructor
      · rintro ⟨m, hm, hmem⟩
        split at hmem
        · rename_i hc
          split at hmem
          · rename_i hw
            obtain ⟨k1, k2, k3, k4⟩ := (rowsT_mem hF ss m j f hj).1 hmem
            refine ⟨k1, ?_, by omega, k4⟩
            unfold wdR
            rw [if_pos (by omega), k2, hw.1, ← seg_app (W := W) (i := i) (m := i + 1) (j := j) (by omega) (by omega), seg_one hw.2]; rfl
          · cases hmem
        · cases hmem
      · rintro ⟨h1, h2, h3, h4⟩
        unfold wdR at h2
        rw [if_pos (by omega)] at h2
        have hl := congrArg List.length h2
        rw [List.length_cons, seg_len h3 hj] at hl
        have hij : i + 1 ≤ j := by omega
        rw [← seg_app (W := W) (i := i) (m := i + 1) (j := j) (by omega) hij] at h2
        have hi : i < W.length := by omega
        have ho : seg W i (i + 1) = [W[i]] := seg_one (List.getElem?_eq_getElem hi)
        rw [ho] at h2
        simp only [List.singleton_append, List.cons.injEq] at h2
        refine ⟨i + 1, by omega, ?_⟩
        rw [if_pos (by omega), if_neg hs, if_pos ⟨rfl, by rw [List.getElem?_eq_getElem hi, h2.1]⟩]
        exact (rowsT_mem hF ss _ j f hj).2 ⟨h1, h2.2, hij, h4⟩
theorem lvT_mem {F : Int → Nat → Nat → List Tr} {W : List Int} {v : Int} {i j : Nat} {t : Tr} : ∀ (rs : List Ru) (k : Nat), (t ∈ lvT F W v i j rs k ↔ ∃ p, ∃ hp : p < rs.length, t.rule = ((k + p : Nat) : Int) ∧ rs[p].left = v ∧ t.kids ∈ rowsT F W rs[p].right i j)
  | [], k => by simp [lvT]
  | r :: rs, k => by
    simp only [lvT, List.mem_append]
    rw [lvT_mem rs (k + 1)]
    constructor
    · rintro (h | ⟨p, hp, h1, h2, h3⟩)
      · split at h
        · rename_i hl
          obtain ⟨f, hf, rfl⟩ := List.mem_map.1 h
          exact ⟨0, by simp, rfl, hl, hf⟩
        · cases h
      · exact ⟨p + 1, by simpa using hp, by rw [h1]; congr 1; omega, by simpa using h2, by simpa using h3⟩
    · rintro ⟨p, hp, h1, h2, h3⟩
      cases p with
      | zero =>
        left
        simp only [List.getElem_cons_zero] at h2 h3
        rw [if_pos h2]
        refine List.mem_map.2 ⟨t.kids, h3, ?_⟩
        cases t
        simp only [Tr.mk.injEq, and_true]
        exact h1.symm
      | succ p => exact .inr ⟨p, by simpa using hp, by rw [h1]; congr 1; omega, by simpa using h2, by simpa using h3⟩
/-- They are all trees of so many levels. -/
theorem LT_mem (R : List Ru) (W : List Int) : ∀ (h : Nat) (v : Int) (i j : Nat) (t : Tr), j ≤ W.length → (t ∈ LT R W h v i j ↔ IsT R W h v i j t)
  | 0, v, i, j, t, _ => by
    constructor
    · intro h; cases h
    · rintro ⟨_, _, _, h⟩; simp [Tr.hg] at h
  | h + 1, v, i, j, t, hj => by
    show t ∈ lvT (LT R W h) W v i j R 0 ↔ _
    rw [lvT_mem]
    constructor
    · rintro ⟨p, hp, h1, h2, h3⟩
      obtain ⟨k1, k2, k3, k4⟩ := (rowsT_mem (fun v a b t _ hb => LT_mem R W h v a b t hb) _ i j _ hj).1 h3
      have hro : rOf R t.rule = some R[p] := by rw [h1, Nat.zero_add]; exact rOf_nat hp
      refine ⟨?_, ?_, k3, by show 1 + t.kids.hg ≤ h + 1; omega⟩
      · unfold fitT; rw [hro]; simp [h2, k1]
      · unfold wdT rgOf; rw [hro]; exact k2
    · rintro ⟨h1, h2, h3, h4⟩
      obtain ⟨p, hp, g1, g2, g3, g4⟩ := fit_rule h1
      exact ⟨p, hp, by rw [g1, Nat.zero_add], g2, (rowsT_mem (fun v a b t _ hb => LT_mem R W h v a b t hb) _ i j _ hj).2 ⟨g3, g4 ▸ h2, h3, by have : 1 + t.kids.hg ≤ h + 1 := h4; omega⟩⟩

/-! None twice. -/
theorem nodup_flat {α β : Type} {G : α → List β} {key : β → α} : ∀ {l : List α}, l.Nodup → (∀ a ∈ l, (G a).Nodup) → (∀ a ∈ l, ∀ b ∈ G a, key b = a) → (l.flatMap G).Nodup
  | [], _, _, _ => List.nodup_nil
  | a :: l, hl, hG, hk => by
    rw [List.flatMap_cons]
    rw [List.nodup_cons] at hl
    refine List.nodup_append.2 ⟨hG a (by simp), nodup_flat hl.2 (fun b hb => hG b (by simp [hb])) (fun b hb => hk b (by simp [hb])), ?_⟩
    intro x hx y hy e
    subst e
    obtain ⟨b, hb, hy⟩ := List.mem_flatMap.1 hy
    have h1 := hk a (by simp) x hx
    have h2 := hk b (by simp [hb]) x hy
    exact hl.1 (by rw [← h1, h2]; exact hb)
theorem nodup_map {α β : Type} {g : α → β} (hg : ∀ a b, g a = g b → a = b) : ∀ {l : List α}, l.Nodup → (l.map g).Nodup
  | [], _ => List.nodup_nil
  | a :: l, h => by
    rw [List.nodup_cons] at h
    rw [List.map_cons, List.nodup_cons]
    refine ⟨fun hm => ?_, nodup_map hg h.2⟩
    obtain ⟨b, hb, e⟩ := List.mem_map.1 hm
    exact h.1 (hg _ _ e ▸ hb)
theorem range_nodup : ∀ n : Nat, (List.range n).Nodup
  | 0 => List.nodup_nil
  | n + 1 => by
    rw [List.range_succ]
    refine List.nodup_append.2 ⟨range_nodup n, by simp, ?_⟩
    intro x hx y hy e
    rw [List.mem_range] at hx
    rw [List.mem_singleton] at hy
    omega
/-- The place behind the first tree of a row. -/
def endF (R : List Ru) (i : Nat) : Tf → Nat
  | .nil => i
  | .cons r k _ => i + (wdT R ⟨r, k⟩).length
theorem rowsT_nodup {R : List Ru} {W : List Int} {h : Nat} {F : Int → Nat → Nat → List Tr} (hF : ∀ (v : Int) (a b : Nat) (t : Tr), 0 ≤ v → b ≤ W.length → (t ∈ F v a b ↔ IsT R W h v a b t)) (hN : ∀ (v : Int) (a b : Nat), b ≤ W.length → (F v a b).Nodup) : ∀ (l : List Int) (i j : Nat), j ≤ W.length → (rowsT F W l i j).Nodup
  | [], i, j, _ => by simp only [rowsT]; split <;> simp
  | s :: ss, i, j, hj => by
    simp only [rowsT]
    by_cases hs : 0 ≤ s
    · refine nodup_flat (key := endF R i) (range_nodup _) (fun m hm => ?_) (fun m hm b hb => ?_)
      · rw [List.mem_range] at hm
        split
        · rename_i hc
          refine nodup_flat (key := fun f => f.at_ 0) (hN s i m (by omega)) (fun t _ => nodup_map (fun a b e => by simpa using e) (rowsT_nodup hF hN ss m j hj)) (fun t _ b hb => ?_)
          obtain ⟨f, _, rfl⟩ := List.mem_map.1 hb
          rfl
        · exact List.nodup_nil
      · rw [List.mem_range] at hm
        split at hb
        · rename_i hc
          obtain ⟨t, ht, hb⟩ := List.mem_flatMap.1 hb
          obtain ⟨f, _, rfl⟩ := List.mem_map.1 hb
          obtain ⟨_, g2, g3, _⟩ := (hF s i m t hs (by omega)).1 ht
          show i + (wdT R t).length = m
          rw [g2, seg_len g3 (by omega)]; omega
        · cases hb
    · refine nodup_flat (key := fun _ => i + 1) (range_nodup _) (fun m hm => ?_) (fun m hm b hb => ?_)
      · split
        · split
          · exact rowsT_nodup hF hN ss m j hj
          · exact List.nodup_nil
        · exact List.nodup_nil
      · split at hb
        · split at hb
          · rename_i hw; exact hw.1.symm
          · cases hb
        · cases hb
theorem lvT_nodup {F : Int → Nat → Nat → List Tr} {W : List Int} {v : Int} {i j : Nat} (hN : ∀ l : List Int, (rowsT F W l i j).Nodup) : ∀ (rs : List Ru) (k : Nat), (lvT F W v i j rs k).Nodup
  | [], _ => List.nodup_nil
  | r :: rs, k => by
    simp only [lvT]
    refine List.nodup_append.2 ⟨?_, lvT_nodup hN rs (k + 1), ?_⟩
    · split
      · exact nodup_map (fun a b e => by simpa using e) (hN _)
      · exact List.nodup_nil
    · intro x hx y hy e
      subst e
      obtain ⟨p, _, h1, _⟩ := (lvT_mem rs (k + 1)).1 hy
      split at hx
      · obtain ⟨f, _, rfl⟩ := List.mem_map.1 hx
        have h2 : (k : Int) = ((k + 1 + p : Nat) : Int) := h1
        omega
      · cases hx
theorem LT_nodup (R : List Ru) (W : List Int) : ∀ (h : Nat) (v : Int) (i j : Nat), j ≤ W.length → (LT R W h v i j).Nodup
  | 0, _, _, _, _ => List.nodup_nil
  | h + 1, _v, i, j, hj => lvT_nodup (fun l => rowsT_nodup (fun v a b t _ hb => LT_mem R W h v a b t hb) (fun v a b hb => LT_nodup R W h v a b hb) l i j hj) R 0

/-! More levels take nothing away. -/
theorem sub_flat {α β : Type} {G H : α → List β} : ∀ {l : List α}, (∀ a ∈ l, (G a).Sublist (H a)) → (l.flatMap G).Sublist (l.flatMap H)
  | [], _ => List.Sublist.slnil
  | a :: l, h => by rw [List.flatMap_cons, List.flatMap_cons]; exact (h a (by simp)).append (sub_flat fun b hb => h b (by simp [hb]))
theorem sub_flat2 {α β : Type} {G H : α → List β} {l m : List α} (hl : l.Sublist m) (h : ∀ a, (G a).Sublist (H a)) : (l.flatMap G).Sublist (m.flatMap H) := by
  induction hl with
  | slnil => exact List.Sublist.slnil
  | cons a _ ih => rw [List.flatMap_cons]; exact ih.trans (List.sublist_append_right _ _)
  | cons_cons a _ ih => rw [List.flatMap_cons, List.flatMap_cons]; exact (h a).append ih
theorem rowsT_sub {F H : Int → Nat → Nat → List Tr} {W : List Int} (hF : ∀ v a b, (F v a b).Sublist (H v a b)) : ∀ (l : List Int) (i j : Nat), (rowsT F W l i j).Sublist (rowsT H W l i j)
  | [], i, j => List.Sublist.refl _
  | s :: ss, i, j => by
    simp only [rowsT]
    refine sub_flat fun m _ => ?_
    split
    · split
      · exact sub_flat2 (hF _ _ _) fun t => (rowsT_sub hF ss m j).map _
      · split
        · exact rowsT_sub hF ss m j
        · exact List.Sublist.refl _
    · exact List.Sublist.refl _
theorem lvT_sub {F H : Int → Nat → Nat → List Tr} {W : List Int} {v : Int} {i j : Nat} (hF : ∀ v a b, (F v a b).Sublist (H v a b)) : ∀ (rs : List Ru) (k : Nat), (lvT F W v i j rs k).Sublist (lvT H W v i j rs k)
  | [], _ => List.Sublist.refl _
  | r :: rs, k => by
    simp only [lvT]
    refine List.Sublist.append ?_ (lvT_sub hF rs (k + 1))
    split
    · exact (rowsT_sub hF _ _ _).map _
    · exact List.Sublist.refl _
theorem LT_succ (R : List Ru) (W : List Int) : ∀ (h : Nat) (v : Int) (i j : Nat), (LT R W h v i j).Sublist (LT R W (h + 1) v i j)
  | 0, _, _, _ => List.nil_sublist _
  | h + 1, _, _, _ => lvT_sub (LT_succ R W h) R 0
theorem LT_sub {R : List Ru} {W : List Int} {h k : Nat} (hk : h ≤ k) (v : Int) (i j : Nat) : (LT R W h v i j).Sublist (LT R W k v i j) := by
  induction hk with
  | refl => exact List.Sublist.refl _
  | step _ ih => exact ih.trans (LT_succ R W _ v i j)
theorem nodup_sub {α : Type} [DecidableEq α] : ∀ {l m : List α}, l.Nodup → l ⊆ m → l.length ≤ m.length
  | [], _, _, _ => Nat.zero_le _
  | a :: l, m, hn, hs => by
    rw [List.nodup_cons] at hn
    have ha : a ∈ m := hs (by simp)
    have h1 := nodup_sub (m := m.erase a) hn.2 fun x hx => (List.mem_erase_of_ne (fun e => hn.1 (by rw [← e]; exact hx))).2 (hs (by simp [hx]))
    rw [List.length_erase_of_mem ha] at h1
    have := List.length_pos_of_mem ha
    simp only [List.length_cons]; omega
/-- Where no tree is higher, more levels give no more. -/
theorem LT_stop {R : List Ru} {W : List Int} {H : Nat} {v : Int} {i j : Nat} (hj : j ≤ W.length) (hH : ∀ h t, IsT R W h v i j t → t.hg ≤ H) {h : Nat} (hh : H ≤ h) : LT R W h v i j = LT R W H v i j := by
  have hs := LT_sub (R := R) (W := W) hh v i j
  refine (hs.eq_of_length_le ?_).symm
  have hsub : (LT R W h v i j) ⊆ (LT R W H v i j) := fun t ht => by
    have h1 := (LT_mem R W h v i j t hj).1 ht
    exact (LT_mem R W H v i j t hj).2 ⟨h1.1, h1.2.1, h1.2.2.1, hH _ _ h1⟩
  exact nodup_sub (LT_nodup R W h v i j hj) hsub
end Go.Proofs.Ytlhdppkllmnmkae.G
