/- Texts laid together: Te Ti Tb Tg Gc Th. -/
import Derived.Test.YtghplmldnkcpnadL01
import Derived.Test.YtghplmldnkcpnadL02
import Derived.Test.YtghplmldnkcpnadL03
/- Is it a tree of a nonterminal? What that is, the program's way, the document's way. -/
namespace Go.Proofs.Ytghplmldnkcpnad.G
open Go.RowKit
/-- The rule of a number, if it is one. -/
def rOf (rs : List Ru) (r : Int) : Option Ru := if 0 ≤ r then rs[r.toNat]? else none
/-- Are these the trees of nonterminals, one of each? -/
def fitF (rs : List Ru) : Tf → List Int → Bool
  | .nil, [] => true
  | .cons r k rest, v :: vs => (match rOf rs r with
    | none => false
    | some u => decide (u.left = v) && fitF rs k (kidsL u.right)) && fitF rs rest vs
  | .nil, _ :: _ => false
  | .cons .., [] => false
def fitT (rs : List Ru) (t : Tr) (v : Int) : Bool := match rOf rs t.rule with
  | none => false
  | some u => decide (u.left = v) && fitF rs t.kids (kidsL u.right)
theorem fitF_cons (rs : List Ru) (r : Int) (k rest : Tf) (v : Int) (vs : List Int) : fitF rs (.cons r k rest) (v :: vs) = (fitT rs ⟨r, k⟩ v && fitF rs rest vs) := rfl
theorem fitF_len (rs : List Ru) : ∀ (f : Tf) (vs : List Int), fitF rs f vs = true → f.len = vs.length
  | .nil, [], _ => rfl
  | .nil, _ :: _, h => by simp [fitF] at h
  | .cons .., [], h => by simp [fitF] at h
  | .cons r k rest, v :: vs, h => by
    rw [fitF_cons, Bool.and_eq_true] at h
    have := fitF_len rs rest vs h.2
    simp [Tf.len, this]
theorem fitF_at {rs : List Ru} {f : Tf} {vs : List Int} {k : Nat} (h1 : k < f.len) (h2 : k < vs.length) : fitF rs (f.drp k) (vs.drop k) = (fitT rs (f.at_ k) vs[k] && fitF rs (f.drp (k + 1)) (vs.drop (k + 1))) := by
  rw [Tf.drp_at h1, List.drop_eq_getElem_cons h2, fitF_cons]
theorem fitF_end {rs : List Ru} {f : Tf} {vs : List Int} {k : Nat} (h1 : f.len ≤ k) (h2 : vs.length ≤ k) : fitF rs (f.drp k) (vs.drop k) = true := by
  rw [Tf.drp_end h1, List.drop_of_length_le h2]; rfl
theorem rOf_nat {rs : List Ru} {r : Nat} (h : r < rs.length) : rOf rs (r : Int) = some rs[r] := by
  unfold rOf; rw [if_pos (by omega)]; simp [h]
theorem rOf_neg {rs : List Ru} {r : Int} (h : r < 0) : rOf rs r = none := by unfold rOf; rw [if_neg (by omega)]
theorem rOf_high {rs : List Ru} {r : Int} (h : (rs.length : Int) ≤ r) : rOf rs r = none := by
  unfold rOf
  split
  · rw [List.getElem?_eq_none (by omega)]
  · rfl

theorem keep5c {W a e : World} {b1 o1 b2 o2 b3 o3 b4 o4 b5 o5 : Nat} {v1 v2 v3 v4 v5 : Value} (st : Stp a e) (h : Below W.heap.size W a ∧ a.cell? ⟨b1, o1, none⟩ = some v1 ∧ a.cell? ⟨b2, o2, none⟩ = some v2 ∧ a.cell? ⟨b3, o3, none⟩ = some v3 ∧ a.cell? ⟨b4, o4, none⟩ = some v4 ∧ a.cell? ⟨b5, o5, none⟩ = some v5) :
    Below W.heap.size W e ∧ e.cell? ⟨b1, o1, none⟩ = some v1 ∧ e.cell? ⟨b2, o2, none⟩ = some v2 ∧ e.cell? ⟨b3, o3, none⟩ = some v3 ∧ e.cell? ⟨b4, o4, none⟩ = some v4 ∧ e.cell? ⟨b5, o5, none⟩ = some v5 :=
  ⟨bthen h.1 st.h, bkeep st.h h.2.1, bkeep st.h h.2.2.1, bkeep st.h h.2.2.2.1, bkeep st.h h.2.2.2.2.1, bkeep st.h h.2.2.2.2.2⟩

/-! The program's. -/
def FtOK (t : Tr) : Prop := ∀ (g : Gm) (va vt : Value) (v : Int) (w : World), GV w All va g → TrV w All vt t → Small g.rules →
  Calls Try.prog 26 #[va, vt, .int .i64 v] w fun e w' => e = .returned (.bool (fitT g.rules t v)) ∧ Below w.heap.size w w'
set_option maxRecDepth 100000 in
set_option maxHeartbeats 4000000 in
theorem fits1_any (t : Tr) (ih : FtOK t) (g : Gm) (ao aq : Option Addr) (cap cq bk : Nat) (v : Int) (w : World) (hg : RsV w All (.slice ao g.rules.length cap) g.rules) (ht : TfV w All (.slice aq t.kids.len cq) t.kids) (hs : Small g.rules)
    (b0 : w.cell? ⟨bk, 0, none⟩ = some (.int .i64 g.vars)) (b1 : w.cell? ⟨bk, 1, none⟩ = some (.int .i64 g.terms)) (b2 : w.cell? ⟨bk, 2, none⟩ = some (.int .i64 g.start)) (b3 : w.cell? ⟨bk, 3, none⟩ = some (.slice ao g.rules.length cap)) :
    Calls Try.prog 35 #[.agg #[.int .i64 t.rule, .slice aq t.kids.len cq], .int .i64 v, .pointer (some ⟨bk, 0, none⟩)] w fun e w' => e = .returned (.bool (fitT g.rules t v)) ∧ Below w.heap.size w w' := by
  obtain ⟨W, hW⟩ : ∃ W, W = w.alloc (.cells #[.int .i64 t.rule, .slice aq t.kids.len cq] 27) := ⟨_, rfl⟩
  have hWb : Below w.heap.size w W := by rw [hW]; exact al1 _ _
  have IH := ih g _ _ v W ⟨_, rfl, hg.lw hWb⟩ (TrV_mk (ht.lw hWb)) hs
  have c0 := alcell b0 (.cells #[.int .i64 t.rule, .slice aq t.kids.len cq] 27)
  have c1 := alcell b1 (.cells #[.int .i64 t.rule, .slice aq t.kids.len cq] 27)
  have c2 := alcell b2 (.cells #[.int .i64 t.rule, .slice aq t.kids.len cq] 27)
  have c3 := alcell b3 (.cells #[.int .i64 t.rule, .slice aq t.kids.len cq] 27)
  generalize fitT g.rules t v = q at *
  go_enter Try.func35, Try.ntmps35
  go_wp2_with fail
  rw [← hW]
  refine IH.mono ?_
  rintro e w1 ⟨rfl, hb1⟩
  have bz := bthen hWb hb1
  have HW := hd hW
  clear hW
  go_wp2_with fail
  go_ret
  exact ⟨rfl, bz⟩
set_option maxRecDepth 100000 in
set_option maxHeartbeats 8000000 in
theorem equalTrees_any (f : Tf) (vs : List Int) (g : Gm) (ao : Option Addr) (cap bk : Nat) (va vb : Value) (w : World) (ih : ∀ i, i < f.len → FtOK (f.at_ i)) (ha : TfV w All va f) (hb : IsV w All vb vs) (hg : RsV w All (.slice ao g.rules.length cap) g.rules) (hs : Small g.rules)
    (b0 : w.cell? ⟨bk, 0, none⟩ = some (.int .i64 g.vars)) (b1 : w.cell? ⟨bk, 1, none⟩ = some (.int .i64 g.terms)) (b2 : w.cell? ⟨bk, 2, none⟩ = some (.int .i64 g.start)) (b3 : w.cell? ⟨bk, 3, none⟩ = some (.slice ao g.rules.length cap)) :
    Calls Try.prog 33 #[va, vb, .func (.func 35) #[] #[.pointer (some ⟨bk, 0, none⟩)]] w fun e w' => e = .returned (.bool (fitF g.rules f vs)) ∧ Below w.heap.size w w' := by
  obtain ⟨ao1, cap1, rfl, _⟩ := ha.slice
  obtain ⟨ao2, cap2, rfl⟩ := hb.slice
  have hl := ha.1
  have hm := hb.1
  obtain ⟨R, hR⟩ : ∃ R, R = fitF g.rules f vs := ⟨_, rfl⟩
  rw [← hR]
  by_cases hlm : f.len = vs.length
  · go_enter Try.func33, Try.ntmps33
    rw [← hlm]
    have HLM := hd hlm
    clear hlm
    go_wp2_with fail
    go_loopw [17] (fun i wr => ∃ k : Nat, k ≤ f.len ∧ i = .int .i64 k ∧ Hid (R = fitF g.rules (f.drp k) (vs.drop k)) ∧ Below w.heap.size w wr) (fun i _ => f.len - (intOf i).toNat)
    case atStart => exact ⟨0, Nat.zero_le _, rfl, hd (by rw [hR, Tf.drp_zero, List.drop_zero]), Below.refl _ _⟩
    case round =>
      obtain ⟨k, hk, rfl, hinv, bel⟩ := hrel
      clear hR
      by_cases hlt : k < f.len
      · have hlt' : k < vs.length := by have := HLM.out; omega
        obtain ⟨b, o, rfl, _, c0, aq, cq, c1, hq⟩ := (ha.lw bel).at_ hlt
        obtain ⟨b', o', rfl, d0⟩ := (hb.lw bel).at_ hlt'
        have HI := hd (hinv.out.trans (fitF_at hlt hlt'))
        have IH := fits1_any (f.at_ k) (ih k hlt) g ao aq cap cq bk vs[k]
        clear hinv
        generalize f.at_ k = x at *
        generalize vs[k] = y at *
        obtain ⟨V, hV⟩ : ∃ V, V = wr.alloc (.cells #[.int .i64 x.rule, .slice aq x.kids.len cq] 27) := ⟨_, rfl⟩
        have hVb : Below wr.heap.size wr V := by rw [hV]; exact al1 _ _
        have bV := bthen bel hVb
        have SR := IH V (hg.lw bV) (hq.lw hVb) hs (bkeep bV b0) (bkeep bV b1) (bkeep bV b2) (bkeep bV b3)
        have d0' := alcell d0 (.cells #[.int .i64 x.rule, .slice aq x.kids.len cq] 27)
        generalize fitT g.rules x y = z at *
        cases z with
        | true =>
          have HI' := hd (HI.out.trans (Bool.true_and _))
          go_wp2_with fail
          rw [← hV]
          refine SR.mono ?_
          rintro e w1 ⟨rfl, hb1⟩
          have HV := hd hV
          clear hV
          have bz := bthen bV hb1
          go_wp2_with fail
          go_roundw
          case rel => exact ⟨k + 1, by omega, by go_num, HI', bz⟩
          case measure => simp [intOf]; omega
        | false =>
          have HI' := hd (HI.out.trans (Bool.false_and _))
          go_wp2_with fail
          rw [← hV]
          refine SR.mono ?_
          rintro e w1 ⟨rfl, hb1⟩
          have HV := hd hV
          clear hV
          have bz := bthen bV hb1
          go_wp2_with fail
          go_ret
          exact ⟨ret_bool HI'.out.symm, bz⟩
      · have HI := hd (hinv.out.trans (fitF_end (by omega) (by have := HLM.out; omega)))
        go_wp2_with fail
        go_ret
        exact ⟨ret_bool HI.out.symm, bel⟩
  · have hne : Hid (R = false) := hd (by
      rw [hR, ← Bool.not_eq_true]
      exact fun h => hlm (fitF_len _ _ _ h))
    clear hR
    have hb' : ((f.len : Int) != (vs.length : Int)) = true := by simp; omega
    go_enter Try.func33, Try.ntmps33
    go_wp2_with fail
    go_ret
    exact ⟨ret_bool hne.out.symm, Below.refl _ _⟩
set_option maxRecDepth 100000 in
set_option maxHeartbeats 8000000 in
theorem ft_head (t : Tr) (ih : ∀ i, i < t.kids.len → FtOK (t.kids.at_ i)) : FtOK t := by
  intro g va vt v w hg ht hs
  obtain ⟨ua, rfl, ra⟩ := hg
  obtain ⟨ut, rfl, kt⟩ := ht
  obtain ⟨ao, cap, rfl⟩ := ra.slice
  obtain ⟨at_, ct, rfl, _⟩ := kt.slice
  have hl := ra.1
  obtain ⟨R, hR⟩ : ∃ R, R = fitT g.rules t v := ⟨_, rfl⟩
  rw [← hR]
  obtain ⟨W, hW⟩ : ∃ W, W = (w.alloc (.cells #[.int .i64 g.vars, .int .i64 g.terms, .int .i64 g.start, .slice ao g.rules.length cap] 24)).alloc (.cells #[.int .i64 t.rule, .slice at_ t.kids.len ct] 27) := ⟨_, rfl⟩
  have hWb : Below w.heap.size w W := by rw [hW]; exact al2 _ _ _
  have x0 : W.cell? ⟨w.heap.size, 0, none⟩ = some (.int .i64 g.vars) := by rw [hW]; simp
  have x1 : W.cell? ⟨w.heap.size, 1, none⟩ = some (.int .i64 g.terms) := by rw [hW]; simp
  have x2 : W.cell? ⟨w.heap.size, 2, none⟩ = some (.int .i64 g.start) := by rw [hW]; simp
  have x3 : W.cell? ⟨w.heap.size, 3, none⟩ = some (.slice ao g.rules.length cap) := by rw [hW]; simp
  have y0 : W.cell? ⟨w.heap.size + 1, 0, none⟩ = some (.int .i64 t.rule) := by rw [hW]; simp
  have y1 : W.cell? ⟨w.heap.size + 1, 1, none⟩ = some (.slice at_ t.kids.len ct) := by rw [hW]; simp
  by_cases h1 : t.rule < 0
  · have hR' : Hid (R = false) := hd (by rw [hR]; unfold fitT; rw [rOf_neg h1])
    clear hR
    go_enter Try.func26, Try.ntmps26
    go_wp2_with fail
    rw [← hW]
    go_ret
    exact ⟨ret_bool hR'.out.symm, hWb⟩
  by_cases h2 : (g.rules.length : Int) ≤ t.rule
  · have hR' : Hid (R = false) := hd (by rw [hR]; unfold fitT; rw [rOf_high h2])
    clear hR
    go_enter Try.func26, Try.ntmps26
    go_wp2_with fail
    rw [← hW]
    go_ret
    exact ⟨ret_bool hR'.out.symm, hWb⟩
  obtain ⟨r, hr⟩ : ∃ r : Nat, t.rule = r := ⟨t.rule.toNat, by omega⟩
  have hlt : r < g.rules.length := by omega
  have hR1 : R = (decide (g.rules[r].left = v) && fitF g.rules t.kids (kidsL g.rules[r].right)) := by rw [hR]; unfold fitT; rw [hr, rOf_nat hlt]
  have hrl := hs.2 r hlt
  clear hR
  rw [hr] at hW y0 ⊢
  have HR := hd hr
  obtain ⟨b, o, rfl, c0, ar, cr, c1, hc⟩ := (ra.lw hWb).at_ hlt
  have EQ := equalTrees_any t.kids (kidsL g.rules[r].right) g (some ⟨b, o, none⟩) cap w.heap.size (.slice at_ t.kids.len ct)
  have KA := kids_any g.rules[r] ar cr W hc (by omega)
  have hkl := kidsL_len g.rules[r].right
  have hKl : (kidsL g.rules[r].right).length ≤ 9223372036854775807 := by omega
  clear h1 h2 hr
  generalize g.rules[r] = x at *
  by_cases hv : x.left = v
  · rw [decide_eq_true hv, Bool.true_and] at hR1
    have HRF := hd hR1
    have hvb : (x.left != v) = false := by simpa using hv
    clear hv hR1
    go_enter Try.func26, Try.ntmps26
    rw [hW] at c0 c1
    go_wp2_with fail
    rw [← hW]
    have HW := hd hW
    rw [← hW] at c0 c1
    clear hW
    have g0 : Below W.heap.size W W ∧ W.cell? ⟨w.heap.size + 1, 1, none⟩ = some (.slice at_ t.kids.len ct) ∧ W.cell? ⟨w.heap.size, 3, none⟩ = some (.slice (some ⟨b, o, none⟩) g.rules.length cap) ∧ W.cell? ⟨w.heap.size + 1, 0, none⟩ = some (.int .i64 r) ∧ W.cell? ⟨b, o + r * 2, none⟩ = some (.int .i64 x.left) ∧ W.cell? ⟨b, o + r * 2 + 1, none⟩ = some (.slice ar x.right.length cr) := ⟨Below.refl _ _, y1, x3, y0, c0, c1⟩
    have st0 : Stp W W.drew := ⟨drw1 W⟩
    have KA' := fun w' (hb : Below W.heap.size W w') => kids_any x ar cr w' (hc.lw hb) (by omega)
    have EQ' := fun v w' (hb : Below W.heap.size W w') i1 => EQ v w' ih (kt.lw (bthen hWb hb)) i1 (ra.lw (bthen hWb hb)) hs (bkeep hb x0) (bkeep hb x1) (bkeep hb x2) (bkeep hb x3)
    clear KA EQ
    generalize kidsL x.right = K at *
    generalize fitF g.rules t.kids K = z at *
    clear x0 x1 x2 x3 y0 y1 c0 c1 hc
    go_region_held3 (fun w' => Below W.heap.size W w' ∧ w'.cell? ⟨w.heap.size + 1, 1, none⟩ = some (.slice at_ t.kids.len ct) ∧ w'.cell? ⟨w.heap.size, 3, none⟩ = some (.slice (some ⟨b, o, none⟩) g.rules.length cap) ∧ w'.cell? ⟨w.heap.size + 1, 0, none⟩ = some (.int .i64 r) ∧ w'.cell? ⟨b, o + r * 2, none⟩ = some (.int .i64 x.left) ∧ w'.cell? ⟨b, o + r * 2 + 1, none⟩ = some (.slice ar x.right.length cr))
      (first | assumption | exact keep5c (by assumption) (by assumption))
      (first
        | (go_at_call 34; refine (KA' _ (And.left (by assumption))).mono ?_; rintro e w1 ⟨v1, rfl, own1, hb1⟩; have st1 := Stp.mk hb1; clear hb1; have i1 := IsV_owned (S := All) own1 hKl (fun _ _ => trivial); obtain ⟨ao1, cap1, rfl⟩ := i1.slice; clear own1)
        | (go_at_call 33; refine (EQ' _ _ (And.left (by assumption)) i1).mono ?_; rintro e w2 ⟨rfl, hb2⟩; have st2 := Stp.mk hb2; clear hb2))
    all_goals
      rename Below W.heap.size W w2 ∧ _ => hS
      have bz2 := bthen hWb hS.1
      go_wp2_with fail
      go_ret
      exact ⟨ret_bool HRF.out.symm, bz2⟩
  · have HRF : Hid (R = false) := hd (by rw [hR1, decide_eq_false hv, Bool.false_and])
    have hvb : (x.left != v) = true := by simpa using hv
    clear hv hR1
    go_enter Try.func26, Try.ntmps26
    rw [hW] at c0 c1
    go_wp2_with fail
    rw [← hW]
    go_ret
    exact ⟨ret_bool HRF.out.symm, hWb⟩
theorem ft_all : ∀ (f : Tf) (i : Nat), i < f.len → FtOK (f.at_ i)
  | .nil, _, h => absurd h (Nat.not_lt_zero _)
  | .cons rule kids _, 0, _ => ft_head ⟨rule, kids⟩ (ft_all kids)
  | .cons _ _ rest, i + 1, h => ft_all rest i (by simpa [Tf.len] using h)
theorem fits_any (t : Tr) : FtOK t := ft_head t (ft_all t.kids)
end Go.Proofs.Ytghplmldnkcpnad.G

/- The words of trees: what they are; what a right grammar's symbols may be. -/
namespace Go.Proofs.Ytghplmldnkcpnad.G
open Go.RowKit
/-- The right side of a rule, if it is one. -/
def rgOf (rs : List Ru) (r : Int) : List Int := match rOf rs r with
  | none => []
  | some u => u.right
/-- A right side with words in the place of its nonterminals. -/
def wdR : List Int → List (List Int) → List Int
  | [], _ => []
  | s :: l, ws => if s < 0 then (-1 - s) :: wdR l ws else ws.headD [] ++ wdR l ws.tail
/-- The words of a row of trees. -/
def wdF (rs : List Ru) : Tf → List (List Int)
  | .nil => []
  | .cons r k rest => wdR (rgOf rs r) (wdF rs k) :: wdF rs rest
def wdT (rs : List Ru) (t : Tr) : List Int := wdR (rgOf rs t.rule) (wdF rs t.kids)
def lenL (ws : List (List Int)) : Nat := (ws.map List.length).sum
theorem wdR_len : ∀ (l : List Int) (ws : List (List Int)), (wdR l ws).length ≤ l.length + lenL ws
  | [], _ => by simp [wdR]
  | s :: l, ws => by
    unfold wdR
    split
    · have := wdR_len l ws
      simp only [List.length_cons]; omega
    · have := wdR_len l ws.tail
      cases ws with
      | nil => simp [lenL] at this ⊢; omega
      | cons x ws => simp [lenL] at this ⊢; omega
theorem rgOf_len {rs : List Ru} (h : Small rs) (r : Int) : (rgOf rs r).length ≤ 100 := by
  unfold rgOf rOf
  split
  · simp
  · rename_i u hu
    split at hu
    · obtain ⟨h1, rfl⟩ := List.getElem?_eq_some_iff.1 hu
      exact h.2 _ h1
    · cases hu
theorem wdF_len {rs : List Ru} (h : Small rs) : ∀ f : Tf, lenL (wdF rs f) ≤ f.sz * 100
  | .nil => by simp [wdF, lenL]
  | .cons r k rest => by
    have h1 := wdF_len h k
    have h2 := wdF_len h rest
    have h3 := wdR_len (rgOf rs r) (wdF rs k)
    have h4 := rgOf_len h r
    simp only [wdF, lenL, Tf.sz, List.map_cons, List.sum_cons] at *
    omega
theorem wdT_len {rs : List Ru} (h : Small rs) (t : Tr) : (wdT rs t).length ≤ t.sz * 100 := by
  have h1 := wdF_len h t.kids
  have h3 := wdR_len (rgOf rs t.rule) (wdF rs t.kids)
  have h4 := rgOf_len h t.rule
  simp only [wdT, Tr.sz] at *
  omega
theorem wdR_neg {l : List Int} {k : Nat} (h : k < l.length) (hs : l[k] < 0) (ws : List (List Int)) : wdR (l.drop k) ws = (-1 - l[k]) :: wdR (l.drop (k + 1)) ws := by
  rw [List.drop_eq_getElem_cons h]; simp only [wdR, hs, if_true]
theorem wdR_pos {l : List Int} {k : Nat} (h : k < l.length) (hs : ¬ l[k] < 0) {rs : List Ru} {f : Tf} {j : Nat} (hj : j < f.len) : wdR (l.drop k) (wdF rs (f.drp j)) = wdT rs (f.at_ j) ++ wdR (l.drop (k + 1)) (wdF rs (f.drp (j + 1))) := by
  rw [List.drop_eq_getElem_cons h, Tf.drp_at hj]; simp only [wdR, hs, if_false, wdF, List.headD_cons, List.tail_cons, wdT]
theorem wdR_end {l : List Int} {k : Nat} (h : l.length ≤ k) (ws : List (List Int)) : wdR (l.drop k) ws = [] := by rw [List.drop_of_length_le h]; rfl
theorem kidsL_dneg {l : List Int} {k : Nat} (h : k < l.length) (hs : l[k] < 0) : kidsL (l.drop k) = kidsL (l.drop (k + 1)) := by
  rw [List.drop_eq_getElem_cons h]; simp only [kidsL, List.filter_cons]; rw [if_neg (by simpa using hs)]
theorem kidsL_dpos {l : List Int} {k : Nat} (h : k < l.length) (hs : ¬ l[k] < 0) : kidsL (l.drop k) = l[k] :: kidsL (l.drop (k + 1)) := by
  rw [List.drop_eq_getElem_cons h]; simp only [kidsL, List.filter_cons]; rw [if_pos (by simpa using hs)]
theorem fit_pos {rs : List Ru} {l : List Int} {f : Tf} {k j : Nat} (h : k < l.length) (hs : ¬ l[k] < 0) (hf : fitF rs (f.drp j) (kidsL (l.drop k)) = true) : j < f.len ∧ fitT rs (f.at_ j) l[k] = true ∧ fitF rs (f.drp (j + 1)) (kidsL (l.drop (k + 1))) = true := by
  rw [kidsL_dpos h hs] at hf
  have hj : j < f.len := by
    rcases Nat.lt_or_ge j f.len with h | h
    · exact h
    · rw [Tf.drp_end h] at hf; simp [fitF] at hf
  rw [Tf.drp_at hj, fitF_cons, Bool.and_eq_true] at hf
  exact ⟨hj, hf.1, hf.2⟩
/-- A fitting tree's rule. -/
theorem fit_rule {rs : List Ru} {t : Tr} {v : Int} (h : fitT rs t v = true) : ∃ (r : Nat) (hr : r < rs.length), t.rule = r ∧ rs[r].left = v ∧ fitF rs t.kids (kidsL rs[r].right) = true ∧ wdT rs t = wdR rs[r].right (wdF rs t.kids) := by
  unfold fitT rOf at h
  by_cases h0 : 0 ≤ t.rule
  · rw [if_pos h0] at h
    rcases Nat.lt_or_ge t.rule.toNat rs.length with h1 | h1
    · rw [List.getElem?_eq_getElem h1] at h
      simp at h
      refine ⟨t.rule.toNat, h1, by omega, h.1, h.2, ?_⟩
      unfold wdT rgOf rOf
      rw [if_pos h0, List.getElem?_eq_getElem h1]
    · rw [List.getElem?_eq_none h1] at h; simp at h
  · rw [if_neg h0] at h; simp at h

/-- Symbols that are not far from 0. -/
def Near (rs : List Ru) : Prop := ∀ i (h : i < rs.length), ∀ k (hk : k < rs[i].right.length), -1000 ≤ rs[i].right[k] ∧ rs[i].right[k] ≤ 1000
theorem rsF_all {g : Gm} : ∀ {l : List Ru} {k : Nat}, (rsF g l k).1 = 0 → ∀ r ∈ l, ruF g r = 0
  | [], _, _ => by simp
  | r :: l, k, h => by
    unfold rsF at h
    split at h
    next h0 =>
      exact fun x hx => by
        rcases List.mem_cons.1 hx with rfl | hx
        · exact h0
        · exact rsF_all h x hx
    next h0 => exact absurd h h0
theorem near_of {g : Gm} (h : (gFl g).1 = 0) : Near g.rules := by
  unfold gFl at h
  split at h
  next hs =>
    split at h
    · cases h
    · intro i hi k hk
      have h1 := rsF_all h g.rules[i] (List.getElem_mem hi)
      unfold szB at hs
      simp at hs
      unfold ruF at h1
      split at h1
      · cases h1
      · split at h1
        next h2 =>
          have := List.all_eq_true.1 h2.2 _ (List.getElem_mem hk)
          simp [syB] at this
          omega
        · cases h1
  · cases h
end Go.Proofs.Ytghplmldnkcpnad.G

/- How many trees there are in one: the document's count, and the room that the program takes. -/
namespace Go.Proofs.Ytghplmldnkcpnad.G
open Go.RowKit
def NdOK (f : Tf) : Prop := ∀ (va : Value) (w : World) (most : Nat), TfV w All va f → most ≤ 1000000 →
  Calls Try.prog 19 #[va, .int .i64 most] w fun e w' => e = .returned (.int .i64 ((min f.sz (most + 1) : Nat) : Int)) ∧ Below w.heap.size w w'
set_option maxRecDepth 100000 in
set_option maxHeartbeats 4000000 in
theorem nd_head (f : Tf) (ih : ∀ i, i < f.len → NdOK (f.at_ i).kids) : NdOK f := by
  intro va w most hx hm
  obtain ⟨ao, cap, rfl, hcp⟩ := hx.slice
  have hl := hx.1
  obtain ⟨R, hR⟩ : ∃ R, R = min f.sz (most + 1) := ⟨_, rfl⟩
  rw [← hR]
  go_enter Try.func19, Try.ntmps19
  go_wp2_with fail
  go_loopw [5, 6] (fun n i wr => ∃ (k m : Nat), k ≤ f.len ∧ i = .int .i64 k ∧ n = .int .i64 m ∧ m ≤ 3000000 ∧ Hid (R = min (m + (f.drp k).sz) (most + 1)) ∧ Below w.heap.size w wr) (fun _ i _ => f.len - (intOf i).toNat)
  case atStart => exact ⟨0, 0, Nat.zero_le _, rfl, rfl, by omega, hd (by rw [hR, Tf.drp_zero, Nat.zero_add]), Below.refl _ _⟩
  case round =>
    obtain ⟨k, m, hk, rfl, rfl, hm3, hinv, bel⟩ := hrel
    clear hR
    by_cases hmm : m ≤ most
    · by_cases hlt : k < f.len
      · obtain ⟨b, o, rfl, _, c0, aq, cq, c1, hq⟩ := (hx.lw bel).at_ hlt
        have IH := ih k hlt _ wr most hq hm
        have hs := Tf.sz_drp hlt
        have hs2 : (f.at_ k).sz = 1 + (f.at_ k).kids.sz := rfl
        have HI : Hid (R = min (m + (1 + min (f.at_ k).kids.sz (most + 1)) + (f.drp (k + 1)).sz) (most + 1)) := hd (by rw [hinv.out]; omega)
        have hle : min (f.at_ k).kids.sz (most + 1) ≤ 1000001 := by omega
        clear hinv hs hs2 c0
        generalize min (f.at_ k).kids.sz (most + 1) = z at *
        go_wp2_with fail
        refine IH.mono ?_
        rintro e w1 ⟨rfl, hb1⟩
        have bz := bthen bel hb1
        go_wp2_with fail
        go_roundw
        case rel => exact ⟨k + 1, m + (1 + z), by omega, by go_num, by go_num, by omega, HI, bz⟩
        case measure => simp [intOf]; omega
      · have hR' : Hid (R = m) := hd (by rw [hinv.out, Tf.drp_end (by omega)]; simp only [Tf.sz]; omega)
        go_wp2_with fail
        go_ret
        exact ⟨ret_int (by rw [hR'.out]), bel⟩
    · have hR' : Hid (R = most + 1) := hd (by rw [hinv.out]; omega)
      by_cases hlt : k < f.len
      · go_wp2_with fail
        go_ret
        exact ⟨ret_int (by rw [hR'.out]; simp), bel⟩
      · go_wp2_with fail
        go_ret
        exact ⟨ret_int (by rw [hR'.out]; simp), bel⟩
theorem nd_all : ∀ (f : Tf) (i : Nat), i < f.len → NdOK (f.at_ i).kids
  | .nil, _, h => absurd h (Nat.not_lt_zero _)
  | .cons _ kids _, 0, _ => nd_head kids (nd_all kids)
  | .cons _ _ rest, i + 1, h => nd_all rest i (by simpa [Tf.len] using h)
theorem nodesOf_any (f : Tf) : NdOK f := nd_head f (nd_all f)

def spI (s : Nat) (r : Int) : Int := if (s : Int) ≤ r then r - s else -1
theorem spI_add (a s : Nat) (r : Int) (_h : 0 ≤ r) : spI (a + s) r = spI s (spI a r) := by unfold spI; split <;> split <;> (try split) <;> omega
theorem spI_le (s : Nat) (r : Int) : -1 ≤ spI s r ∧ (0 ≤ r → spI s r ≤ r) := by unfold spI; split <;> omega
def SpOK (t : Tr) : Prop := ∀ (va : Value) (w : World) (room : Int), TrV w All va t → 0 ≤ room → room ≤ 1000000 →
  Calls Try.prog 25 #[va, .int .i64 room] w fun e w' => e = .returned (.int .i64 (spI t.sz room)) ∧ Below w.heap.size w w'
set_option maxRecDepth 100000 in
set_option maxHeartbeats 4000000 in
theorem sp_head (t : Tr) (ih : ∀ i, i < t.kids.len → SpOK (t.kids.at_ i)) : SpOK t := by
  intro va w room ht h0 hr
  obtain ⟨u, rfl, hx⟩ := ht
  obtain ⟨ao, cap, rfl, hcp⟩ := hx.slice
  have hl := hx.1
  obtain ⟨R, hR⟩ : ∃ R, R = spI t.sz room := ⟨_, rfl⟩
  rw [← hR]
  have hR1 : R = spI t.kids.sz (room - 1) := by rw [hR]; unfold Tr.sz; rw [spI_add 1 _ _ h0]; congr 1; unfold spI; split <;> omega
  clear hR
  obtain ⟨W, hW⟩ : ∃ W, W = w.alloc (.cells #[.int .i64 t.rule, .slice ao t.kids.len cap] 27) := ⟨_, rfl⟩
  have hWb : Below w.heap.size w W := by rw [hW]; exact al1 _ _
  go_enter Try.func25, Try.ntmps25
  go_wp2_with fail
  rw [← hW]
  have HW := hd hW
  clear hW
  go_loopw [1, 12] (fun r i wr => ∃ (k : Nat) (m : Int), k ≤ t.kids.len ∧ i = .int .i64 k ∧ r = .int .i64 m ∧ -1 ≤ m ∧ m ≤ room ∧ Hid (R = spI (t.kids.drp k).sz m) ∧ Below W.heap.size W wr) (fun _ i _ => t.kids.len - (intOf i).toNat)
  case atStart => exact ⟨0, room - 1, Nat.zero_le _, rfl, by go_num, by omega, by omega, hd (by rw [hR1, Tf.drp_zero]), Below.refl _ _⟩
  case round =>
    obtain ⟨k, m, hk, rfl, rfl, hm1, hm2, hinv, hb⟩ := hrel
    clear hR1
    have bel : Below w.heap.size w wr := bthen hWb hb
    by_cases hlt : k < t.kids.len
    · obtain ⟨b, o, rfl, _, c0, aq, cq, c1, hq⟩ := (hx.lw bel).at_ hlt
      obtain ⟨V, hV⟩ : ∃ V, V = wr.alloc (.cells #[.int .i64 (t.kids.at_ k).rule, .slice aq (t.kids.at_ k).kids.len cq] 27) := ⟨_, rfl⟩
      have hVb : Below wr.heap.size wr V := by rw [hV]; exact al1 _ _
      have bV := bthen hb hVb
      by_cases hmm : 0 ≤ m
      · have IH := ih k hlt _ V m (TrV_mk (hq.lw hVb)) hmm (by omega)
        have HI : Hid (R = spI (t.kids.drp (k + 1)).sz (spI (t.kids.at_ k).sz m)) := hd (by rw [hinv.out, Tf.sz_drp hlt, spI_add _ _ _ hmm])
        have hz := spI_le (t.kids.at_ k).sz m
        have hz1 := hz.1
        have hz2 := hz.2 hmm
        clear hinv hz
        generalize spI (t.kids.at_ k).sz m = z at *
        generalize t.kids.at_ k = x at *
        go_wp2_with fail
        rw [← hV]
        have HV := hd hV
        clear hV
        refine IH.mono ?_
        rintro e w1 ⟨rfl, hb1⟩
        have bz := bthen bV hb1
        go_wp2_with fail
        go_roundw
        case rel => exact ⟨k + 1, z, by omega, by go_num, rfl, by omega, by omega, HI, bz⟩
        case measure => simp [intOf]; omega
      · have hR' : Hid (R = m) := hd (by rw [hinv.out]; unfold spI; split <;> omega)
        have bw := bthen hWb bV
        generalize t.kids.at_ k = x at *
        go_wp2_with fail
        rw [← hV]
        go_ret
        exact ⟨ret_int (by rw [hR'.out]), bw⟩
    · have hR' : Hid (R = m) := hd (by rw [hinv.out, Tf.drp_end (by omega)]; unfold spI Tf.sz; split <;> omega)
      go_wp2_with fail
      go_ret
      exact ⟨ret_int (by rw [hR'.out]), bel⟩
theorem sp_all : ∀ (f : Tf) (i : Nat), i < f.len → SpOK (f.at_ i)
  | .nil, _, h => absurd h (Nat.not_lt_zero _)
  | .cons rule kids _, 0, _ => sp_head ⟨rule, kids⟩ (sp_all kids)
  | .cons _ _ rest, i + 1, h => sp_all rest i (by simpa [Tf.len] using h)
theorem spare_any (t : Tr) : SpOK t := sp_head t (sp_all t.kids)
end Go.Proofs.Ytghplmldnkcpnad.G

/- Is it a tree of a nonterminal? The document's way. -/
namespace Go.Proofs.Ytghplmldnkcpnad.G
open Go.RowKit
end Go.Proofs.Ytghplmldnkcpnad.G

/- What is wrong with a grammar, the program's way: gram.Check. -/
namespace Go.Proofs.Ytghplmldnkcpnad.G
open Go.RowKit
theorem ruF_wb {g : Gm} {r : Ru} (h : ¬ 10 < r.right.length) : ruF g r = if (wb 0 (g.vars - 1) r.left && r.right.all (wb (-g.terms) (g.vars - 1))) = true then 0 else 9 := by
  have e : wb (-g.terms) (g.vars - 1) = syB g := by
    funext s
    unfold wb syB
    rw [Bool.eq_iff_iff]
    simp
    omega
  unfold ruF
  rw [if_neg h, e]
  have e2 : ((0 ≤ r.left ∧ r.left < g.vars) ∧ r.right.all (syB g) = true) ↔ (wb 0 (g.vars - 1) r.left && r.right.all (syB g)) = true := by
    rw [Bool.and_eq_true, wb_iff]
    constructor
    · rintro ⟨⟨a, b⟩, c⟩; exact ⟨⟨a, by omega⟩, c⟩
    · rintro ⟨⟨a, b⟩, c⟩; exact ⟨⟨a, by omega⟩, c⟩
  by_cases h2 : (wb 0 (g.vars - 1) r.left && r.right.all (syB g)) = true
  · rw [if_pos h2, if_pos (e2.2 h2)]
  · rw [if_neg h2, if_neg (fun h => h2 (e2.1 h))]
set_option maxRecDepth 100000 in
set_option maxHeartbeats 16000000 in
theorem check_any (g : Gm) (va : Value) (w : World) (ha : GV w All va g) :
    Calls Try.prog 24 #[va] w fun e w' => e = .returned (.agg #[.int .i64 (gFl g).1, .int .i64 (gFl g).2]) ∧ Below w.heap.size w w' := by
  obtain ⟨ua, rfl, ra⟩ := ha
  obtain ⟨ao, cap, rfl⟩ := ra.slice
  have hl := ra.1
  obtain ⟨W, hW⟩ : ∃ W, W = (w.alloc (.cells #[.int .i64 g.vars, .int .i64 g.terms, .int .i64 g.start, .slice ao g.rules.length cap] 24)).alloc (.cells #[.int .i64 0, .int .i64 0] 33) := ⟨_, rfl⟩
  have hWz : W.heap.size = w.heap.size + 2 := by rw [hW]; simp
  have hWb : Below w.heap.size w W := by rw [hW]; exact al2 _ _ _
  have hW0 : W.cell? ⟨w.heap.size, 0, none⟩ = some (.int .i64 g.vars) := by rw [hW]; simp
  have hW1 : W.cell? ⟨w.heap.size, 1, none⟩ = some (.int .i64 g.terms) := by rw [hW]; simp
  have hW3 : W.cell? ⟨w.heap.size, 3, none⟩ = some (.slice ao g.rules.length cap) := by rw [hW]; simp
  have hWr : RB W (w.heap.size + 1) := by rw [hW]; exact ⟨by simp, by simp, fun i => by simp [go_sem]⟩
  have SA := sized_any g ao g.rules.length cap W
  have HR : Hid (gFl g = if szB g then if 160 < g.rules.length then (6, -1) else rsF g (g.rules.drop 0) 0 else (9, -1)) := hd rfl
  have HS : Hid (szB g = true → 1 ≤ g.vars ∧ g.vars ≤ 64 ∧ 0 ≤ g.terms ∧ g.terms ≤ 16) := hd (fun h => by unfold szB at h; simp at h; omega)
  generalize gFl g = R at *
  generalize szB g = q at *
  cases q with
  | false =>
    have hr : R = (9, -1) := HR.out
    subst hr
    go_enter Try.func24, Try.ntmps24
    go_wp2_with fail
    rw [← hW]
    have HW := hd hW
    clear hW
    refine SA.mono ?_
    rintro e w1 ⟨rfl, hb1⟩
    have rf := hWr.below hb1
    have q0 := rf.c0
    have q1 := rf.c1
    have qf := rf.fz
    have bf : Below w.heap.size w w1 := bthen hWb hb1
    go_wp2_with fail
    refine bodyPost_ret (v := .agg #[.int .i64 9, .int .i64 (-1)]) (by simp [results, Try.results24, go_sem, q0, q1]) rfl ⟨rfl, ?_⟩
    exact (bf.setCell (p := ⟨w.heap.size + 1, 0, none⟩) (Nat.le_succ _) _).setCell (p := ⟨w.heap.size + 1, 1, none⟩) (Nat.le_succ _) _
  | true =>
  obtain ⟨s1, s2, s3, s4⟩ := HS.out rfl
  by_cases h16 : 160 < g.rules.length
  · have hr : R = (6, -1) := by rw [HR.out]; simp [h16]
    subst hr
    go_enter Try.func24, Try.ntmps24
    go_wp2_with fail
    rw [← hW]
    have HW := hd hW
    clear hW
    refine SA.mono ?_
    rintro e w1 ⟨rfl, hb1⟩
    have t3 := bkeep hb1 hW3
    have rf := hWr.below hb1
    have q0 := rf.c0
    have q1 := rf.c1
    have qf := rf.fz
    have bf : Below w.heap.size w w1 := bthen hWb hb1
    go_wp2_with fail
    refine bodyPost_ret (v := .agg #[.int .i64 6, .int .i64 (-1)]) (by simp [results, Try.results24, go_sem, q0, q1]) rfl ⟨rfl, ?_⟩
    exact (bf.setCell (p := ⟨w.heap.size + 1, 0, none⟩) (Nat.le_succ _) _).setCell (p := ⟨w.heap.size + 1, 1, none⟩) (Nat.le_succ _) _
  have HR0 : Hid (R = rsF g (g.rules.drop 0) 0) := hd (by rw [HR.out]; simp [h16])
  clear HR HS
  go_enter Try.func24, Try.ntmps24
  go_wp2_with fail
  rw [← hW]
  have HW := hd hW
  clear hW
  refine SA.mono ?_
  rintro e w1 ⟨rfl, hb1⟩
  have b1 : Below w.heap.size w w1 := bthen hWb hb1
  have t0 := bkeep hb1 hW0
  have t1 := bkeep hb1 hW1
  have t3 := bkeep hb1 hW3
  have tr := hWr.below hb1
  clear hb1 hW0 hW1 hW3 hWr hWb SA
  go_wp2_with fail
  refine (within_any _ _ _).mono ?_
  rintro e w2 ⟨l1, l2, rfl, p1, p2, hb2⟩
  have b2 := bthen b1 hb2
  have u0 := bkeep hb2 t0
  have u1 := bkeep hb2 t1
  have u3 := bkeep hb2 t3
  have ur := tr.below hb2
  clear t0 t1 t3 tr hb2 b1
  go_wp2_with fail
  refine (within_any _ _ _).mono ?_
  rintro e w3 ⟨m1, m2, rfl, r1, r2, hb3⟩
  have b3 := bthen b2 hb3
  have v3 := bkeep hb3 u3
  have vr := ur.below hb3
  have k1 := bkeep hb3 p1
  have k2 := bkeep hb3 p2
  clear u0 u1 u3 ur hb3 b2 p1 p2
  go_wp2_with fail
  go_loopw [30] (fun i wr => ∃ k : Nat, k ≤ g.rules.length ∧ i = .int .i64 k ∧ Hid (R = rsF g (g.rules.drop k) k) ∧ Below w3.heap.size w3 wr) (fun i _ => g.rules.length - (intOf i).toNat)
  case atStart => exact ⟨0, Nat.zero_le _, rfl, HR0, Below.refl _ _⟩
  case round =>
    obtain ⟨k, hk, rfl, hR, hb⟩ := hrel
    have bel : Below w.heap.size w wr := bthen b3 hb
    have tr := vr.below hb
    by_cases hlt : k < g.rules.length
    · obtain ⟨b, o, rfl, c0, ar, cr, c1, hc⟩ := (ra.lw bel).at_ hlt
      have HR1 : Hid (R = if ruF g g.rules[k] = 0 then rsF g (g.rules.drop (k + 1)) (k + 1) else (ruF g g.rules[k], (k : Int))) := hd (by rw [hR.out, rsF_at hlt])
      clear hR
      generalize g.rules[k] = x at *
      have hxl := hc.1
      obtain ⟨V, hV⟩ : ∃ V, V = wr.alloc (.cells #[.int .i64 x.left, .slice ar x.right.length cr] 46) := ⟨_, rfl⟩
      have hVb : Below wr.heap.size wr V := by rw [hV]; exact al1 _ _
      have hV1 : V.cell? ⟨wr.heap.size, 1, none⟩ = some (.slice ar x.right.length cr) := by rw [hV]; simp
      have hV0 : V.cell? ⟨wr.heap.size, 0, none⟩ = some (.int .i64 x.left) := by rw [hV]; simp
      have belV : Below w.heap.size w V := bthen bel hVb
      have tV := tr.below hVb
      have cV := hc.lw hVb
      have kV1 := bkeep hVb (bkeep hb k1)
      have kV2 := bkeep hVb (bkeep hb k2)
      have rV1 := bkeep hVb (bkeep hb r1)
      have rV2 := bkeep hVb (bkeep hb r2)
      by_cases h10 : 10 < x.right.length
      · have hRx : R = (6, (k : Int)) := by rw [HR1.out, ruF_many h10]; rfl
        subst hRx
        have q0 := tV.c0
        have q1 := tV.c1
        have qf := tV.fz
        have e0 := alcell tr.c0 (.cells #[.int .i64 x.left, .slice ar x.right.length cr] 46)
        have e1 := alcell tr.c1 (.cells #[.int .i64 x.left, .slice ar x.right.length cr] 46)
        have ef : ∀ i, (wr.alloc (.cells #[.int .i64 x.left, .slice ar x.right.length cr] 46)).frozen? ⟨w.heap.size + 1, i, none⟩ = false := by rw [← hV]; exact qf
        go_wp2_with fail
        refine bodyPost_ret (v := .agg #[.int .i64 6, .int .i64 k]) (by simp [results, Try.results24, go_sem, e0, e1]) rfl ⟨rfl, ?_⟩
        rw [← hV]
        exact (belV.setCell (p := ⟨w.heap.size + 1, 0, none⟩) (Nat.le_succ _) _).setCell (p := ⟨w.heap.size + 1, 1, none⟩) (Nat.le_succ _) _
      have HX := hd (ruF_wb (g := g) (r := x) h10)
      obtain ⟨qL, EL⟩ : ∃ q, wb 0 (g.vars - 1) x.left = q := ⟨_, rfl⟩
      obtain ⟨qA, EA⟩ : ∃ q, x.right.all (wb (-g.terms) (g.vars - 1)) = q := ⟨_, rfl⟩
      rw [EL, EA] at HX
      have AA := fun w' (h : Below V.heap.size V w') => all_any (-g.terms) (g.vars - 1) x.right (.slice ar x.right.length cr) (.func (.func 37) #[] #[.pointer (some ⟨m1, 0, none⟩), .pointer (some ⟨m2, 0, none⟩)]) w' (cV.lw h) ⟨m1, m2, rfl, bkeep h rV1, bkeep h rV2⟩
      rw [EA] at AA
      have HEL := hd EL
      clear EL EA
      cases qL with
      | false =>
        have hRx : R = (9, (k : Int)) := by
          have hx : ruF g x = 9 := HX.out
          rw [HR1.out, hx]; rfl
        subst hRx
        go_wp2_with fail
        rw [← hV]
        have HV := hd hV
        clear hV
        refine (within1_q HEL.out kV1 kV2).mono ?_
        rintro e w5 ⟨rfl, hb5⟩
        have rf := tV.below hb5
        have q0 := rf.c0
        have q1 := rf.c1
        have qf := rf.fz
        have bf := bthen belV hb5
        go_wp2_with fail
        refine bodyPost_ret (v := .agg #[.int .i64 9, .int .i64 k]) (by simp [results, Try.results24, go_sem, q0, q1]) rfl ⟨rfl, ?_⟩
        exact (bf.setCell (p := ⟨w.heap.size + 1, 0, none⟩) (Nat.le_succ _) _).setCell (p := ⟨w.heap.size + 1, 1, none⟩) (Nat.le_succ _) _
      | true =>
      cases qA with
      | false =>
        have hRx : R = (9, (k : Int)) := by
          have hx : ruF g x = 9 := HX.out
          rw [HR1.out, hx]; rfl
        subst hRx
        go_wp2_with fail
        rw [← hV]
        have HV := hd hV
        clear hV
        refine (within1_q HEL.out kV1 kV2).mono ?_
        rintro e w5 ⟨rfl, hb5⟩
        have x1 := bkeep hb5 hV1
        go_wp2_with fail
        refine (AA _ hb5).mono ?_
        rintro e w6 ⟨rfl, hb6⟩
        have rf := (tV.below hb5).below hb6
        have q0 := rf.c0
        have q1 := rf.c1
        have qf := rf.fz
        have bf := bthen belV (bthen hb5 hb6)
        go_wp2_with fail
        refine bodyPost_ret (v := .agg #[.int .i64 9, .int .i64 k]) (by simp [results, Try.results24, go_sem, q0, q1]) rfl ⟨rfl, ?_⟩
        exact (bf.setCell (p := ⟨w.heap.size + 1, 0, none⟩) (Nat.le_succ _) _).setCell (p := ⟨w.heap.size + 1, 1, none⟩) (Nat.le_succ _) _
      | true =>
        have HR2 : Hid (R = rsF g (g.rules.drop (k + 1)) (k + 1)) := hd (by
          have hx : ruF g x = 0 := HX.out
          rw [HR1.out, if_pos hx])
        go_wp2_with fail
        rw [← hV]
        have HV := hd hV
        clear hV
        refine (within1_q HEL.out kV1 kV2).mono ?_
        rintro e w5 ⟨rfl, hb5⟩
        have x1 := bkeep hb5 hV1
        go_wp2_with fail
        refine (AA _ hb5).mono ?_
        rintro e w6 ⟨rfl, hb6⟩
        have bz := bthen hb (bthen hVb (bthen hb5 hb6))
        go_wp2_with fail
        go_roundw
        case rel => exact ⟨k + 1, by omega, by go_num, HR2, bz⟩
        case measure => simp [intOf]; omega
    · have hRx : R = (0, 0) := by rw [hR.out, rsF_end (by omega)]
      subst hRx
      have q0 := tr.c0
      have q1 := tr.c1
      have qf := tr.fz
      go_wp2_with fail
      refine bodyPost_ret (v := .agg #[.int .i64 0, .int .i64 0]) (by simp [results, Try.results24, go_sem, q0, q1]) rfl ⟨rfl, ?_⟩
      exact (bel.setCell (p := ⟨w.heap.size + 1, 0, none⟩) (Nat.le_succ _) _).setCell (p := ⟨w.heap.size + 1, 1, none⟩) (Nat.le_succ _) _
end Go.Proofs.Ytghplmldnkcpnad.G

/- What is wrong with a tree: tree.Check, and the document's. -/
namespace Go.Proofs.Ytghplmldnkcpnad.G
open Go.RowKit
def tFl (g : Gm) (t : Tr) (v : Int) : Int × Int := if (gFl g).1 ≠ 0 then gFl g else if 400 < t.sz then (6, -1) else if fitT g.rules t v = true then (0, 0) else (13, -1)
theorem spI_neg (s : Nat) : decide (spI s 400 < 0) = decide (400 < s) := by unfold spI; rw [decide_eq_decide]; split <;> omega
theorem tFl_bad {g : Gm} {t : Tr} {v a b : Int} (h : gFl g = (a, b)) (ha : a ≠ 0) : tFl g t v = (a, b) := by unfold tFl; rw [h, if_pos ha]
theorem tFl_many {g : Gm} {t : Tr} {v b : Int} (h : gFl g = (0, b)) (h4 : 400 < t.sz) : tFl g t v = (6, -1) := by unfold tFl; rw [h, if_neg (by simp), if_pos h4]
theorem tFl_fit {g : Gm} {t : Tr} {v b : Int} (h : gFl g = (0, b)) (h4 : ¬ 400 < t.sz) (hf : fitT g.rules t v = true) : tFl g t v = (0, 0) := by unfold tFl; rw [h, if_neg (by simp), if_neg h4, if_pos hf]
theorem tFl_not {g : Gm} {t : Tr} {v b : Int} (h : gFl g = (0, b)) (h4 : ¬ 400 < t.sz) (hf : fitT g.rules t v = false) : tFl g t v = (13, -1) := by unfold tFl; rw [h, if_neg (by simp), if_neg h4, if_neg (by simp [hf])]
theorem TfV_one {w : World} {b : Nat} {t : Tr} {u : Value} (c0 : w.cell? ⟨b, 0, none⟩ = some (.int .i64 t.rule)) (c1 : w.cell? ⟨b, 1, none⟩ = some u) (hu : TfV w All u t.kids) : TfV w All (.slice (some ⟨b, 0, none⟩) 1 1) (.cons t.rule t.kids .nil) := by
  obtain ⟨h1, ao, cap, rfl, h3, h4, h5⟩ := hu
  exact ⟨by simp [Tf.len], _, 1, rfl, by simp [Tf.len], (fun h => by cases h), .inr ⟨b, 0, rfl, trivial, c0, ⟨h1, ao, cap, c1, h3, h4, h5⟩, trivial⟩⟩
set_option maxRecDepth 100000 in
set_option maxHeartbeats 16000000 in
theorem tcheck_any (g : Gm) (t : Tr) (v : Int) (va vt : Value) (w : World) (hg : GV w All va g) (ht : TrV w All vt t) (hs : Small g.rules) :
    Calls Try.prog 13 #[va, vt, .int .i64 v] w fun e w' => e = .returned (.agg #[.int .i64 (tFl g t v).1, .int .i64 (tFl g t v).2]) ∧ Below w.heap.size w w' := by
  obtain ⟨R, hR0⟩ : ∃ R, R = tFl g t v := ⟨_, rfl⟩
  have hR := hd hR0
  rw [← hR0]
  clear hR0
  have CK := fun w' (hb : Below w.heap.size w w') => check_any g va w' (hg.lw hb)
  have SP := fun w' (hb : Below w.heap.size w w') => spare_any t vt w' 400 (ht.lw hb) (by omega) (by omega)
  have FT := fun w' (hb : Below w.heap.size w w') => fits_any t g va vt v w' (hg.lw hb) (ht.lw hb) hs
  obtain ⟨D1, D2, hD⟩ : ∃ a b, gFl g = (a, b) := ⟨_, _, rfl⟩
  rw [hD] at CK
  simp only at CK
  have hsp := spI_neg t.sz
  obtain ⟨ua, rfl, ra⟩ := hg
  obtain ⟨ut, rfl, kt⟩ := ht
  obtain ⟨ao, cap, rfl⟩ := ra.slice
  obtain ⟨at_, ct, rfl, _⟩ := kt.slice
  obtain ⟨W, hW⟩ : ∃ W, W = ((w.alloc (.cells #[.int .i64 g.vars, .int .i64 g.terms, .int .i64 g.start, .slice ao g.rules.length cap] 24)).alloc (.cells #[.int .i64 t.rule, .slice at_ t.kids.len ct] 27)).alloc (.cells #[.int .i64 0, .int .i64 0] 33) := ⟨_, rfl⟩
  have hWb : Below w.heap.size w W := by rw [hW]; exact (al2 w _ _).alloc (by simp <;> omega) _
  have x0 : W.cell? ⟨w.heap.size, 0, none⟩ = some (.int .i64 g.vars) := by rw [hW]; simp [go_sem]
  have x1 : W.cell? ⟨w.heap.size, 1, none⟩ = some (.int .i64 g.terms) := by rw [hW]; simp [go_sem]
  have x2 : W.cell? ⟨w.heap.size, 2, none⟩ = some (.int .i64 g.start) := by rw [hW]; simp [go_sem]
  have x3 : W.cell? ⟨w.heap.size, 3, none⟩ = some (.slice ao g.rules.length cap) := by rw [hW]; simp [go_sem]
  have y0 : W.cell? ⟨w.heap.size + 1, 0, none⟩ = some (.int .i64 t.rule) := by rw [hW]; simp [go_sem]
  have y1 : W.cell? ⟨w.heap.size + 1, 1, none⟩ = some (.slice at_ t.kids.len ct) := by rw [hW]; simp [go_sem]
  have hWr : RB W (w.heap.size + 2) := by rw [hW]; exact ⟨by simp [go_sem], by simp [go_sem], fun i => by simp [go_sem]⟩
  have CW := CK W hWb
  go_enter Try.func13, Try.ntmps13
  go_wp2_with fail
  rw [← hW]
  have HW := hd hW
  clear hW
  refine CW.mono ?_
  rintro e w1 ⟨rfl, hb1⟩
  obtain ⟨V, hV⟩ : ∃ V, V = w1.alloc (.cells #[.int .i64 D1, .int .i64 D2] 33) := ⟨_, rfl⟩
  have hVb : Below w1.heap.size w1 V := by rw [hV]; exact al1 _ _
  have bW := bthen hb1 hVb
  have bV := bthen hWb bW
  have tr := hWr.below hb1
  by_cases hc : D1 = 0
  rotate_left
  · have hr : R = (D1, D2) := hR.out.trans (tFl_bad hD hc)
    subst hr
    have hcb : (D1 != 0) = true := by simpa using hc
    have HD := hd hD
    clear hc hD
    have q0 := alcell tr.c0 (.cells #[.int .i64 D1, .int .i64 D2] 33)
    have q1 := alcell tr.c1 (.cells #[.int .i64 D1, .int .i64 D2] 33)
    have qf := (tr.below (al1 w1 (.cells #[.int .i64 D1, .int .i64 D2] 33))).fz
    go_wp2_with fail
    refine bodyPost_ret (v := .agg #[.int .i64 D1, .int .i64 D2]) (by simp [results, Try.results13, go_sem, q0, q1]) rfl ⟨rfl, ?_⟩
    rw [← hV]
    exact (bV.setCell (p := ⟨w.heap.size + 2, 0, none⟩) (by show w.heap.size ≤ w.heap.size + 2; omega) _).setCell (p := ⟨w.heap.size + 2, 1, none⟩) (by show w.heap.size ≤ w.heap.size + 2; omega) _
  subst hc
  have u0 := alcell (bkeep hb1 y0) (.cells #[.int .i64 0, .int .i64 D2] 33)
  have u1 := alcell (bkeep hb1 y1) (.cells #[.int .i64 0, .int .i64 D2] 33)
  have SV := SP V bV
  generalize spI t.sz 400 = s at *
  have hDD := hd hD
  have Hsp := hd hsp
  clear hsp CW
  go_wp2_with fail
  rw [← hV]
  have HV := hd hV
  clear hV
  refine SV.mono ?_
  rintro e w2 ⟨rfl, hb2⟩
  have b2 := bthen bV hb2
  have b2W := bthen bW hb2
  have t2 := (tr.below hVb).below hb2
  by_cases h4 : 400 < t.sz
  · have hsb : decide (s < 0) = true := by rw [Hsp.out]; simpa using h4
    have hr : R = (6, -1) := hR.out.trans (tFl_many hDD.out h4)
    subst hr
    have q0 := t2.c0
    have q1 := t2.c1
    have qf := t2.fz
    clear h4 hD
    go_wp2_with fail
    refine bodyPost_ret (v := .agg #[.int .i64 6, .int .i64 (-1)]) (by simp [results, Try.results13, go_sem, q0, q1]) rfl ⟨rfl, ?_⟩
    exact (b2.setCell (p := ⟨w.heap.size + 2, 0, none⟩) (by show w.heap.size ≤ w.heap.size + 2; omega) _).setCell (p := ⟨w.heap.size + 2, 1, none⟩) (by show w.heap.size ≤ w.heap.size + 2; omega) _
  have hsb : decide (s < 0) = false := by rw [Hsp.out]; simpa using h4
  have z0 := bkeep b2W x0
  have z1 := bkeep b2W x1
  have z2 := bkeep b2W x2
  have z3 := bkeep b2W x3
  have z4 := bkeep b2W y0
  have z5 := bkeep b2W y1
  have F2 := FT w2 b2
  have hF := @tFl_fit g t v D2 hDD.out h4
  have hN := @tFl_not g t v D2 hDD.out h4
  have HF := hd hF
  have HN := hd hN
  have H4 := hd h4
  clear h4 hD hF hN SP FT CK u0 u1 x0 x1 x2 x3 y0 y1
  generalize fitT g.rules t v = q at *
  go_wp2_with fail
  refine F2.mono ?_
  rintro e w3 ⟨rfl, hb3⟩
  have b3 := bthen b2 hb3
  have t3 := t2.below hb3
  have q0 := t3.c0
  have q1 := t3.c1
  have qf := t3.fz
  cases q with
  | true =>
    have hr : R = (0, 0) := hR.out.trans (HF.out rfl)
    subst hr
    go_wp2_with fail
    refine bodyPost_ret (v := .agg #[.int .i64 0, .int .i64 0]) (by simp [results, Try.results13, go_sem, q0, q1]) rfl ⟨rfl, ?_⟩
    exact (b3.setCell (p := ⟨w.heap.size + 2, 0, none⟩) (by show w.heap.size ≤ w.heap.size + 2; omega) _).setCell (p := ⟨w.heap.size + 2, 1, none⟩) (by show w.heap.size ≤ w.heap.size + 2; omega) _
  | false =>
    have hr : R = (13, -1) := hR.out.trans (HN.out rfl)
    subst hr
    go_wp2_with fail
    refine bodyPost_ret (v := .agg #[.int .i64 13, .int .i64 (-1)]) (by simp [results, Try.results13, go_sem, q0, q1]) rfl ⟨rfl, ?_⟩
    exact (b3.setCell (p := ⟨w.heap.size + 2, 0, none⟩) (by show w.heap.size ≤ w.heap.size + 2; omega) _).setCell (p := ⟨w.heap.size + 2, 1, none⟩) (by show w.heap.size ≤ w.heap.size + 2; omega) _
end Go.Proofs.Ytghplmldnkcpnad.G
