/- Where a nonterminal leads, the document's way. -/
import Derived.Test.YtlhdppkllmnmkadL21
import Derived.Test.YtlhdppkllmnmkadL10
import Derived.Test.YtlhdppkllmnmkadL22
import Derived.Deep.LoopGhost
namespace Go.Proofs.Ytlhdppkllmnmkad.G
open Go.RowKit
theorem byF_len {f : List Int → List Int} {R : List Ru} {m : Nat} : ∀ {l : List Int}, (∀ i ∈ l, (f (ruAt R i).right).length ≤ m) → (byF f R l).length ≤ l.length * m
  | [], _ => by simp [byF]
  | i :: l, h => by
    have ih := byF_len (f := f) (R := R) (m := m) (l := l) fun x hx => h x (List.mem_cons_of_mem _ hx)
    have h0 := h i (List.mem_cons_self ..)
    unfold byF at ih ⊢
    rw [List.flatMap_cons, List.length_append, List.length_cons, Nat.add_mul]
    omega
theorem byF_snoc (f : List Int → List Int) (R : List Ru) (l : List Int) {k : Nat} (h : k < l.length) : byF f R (l.take (k + 1)) = byF f R (l.take k) ++ f (ruAt R l[k]).right := by
  unfold byF
  rw [take_snoc l h, List.flatMap_append]; simp
theorem byL_at {v : Int} {R : List Ru} {x : Int} (h : x ∈ byL v R 0) : ∃ j : Nat, x = j ∧ j < R.length := by
  obtain ⟨i, hi, e, _⟩ := mem_byL.1 h
  exact ⟨i, by simpa using e, hi⟩
theorem stT_len {g : Gm} {V : Nat} (hR : Rgt g V) (c : Bool) (is : List Bool) (v : Int) : (stT c is g.rules v).length ≤ 1600 := by
  have h1 := byF_len (f := stF c is) (R := g.rules) (m := 10) (l := byL v g.rules 0) (fun i hi => by
    obtain ⟨j, rfl, hj⟩ := byL_at hi
    rw [ruAt_nat _ hj]
    exact Nat.le_trans (stL_len _ _ _ _) (hR.short _ (List.getElem_mem hj)))
  have h2 := byL_len v g.rules 0
  have h3 := hR.few
  unfold stT
  omega
set_option maxRecDepth 100000 in
set_option maxHeartbeats 8000000 in
theorem stepsTo_any (g : Gm) (V : Nat) (hR : Rgt g V) (is : List Bool) (hil : is.length = V) (nb : Nat) (v : Int) (c : Bool) (va : Value) (w : World) (ha : GV w All va g) (hb : BsV w nb is) :
    Calls Try.prog 146 #[va, .slice (some ⟨nb, 0, none⟩) V V, .int .i64 v, .bool c] w fun e w' => ∃ u, e = .returned u ∧ w'.ownsRow w.heap.size 3 1 u (stT c is g.rules v).length (ints (stT c is g.rules v)) ∧ Below w.heap.size w w' := by
  obtain ⟨i0, hi, iz0, iz1, iz2⟩ := info_parts Try.infoInt
  have hlT := stT_len hR c is v
  have HT : Hid (stT c is g.rules v = byF (stF c is) g.rules (byL v g.rules 0)) := hd rfl
  obtain ⟨u, rfl, hr⟩ := id ha
  obtain ⟨ao, cap, rfl⟩ := hr.slice
  have hl := hr.1
  have hfew := hR.few
  have hbl := byL_len v g.rules 0
  obtain ⟨W, hW⟩ : ∃ W, W = w.alloc (.cells #[.int .i64 g.vars, .int .i64 g.terms, .int .i64 g.start, .slice ao g.rules.length cap] 24) := ⟨_, rfl⟩
  have hWb : Below w.heap.size w W := by rw [hW]; exact al1 _ _
  have hWz : W.heap.size = w.heap.size + 1 := by rw [hW]; simp
  have hW3 : W.cell? ⟨w.heap.size, 3, none⟩ = some (.slice ao g.rules.length cap) := by rw [hW]; simp
  have RA := rulesOf_any g v _ W (ha.lw hWb) (by omega)
  have hbm : ∀ x ∈ byL v g.rules 0, ∃ j : Nat, x = j ∧ j < g.rules.length := fun x hx => byL_at hx
  generalize stT c is g.rules v = T at *
  generalize byL v g.rules 0 = l at *
  go_enter Try.func146, Try.ntmps146
  go_wp2_with fail
  rw [← hW]
  clear hW ha
  refine RA.mono ?_
  rintro e w1 ⟨ul, rfl, ownl, k1⟩
  have il : IsV w1 All ul l := IsV_owned ownl (by omega) (fun _ _ => trivial)
  obtain ⟨al, cl, rfl⟩ := il.slice
  have b1 := bthen hWb k1
  have s3 := bkeep k1 hW3
  have hw1 := b1.size
  clear ownl RA hW3
  go_wp2_with fail
  go_loopw [9, 11] (fun o i wr => ∃ (k : Nat) (acc : List Int), k ≤ l.length ∧ i = .int .i64 k ∧ Hid (acc = byF (stF c is) g.rules (l.take k)) ∧ acc.length ≤ k * 10 ∧ wr.ownsRow w1.heap.size 3 1 o acc.length (ints acc) ∧ Below w1.heap.size w1 wr) (fun _ i _ => l.length - (intOf i).toNat)
  case atStart => exact ⟨0, [], Nat.zero_le _, rfl, hd (by simp [byF]), Nat.zero_le _, World.ownsRow_nil _ _ _ _, Below.refl _ _⟩
  case round =>
    obtain ⟨k, acc, hk, rfl, hacc, hal, own, bel⟩ := hrel
    obtain ⟨aov, capv, rfl⟩ := owns_slice own
    by_cases hlt : k < l.length
    · obtain ⟨bl, ol, rfl, cl0⟩ := (il.lw bel).at_ hlt
      obtain ⟨j, hj, hjR⟩ := hbm l[k] (List.getElem_mem hlt)
      rw [hj] at cl0
      have HS := hd (byF_snoc (stF c is) g.rules l hlt)
      rw [hj, ruAt_nat g.rules hjR] at HS
      have hsh := hR.short _ (List.getElem_mem hjR)
      have hvr := (hR.vr.2 _ (List.getElem_mem hjR)).2
      obtain ⟨b, o, rfl, _, ar, cr, c1', hc0⟩ := (hr.lw b1).at_ hjR
      have c1 := bkeep bel c1'
      have hcap : g.rules[j].right.length ≤ cr := by
        obtain ⟨_, ao', cap', e', h3, _⟩ := hc0
        simp at e'
        obtain ⟨_, rfl⟩ := e'
        exact h3
      have s4 := bkeep bel s3
      have hj2 : (j : Int) < (g.rules.length : Int) := by omega
      have hlt2 : (k : Int) < (l.length : Int) := by omega
      have HN : Hid (acc ++ stF c is g.rules[j].right = byF (stF c is) g.rules (l.take (k + 1))) := hd (by rw [HS.out, hacc.out])
      clear HS hacc hj
      generalize g.rules[j].right = x at *
      have hxl := hc0.1
      have HF : Hid (stF c is x = stL c is x x.length) := hd rfl
      go_wp2_with fail
      go_quiet (fail)
      go_wp2_with fail
      go_loopw [9, 13] (fun q i wx => ∃ (n : Nat) (acc2 : List Int), n ≤ x.length ∧ i = .int .i64 n ∧ Hid (acc2 = acc ++ stL c is x n) ∧ acc2.length ≤ k * 10 + n ∧ wx.ownsRow w1.heap.size 3 1 q acc2.length (ints acc2) ∧ Below w1.heap.size w1 wx) (fun _ i _ => x.length - (intOf i).toNat)
      case atStart => exact ⟨0, acc, Nat.zero_le _, rfl, hd (by simp [stL]), by omega, owns_below own (drwN _ _), bthen bel (drwN _ _)⟩
      case round =>
        clear own cl0 c1 s4 bel
        obtain ⟨n, acc2, hn, rfl, hacc2, hal2, own, bel⟩ := hrel
        have hz := bel.size
        obtain ⟨aov2, capv2, rfl⟩ := owns_slice own
        by_cases hln : n < x.length
        · have hxw := hc0.lw bel
          have hbw := hb.lw (bthen b1 bel)
          have AT := allIn_any (x.take n) is _ nb wr (hxw.take (k := n) (by omega)) hbw (fun s hs => by rw [hil]; exact hvr s (List.mem_of_mem_take hs))
          have AD := allIn_any (x.drop (n + 1)) is _ nb wr (hxw.drop (k := n + 1) (by omega)) hbw (fun s hs => by rw [hil]; exact hvr s (List.mem_of_mem_drop hs))
          rw [hil] at AT AD
          obtain ⟨bx, ox, rfl, cx⟩ := hxw.at_ hln
          have hln2 : (n : Int) < (x.length : Int) := by omega
          have hgx : x.getD n 0 = x[n] := by rw [List.getD_eq_getElem?_getD, List.getElem?_eq_getElem hln]; rfl
          have HS : Hid (acc ++ stL c is x (n + 1) = if (decide (0 ≤ x[n]) && ((x.take n).all (isAt is) && (c || (x.drop (n + 1)).all (isAt is)))) = true then acc2 ++ [x[n]] else acc2) := hd (by
            rw [hacc2.out, stL, hgx]
            split
            · rw [List.append_assoc]
            · rfl)
          clear hxw hbw hgx hacc2
          generalize (x.take n).all (isAt is) = q1 at *
          generalize (x.drop (n + 1)).all (isAt is) = q2 at *
          generalize x[n] = y at *
          by_cases hy : 0 ≤ y
          case neg =>
            have HS' : Hid (acc2 = acc ++ stL c is x (n + 1)) := hd (by rw [HS.out, decide_eq_false hy]; rfl)
            clear HS AT AD
            go_wp2_with fail
            go_roundw
            case rel => exact ⟨n + 1, acc2, by omega, by go_num, HS', by omega, own, bel⟩
            case measure => simp [intOf]; omega
          rw [decide_eq_true hy] at HS
          cases q1 with
          | false =>
            have HS' : Hid (acc2 = acc ++ stL c is x (n + 1)) := hd (by rw [HS.out]; rfl)
            clear HS AD
            go_wp2_with fail
            refine AT.mono ?_
            rintro e wx ⟨rfl, hwx⟩
            obtain rfl := hwx.symm
            go_wp2_with fail
            go_roundw
            case rel => exact ⟨n + 1, acc2, by omega, by go_num, HS', by omega, own, bel⟩
            case measure => simp [intOf]; omega
          | true =>
          cases c with
          | true =>
            have HS' : Hid (acc2 ++ [y] = acc ++ stL true is x (n + 1)) := hd (by rw [HS.out]; rfl)
            clear HS AD
            go_wp2_with fail
            refine AT.mono ?_
            rintro e wx ⟨rfl, hwx⟩
            obtain rfl := hwx.symm
            go_wp2_with (first | (at_builtin; go_must (refine wpList_append_own _ rfl _ _ 35 rfl w1.heap.size 3 i0 (.int .i64 0) 1 8 Try.underlying35 hi iz0 iz1 iz2 rfl (by decide) _ _ _ rfl (own.alloc _) ⟨wr.heap.size, 0, none⟩ 1 1 [.int .i64 y] rfl rfl (cell_one_at _ _ _ (by simp)) (oneInts [y]) (by unfold maxLen; omega) (by omega) (by simp <;> omega) ?_)))
            intro v1 W1 own1 grow1 _
            go_wp2_with fail
            go_roundw
            case rel => exact ⟨n + 1, acc2 ++ [y], by omega, by go_num, HS', by simp; omega, by simpa [ints] using own1, (bel.alloc hz _).grown grow1 (by simp <;> omega) (fun j hj => (own.lt j hj).1)⟩
            case measure => simp [intOf]; omega
          | false =>
          cases q2 with
          | false =>
            have HS' : Hid (acc2 = acc ++ stL false is x (n + 1)) := hd (by rw [HS.out]; rfl)
            clear HS
            by_cases hc : cr = n + 1
            · subst hc
              simp only [sliced, if_true, Nat.sub_self, Nat.sub_eq_zero_of_le hcap] at AD
              go_wp2_with fail
              refine AT.mono ?_
              rintro e wx ⟨rfl, hwx⟩
              obtain rfl := hwx.symm
              go_wp2_with fail
              refine AD.mono ?_
              rintro e wx ⟨rfl, hwx⟩
              obtain rfl := hwx.symm
              go_wp2_with fail
              go_roundw
              case rel => exact ⟨n + 1, acc2, by omega, by go_num, HS', by omega, own, bel⟩
              case measure => simp [intOf]; omega
            · simp only [sliced, if_neg hc, Option.map_some, addr_add, Nat.mul_one] at AD
              go_wp2_with fail
              refine AT.mono ?_
              rintro e wx ⟨rfl, hwx⟩
              obtain rfl := hwx.symm
              go_wp2_with fail
              refine AD.mono ?_
              rintro e wx ⟨rfl, hwx⟩
              obtain rfl := hwx.symm
              go_wp2_with fail
              go_roundw
              case rel => exact ⟨n + 1, acc2, by omega, by go_num, HS', by omega, own, bel⟩
              case measure => simp [intOf]; omega
          | true =>
            have HS' : Hid (acc2 ++ [y] = acc ++ stL false is x (n + 1)) := hd (by rw [HS.out]; rfl)
            clear HS
            by_cases hc : cr = n + 1
            · subst hc
              simp only [sliced, if_true, Nat.sub_self, Nat.sub_eq_zero_of_le hcap] at AD
              go_wp2_with fail
              refine AT.mono ?_
              rintro e wx ⟨rfl, hwx⟩
              obtain rfl := hwx.symm
              go_wp2_with fail
              refine AD.mono ?_
              rintro e wx ⟨rfl, hwx⟩
              obtain rfl := hwx.symm
              go_wp2_with (first | (at_builtin; go_must (refine wpList_append_own _ rfl _ _ 35 rfl w1.heap.size 3 i0 (.int .i64 0) 1 8 Try.underlying35 hi iz0 iz1 iz2 rfl (by decide) _ _ _ rfl (own.alloc _) ⟨wr.heap.size, 0, none⟩ 1 1 [.int .i64 y] rfl rfl (cell_one_at _ _ _ (by simp)) (oneInts [y]) (by unfold maxLen; omega) (by omega) (by simp <;> omega) ?_)))
              intro v1 W1 own1 grow1 _
              go_wp2_with fail
              go_roundw
              case rel => exact ⟨n + 1, acc2 ++ [y], by omega, by go_num, HS', by simp; omega, by simpa [ints] using own1, (bel.alloc hz _).grown grow1 (by simp <;> omega) (fun j hj => (own.lt j hj).1)⟩
              case measure => simp [intOf]; omega
            · simp only [sliced, if_neg hc, Option.map_some, addr_add, Nat.mul_one] at AD
              go_wp2_with fail
              refine AT.mono ?_
              rintro e wx ⟨rfl, hwx⟩
              obtain rfl := hwx.symm
              go_wp2_with fail
              refine AD.mono ?_
              rintro e wx ⟨rfl, hwx⟩
              obtain rfl := hwx.symm
              go_wp2_with (first | (at_builtin; go_must (refine wpList_append_own _ rfl _ _ 35 rfl w1.heap.size 3 i0 (.int .i64 0) 1 8 Try.underlying35 hi iz0 iz1 iz2 rfl (by decide) _ _ _ rfl (own.alloc _) ⟨wr.heap.size, 0, none⟩ 1 1 [.int .i64 y] rfl rfl (cell_one_at _ _ _ (by simp)) (oneInts [y]) (by unfold maxLen; omega) (by omega) (by simp <;> omega) ?_)))
              intro v1 W1 own1 grow1 _
              go_wp2_with fail
              go_roundw
              case rel => exact ⟨n + 1, acc2 ++ [y], by omega, by go_num, HS', by simp; omega, by simpa [ints] using own1, (bel.alloc hz _).grown grow1 (by simp <;> omega) (fun j hj => (own.lt j hj).1)⟩
              case measure => simp [intOf]; omega
        · have he : Hid (acc2 = byF (stF c is) g.rules (l.take (k + 1))) := hd (by rw [hacc2.out, ← HN.out, HF.out, show n = x.length by omega])
          clear hacc2
          go_wp2_with fail
          go_roundw
          case rel => exact ⟨k + 1, acc2, by omega, by go_num, he, by omega, own, bel⟩
          case measure => simp [intOf]; omega
    · have he : acc = T := by rw [HT.out, hacc.out, List.take_of_length_le (by omega)]
      subst he
      clear hacc HT
      go_wp2_with fail
      go_ret
      exact ⟨_, rfl, owns_mono own (by omega), bthen b1 bel⟩
end Go.Proofs.Ytlhdppkllmnmkad.G
