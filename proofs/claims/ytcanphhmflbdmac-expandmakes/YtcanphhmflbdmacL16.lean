/- Texts laid together: Rt Bld Sm. -/
import Derived.Test.YtcanphhmflbdmacL15
import Derived.Shelf.Strings.BuilderK
import Derived.Test.YtcanphhmflbdmacL03
import Derived.Test.YtcanphhmflbdmacL01
import Derived.Test.YtcanphhmflbdmacProg
import Derived.Laws.Externs
import Derived.Test.YtcanphhmflbdmacL11
/- The document's own text of an expression. -/
namespace Go.Proofs.Ytcanphhmflbdmac
open Go.RowKit
theorem bys_app (a b : ByteArray) : bys (a ++ b) = bys a ++ bys b := by simp [bys, ByteArray.data_append]
theorem bys_eq {s : ByteArray} {l : List UInt8} (h : bys s = l) : s = ⟨l.toArray⟩ := bys_inj (by rw [bys_mk]; exact h)
theorem Fo.bad_at0 : ∀ {f : Fo} {i : Nat}, f.bad = 0 → i < f.len → (f.at_ i).bad = 0
  | .nil, _, _, h => absurd h (Nat.not_lt_zero _)
  | .cons .., 0, h, _ => let ⟨h1, h2, _⟩ := Fo.bad_cons h; by unfold Xp.bad; simp [Fo.at_, h1, h2]
  | .cons _ _ _ r, i + 1, h, hi => Fo.bad_at0 (f := r) (i := i) (Fo.bad_cons h).2.2 (by simpa [Fo.len] using hi)
def EtOK (x : Xp) : Prop := ∀ (va : Value) (w : World), XV w All va x → x.bad = 0 → x.tx.length ≤ 100000 →
  Calls Try.prog 92 #[va] w fun e w' => ∃ s : ByteArray, e = .returned (.string s) ∧ bys s = x.tx ∧ s.size ≤ 100000 ∧ Below w.heap.size w w'
set_option maxRecDepth 100000 in
set_option maxHeartbeats 16000000 in
theorem et_head (x : Xp) (ih : ∀ i, i < x.kids.len → EtOK (x.kids.at_ i)) : EtOK x := by
  intro va w hx hbad hlen
  obtain ⟨u, rfl, hl, ao, cap, rfl, hin⟩ := hx
  obtain ⟨W, hW⟩ : ∃ W, W = w.alloc (.cells #[.int .i64 x.op, .string x.nm, .slice ao x.kids.len cap] 64) := ⟨_, rfl⟩
  have hWz : W.heap.size = w.heap.size + 1 := by rw [hW]; simp
  have hWb : Below w.heap.size w W := by rw [hW]; exact (Below.refl _ _).alloc (Nat.le_refl _) _
  have hW0 : W.cell? ⟨w.heap.size, 0, none⟩ = some (.int .i64 x.op) := by rw [hW]; simp
  have hW1 : W.cell? ⟨w.heap.size, 1, none⟩ = some (.string x.nm) := by rw [hW]; simp
  have hW2 : W.cell? ⟨w.heap.size, 2, none⟩ = some (.slice ao x.kids.len cap) := by rw [hW]; simp
  obtain ⟨hc, hkb⟩ := Xp.bad_zero hbad
  obtain ⟨hf, hnm⟩ := code_zero hc
  have hns := bys_length x.nm
  have htx : Hid (x.tx = bef x.op ++ bys x.nm ++ x.kids.tx x.op true ++ beh x.op) := hd rfl
  have hkl := form_kinds hf
  have hlx := congrArg List.length htx.out
  simp only [List.length_append, bys_length] at hlx
  clear hf hnm hc hbad
  have HKB := hd hkb
  clear hkb
  generalize x.tx = TX at *
  by_cases hop : x.op = 1
  · have b1 : (x.op == 1) = true := by simpa using hop
    have b2 : (x.op == 2) = false := by rw [hop]; decide
    have b4 : (x.op == 4) = false := by rw [hop]; decide
    have b5 : (x.op == 5) = false := by rw [hop]; decide
    have b6 : (x.op == 6) = false := by rw [hop]; decide
    have b7 : (x.op == 7) = false := by rw [hop]; decide
    have hk0 : x.kids = .nil := Fo.len_zero (by omega)
    have hn12 : x.nm.size ≤ 100000 := by omega
    have hT : TX = [34] ++ bys x.nm ++ [34] := by rw [htx.out, hop, hk0]; simp [bef, beh, Fo.tx]
    have HOP := hd hop
    clear hop hlx hkl
    go_enter Try.func92, Try.ntmps92
    go_wp2_with fail
    go_ret
    refine ⟨_, rfl, ?_, ?_, al1 _ _⟩
    · rw [bys_app, bys_app, hT]; rfl
    · rw [ByteArray.size_append, ByteArray.size_append]; show 1 + x.nm.size + 1 ≤ _; rw [hT] at hlen; simp [bys_length] at hlen; omega
  have n1 := hop
  clear hop
  by_cases hop : x.op = 2
  · have b1 : (x.op == 1) = false := by rw [hop]; decide
    have b2 : (x.op == 2) = true := by simpa using hop
    have b4 : (x.op == 4) = false := by rw [hop]; decide
    have b5 : (x.op == 5) = false := by rw [hop]; decide
    have b6 : (x.op == 6) = false := by rw [hop]; decide
    have b7 : (x.op == 7) = false := by rw [hop]; decide
    have hk0 : x.kids = .nil := Fo.len_zero (by omega)
    have hn12 : x.nm.size ≤ 100000 := by omega
    have hT : TX = bys x.nm := by rw [htx.out, hop, hk0]; simp [bef, beh, Fo.tx]
    have HOP := hd hop
    clear hop hlx hkl
    go_enter Try.func92, Try.ntmps92
    go_wp2_with fail
    go_ret
    exact ⟨_, rfl, hT.symm, hn12, al1 _ _⟩
  have n2 := hop
  clear hop
  by_cases hop : x.op = 3
  · have b1 : (x.op == 1) = false := by rw [hop]; decide
    have b2 : (x.op == 2) = false := by rw [hop]; decide
    have b4 : (x.op == 4) = false := by rw [hop]; decide
    have b5 : (x.op == 5) = false := by rw [hop]; decide
    have b6 : (x.op == 6) = false := by rw [hop]; decide
    have b7 : (x.op == 7) = false := by rw [hop]; decide
    have hnz : x.nm = ⟨#[]⟩ := by rcases hkl with h | h | h | h; omega; exact h.2.1; exact h.2.1; exact h.2.1
    have hT : TX = [] ++ x.kids.tx x.op true ++ [] := by rw [htx.out, hop, hnz]; simp [bef, beh, bys]
    have hk1 : True := by trivial
    have HOP := hd hop
    have HK1 := hd hk1
    clear hop hkl hnz hk1
    go_enter Try.func92, Try.ntmps92
    go_wp2_with fail
    rw [← hW]
    have HW := hd hW
    clear hW
    obtain ⟨w1, h1⟩ : ∃ w1, w1 = W := ⟨_, rfl⟩
    rw [← h1]
    have e0 : w1.cell? ⟨w.heap.size, 0, none⟩ = some (.int .i64 x.op) := by rw [h1]; exact hW0
    have e1 : w1.cell? ⟨w.heap.size, 1, none⟩ = some (.string x.nm) := by rw [h1]; exact hW1
    have e2 : w1.cell? ⟨w.heap.size, 2, none⟩ = some (.slice ao x.kids.len cap) := by rw [h1]; exact hW2
    have bel1 : Below w.heap.size w w1 := by rw [h1]; exact hWb
    clear hW0 hW1 hW2 hWb
    obtain ⟨L, hL⟩ : ∃ L, L = [] ++ x.kids.tx x.op true := ⟨_, rfl⟩
    have hTL : TX = L ++ [] := by rw [hL]; exact hT
    have hLl := congrArg List.length hTL
    simp only [List.length_append, List.length_nil] at hLl
    have HL := hd hL
    clear hL
    go_loopw [6, 7] (fun a i wr => ∃ (k : Nat) (o : ByteArray), k ≤ x.kids.len ∧ i = .int .i64 k ∧ a = .string o ∧ bys o ++ (x.kids.drp k).tx x.op (k == 0) = L ∧ Below w1.heap.size w1 wr) (fun _ i _ => x.kids.len - (intOf i).toNat)
    case atStart => exact ⟨0, _, Nat.zero_le _, rfl, rfl, by rw [Fo.drp_zero, HL.out]; rfl, Below.refl _ _⟩
    case round =>
      obtain ⟨k, o, hk, rfl, rfl, hm, hb⟩ := hrel
      have hz := hb.size
      have bel : Below w.heap.size w wr := bel1.trans (hb.mono bel1.size)
      have s0 := bkeep hb e0
      have s1 := bkeep hb e1
      have s2 := bkeep hb e2
      by_cases hlt : k < x.kids.len
      · obtain h0 | ⟨ba, oa, rfl, hia⟩ := hin
        · omega
        have kA : ∀ b o v, All b → w.cell? ⟨b, o, none⟩ = some v → All b ∧ wr.cell? ⟨b, o, none⟩ = some v := keep_cell (fun _ _ h => h) (Kp.of_below bel).block
        obtain ⟨ua, a0, a1, a2, hxa⟩ := ((hia.mono kA).at_ k hlt).xv
        have hxa' := hxa
        obtain ⟨_, e, _, aoa', capa', rfl, _⟩ := hxa'
        simp at e; subst e
        have IH := fun w hx hp => ih k hlt (.agg #[.int .i64 (x.kids.at_ k).op, .string (x.kids.at_ k).nm, .slice aoa' (x.kids.at_ k).kids.len capa']) w hx (Fo.bad_at0 HKB.out hlt) hp
        rw [Fo.tx_at x.op hlt] at hm
        have RD := fun w => rIn_any x.op (x.kids.at_ k).op x.nm (x.kids.at_ k).nm (some ⟨ba, oa, none⟩) aoa' x.kids.len (x.kids.at_ k).kids.len cap capa' w
        have hlp : lp x.op (x.kids.at_ k).op = if rnd x.op (x.kids.at_ k).op = true then [40] else [] := rfl
        have hrp : rp x.op (x.kids.at_ k).op = if rnd x.op (x.kids.at_ k).op = true then [41] else [] := rfl
        have HLT := hd hlt
        generalize x.kids.at_ k = xk at *
        by_cases hk0 : k = 0
        · have hkb : (k == 0) = true := by simpa using hk0
          rw [hkb] at hm
          simp only [if_true, List.nil_append] at hm
          have hkp : ¬ (0 : Int) < (k : Int) := by omega
          have HK0 := hd hk0
          clear hk0 hkb
          go_wp2_with fail
          have r0 := fun z : Wd wr => z.cell s0
          have r1 := fun z : Wd wr => z.cell s1
          have r2 := fun z : Wd wr => z.cell s2
          have q0 := fun z : Wd wr => z.cell a0
          have q1 := fun z : Wd wr => z.cell a1
          have q2 := fun z : Wd wr => z.cell a2
          have wne : Nonempty (Wd wr) := Wd.ne _
          have hxz := fun z : Wd wr => hxa.below z.h
          clear s0 s1 s2 a0 a1 a2 hxa
          refine region_quiet_lit (C := fun w' => ∃ z : Wd wr, w' = z.u) (by kernel_rfl) (by kernel_rfl) (Wd.drawn _) ?_
          iterate 6 (go_big_quiet_step (fail))
          go_big_quiet_step (exact calls_wd (RD _))
          refine wpQuiet_nil ?_
          intro _ hw'
          obtain ⟨z, hw''⟩ := hw'
          subst hw''
          have s0 := r0 z
          have s1 := r1 z
          have s2 := r2 z
          have a0 := q0 z
          have a1 := q1 z
          have a2 := q2 z
          have hxa := hxz z
          have bz : Below w1.heap.size w1 z.u := hb.trans (z.h.mono hb.size)
          generalize z.u = wz at *
          clear r0 r1 r2 q0 q1 q2 hxz RD
          cases hR : rnd x.op xk.op with
          | true =>
            have HRR := hd hR
            rw [hR] at hlp hrp
            simp only [if_true] at hlp hrp
            rw [hlp, hrp] at hm
            have hln := congrArg List.length hm
            simp only [List.length_append, List.length_cons, List.length_nil, bys_length] at hln
            clear hR
            go_wp2_with fail
            refine (IH _ hxa (by omega)).mono ?_
            rintro e w5 ⟨t, rfl, ht, ht9, hb5⟩
            have htl := bys_length t
            rw [ht] at htl
            have bz5 : Below w1.heap.size w1 w5 := bz.trans (hb5.mono bz.size)
            go_wp2_with fail
            go_roundw
            case rel => exact ⟨k + 1, _, by omega, by go_num, rfl, by rw [← hm]; simp only [bys_app, ht, List.append_assoc]; rfl, bz5⟩
            case measure => simp [intOf]; omega
          | false =>
            have HRR := hd hR
            rw [hR] at hlp hrp
            simp only [Bool.false_eq_true, if_false] at hlp hrp
            rw [hlp, hrp] at hm
            have hln := congrArg List.length hm
            simp only [List.length_append, List.length_nil, bys_length] at hln
            clear hR
            go_wp2_with fail
            refine (IH _ hxa (by omega)).mono ?_
            rintro e w5 ⟨t, rfl, ht, ht9, hb5⟩
            have htl := bys_length t
            rw [ht] at htl
            have bz5 : Below w1.heap.size w1 w5 := bz.trans (hb5.mono bz.size)
            go_wp2_with fail
            go_roundw
            case rel => exact ⟨k + 1, _, by omega, by go_num, rfl, by rw [← hm]; simp only [bys_app, ht, List.append_assoc, List.nil_append]; rfl, bz5⟩
            case measure => simp [intOf]; omega
        · have hkb : (k == 0) = false := by simpa using hk0
          rw [hkb] at hm
          simp only [Bool.false_eq_true, if_false] at hm
          have hkp : (0 : Int) < (k : Int) := by omega
          rw [show btw x.op = [32] by rw [HOP.out]; rfl] at hm
          have hln0 := congrArg List.length hm
          simp only [List.length_append, List.length_cons, List.length_nil, bys_length] at hln0
          go_wp2_with fail
          have r0 := fun z : Wd wr => z.cell s0
          have r1 := fun z : Wd wr => z.cell s1
          have r2 := fun z : Wd wr => z.cell s2
          have q0 := fun z : Wd wr => z.cell a0
          have q1 := fun z : Wd wr => z.cell a1
          have q2 := fun z : Wd wr => z.cell a2
          have wne : Nonempty (Wd wr) := Wd.ne _
          have hxz := fun z : Wd wr => hxa.below z.h
          clear s0 s1 s2 a0 a1 a2 hxa
          refine region_quiet_lit (C := fun w' => ∃ z : Wd wr, w' = z.u) (by kernel_rfl) (by kernel_rfl) (Wd.drawn _) ?_
          iterate 6 (go_big_quiet_step (fail))
          go_big_quiet_step (exact calls_wd (RD _))
          refine wpQuiet_nil ?_
          intro _ hw'
          obtain ⟨z, hw''⟩ := hw'
          subst hw''
          have s0 := r0 z
          have s1 := r1 z
          have s2 := r2 z
          have a0 := q0 z
          have a1 := q1 z
          have a2 := q2 z
          have hxa := hxz z
          have bz : Below w1.heap.size w1 z.u := hb.trans (z.h.mono hb.size)
          generalize z.u = wz at *
          clear r0 r1 r2 q0 q1 q2 hxz RD
          cases hR : rnd x.op xk.op with
          | true =>
            have HRR := hd hR
            rw [hR] at hlp hrp
            simp only [if_true] at hlp hrp
            rw [hlp, hrp] at hm
            have hln := congrArg List.length hm
            simp only [List.length_append, List.length_cons, List.length_nil, bys_length] at hln
            clear hR
            go_wp2_with fail
            refine (IH _ hxa (by omega)).mono ?_
            rintro e w5 ⟨t, rfl, ht, ht9, hb5⟩
            have htl := bys_length t
            rw [ht] at htl
            have bz5 : Below w1.heap.size w1 w5 := bz.trans (hb5.mono bz.size)
            go_wp2_with fail
            go_roundw
            case rel => exact ⟨k + 1, _, by omega, by go_num, rfl, by rw [← hm]; simp only [bys_app, ht, List.append_assoc]; rfl, bz5⟩
            case measure => simp [intOf]; omega
          | false =>
            have HRR := hd hR
            rw [hR] at hlp hrp
            simp only [Bool.false_eq_true, if_false] at hlp hrp
            rw [hlp, hrp] at hm
            have hln := congrArg List.length hm
            simp only [List.length_append, List.length_nil, bys_length] at hln
            clear hR
            go_wp2_with fail
            refine (IH _ hxa (by omega)).mono ?_
            rintro e w5 ⟨t, rfl, ht, ht9, hb5⟩
            have htl := bys_length t
            rw [ht] at htl
            have bz5 : Below w1.heap.size w1 w5 := bz.trans (hb5.mono bz.size)
            go_wp2_with fail
            go_roundw
            case rel => exact ⟨k + 1, _, by omega, by go_num, rfl, by rw [← hm]; simp only [bys_app, ht, List.append_assoc, List.nil_append]; rfl, bz5⟩
            case measure => simp [intOf]; omega
      · rw [Fo.drp_end (by omega)] at hm
        simp only [Fo.tx, List.append_nil] at hm
        have hol := bys_length o
        rw [hm] at hol
        go_wp2_with fail
        go_ret
        refine ⟨_, rfl, ?_, ?_, bel⟩
        · rw [bys_app, hm, hTL]; rfl
        · rw [ByteArray.size_append]; show _ + 0 ≤ _; omega
  have n3 := hop
  clear hop
  by_cases hop : x.op = 4
  · have b1 : (x.op == 1) = false := by rw [hop]; decide
    have b2 : (x.op == 2) = false := by rw [hop]; decide
    have b4 : (x.op == 4) = true := by simpa using hop
    have b5 : (x.op == 5) = false := by rw [hop]; decide
    have b6 : (x.op == 6) = false := by rw [hop]; decide
    have b7 : (x.op == 7) = false := by rw [hop]; decide
    have hnz : x.nm = ⟨#[]⟩ := by rcases hkl with h | h | h | h; omega; exact h.2.1; exact h.2.1; exact h.2.1
    have hT : TX = [] ++ x.kids.tx x.op true ++ [] := by rw [htx.out, hop, hnz]; simp [bef, beh, bys]
    have hk1 : True := by trivial
    have HOP := hd hop
    have HK1 := hd hk1
    clear hop hkl hnz hk1
    go_enter Try.func92, Try.ntmps92
    go_wp2_with fail
    rw [← hW]
    have HW := hd hW
    clear hW
    obtain ⟨w1, h1⟩ : ∃ w1, w1 = W := ⟨_, rfl⟩
    rw [← h1]
    have e0 : w1.cell? ⟨w.heap.size, 0, none⟩ = some (.int .i64 x.op) := by rw [h1]; exact hW0
    have e1 : w1.cell? ⟨w.heap.size, 1, none⟩ = some (.string x.nm) := by rw [h1]; exact hW1
    have e2 : w1.cell? ⟨w.heap.size, 2, none⟩ = some (.slice ao x.kids.len cap) := by rw [h1]; exact hW2
    have bel1 : Below w.heap.size w w1 := by rw [h1]; exact hWb
    clear hW0 hW1 hW2 hWb
    obtain ⟨L, hL⟩ : ∃ L, L = [] ++ x.kids.tx x.op true := ⟨_, rfl⟩
    have hTL : TX = L ++ [] := by rw [hL]; exact hT
    have hLl := congrArg List.length hTL
    simp only [List.length_append, List.length_nil] at hLl
    have HL := hd hL
    clear hL
    go_loopw [6, 7] (fun a i wr => ∃ (k : Nat) (o : ByteArray), k ≤ x.kids.len ∧ i = .int .i64 k ∧ a = .string o ∧ bys o ++ (x.kids.drp k).tx x.op (k == 0) = L ∧ Below w1.heap.size w1 wr) (fun _ i _ => x.kids.len - (intOf i).toNat)
    case atStart => exact ⟨0, _, Nat.zero_le _, rfl, rfl, by rw [Fo.drp_zero, HL.out]; rfl, Below.refl _ _⟩
    case round =>
      obtain ⟨k, o, hk, rfl, rfl, hm, hb⟩ := hrel
      have hz := hb.size
      have bel : Below w.heap.size w wr := bel1.trans (hb.mono bel1.size)
      have s0 := bkeep hb e0
      have s1 := bkeep hb e1
      have s2 := bkeep hb e2
      by_cases hlt : k < x.kids.len
      · obtain h0 | ⟨ba, oa, rfl, hia⟩ := hin
        · omega
        have kA : ∀ b o v, All b → w.cell? ⟨b, o, none⟩ = some v → All b ∧ wr.cell? ⟨b, o, none⟩ = some v := keep_cell (fun _ _ h => h) (Kp.of_below bel).block
        obtain ⟨ua, a0, a1, a2, hxa⟩ := ((hia.mono kA).at_ k hlt).xv
        have hxa' := hxa
        obtain ⟨_, e, _, aoa', capa', rfl, _⟩ := hxa'
        simp at e; subst e
        have IH := fun w hx hp => ih k hlt (.agg #[.int .i64 (x.kids.at_ k).op, .string (x.kids.at_ k).nm, .slice aoa' (x.kids.at_ k).kids.len capa']) w hx (Fo.bad_at0 HKB.out hlt) hp
        rw [Fo.tx_at x.op hlt] at hm
        have RD := fun w => rIn_any x.op (x.kids.at_ k).op x.nm (x.kids.at_ k).nm (some ⟨ba, oa, none⟩) aoa' x.kids.len (x.kids.at_ k).kids.len cap capa' w
        have hlp : lp x.op (x.kids.at_ k).op = if rnd x.op (x.kids.at_ k).op = true then [40] else [] := rfl
        have hrp : rp x.op (x.kids.at_ k).op = if rnd x.op (x.kids.at_ k).op = true then [41] else [] := rfl
        have HLT := hd hlt
        generalize x.kids.at_ k = xk at *
        by_cases hk0 : k = 0
        · have hkb : (k == 0) = true := by simpa using hk0
          rw [hkb] at hm
          simp only [if_true, List.nil_append] at hm
          have hkp : ¬ (0 : Int) < (k : Int) := by omega
          have HK0 := hd hk0
          clear hk0 hkb
          go_wp2_with fail
          have r0 := fun z : Wd wr => z.cell s0
          have r1 := fun z : Wd wr => z.cell s1
          have r2 := fun z : Wd wr => z.cell s2
          have q0 := fun z : Wd wr => z.cell a0
          have q1 := fun z : Wd wr => z.cell a1
          have q2 := fun z : Wd wr => z.cell a2
          have wne : Nonempty (Wd wr) := Wd.ne _
          have hxz := fun z : Wd wr => hxa.below z.h
          clear s0 s1 s2 a0 a1 a2 hxa
          refine region_quiet_lit (C := fun w' => ∃ z : Wd wr, w' = z.u) (by kernel_rfl) (by kernel_rfl) (Wd.drawn _) ?_
          iterate 6 (go_big_quiet_step (fail))
          go_big_quiet_step (exact calls_wd (RD _))
          refine wpQuiet_nil ?_
          intro _ hw'
          obtain ⟨z, hw''⟩ := hw'
          subst hw''
          have s0 := r0 z
          have s1 := r1 z
          have s2 := r2 z
          have a0 := q0 z
          have a1 := q1 z
          have a2 := q2 z
          have hxa := hxz z
          have bz : Below w1.heap.size w1 z.u := hb.trans (z.h.mono hb.size)
          generalize z.u = wz at *
          clear r0 r1 r2 q0 q1 q2 hxz RD
          cases hR : rnd x.op xk.op with
          | true =>
            have HRR := hd hR
            rw [hR] at hlp hrp
            simp only [if_true] at hlp hrp
            rw [hlp, hrp] at hm
            have hln := congrArg List.length hm
            simp only [List.length_append, List.length_cons, List.length_nil, bys_length] at hln
            clear hR
            go_wp2_with fail
            refine (IH _ hxa (by omega)).mono ?_
            rintro e w5 ⟨t, rfl, ht, ht9, hb5⟩
            have htl := bys_length t
            rw [ht] at htl
            have bz5 : Below w1.heap.size w1 w5 := bz.trans (hb5.mono bz.size)
            go_wp2_with fail
            go_roundw
            case rel => exact ⟨k + 1, _, by omega, by go_num, rfl, by rw [← hm]; simp only [bys_app, ht, List.append_assoc]; rfl, bz5⟩
            case measure => simp [intOf]; omega
          | false =>
            have HRR := hd hR
            rw [hR] at hlp hrp
            simp only [Bool.false_eq_true, if_false] at hlp hrp
            rw [hlp, hrp] at hm
            have hln := congrArg List.length hm
            simp only [List.length_append, List.length_nil, bys_length] at hln
            clear hR
            go_wp2_with fail
            refine (IH _ hxa (by omega)).mono ?_
            rintro e w5 ⟨t, rfl, ht, ht9, hb5⟩
            have htl := bys_length t
            rw [ht] at htl
            have bz5 : Below w1.heap.size w1 w5 := bz.trans (hb5.mono bz.size)
            go_wp2_with fail
            go_roundw
            case rel => exact ⟨k + 1, _, by omega, by go_num, rfl, by rw [← hm]; simp only [bys_app, ht, List.append_assoc, List.nil_append]; rfl, bz5⟩
            case measure => simp [intOf]; omega
        · have hkb : (k == 0) = false := by simpa using hk0
          rw [hkb] at hm
          simp only [Bool.false_eq_true, if_false] at hm
          have hkp : (0 : Int) < (k : Int) := by omega
          rw [show btw x.op = [32, 124, 32] by rw [HOP.out]; rfl] at hm
          have hln0 := congrArg List.length hm
          simp only [List.length_append, List.length_cons, List.length_nil, bys_length] at hln0
          go_wp2_with fail
          have r0 := fun z : Wd wr => z.cell s0
          have r1 := fun z : Wd wr => z.cell s1
          have r2 := fun z : Wd wr => z.cell s2
          have q0 := fun z : Wd wr => z.cell a0
          have q1 := fun z : Wd wr => z.cell a1
          have q2 := fun z : Wd wr => z.cell a2
          have wne : Nonempty (Wd wr) := Wd.ne _
          have hxz := fun z : Wd wr => hxa.below z.h
          clear s0 s1 s2 a0 a1 a2 hxa
          refine region_quiet_lit (C := fun w' => ∃ z : Wd wr, w' = z.u) (by kernel_rfl) (by kernel_rfl) (Wd.drawn _) ?_
          iterate 6 (go_big_quiet_step (fail))
          go_big_quiet_step (exact calls_wd (RD _))
          refine wpQuiet_nil ?_
          intro _ hw'
          obtain ⟨z, hw''⟩ := hw'
          subst hw''
          have s0 := r0 z
          have s1 := r1 z
          have s2 := r2 z
          have a0 := q0 z
          have a1 := q1 z
          have a2 := q2 z
          have hxa := hxz z
          have bz : Below w1.heap.size w1 z.u := hb.trans (z.h.mono hb.size)
          generalize z.u = wz at *
          clear r0 r1 r2 q0 q1 q2 hxz RD
          cases hR : rnd x.op xk.op with
          | true =>
            have HRR := hd hR
            rw [hR] at hlp hrp
            simp only [if_true] at hlp hrp
            rw [hlp, hrp] at hm
            have hln := congrArg List.length hm
            simp only [List.length_append, List.length_cons, List.length_nil, bys_length] at hln
            clear hR
            go_wp2_with fail
            refine (IH _ hxa (by omega)).mono ?_
            rintro e w5 ⟨t, rfl, ht, ht9, hb5⟩
            have htl := bys_length t
            rw [ht] at htl
            have bz5 : Below w1.heap.size w1 w5 := bz.trans (hb5.mono bz.size)
            go_wp2_with fail
            go_roundw
            case rel => exact ⟨k + 1, _, by omega, by go_num, rfl, by rw [← hm]; simp only [bys_app, ht, List.append_assoc]; rfl, bz5⟩
            case measure => simp [intOf]; omega
          | false =>
            have HRR := hd hR
            rw [hR] at hlp hrp
            simp only [Bool.false_eq_true, if_false] at hlp hrp
            rw [hlp, hrp] at hm
            have hln := congrArg List.length hm
            simp only [List.length_append, List.length_nil, bys_length] at hln
            clear hR
            go_wp2_with fail
            refine (IH _ hxa (by omega)).mono ?_
            rintro e w5 ⟨t, rfl, ht, ht9, hb5⟩
            have htl := bys_length t
            rw [ht] at htl
            have bz5 : Below w1.heap.size w1 w5 := bz.trans (hb5.mono bz.size)
            go_wp2_with fail
            go_roundw
            case rel => exact ⟨k + 1, _, by omega, by go_num, rfl, by rw [← hm]; simp only [bys_app, ht, List.append_assoc, List.nil_append]; rfl, bz5⟩
            case measure => simp [intOf]; omega
      · rw [Fo.drp_end (by omega)] at hm
        simp only [Fo.tx, List.append_nil] at hm
        have hol := bys_length o
        rw [hm] at hol
        go_wp2_with fail
        go_ret
        refine ⟨_, rfl, ?_, ?_, bel⟩
        · rw [bys_app, hm, hTL]; rfl
        · rw [ByteArray.size_append]; show _ + 0 ≤ _; omega
  have n4 := hop
  clear hop
  by_cases hop : x.op = 5
  · have b1 : (x.op == 1) = false := by rw [hop]; decide
    have b2 : (x.op == 2) = false := by rw [hop]; decide
    have b4 : (x.op == 4) = false := by rw [hop]; decide
    have b5 : (x.op == 5) = true := by simpa using hop
    have b6 : (x.op == 6) = false := by rw [hop]; decide
    have b7 : (x.op == 7) = false := by rw [hop]; decide
    have hnz : x.nm = ⟨#[]⟩ := by rcases hkl with h | h | h | h; omega; exact h.2.1; exact h.2.1; exact h.2.1
    have hT : TX = [91] ++ x.kids.tx x.op true ++ [93] := by rw [htx.out, hop, hnz]; simp [bef, beh, bys]
    have hk1 : x.kids.len = 1 := by omega
    have HOP := hd hop
    have HK1 := hd hk1
    clear hop hkl hnz hk1
    go_enter Try.func92, Try.ntmps92
    go_wp2_with fail
    rw [← hW]
    have HW := hd hW
    clear hW
    obtain ⟨w1, h1⟩ : ∃ w1, w1 = W := ⟨_, rfl⟩
    rw [← h1]
    have e0 : w1.cell? ⟨w.heap.size, 0, none⟩ = some (.int .i64 x.op) := by rw [h1]; exact hW0
    have e1 : w1.cell? ⟨w.heap.size, 1, none⟩ = some (.string x.nm) := by rw [h1]; exact hW1
    have e2 : w1.cell? ⟨w.heap.size, 2, none⟩ = some (.slice ao x.kids.len cap) := by rw [h1]; exact hW2
    have bel1 : Below w.heap.size w w1 := by rw [h1]; exact hWb
    clear hW0 hW1 hW2 hWb
    obtain ⟨L, hL⟩ : ∃ L, L = [91] ++ x.kids.tx x.op true := ⟨_, rfl⟩
    have hTL : TX = L ++ [93] := by rw [hL]; exact hT
    have hLl := congrArg List.length hTL
    simp only [List.length_append, List.length_cons, List.length_nil] at hLl
    have HL := hd hL
    clear hL
    go_loopw [6, 7] (fun a i wr => ∃ (k : Nat) (o : ByteArray), k ≤ x.kids.len ∧ i = .int .i64 k ∧ a = .string o ∧ bys o ++ (x.kids.drp k).tx x.op (k == 0) = L ∧ Below w1.heap.size w1 wr) (fun _ i _ => x.kids.len - (intOf i).toNat)
    case atStart => exact ⟨0, _, Nat.zero_le _, rfl, rfl, by rw [Fo.drp_zero, HL.out]; rfl, Below.refl _ _⟩
    case round =>
      obtain ⟨k, o, hk, rfl, rfl, hm, hb⟩ := hrel
      have hz := hb.size
      have bel : Below w.heap.size w wr := bel1.trans (hb.mono bel1.size)
      have s0 := bkeep hb e0
      have s1 := bkeep hb e1
      have s2 := bkeep hb e2
      by_cases hlt : k < x.kids.len
      · obtain h0 | ⟨ba, oa, rfl, hia⟩ := hin
        · omega
        have kA : ∀ b o v, All b → w.cell? ⟨b, o, none⟩ = some v → All b ∧ wr.cell? ⟨b, o, none⟩ = some v := keep_cell (fun _ _ h => h) (Kp.of_below bel).block
        obtain ⟨ua, a0, a1, a2, hxa⟩ := ((hia.mono kA).at_ k hlt).xv
        have hxa' := hxa
        obtain ⟨_, e, _, aoa', capa', rfl, _⟩ := hxa'
        simp at e; subst e
        have IH := fun w hx hp => ih k hlt (.agg #[.int .i64 (x.kids.at_ k).op, .string (x.kids.at_ k).nm, .slice aoa' (x.kids.at_ k).kids.len capa']) w hx (Fo.bad_at0 HKB.out hlt) hp
        rw [Fo.tx_at x.op hlt] at hm
        have RD := fun w => rIn_any x.op (x.kids.at_ k).op x.nm (x.kids.at_ k).nm (some ⟨ba, oa, none⟩) aoa' x.kids.len (x.kids.at_ k).kids.len cap capa' w
        have hlp : lp x.op (x.kids.at_ k).op = if rnd x.op (x.kids.at_ k).op = true then [40] else [] := rfl
        have hrp : rp x.op (x.kids.at_ k).op = if rnd x.op (x.kids.at_ k).op = true then [41] else [] := rfl
        have HLT := hd hlt
        generalize x.kids.at_ k = xk at *
        by_cases hk0 : k = 0
        · have hkb : (k == 0) = true := by simpa using hk0
          rw [hkb] at hm
          simp only [if_true, List.nil_append] at hm
          have hkp : ¬ (0 : Int) < (k : Int) := by omega
          have HK0 := hd hk0
          clear hk0 hkb
          go_wp2_with fail
          have r0 := fun z : Wd wr => z.cell s0
          have r1 := fun z : Wd wr => z.cell s1
          have r2 := fun z : Wd wr => z.cell s2
          have q0 := fun z : Wd wr => z.cell a0
          have q1 := fun z : Wd wr => z.cell a1
          have q2 := fun z : Wd wr => z.cell a2
          have wne : Nonempty (Wd wr) := Wd.ne _
          have hxz := fun z : Wd wr => hxa.below z.h
          clear s0 s1 s2 a0 a1 a2 hxa
          refine region_quiet_lit (C := fun w' => ∃ z : Wd wr, w' = z.u) (by kernel_rfl) (by kernel_rfl) (Wd.drawn _) ?_
          iterate 6 (go_big_quiet_step (fail))
          go_big_quiet_step (exact calls_wd (RD _))
          refine wpQuiet_nil ?_
          intro _ hw'
          obtain ⟨z, hw''⟩ := hw'
          subst hw''
          have s0 := r0 z
          have s1 := r1 z
          have s2 := r2 z
          have a0 := q0 z
          have a1 := q1 z
          have a2 := q2 z
          have hxa := hxz z
          have bz : Below w1.heap.size w1 z.u := hb.trans (z.h.mono hb.size)
          generalize z.u = wz at *
          clear r0 r1 r2 q0 q1 q2 hxz RD
          cases hR : rnd x.op xk.op with
          | true =>
            have HRR := hd hR
            rw [hR] at hlp hrp
            simp only [if_true] at hlp hrp
            rw [hlp, hrp] at hm
            have hln := congrArg List.length hm
            simp only [List.length_append, List.length_cons, List.length_nil, bys_length] at hln
            clear hR
            go_wp2_with fail
            refine (IH _ hxa (by omega)).mono ?_
            rintro e w5 ⟨t, rfl, ht, ht9, hb5⟩
            have htl := bys_length t
            rw [ht] at htl
            have bz5 : Below w1.heap.size w1 w5 := bz.trans (hb5.mono bz.size)
            go_wp2_with fail
            go_roundw
            case rel => exact ⟨k + 1, _, by omega, by go_num, rfl, by rw [← hm]; simp only [bys_app, ht, List.append_assoc]; rfl, bz5⟩
            case measure => simp [intOf]; omega
          | false =>
            have HRR := hd hR
            rw [hR] at hlp hrp
            simp only [Bool.false_eq_true, if_false] at hlp hrp
            rw [hlp, hrp] at hm
            have hln := congrArg List.length hm
            simp only [List.length_append, List.length_nil, bys_length] at hln
            clear hR
            go_wp2_with fail
            refine (IH _ hxa (by omega)).mono ?_
            rintro e w5 ⟨t, rfl, ht, ht9, hb5⟩
            have htl := bys_length t
            rw [ht] at htl
            have bz5 : Below w1.heap.size w1 w5 := bz.trans (hb5.mono bz.size)
            go_wp2_with fail
            go_roundw
            case rel => exact ⟨k + 1, _, by omega, by go_num, rfl, by rw [← hm]; simp only [bys_app, ht, List.append_assoc, List.nil_append]; rfl, bz5⟩
            case measure => simp [intOf]; omega
        · have hkb : (k == 0) = false := by simpa using hk0
          rw [hkb] at hm
          simp only [Bool.false_eq_true, if_false] at hm
          have hkp : (0 : Int) < (k : Int) := by omega
          have := HK1.out
          have := HLT.out
          omega
      · rw [Fo.drp_end (by omega)] at hm
        simp only [Fo.tx, List.append_nil] at hm
        have hol := bys_length o
        rw [hm] at hol
        go_wp2_with fail
        go_ret
        refine ⟨_, rfl, ?_, ?_, bel⟩
        · rw [bys_app, hm, hTL]; rfl
        · rw [ByteArray.size_append]; show _ + 1 ≤ _; omega
  have n5 := hop
  clear hop
  by_cases hop : x.op = 6
  · have b1 : (x.op == 1) = false := by rw [hop]; decide
    have b2 : (x.op == 2) = false := by rw [hop]; decide
    have b4 : (x.op == 4) = false := by rw [hop]; decide
    have b5 : (x.op == 5) = false := by rw [hop]; decide
    have b6 : (x.op == 6) = true := by simpa using hop
    have b7 : (x.op == 7) = false := by rw [hop]; decide
    have hnz : x.nm = ⟨#[]⟩ := by rcases hkl with h | h | h | h; omega; exact h.2.1; exact h.2.1; exact h.2.1
    have hT : TX = [123] ++ x.kids.tx x.op true ++ [125] := by rw [htx.out, hop, hnz]; simp [bef, beh, bys]
    have hk1 : x.kids.len = 1 := by omega
    have HOP := hd hop
    have HK1 := hd hk1
    clear hop hkl hnz hk1
    go_enter Try.func92, Try.ntmps92
    go_wp2_with fail
    rw [← hW]
    have HW := hd hW
    clear hW
    obtain ⟨w1, h1⟩ : ∃ w1, w1 = W := ⟨_, rfl⟩
    rw [← h1]
    have e0 : w1.cell? ⟨w.heap.size, 0, none⟩ = some (.int .i64 x.op) := by rw [h1]; exact hW0
    have e1 : w1.cell? ⟨w.heap.size, 1, none⟩ = some (.string x.nm) := by rw [h1]; exact hW1
    have e2 : w1.cell? ⟨w.heap.size, 2, none⟩ = some (.slice ao x.kids.len cap) := by rw [h1]; exact hW2
    have bel1 : Below w.heap.size w w1 := by rw [h1]; exact hWb
    clear hW0 hW1 hW2 hWb
    obtain ⟨L, hL⟩ : ∃ L, L = [123] ++ x.kids.tx x.op true := ⟨_, rfl⟩
    have hTL : TX = L ++ [125] := by rw [hL]; exact hT
    have hLl := congrArg List.length hTL
    simp only [List.length_append, List.length_cons, List.length_nil] at hLl
    have HL := hd hL
    clear hL
    go_loopw [6, 7] (fun a i wr => ∃ (k : Nat) (o : ByteArray), k ≤ x.kids.len ∧ i = .int .i64 k ∧ a = .string o ∧ bys o ++ (x.kids.drp k).tx x.op (k == 0) = L ∧ Below w1.heap.size w1 wr) (fun _ i _ => x.kids.len - (intOf i).toNat)
    case atStart => exact ⟨0, _, Nat.zero_le _, rfl, rfl, by rw [Fo.drp_zero, HL.out]; rfl, Below.refl _ _⟩
    case round =>
      obtain ⟨k, o, hk, rfl, rfl, hm, hb⟩ := hrel
      have hz := hb.size
      have bel : Below w.heap.size w wr := bel1.trans (hb.mono bel1.size)
      have s0 := bkeep hb e0
      have s1 := bkeep hb e1
      have s2 := bkeep hb e2
      by_cases hlt : k < x.kids.len
      · obtain h0 | ⟨ba, oa, rfl, hia⟩ := hin
        · omega
        have kA : ∀ b o v, All b → w.cell? ⟨b, o, none⟩ = some v → All b ∧ wr.cell? ⟨b, o, none⟩ = some v := keep_cell (fun _ _ h => h) (Kp.of_below bel).block
        obtain ⟨ua, a0, a1, a2, hxa⟩ := ((hia.mono kA).at_ k hlt).xv
        have hxa' := hxa
        obtain ⟨_, e, _, aoa', capa', rfl, _⟩ := hxa'
        simp at e; subst e
        have IH := fun w hx hp => ih k hlt (.agg #[.int .i64 (x.kids.at_ k).op, .string (x.kids.at_ k).nm, .slice aoa' (x.kids.at_ k).kids.len capa']) w hx (Fo.bad_at0 HKB.out hlt) hp
        rw [Fo.tx_at x.op hlt] at hm
        have RD := fun w => rIn_any x.op (x.kids.at_ k).op x.nm (x.kids.at_ k).nm (some ⟨ba, oa, none⟩) aoa' x.kids.len (x.kids.at_ k).kids.len cap capa' w
        have hlp : lp x.op (x.kids.at_ k).op = if rnd x.op (x.kids.at_ k).op = true then [40] else [] := rfl
        have hrp : rp x.op (x.kids.at_ k).op = if rnd x.op (x.kids.at_ k).op = true then [41] else [] := rfl
        have HLT := hd hlt
        generalize x.kids.at_ k = xk at *
        by_cases hk0 : k = 0
        · have hkb : (k == 0) = true := by simpa using hk0
          rw [hkb] at hm
          simp only [if_true, List.nil_append] at hm
          have hkp : ¬ (0 : Int) < (k : Int) := by omega
          have HK0 := hd hk0
          clear hk0 hkb
          go_wp2_with fail
          have r0 := fun z : Wd wr => z.cell s0
          have r1 := fun z : Wd wr => z.cell s1
          have r2 := fun z : Wd wr => z.cell s2
          have q0 := fun z : Wd wr => z.cell a0
          have q1 := fun z : Wd wr => z.cell a1
          have q2 := fun z : Wd wr => z.cell a2
          have wne : Nonempty (Wd wr) := Wd.ne _
          have hxz := fun z : Wd wr => hxa.below z.h
          clear s0 s1 s2 a0 a1 a2 hxa
          refine region_quiet_lit (C := fun w' => ∃ z : Wd wr, w' = z.u) (by kernel_rfl) (by kernel_rfl) (Wd.drawn _) ?_
          iterate 6 (go_big_quiet_step (fail))
          go_big_quiet_step (exact calls_wd (RD _))
          refine wpQuiet_nil ?_
          intro _ hw'
          obtain ⟨z, hw''⟩ := hw'
          subst hw''
          have s0 := r0 z
          have s1 := r1 z
          have s2 := r2 z
          have a0 := q0 z
          have a1 := q1 z
          have a2 := q2 z
          have hxa := hxz z
          have bz : Below w1.heap.size w1 z.u := hb.trans (z.h.mono hb.size)
          generalize z.u = wz at *
          clear r0 r1 r2 q0 q1 q2 hxz RD
          cases hR : rnd x.op xk.op with
          | true =>
            have HRR := hd hR
            rw [hR] at hlp hrp
            simp only [if_true] at hlp hrp
            rw [hlp, hrp] at hm
            have hln := congrArg List.length hm
            simp only [List.length_append, List.length_cons, List.length_nil, bys_length] at hln
            clear hR
            go_wp2_with fail
            refine (IH _ hxa (by omega)).mono ?_
            rintro e w5 ⟨t, rfl, ht, ht9, hb5⟩
            have htl := bys_length t
            rw [ht] at htl
            have bz5 : Below w1.heap.size w1 w5 := bz.trans (hb5.mono bz.size)
            go_wp2_with fail
            go_roundw
            case rel => exact ⟨k + 1, _, by omega, by go_num, rfl, by rw [← hm]; simp only [bys_app, ht, List.append_assoc]; rfl, bz5⟩
            case measure => simp [intOf]; omega
          | false =>
            have HRR := hd hR
            rw [hR] at hlp hrp
            simp only [Bool.false_eq_true, if_false] at hlp hrp
            rw [hlp, hrp] at hm
            have hln := congrArg List.length hm
            simp only [List.length_append, List.length_nil, bys_length] at hln
            clear hR
            go_wp2_with fail
            refine (IH _ hxa (by omega)).mono ?_
            rintro e w5 ⟨t, rfl, ht, ht9, hb5⟩
            have htl := bys_length t
            rw [ht] at htl
            have bz5 : Below w1.heap.size w1 w5 := bz.trans (hb5.mono bz.size)
            go_wp2_with fail
            go_roundw
            case rel => exact ⟨k + 1, _, by omega, by go_num, rfl, by rw [← hm]; simp only [bys_app, ht, List.append_assoc, List.nil_append]; rfl, bz5⟩
            case measure => simp [intOf]; omega
        · have hkb : (k == 0) = false := by simpa using hk0
          rw [hkb] at hm
          simp only [Bool.false_eq_true, if_false] at hm
          have hkp : (0 : Int) < (k : Int) := by omega
          have := HK1.out
          have := HLT.out
          omega
      · rw [Fo.drp_end (by omega)] at hm
        simp only [Fo.tx, List.append_nil] at hm
        have hol := bys_length o
        rw [hm] at hol
        go_wp2_with fail
        go_ret
        refine ⟨_, rfl, ?_, ?_, bel⟩
        · rw [bys_app, hm, hTL]; rfl
        · rw [ByteArray.size_append]; show _ + 1 ≤ _; omega
  have n6 := hop
  clear hop
  by_cases hop : x.op = 7
  · have b1 : (x.op == 1) = false := by rw [hop]; decide
    have b2 : (x.op == 2) = false := by rw [hop]; decide
    have b4 : (x.op == 4) = false := by rw [hop]; decide
    have b5 : (x.op == 5) = false := by rw [hop]; decide
    have b6 : (x.op == 6) = false := by rw [hop]; decide
    have b7 : (x.op == 7) = true := by simpa using hop
    have hnz : x.nm = ⟨#[]⟩ := by rcases hkl with h | h | h | h; omega; exact h.2.1; exact h.2.1; exact h.2.1
    have hT : TX = [60] ++ x.kids.tx x.op true ++ [62] := by rw [htx.out, hop, hnz]; simp [bef, beh, bys]
    have hk1 : x.kids.len = 1 := by omega
    have HOP := hd hop
    have HK1 := hd hk1
    clear hop hkl hnz hk1
    go_enter Try.func92, Try.ntmps92
    go_wp2_with fail
    rw [← hW]
    have HW := hd hW
    clear hW
    obtain ⟨w1, h1⟩ : ∃ w1, w1 = W := ⟨_, rfl⟩
    rw [← h1]
    have e0 : w1.cell? ⟨w.heap.size, 0, none⟩ = some (.int .i64 x.op) := by rw [h1]; exact hW0
    have e1 : w1.cell? ⟨w.heap.size, 1, none⟩ = some (.string x.nm) := by rw [h1]; exact hW1
    have e2 : w1.cell? ⟨w.heap.size, 2, none⟩ = some (.slice ao x.kids.len cap) := by rw [h1]; exact hW2
    have bel1 : Below w.heap.size w w1 := by rw [h1]; exact hWb
    clear hW0 hW1 hW2 hWb
    obtain ⟨L, hL⟩ : ∃ L, L = [60] ++ x.kids.tx x.op true := ⟨_, rfl⟩
    have hTL : TX = L ++ [62] := by rw [hL]; exact hT
    have hLl := congrArg List.length hTL
    simp only [List.length_append, List.length_cons, List.length_nil] at hLl
    have HL := hd hL
    clear hL
    go_loopw [6, 7] (fun a i wr => ∃ (k : Nat) (o : ByteArray), k ≤ x.kids.len ∧ i = .int .i64 k ∧ a = .string o ∧ bys o ++ (x.kids.drp k).tx x.op (k == 0) = L ∧ Below w1.heap.size w1 wr) (fun _ i _ => x.kids.len - (intOf i).toNat)
    case atStart => exact ⟨0, _, Nat.zero_le _, rfl, rfl, by rw [Fo.drp_zero, HL.out]; rfl, Below.refl _ _⟩
    case round =>
      obtain ⟨k, o, hk, rfl, rfl, hm, hb⟩ := hrel
      have hz := hb.size
      have bel : Below w.heap.size w wr := bel1.trans (hb.mono bel1.size)
      have s0 := bkeep hb e0
      have s1 := bkeep hb e1
      have s2 := bkeep hb e2
      by_cases hlt : k < x.kids.len
      · obtain h0 | ⟨ba, oa, rfl, hia⟩ := hin
        · omega
        have kA : ∀ b o v, All b → w.cell? ⟨b, o, none⟩ = some v → All b ∧ wr.cell? ⟨b, o, none⟩ = some v := keep_cell (fun _ _ h => h) (Kp.of_below bel).block
        obtain ⟨ua, a0, a1, a2, hxa⟩ := ((hia.mono kA).at_ k hlt).xv
        have hxa' := hxa
        obtain ⟨_, e, _, aoa', capa', rfl, _⟩ := hxa'
        simp at e; subst e
        have IH := fun w hx hp => ih k hlt (.agg #[.int .i64 (x.kids.at_ k).op, .string (x.kids.at_ k).nm, .slice aoa' (x.kids.at_ k).kids.len capa']) w hx (Fo.bad_at0 HKB.out hlt) hp
        rw [Fo.tx_at x.op hlt] at hm
        have RD := fun w => rIn_any x.op (x.kids.at_ k).op x.nm (x.kids.at_ k).nm (some ⟨ba, oa, none⟩) aoa' x.kids.len (x.kids.at_ k).kids.len cap capa' w
        have hlp : lp x.op (x.kids.at_ k).op = if rnd x.op (x.kids.at_ k).op = true then [40] else [] := rfl
        have hrp : rp x.op (x.kids.at_ k).op = if rnd x.op (x.kids.at_ k).op = true then [41] else [] := rfl
        have HLT := hd hlt
        generalize x.kids.at_ k = xk at *
        by_cases hk0 : k = 0
        · have hkb : (k == 0) = true := by simpa using hk0
          rw [hkb] at hm
          simp only [if_true, List.nil_append] at hm
          have hkp : ¬ (0 : Int) < (k : Int) := by omega
          have HK0 := hd hk0
          clear hk0 hkb
          go_wp2_with fail
          have r0 := fun z : Wd wr => z.cell s0
          have r1 := fun z : Wd wr => z.cell s1
          have r2 := fun z : Wd wr => z.cell s2
          have q0 := fun z : Wd wr => z.cell a0
          have q1 := fun z : Wd wr => z.cell a1
          have q2 := fun z : Wd wr => z.cell a2
          have wne : Nonempty (Wd wr) := Wd.ne _
          have hxz := fun z : Wd wr => hxa.below z.h
          clear s0 s1 s2 a0 a1 a2 hxa
          refine region_quiet_lit (C := fun w' => ∃ z : Wd wr, w' = z.u) (by kernel_rfl) (by kernel_rfl) (Wd.drawn _) ?_
          iterate 6 (go_big_quiet_step (fail))
          go_big_quiet_step (exact calls_wd (RD _))
          refine wpQuiet_nil ?_
          intro _ hw'
          obtain ⟨z, hw''⟩ := hw'
          subst hw''
          have s0 := r0 z
          have s1 := r1 z
          have s2 := r2 z
          have a0 := q0 z
          have a1 := q1 z
          have a2 := q2 z
          have hxa := hxz z
          have bz : Below w1.heap.size w1 z.u := hb.trans (z.h.mono hb.size)
          generalize z.u = wz at *
          clear r0 r1 r2 q0 q1 q2 hxz RD
          cases hR : rnd x.op xk.op with
          | true =>
            have HRR := hd hR
            rw [hR] at hlp hrp
            simp only [if_true] at hlp hrp
            rw [hlp, hrp] at hm
            have hln := congrArg List.length hm
            simp only [List.length_append, List.length_cons, List.length_nil, bys_length] at hln
            clear hR
            go_wp2_with fail
            refine (IH _ hxa (by omega)).mono ?_
            rintro e w5 ⟨t, rfl, ht, ht9, hb5⟩
            have htl := bys_length t
            rw [ht] at htl
            have bz5 : Below w1.heap.size w1 w5 := bz.trans (hb5.mono bz.size)
            go_wp2_with fail
            go_roundw
            case rel => exact ⟨k + 1, _, by omega, by go_num, rfl, by rw [← hm]; simp only [bys_app, ht, List.append_assoc]; rfl, bz5⟩
            case measure => simp [intOf]; omega
          | false =>
            have HRR := hd hR
            rw [hR] at hlp hrp
            simp only [Bool.false_eq_true, if_false] at hlp hrp
            rw [hlp, hrp] at hm
            have hln := congrArg List.length hm
            simp only [List.length_append, List.length_nil, bys_length] at hln
            clear hR
            go_wp2_with fail
            refine (IH _ hxa (by omega)).mono ?_
            rintro e w5 ⟨t, rfl, ht, ht9, hb5⟩
            have htl := bys_length t
            rw [ht] at htl
            have bz5 : Below w1.heap.size w1 w5 := bz.trans (hb5.mono bz.size)
            go_wp2_with fail
            go_roundw
            case rel => exact ⟨k + 1, _, by omega, by go_num, rfl, by rw [← hm]; simp only [bys_app, ht, List.append_assoc, List.nil_append]; rfl, bz5⟩
            case measure => simp [intOf]; omega
        · have hkb : (k == 0) = false := by simpa using hk0
          rw [hkb] at hm
          simp only [Bool.false_eq_true, if_false] at hm
          have hkp : (0 : Int) < (k : Int) := by omega
          have := HK1.out
          have := HLT.out
          omega
      · rw [Fo.drp_end (by omega)] at hm
        simp only [Fo.tx, List.append_nil] at hm
        have hol := bys_length o
        rw [hm] at hol
        go_wp2_with fail
        go_ret
        refine ⟨_, rfl, ?_, ?_, bel⟩
        · rw [bys_app, hm, hTL]; rfl
        · rw [ByteArray.size_append]; show _ + 1 ≤ _; omega
  have n7 := hop
  clear hop
  omega
theorem et_all : ∀ (f : Fo) (i : Nat), i < f.len → EtOK (f.at_ i)
  | .nil, _, h => absurd h (Nat.not_lt_zero _)
  | .cons op nm kids _, 0, _ => et_head ⟨op, nm, kids⟩ (et_all kids)
  | .cons _ _ _ rest, i + 1, h => et_all rest i (by simpa [Fo.len] using h)
theorem et_any (x : Xp) : EtOK x := et_head x (et_all x.kids)
end Go.Proofs.Ytcanphhmflbdmac

/- A builder of strings that the call has made: what WriteString and String do, at this dump. -/
namespace Go.Proofs.Ytcanphhmflbdmac
open Go.RowKit

theorem sizeBld : (Try.prog.info? 124).map (·.size) = some 2 := by kernel_rfl
theorem liesBld : liesAt Try.prog Try.prog.depth 124 (2 / Try.prog.cellsOf 124) 0 124 1 = true := by kernel_rfl
theorem infoByt : (Try.prog.info? 5).map (fun i => (i.zero, i.size, i.bytes)) = some (some (.int .u8 0), 1, 1) := by kernel_rfl
set_option maxHeartbeats 1000000 in
set_option maxRecDepth 100000 in
theorem bcheck_used (b : Nat) (w : World) (h0 : w.cell? ⟨b, 0, none⟩ = some (.pointer (some ⟨b, 0, none⟩))) :
    Calls Try.prog 101 #[.pointer (some ⟨b, 0, none⟩)] w fun e w' => e = .returned (.tuple #[]) ∧ w' = w := by
  obtain ⟨j, hj, _⟩ := Option.map_eq_some_iff.1 sizeBld
  go_enter Try.func101, Try.ntmps101
  go_wp2
  rw [Lib.run_neq_ptr_same w _ Try.underlying121 hj]
  go_wp2
  go_end0
  exact ⟨rfl, rfl⟩
set_option maxHeartbeats 1000000 in
set_option maxRecDepth 100000 in
theorem bcheck_fresh (b : Nat) (w : World) (h0 : w.cell? ⟨b, 0, none⟩ = some (.pointer none)) (hsh : w.shape? b = some (124, 2)) (hfz : w.frozen? ⟨b, 0, none⟩ = false) :
    Calls Try.prog 101 #[.pointer (some ⟨b, 0, none⟩)] w fun e w' => e = .returned (.tuple #[]) ∧ w' = w.setCell ⟨b, 0, none⟩ (.pointer (some ⟨b, 0, none⟩)) := by
  obtain ⟨j, hj, hjs⟩ := Option.map_eq_some_iff.1 sizeBld
  go_enter Try.func101, Try.ntmps101
  go_wp2
  rw [Lib.run_to_unsafe w ⟨b, 0, none⟩ Try.underlying121 Try.underlying135 hj (by rw [hjs]; decide) hsh (Nat.zero_lt_succ 1)]
  simp only [Result.andThen]
  rw [Oper.upon_value]
  go_wp2
  rw [run_callFunc_extern Try.func111 (by kernel_rfl) (by kernel_rfl) (by kernel_rfl) (e := Extern.AbiNoEscape.same) (by kernel_rfl)]
  rw [Lib.run_noEscape]
  simp only [Result.andThen]
  rw [Oper.upon_value]
  go_wp2
  rw [Lib.run_from_unsafe w ⟨b, 0, none⟩ Try.underlying135 Try.underlying121 hj hsh liesBld]
  simp only [Result.andThen]
  rw [Oper.upon_value]
  go_wp2
  go_end0
  exact ⟨rfl, rfl⟩
/-- A builder, holding bytes. -/
def Bl (B b : Nat) (l : List UInt8) (w : World) : Prop := Lib.IsBuilderF 124 5 B b (Lib.byteCells l) w
/-- All other blocks stand, but rows of bytes. -/
abbrev Ot (b : Nat) (w w' : World) : Prop := Lib.OthersKept 5 (some b) w w'
theorem bcheck (B b : Nat) (bs : List Value) (w : World) (h : Lib.IsBuilderF 124 5 B b bs w) :
    Calls Try.prog 101 #[.pointer (some ⟨b, 0, none⟩)] w fun e w' => e = .returned (.tuple #[]) ∧ Lib.BuilderAtF 124 5 B b (.pointer (some ⟨b, 0, none⟩)) bs w' ∧ Below B w w' ∧ Ot b w w' := by
  rcases h with h | h
  · refine (bcheck_fresh b w h.cell0 h.shape h.frozen0).mono ?_
    rintro e w' ⟨rfl, rfl⟩
    exact ⟨rfl, h.used _, (Below.refl B w).setCell (p := ⟨b, 0, none⟩) h.1 _, (Lib.OthersKept.refl _ _ w).setCell ⟨b, 0, none⟩ rfl _⟩
  · refine (bcheck_used b w h.cell0).mono ?_
    rintro e w' ⟨rfl, rfl⟩
    exact ⟨rfl, h, Below.refl B _, Lib.OthersKept.refl _ _ _⟩
theorem strCells_eq (s : ByteArray) : Lib.strCells s = Lib.byteCells s.data.toList := by
  simp [Lib.strCells, Lib.byteCells]
theorem byteCells_append (l m : List UInt8) : Lib.byteCells (l ++ m) = Lib.byteCells l ++ Lib.byteCells m := by
  simp [Lib.byteCells]
set_option maxHeartbeats 2000000 in
set_option maxRecDepth 100000 in
theorem bwrite (B b : Nat) (l : List UInt8) (s : ByteArray) (w : World) (h : Bl B b l w) (hlen : l.length + s.size ≤ 1000000) (hBw : B ≤ w.heap.size) :
    Calls Try.prog 94 #[.pointer (some ⟨b, 0, none⟩), .string s] w fun e w' => e = .returned (.tuple #[.int .i64 s.size, .nilIface]) ∧ Bl B b (l ++ s.data.toList) w' ∧ Below B w w' ∧ Ot b w w' := by
  obtain ⟨i0, hi, hz0, hz1, hz2⟩ := info_parts infoByt
  have hcl : (Lib.byteCells l).length = l.length := by simp [Lib.byteCells]
  go_enter Try.func94, Try.ntmps94
  go_wp2_with fail
  refine (bcheck B b _ _ h).mono ?_
  rintro e w1 ⟨rfl, h1, hb1, hk1⟩
  obtain ⟨hB, v, hbk, hown, hne⟩ := h1
  have c0 : w1.cell? ⟨b, 0, none⟩ = some (.pointer (some ⟨b, 0, none⟩)) := by rw [Lib.cell_of_heap hbk]; rfl
  have c1 : w1.cell? ⟨b, 1, none⟩ = some v := by rw [Lib.cell_of_heap hbk]; rfl
  go_wp2_with (at_builtin; refine Lib.wpList_append_own_stringF _ rfl _ _ 122 9 rfl B 5 i0 Try.underlying122 Try.underlying9 hi hz0 hz1 hz2 _ _ _ rfl hown s rfl ?c3 ?c4 ?c5 ?_)
  case c3 => unfold maxLen; omega
  case c4 => omega
  case c5 => have := hb1.size; omega
  intro v' w2 hown' hgrow _
  have hlt : b < w1.heap.size := by
    rcases Nat.lt_or_ge b w1.heap.size with h' | h'
    · exact h'
    · simp [Array.getElem?_eq_none h'] at hbk
  have hb2 : w2.heap[b]? = some (.cells #[.pointer (some ⟨b, 0, none⟩), v] 124 (0, 0)) := by
    rw [hgrow.block b hlt (fun e => hne e.symm)]
    exact hbk
  have d0 : w2.cell? ⟨b, 0, none⟩ = some (.pointer (some ⟨b, 0, none⟩)) := by rw [Lib.cell_of_heap hb2]; rfl
  have d1 : w2.cell? ⟨b, 1, none⟩ = some v := by rw [Lib.cell_of_heap hb2]; rfl
  have f1 : w2.frozen? ⟨b, 1, none⟩ = false := Lib.frozen_of_heap hb2 1
  obtain ⟨ao, n', cap, rfl⟩ : ∃ ao n' cap, v' = .slice ao n' cap := by
    rcases hown'.2 with ⟨hv, _⟩ | ⟨g, cap, cur, fz, hv, _⟩
    · exact ⟨_, _, _, hv⟩
    · exact ⟨_, _, _, hv⟩
  go_wp2
  go_ret2
  refine ⟨rfl, .inr ?_, ?_, (hk1.grown hgrow (Lib.ownsRowF_kind hown)).setCell ⟨b, 1, none⟩ rfl _⟩
  · refine Lib.BuilderAtF.put (T := 124) (e := 5) hB hb2 (bs' := Lib.byteCells (l ++ s.data.toList)) ?_ (by decide)
    rw [byteCells_append, ← strCells_eq]
    simpa [Lib.strCells_length, hcl] using hown'
  · exact (hb1.grown hgrow (by have := hb1.size; omega) (fun k hk => (hown.lt k hk).1)).setCell (p := ⟨b, 1, none⟩) hB _
theorem bstring (B b : Nat) (l : List UInt8) (w : World) (h : Bl B b l w) (hBw : B ≤ w.heap.size) :
    Calls Try.prog 96 #[.pointer (some ⟨b, 0, none⟩)] w fun e w' => e = .returned (.string ⟨l.toArray⟩) ∧ Below B w w' :=
  (Try.Builder_String_any_k B b l w h hBw).mono fun _ _ ⟨h1, _, h2, _⟩ => ⟨h1, h2⟩
end Go.Proofs.Ytcanphhmflbdmac

/- Two expressions that are held against each other. -/
namespace Go.Proofs.Ytcanphhmflbdmac
open Go.RowKit
theorem Xp.ext3 {x y : Xp} (h1 : x.op = y.op) (h2 : x.nm = y.nm) (h3 : x.kids = y.kids) : x = y := by cases x; cases y; simp_all
/-- What is asked of one expression. -/
def rmEOK (x : Xp) : Prop := ∀ (y : Xp) (va vb : Value) (w : World), XV w All va x → XV w All vb y →
  Calls Try.prog 48 #[va, vb] w fun e w' => e = .returned (.bool (decide (x = y))) ∧ Below w.heap.size w w'
set_option maxRecDepth 100000 in
set_option maxHeartbeats 4000000 in
theorem rmE_head (x : Xp) (ih : ∀ i, i < x.kids.len → rmEOK (x.kids.at_ i)) : rmEOK x := by
  intro y va vb w hx hy
  have hx0 := hx
  have hy0 := hy
  obtain ⟨u, rfl, hl, aoa, capa, rfl, hin⟩ := hx
  obtain ⟨u', rfl, hl', aob, capb, rfl, hin'⟩ := hy
  generalize hR : decide (x = y) = R
  by_cases h1 : x.op = y.op
  rotate_left
  · have hr : R = false := by rw [← hR]; simp; intro e; exact h1 (by rw [e])
    have b1 : (x.op != y.op) = true := by simpa using h1
    clear hR ih hin hin'
    subst hr
    go_enter Try.func48, Try.ntmps48
    go_wp2_with fail
    go_ret
    exact ⟨rfl, ((Below.refl _ _).alloc (Nat.le_refl _) _).alloc (by simp) _⟩
  by_cases h2 : x.nm = y.nm
  rotate_left
  · have hr : R = false := by rw [← hR]; simp; intro e; exact h2 (by rw [e])
    have b2 : (x.nm.toList == y.nm.toList) = false := by rw [beq_str]; simpa using h2
    clear hR ih hin hin'
    subst hr
    rw [h1]
    go_enter Try.func48, Try.ntmps48
    go_wp2_with fail
    go_ret
    exact ⟨rfl, ((Below.refl _ _).alloc (Nat.le_refl _) _).alloc (by simp) _⟩
  by_cases h3 : x.kids.len = y.kids.len
  rotate_left
  · have hr : R = false := by rw [← hR]; simp; intro e; exact h3 (by rw [e])
    have b3 : ((x.kids.len : Int) != (y.kids.len : Int)) = true := by simp; omega
    clear hR ih hin hin'
    subst hr
    rw [h1, h2]
    go_enter Try.func48, Try.ntmps48
    go_wp2_with fail
    go_ret
    exact ⟨rfl, ((Below.refl _ _).alloc (Nat.le_refl _) _).alloc (by simp) _⟩
  have HR : Hid (decide (x = y) = R) := hR
  clear hR
  rw [h1, h2, h3]
  have H3 := hd h3
  rw [h3] at hl hin
  clear h3
  obtain ⟨W, hW⟩ : ∃ W, W = (w.alloc (.cells #[.int .i64 y.op, .string y.nm, .slice aoa y.kids.len capa] 64)).alloc (.cells #[.int .i64 y.op, .string y.nm, .slice aob y.kids.len capb] 64) := ⟨_, rfl⟩
  have hWz : W.heap.size = w.heap.size + 2 := by rw [hW]; simp
  have hWb : Below w.heap.size w W := by rw [hW]; exact ((Below.refl _ _).alloc (Nat.le_refl _) _).alloc (by simp) _
  have hWc : W.cell? ⟨w.heap.size, 2, none⟩ = some (.slice aoa y.kids.len capa) ∧ W.cell? ⟨w.heap.size + 1, 2, none⟩ = some (.slice aob y.kids.len capb) := by rw [hW]; exact ⟨by simp, by simp⟩
  go_enter Try.func48, Try.ntmps48
  go_wp2_with fail
  rw [← hW]
  have HW := hd hW
  clear hW
  go_loopw [5] (fun i wr => ∃ k : Nat, k ≤ y.kids.len ∧ i = .int .i64 k ∧ Below W.heap.size W wr ∧ Hid (∀ j, j < k → x.kids.at_ j = y.kids.at_ j)) (fun i _ => y.kids.len - (intOf i).toNat)
  case atStart => exact ⟨0, Nat.zero_le _, rfl, Below.refl _ _, fun j hj => absurd hj (Nat.not_lt_zero _)⟩
  case round =>
    obtain ⟨k, hk, rfl, hb, hall⟩ := hrel
    have hz := hb.size
    have bel : Below w.heap.size w wr := hWb.trans (hb.mono (by omega))
    have s1 : wr.cell? ⟨w.heap.size, 2, none⟩ = some (.slice aoa y.kids.len capa) := by rw [hb.cell (p := ⟨w.heap.size, 2, none⟩) (by simp; omega)]; exact hWc.1
    have s2 : wr.cell? ⟨w.heap.size + 1, 2, none⟩ = some (.slice aob y.kids.len capb) := by rw [hb.cell (p := ⟨w.heap.size + 1, 2, none⟩) (by simp; omega)]; exact hWc.2
    by_cases hlt : k < y.kids.len
    · obtain h0 | ⟨ba, oa, rfl, hia⟩ := hin
      · omega
      obtain h0 | ⟨bb, ob, rfl, hib⟩ := hin'
      · omega
      have kA : ∀ b o v, All b → w.cell? ⟨b, o, none⟩ = some v → All b ∧ wr.cell? ⟨b, o, none⟩ = some v := keep_cell (fun _ _ h => h) (Kp.of_below bel).block
      obtain ⟨ua, a0, a1, a2, hxa⟩ := ((hia.mono kA).at_ k (by rw [H3.out]; exact hlt)).xv
      obtain ⟨ub, c0, c1, c2, hxb⟩ := ((hib.mono kA).at_ k hlt).xv
      have hxa' := hxa
      have hxb' := hxb
      obtain ⟨_, e, _, aoa', capa', rfl, _⟩ := hxa'
      simp at e; subst e
      obtain ⟨_, e, _, aob', capb', rfl, _⟩ := hxb'
      simp at e; subst e
      have IH := ih k (by rw [H3.out]; exact hlt)
      generalize hxk : x.kids.at_ k = xk at *
      generalize hyk : y.kids.at_ k = yk at *
      have HXK := hd hxk
      have HYK := hd hyk
      clear hxk hyk
      have IHk := IH yk
      generalize hB : decide (xk = yk) = B at IHk
      have HB := hd hB
      clear hB IH
      have s3 : ∀ z : Wd wr, z.u.cell? ⟨w.heap.size + 1, 2, none⟩ = some (.slice (some ⟨bb, ob, none⟩) y.kids.len capb) := fun z => z.cell s2
      have s4 : ∀ z : Wd wr, z.u.cell? ⟨w.heap.size, 2, none⟩ = some (.slice (some ⟨ba, oa, none⟩) y.kids.len capa) := fun z => z.cell s1
      have c0' : ∀ z : Wd wr, z.u.cell? ⟨bb, ob + k * 3, none⟩ = some (.int .i64 yk.op) := fun z => z.cell c0
      have c1' : ∀ z : Wd wr, z.u.cell? ⟨bb, ob + k * 3 + 1, none⟩ = some (.string yk.nm) := fun z => z.cell c1
      have c2' : ∀ z : Wd wr, z.u.cell? ⟨bb, ob + k * 3 + 2, none⟩ = some (.slice aob' yk.kids.len capb') := fun z => z.cell c2
      have a0' : ∀ z : Wd wr, z.u.cell? ⟨ba, oa + k * 3, none⟩ = some (.int .i64 xk.op) := fun z => z.cell a0
      have a1' : ∀ z : Wd wr, z.u.cell? ⟨ba, oa + k * 3 + 1, none⟩ = some (.string xk.nm) := fun z => z.cell a1
      have a2' : ∀ z : Wd wr, z.u.cell? ⟨ba, oa + k * 3 + 2, none⟩ = some (.slice aoa' xk.kids.len capa') := fun z => z.cell a2
      cases B with
      | true =>
        go_wp2_with fail
        have wne : Nonempty (Wd wr) := Wd.ne _
        refine region_quiet_lit (C := fun w' => ∃ z : Wd wr, w' = z.u) (by kernel_rfl) (by kernel_rfl) (Wd.drawn _) ?_
        repeat (go_big_quiet_step (exact calls_wd (IHk _ _ _ (hxa.below (Wd.h _)) (hxb.below (Wd.h _)))))
        refine wpQuiet_nil ?_
        intro _ hw'
        obtain ⟨⟨w2, hb2⟩, hw''⟩ := hw'
        subst hw''
        go_wp2_with fail
        go_roundw
        case rel => exact ⟨k + 1, by omega, by go_num, hb.trans (hb2.mono hb.size), fun j hj => (by
          by_cases e : j = k
          · rw [e, HXK.out, HYK.out]; exact of_decide_eq_true HB.out
          · exact hall.out j (by omega))⟩
        case measure => simp [intOf]; omega
      | false =>
        go_wp2_with fail
        have wne : Nonempty (Wd wr) := Wd.ne _
        refine region_quiet_lit (C := fun w' => ∃ z : Wd wr, w' = z.u) (by kernel_rfl) (by kernel_rfl) (Wd.drawn _) ?_
        repeat (go_big_quiet_step (exact calls_wd (IHk _ _ _ (hxa.below (Wd.h _)) (hxb.below (Wd.h _)))))
        refine wpQuiet_nil ?_
        intro _ hw'
        obtain ⟨⟨w2, hb2⟩, hw''⟩ := hw'
        subst hw''
        go_wp2_with fail
        go_ret
        refine ⟨ret_bool ?_, bel.trans (hb2.mono bel.size)⟩
        rw [← HR.out]
        symm
        rw [decide_eq_false_iff_not]
        intro e
        exact of_decide_eq_false HB.out (by rw [← HXK.out, ← HYK.out, e])
    · go_wp2_with fail
      go_ret
      refine ⟨ret_bool ?_, bel⟩
      rw [← HR.out]
      symm
      rw [decide_eq_true_iff]
      exact Xp.ext3 h1 h2 (Fo.ext_at _ _ H3.out fun i hi => hall.out i (by have := H3.out; omega))
theorem rmE_all : ∀ (f : Fo) (i : Nat), i < f.len → rmEOK (f.at_ i)
  | .nil, _, h => absurd h (Nat.not_lt_zero _)
  | .cons op nm kids rest, 0, _ => rmE_head ⟨op, nm, kids⟩ (rmE_all kids)
  | .cons op nm kids rest, i + 1, h => rmE_all rest i (by simpa [Fo.len] using h)
theorem rmE_any (x : Xp) : rmEOK x := rmE_head x (rmE_all x.kids)
end Go.Proofs.Ytcanphhmflbdmac
