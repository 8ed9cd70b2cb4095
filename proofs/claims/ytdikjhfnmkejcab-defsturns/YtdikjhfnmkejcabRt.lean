/- The document's own text of an expression. -/
import Derived.Test.YtdikjhfnmkejcabRe
namespace Go.Proofs.Ytdikjhfnmkejcab
open Go.RowKit
theorem bys_app (a b : ByteArray) : bys (a ++ b) = bys a ++ bys b := by simp [bys, ByteArray.data_append]
theorem bys_eq {s : ByteArray} {l : List UInt8} (h : bys s = l) : s = ⟨l.toArray⟩ := bys_inj (by rw [bys_mk]; exact h)
theorem Fo.bad_at0 : ∀ {f : Fo} {i : Nat}, f.bad = 0 → i < f.len → (f.at_ i).bad = 0
  | .nil, _, _, h => absurd h (Nat.not_lt_zero _)
  | .cons .., 0, h, _ => let ⟨h1, h2, _⟩ := Fo.bad_cons h; by unfold Xp.bad; simp [Fo.at_, h1, h2]
  | .cons _ _ _ r, i + 1, h, hi => Fo.bad_at0 (f := r) (i := i) (Fo.bad_cons h).2.2 (by simpa [Fo.len] using hi)
def EtOK (x : Xp) : Prop := ∀ (va : Value) (w : World), XV w All va x → x.bad = 0 → x.tx.length ≤ 100000 →
  Calls Try.prog 38 #[va] w fun e w' => ∃ s : ByteArray, e = .returned (.string s) ∧ bys s = x.tx ∧ s.size ≤ 100000 ∧ Below w.heap.size w w'
set_option maxRecDepth 100000 in
set_option maxHeartbeats 16000000 in
theorem et_head (x : Xp) (ih : ∀ i, i < x.kids.len → EtOK (x.kids.at_ i)) : EtOK x := by
  intro va w hx hbad hlen
  obtain ⟨u, rfl, hl, ao, cap, rfl, hin⟩ := hx
  obtain ⟨W, hW⟩ : ∃ W, W = w.alloc (.cells #[.int .i64 x.op, .string x.nm, .slice ao x.kids.len cap] 48) := ⟨_, rfl⟩
  have hWz : W.heap.size = w.heap.size + 1 := by rw [hW]; simp
  have hWb : Below w.heap.size w W := by rw [hW]; exact (Below.refl _ _).alloc (Nat.le_refl _) _
  have hW0 : W.cell? ⟨w.heap.size, 0, none⟩ = some (.int .i64 x.op) := by rw [hW]; simp
  have hW1 : W.cell? ⟨w.heap.size, 1, none⟩ = some (.string x.nm) := by rw [hW]; simp
  have hW2 : W.cell? ⟨w.heap.size, 2, none⟩ = some (.slice ao x.kids.len cap) := by rw [hW]; simp
  obtain ⟨hc, hkb⟩ := Xp.bad_zero hbad
  obtain ⟨hf, hnm⟩ := code_zero hc
  have hns := bys_length x.nm
  have htx : Hid (x.tx = bef x.op ++ bys x.nm ++ x.kids.tx x.op true ++ beh x.op) := hd rfl
  have hkl := form_kinds hf
  have hlx := congrArg List.length htx.out
  simp only [List.length_append, bys_length] at hlx
  clear hf hnm hc hbad
  have HKB := hd hkb
  clear hkb
  generalize x.tx = TX at *
  by_cases hop : x.op = 1
  · have b1 : (x.op == 1) = true := by simpa using hop
    have b2 : (x.op == 2) = false := by rw [hop]; decide
    have b4 : (x.op == 4) = false := by rw [hop]; decide
    have b5 : (x.op == 5) = false := by rw [hop]; decide
    have b6 : (x.op == 6) = false := by rw [hop]; decide
    have b7 : (x.op == 7) = false := by rw [hop]; decide
    have hk0 : x.kids = .nil := Fo.len_zero (by omega)
    have hn12 : x.nm.size ≤ 100000 := by omega
    have hT : TX = [34] ++ bys x.nm ++ [34] := by rw [htx.out, hop, hk0]; simp [bef, beh, Fo.tx]
    have HOP := hd hop
    clear hop hlx hkl
    go_enter Try.func38, Try.ntmps38
    go_wp2_with fail
    go_ret
    refine ⟨_, rfl, ?_, ?_, al1 _ _⟩
    · rw [bys_app, bys_app, hT]; rfl
    · rw [ByteArray.size_append, ByteArray.size_append]; show 1 + x.nm.size + 1 ≤ _; rw [hT] at hlen; simp [bys_length] at hlen; omega
  have n1 := hop
  clear hop
  by_cases hop : x.op = 2
  · have b1 : (x.op == 1) = false := by rw [hop]; decide
    have b2 : (x.op == 2) = true := by simpa using hop
    have b4 : (x.op == 4) = false := by rw [hop]; decide
    have b5 : (x.op == 5) = false := by rw [hop]; decide
    have b6 : (x.op == 6) = false := by rw [hop]; decide
    have b7 : (x.op == 7) = false := by rw [hop]; decide
    have hk0 : x.kids = .nil := Fo.len_zero (by omega)
    have hn12 : x.nm.size ≤ 100000 := by omega
    have hT : TX = bys x.nm := by rw [htx.out, hop, hk0]; simp [bef, beh, Fo.tx]
    have HOP := hd hop
    clear hop hlx hkl
    go_enter Try.func38, Try.ntmps38
    go_wp2_with fail
    go_ret
    exact ⟨_, rfl, hT.symm, hn12, al1 _ _⟩
  have n2 := hop
  clear hop
  by_cases hop : x.op = 3
  · have b1 : (x.op == 1) = false := by rw [hop]; decide
    have b2 : (x.op == 2) = false := by rw [hop]; decide
    have b4 : (x.op == 4) = false := by rw [hop]; decide
    have b5 : (x.op == 5) = false := by rw [hop]; decide
    have b6 : (x.op == 6) = false := by rw [hop]; decide
    have b7 : (x.op == 7) = false := by rw [hop]; decide
    have hnz : x.nm = ⟨#[]⟩ := by rcases hkl with h | h | h | h; omega; exact h.2.1; exact h.2.1; exact h.2.1
    have hT : TX = [] ++ x.kids.tx x.op true ++ [] := by rw [htx.out, hop, hnz]; simp [bef, beh, bys]
    have hk1 : True := by trivial
    have HOP := hd hop
    have HK1 := hd hk1
    clear hop hkl hnz hk1
    go_enter Try.func38, Try.ntmps38
    go_wp2_with fail
    rw [← hW]
    have HW := hd hW
    clear hW
    obtain ⟨w1, h1⟩ : ∃ w1, w1 = W := ⟨_, rfl⟩
    rw [← h1]
    have e0 : w1.cell? ⟨w.heap.size, 0, none⟩ = some (.int .i64 x.op) := by rw [h1]; exact hW0
    have e1 : w1.cell? ⟨w.heap.size, 1, none⟩ = some (.string x.nm) := by rw [h1]; exact hW1
    have e2 : w1.cell? ⟨w.heap.size, 2, none⟩ = some (.slice ao x.kids.len cap) := by rw [h1]; exact hW2
    have bel1 : Below w.heap.size w w1 := by rw [h1]; exact hWb
    clear hW0 hW1 hW2 hWb
    obtain ⟨L, hL⟩ : ∃ L, L = [] ++ x.kids.tx x.op true := ⟨_, rfl⟩
    have hTL : TX = L ++ [] := by rw [hL]; exact hT
    have hLl := congrArg List.length hTL
    simp only [List.length_append, List.length_nil] at hLl
    have HL := hd hL
    clear hL
    go_loopw [6, 7] (fun a i wr => ∃ (k : Nat) (o : ByteArray), k ≤ x.kids.len ∧ i = .int .i64 k ∧ a = .string o ∧ bys o ++ (x.kids.drp k).tx x.op (k == 0) = L ∧ Below w1.heap.size w1 wr) (fun _ i _ => x.kids.len - (intOf i).toNat)
    case atStart => exact ⟨0, _, Nat.zero_le _, rfl, rfl, by rw [Fo.drp_zero, HL.out]; rfl, Below.refl _ _⟩
    case round =>
      obtain ⟨k, o, hk, rfl, rfl, hm, hb⟩ := hrel
      have hz := hb.size
      have bel : Below w.heap.size w wr := bel1.trans (hb.mono bel1.size)
      have s0 := bkeep hb e0
      have s1 := bkeep hb e1
      have s2 := bkeep hb e2
      by_cases hlt : k < x.kids.len
      · obtain h0 | ⟨ba, oa, rfl, hia⟩ := hin
        · omega
        have kA : ∀ b o v, All b → w.cell? ⟨b, o, none⟩ = some v → All b ∧ wr.cell? ⟨b, o, none⟩ = some v := keep_cell (fun _ _ h => h) (Kp.of_below bel).block
        obtain ⟨ua, a0, a1, a2, hxa⟩ := ((hia.mono kA).at_ k hlt).xv
        have hxa' := hxa
        obtain ⟨_, e, _, aoa', capa', rfl, _⟩ := hxa'
        simp at e; subst e
        have IH := fun w hx hp => ih k hlt (.agg #[.int .i64 (x.kids.at_ k).op, .string (x.kids.at_ k).nm, .slice aoa' (x.kids.at_ k).kids.len capa']) w hx (Fo.bad_at0 HKB.out hlt) hp
        rw [Fo.tx_at x.op hlt] at hm
        have RD := fun w => rIn_any x.op (x.kids.at_ k).op x.nm (x.kids.at_ k).nm (some ⟨ba, oa, none⟩) aoa' x.kids.len (x.kids.at_ k).kids.len cap capa' w
        have hlp : lp x.op (x.kids.at_ k).op = if rnd x.op (x.kids.at_ k).op = true then [40] else [] := rfl
        have hrp : rp x.op (x.kids.at_ k).op = if rnd x.op (x.kids.at_ k).op = true then [41] else [] := rfl
        have HLT := hd hlt
        generalize x.kids.at_ k = xk at *
        by_cases hk0 : k = 0
        · have hkb : (k == 0) = true := by simpa using hk0
          rw [hkb] at hm
          simp only [if_true, List.nil_append] at hm
          have hkp : ¬ (0 : Int) < (k : Int) := by omega
          have HK0 := hd hk0
          clear hk0 hkb
          go_wp2_with fail
          have r0 := fun z : Wd wr => z.cell s0
          have r1 := fun z : Wd wr => z.cell s1
          have r2 := fun z : Wd wr => z.cell s2
          have q0 := fun z : Wd wr => z.cell a0
          have q1 := fun z : Wd wr => z.cell a1
          have q2 := fun z : Wd wr => z.cell a2
          have wne : Nonempty (Wd wr) := Wd.ne _
          have hxz := fun z : Wd wr => hxa.below z.h
          clear s0 s1 s2 a0 a1 a2 hxa
          refine region_quiet_lit (C := fun w' => ∃ z : Wd wr, w' = z.u) (by kernel_rfl) (by kernel_rfl) (Wd.drawn _) ?_
          iterate 6 (go_big_quiet_step (fail))
          go_big_quiet_step (exact calls_wd (RD _))
          refine wpQuiet_nil ?_
          intro _ hw'
          obtain ⟨z, hw''⟩ := hw'
          subst hw''
          have s0 := r0 z
          have s1 := r1 z
          have s2 := r2 z
          have a0 := q0 z
          have a1 := q1 z
          have a2 := q2 z
          have hxa := hxz z
          have bz : Below w1.heap.size w1 z.u := hb.trans (z.h.mono hb.size)
          generalize z.u = wz at *
          clear r0 r1 r2 q0 q1 q2 hxz RD
          cases hR : rnd x.op xk.op with
          | true =>
            have HRR := hd hR
            rw [hR] at hlp hrp
            simp only [if_true] at hlp hrp
            rw [hlp, hrp] at hm
            have hln := congrArg List.length hm
            simp only [List.length_append, List.length_cons, List.length_nil, bys_length] at hln
            clear hR
            go_wp2_with fail
            refine (IH _ hxa (by omega)).mono ?_
            rintro e w5 ⟨t, rfl, ht, ht9, hb5⟩
            have htl := bys_length t
            rw [ht] at htl
            have bz5 : Below w1.heap.size w1 w5 := bz.trans (hb5.mono bz.size)
            go_wp2_with fail
            go_roundw
            case rel => exact ⟨k + 1, _, by omega, by go_num, rfl, by rw [← hm]; simp only [bys_app, ht, List.append_assoc]; rfl, bz5⟩
            case measure => simp [intOf]; omega
          | false =>
            have HRR := hd hR
            rw [hR] at hlp hrp
            simp only [Bool.false_eq_true, if_false] at hlp hrp
            rw [hlp, hrp] at hm
            have hln := congrArg List.length hm
            simp only [List.length_append, List.length_nil, bys_length] at hln
            clear hR
            go_wp2_with fail
            refine (IH _ hxa (by omega)).mono ?_
            rintro e w5 ⟨t, rfl, ht, ht9, hb5⟩
            have htl := bys_length t
            rw [ht] at htl
            have bz5 : Below w1.heap.size w1 w5 := bz.trans (hb5.mono bz.size)
            go_wp2_with fail
            go_roundw
            case rel => exact ⟨k + 1, _, by omega, by go_num, rfl, by rw [← hm]; simp only [bys_app, ht, List.append_assoc, List.nil_append]; rfl, bz5⟩
            case measure => simp [intOf]; omega
        · have hkb : (k == 0) = false := by simpa using hk0
          rw [hkb] at hm
          simp only [Bool.false_eq_true, if_false] at hm
          have hkp : (0 : Int) < (k : Int) := by omega
          rw [show btw x.op = [32] by rw [HOP.out]; rfl] at hm
          have hln0 := congrArg List.length hm
          simp only [List.length_append, List.length_cons, List.length_nil, bys_length] at hln0
          go_wp2_with fail
          have r0 := fun z : Wd wr => z.cell s0
          have r1 := fun z : Wd wr => z.cell s1
          have r2 := fun z : Wd wr => z.cell s2
          have q0 := fun z : Wd wr => z.cell a0
          have q1 := fun z : Wd wr => z.cell a1
          have q2 := fun z : Wd wr => z.cell a2
          have wne : Nonempty (Wd wr) := Wd.ne _
          have hxz := fun z : Wd wr => hxa.below z.h
          clear s0 s1 s2 a0 a1 a2 hxa
          refine region_quiet_lit (C := fun w' => ∃ z : Wd wr, w' = z.u) (by kernel_rfl) (by kernel_rfl) (Wd.drawn _) ?_
          iterate 6 (go_big_quiet_step (fail))
          go_big_quiet_step (exact calls_wd (RD _))
          refine wpQuiet_nil ?_
          intro _ hw'
          obtain ⟨z, hw''⟩ := hw'
          subst hw''
          have s0 := r0 z
          have s1 := r1 z
          have s2 := r2 z
          have a0 := q0 z
          have a1 := q1 z
          have a2 := q2 z
          have hxa := hxz z
          have bz : Below w1.heap.size w1 z.u := hb.trans (z.h.mono hb.size)
          generalize z.u = wz at *
          clear r0 r1 r2 q0 q1 q2 hxz RD
          cases hR : rnd x.op xk.op with
          | true =>
            have HRR := hd hR
            rw [hR] at hlp hrp
            simp only [if_true] at hlp hrp
            rw [hlp, hrp] at hm
            have hln := congrArg List.length hm
            simp only [List.length_append, List.length_cons, List.length_nil, bys_length] at hln
            clear hR
            go_wp2_with fail
            refine (IH _ hxa (by omega)).mono ?_
            rintro e w5 ⟨t, rfl, ht, ht9, hb5⟩
            have htl := bys_length t
            rw [ht] at htl
            have bz5 : Below w1.heap.size w1 w5 := bz.trans (hb5.mono bz.size)
            go_wp2_with fail
            go_roundw
            case rel => exact ⟨k + 1, _, by omega, by go_num, rfl, by rw [← hm]; simp only [bys_app, ht, List.append_assoc]; rfl, bz5⟩
            case measure => simp [intOf]; omega
          | false =>
            have HRR := hd hR
            rw [hR] at hlp hrp
            simp only [Bool.false_eq_true, if_false] at hlp hrp
            rw [hlp, hrp] at hm
            have hln := congrArg List.length hm
            simp only [List.length_append, List.length_nil, bys_length] at hln
            clear hR
            go_wp2_with fail
            refine (IH _ hxa (by omega)).mono ?_
            rintro e w5 ⟨t, rfl, ht, ht9, hb5⟩
            have htl := bys_length t
            rw [ht] at htl
            have bz5 : Below w1.heap.size w1 w5 := bz.trans (hb5.mono bz.size)
            go_wp2_with fail
            go_roundw
            case rel => exact ⟨k + 1, _, by omega, by go_num, rfl, by rw [← hm]; simp only [bys_app, ht, List.append_assoc, List.nil_append]; rfl, bz5⟩
            case measure => simp [intOf]; omega
      · rw [Fo.drp_end (by omega)] at hm
        simp only [Fo.tx, List.append_nil] at hm
        have hol := bys_length o
        rw [hm] at hol
        go_wp2_with fail
        go_ret
        refine ⟨_, rfl, ?_, ?_, bel⟩
        · rw [bys_app, hm, hTL]; rfl
        · rw [ByteArray.size_append]; show _ + 0 ≤ _; omega
  have n3 := hop
  clear hop
  by_cases hop : x.op = 4
  · have b1 : (x.op == 1) = false := by rw [hop]; decide
    have b2 : (x.op == 2) = false := by rw [hop]; decide
    have b4 : (x.op == 4) = true := by simpa using hop
    have b5 : (x.op == 5) = false := by rw [hop]; decide
    have b6 : (x.op == 6) = false := by rw [hop]; decide
    have b7 : (x.op == 7) = false := by rw [hop]; decide
    have hnz : x.nm = ⟨#[]⟩ := by rcases hkl with h | h | h | h; omega; exact h.2.1; exact h.2.1; exact h.2.1
    have hT : TX = [] ++ x.kids.tx x.op true ++ [] := by rw [htx.out, hop, hnz]; simp [bef, beh, bys]
    have hk1 : True := by trivial
    have HOP := hd hop
    have HK1 := hd hk1
    clear hop hkl hnz hk1
    go_enter Try.func38, Try.ntmps38
    go_wp2_with fail
    rw [← hW]
    have HW := hd hW
    clear hW
    obtain ⟨w1, h1⟩ : ∃ w1, w1 = W := ⟨_, rfl⟩
    rw [← h1]
    have e0 : w1.cell? ⟨w.heap.size, 0, none⟩ = some (.int .i64 x.op) := by rw [h1]; exact hW0
    have e1 : w1.cell? ⟨w.heap.size, 1, none⟩ = some (.string x.nm) := by rw [h1]; exact hW1
    have e2 : w1.cell? ⟨w.heap.size, 2, none⟩ = some (.slice ao x.kids.len cap) := by rw [h1]; exact hW2
    have bel1 : Below w.heap.size w w1 := by rw [h1]; exact hWb
    clear hW0 hW1 hW2 hWb
    obtain ⟨L, hL⟩ : ∃ L, L = [] ++ x.kids.tx x.op true := ⟨_, rfl⟩
    have hTL : TX = L ++ [] := by rw [hL]; exact hT
    have hLl := congrArg List.length hTL
    simp only [List.length_append, List.length_nil] at hLl
    have HL := hd hL
    clear hL
    go_loopw [6, 7] (fun a i wr => ∃ (k : Nat) (o : ByteArray), k ≤ x.kids.len ∧ i = .int .i64 k ∧ a = .string o ∧ bys o ++ (x.kids.drp k).tx x.op (k == 0) = L ∧ Below w1.heap.size w1 wr) (fun _ i _ => x.kids.len - (intOf i).toNat)
    case atStart => exact ⟨0, _, Nat.zero_le _, rfl, rfl, by rw [Fo.drp_zero, HL.out]; rfl, Below.refl _ _⟩
    case round =>
      obtain ⟨k, o, hk, rfl, rfl, hm, hb⟩ := hrel
      have hz := hb.size
      have bel : Below w.heap.size w wr := bel1.trans (hb.mono bel1.size)
      have s0 := bkeep hb e0
      have s1 := bkeep hb e1
      have s2 := bkeep hb e2
      by_cases hlt : k < x.kids.len
      · obtain h0 | ⟨ba, oa, rfl, hia⟩ := hin
        · omega
        have kA : ∀ b o v, All b → w.cell? ⟨b, o, none⟩ = some v → All b ∧ wr.cell? ⟨b, o, none⟩ = some v := keep_cell (fun _ _ h => h) (Kp.of_below bel).block
        obtain ⟨ua, a0, a1, a2, hxa⟩ := ((hia.mono kA).at_ k hlt).xv
        have hxa' := hxa
        obtain ⟨_, e, _, aoa', capa', rfl, _⟩ := hxa'
        simp at e; subst e
        have IH := fun w hx hp => ih k hlt (.agg #[.int .i64 (x.kids.at_ k).op, .string (x.kids.at_ k).nm, .slice aoa' (x.kids.at_ k).kids.len capa']) w hx (Fo.bad_at0 HKB.out hlt) hp
        rw [Fo.tx_at x.op hlt] at hm
        have RD := fun w => rIn_any x.op (x.kids.at_ k).op x.nm (x.kids.at_ k).nm (some ⟨ba, oa, none⟩) aoa' x.kids.len (x.kids.at_ k).kids.len cap capa' w
        have hlp : lp x.op (x.kids.at_ k).op = if rnd x.op (x.kids.at_ k).op = true then [40] else [] := rfl
        have hrp : rp x.op (x.kids.at_ k).op = if rnd x.op (x.kids.at_ k).op = true then [41] else [] := rfl
        have HLT := hd hlt
        generalize x.kids.at_ k = xk at *
        by_cases hk0 : k = 0
        · have hkb : (k == 0) = true := by simpa using hk0
          rw [hkb] at hm
          simp only [if_true, List.nil_append] at hm
          have hkp : ¬ (0 : Int) < (k : Int) := by omega
          have HK0 := hd hk0
          clear hk0 hkb
          go_wp2_with fail
          have r0 := fun z : Wd wr => z.cell s0
          have r1 := fun z : Wd wr => z.cell s1
          have r2 := fun z : Wd wr => z.cell s2
          have q0 := fun z : Wd wr => z.cell a0
          have q1 := fun z : Wd wr => z.cell a1
          have q2 := fun z : Wd wr => z.cell a2
          have wne : Nonempty (Wd wr) := Wd.ne _
          have hxz := fun z : Wd wr => hxa.below z.h
          clear s0 s1 s2 a0 a1 a2 hxa
          refine region_quiet_lit (C := fun w' => ∃ z : Wd wr, w' = z.u) (by kernel_rfl) (by kernel_rfl) (Wd.drawn _) ?_
          iterate 6 (go_big_quiet_step (fail))
          go_big_quiet_step (exact calls_wd (RD _))
          refine wpQuiet_nil ?_
          intro _ hw'
          obtain ⟨z, hw''⟩ := hw'
          subst hw''
          have s0 := r0 z
          have s1 := r1 z
          have s2 := r2 z
          have a0 := q0 z
          have a1 := q1 z
          have a2 := q2 z
          have hxa := hxz z
          have bz : Below w1.heap.size w1 z.u := hb.trans (z.h.mono hb.size)
          generalize z.u = wz at *
          clear r0 r1 r2 q0 q1 q2 hxz RD
          cases hR : rnd x.op xk.op with
          | true =>
            have HRR := hd hR
            rw [hR] at hlp hrp
            simp only [if_true] at hlp hrp
            rw [hlp, hrp] at hm
            have hln := congrArg List.length hm
            simp only [List.length_append, List.length_cons, List.length_nil, bys_length] at hln
            clear hR
            go_wp2_with fail
            refine (IH _ hxa (by omega)).mono ?_
            rintro e w5 ⟨t, rfl, ht, ht9, hb5⟩
            have htl := bys_length t
            rw [ht] at htl
            have bz5 : Below w1.heap.size w1 w5 := bz.trans (hb5.mono bz.size)
            go_wp2_with fail
            go_roundw
            case rel => exact ⟨k + 1, _, by omega, by go_num, rfl, by rw [← hm]; simp only [bys_app, ht, List.append_assoc]; rfl, bz5⟩
            case measure => simp [intOf]; omega
          | false =>
            have HRR := hd hR
            rw [hR] at hlp hrp
            simp only [Bool.false_eq_true, if_false] at hlp hrp
            rw [hlp, hrp] at hm
            have hln := congrArg List.length hm
            simp only [List.length_append, List.length_nil, bys_length] at hln
            clear hR
            go_wp2_with fail
            refine (IH _ hxa (by omega)).mono ?_
            rintro e w5 ⟨t, rfl, ht, ht9, hb5⟩
            have htl := bys_length t
            rw [ht] at htl
            have bz5 : Below w1.heap.size w1 w5 := bz.trans (hb5.mono bz.size)
            go_wp2_with fail
            go_roundw
            case rel => exact ⟨k + 1, _, by omega, by go_num, rfl, by rw [← hm]; simp only [bys_app, ht, List.append_assoc, List.nil_append]; rfl, bz5⟩
            case measure => simp [intOf]; omega
        · have hkb : (k == 0) = false := by simpa using hk0
          rw [hkb] at hm
          simp only [Bool.false_eq_true, if_false] at hm
          have hkp : (0 : Int) < (k : Int) := by omega
          rw [show btw x.op = [32, 124, 32] by rw [HOP.out]; rfl] at hm
          have hln0 := congrArg List.length hm
          simp only [List.length_append, List.length_cons, List.length_nil, bys_length] at hln0
          go_wp2_with fail
          have r0 := fun z : Wd wr => z.cell s0
          have r1 := fun z : Wd wr => z.cell s1
          have r2 := fun z : Wd wr => z.cell s2
          have q0 := fun z : Wd wr => z.cell a0
          have q1 := fun z : Wd wr => z.cell a1
          have q2 := fun z : Wd wr => z.cell a2
          have wne : Nonempty (Wd wr) := Wd.ne _
          have hxz := fun z : Wd wr => hxa.below z.h
          clear s0 s1 s2 a0 a1 a2 hxa
          refine region_quiet_lit (C := fun w' => ∃ z : Wd wr, w' = z.u) (by kernel_rfl) (by kernel_rfl) (Wd.drawn _) ?_
          iterate 6 (go_big_quiet_step (fail))
          go_big_quiet_step (exact calls_wd (RD _))
          refine wpQuiet_nil ?_
          intro _ hw'
          obtain ⟨z, hw''⟩ := hw'
          subst hw''
          have s0 := r0 z
          have s1 := r1 z
          have s2 := r2 z
          have a0 := q0 z
          have a1 := q1 z
          have a2 := q2 z
          have hxa := hxz z
          have bz : Below w1.heap.size w1 z.u := hb.trans (z.h.mono hb.size)
          generalize z.u = wz at *
          clear r0 r1 r2 q0 q1 q2 hxz RD
          cases hR : rnd x.op xk.op with
          | true =>
            have HRR := hd hR
            rw [hR] at hlp hrp
            simp only [if_true] at hlp hrp
            rw [hlp, hrp] at hm
            have hln := congrArg List.length hm
            simp only [List.length_append, List.length_cons, List.length_nil, bys_length] at hln
            clear hR
            go_wp2_with fail
            refine (IH _ hxa (by omega)).mono ?_
            rintro e w5 ⟨t, rfl, ht, ht9, hb5⟩
            have htl := bys_length t
            rw [ht] at htl
            have bz5 : Below w1.heap.size w1 w5 := bz.trans (hb5.mono bz.size)
            go_wp2_with fail
            go_roundw
            case rel => exact ⟨k + 1, _, by omega, by go_num, rfl, by rw [← hm]; simp only [bys_app, ht, List.append_assoc]; rfl, bz5⟩
            case measure => simp [intOf]; omega
          | false =>
            have HRR := hd hR
            rw [hR] at hlp hrp
            simp only [Bool.false_eq_true, if_false] at hlp hrp
            rw [hlp, hrp] at hm
            have hln := congrArg List.length hm
            simp only [List.length_append, List.length_nil, bys_length] at hln
            clear hR
            go_wp2_with fail
            refine (IH _ hxa (by omega)).mono ?_
            rintro e w5 ⟨t, rfl, ht, ht9, hb5⟩
            have htl := bys_length t
            rw [ht] at htl
            have bz5 : Below w1.heap.size w1 w5 := bz.trans (hb5.mono bz.size)
            go_wp2_with fail
            go_roundw
            case rel => exact ⟨k + 1, _, by omega, by go_num, rfl, by rw [← hm]; simp only [bys_app, ht, List.append_assoc, List.nil_append]; rfl, bz5⟩
            case measure => simp [intOf]; omega
      · rw [Fo.drp_end (by omega)] at hm
        simp only [Fo.tx, List.append_nil] at hm
        have hol := bys_length o
        rw [hm] at hol
        go_wp2_with fail
        go_ret
        refine ⟨_, rfl, ?_, ?_, bel⟩
        · rw [bys_app, hm, hTL]; rfl
        · rw [ByteArray.size_append]; show _ + 0 ≤ _; omega
  have n4 := hop
  clear hop
  by_cases hop : x.op = 5
  · have b1 : (x.op == 1) = false := by rw [hop]; decide
    have b2 : (x.op == 2) = false := by rw [hop]; decide
    have b4 : (x.op == 4) = false := by rw [hop]; decide
    have b5 : (x.op == 5) = true := by simpa using hop
    have b6 : (x.op == 6) = false := by rw [hop]; decide
    have b7 : (x.op == 7) = false := by rw [hop]; decide
    have hnz : x.nm = ⟨#[]⟩ := by rcases hkl with h | h | h | h; omega; exact h.2.1; exact h.2.1; exact h.2.1
    have hT : TX = [91] ++ x.kids.tx x.op true ++ [93] := by rw [htx.out, hop, hnz]; simp [bef, beh, bys]
    have hk1 : x.kids.len = 1 := by omega
    have HOP := hd hop
    have HK1 := hd hk1
    clear hop hkl hnz hk1
    go_enter Try.func38, Try.ntmps38
    go_wp2_with fail
    rw [← hW]
    have HW := hd hW
    clear hW
    obtain ⟨w1, h1⟩ : ∃ w1, w1 = W := ⟨_, rfl⟩
    rw [← h1]
    have e0 : w1.cell? ⟨w.heap.size, 0, none⟩ = some (.int .i64 x.op) := by rw [h1]; exact hW0
    have e1 : w1.cell? ⟨w.heap.size, 1, none⟩ = some (.string x.nm) := by rw [h1]; exact hW1
    have e2 : w1.cell? ⟨w.heap.size, 2, none⟩ = some (.slice ao x.kids.len cap) := by rw [h1]; exact hW2
    have bel1 : Below w.heap.size w w1 := by rw [h1]; exact hWb
    clear hW0 hW1 hW2 hWb
    obtain ⟨L, hL⟩ : ∃ L, L = [91] ++ x.kids.tx x.op true := ⟨_, rfl⟩
    have hTL : TX = L ++ [93] := by rw [hL]; exact hT
    have hLl := congrArg List.length hTL
    simp only [List.length_append, List.length_cons, List.length_nil] at hLl
    have HL := hd hL
    clear hL
    go_loopw [6, 7] (fun a i wr => ∃ (k : Nat) (o : ByteArray), k ≤ x.kids.len ∧ i = .int .i64 k ∧ a = .string o ∧ bys o ++ (x.kids.drp k).tx x.op (k == 0) = L ∧ Below w1.heap.size w1 wr) (fun _ i _ => x.kids.len - (intOf i).toNat)
    case atStart => exact ⟨0, _, Nat.zero_le _, rfl, rfl, by rw [Fo.drp_zero, HL.out]; rfl, Below.refl _ _⟩
    case round =>
      obtain ⟨k, o, hk, rfl, rfl, hm, hb⟩ := hrel
      have hz := hb.size
      have bel : Below w.heap.size w wr := bel1.trans (hb.mono bel1.size)
      have s0 := bkeep hb e0
      have s1 := bkeep hb e1
      have s2 := bkeep hb e2
      by_cases hlt : k < x.kids.len
      · obtain h0 | ⟨ba, oa, rfl, hia⟩ := hin
        · omega
        have kA : ∀ b o v, All b → w.cell? ⟨b, o, none⟩ = some v → All b ∧ wr.cell? ⟨b, o, none⟩ = some v := keep_cell (fun _ _ h => h) (Kp.of_below bel).block
        obtain ⟨ua, a0, a1, a2, hxa⟩ := ((hia.mono kA).at_ k hlt).xv
        have hxa' := hxa
        obtain ⟨_, e, _, aoa', capa', rfl, _⟩ := hxa'
        simp at e; subst e
        have IH := fun w hx hp => ih k hlt (.agg #[.int .i64 (x.kids.at_ k).op, .string (x.kids.at_ k).nm, .slice aoa' (x.kids.at_ k).kids.len capa']) w hx (Fo.bad_at0 HKB.out hlt) hp
        rw [Fo.tx_at x.op hlt] at hm
        have RD := fun w => rIn_any x.op (x.kids.at_ k).op x.nm (x.kids.at_ k).nm (some ⟨ba, oa, none⟩) aoa' x.kids.len (x.kids.at_ k).kids.len cap capa' w
        have hlp : lp x.op (x.kids.at_ k).op = if rnd x.op (x.kids.at_ k).op = true then [40] else [] := rfl
        have hrp : rp x.op (x.kids.at_ k).op = if rnd x.op (x.kids.at_ k).op = true then [41] else [] := rfl
        have HLT := hd hlt
        generalize x.kids.at_ k = xk at *
        by_cases hk0 : k = 0
        · have hkb : (k == 0) = true := by simpa using hk0
          rw [hkb] at hm
          simp only [if_true, List.nil_append] at hm
          have hkp : ¬ (0 : Int) < (k : Int) := by omega
          have HK0 := hd hk0
          clear hk0 hkb
          go_wp2_with fail
          have r0 := fun z : Wd wr => z.cell s0
          have r1 := fun z : Wd wr => z.cell s1
          have r2 := fun z : Wd wr => z.cell s2
          have q0 := fun z : Wd wr => z.cell a0
          have q1 := fun z : Wd wr => z.cell a1
          have q2 := fun z : Wd wr => z.cell a2
          have wne : Nonempty (Wd wr) := Wd.ne _
          have hxz := fun z : Wd wr => hxa.below z.h
          clear s0 s1 s2 a0 a1 a2 hxa
          refine region_quiet_lit (C := fun w' => ∃ z : Wd wr, w' = z.u) (by kernel_rfl) (by kernel_rfl) (Wd.drawn _) ?_
          iterate 6 (go_big_quiet_step (fail))
          go_big_quiet_step (exact calls_wd (RD _))
          refine wpQuiet_nil ?_
          intro _ hw'
          obtain ⟨z, hw''⟩ := hw'
          subst hw''
          have s0 := r0 z
          have s1 := r1 z
          have s2 := r2 z
          have a0 := q0 z
          have a1 := q1 z
          have a2 := q2 z
          have hxa := hxz z
          have bz : Below w1.heap.size w1 z.u := hb.trans (z.h.mono hb.size)
          generalize z.u = wz at *
          clear r0 r1 r2 q0 q1 q2 hxz RD
          cases hR : rnd x.op xk.op with
          | true =>
            have HRR := hd hR
            rw [hR] at hlp hrp
            simp only [if_true] at hlp hrp
            rw [hlp, hrp] at hm
            have hln := congrArg List.length hm
            simp only [List.length_append, List.length_cons, List.length_nil, bys_length] at hln
            clear hR
            go_wp2_with fail
            refine (IH _ hxa (by omega)).mono ?_
            rintro e w5 ⟨t, rfl, ht, ht9, hb5⟩
            have htl := bys_length t
            rw [ht] at htl
            have bz5 : Below w1.heap.size w1 w5 := bz.trans (hb5.mono bz.size)
            go_wp2_with fail
            go_roundw
            case rel => exact ⟨k + 1, _, by omega, by go_num, rfl, by rw [← hm]; simp only [bys_app, ht, List.append_assoc]; rfl, bz5⟩
            case measure => simp [intOf]; omega
          | false =>
            have HRR := hd hR
            rw [hR] at hlp hrp
            simp only [Bool.false_eq_true, if_false] at hlp hrp
            rw [hlp, hrp] at hm
            have hln := congrArg List.length hm
            simp only [List.length_append, List.length_nil, bys_length] at hln
            clear hR
            go_wp2_with fail
            refine (IH _ hxa (by omega)).mono ?_
            rintro e w5 ⟨t, rfl, ht, ht9, hb5⟩
            have htl := bys_length t
            rw [ht] at htl
            have bz5 : Below w1.heap.size w1 w5 := bz.trans (hb5.mono bz.size)
            go_wp2_with fail
            go_roundw
            case rel => exact ⟨k + 1, _, by omega, by go_num, rfl, by rw [← hm]; simp only [bys_app, ht, List.append_assoc, List.nil_append]; rfl, bz5⟩
            case measure => simp [intOf]; omega
        · have hkb : (k == 0) = false := by simpa using hk0
          rw [hkb] at hm
          simp only [Bool.false_eq_true, if_false] at hm
          have hkp : (0 : Int) < (k : Int) := by omega
          have := HK1.out
          have := HLT.out
          omega
      · rw [Fo.drp_end (by omega)] at hm
        simp only [Fo.tx, List.append_nil] at hm
        have hol := bys_length o
        rw [hm] at hol
        go_wp2_with fail
        go_ret
        refine ⟨_, rfl, ?_, ?_, bel⟩
        · rw [bys_app, hm, hTL]; rfl
        · rw [ByteArray.size_append]; show _ + 1 ≤ _; omega
  have n5 := hop
  clear hop
  by_cases hop : x.op = 6
  · have b1 : (x.op == 1) = false := by rw [hop]; decide
    have b2 : (x.op == 2) = false := by rw [hop]; decide
    have b4 : (x.op == 4) = false := by rw [hop]; decide
    have b5 : (x.op == 5) = false := by rw [hop]; decide
    have b6 : (x.op == 6) = true := by simpa using hop
    have b7 : (x.op == 7) = false := by rw [hop]; decide
    have hnz : x.nm = ⟨#[]⟩ := by rcases hkl with h | h | h | h; omega; exact h.2.1; exact h.2.1; exact h.2.1
    have hT : TX = [123] ++ x.kids.tx x.op true ++ [125] := by rw [htx.out, hop, hnz]; simp [bef, beh, bys]
    have hk1 : x.kids.len = 1 := by omega
    have HOP := hd hop
    have HK1 := hd hk1
    clear hop hkl hnz hk1
    go_enter Try.func38, Try.ntmps38
    go_wp2_with fail
    rw [← hW]
    have HW := hd hW
    clear hW
    obtain ⟨w1, h1⟩ : ∃ w1, w1 = W := ⟨_, rfl⟩
    rw [← h1]
    have e0 : w1.cell? ⟨w.heap.size, 0, none⟩ = some (.int .i64 x.op) := by rw [h1]; exact hW0
    have e1 : w1.cell? ⟨w.heap.size, 1, none⟩ = some (.string x.nm) := by rw [h1]; exact hW1
    have e2 : w1.cell? ⟨w.heap.size, 2, none⟩ = some (.slice ao x.kids.len cap) := by rw [h1]; exact hW2
    have bel1 : Below w.heap.size w w1 := by rw [h1]; exact hWb
    clear hW0 hW1 hW2 hWb
    obtain ⟨L, hL⟩ : ∃ L, L = [123] ++ x.kids.tx x.op true := ⟨_, rfl⟩
    have hTL : TX = L ++ [125] := by rw [hL]; exact hT
    have hLl := congrArg List.length hTL
    simp only [List.length_append, List.length_cons, List.length_nil] at hLl
    have HL := hd hL
    clear hL
    go_loopw [6, 7] (fun a i wr => ∃ (k : Nat) (o : ByteArray), k ≤ x.kids.len ∧ i = .int .i64 k ∧ a = .string o ∧ bys o ++ (x.kids.drp k).tx x.op (k == 0) = L ∧ Below w1.heap.size w1 wr) (fun _ i _ => x.kids.len - (intOf i).toNat)
    case atStart => exact ⟨0, _, Nat.zero_le _, rfl, rfl, by rw [Fo.drp_zero, HL.out]; rfl, Below.refl _ _⟩
    case round =>
      obtain ⟨k, o, hk, rfl, rfl, hm, hb⟩ := hrel
      have hz := hb.size
      have bel : Below w.heap.size w wr := bel1.trans (hb.mono bel1.size)
      have s0 := bkeep hb e0
      have s1 := bkeep hb e1
      have s2 := bkeep hb e2
      by_cases hlt : k < x.kids.len
      · obtain h0 | ⟨ba, oa, rfl, hia⟩ := hin
        · omega
        have kA : ∀ b o v, All b → w.cell? ⟨b, o, none⟩ = some v → All b ∧ wr.cell? ⟨b, o, none⟩ = some v := keep_cell (fun _ _ h => h) (Kp.of_below bel).block
        obtain ⟨ua, a0, a1, a2, hxa⟩ := ((hia.mono kA).at_ k hlt).xv
        have hxa' := hxa
        obtain ⟨_, e, _, aoa', capa', rfl, _⟩ := hxa'
        simp at e; subst e
        have IH := fun w hx hp => ih k hlt (.agg #[.int .i64 (x.kids.at_ k).op, .string (x.kids.at_ k).nm, .slice aoa' (x.kids.at_ k).kids.len capa']) w hx (Fo.bad_at0 HKB.out hlt) hp
        rw [Fo.tx_at x.op hlt] at hm
        have RD := fun w => rIn_any x.op (x.kids.at_ k).op x.nm (x.kids.at_ k).nm (some ⟨ba, oa, none⟩) aoa' x.kids.len (x.kids.at_ k).kids.len cap capa' w
        have hlp : lp x.op (x.kids.at_ k).op = if rnd x.op (x.kids.at_ k).op = true then [40] else [] := rfl
        have hrp : rp x.op (x.kids.at_ k).op = if rnd x.op (x.kids.at_ k).op = true then [41] else [] := rfl
        have HLT := hd hlt
        generalize x.kids.at_ k = xk at *
        by_cases hk0 : k = 0
        · have hkb : (k == 0) = true := by simpa using hk0
          rw [hkb] at hm
          simp only [if_true, List.nil_append] at hm
          have hkp : ¬ (0 : Int) < (k : Int) := by omega
          have HK0 := hd hk0
          clear hk0 hkb
          go_wp2_with fail
          have r0 := fun z : Wd wr => z.cell s0
          have r1 := fun z : Wd wr => z.cell s1
          have r2 := fun z : Wd wr => z.cell s2
          have q0 := fun z : Wd wr => z.cell a0
          have q1 := fun z : Wd wr => z.cell a1
          have q2 := fun z : Wd wr => z.cell a2
          have wne : Nonempty (Wd wr) := Wd.ne _
          have hxz := fun z : Wd wr => hxa.below z.h
          clear s0 s1 s2 a0 a1 a2 hxa
          refine region_quiet_lit (C := fun w' => ∃ z : Wd wr, w' = z.u) (by kernel_rfl) (by kernel_rfl) (Wd.drawn _) ?_
          iterate 6 (go_big_quiet_step (fail))
          go_big_quiet_step (exact calls_wd (RD _))
          refine wpQuiet_nil ?_
          intro _ hw'
          obtain ⟨z, hw''⟩ := hw'
          subst hw''
          have s0 := r0 z
          have s1 := r1 z
          have s2 := r2 z
          have a0 := q0 z
          have a1 := q1 z
          have a2 := q2 z
          have hxa := hxz z
          have bz : Below w1.heap.size w1 z.u := hb.trans (z.h.mono hb.size)
          generalize z.u = wz at *
          clear r0 r1 r2 q0 q1 q2 hxz RD
          cases hR : rnd x.op xk.op with
          | true =>
            have HRR := hd hR
            rw [hR] at hlp hrp
            simp only [if_true] at hlp hrp
            rw [hlp, hrp] at hm
            have hln := congrArg List.length hm
            simp only [List.length_append, List.length_cons, List.length_nil, bys_length] at hln
            clear hR
            go_wp2_with fail
            refine (IH _ hxa (by omega)).mono ?_
            rintro e w5 ⟨t, rfl, ht, ht9, hb5⟩
            have htl := bys_length t
            rw [ht] at htl
            have bz5 : Below w1.heap.size w1 w5 := bz.trans (hb5.mono bz.size)
            go_wp2_with fail
            go_roundw
            case rel => exact ⟨k + 1, _, by omega, by go_num, rfl, by rw [← hm]; simp only [bys_app, ht, List.append_assoc]; rfl, bz5⟩
            case measure => simp [intOf]; omega
          | false =>
            have HRR := hd hR
            rw [hR] at hlp hrp
            simp only [Bool.false_eq_true, if_false] at hlp hrp
            rw [hlp, hrp] at hm
            have hln := congrArg List.length hm
            simp only [List.length_append, List.length_nil, bys_length] at hln
            clear hR
            go_wp2_with fail
            refine (IH _ hxa (by omega)).mono ?_
            rintro e w5 ⟨t, rfl, ht, ht9, hb5⟩
            have htl := bys_length t
            rw [ht] at htl
            have bz5 : Below w1.heap.size w1 w5 := bz.trans (hb5.mono bz.size)
            go_wp2_with fail
            go_roundw
            case rel => exact ⟨k + 1, _, by omega, by go_num, rfl, by rw [← hm]; simp only [bys_app, ht, List.append_assoc, List.nil_append]; rfl, bz5⟩
            case measure => simp [intOf]; omega
        · have hkb : (k == 0) = false := by simpa using hk0
          rw [hkb] at hm
          simp only [Bool.false_eq_true, if_false] at hm
          have hkp : (0 : Int) < (k : Int) := by omega
          have := HK1.out
          have := HLT.out
          omega
      · rw [Fo.drp_end (by omega)] at hm
        simp only [Fo.tx, List.append_nil] at hm
        have hol := bys_length o
        rw [hm] at hol
        go_wp2_with fail
        go_ret
        refine ⟨_, rfl, ?_, ?_, bel⟩
        · rw [bys_app, hm, hTL]; rfl
        · rw [ByteArray.size_append]; show _ + 1 ≤ _; omega
  have n6 := hop
  clear hop
  by_cases hop : x.op = 7
  · have b1 : (x.op == 1) = false := by rw [hop]; decide
    have b2 : (x.op == 2) = false := by rw [hop]; decide
    have b4 : (x.op == 4) = false := by rw [hop]; decide
    have b5 : (x.op == 5) = false := by rw [hop]; decide
    have b6 : (x.op == 6) = false := by rw [hop]; decide
    have b7 : (x.op == 7) = true := by simpa using hop
    have hnz : x.nm = ⟨#[]⟩ := by rcases hkl with h | h | h | h; omega; exact h.2.1; exact h.2.1; exact h.2.1
    have hT : TX = [60] ++ x.kids.tx x.op true ++ [62] := by rw [htx.out, hop, hnz]; simp [bef, beh, bys]
    have hk1 : x.kids.len = 1 := by omega
    have HOP := hd hop
    have HK1 := hd hk1
    clear hop hkl hnz hk1
    go_enter Try.func38, Try.ntmps38
    go_wp2_with fail
    rw [← hW]
    have HW := hd hW
    clear hW
    obtain ⟨w1, h1⟩ : ∃ w1, w1 = W := ⟨_, rfl⟩
    rw [← h1]
    have e0 : w1.cell? ⟨w.heap.size, 0, none⟩ = some (.int .i64 x.op) := by rw [h1]; exact hW0
    have e1 : w1.cell? ⟨w.heap.size, 1, none⟩ = some (.string x.nm) := by rw [h1]; exact hW1
    have e2 : w1.cell? ⟨w.heap.size, 2, none⟩ = some (.slice ao x.kids.len cap) := by rw [h1]; exact hW2
    have bel1 : Below w.heap.size w w1 := by rw [h1]; exact hWb
    clear hW0 hW1 hW2 hWb
    obtain ⟨L, hL⟩ : ∃ L, L = [60] ++ x.kids.tx x.op true := ⟨_, rfl⟩
    have hTL : TX = L ++ [62] := by rw [hL]; exact hT
    have hLl := congrArg List.length hTL
    simp only [List.length_append, List.length_cons, List.length_nil] at hLl
    have HL := hd hL
    clear hL
    go_loopw [6, 7] (fun a i wr => ∃ (k : Nat) (o : ByteArray), k ≤ x.kids.len ∧ i = .int .i64 k ∧ a = .string o ∧ bys o ++ (x.kids.drp k).tx x.op (k == 0) = L ∧ Below w1.heap.size w1 wr) (fun _ i _ => x.kids.len - (intOf i).toNat)
    case atStart => exact ⟨0, _, Nat.zero_le _, rfl, rfl, by rw [Fo.drp_zero, HL.out]; rfl, Below.refl _ _⟩
    case round =>
      obtain ⟨k, o, hk, rfl, rfl, hm, hb⟩ := hrel
      have hz := hb.size
      have bel : Below w.heap.size w wr := bel1.trans (hb.mono bel1.size)
      have s0 := bkeep hb e0
      have s1 := bkeep hb e1
      have s2 := bkeep hb e2
      by_cases hlt : k < x.kids.len
      · obtain h0 | ⟨ba, oa, rfl, hia⟩ := hin
        · omega
        have kA : ∀ b o v, All b → w.cell? ⟨b, o, none⟩ = some v → All b ∧ wr.cell? ⟨b, o, none⟩ = some v := keep_cell (fun _ _ h => h) (Kp.of_below bel).block
        obtain ⟨ua, a0, a1, a2, hxa⟩ := ((hia.mono kA).at_ k hlt).xv
        have hxa' := hxa
        obtain ⟨_, e, _, aoa', capa', rfl, _⟩ := hxa'
        simp at e; subst e
        have IH := fun w hx hp => ih k hlt (.agg #[.int .i64 (x.kids.at_ k).op, .string (x.kids.at_ k).nm, .slice aoa' (x.kids.at_ k).kids.len capa']) w hx (Fo.bad_at0 HKB.out hlt) hp
        rw [Fo.tx_at x.op hlt] at hm
        have RD := fun w => rIn_any x.op (x.kids.at_ k).op x.nm (x.kids.at_ k).nm (some ⟨ba, oa, none⟩) aoa' x.kids.len (x.kids.at_ k).kids.len cap capa' w
        have hlp : lp x.op (x.kids.at_ k).op = if rnd x.op (x.kids.at_ k).op = true then [40] else [] := rfl
        have hrp : rp x.op (x.kids.at_ k).op = if rnd x.op (x.kids.at_ k).op = true then [41] else [] := rfl
        have HLT := hd hlt
        generalize x.kids.at_ k = xk at *
        by_cases hk0 : k = 0
        · have hkb : (k == 0) = true := by simpa using hk0
          rw [hkb] at hm
          simp only [if_true, List.nil_append] at hm
          have hkp : ¬ (0 : Int) < (k : Int) := by omega
          have HK0 := hd hk0
          clear hk0 hkb
          go_wp2_with fail
          have r0 := fun z : Wd wr => z.cell s0
          have r1 := fun z : Wd wr => z.cell s1
          have r2 := fun z : Wd wr => z.cell s2
          have q0 := fun z : Wd wr => z.cell a0
          have q1 := fun z : Wd wr => z.cell a1
          have q2 := fun z : Wd wr => z.cell a2
          have wne : Nonempty (Wd wr) := Wd.ne _
          have hxz := fun z : Wd wr => hxa.below z.h
          clear s0 s1 s2 a0 a1 a2 hxa
          refine region_quiet_lit (C := fun w' => ∃ z : Wd wr, w' = z.u) (by kernel_rfl) (by kernel_rfl) (Wd.drawn _) ?_
          iterate 6 (go_big_quiet_step (fail))
          go_big_quiet_step (exact calls_wd (RD _))
          refine wpQuiet_nil ?_
          intro _ hw'
          obtain ⟨z, hw''⟩ := hw'
          subst hw''
          have s0 := r0 z
          have s1 := r1 z
          have s2 := r2 z
          have a0 := q0 z
          have a1 := q1 z
          have a2 := q2 z
          have hxa := hxz z
          have bz : Below w1.heap.size w1 z.u := hb.trans (z.h.mono hb.size)
          generalize z.u = wz at *
          clear r0 r1 r2 q0 q1 q2 hxz RD
          cases hR : rnd x.op xk.op with
          | true =>
            have HRR := hd hR
            rw [hR] at hlp hrp
            simp only [if_true] at hlp hrp
            rw [hlp, hrp] at hm
            have hln := congrArg List.length hm
            simp only [List.length_append, List.length_cons, List.length_nil, bys_length] at hln
            clear hR
            go_wp2_with fail
            refine (IH _ hxa (by omega)).mono ?_
            rintro e w5 ⟨t, rfl, ht, ht9, hb5⟩
            have htl := bys_length t
            rw [ht] at htl
            have bz5 : Below w1.heap.size w1 w5 := bz.trans (hb5.mono bz.size)
            go_wp2_with fail
            go_roundw
            case rel => exact ⟨k + 1, _, by omega, by go_num, rfl, by rw [← hm]; simp only [bys_app, ht, List.append_assoc]; rfl, bz5⟩
            case measure => simp [intOf]; omega
          | false =>
            have HRR := hd hR
            rw [hR] at hlp hrp
            simp only [Bool.false_eq_true, if_false] at hlp hrp
            rw [hlp, hrp] at hm
            have hln := congrArg List.length hm
            simp only [List.length_append, List.length_nil, bys_length] at hln
            clear hR
            go_wp2_with fail
            refine (IH _ hxa (by omega)).mono ?_
            rintro e w5 ⟨t, rfl, ht, ht9, hb5⟩
            have htl := bys_length t
            rw [ht] at htl
            have bz5 : Below w1.heap.size w1 w5 := bz.trans (hb5.mono bz.size)
            go_wp2_with fail
            go_roundw
            case rel => exact ⟨k + 1, _, by omega, by go_num, rfl, by rw [← hm]; simp only [bys_app, ht, List.append_assoc, List.nil_append]; rfl, bz5⟩
            case measure => simp [intOf]; omega
        · have hkb : (k == 0) = false := by simpa using hk0
          rw [hkb] at hm
          simp only [Bool.false_eq_true, if_false] at hm
          have hkp : (0 : Int) < (k : Int) := by omega
          have := HK1.out
          have := HLT.out
          omega
      · rw [Fo.drp_end (by omega)] at hm
        simp only [Fo.tx, List.append_nil] at hm
        have hol := bys_length o
        rw [hm] at hol
        go_wp2_with fail
        go_ret
        refine ⟨_, rfl, ?_, ?_, bel⟩
        · rw [bys_app, hm, hTL]; rfl
        · rw [ByteArray.size_append]; show _ + 1 ≤ _; omega
  have n7 := hop
  clear hop
  omega
theorem et_all : ∀ (f : Fo) (i : Nat), i < f.len → EtOK (f.at_ i)
  | .nil, _, h => absurd h (Nat.not_lt_zero _)
  | .cons op nm kids _, 0, _ => et_head ⟨op, nm, kids⟩ (et_all kids)
  | .cons _ _ _ rest, i + 1, h => et_all rest i (by simpa [Fo.len] using h)
theorem et_any (x : Xp) : EtOK x := et_head x (et_all x.kids)
end Go.Proofs.Ytdikjhfnmkejcab
