/- Texts laid together: Rr Ro Re. -/
import Derived.Test.YtcanphhmflbdmacL14
import Derived.Deep.QuietTactic
import Derived.BigQuiet
/- The document's own counting: round brackets, parts, open brackets. -/
namespace Go.Proofs.Ytcanphhmflbdmac
open Go.RowKit
set_option maxRecDepth 100000 in
set_option maxHeartbeats 4000000 in
theorem rIn_any (b a : Int) (t s : ByteArray) (q p : Option Addr) (n m d c : Nat) (w : World) :
    Calls Try.prog 90 #[.agg #[.int .i64 b, .string t, .slice q n d], .agg #[.int .i64 a, .string s, .slice p m c]] w fun e w' => e = .returned (.bool (rnd b a)) ∧ Below w.heap.size w w' := by
  by_cases h3 : b = 3
  · subst h3
    have r : rnd 3 a = (a == 3 || a == 4) := by unfold rnd; cases (a == 3) <;> cases (a == 4) <;> rfl
    rw [r]
    go_enter Try.func90, Try.ntmps90
    go_wp2_with fail
    all_goals (go_ret; exact ⟨ret_bool (by simp_all), al2 _ _ _⟩)
  · by_cases h4 : b = 4
    · subst h4
      have r : rnd 4 a = (a == 4) := by unfold rnd; cases (a == 3) <;> cases (a == 4) <;> rfl
      rw [r]
      go_enter Try.func90, Try.ntmps90
      go_wp2_with fail
      all_goals (go_ret; exact ⟨ret_bool (by simp_all), al2 _ _ _⟩)
    · have r : rnd b a = false := by unfold rnd; simp [h3, h4]
      rw [r]
      go_enter Try.func90, Try.ntmps90
      go_wp2_with fail
      all_goals (go_ret; exact ⟨ret_bool (by simp_all), al2 _ _ _⟩)
def PoOK (x : Xp) : Prop := ∀ (va : Value) (w : World), XV w All va x → x.pts ≤ 9000 →
  Calls Try.prog 81 #[va] w fun e w' => e = .returned (.int .i64 ((x.pts : Nat) : Int)) ∧ Below w.heap.size w w'
set_option maxRecDepth 100000 in
set_option maxHeartbeats 8000000 in
theorem po_head (x : Xp) (ih : ∀ i, i < x.kids.len → PoOK (x.kids.at_ i)) : PoOK x := by
  intro va w hx h9
  obtain ⟨u, rfl, hl, ao, cap, rfl, hin⟩ := hx
  obtain ⟨W, hW⟩ : ∃ W, W = w.alloc (.cells #[.int .i64 x.op, .string x.nm, .slice ao x.kids.len cap] 64) := ⟨_, rfl⟩
  have hWz : W.heap.size = w.heap.size + 1 := by rw [hW]; simp
  have hWb : Below w.heap.size w W := by rw [hW]; exact (Below.refl _ _).alloc (Nat.le_refl _) _
  have hW0 : W.cell? ⟨w.heap.size, 0, none⟩ = some (.int .i64 x.op) := by rw [hW]; simp
  have hW1 : W.cell? ⟨w.heap.size, 1, none⟩ = some (.string x.nm) := by rw [hW]; simp
  have hW2 : W.cell? ⟨w.heap.size, 2, none⟩ = some (.slice ao x.kids.len cap) := by rw [hW]; simp
  have hpt : Hid (x.pts = own x.op x.kids.len + x.kids.pts x.op) := hd rfl
  have hmx : own x.op x.kids.len ≤ x.pts := by unfold Xp.pts; omega
  generalize x.pts = XP at *
  by_cases h4 : x.op = 4
  · have h3 : ¬ x.op = 3 := by omega
    have hb4 : (x.op == 4) = true := by simpa using h4
    by_cases hl1 : (1 : Int) < (x.kids.len : Int)
    · have hown : own x.op x.kids.len = x.kids.len - 1 := by simp [own, h4]
      have H4 := hd h4
      clear h4
      go_enter Try.func81, Try.ntmps81
      go_wp2_with fail
      rw [← hW]
      have HW := hd hW
      clear hW
      obtain ⟨w1, h1⟩ : ∃ w1, w1 = W := ⟨_, rfl⟩
      rw [← h1]
      have e0 : w1.cell? ⟨w.heap.size, 0, none⟩ = some (.int .i64 x.op) := by rw [h1]; exact hW0
      have e1 : w1.cell? ⟨w.heap.size, 1, none⟩ = some (.string x.nm) := by rw [h1]; exact hW1
      have e2 : w1.cell? ⟨w.heap.size, 2, none⟩ = some (.slice ao x.kids.len cap) := by rw [h1]; exact hW2
      have bel1 : Below w.heap.size w w1 := by rw [h1]; exact hWb
      clear hW0 hW1 hW2 hWb
      go_loopw [3, 4] (fun a i wr => ∃ (k m : Nat), k ≤ x.kids.len ∧ i = .int .i64 k ∧ a = .int .i64 m ∧ m + (x.kids.drp k).pts x.op = XP ∧ Below w1.heap.size w1 wr) (fun _ i _ => x.kids.len - (intOf i).toNat)
      case atStart => exact ⟨0, own x.op x.kids.len, Nat.zero_le _, rfl, by rw [hown]; congr 1; omega, by rw [Fo.drp_zero, hpt.out], Below.refl _ _⟩
      case round =>
        obtain ⟨k, m, hk, rfl, rfl, hm, hb⟩ := hrel
        have hz := hb.size
        have bel : Below w.heap.size w wr := bel1.trans (hb.mono bel1.size)
        have s0 := bkeep hb e0
        have s1 := bkeep hb e1
        have s2 := bkeep hb e2
        by_cases hlt : k < x.kids.len
        · obtain h0 | ⟨ba, oa, rfl, hia⟩ := hin
          · omega
          have kA : ∀ b o v, All b → w.cell? ⟨b, o, none⟩ = some v → All b ∧ wr.cell? ⟨b, o, none⟩ = some v := keep_cell (fun _ _ h => h) (Kp.of_below bel).block
          obtain ⟨ua, a0, a1, a2, hxa⟩ := ((hia.mono kA).at_ k hlt).xv
          have hxa' := hxa
          obtain ⟨_, e, _, aoa', capa', rfl, _⟩ := hxa'
          simp at e; subst e
          have IH := fun w hx hp => ih k hlt (.agg #[.int .i64 (x.kids.at_ k).op, .string (x.kids.at_ k).nm, .slice aoa' (x.kids.at_ k).kids.len capa']) w hx hp
          have hda := Fo.pts_at x.op hlt
          have hrn : rn1 x.op (x.kids.at_ k).op = if rnd x.op (x.kids.at_ k).op = true then 1 else 0 := rfl
          have RD := fun w => rIn_any x.op (x.kids.at_ k).op x.nm (x.kids.at_ k).nm (some ⟨ba, oa, none⟩) aoa' x.kids.len (x.kids.at_ k).kids.len cap capa' w
          have HLT := hd hlt
          generalize x.kids.at_ k = xk at *
          have IHw := IH wr hxa (by omega)
          generalize xk.pts = d at *
          go_wp2_with fail
          refine IHw.mono ?_
          rintro e w2 ⟨rfl, hb2⟩
          have bel2 : Below w1.heap.size w1 w2 := hb.trans (hb2.mono hb.size)
          have r0 := fun z : Wd w2 => z.cell (bkeep hb2 s0)
          have r1 := fun z : Wd w2 => z.cell (bkeep hb2 s1)
          have r2 := fun z : Wd w2 => z.cell (bkeep hb2 s2)
          have q0 := fun z : Wd w2 => z.cell (bkeep hb2 a0)
          have q1 := fun z : Wd w2 => z.cell (bkeep hb2 a1)
          have q2 := fun z : Wd w2 => z.cell (bkeep hb2 a2)
          have wne : Nonempty (Wd w2) := Wd.ne _
          have hmd : m + d ≤ 9000 := by omega
          clear s0 s1 s2 a0 a1 a2 hb2 IHw IH
          generalize rnd x.op xk.op = B at *
          go_wp2_with fail
          refine region_quiet_lit (C := fun w' => ∃ z : Wd w2, w' = z.u) (by kernel_rfl) (by kernel_rfl) (Wd.drawn _) ?_
          iterate 6 (go_big_quiet_step (fail))
          go_big_quiet_step (exact calls_wd (RD _))
          refine wpQuiet_nil ?_
          intro _ hw'
          obtain ⟨z, hw''⟩ := hw'
          subst hw''
          have bel3 : Below w1.heap.size w1 z.u := bel2.trans (z.h.mono bel2.size)
          cases B with
          | true =>
            simp only [if_true] at hrn
            go_wp2_with fail
            go_roundw
            case rel => exact ⟨k + 1, m + d + 1, by omega, by go_num, by go_num, by omega, bel3⟩
            case measure => simp [intOf]; omega
          | false =>
            simp only [Bool.false_eq_true, if_false] at hrn
            go_wp2_with fail
            go_roundw
            case rel => exact ⟨k + 1, m + d, by omega, by go_num, by go_num, by omega, bel3⟩
            case measure => simp [intOf]; omega
        · rw [Fo.drp_end (by omega)] at hm
          simp only [Fo.pts] at hm
          go_wp2_with fail
          go_ret
          exact ⟨ret_int (by omega), bel⟩
    · have hown : own x.op x.kids.len = 0 := by simp [own, h4]; omega
      have H4 := hd h4
      clear h4
      go_enter Try.func81, Try.ntmps81
      go_wp2_with fail
      rw [← hW]
      have HW := hd hW
      clear hW
      obtain ⟨w1, h1⟩ : ∃ w1, w1 = W := ⟨_, rfl⟩
      rw [← h1]
      have e0 : w1.cell? ⟨w.heap.size, 0, none⟩ = some (.int .i64 x.op) := by rw [h1]; exact hW0
      have e1 : w1.cell? ⟨w.heap.size, 1, none⟩ = some (.string x.nm) := by rw [h1]; exact hW1
      have e2 : w1.cell? ⟨w.heap.size, 2, none⟩ = some (.slice ao x.kids.len cap) := by rw [h1]; exact hW2
      have bel1 : Below w.heap.size w w1 := by rw [h1]; exact hWb
      clear hW0 hW1 hW2 hWb
      go_loopw [3, 4] (fun a i wr => ∃ (k m : Nat), k ≤ x.kids.len ∧ i = .int .i64 k ∧ a = .int .i64 m ∧ m + (x.kids.drp k).pts x.op = XP ∧ Below w1.heap.size w1 wr) (fun _ i _ => x.kids.len - (intOf i).toNat)
      case atStart => exact ⟨0, own x.op x.kids.len, Nat.zero_le _, rfl, by rw [hown]; rfl, by rw [Fo.drp_zero, hpt.out], Below.refl _ _⟩
      case round =>
        obtain ⟨k, m, hk, rfl, rfl, hm, hb⟩ := hrel
        have hz := hb.size
        have bel : Below w.heap.size w wr := bel1.trans (hb.mono bel1.size)
        have s0 := bkeep hb e0
        have s1 := bkeep hb e1
        have s2 := bkeep hb e2
        by_cases hlt : k < x.kids.len
        · obtain h0 | ⟨ba, oa, rfl, hia⟩ := hin
          · omega
          have kA : ∀ b o v, All b → w.cell? ⟨b, o, none⟩ = some v → All b ∧ wr.cell? ⟨b, o, none⟩ = some v := keep_cell (fun _ _ h => h) (Kp.of_below bel).block
          obtain ⟨ua, a0, a1, a2, hxa⟩ := ((hia.mono kA).at_ k hlt).xv
          have hxa' := hxa
          obtain ⟨_, e, _, aoa', capa', rfl, _⟩ := hxa'
          simp at e; subst e
          have IH := fun w hx hp => ih k hlt (.agg #[.int .i64 (x.kids.at_ k).op, .string (x.kids.at_ k).nm, .slice aoa' (x.kids.at_ k).kids.len capa']) w hx hp
          have hda := Fo.pts_at x.op hlt
          have hrn : rn1 x.op (x.kids.at_ k).op = if rnd x.op (x.kids.at_ k).op = true then 1 else 0 := rfl
          have RD := fun w => rIn_any x.op (x.kids.at_ k).op x.nm (x.kids.at_ k).nm (some ⟨ba, oa, none⟩) aoa' x.kids.len (x.kids.at_ k).kids.len cap capa' w
          have HLT := hd hlt
          generalize x.kids.at_ k = xk at *
          have IHw := IH wr hxa (by omega)
          generalize xk.pts = d at *
          go_wp2_with fail
          refine IHw.mono ?_
          rintro e w2 ⟨rfl, hb2⟩
          have bel2 : Below w1.heap.size w1 w2 := hb.trans (hb2.mono hb.size)
          have r0 := fun z : Wd w2 => z.cell (bkeep hb2 s0)
          have r1 := fun z : Wd w2 => z.cell (bkeep hb2 s1)
          have r2 := fun z : Wd w2 => z.cell (bkeep hb2 s2)
          have q0 := fun z : Wd w2 => z.cell (bkeep hb2 a0)
          have q1 := fun z : Wd w2 => z.cell (bkeep hb2 a1)
          have q2 := fun z : Wd w2 => z.cell (bkeep hb2 a2)
          have wne : Nonempty (Wd w2) := Wd.ne _
          have hmd : m + d ≤ 9000 := by omega
          clear s0 s1 s2 a0 a1 a2 hb2 IHw IH
          generalize rnd x.op xk.op = B at *
          go_wp2_with fail
          refine region_quiet_lit (C := fun w' => ∃ z : Wd w2, w' = z.u) (by kernel_rfl) (by kernel_rfl) (Wd.drawn _) ?_
          iterate 6 (go_big_quiet_step (fail))
          go_big_quiet_step (exact calls_wd (RD _))
          refine wpQuiet_nil ?_
          intro _ hw'
          obtain ⟨z, hw''⟩ := hw'
          subst hw''
          have bel3 : Below w1.heap.size w1 z.u := bel2.trans (z.h.mono bel2.size)
          cases B with
          | true =>
            simp only [if_true] at hrn
            go_wp2_with fail
            go_roundw
            case rel => exact ⟨k + 1, m + d + 1, by omega, by go_num, by go_num, by omega, bel3⟩
            case measure => simp [intOf]; omega
          | false =>
            simp only [Bool.false_eq_true, if_false] at hrn
            go_wp2_with fail
            go_roundw
            case rel => exact ⟨k + 1, m + d, by omega, by go_num, by go_num, by omega, bel3⟩
            case measure => simp [intOf]; omega
        · rw [Fo.drp_end (by omega)] at hm
          simp only [Fo.pts] at hm
          go_wp2_with fail
          go_ret
          exact ⟨ret_int (by omega), bel⟩
  have hb4 : (x.op == 4) = false := by simpa using h4
  by_cases h3 : x.op = 3
  · have hown : own x.op x.kids.len = 0 := by simp [own, h3]
    have hb3 : (x.op != 3) = false := by simpa using h3
    have H3 := hd h3
    clear h3
    go_enter Try.func81, Try.ntmps81
    go_wp2_with fail
    rw [← hW]
    have HW := hd hW
    clear hW
    obtain ⟨w1, h1⟩ : ∃ w1, w1 = W := ⟨_, rfl⟩
    rw [← h1]
    have e0 : w1.cell? ⟨w.heap.size, 0, none⟩ = some (.int .i64 x.op) := by rw [h1]; exact hW0
    have e1 : w1.cell? ⟨w.heap.size, 1, none⟩ = some (.string x.nm) := by rw [h1]; exact hW1
    have e2 : w1.cell? ⟨w.heap.size, 2, none⟩ = some (.slice ao x.kids.len cap) := by rw [h1]; exact hW2
    have bel1 : Below w.heap.size w w1 := by rw [h1]; exact hWb
    clear hW0 hW1 hW2 hWb
    go_loopw [3, 4] (fun a i wr => ∃ (k m : Nat), k ≤ x.kids.len ∧ i = .int .i64 k ∧ a = .int .i64 m ∧ m + (x.kids.drp k).pts x.op = XP ∧ Below w1.heap.size w1 wr) (fun _ i _ => x.kids.len - (intOf i).toNat)
    case atStart => exact ⟨0, own x.op x.kids.len, Nat.zero_le _, rfl, by rw [hown]; rfl, by rw [Fo.drp_zero, hpt.out], Below.refl _ _⟩
    case round =>
      obtain ⟨k, m, hk, rfl, rfl, hm, hb⟩ := hrel
      have hz := hb.size
      have bel : Below w.heap.size w wr := bel1.trans (hb.mono bel1.size)
      have s0 := bkeep hb e0
      have s1 := bkeep hb e1
      have s2 := bkeep hb e2
      by_cases hlt : k < x.kids.len
      · obtain h0 | ⟨ba, oa, rfl, hia⟩ := hin
        · omega
        have kA : ∀ b o v, All b → w.cell? ⟨b, o, none⟩ = some v → All b ∧ wr.cell? ⟨b, o, none⟩ = some v := keep_cell (fun _ _ h => h) (Kp.of_below bel).block
        obtain ⟨ua, a0, a1, a2, hxa⟩ := ((hia.mono kA).at_ k hlt).xv
        have hxa' := hxa
        obtain ⟨_, e, _, aoa', capa', rfl, _⟩ := hxa'
        simp at e; subst e
        have IH := fun w hx hp => ih k hlt (.agg #[.int .i64 (x.kids.at_ k).op, .string (x.kids.at_ k).nm, .slice aoa' (x.kids.at_ k).kids.len capa']) w hx hp
        have hda := Fo.pts_at x.op hlt
        have hrn : rn1 x.op (x.kids.at_ k).op = if rnd x.op (x.kids.at_ k).op = true then 1 else 0 := rfl
        have RD := fun w => rIn_any x.op (x.kids.at_ k).op x.nm (x.kids.at_ k).nm (some ⟨ba, oa, none⟩) aoa' x.kids.len (x.kids.at_ k).kids.len cap capa' w
        have HLT := hd hlt
        generalize x.kids.at_ k = xk at *
        have IHw := IH wr hxa (by omega)
        generalize xk.pts = d at *
        go_wp2_with fail
        refine IHw.mono ?_
        rintro e w2 ⟨rfl, hb2⟩
        have bel2 : Below w1.heap.size w1 w2 := hb.trans (hb2.mono hb.size)
        have r0 := fun z : Wd w2 => z.cell (bkeep hb2 s0)
        have r1 := fun z : Wd w2 => z.cell (bkeep hb2 s1)
        have r2 := fun z : Wd w2 => z.cell (bkeep hb2 s2)
        have q0 := fun z : Wd w2 => z.cell (bkeep hb2 a0)
        have q1 := fun z : Wd w2 => z.cell (bkeep hb2 a1)
        have q2 := fun z : Wd w2 => z.cell (bkeep hb2 a2)
        have wne : Nonempty (Wd w2) := Wd.ne _
        have hmd : m + d ≤ 9000 := by omega
        clear s0 s1 s2 a0 a1 a2 hb2 IHw IH
        generalize rnd x.op xk.op = B at *
        go_wp2_with fail
        refine region_quiet_lit (C := fun w' => ∃ z : Wd w2, w' = z.u) (by kernel_rfl) (by kernel_rfl) (Wd.drawn _) ?_
        iterate 6 (go_big_quiet_step (fail))
        go_big_quiet_step (exact calls_wd (RD _))
        refine wpQuiet_nil ?_
        intro _ hw'
        obtain ⟨z, hw''⟩ := hw'
        subst hw''
        have bel3 : Below w1.heap.size w1 z.u := bel2.trans (z.h.mono bel2.size)
        cases B with
        | true =>
          simp only [if_true] at hrn
          go_wp2_with fail
          go_roundw
          case rel => exact ⟨k + 1, m + d + 1, by omega, by go_num, by go_num, by omega, bel3⟩
          case measure => simp [intOf]; omega
        | false =>
          simp only [Bool.false_eq_true, if_false] at hrn
          go_wp2_with fail
          go_roundw
          case rel => exact ⟨k + 1, m + d, by omega, by go_num, by go_num, by omega, bel3⟩
          case measure => simp [intOf]; omega
      · rw [Fo.drp_end (by omega)] at hm
        simp only [Fo.pts] at hm
        go_wp2_with fail
        go_ret
        exact ⟨ret_int (by omega), bel⟩
  have hown : own x.op x.kids.len = 1 := by simp [own, h3, h4]
  have hb3 : (x.op != 3) = true := by simpa using h3
  go_enter Try.func81, Try.ntmps81
  go_wp2_with fail
  rw [← hW]
  have HW := hd hW
  clear hW
  obtain ⟨w1, h1⟩ : ∃ w1, w1 = W := ⟨_, rfl⟩
  rw [← h1]
  have e0 : w1.cell? ⟨w.heap.size, 0, none⟩ = some (.int .i64 x.op) := by rw [h1]; exact hW0
  have e1 : w1.cell? ⟨w.heap.size, 1, none⟩ = some (.string x.nm) := by rw [h1]; exact hW1
  have e2 : w1.cell? ⟨w.heap.size, 2, none⟩ = some (.slice ao x.kids.len cap) := by rw [h1]; exact hW2
  have bel1 : Below w.heap.size w w1 := by rw [h1]; exact hWb
  clear hW0 hW1 hW2 hWb
  go_loopw [3, 4] (fun a i wr => ∃ (k m : Nat), k ≤ x.kids.len ∧ i = .int .i64 k ∧ a = .int .i64 m ∧ m + (x.kids.drp k).pts x.op = XP ∧ Below w1.heap.size w1 wr) (fun _ i _ => x.kids.len - (intOf i).toNat)
  case atStart => exact ⟨0, own x.op x.kids.len, Nat.zero_le _, rfl, by rw [hown]; rfl, by rw [Fo.drp_zero, hpt.out], Below.refl _ _⟩
  case round =>
    obtain ⟨k, m, hk, rfl, rfl, hm, hb⟩ := hrel
    have hz := hb.size
    have bel : Below w.heap.size w wr := bel1.trans (hb.mono bel1.size)
    have s0 := bkeep hb e0
    have s1 := bkeep hb e1
    have s2 := bkeep hb e2
    by_cases hlt : k < x.kids.len
    · obtain h0 | ⟨ba, oa, rfl, hia⟩ := hin
      · omega
      have kA : ∀ b o v, All b → w.cell? ⟨b, o, none⟩ = some v → All b ∧ wr.cell? ⟨b, o, none⟩ = some v := keep_cell (fun _ _ h => h) (Kp.of_below bel).block
      obtain ⟨ua, a0, a1, a2, hxa⟩ := ((hia.mono kA).at_ k hlt).xv
      have hxa' := hxa
      obtain ⟨_, e, _, aoa', capa', rfl, _⟩ := hxa'
      simp at e; subst e
      have IH := fun w hx hp => ih k hlt (.agg #[.int .i64 (x.kids.at_ k).op, .string (x.kids.at_ k).nm, .slice aoa' (x.kids.at_ k).kids.len capa']) w hx hp
      have hda := Fo.pts_at x.op hlt
      have hrn : rn1 x.op (x.kids.at_ k).op = if rnd x.op (x.kids.at_ k).op = true then 1 else 0 := rfl
      have RD := fun w => rIn_any x.op (x.kids.at_ k).op x.nm (x.kids.at_ k).nm (some ⟨ba, oa, none⟩) aoa' x.kids.len (x.kids.at_ k).kids.len cap capa' w
      have HLT := hd hlt
      generalize x.kids.at_ k = xk at *
      have IHw := IH wr hxa (by omega)
      generalize xk.pts = d at *
      go_wp2_with fail
      refine IHw.mono ?_
      rintro e w2 ⟨rfl, hb2⟩
      have bel2 : Below w1.heap.size w1 w2 := hb.trans (hb2.mono hb.size)
      have r0 := fun z : Wd w2 => z.cell (bkeep hb2 s0)
      have r1 := fun z : Wd w2 => z.cell (bkeep hb2 s1)
      have r2 := fun z : Wd w2 => z.cell (bkeep hb2 s2)
      have q0 := fun z : Wd w2 => z.cell (bkeep hb2 a0)
      have q1 := fun z : Wd w2 => z.cell (bkeep hb2 a1)
      have q2 := fun z : Wd w2 => z.cell (bkeep hb2 a2)
      have wne : Nonempty (Wd w2) := Wd.ne _
      have hmd : m + d ≤ 9000 := by omega
      clear s0 s1 s2 a0 a1 a2 hb2 IHw IH
      generalize rnd x.op xk.op = B at *
      go_wp2_with fail
      refine region_quiet_lit (C := fun w' => ∃ z : Wd w2, w' = z.u) (by kernel_rfl) (by kernel_rfl) (Wd.drawn _) ?_
      iterate 6 (go_big_quiet_step (fail))
      go_big_quiet_step (exact calls_wd (RD _))
      refine wpQuiet_nil ?_
      intro _ hw'
      obtain ⟨z, hw''⟩ := hw'
      subst hw''
      have bel3 : Below w1.heap.size w1 z.u := bel2.trans (z.h.mono bel2.size)
      cases B with
      | true =>
        simp only [if_true] at hrn
        go_wp2_with fail
        go_roundw
        case rel => exact ⟨k + 1, m + d + 1, by omega, by go_num, by go_num, by omega, bel3⟩
        case measure => simp [intOf]; omega
      | false =>
        simp only [Bool.false_eq_true, if_false] at hrn
        go_wp2_with fail
        go_roundw
        case rel => exact ⟨k + 1, m + d, by omega, by go_num, by go_num, by omega, bel3⟩
        case measure => simp [intOf]; omega
    · rw [Fo.drp_end (by omega)] at hm
      simp only [Fo.pts] at hm
      go_wp2_with fail
      go_ret
      exact ⟨ret_int (by omega), bel⟩
theorem po_all : ∀ (f : Fo) (i : Nat), i < f.len → PoOK (f.at_ i)
  | .nil, _, h => absurd h (Nat.not_lt_zero _)
  | .cons op nm kids _, 0, _ => po_head ⟨op, nm, kids⟩ (po_all kids)
  | .cons _ _ _ rest, i + 1, h => po_all rest i (by simpa [Fo.len] using h)
theorem po_any (x : Xp) : PoOK x := po_head x (po_all x.kids)
end Go.Proofs.Ytcanphhmflbdmac

/- The document's own look at expressions: open brackets, faults. -/
namespace Go.Proofs.Ytcanphhmflbdmac
open Go.RowKit
def DoOK (x : Xp) : Prop := ∀ (va : Value) (w : World), XV w All va x → x.dp ≤ 9000 →
  Calls Try.prog 82 #[va] w fun e w' => e = .returned (.int .i64 ((x.dp : Nat) : Int)) ∧ Below w.heap.size w w'
set_option maxRecDepth 100000 in
set_option maxHeartbeats 8000000 in
theorem do_head (x : Xp) (ih : ∀ i, i < x.kids.len → DoOK (x.kids.at_ i)) : DoOK x := by
  intro va w hx hd9
  obtain ⟨u, rfl, hl, ao, cap, rfl, hin⟩ := hx
  obtain ⟨W, hW⟩ : ∃ W, W = w.alloc (.cells #[.int .i64 x.op, .string x.nm, .slice ao x.kids.len cap] 64) := ⟨_, rfl⟩
  have hWz : W.heap.size = w.heap.size + 1 := by rw [hW]; simp
  have hWb : Below w.heap.size w W := by rw [hW]; exact (Below.refl _ _).alloc (Nat.le_refl _) _
  have hW0 : W.cell? ⟨w.heap.size, 0, none⟩ = some (.int .i64 x.op) := by rw [hW]; simp
  have hW1 : W.cell? ⟨w.heap.size, 1, none⟩ = some (.string x.nm) := by rw [hW]; simp
  have hW2 : W.cell? ⟨w.heap.size, 2, none⟩ = some (.slice ao x.kids.len cap) := by rw [hW]; simp
  have hdp : x.dp = x.kids.dp x.op := rfl
  have Hdp := hd hdp
  generalize x.dp = D at *
  go_enter Try.func82, Try.ntmps82
  go_wp2_with fail
  rw [← hW]
  have HW := hd hW
  clear hW
  obtain ⟨w1, h1⟩ : ∃ w1, w1 = W := ⟨_, rfl⟩
  rw [← h1]
  have e0 : w1.cell? ⟨w.heap.size, 0, none⟩ = some (.int .i64 x.op) := by rw [h1]; exact hW0
  have e1 : w1.cell? ⟨w.heap.size, 1, none⟩ = some (.string x.nm) := by rw [h1]; exact hW1
  have e2 : w1.cell? ⟨w.heap.size, 2, none⟩ = some (.slice ao x.kids.len cap) := by rw [h1]; exact hW2
  have bel1 : Below w.heap.size w w1 := by rw [h1]; exact hWb
  clear hW0 hW1 hW2 hWb
  go_loopw [3, 4] (fun a i wr => ∃ (k m : Nat), k ≤ x.kids.len ∧ i = .int .i64 k ∧ a = .int .i64 m ∧ max m ((x.kids.drp k).dp x.op) = D ∧ Below w1.heap.size w1 wr) (fun _ i _ => x.kids.len - (intOf i).toNat)
  case atStart => exact ⟨0, 0, Nat.zero_le _, rfl, rfl, by rw [Fo.drp_zero, hdp]; omega, Below.refl _ _⟩
  case round =>
    obtain ⟨k, m, hk, rfl, rfl, hm, hb⟩ := hrel
    have hz := hb.size
    have bel : Below w.heap.size w wr := bel1.trans (hb.mono bel1.size)
    have s0 := bkeep hb e0
    have s1 := bkeep hb e1
    have s2 := bkeep hb e2
    by_cases hlt : k < x.kids.len
    · obtain h0 | ⟨ba, oa, rfl, hia⟩ := hin
      · omega
      have kA : ∀ b o v, All b → w.cell? ⟨b, o, none⟩ = some v → All b ∧ wr.cell? ⟨b, o, none⟩ = some v := keep_cell (fun _ _ h => h) (Kp.of_below bel).block
      obtain ⟨ua, a0, a1, a2, hxa⟩ := ((hia.mono kA).at_ k hlt).xv
      have hxa' := hxa
      obtain ⟨_, e, _, aoa', capa', rfl, _⟩ := hxa'
      simp at e; subst e
      have IH := fun w hx hp => ih k hlt (.agg #[.int .i64 (x.kids.at_ k).op, .string (x.kids.at_ k).nm, .slice aoa' (x.kids.at_ k).kids.len capa']) w hx hp
      have hda := Fo.dp_at x.op hlt
      have hbr : br1 x.op (x.kids.at_ k).op = if 5 ≤ x.op ∨ rnd x.op (x.kids.at_ k).op = true then 1 else 0 := rfl
      have RD := fun w => rIn_any x.op (x.kids.at_ k).op x.nm (x.kids.at_ k).nm (some ⟨ba, oa, none⟩) aoa' x.kids.len (x.kids.at_ k).kids.len cap capa' w
      have HLT := hd hlt
      generalize x.kids.at_ k = xk at *
      have IHw := IH wr hxa (by omega)
      generalize xk.dp = d at *
      go_wp2_with fail
      refine IHw.mono ?_
      rintro e w2 ⟨rfl, hb2⟩
      have bel2 : Below w1.heap.size w1 w2 := hb.trans (hb2.mono hb.size)
      have r0 := fun z : Wd w2 => z.cell (bkeep hb2 s0)
      have r1 := fun z : Wd w2 => z.cell (bkeep hb2 s1)
      have r2 := fun z : Wd w2 => z.cell (bkeep hb2 s2)
      have q0 := fun z : Wd w2 => z.cell (bkeep hb2 a0)
      have q1 := fun z : Wd w2 => z.cell (bkeep hb2 a1)
      have q2 := fun z : Wd w2 => z.cell (bkeep hb2 a2)
      have wne : Nonempty (Wd w2) := Wd.ne _
      clear s0 s1 s2 a0 a1 a2 hb2 IHw IH
      by_cases h5 : 5 ≤ x.op
      · have hg : decide ((5 : Int) ≤ x.op) = true := by simpa using h5
        simp only [h5, true_or, if_true] at hbr
        go_wp2_with fail
        refine region_quiet_lit (C := fun w' => ∃ z : Wd w2, w' = z.u) (by kernel_rfl) (by kernel_rfl) (Wd.drawn _) ?_
        iterate 12 (go_big_quiet_step (fail))
        refine wpQuiet_nil ?_
        intro _ hw'
        obtain ⟨z, hw''⟩ := hw'
        subst hw''
        have bel3 : Below w1.heap.size w1 z.u := bel2.trans (z.h.mono bel2.size)
        by_cases hgt : (m : Int) < ((d + 1 : Nat) : Int)
        · go_wp2_with fail
          go_roundw
          case rel => exact ⟨k + 1, d + 1, by omega, by go_num, by go_num, by omega, bel3⟩
          case measure => simp [intOf]; omega
        · go_wp2_with fail
          go_roundw
          case rel => exact ⟨k + 1, m, by omega, by go_num, by go_num, by omega, bel3⟩
          case measure => simp [intOf]; omega
      · have hg : decide ((5 : Int) ≤ x.op) = false := by simpa using h5
        have H5 := hd h5
        have hbr' : br1 x.op xk.op = if rnd x.op xk.op = true then 1 else 0 := by rw [hbr]; simp [h5]
        clear h5 hbr
        generalize rnd x.op xk.op = B at *
        go_wp2_with fail
        refine region_quiet_lit (C := fun w' => ∃ z : Wd w2, w' = z.u) (by kernel_rfl) (by kernel_rfl) (Wd.drawn _) ?_
        iterate 10 (go_big_quiet_step (fail))
        go_big_quiet_step (exact calls_wd (RD _))
        go_big_quiet_step (fail)
        cases B with
        | true =>
          simp only [if_true] at hbr'
          refine wpQuiet_nil ?_
          intro _ hw'
          obtain ⟨z, hw''⟩ := hw'
          subst hw''
          have bel3 : Below w1.heap.size w1 z.u := bel2.trans (z.h.mono bel2.size)
          by_cases hgt : (m : Int) < ((d + 1 : Nat) : Int)
          · go_wp2_with fail
            go_roundw
            case rel => exact ⟨k + 1, d + 1, by omega, by go_num, by go_num, by omega, bel3⟩
            case measure => simp [intOf]; omega
          · go_wp2_with fail
            go_roundw
            case rel => exact ⟨k + 1, m, by omega, by go_num, by go_num, by omega, bel3⟩
            case measure => simp [intOf]; omega
        | false =>
          simp only [Bool.false_eq_true, if_false] at hbr'
          refine wpQuiet_nil ?_
          intro _ hw'
          obtain ⟨z, hw''⟩ := hw'
          subst hw''
          have bel3 : Below w1.heap.size w1 z.u := bel2.trans (z.h.mono bel2.size)
          by_cases hgt : (m : Int) < ((d : Nat) : Int)
          · go_wp2_with fail
            go_roundw
            case rel => exact ⟨k + 1, d, by omega, by go_num, by go_num, by omega, bel3⟩
            case measure => simp [intOf]; omega
          · go_wp2_with fail
            go_roundw
            case rel => exact ⟨k + 1, m, by omega, by go_num, by go_num, by omega, bel3⟩
            case measure => simp [intOf]; omega
    · rw [Fo.drp_end (by omega)] at hm
      simp only [Fo.dp] at hm
      go_wp2_with fail
      go_ret
      exact ⟨ret_int (by omega), bel⟩
theorem do_all : ∀ (f : Fo) (i : Nat), i < f.len → DoOK (f.at_ i)
  | .nil, _, h => absurd h (Nat.not_lt_zero _)
  | .cons op nm kids _, 0, _ => do_head ⟨op, nm, kids⟩ (do_all kids)
  | .cons _ _ _ rest, i + 1, h => do_all rest i (by simpa [Fo.len] using h)
theorem do_any (x : Xp) : DoOK x := do_head x (do_all x.kids)
end Go.Proofs.Ytcanphhmflbdmac

/- The document's own look at expressions: the first fault. -/
namespace Go.Proofs.Ytcanphhmflbdmac
open Go.RowKit
def EfOK (x : Xp) : Prop := ∀ (va : Value) (w : World), XV w All va x → x.sh →
  Calls Try.prog 83 #[va] w fun e w' => e = .returned (.int .i64 x.bad) ∧ Below w.heap.size w w'
set_option maxRecDepth 100000 in
set_option maxHeartbeats 16000000 in
theorem ef_head (x : Xp) (ih : ∀ i, i < x.kids.len → EfOK (x.kids.at_ i)) : EfOK x := by
  intro va w hx hsh
  obtain ⟨u, rfl, hl, ao, cap, rfl, hin⟩ := hx
  obtain ⟨W, hW⟩ : ∃ W, W = w.alloc (.cells #[.int .i64 x.op, .string x.nm, .slice ao x.kids.len cap] 64) := ⟨_, rfl⟩
  have hWz : W.heap.size = w.heap.size + 1 := by rw [hW]; simp
  have hWb : Below w.heap.size w W := by rw [hW]; exact (Below.refl _ _).alloc (Nat.le_refl _) _
  have hW0 : W.cell? ⟨w.heap.size, 0, none⟩ = some (.int .i64 x.op) := by rw [hW]; simp
  have hW1 : W.cell? ⟨w.heap.size, 1, none⟩ = some (.string x.nm) := by rw [hW]; simp
  have hW2 : W.cell? ⟨w.heap.size, 2, none⟩ = some (.slice ao x.kids.len cap) := by rw [hW]; simp
  have hx9 : x.nm.size ≤ maxLen := by unfold maxLen; have := hsh.1; omega
  have TM := fun w => rIsTerm_any x.nm w hx9
  have NM := fun w => rIsName_any x.nm w hx9
  have hbd : Hid (x.bad = if code x.op x.nm x.kids.len ≠ 0 then code x.op x.nm x.kids.len else x.kids.bad) := hd rfl
  have HSH := hd hsh
  clear hsh hx9
  generalize x.bad = D at *
  by_cases hop : x.op = 1
  · have b1 : (x.op == 1) = true := by simpa using hop
    have b2 : (x.op == 2) = false := by rw [hop]; decide
    have b3 : (x.op == 3) = false := by rw [hop]; decide
    have b4 : (x.op == 4) = false := by rw [hop]; decide
    have b5 : (x.op == 5) = false := by rw [hop]; decide
    have b6 : (x.op == 6) = false := by rw [hop]; decide
    have b7 : (x.op == 7) = false := by rw [hop]; decide
    by_cases hn : x.kids.len = 0
    · have f1 : ((x.kids.len : Int) == 0) = true := by rw [hn]; rfl
      cases hB : isTermB x.nm with
      | true =>
        have hD : D = x.kids.bad := by rw [hbd.out]; simp [code, formB, namB, hop, hn, hB]
        rw [hB] at TM
        have HOP := hd hop
        have HN := hd hn
        have HB := hd hB
        clear hop hbd hn hB
        go_enter Try.func83, Try.ntmps83
        go_wp2_with fail
        refine (TM _).mono ?_
        rintro e wx ⟨rfl, rfl⟩
        go_wp2_with fail
        rw [← hW]
        have HW := hd hW
        clear hW
        obtain ⟨w1, h1⟩ : ∃ w1, w1 = W := ⟨_, rfl⟩
        rw [← h1]
        have e0 : w1.cell? ⟨w.heap.size, 0, none⟩ = some (.int .i64 x.op) := by rw [h1]; exact hW0
        have e1 : w1.cell? ⟨w.heap.size, 1, none⟩ = some (.string x.nm) := by rw [h1]; exact hW1
        have e2 : w1.cell? ⟨w.heap.size, 2, none⟩ = some (.slice ao x.kids.len cap) := by rw [h1]; exact hW2
        have bel1 : Below w.heap.size w w1 := by rw [h1]; exact hWb
        clear hW0 hW1 hW2 hWb
        go_loopw [5] (fun i wr => ∃ (k : Nat), k ≤ x.kids.len ∧ i = .int .i64 k ∧ (x.kids.drp k).bad = D ∧ Below w1.heap.size w1 wr) (fun i _ => x.kids.len - (intOf i).toNat)
        case atStart => exact ⟨0, Nat.zero_le _, rfl, by rw [Fo.drp_zero, hD], Below.refl _ _⟩
        case round =>
          obtain ⟨k, hk, rfl, hm, hb⟩ := hrel
          have hz := hb.size
          have bel : Below w.heap.size w wr := bel1.trans (hb.mono bel1.size)
          have s0 := bkeep hb e0
          have s1 := bkeep hb e1
          have s2 := bkeep hb e2
          by_cases hlt : k < x.kids.len
          · have := HN.out
            omega
          · rw [Fo.drp_end (by omega)] at hm
            simp only [Fo.bad] at hm
            go_wp2_with fail
            go_ret
            exact ⟨ret_int hm, bel⟩
      | false =>
        have hD : D = 2 := by rw [hbd.out]; simp [code, formB, namB, hop, hn, hB]
        rw [hB] at TM
        have HOP := hd hop
        have HN := hd hn
        have HB := hd hB
        clear hop hbd hn hB
        subst hD
        go_enter Try.func83, Try.ntmps83
        go_wp2_with fail
        refine (TM _).mono ?_
        rintro e wx ⟨rfl, rfl⟩
        go_wp2_with fail
        go_ret
        exact ⟨rfl, by rw [← hW]; exact hWb⟩
    · have f1 : ((x.kids.len : Int) == 0) = false := by rw [beq_eq_false_iff_ne]; omega
      have hD : D = 3 := by rw [hbd.out]; simp [code, formB, hop, hn]
      have HOP := hd hop
      have HN := hd hn
      clear hop hbd hn
      subst hD
      go_enter Try.func83, Try.ntmps83
      go_wp2_with fail
      go_ret
      exact ⟨rfl, by rw [← hW]; exact hWb⟩
  have n1 := hop
  clear hop
  by_cases hop : x.op = 2
  · have b1 : (x.op == 1) = false := by rw [hop]; decide
    have b2 : (x.op == 2) = true := by simpa using hop
    have b3 : (x.op == 3) = false := by rw [hop]; decide
    have b4 : (x.op == 4) = false := by rw [hop]; decide
    have b5 : (x.op == 5) = false := by rw [hop]; decide
    have b6 : (x.op == 6) = false := by rw [hop]; decide
    have b7 : (x.op == 7) = false := by rw [hop]; decide
    by_cases hn : x.kids.len = 0
    · have f1 : ((x.kids.len : Int) == 0) = true := by rw [hn]; rfl
      cases hB : isNameB x.nm with
      | true =>
        have hD : D = x.kids.bad := by rw [hbd.out]; simp [code, formB, namB, hop, hn, hB]
        rw [hB] at NM
        have HOP := hd hop
        have HN := hd hn
        have HB := hd hB
        clear hop hbd hn hB
        go_enter Try.func83, Try.ntmps83
        go_wp2_with fail
        refine (NM _).mono ?_
        rintro e wx ⟨rfl, rfl⟩
        go_wp2_with fail
        rw [← hW]
        have HW := hd hW
        clear hW
        obtain ⟨w1, h1⟩ : ∃ w1, w1 = W := ⟨_, rfl⟩
        rw [← h1]
        have e0 : w1.cell? ⟨w.heap.size, 0, none⟩ = some (.int .i64 x.op) := by rw [h1]; exact hW0
        have e1 : w1.cell? ⟨w.heap.size, 1, none⟩ = some (.string x.nm) := by rw [h1]; exact hW1
        have e2 : w1.cell? ⟨w.heap.size, 2, none⟩ = some (.slice ao x.kids.len cap) := by rw [h1]; exact hW2
        have bel1 : Below w.heap.size w w1 := by rw [h1]; exact hWb
        clear hW0 hW1 hW2 hWb
        go_loopw [5] (fun i wr => ∃ (k : Nat), k ≤ x.kids.len ∧ i = .int .i64 k ∧ (x.kids.drp k).bad = D ∧ Below w1.heap.size w1 wr) (fun i _ => x.kids.len - (intOf i).toNat)
        case atStart => exact ⟨0, Nat.zero_le _, rfl, by rw [Fo.drp_zero, hD], Below.refl _ _⟩
        case round =>
          obtain ⟨k, hk, rfl, hm, hb⟩ := hrel
          have hz := hb.size
          have bel : Below w.heap.size w wr := bel1.trans (hb.mono bel1.size)
          have s0 := bkeep hb e0
          have s1 := bkeep hb e1
          have s2 := bkeep hb e2
          by_cases hlt : k < x.kids.len
          · have := HN.out
            omega
          · rw [Fo.drp_end (by omega)] at hm
            simp only [Fo.bad] at hm
            go_wp2_with fail
            go_ret
            exact ⟨ret_int hm, bel⟩
      | false =>
        have hD : D = 2 := by rw [hbd.out]; simp [code, formB, namB, hop, hn, hB]
        rw [hB] at NM
        have HOP := hd hop
        have HN := hd hn
        have HB := hd hB
        clear hop hbd hn hB
        subst hD
        go_enter Try.func83, Try.ntmps83
        go_wp2_with fail
        refine (NM _).mono ?_
        rintro e wx ⟨rfl, rfl⟩
        go_wp2_with fail
        go_ret
        exact ⟨rfl, by rw [← hW]; exact hWb⟩
    · have f1 : ((x.kids.len : Int) == 0) = false := by rw [beq_eq_false_iff_ne]; omega
      have hD : D = 3 := by rw [hbd.out]; simp [code, formB, hop, hn]
      have HOP := hd hop
      have HN := hd hn
      clear hop hbd hn
      subst hD
      go_enter Try.func83, Try.ntmps83
      go_wp2_with fail
      go_ret
      exact ⟨rfl, by rw [← hW]; exact hWb⟩
  have n2 := hop
  clear hop
  by_cases hop : x.op = 3
  · have b1 : (x.op == 1) = false := by rw [hop]; decide
    have b2 : (x.op == 2) = false := by rw [hop]; decide
    have b3 : (x.op == 3) = true := by simpa using hop
    have b4 : (x.op == 4) = false := by rw [hop]; decide
    have b5 : (x.op == 5) = false := by rw [hop]; decide
    have b6 : (x.op == 6) = false := by rw [hop]; decide
    have b7 : (x.op == 7) = false := by rw [hop]; decide
    by_cases hn : ¬ x.kids.len = 1
    · have f1 : ((x.kids.len : Int) != 1) = true := by simp; omega
      by_cases hs : x.nm.size = 0
      · have f2 := toList0 hs
        have hD : D = x.kids.bad := by rw [hbd.out]; simp only [code, formB, namB, hop]; simp [hn, hs]
        have HOP := hd hop
        have HN := hd hn
        have HS := hd hs
        clear hop hbd hn hs
        go_enter Try.func83, Try.ntmps83
        go_wp2_with fail
        rw [← hW]
        have HW := hd hW
        clear hW
        obtain ⟨w1, h1⟩ : ∃ w1, w1 = W := ⟨_, rfl⟩
        rw [← h1]
        have e0 : w1.cell? ⟨w.heap.size, 0, none⟩ = some (.int .i64 x.op) := by rw [h1]; exact hW0
        have e1 : w1.cell? ⟨w.heap.size, 1, none⟩ = some (.string x.nm) := by rw [h1]; exact hW1
        have e2 : w1.cell? ⟨w.heap.size, 2, none⟩ = some (.slice ao x.kids.len cap) := by rw [h1]; exact hW2
        have bel1 : Below w.heap.size w w1 := by rw [h1]; exact hWb
        clear hW0 hW1 hW2 hWb
        go_loopw [5] (fun i wr => ∃ (k : Nat), k ≤ x.kids.len ∧ i = .int .i64 k ∧ (x.kids.drp k).bad = D ∧ Below w1.heap.size w1 wr) (fun i _ => x.kids.len - (intOf i).toNat)
        case atStart => exact ⟨0, Nat.zero_le _, rfl, by rw [Fo.drp_zero, hD], Below.refl _ _⟩
        case round =>
          obtain ⟨k, hk, rfl, hm, hb⟩ := hrel
          have hz := hb.size
          have bel : Below w.heap.size w wr := bel1.trans (hb.mono bel1.size)
          have s0 := bkeep hb e0
          have s1 := bkeep hb e1
          have s2 := bkeep hb e2
          by_cases hlt : k < x.kids.len
          · obtain h0 | ⟨ba, oa, rfl, hia⟩ := hin
            · omega
            have kA : ∀ b o v, All b → w.cell? ⟨b, o, none⟩ = some v → All b ∧ wr.cell? ⟨b, o, none⟩ = some v := keep_cell (fun _ _ h => h) (Kp.of_below bel).block
            obtain ⟨ua, a0, a1, a2, hxa⟩ := ((hia.mono kA).at_ k hlt).xv
            have hxa' := hxa
            obtain ⟨_, e, _, aoa', capa', rfl, _⟩ := hxa'
            simp at e; subst e
            have IH := fun w hx => ih k hlt (.agg #[.int .i64 (x.kids.at_ k).op, .string (x.kids.at_ k).nm, .slice aoa' (x.kids.at_ k).kids.len capa']) w hx (HSH.out.2.at_ hlt)
            have hda := Fo.bad_at hlt
            have HLT := hd hlt
            generalize x.kids.at_ k = xk at *
            generalize xk.bad = d at *
            go_wp2_with fail
            refine (IH _ hxa).mono ?_
            rintro e w2 ⟨rfl, hb2⟩
            have bel2 : Below w1.heap.size w1 w2 := hb.trans (hb2.mono hb.size)
            by_cases hd0 : d = 0
            · subst hd0
              simp only [ne_eq, not_true_eq_false, if_false] at hda
              go_wp2_with fail
              go_roundw
              case rel => exact ⟨k + 1, by omega, by go_num, by rw [← hda]; exact hm, bel2⟩
              case measure => simp [intOf]; omega
            · rw [if_pos hd0] at hda
              go_wp2_with fail
              go_ret
              exact ⟨ret_int (by rw [← hm, hda]), bel1.trans (bel2.mono bel1.size)⟩
          · rw [Fo.drp_end (by omega)] at hm
            simp only [Fo.bad] at hm
            go_wp2_with fail
            go_ret
            exact ⟨ret_int hm, bel⟩
      · have f2 := toList1 hs
        have f3 : x.nm.toList.isEmpty = false := by simpa using f2
        have hD : D = 3 := by rw [hbd.out]; simp only [code, formB, hop]; simp [hs]
        have HOP := hd hop
        have HN := hd hn
        have HS := hd hs
        clear hop hbd hn hs
        subst hD
        go_enter Try.func83, Try.ntmps83
        go_wp2_with fail
        go_ret
        exact ⟨rfl, by rw [← hW]; exact hWb⟩
    · have f1 : ((x.kids.len : Int) != 1) = false := by simp; omega
      have hD : D = 3 := by rw [hbd.out]; simp only [code, formB, hop]; simp [hn]
      have HOP := hd hop
      have HN := hd hn
      clear hop hbd hn
      subst hD
      go_enter Try.func83, Try.ntmps83
      go_wp2_with fail
      go_ret
      exact ⟨rfl, by rw [← hW]; exact hWb⟩
  have n3 := hop
  clear hop
  by_cases hop : x.op = 4
  · have b1 : (x.op == 1) = false := by rw [hop]; decide
    have b2 : (x.op == 2) = false := by rw [hop]; decide
    have b3 : (x.op == 3) = false := by rw [hop]; decide
    have b4 : (x.op == 4) = true := by simpa using hop
    have b5 : (x.op == 5) = false := by rw [hop]; decide
    have b6 : (x.op == 6) = false := by rw [hop]; decide
    have b7 : (x.op == 7) = false := by rw [hop]; decide
    by_cases hn : 2 ≤ x.kids.len
    · have f1 : decide ((2 : Int) ≤ (x.kids.len : Int)) = true := by simp; omega
      by_cases hs : x.nm.size = 0
      · have f2 := toList0 hs
        have hD : D = x.kids.bad := by rw [hbd.out]; simp only [code, formB, namB, hop]; simp [hn, hs]
        have HOP := hd hop
        have HN := hd hn
        have HS := hd hs
        clear hop hbd hn hs
        go_enter Try.func83, Try.ntmps83
        go_wp2_with fail
        rw [← hW]
        have HW := hd hW
        clear hW
        obtain ⟨w1, h1⟩ : ∃ w1, w1 = W := ⟨_, rfl⟩
        rw [← h1]
        have e0 : w1.cell? ⟨w.heap.size, 0, none⟩ = some (.int .i64 x.op) := by rw [h1]; exact hW0
        have e1 : w1.cell? ⟨w.heap.size, 1, none⟩ = some (.string x.nm) := by rw [h1]; exact hW1
        have e2 : w1.cell? ⟨w.heap.size, 2, none⟩ = some (.slice ao x.kids.len cap) := by rw [h1]; exact hW2
        have bel1 : Below w.heap.size w w1 := by rw [h1]; exact hWb
        clear hW0 hW1 hW2 hWb
        go_loopw [5] (fun i wr => ∃ (k : Nat), k ≤ x.kids.len ∧ i = .int .i64 k ∧ (x.kids.drp k).bad = D ∧ Below w1.heap.size w1 wr) (fun i _ => x.kids.len - (intOf i).toNat)
        case atStart => exact ⟨0, Nat.zero_le _, rfl, by rw [Fo.drp_zero, hD], Below.refl _ _⟩
        case round =>
          obtain ⟨k, hk, rfl, hm, hb⟩ := hrel
          have hz := hb.size
          have bel : Below w.heap.size w wr := bel1.trans (hb.mono bel1.size)
          have s0 := bkeep hb e0
          have s1 := bkeep hb e1
          have s2 := bkeep hb e2
          by_cases hlt : k < x.kids.len
          · obtain h0 | ⟨ba, oa, rfl, hia⟩ := hin
            · omega
            have kA : ∀ b o v, All b → w.cell? ⟨b, o, none⟩ = some v → All b ∧ wr.cell? ⟨b, o, none⟩ = some v := keep_cell (fun _ _ h => h) (Kp.of_below bel).block
            obtain ⟨ua, a0, a1, a2, hxa⟩ := ((hia.mono kA).at_ k hlt).xv
            have hxa' := hxa
            obtain ⟨_, e, _, aoa', capa', rfl, _⟩ := hxa'
            simp at e; subst e
            have IH := fun w hx => ih k hlt (.agg #[.int .i64 (x.kids.at_ k).op, .string (x.kids.at_ k).nm, .slice aoa' (x.kids.at_ k).kids.len capa']) w hx (HSH.out.2.at_ hlt)
            have hda := Fo.bad_at hlt
            have HLT := hd hlt
            generalize x.kids.at_ k = xk at *
            generalize xk.bad = d at *
            go_wp2_with fail
            refine (IH _ hxa).mono ?_
            rintro e w2 ⟨rfl, hb2⟩
            have bel2 : Below w1.heap.size w1 w2 := hb.trans (hb2.mono hb.size)
            by_cases hd0 : d = 0
            · subst hd0
              simp only [ne_eq, not_true_eq_false, if_false] at hda
              go_wp2_with fail
              go_roundw
              case rel => exact ⟨k + 1, by omega, by go_num, by rw [← hda]; exact hm, bel2⟩
              case measure => simp [intOf]; omega
            · rw [if_pos hd0] at hda
              go_wp2_with fail
              go_ret
              exact ⟨ret_int (by rw [← hm, hda]), bel1.trans (bel2.mono bel1.size)⟩
          · rw [Fo.drp_end (by omega)] at hm
            simp only [Fo.bad] at hm
            go_wp2_with fail
            go_ret
            exact ⟨ret_int hm, bel⟩
      · have f2 := toList1 hs
        have f3 : x.nm.toList.isEmpty = false := by simpa using f2
        have hD : D = 3 := by rw [hbd.out]; simp only [code, formB, hop]; simp [hs]
        have HOP := hd hop
        have HN := hd hn
        have HS := hd hs
        clear hop hbd hn hs
        subst hD
        go_enter Try.func83, Try.ntmps83
        go_wp2_with fail
        go_ret
        exact ⟨rfl, by rw [← hW]; exact hWb⟩
    · have f1 : decide ((2 : Int) ≤ (x.kids.len : Int)) = false := by simp; omega
      have hD : D = 3 := by rw [hbd.out]; simp only [code, formB, hop]; simp [hn]
      have HOP := hd hop
      have HN := hd hn
      clear hop hbd hn
      subst hD
      go_enter Try.func83, Try.ntmps83
      go_wp2_with fail
      go_ret
      exact ⟨rfl, by rw [← hW]; exact hWb⟩
  have n4 := hop
  clear hop
  by_cases hop : x.op = 5
  · have b1 : (x.op == 1) = false := by rw [hop]; decide
    have b2 : (x.op == 2) = false := by rw [hop]; decide
    have b3 : (x.op == 3) = false := by rw [hop]; decide
    have b4 : (x.op == 4) = false := by rw [hop]; decide
    have b5 : (x.op == 5) = true := by simpa using hop
    have b6 : (x.op == 6) = false := by rw [hop]; decide
    have b7 : (x.op == 7) = false := by rw [hop]; decide
    by_cases hn : x.kids.len = 1
    · have f1 : ((x.kids.len : Int) == 1) = true := by rw [beq_iff_eq]; omega
      by_cases hs : x.nm.size = 0
      · have f2 := toList0 hs
        have hD : D = x.kids.bad := by rw [hbd.out]; simp only [code, formB, namB, hop]; simp [hn, hs]
        have HOP := hd hop
        have HN := hd hn
        have HS := hd hs
        clear hop hbd hn hs
        go_enter Try.func83, Try.ntmps83
        go_wp2_with fail
        rw [← hW]
        have HW := hd hW
        clear hW
        obtain ⟨w1, h1⟩ : ∃ w1, w1 = W := ⟨_, rfl⟩
        rw [← h1]
        have e0 : w1.cell? ⟨w.heap.size, 0, none⟩ = some (.int .i64 x.op) := by rw [h1]; exact hW0
        have e1 : w1.cell? ⟨w.heap.size, 1, none⟩ = some (.string x.nm) := by rw [h1]; exact hW1
        have e2 : w1.cell? ⟨w.heap.size, 2, none⟩ = some (.slice ao x.kids.len cap) := by rw [h1]; exact hW2
        have bel1 : Below w.heap.size w w1 := by rw [h1]; exact hWb
        clear hW0 hW1 hW2 hWb
        go_loopw [5] (fun i wr => ∃ (k : Nat), k ≤ x.kids.len ∧ i = .int .i64 k ∧ (x.kids.drp k).bad = D ∧ Below w1.heap.size w1 wr) (fun i _ => x.kids.len - (intOf i).toNat)
        case atStart => exact ⟨0, Nat.zero_le _, rfl, by rw [Fo.drp_zero, hD], Below.refl _ _⟩
        case round =>
          obtain ⟨k, hk, rfl, hm, hb⟩ := hrel
          have hz := hb.size
          have bel : Below w.heap.size w wr := bel1.trans (hb.mono bel1.size)
          have s0 := bkeep hb e0
          have s1 := bkeep hb e1
          have s2 := bkeep hb e2
          by_cases hlt : k < x.kids.len
          · obtain h0 | ⟨ba, oa, rfl, hia⟩ := hin
            · omega
            have kA : ∀ b o v, All b → w.cell? ⟨b, o, none⟩ = some v → All b ∧ wr.cell? ⟨b, o, none⟩ = some v := keep_cell (fun _ _ h => h) (Kp.of_below bel).block
            obtain ⟨ua, a0, a1, a2, hxa⟩ := ((hia.mono kA).at_ k hlt).xv
            have hxa' := hxa
            obtain ⟨_, e, _, aoa', capa', rfl, _⟩ := hxa'
            simp at e; subst e
            have IH := fun w hx => ih k hlt (.agg #[.int .i64 (x.kids.at_ k).op, .string (x.kids.at_ k).nm, .slice aoa' (x.kids.at_ k).kids.len capa']) w hx (HSH.out.2.at_ hlt)
            have hda := Fo.bad_at hlt
            have HLT := hd hlt
            generalize x.kids.at_ k = xk at *
            generalize xk.bad = d at *
            go_wp2_with fail
            refine (IH _ hxa).mono ?_
            rintro e w2 ⟨rfl, hb2⟩
            have bel2 : Below w1.heap.size w1 w2 := hb.trans (hb2.mono hb.size)
            by_cases hd0 : d = 0
            · subst hd0
              simp only [ne_eq, not_true_eq_false, if_false] at hda
              go_wp2_with fail
              go_roundw
              case rel => exact ⟨k + 1, by omega, by go_num, by rw [← hda]; exact hm, bel2⟩
              case measure => simp [intOf]; omega
            · rw [if_pos hd0] at hda
              go_wp2_with fail
              go_ret
              exact ⟨ret_int (by rw [← hm, hda]), bel1.trans (bel2.mono bel1.size)⟩
          · rw [Fo.drp_end (by omega)] at hm
            simp only [Fo.bad] at hm
            go_wp2_with fail
            go_ret
            exact ⟨ret_int hm, bel⟩
      · have f2 := toList1 hs
        have f3 : x.nm.toList.isEmpty = false := by simpa using f2
        have hD : D = 3 := by rw [hbd.out]; simp only [code, formB, hop]; simp [hs]
        have HOP := hd hop
        have HN := hd hn
        have HS := hd hs
        clear hop hbd hn hs
        subst hD
        go_enter Try.func83, Try.ntmps83
        go_wp2_with fail
        go_ret
        exact ⟨rfl, by rw [← hW]; exact hWb⟩
    · have f1 : ((x.kids.len : Int) == 1) = false := by rw [beq_eq_false_iff_ne]; omega
      have hD : D = 3 := by rw [hbd.out]; simp only [code, formB, hop]; simp [hn]
      have HOP := hd hop
      have HN := hd hn
      clear hop hbd hn
      subst hD
      go_enter Try.func83, Try.ntmps83
      go_wp2_with fail
      go_ret
      exact ⟨rfl, by rw [← hW]; exact hWb⟩
  have n5 := hop
  clear hop
  by_cases hop : x.op = 6
  · have b1 : (x.op == 1) = false := by rw [hop]; decide
    have b2 : (x.op == 2) = false := by rw [hop]; decide
    have b3 : (x.op == 3) = false := by rw [hop]; decide
    have b4 : (x.op == 4) = false := by rw [hop]; decide
    have b5 : (x.op == 5) = false := by rw [hop]; decide
    have b6 : (x.op == 6) = true := by simpa using hop
    have b7 : (x.op == 7) = false := by rw [hop]; decide
    by_cases hn : x.kids.len = 1
    · have f1 : ((x.kids.len : Int) == 1) = true := by rw [beq_iff_eq]; omega
      by_cases hs : x.nm.size = 0
      · have f2 := toList0 hs
        have hD : D = x.kids.bad := by rw [hbd.out]; simp only [code, formB, namB, hop]; simp [hn, hs]
        have HOP := hd hop
        have HN := hd hn
        have HS := hd hs
        clear hop hbd hn hs
        go_enter Try.func83, Try.ntmps83
        go_wp2_with fail
        rw [← hW]
        have HW := hd hW
        clear hW
        obtain ⟨w1, h1⟩ : ∃ w1, w1 = W := ⟨_, rfl⟩
        rw [← h1]
        have e0 : w1.cell? ⟨w.heap.size, 0, none⟩ = some (.int .i64 x.op) := by rw [h1]; exact hW0
        have e1 : w1.cell? ⟨w.heap.size, 1, none⟩ = some (.string x.nm) := by rw [h1]; exact hW1
        have e2 : w1.cell? ⟨w.heap.size, 2, none⟩ = some (.slice ao x.kids.len cap) := by rw [h1]; exact hW2
        have bel1 : Below w.heap.size w w1 := by rw [h1]; exact hWb
        clear hW0 hW1 hW2 hWb
        go_loopw [5] (fun i wr => ∃ (k : Nat), k ≤ x.kids.len ∧ i = .int .i64 k ∧ (x.kids.drp k).bad = D ∧ Below w1.heap.size w1 wr) (fun i _ => x.kids.len - (intOf i).toNat)
        case atStart => exact ⟨0, Nat.zero_le _, rfl, by rw [Fo.drp_zero, hD], Below.refl _ _⟩
        case round =>
          obtain ⟨k, hk, rfl, hm, hb⟩ := hrel
          have hz := hb.size
          have bel : Below w.heap.size w wr := bel1.trans (hb.mono bel1.size)
          have s0 := bkeep hb e0
          have s1 := bkeep hb e1
          have s2 := bkeep hb e2
          by_cases hlt : k < x.kids.len
          · obtain h0 | ⟨ba, oa, rfl, hia⟩ := hin
            · omega
            have kA : ∀ b o v, All b → w.cell? ⟨b, o, none⟩ = some v → All b ∧ wr.cell? ⟨b, o, none⟩ = some v := keep_cell (fun _ _ h => h) (Kp.of_below bel).block
            obtain ⟨ua, a0, a1, a2, hxa⟩ := ((hia.mono kA).at_ k hlt).xv
            have hxa' := hxa
            obtain ⟨_, e, _, aoa', capa', rfl, _⟩ := hxa'
            simp at e; subst e
            have IH := fun w hx => ih k hlt (.agg #[.int .i64 (x.kids.at_ k).op, .string (x.kids.at_ k).nm, .slice aoa' (x.kids.at_ k).kids.len capa']) w hx (HSH.out.2.at_ hlt)
            have hda := Fo.bad_at hlt
            have HLT := hd hlt
            generalize x.kids.at_ k = xk at *
            generalize xk.bad = d at *
            go_wp2_with fail
            refine (IH _ hxa).mono ?_
            rintro e w2 ⟨rfl, hb2⟩
            have bel2 : Below w1.heap.size w1 w2 := hb.trans (hb2.mono hb.size)
            by_cases hd0 : d = 0
            · subst hd0
              simp only [ne_eq, not_true_eq_false, if_false] at hda
              go_wp2_with fail
              go_roundw
              case rel => exact ⟨k + 1, by omega, by go_num, by rw [← hda]; exact hm, bel2⟩
              case measure => simp [intOf]; omega
            · rw [if_pos hd0] at hda
              go_wp2_with fail
              go_ret
              exact ⟨ret_int (by rw [← hm, hda]), bel1.trans (bel2.mono bel1.size)⟩
          · rw [Fo.drp_end (by omega)] at hm
            simp only [Fo.bad] at hm
            go_wp2_with fail
            go_ret
            exact ⟨ret_int hm, bel⟩
      · have f2 := toList1 hs
        have f3 : x.nm.toList.isEmpty = false := by simpa using f2
        have hD : D = 3 := by rw [hbd.out]; simp only [code, formB, hop]; simp [hs]
        have HOP := hd hop
        have HN := hd hn
        have HS := hd hs
        clear hop hbd hn hs
        subst hD
        go_enter Try.func83, Try.ntmps83
        go_wp2_with fail
        go_ret
        exact ⟨rfl, by rw [← hW]; exact hWb⟩
    · have f1 : ((x.kids.len : Int) == 1) = false := by rw [beq_eq_false_iff_ne]; omega
      have hD : D = 3 := by rw [hbd.out]; simp only [code, formB, hop]; simp [hn]
      have HOP := hd hop
      have HN := hd hn
      clear hop hbd hn
      subst hD
      go_enter Try.func83, Try.ntmps83
      go_wp2_with fail
      go_ret
      exact ⟨rfl, by rw [← hW]; exact hWb⟩
  have n6 := hop
  clear hop
  by_cases hop : x.op = 7
  · have b1 : (x.op == 1) = false := by rw [hop]; decide
    have b2 : (x.op == 2) = false := by rw [hop]; decide
    have b3 : (x.op == 3) = false := by rw [hop]; decide
    have b4 : (x.op == 4) = false := by rw [hop]; decide
    have b5 : (x.op == 5) = false := by rw [hop]; decide
    have b6 : (x.op == 6) = false := by rw [hop]; decide
    have b7 : (x.op == 7) = true := by simpa using hop
    by_cases hn : x.kids.len = 1
    · have f1 : ((x.kids.len : Int) == 1) = true := by rw [beq_iff_eq]; omega
      by_cases hs : x.nm.size = 0
      · have f2 := toList0 hs
        have hD : D = x.kids.bad := by rw [hbd.out]; simp only [code, formB, namB, hop]; simp [hn, hs]
        have HOP := hd hop
        have HN := hd hn
        have HS := hd hs
        clear hop hbd hn hs
        go_enter Try.func83, Try.ntmps83
        go_wp2_with fail
        rw [← hW]
        have HW := hd hW
        clear hW
        obtain ⟨w1, h1⟩ : ∃ w1, w1 = W := ⟨_, rfl⟩
        rw [← h1]
        have e0 : w1.cell? ⟨w.heap.size, 0, none⟩ = some (.int .i64 x.op) := by rw [h1]; exact hW0
        have e1 : w1.cell? ⟨w.heap.size, 1, none⟩ = some (.string x.nm) := by rw [h1]; exact hW1
        have e2 : w1.cell? ⟨w.heap.size, 2, none⟩ = some (.slice ao x.kids.len cap) := by rw [h1]; exact hW2
        have bel1 : Below w.heap.size w w1 := by rw [h1]; exact hWb
        clear hW0 hW1 hW2 hWb
        go_loopw [5] (fun i wr => ∃ (k : Nat), k ≤ x.kids.len ∧ i = .int .i64 k ∧ (x.kids.drp k).bad = D ∧ Below w1.heap.size w1 wr) (fun i _ => x.kids.len - (intOf i).toNat)
        case atStart => exact ⟨0, Nat.zero_le _, rfl, by rw [Fo.drp_zero, hD], Below.refl _ _⟩
        case round =>
          obtain ⟨k, hk, rfl, hm, hb⟩ := hrel
          have hz := hb.size
          have bel : Below w.heap.size w wr := bel1.trans (hb.mono bel1.size)
          have s0 := bkeep hb e0
          have s1 := bkeep hb e1
          have s2 := bkeep hb e2
          by_cases hlt : k < x.kids.len
          · obtain h0 | ⟨ba, oa, rfl, hia⟩ := hin
            · omega
            have kA : ∀ b o v, All b → w.cell? ⟨b, o, none⟩ = some v → All b ∧ wr.cell? ⟨b, o, none⟩ = some v := keep_cell (fun _ _ h => h) (Kp.of_below bel).block
            obtain ⟨ua, a0, a1, a2, hxa⟩ := ((hia.mono kA).at_ k hlt).xv
            have hxa' := hxa
            obtain ⟨_, e, _, aoa', capa', rfl, _⟩ := hxa'
            simp at e; subst e
            have IH := fun w hx => ih k hlt (.agg #[.int .i64 (x.kids.at_ k).op, .string (x.kids.at_ k).nm, .slice aoa' (x.kids.at_ k).kids.len capa']) w hx (HSH.out.2.at_ hlt)
            have hda := Fo.bad_at hlt
            have HLT := hd hlt
            generalize x.kids.at_ k = xk at *
            generalize xk.bad = d at *
            go_wp2_with fail
            refine (IH _ hxa).mono ?_
            rintro e w2 ⟨rfl, hb2⟩
            have bel2 : Below w1.heap.size w1 w2 := hb.trans (hb2.mono hb.size)
            by_cases hd0 : d = 0
            · subst hd0
              simp only [ne_eq, not_true_eq_false, if_false] at hda
              go_wp2_with fail
              go_roundw
              case rel => exact ⟨k + 1, by omega, by go_num, by rw [← hda]; exact hm, bel2⟩
              case measure => simp [intOf]; omega
            · rw [if_pos hd0] at hda
              go_wp2_with fail
              go_ret
              exact ⟨ret_int (by rw [← hm, hda]), bel1.trans (bel2.mono bel1.size)⟩
          · rw [Fo.drp_end (by omega)] at hm
            simp only [Fo.bad] at hm
            go_wp2_with fail
            go_ret
            exact ⟨ret_int hm, bel⟩
      · have f2 := toList1 hs
        have f3 : x.nm.toList.isEmpty = false := by simpa using f2
        have hD : D = 3 := by rw [hbd.out]; simp only [code, formB, hop]; simp [hs]
        have HOP := hd hop
        have HN := hd hn
        have HS := hd hs
        clear hop hbd hn hs
        subst hD
        go_enter Try.func83, Try.ntmps83
        go_wp2_with fail
        go_ret
        exact ⟨rfl, by rw [← hW]; exact hWb⟩
    · have f1 : ((x.kids.len : Int) == 1) = false := by rw [beq_eq_false_iff_ne]; omega
      have hD : D = 3 := by rw [hbd.out]; simp only [code, formB, hop]; simp [hn]
      have HOP := hd hop
      have HN := hd hn
      clear hop hbd hn
      subst hD
      go_enter Try.func83, Try.ntmps83
      go_wp2_with fail
      go_ret
      exact ⟨rfl, by rw [← hW]; exact hWb⟩
  have n7 := hop
  clear hop
  have b1 : (x.op == 1) = false := by simpa using n1
  have b2 : (x.op == 2) = false := by simpa using n2
  have b3 : (x.op == 3) = false := by simpa using n3
  have b4 : (x.op == 4) = false := by simpa using n4
  have b5 : (x.op == 5) = false := by simpa using n5
  have b6 : (x.op == 6) = false := by simpa using n6
  have b7 : (x.op == 7) = false := by simpa using n7
  have hD : D = 3 := by rw [hbd.out]; simp [code, formB, n1, n2, n3, n4, n5, n6, n7]
  clear n1 n2 n3 n4 n5 n6 n7
  subst hD
  go_enter Try.func83, Try.ntmps83
  go_wp2_with fail
  go_ret
  exact ⟨rfl, by rw [← hW]; exact hWb⟩
theorem ef_all : ∀ (f : Fo) (i : Nat), i < f.len → EfOK (f.at_ i)
  | .nil, _, h => absurd h (Nat.not_lt_zero _)
  | .cons op nm kids _, 0, _ => ef_head ⟨op, nm, kids⟩ (ef_all kids)
  | .cons _ _ _ rest, i + 1, h => ef_all rest i (by simpa [Fo.len] using h)
theorem ef_any (x : Xp) : EfOK x := ef_head x (ef_all x.kids)
end Go.Proofs.Ytcanphhmflbdmac
