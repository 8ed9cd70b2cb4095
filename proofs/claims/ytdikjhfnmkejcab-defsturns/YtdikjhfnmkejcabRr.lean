/- The document's own counting: round brackets, parts, open brackets. -/
import Derived.Test.YtdikjhfnmkejcabDp
import Derived.Deep.QuietTactic
import Derived.BigQuiet
namespace Go.Proofs.Ytdikjhfnmkejcab
open Go.RowKit
set_option maxRecDepth 100000 in
set_option maxHeartbeats 4000000 in
theorem rIn_any (b a : Int) (t s : ByteArray) (q p : Option Addr) (n m d c : Nat) (w : World) :
    Calls Try.prog 52 #[.agg #[.int .i64 b, .string t, .slice q n d], .agg #[.int .i64 a, .string s, .slice p m c]] w fun e w' => e = .returned (.bool (rnd b a)) ∧ Below w.heap.size w w' := by
  by_cases h3 : b = 3
  · subst h3
    have r : rnd 3 a = (a == 3 || a == 4) := by unfold rnd; cases (a == 3) <;> cases (a == 4) <;> rfl
    rw [r]
    go_enter Try.func52, Try.ntmps52
    go_wp2_with fail
    all_goals (go_ret; exact ⟨ret_bool (by simp_all), al2 _ _ _⟩)
  · by_cases h4 : b = 4
    · subst h4
      have r : rnd 4 a = (a == 4) := by unfold rnd; cases (a == 3) <;> cases (a == 4) <;> rfl
      rw [r]
      go_enter Try.func52, Try.ntmps52
      go_wp2_with fail
      all_goals (go_ret; exact ⟨ret_bool (by simp_all), al2 _ _ _⟩)
    · have r : rnd b a = false := by unfold rnd; simp [h3, h4]
      rw [r]
      go_enter Try.func52, Try.ntmps52
      go_wp2_with fail
      all_goals (go_ret; exact ⟨ret_bool (by simp_all), al2 _ _ _⟩)
def PoOK (x : Xp) : Prop := ∀ (va : Value) (w : World), XV w All va x → x.pts ≤ 9000 →
  Calls Try.prog 32 #[va] w fun e w' => e = .returned (.int .i64 ((x.pts : Nat) : Int)) ∧ Below w.heap.size w w'
set_option maxRecDepth 100000 in
set_option maxHeartbeats 8000000 in
theorem po_head (x : Xp) (ih : ∀ i, i < x.kids.len → PoOK (x.kids.at_ i)) : PoOK x := by
  intro va w hx h9
  obtain ⟨u, rfl, hl, ao, cap, rfl, hin⟩ := hx
  obtain ⟨W, hW⟩ : ∃ W, W = w.alloc (.cells #[.int .i64 x.op, .string x.nm, .slice ao x.kids.len cap] 48) := ⟨_, rfl⟩
  have hWz : W.heap.size = w.heap.size + 1 := by rw [hW]; simp
  have hWb : Below w.heap.size w W := by rw [hW]; exact (Below.refl _ _).alloc (Nat.le_refl _) _
  have hW0 : W.cell? ⟨w.heap.size, 0, none⟩ = some (.int .i64 x.op) := by rw [hW]; simp
  have hW1 : W.cell? ⟨w.heap.size, 1, none⟩ = some (.string x.nm) := by rw [hW]; simp
  have hW2 : W.cell? ⟨w.heap.size, 2, none⟩ = some (.slice ao x.kids.len cap) := by rw [hW]; simp
  have hpt : Hid (x.pts = own x.op x.kids.len + x.kids.pts x.op) := hd rfl
  have hmx : own x.op x.kids.len ≤ x.pts := by unfold Xp.pts; omega
  generalize x.pts = XP at *
  by_cases h4 : x.op = 4
  · have h3 : ¬ x.op = 3 := by omega
    have hb4 : (x.op == 4) = true := by simpa using h4
    by_cases hl1 : (1 : Int) < (x.kids.len : Int)
    · have hown : own x.op x.kids.len = x.kids.len - 1 := by simp [own, h4]
      have H4 := hd h4
      clear h4
      go_enter Try.func32, Try.ntmps32
      go_wp2_with fail
      rw [← hW]
      have HW := hd hW
      clear hW
      obtain ⟨w1, h1⟩ : ∃ w1, w1 = W := ⟨_, rfl⟩
      rw [← h1]
      have e0 : w1.cell? ⟨w.heap.size, 0, none⟩ = some (.int .i64 x.op) := by rw [h1]; exact hW0
      have e1 : w1.cell? ⟨w.heap.size, 1, none⟩ = some (.string x.nm) := by rw [h1]; exact hW1
      have e2 : w1.cell? ⟨w.heap.size, 2, none⟩ = some (.slice ao x.kids.len cap) := by rw [h1]; exact hW2
      have bel1 : Below w.heap.size w w1 := by rw [h1]; exact hWb
      clear hW0 hW1 hW2 hWb
      go_loopw [3, 4] (fun a i wr => ∃ (k m : Nat), k ≤ x.kids.len ∧ i = .int .i64 k ∧ a = .int .i64 m ∧ m + (x.kids.drp k).pts x.op = XP ∧ Below w1.heap.size w1 wr) (fun _ i _ => x.kids.len - (intOf i).toNat)
      case atStart => exact ⟨0, own x.op x.kids.len, Nat.zero_le _, rfl, by rw [hown]; congr 1; omega, by rw [Fo.drp_zero, hpt.out], Below.refl _ _⟩
      case round =>
        obtain ⟨k, m, hk, rfl, rfl, hm, hb⟩ := hrel
        have hz := hb.size
        have bel : Below w.heap.size w wr := bel1.trans (hb.mono bel1.size)
        have s0 := bkeep hb e0
        have s1 := bkeep hb e1
        have s2 := bkeep hb e2
        by_cases hlt : k < x.kids.len
        · obtain h0 | ⟨ba, oa, rfl, hia⟩ := hin
          · omega
          have kA : ∀ b o v, All b → w.cell? ⟨b, o, none⟩ = some v → All b ∧ wr.cell? ⟨b, o, none⟩ = some v := keep_cell (fun _ _ h => h) (Kp.of_below bel).block
          obtain ⟨ua, a0, a1, a2, hxa⟩ := ((hia.mono kA).at_ k hlt).xv
          have hxa' := hxa
          obtain ⟨_, e, _, aoa', capa', rfl, _⟩ := hxa'
          simp at e; subst e
          have IH := fun w hx hp => ih k hlt (.agg #[.int .i64 (x.kids.at_ k).op, .string (x.kids.at_ k).nm, .slice aoa' (x.kids.at_ k).kids.len capa']) w hx hp
          have hda := Fo.pts_at x.op hlt
          have hrn : rn1 x.op (x.kids.at_ k).op = if rnd x.op (x.kids.at_ k).op = true then 1 else 0 := rfl
          have RD := fun w => rIn_any x.op (x.kids.at_ k).op x.nm (x.kids.at_ k).nm (some ⟨ba, oa, none⟩) aoa' x.kids.len (x.kids.at_ k).kids.len cap capa' w
          have HLT := hd hlt
          generalize x.kids.at_ k = xk at *
          have IHw := IH wr hxa (by omega)
          generalize xk.pts = d at *
          go_wp2_with fail
          refine IHw.mono ?_
          rintro e w2 ⟨rfl, hb2⟩
          have bel2 : Below w1.heap.size w1 w2 := hb.trans (hb2.mono hb.size)
          have r0 := fun z : Wd w2 => z.cell (bkeep hb2 s0)
          have r1 := fun z : Wd w2 => z.cell (bkeep hb2 s1)
          have r2 := fun z : Wd w2 => z.cell (bkeep hb2 s2)
          have q0 := fun z : Wd w2 => z.cell (bkeep hb2 a0)
          have q1 := fun z : Wd w2 => z.cell (bkeep hb2 a1)
          have q2 := fun z : Wd w2 => z.cell (bkeep hb2 a2)
          have wne : Nonempty (Wd w2) := Wd.ne _
          have hmd : m + d ≤ 9000 := by omega
          clear s0 s1 s2 a0 a1 a2 hb2 IHw IH
          generalize rnd x.op xk.op = B at *
          go_wp2_with fail
          refine region_quiet_lit (C := fun w' => ∃ z : Wd w2, w' = z.u) (by kernel_rfl) (by kernel_rfl) (Wd.drawn _) ?_
          iterate 6 (go_big_quiet_step (fail))
          go_big_quiet_step (exact calls_wd (RD _))
          refine wpQuiet_nil ?_
          intro _ hw'
          obtain ⟨z, hw''⟩ := hw'
          subst hw''
          have bel3 : Below w1.heap.size w1 z.u := bel2.trans (z.h.mono bel2.size)
          cases B with
          | true =>
            simp only [if_true] at hrn
            go_wp2_with fail
            go_roundw
            case rel => exact ⟨k + 1, m + d + 1, by omega, by go_num, by go_num, by omega, bel3⟩
            case measure => simp [intOf]; omega
          | false =>
            simp only [Bool.false_eq_true, if_false] at hrn
            go_wp2_with fail
            go_roundw
            case rel => exact ⟨k + 1, m + d, by omega, by go_num, by go_num, by omega, bel3⟩
            case measure => simp [intOf]; omega
        · rw [Fo.drp_end (by omega)] at hm
          simp only [Fo.pts] at hm
          go_wp2_with fail
          go_ret
          exact ⟨ret_int (by omega), bel⟩
    · have hown : own x.op x.kids.len = 0 := by simp [own, h4]; omega
      have H4 := hd h4
      clear h4
      go_enter Try.func32, Try.ntmps32
      go_wp2_with fail
      rw [← hW]
      have HW := hd hW
      clear hW
      obtain ⟨w1, h1⟩ : ∃ w1, w1 = W := ⟨_, rfl⟩
      rw [← h1]
      have e0 : w1.cell? ⟨w.heap.size, 0, none⟩ = some (.int .i64 x.op) := by rw [h1]; exact hW0
      have e1 : w1.cell? ⟨w.heap.size, 1, none⟩ = some (.string x.nm) := by rw [h1]; exact hW1
      have e2 : w1.cell? ⟨w.heap.size, 2, none⟩ = some (.slice ao x.kids.len cap) := by rw [h1]; exact hW2
      have bel1 : Below w.heap.size w w1 := by rw [h1]; exact hWb
      clear hW0 hW1 hW2 hWb
      go_loopw [3, 4] (fun a i wr => ∃ (k m : Nat), k ≤ x.kids.len ∧ i = .int .i64 k ∧ a = .int .i64 m ∧ m + (x.kids.drp k).pts x.op = XP ∧ Below w1.heap.size w1 wr) (fun _ i _ => x.kids.len - (intOf i).toNat)
      case atStart => exact ⟨0, own x.op x.kids.len, Nat.zero_le _, rfl, by rw [hown]; rfl, by rw [Fo.drp_zero, hpt.out], Below.refl _ _⟩
      case round =>
        obtain ⟨k, m, hk, rfl, rfl, hm, hb⟩ := hrel
        have hz := hb.size
        have bel : Below w.heap.size w wr := bel1.trans (hb.mono bel1.size)
        have s0 := bkeep hb e0
        have s1 := bkeep hb e1
        have s2 := bkeep hb e2
        by_cases hlt : k < x.kids.len
        · obtain h0 | ⟨ba, oa, rfl, hia⟩ := hin
          · omega
          have kA : ∀ b o v, All b → w.cell? ⟨b, o, none⟩ = some v → All b ∧ wr.cell? ⟨b, o, none⟩ = some v := keep_cell (fun _ _ h => h) (Kp.of_below bel).block
          obtain ⟨ua, a0, a1, a2, hxa⟩ := ((hia.mono kA).at_ k hlt).xv
          have hxa' := hxa
          obtain ⟨_, e, _, aoa', capa', rfl, _⟩ := hxa'
          simp at e; subst e
          have IH := fun w hx hp => ih k hlt (.agg #[.int .i64 (x.kids.at_ k).op, .string (x.kids.at_ k).nm, .slice aoa' (x.kids.at_ k).kids.len capa']) w hx hp
          have hda := Fo.pts_at x.op hlt
          have hrn : rn1 x.op (x.kids.at_ k).op = if rnd x.op (x.kids.at_ k).op = true then 1 else 0 := rfl
          have RD := fun w => rIn_any x.op (x.kids.at_ k).op x.nm (x.kids.at_ k).nm (some ⟨ba, oa, none⟩) aoa' x.kids.len (x.kids.at_ k).kids.len cap capa' w
          have HLT := hd hlt
          generalize x.kids.at_ k = xk at *
          have IHw := IH wr hxa (by omega)
          generalize xk.pts = d at *
          go_wp2_with fail
          refine IHw.mono ?_
          rintro e w2 ⟨rfl, hb2⟩
          have bel2 : Below w1.heap.size w1 w2 := hb.trans (hb2.mono hb.size)
          have r0 := fun z : Wd w2 => z.cell (bkeep hb2 s0)
          have r1 := fun z : Wd w2 => z.cell (bkeep hb2 s1)
          have r2 := fun z : Wd w2 => z.cell (bkeep hb2 s2)
          have q0 := fun z : Wd w2 => z.cell (bkeep hb2 a0)
          have q1 := fun z : Wd w2 => z.cell (bkeep hb2 a1)
          have q2 := fun z : Wd w2 => z.cell (bkeep hb2 a2)
          have wne : Nonempty (Wd w2) := Wd.ne _
          have hmd : m + d ≤ 9000 := by omega
          clear s0 s1 s2 a0 a1 a2 hb2 IHw IH
          generalize rnd x.op xk.op = B at *
          go_wp2_with fail
          refine region_quiet_lit (C := fun w' => ∃ z : Wd w2, w' = z.u) (by kernel_rfl) (by kernel_rfl) (Wd.drawn _) ?_
          iterate 6 (go_big_quiet_step (fail))
          go_big_quiet_step (exact calls_wd (RD _))
          refine wpQuiet_nil ?_
          intro _ hw'
          obtain ⟨z, hw''⟩ := hw'
          subst hw''
          have bel3 : Below w1.heap.size w1 z.u := bel2.trans (z.h.mono bel2.size)
          cases B with
          | true =>
            simp only [if_true] at hrn
            go_wp2_with fail
            go_roundw
            case rel => exact ⟨k + 1, m + d + 1, by omega, by go_num, by go_num, by omega, bel3⟩
            case measure => simp [intOf]; omega
          | false =>
            simp only [Bool.false_eq_true, if_false] at hrn
            go_wp2_with fail
            go_roundw
            case rel => exact ⟨k + 1, m + d, by omega, by go_num, by go_num, by omega, bel3⟩
            case measure => simp [intOf]; omega
        · rw [Fo.drp_end (by omega)] at hm
          simp only [Fo.pts] at hm
          go_wp2_with fail
          go_ret
          exact ⟨ret_int (by omega), bel⟩
  have hb4 : (x.op == 4) = false := by simpa using h4
  by_cases h3 : x.op = 3
  · have hown : own x.op x.kids.len = 0 := by simp [own, h3]
    have hb3 : (x.op != 3) = false := by simpa using h3
    have H3 := hd h3
    clear h3
    go_enter Try.func32, Try.ntmps32
    go_wp2_with fail
    rw [← hW]
    have HW := hd hW
    clear hW
    obtain ⟨w1, h1⟩ : ∃ w1, w1 = W := ⟨_, rfl⟩
    rw [← h1]
    have e0 : w1.cell? ⟨w.heap.size, 0, none⟩ = some (.int .i64 x.op) := by rw [h1]; exact hW0
    have e1 : w1.cell? ⟨w.heap.size, 1, none⟩ = some (.string x.nm) := by rw [h1]; exact hW1
    have e2 : w1.cell? ⟨w.heap.size, 2, none⟩ = some (.slice ao x.kids.len cap) := by rw [h1]; exact hW2
    have bel1 : Below w.heap.size w w1 := by rw [h1]; exact hWb
    clear hW0 hW1 hW2 hWb
    go_loopw [3, 4] (fun a i wr => ∃ (k m : Nat), k ≤ x.kids.len ∧ i = .int .i64 k ∧ a = .int .i64 m ∧ m + (x.kids.drp k).pts x.op = XP ∧ Below w1.heap.size w1 wr) (fun _ i _ => x.kids.len - (intOf i).toNat)
    case atStart => exact ⟨0, own x.op x.kids.len, Nat.zero_le _, rfl, by rw [hown]; rfl, by rw [Fo.drp_zero, hpt.out], Below.refl _ _⟩
    case round =>
      obtain ⟨k, m, hk, rfl, rfl, hm, hb⟩ := hrel
      have hz := hb.size
      have bel : Below w.heap.size w wr := bel1.trans (hb.mono bel1.size)
      have s0 := bkeep hb e0
      have s1 := bkeep hb e1
      have s2 := bkeep hb e2
      by_cases hlt : k < x.kids.len
      · obtain h0 | ⟨ba, oa, rfl, hia⟩ := hin
        · omega
        have kA : ∀ b o v, All b → w.cell? ⟨b, o, none⟩ = some v → All b ∧ wr.cell? ⟨b, o, none⟩ = some v := keep_cell (fun _ _ h => h) (Kp.of_below bel).block
        obtain ⟨ua, a0, a1, a2, hxa⟩ := ((hia.mono kA).at_ k hlt).xv
        have hxa' := hxa
        obtain ⟨_, e, _, aoa', capa', rfl, _⟩ := hxa'
        simp at e; subst e
        have IH := fun w hx hp => ih k hlt (.agg #[.int .i64 (x.kids.at_ k).op, .string (x.kids.at_ k).nm, .slice aoa' (x.kids.at_ k).kids.len capa']) w hx hp
        have hda := Fo.pts_at x.op hlt
        have hrn : rn1 x.op (x.kids.at_ k).op = if rnd x.op (x.kids.at_ k).op = true then 1 else 0 := rfl
        have RD := fun w => rIn_any x.op (x.kids.at_ k).op x.nm (x.kids.at_ k).nm (some ⟨ba, oa, none⟩) aoa' x.kids.len (x.kids.at_ k).kids.len cap capa' w
        have HLT := hd hlt
        generalize x.kids.at_ k = xk at *
        have IHw := IH wr hxa (by omega)
        generalize xk.pts = d at *
        go_wp2_with fail
        refine IHw.mono ?_
        rintro e w2 ⟨rfl, hb2⟩
        have bel2 : Below w1.heap.size w1 w2 := hb.trans (hb2.mono hb.size)
        have r0 := fun z : Wd w2 => z.cell (bkeep hb2 s0)
        have r1 := fun z : Wd w2 => z.cell (bkeep hb2 s1)
        have r2 := fun z : Wd w2 => z.cell (bkeep hb2 s2)
        have q0 := fun z : Wd w2 => z.cell (bkeep hb2 a0)
        have q1 := fun z : Wd w2 => z.cell (bkeep hb2 a1)
        have q2 := fun z : Wd w2 => z.cell (bkeep hb2 a2)
        have wne : Nonempty (Wd w2) := Wd.ne _
        have hmd : m + d ≤ 9000 := by omega
        clear s0 s1 s2 a0 a1 a2 hb2 IHw IH
        generalize rnd x.op xk.op = B at *
        go_wp2_with fail
        refine region_quiet_lit (C := fun w' => ∃ z : Wd w2, w' = z.u) (by kernel_rfl) (by kernel_rfl) (Wd.drawn _) ?_
        iterate 6 (go_big_quiet_step (fail))
        go_big_quiet_step (exact calls_wd (RD _))
        refine wpQuiet_nil ?_
        intro _ hw'
        obtain ⟨z, hw''⟩ := hw'
        subst hw''
        have bel3 : Below w1.heap.size w1 z.u := bel2.trans (z.h.mono bel2.size)
        cases B with
        | true =>
          simp only [if_true] at hrn
          go_wp2_with fail
          go_roundw
          case rel => exact ⟨k + 1, m + d + 1, by omega, by go_num, by go_num, by omega, bel3⟩
          case measure => simp [intOf]; omega
        | false =>
          simp only [Bool.false_eq_true, if_false] at hrn
          go_wp2_with fail
          go_roundw
          case rel => exact ⟨k + 1, m + d, by omega, by go_num, by go_num, by omega, bel3⟩
          case measure => simp [intOf]; omega
      · rw [Fo.drp_end (by omega)] at hm
        simp only [Fo.pts] at hm
        go_wp2_with fail
        go_ret
        exact ⟨ret_int (by omega), bel⟩
  have hown : own x.op x.kids.len = 1 := by simp [own, h3, h4]
  have hb3 : (x.op != 3) = true := by simpa using h3
  go_enter Try.func32, Try.ntmps32
  go_wp2_with fail
  rw [← hW]
  have HW := hd hW
  clear hW
  obtain ⟨w1, h1⟩ : ∃ w1, w1 = W := ⟨_, rfl⟩
  rw [← h1]
  have e0 : w1.cell? ⟨w.heap.size, 0, none⟩ = some (.int .i64 x.op) := by rw [h1]; exact hW0
  have e1 : w1.cell? ⟨w.heap.size, 1, none⟩ = some (.string x.nm) := by rw [h1]; exact hW1
  have e2 : w1.cell? ⟨w.heap.size, 2, none⟩ = some (.slice ao x.kids.len cap) := by rw [h1]; exact hW2
  have bel1 : Below w.heap.size w w1 := by rw [h1]; exact hWb
  clear hW0 hW1 hW2 hWb
  go_loopw [3, 4] (fun a i wr => ∃ (k m : Nat), k ≤ x.kids.len ∧ i = .int .i64 k ∧ a = .int .i64 m ∧ m + (x.kids.drp k).pts x.op = XP ∧ Below w1.heap.size w1 wr) (fun _ i _ => x.kids.len - (intOf i).toNat)
  case atStart => exact ⟨0, own x.op x.kids.len, Nat.zero_le _, rfl, by rw [hown]; rfl, by rw [Fo.drp_zero, hpt.out], Below.refl _ _⟩
  case round =>
    obtain ⟨k, m, hk, rfl, rfl, hm, hb⟩ := hrel
    have hz := hb.size
    have bel : Below w.heap.size w wr := bel1.trans (hb.mono bel1.size)
    have s0 := bkeep hb e0
    have s1 := bkeep hb e1
    have s2 := bkeep hb e2
    by_cases hlt : k < x.kids.len
    · obtain h0 | ⟨ba, oa, rfl, hia⟩ := hin
      · omega
      have kA : ∀ b o v, All b → w.cell? ⟨b, o, none⟩ = some v → All b ∧ wr.cell? ⟨b, o, none⟩ = some v := keep_cell (fun _ _ h => h) (Kp.of_below bel).block
      obtain ⟨ua, a0, a1, a2, hxa⟩ := ((hia.mono kA).at_ k hlt).xv
      have hxa' := hxa
      obtain ⟨_, e, _, aoa', capa', rfl, _⟩ := hxa'
      simp at e; subst e
      have IH := fun w hx hp => ih k hlt (.agg #[.int .i64 (x.kids.at_ k).op, .string (x.kids.at_ k).nm, .slice aoa' (x.kids.at_ k).kids.len capa']) w hx hp
      have hda := Fo.pts_at x.op hlt
      have hrn : rn1 x.op (x.kids.at_ k).op = if rnd x.op (x.kids.at_ k).op = true then 1 else 0 := rfl
      have RD := fun w => rIn_any x.op (x.kids.at_ k).op x.nm (x.kids.at_ k).nm (some ⟨ba, oa, none⟩) aoa' x.kids.len (x.kids.at_ k).kids.len cap capa' w
      have HLT := hd hlt
      generalize x.kids.at_ k = xk at *
      have IHw := IH wr hxa (by omega)
      generalize xk.pts = d at *
      go_wp2_with fail
      refine IHw.mono ?_
      rintro e w2 ⟨rfl, hb2⟩
      have bel2 : Below w1.heap.size w1 w2 := hb.trans (hb2.mono hb.size)
      have r0 := fun z : Wd w2 => z.cell (bkeep hb2 s0)
      have r1 := fun z : Wd w2 => z.cell (bkeep hb2 s1)
      have r2 := fun z : Wd w2 => z.cell (bkeep hb2 s2)
      have q0 := fun z : Wd w2 => z.cell (bkeep hb2 a0)
      have q1 := fun z : Wd w2 => z.cell (bkeep hb2 a1)
      have q2 := fun z : Wd w2 => z.cell (bkeep hb2 a2)
      have wne : Nonempty (Wd w2) := Wd.ne _
      have hmd : m + d ≤ 9000 := by omega
      clear s0 s1 s2 a0 a1 a2 hb2 IHw IH
      generalize rnd x.op xk.op = B at *
      go_wp2_with fail
      refine region_quiet_lit (C := fun w' => ∃ z : Wd w2, w' = z.u) (by kernel_rfl) (by kernel_rfl) (Wd.drawn _) ?_
      iterate 6 (go_big_quiet_step (fail))
      go_big_quiet_step (exact calls_wd (RD _))
      refine wpQuiet_nil ?_
      intro _ hw'
      obtain ⟨z, hw''⟩ := hw'
      subst hw''
      have bel3 : Below w1.heap.size w1 z.u := bel2.trans (z.h.mono bel2.size)
      cases B with
      | true =>
        simp only [if_true] at hrn
        go_wp2_with fail
        go_roundw
        case rel => exact ⟨k + 1, m + d + 1, by omega, by go_num, by go_num, by omega, bel3⟩
        case measure => simp [intOf]; omega
      | false =>
        simp only [Bool.false_eq_true, if_false] at hrn
        go_wp2_with fail
        go_roundw
        case rel => exact ⟨k + 1, m + d, by omega, by go_num, by go_num, by omega, bel3⟩
        case measure => simp [intOf]; omega
    · rw [Fo.drp_end (by omega)] at hm
      simp only [Fo.pts] at hm
      go_wp2_with fail
      go_ret
      exact ⟨ret_int (by omega), bel⟩
theorem po_all : ∀ (f : Fo) (i : Nat), i < f.len → PoOK (f.at_ i)
  | .nil, _, h => absurd h (Nat.not_lt_zero _)
  | .cons op nm kids _, 0, _ => po_head ⟨op, nm, kids⟩ (po_all kids)
  | .cons _ _ _ rest, i + 1, h => po_all rest i (by simpa [Fo.len] using h)
theorem po_any (x : Xp) : PoOK x := po_head x (po_all x.kids)
end Go.Proofs.Ytdikjhfnmkejcab
