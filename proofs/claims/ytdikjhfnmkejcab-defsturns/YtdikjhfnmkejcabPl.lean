/- What package render goes through expressions for: parts, open brackets, faults. -/
import Derived.Test.YtdikjhfnmkejcabMk
import Derived.Test.YtdikjhfnmkejcabXk
namespace Go.Proofs.Ytdikjhfnmkejcab
open Go.RowKit
theorem own_le (op : Int) (n : Nat) (h : n ≤ 9223372036854775807) : ((own op n : Nat) : Int) ≤ 9223372036854775806 := by
  unfold own; (repeat' split) <;> omega
theorem alcell {wr : World} {b o : Nat} {v : Value} (h : wr.cell? ⟨b, o, none⟩ = some v) (ob : Obj) : (wr.alloc ob).cell? ⟨b, o, none⟩ = some v := by
  rw [(al1 wr ob).cell (p := ⟨b, o, none⟩) (lt_of_cell h)]; exact h
theorem bkeep {w w' : World} (h : Below w.heap.size w w') {b o : Nat} {v : Value} (hc : w.cell? ⟨b, o, none⟩ = some v) : w'.cell? ⟨b, o, none⟩ = some v := by
  rw [h.cell (p := ⟨b, o, none⟩) (lt_of_cell hc)]; exact hc
def PlOK (x : Xp) : Prop := ∀ (z : Int) (va : Value) (w : World), XV w All va x → -1 ≤ z → z ≤ 60 →
  Calls Try.prog 68 #[va, .int .i64 z] w fun e w' => ∃ q : Int, e = .returned (.int .i64 q) ∧ (0 ≤ q → q = z - x.pts) ∧ (q < 0 → z < x.pts) ∧ q ≤ 60 ∧ Below w.heap.size w w'
set_option maxRecDepth 100000 in
set_option maxHeartbeats 4000000 in
theorem pl_head (x : Xp) (ih : ∀ i, i < x.kids.len → PlOK (x.kids.at_ i)) : PlOK x := by
  intro z va w hx hz0 hz1
  obtain ⟨u, rfl, hl, ao, cap, rfl, hin⟩ := hx
  obtain ⟨W, hW⟩ : ∃ W, W = w.alloc (.cells #[.int .i64 x.op, .string x.nm, .slice ao x.kids.len cap] 48) := ⟨_, rfl⟩
  have hWz : W.heap.size = w.heap.size + 1 := by rw [hW]; simp
  have hWb : Below w.heap.size w W := by rw [hW]; exact (Below.refl _ _).alloc (Nat.le_refl _) _
  have hW0 : W.cell? ⟨w.heap.size, 0, none⟩ = some (.int .i64 x.op) := by rw [hW]; simp
  have hW1 : W.cell? ⟨w.heap.size, 1, none⟩ = some (.string x.nm) := by rw [hW]; simp
  have hW2 : W.cell? ⟨w.heap.size, 2, none⟩ = some (.slice ao x.kids.len cap) := by rw [hW]; simp
  have ho := own_le x.op x.kids.len hl
  have OP := fun w => ownParts_any x.op x.nm ao x.kids.len cap w hl
  have hpt : Hid (x.pts = own x.op x.kids.len + x.kids.pts x.op) := hd rfl
  generalize x.pts = XP at *
  generalize own x.op x.kids.len = o at *
  go_enter Try.func68, Try.ntmps68
  go_wp2_with fail
  refine (OP _).mono ?_
  rintro e w1 ⟨rfl, hb1⟩
  rw [← hW] at hb1
  have HW := hd hW
  clear hW
  have z1 := hb1.size
  have e0 : w1.cell? ⟨w.heap.size, 0, none⟩ = some (.int .i64 x.op) := by rw [hb1.cell (p := ⟨w.heap.size, 0, none⟩) (by simp; omega)]; exact hW0
  have e1 : w1.cell? ⟨w.heap.size, 1, none⟩ = some (.string x.nm) := by rw [hb1.cell (p := ⟨w.heap.size, 1, none⟩) (by simp; omega)]; exact hW1
  have e2 : w1.cell? ⟨w.heap.size, 2, none⟩ = some (.slice ao x.kids.len cap) := by rw [hb1.cell (p := ⟨w.heap.size, 2, none⟩) (by simp; omega)]; exact hW2
  have bel1 : Below w.heap.size w w1 := hWb.trans (hb1.mono (by omega))
  clear hW0 hW1 hW2 hWb hb1
  go_wp2_with fail
  go_loopw [1, 14] (fun a i wr => ∃ (k : Nat) (q : Int), k ≤ x.kids.len ∧ i = .int .i64 k ∧ a = .int .i64 q ∧ q ≤ 60 ∧ (0 ≤ q → q - (x.kids.drp k).pts x.op = z - XP) ∧ (q < 0 → z < XP) ∧ Below w1.heap.size w1 wr) (fun _ i _ => x.kids.len - (intOf i).toNat)
  case atStart =>
    refine ⟨0, z - o, Nat.zero_le _, rfl, rfl, by omega, ?_, ?_, Below.refl _ _⟩
    · rw [Fo.drp_zero]; have := hpt.out; omega
    · have := hpt.out; omega
  case round =>
    obtain ⟨k, q, hk, rfl, rfl, hq1, hqa, hqb, hb⟩ := hrel
    have hz := hb.size
    have bel : Below w.heap.size w wr := bel1.trans (hb.mono bel1.size)
    have s0 : wr.cell? ⟨w.heap.size, 0, none⟩ = some (.int .i64 x.op) := by rw [hb.cell (p := ⟨w.heap.size, 0, none⟩) (lt_of_cell e0)]; exact e0
    have s1 : wr.cell? ⟨w.heap.size, 1, none⟩ = some (.string x.nm) := by rw [hb.cell (p := ⟨w.heap.size, 1, none⟩) (lt_of_cell e1)]; exact e1
    have s2 : wr.cell? ⟨w.heap.size, 2, none⟩ = some (.slice ao x.kids.len cap) := by rw [hb.cell (p := ⟨w.heap.size, 2, none⟩) (lt_of_cell e2)]; exact e2
    by_cases hlt : k < x.kids.len
    · obtain h0 | ⟨ba, oa, rfl, hia⟩ := hin
      · omega
      have kA : ∀ b o v, All b → w.cell? ⟨b, o, none⟩ = some v → All b ∧ wr.cell? ⟨b, o, none⟩ = some v := keep_cell (fun _ _ h => h) (Kp.of_below bel).block
      obtain ⟨ua, a0, a1, a2, hxa⟩ := ((hia.mono kA).at_ k hlt).xv
      have hxa' := hxa
      obtain ⟨_, e, _, aoa', capa', rfl, _⟩ := hxa'
      simp at e; subst e
      have IH := ih k hlt
      have hpa := Fo.pts_at x.op hlt
      have hrn : rn1 x.op (x.kids.at_ k).op = if rnd x.op (x.kids.at_ k).op = true then 1 else 0 := rfl
      have RD := fun w => rounded_any (x.kids.at_ k).op x.op (x.kids.at_ k).nm x.nm aoa' (some ⟨ba, oa, none⟩) (x.kids.at_ k).kids.len x.kids.len capa' cap w
      have HLT := hd hlt
      generalize x.kids.at_ k = xk at *
      obtain ⟨ob, hob⟩ : ∃ ob : Obj, ob = .cells #[.int .i64 xk.op, .string xk.nm, .slice aoa' xk.kids.len capa'] 48 := ⟨_, rfl⟩
      have t0 := alcell s0 ob
      have t1 := alcell s1 ob
      have t2 := alcell s2 ob
      have y0 : (wr.alloc ob).cell? ⟨wr.heap.size, 0, none⟩ = some (.int .i64 xk.op) := by rw [hob]; simp
      have y1 : (wr.alloc ob).cell? ⟨wr.heap.size, 1, none⟩ = some (.string xk.nm) := by rw [hob]; simp
      have y2 : (wr.alloc ob).cell? ⟨wr.heap.size, 2, none⟩ = some (.slice aoa' xk.kids.len capa') := by rw [hob]; simp
      have bz : Below w1.heap.size w1 (wr.alloc ob) := hb.trans ((al1 wr ob).mono hb.size)
      have hxz := hxa.below (al1 wr ob)
      by_cases hq : q < 0
      · subst hob
        go_wp2_with fail
        go_ret
        exact ⟨q, rfl, fun h => by omega, hqb, hq1, bel1.trans (bz.mono bel1.size)⟩
      · subst hob
        go_wp2_with fail
        refine (RD _).mono ?_
        rintro e w2 ⟨rfl, hb2⟩
        have r0 := bkeep hb2 y0
        have r1 := bkeep hb2 y1
        have r2 := bkeep hb2 y2
        have hx2 := hxz.below hb2
        have bel2 : Below w1.heap.size w1 w2 := bz.trans (hb2.mono bz.size)
        clear bz hxz y0 y1 y2 t0 t1 t2 hb2 RD
        cases hB : rnd x.op xk.op with
        | true =>
          rw [hB] at hrn
          simp only [if_true] at hrn
          go_wp2_with fail
          refine (IH _ _ _ hx2 (by omega) (by omega)).mono ?_
          rintro e w3 ⟨q', rfl, i1, i2, i3, hb3⟩
          go_wp2_with fail
          go_roundw
          case rel => exact ⟨k + 1, q', by omega, by go_num, rfl, i3, by omega, by omega, bel2.trans (hb3.mono bel2.size)⟩
          case measure => simp [intOf]; omega
        | false =>
          rw [hB] at hrn
          simp only [Bool.false_eq_true, if_false] at hrn
          go_wp2_with fail
          refine (IH _ _ _ hx2 (by omega) (by omega)).mono ?_
          rintro e w3 ⟨q', rfl, i1, i2, i3, hb3⟩
          go_wp2_with fail
          go_roundw
          case rel => exact ⟨k + 1, q', by omega, by go_num, rfl, i3, by omega, by omega, bel2.trans (hb3.mono bel2.size)⟩
          case measure => simp [intOf]; omega
    · rw [Fo.drp_end (by omega)] at hqa
      simp only [Fo.pts] at hqa
      go_wp2_with fail
      go_ret
      exact ⟨q, rfl, by omega, hqb, hq1, bel⟩
theorem pl_all : ∀ (f : Fo) (i : Nat), i < f.len → PlOK (f.at_ i)
  | .nil, _, h => absurd h (Nat.not_lt_zero _)
  | .cons op nm kids _, 0, _ => pl_head ⟨op, nm, kids⟩ (pl_all kids)
  | .cons _ _ _ rest, i + 1, h => pl_all rest i (by simpa [Fo.len] using h)
theorem pl_any (x : Xp) : PlOK x := pl_head x (pl_all x.kids)
end Go.Proofs.Ytdikjhfnmkejcab
