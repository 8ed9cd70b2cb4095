/- Texts laid together: Dp Rr Ro Re Rt Bld Sm St Cd. -/
import Derived.Test.YtghplmldnkcpnacL04
import Derived.Deep.QuietTactic
import Derived.BigQuiet
import Derived.Shelf.Strings.BuilderK
import Derived.Test.YtghplmldnkcpnacL01
import Derived.Test.YtghplmldnkcpnacProg
import Derived.Laws.Externs
import Derived.RegionTactic
/- What package render goes through expressions for: open brackets, faults. -/
namespace Go.Proofs.Ytghplmldnkcpnac
open Go.RowKit
theorem Fo.dp_le (p : Int) : ∀ {f : Fo} {i : Nat}, i < f.len → (f.at_ i).dp + br1 p (f.at_ i).op ≤ f.dp p
  | .nil, _, h => absurd h (Nat.not_lt_zero _)
  | .cons .., 0, _ => Nat.le_max_left _ _
  | .cons _ _ _ r, i + 1, h => Nat.le_trans (Fo.dp_le p (f := r) (i := i) (by simpa [Fo.len] using h)) (Nat.le_max_right _ _)
def DpOK (x : Xp) : Prop := ∀ (va : Value) (w : World), XV w All va x → x.dp ≤ 9000 →
  Calls Try.prog 142 #[va] w fun e w' => e = .returned (.int .i64 ((x.dp : Nat) : Int)) ∧ Below w.heap.size w w'
set_option maxRecDepth 100000 in
set_option maxHeartbeats 4000000 in
theorem dp_head (x : Xp) (ih : ∀ i, i < x.kids.len → DpOK (x.kids.at_ i)) : DpOK x := by
  intro va w hx hd9
  obtain ⟨u, rfl, hl, ao, cap, rfl, hin⟩ := hx
  obtain ⟨W, hW⟩ : ∃ W, W = w.alloc (.cells #[.int .i64 x.op, .string x.nm, .slice ao x.kids.len cap] 64) := ⟨_, rfl⟩
  have hWz : W.heap.size = w.heap.size + 1 := by rw [hW]; simp
  have hWb : Below w.heap.size w W := by rw [hW]; exact (Below.refl _ _).alloc (Nat.le_refl _) _
  have hW0 : W.cell? ⟨w.heap.size, 0, none⟩ = some (.int .i64 x.op) := by rw [hW]; simp
  have hW1 : W.cell? ⟨w.heap.size, 1, none⟩ = some (.string x.nm) := by rw [hW]; simp
  have hW2 : W.cell? ⟨w.heap.size, 2, none⟩ = some (.slice ao x.kids.len cap) := by rw [hW]; simp
  have hdp : x.dp = x.kids.dp x.op := rfl
  have Hdp := hd hdp
  generalize x.dp = D at *
  go_enter Try.func142, Try.ntmps142
  go_wp2_with fail
  rw [← hW]
  have HW := hd hW
  clear hW
  obtain ⟨w1, h1⟩ : ∃ w1, w1 = W := ⟨_, rfl⟩
  rw [← h1]
  have e0 : w1.cell? ⟨w.heap.size, 0, none⟩ = some (.int .i64 x.op) := by rw [h1]; exact hW0
  have e1 : w1.cell? ⟨w.heap.size, 1, none⟩ = some (.string x.nm) := by rw [h1]; exact hW1
  have e2 : w1.cell? ⟨w.heap.size, 2, none⟩ = some (.slice ao x.kids.len cap) := by rw [h1]; exact hW2
  have bel1 : Below w.heap.size w w1 := by rw [h1]; exact hWb
  clear hW0 hW1 hW2 hWb
  go_loopw [3, 10] (fun a i wr => ∃ (k m : Nat), k ≤ x.kids.len ∧ i = .int .i64 k ∧ a = .int .i64 m ∧ max m ((x.kids.drp k).dp x.op) = D ∧ Below w1.heap.size w1 wr) (fun _ i _ => x.kids.len - (intOf i).toNat)
  case atStart => exact ⟨0, 0, Nat.zero_le _, rfl, rfl, by rw [Fo.drp_zero, hdp]; omega, Below.refl _ _⟩
  case round =>
    obtain ⟨k, m, hk, rfl, rfl, hm, hb⟩ := hrel
    have hz := hb.size
    have bel : Below w.heap.size w wr := bel1.trans (hb.mono bel1.size)
    have s0 := bkeep hb e0
    have s1 := bkeep hb e1
    have s2 := bkeep hb e2
    by_cases hlt : k < x.kids.len
    · obtain h0 | ⟨ba, oa, rfl, hia⟩ := hin
      · omega
      have kA : ∀ b o v, All b → w.cell? ⟨b, o, none⟩ = some v → All b ∧ wr.cell? ⟨b, o, none⟩ = some v := keep_cell (fun _ _ h => h) (Kp.of_below bel).block
      obtain ⟨ua, a0, a1, a2, hxa⟩ := ((hia.mono kA).at_ k hlt).xv
      have hxa' := hxa
      obtain ⟨_, e, _, aoa', capa', rfl, _⟩ := hxa'
      simp at e; subst e
      have IH := ih k hlt
      have hda := Fo.dp_at x.op hlt
      have hdl := Fo.dp_le x.op hlt
      have hbr : br1 x.op (x.kids.at_ k).op = if 5 ≤ x.op ∨ rnd x.op (x.kids.at_ k).op = true then 1 else 0 := rfl
      have RD := fun w => rounded_any (x.kids.at_ k).op x.op (x.kids.at_ k).nm x.nm aoa' (some ⟨ba, oa, none⟩) (x.kids.at_ k).kids.len x.kids.len capa' cap w
      have HLT := hd hlt
      generalize x.kids.at_ k = xk at *
      obtain ⟨ob, hob⟩ : ∃ ob : Obj, ob = .cells #[.int .i64 xk.op, .string xk.nm, .slice aoa' xk.kids.len capa'] 64 := ⟨_, rfl⟩
      have t0 := alcell s0 ob
      have t1 := alcell s1 ob
      have t2 := alcell s2 ob
      have y0 : (wr.alloc ob).cell? ⟨wr.heap.size, 0, none⟩ = some (.int .i64 xk.op) := by rw [hob]; simp
      have y1 : (wr.alloc ob).cell? ⟨wr.heap.size, 1, none⟩ = some (.string xk.nm) := by rw [hob]; simp
      have y2 : (wr.alloc ob).cell? ⟨wr.heap.size, 2, none⟩ = some (.slice aoa' xk.kids.len capa') := by rw [hob]; simp
      have bz : Below w1.heap.size w1 (wr.alloc ob) := hb.trans ((al1 wr ob).mono hb.size)
      have hxz := hxa.below (al1 wr ob)
      subst hob
      have IHc := fun w hx => IH (.agg #[.int .i64 xk.op, .string xk.nm, .slice aoa' xk.kids.len capa']) w hx (by omega)
      generalize xk.dp = d at *
      go_wp2_with fail
      refine (IHc _ hxz).mono ?_
      rintro e w2 ⟨rfl, hb2⟩
      have r0 := bkeep hb2 y0
      have r1 := bkeep hb2 y1
      have r2 := bkeep hb2 y2
      have v0 := bkeep hb2 t0
      have v1 := bkeep hb2 t1
      have v2 := bkeep hb2 t2
      have bel2 : Below w1.heap.size w1 w2 := bz.trans (hb2.mono bz.size)
      clear bz hxz y0 y1 y2 t0 t1 t2 hb2
      by_cases h5 : 5 ≤ x.op
      · simp only [h5, true_or, if_true] at hbr
        go_wp2_with fail
        go_roundw
        case rel => exact ⟨k + 1, max m (d + 1), by omega, by go_num, by go_num, by omega, bel2⟩
        case measure => simp [intOf]; omega
      · go_wp2_with fail
        refine (RD _).mono ?_
        rintro e w3 ⟨rfl, hb3⟩
        have bel3 : Below w1.heap.size w1 w3 := bel2.trans (hb3.mono bel2.size)
        cases hB : rnd x.op xk.op with
        | true =>
          simp only [hB, or_true, if_true] at hbr
          go_wp2_with fail
          go_roundw
          case rel => exact ⟨k + 1, max m (d + 1), by omega, by go_num, by go_num, by omega, bel3⟩
          case measure => simp [intOf]; omega
        | false =>
          rw [if_neg (by rw [hB]; simp; omega)] at hbr
          go_wp2_with fail
          go_roundw
          case rel => exact ⟨k + 1, max m d, by omega, by go_num, by go_num, by omega, bel3⟩
          case measure => simp [intOf]; omega
    · rw [Fo.drp_end (by omega)] at hm
      simp only [Fo.dp] at hm
      go_wp2_with fail
      go_ret
      exact ⟨ret_int (by omega), bel⟩
theorem dp_all : ∀ (f : Fo) (i : Nat), i < f.len → DpOK (f.at_ i)
  | .nil, _, h => absurd h (Nat.not_lt_zero _)
  | .cons op nm kids _, 0, _ => dp_head ⟨op, nm, kids⟩ (dp_all kids)
  | .cons _ _ _ rest, i + 1, h => dp_all rest i (by simpa [Fo.len] using h)
theorem dp_any (x : Xp) : DpOK x := dp_head x (dp_all x.kids)
def CeOK (x : Xp) : Prop := ∀ (va : Value) (w : World), XV w All va x → x.sh →
  Calls Try.prog 143 #[va] w fun e w' => e = .returned (.int .i64 x.bad) ∧ Below w.heap.size w w'
set_option maxRecDepth 100000 in
set_option maxHeartbeats 4000000 in
theorem ce_head (x : Xp) (ih : ∀ i, i < x.kids.len → CeOK (x.kids.at_ i)) : CeOK x := by
  intro va w hx hsh
  obtain ⟨u, rfl, hl, ao, cap, rfl, hin⟩ := hx
  obtain ⟨W, hW⟩ : ∃ W, W = w.alloc (.cells #[.int .i64 x.op, .string x.nm, .slice ao x.kids.len cap] 64) := ⟨_, rfl⟩
  have hWz : W.heap.size = w.heap.size + 1 := by rw [hW]; simp
  have hWb : Below w.heap.size w W := by rw [hW]; exact (Below.refl _ _).alloc (Nat.le_refl _) _
  have hW0 : W.cell? ⟨w.heap.size, 0, none⟩ = some (.int .i64 x.op) := by rw [hW]; simp
  have hW1 : W.cell? ⟨w.heap.size, 1, none⟩ = some (.string x.nm) := by rw [hW]; simp
  have hW2 : W.cell? ⟨w.heap.size, 2, none⟩ = some (.slice ao x.kids.len cap) := by rw [hW]; simp
  have FM := fun w => formed_any x.op x.nm ao x.kids.len cap w hl
  have NM := fun w => named_any x.op x.nm ao x.kids.len cap w hsh.1
  have hbd : Hid (x.bad = if code x.op x.nm x.kids.len ≠ 0 then code x.op x.nm x.kids.len else x.kids.bad) := hd rfl
  generalize x.bad = D at *
  cases hF : formB x.op x.nm x.kids.len with
  | false =>
    have hc : D = 3 := by rw [hbd.out]; simp [code, hF]
    rw [hF] at FM
    subst hc
    go_enter Try.func143, Try.ntmps143
    go_wp2_with fail
    refine (FM _).mono ?_
    rintro e w1 ⟨rfl, hb1⟩
    rw [← hW] at hb1
    go_wp2_with fail
    go_ret
    exact ⟨rfl, hWb.trans (hb1.mono (by omega))⟩
  | true =>
  rw [hF] at FM
  cases hN : namB x.op x.nm with
  | false =>
    have hc : D = 2 := by rw [hbd.out]; simp [code, hF, hN]
    rw [hN] at NM
    subst hc
    go_enter Try.func143, Try.ntmps143
    go_wp2_with fail
    refine (FM _).mono ?_
    rintro e w1 ⟨rfl, hb1⟩
    rw [← hW] at hb1
    have e0 := bkeep hb1 hW0
    have e1 := bkeep hb1 hW1
    have e2 := bkeep hb1 hW2
    go_wp2_with fail
    refine (NM _).mono ?_
    rintro e w2 ⟨rfl, hb2⟩
    go_wp2_with fail
    go_ret
    exact ⟨rfl, (hWb.trans (hb1.mono (by omega))).trans (hb2.mono (by have := hb1.size; omega))⟩
  | true =>
  rw [hN] at NM
  have hc : D = x.kids.bad := by rw [hbd.out]; simp [code, hF, hN]
  clear hbd
  have HF := hd hF
  have HN := hd hN
  clear hF hN
  go_enter Try.func143, Try.ntmps143
  go_wp2_with fail
  refine (FM _).mono ?_
  rintro e w0 ⟨rfl, hb0⟩
  rw [← hW] at hb0
  have d0 := bkeep hb0 hW0
  have d1 := bkeep hb0 hW1
  have d2 := bkeep hb0 hW2
  have bel0 : Below w.heap.size w w0 := hWb.trans (hb0.mono (by omega))
  have HW := hd hW
  clear hW hW0 hW1 hW2 hWb hb0 FM
  go_wp2_with fail
  refine (NM _).mono ?_
  rintro e w1 ⟨rfl, hb1⟩
  have e0 := bkeep hb1 d0
  have e1 := bkeep hb1 d1
  have e2 := bkeep hb1 d2
  have bel1 : Below w.heap.size w w1 := bel0.trans (hb1.mono bel0.size)
  clear hb1 d0 d1 d2 bel0 NM
  go_wp2_with fail
  go_loopw [15] (fun i wr => ∃ (k : Nat), k ≤ x.kids.len ∧ i = .int .i64 k ∧ (x.kids.drp k).bad = D ∧ Below w1.heap.size w1 wr) (fun i _ => x.kids.len - (intOf i).toNat)
  case atStart => exact ⟨0, Nat.zero_le _, rfl, by rw [Fo.drp_zero, hc], Below.refl _ _⟩
  case round =>
    obtain ⟨k, hk, rfl, hm, hb⟩ := hrel
    have hz := hb.size
    have bel : Below w.heap.size w wr := bel1.trans (hb.mono bel1.size)
    have s0 := bkeep hb e0
    have s1 := bkeep hb e1
    have s2 := bkeep hb e2
    by_cases hlt : k < x.kids.len
    · obtain h0 | ⟨ba, oa, rfl, hia⟩ := hin
      · omega
      have kA : ∀ b o v, All b → w.cell? ⟨b, o, none⟩ = some v → All b ∧ wr.cell? ⟨b, o, none⟩ = some v := keep_cell (fun _ _ h => h) (Kp.of_below bel).block
      obtain ⟨ua, a0, a1, a2, hxa⟩ := ((hia.mono kA).at_ k hlt).xv
      have hxa' := hxa
      obtain ⟨_, e, _, aoa', capa', rfl, _⟩ := hxa'
      simp at e; subst e
      have IH := fun w hx => ih k hlt (.agg #[.int .i64 (x.kids.at_ k).op, .string (x.kids.at_ k).nm, .slice aoa' (x.kids.at_ k).kids.len capa']) w hx (hsh.2.at_ hlt)
      have hda := Fo.bad_at hlt
      have HLT := hd hlt
      generalize x.kids.at_ k = xk at *
      obtain ⟨ob, hob⟩ : ∃ ob : Obj, ob = .cells #[.int .i64 xk.op, .string xk.nm, .slice aoa' xk.kids.len capa'] 64 := ⟨_, rfl⟩
      have t0 := alcell s0 ob
      have t1 := alcell s1 ob
      have t2 := alcell s2 ob
      have y0 : (wr.alloc ob).cell? ⟨wr.heap.size, 0, none⟩ = some (.int .i64 xk.op) := by rw [hob]; simp
      have y1 : (wr.alloc ob).cell? ⟨wr.heap.size, 1, none⟩ = some (.string xk.nm) := by rw [hob]; simp
      have y2 : (wr.alloc ob).cell? ⟨wr.heap.size, 2, none⟩ = some (.slice aoa' xk.kids.len capa') := by rw [hob]; simp
      have bz : Below w1.heap.size w1 (wr.alloc ob) := hb.trans ((al1 wr ob).mono hb.size)
      have hxz := hxa.below (al1 wr ob)
      subst hob
      generalize xk.bad = d at *
      go_wp2_with fail
      refine (IH _ hxz).mono ?_
      rintro e w2 ⟨rfl, hb2⟩
      have bel2 : Below w1.heap.size w1 w2 := bz.trans (hb2.mono bz.size)
      clear bz hxz y0 y1 y2 t0 t1 t2 hb2
      by_cases h5 : d = 0
      · subst h5
        simp only [ne_eq, not_true_eq_false, if_false] at hda
        go_wp2_with fail
        go_roundw
        case rel => exact ⟨k + 1, by omega, by go_num, by rw [← hda]; exact hm, bel2⟩
        case measure => simp [intOf]; omega
      · rw [if_pos h5] at hda
        go_wp2_with fail
        go_ret
        exact ⟨ret_int (by rw [← hm, hda]), bel1.trans (bel2.mono bel1.size)⟩
    · rw [Fo.drp_end (by omega)] at hm
      simp only [Fo.bad] at hm
      go_wp2_with fail
      go_ret
      exact ⟨ret_int hm, bel⟩
theorem ce_all : ∀ (f : Fo) (i : Nat), i < f.len → CeOK (f.at_ i)
  | .nil, _, h => absurd h (Nat.not_lt_zero _)
  | .cons op nm kids _, 0, _ => ce_head ⟨op, nm, kids⟩ (ce_all kids)
  | .cons _ _ _ rest, i + 1, h => ce_all rest i (by simpa [Fo.len] using h)
theorem ce_any (x : Xp) : CeOK x := ce_head x (ce_all x.kids)
end Go.Proofs.Ytghplmldnkcpnac

/- The document's own counting: round brackets, parts, open brackets. -/
namespace Go.Proofs.Ytghplmldnkcpnac
open Go.RowKit
end Go.Proofs.Ytghplmldnkcpnac

/- The document's own look at expressions: open brackets, faults. -/
namespace Go.Proofs.Ytghplmldnkcpnac
open Go.RowKit
end Go.Proofs.Ytghplmldnkcpnac

/- The document's own look at expressions: the first fault. -/
namespace Go.Proofs.Ytghplmldnkcpnac
open Go.RowKit
end Go.Proofs.Ytghplmldnkcpnac

/- The document's own text of an expression. -/
namespace Go.Proofs.Ytghplmldnkcpnac
open Go.RowKit
end Go.Proofs.Ytghplmldnkcpnac

/- A builder of strings that the call has made: what WriteString and String do, at this dump. -/
namespace Go.Proofs.Ytghplmldnkcpnac
open Go.RowKit

theorem sizeBld : (Try.prog.info? 153).map (·.size) = some 2 := by kernel_rfl
theorem liesBld : liesAt Try.prog Try.prog.depth 153 (2 / Try.prog.cellsOf 153) 0 153 1 = true := by kernel_rfl
theorem infoByt : (Try.prog.info? 5).map (fun i => (i.zero, i.size, i.bytes)) = some (some (.int .u8 0), 1, 1) := by kernel_rfl
set_option maxHeartbeats 1000000 in
set_option maxRecDepth 100000 in
theorem bcheck_used (b : Nat) (w : World) (h0 : w.cell? ⟨b, 0, none⟩ = some (.pointer (some ⟨b, 0, none⟩))) :
    Calls Try.prog 144 #[.pointer (some ⟨b, 0, none⟩)] w fun e w' => e = .returned (.tuple #[]) ∧ w' = w := by
  obtain ⟨j, hj, _⟩ := Option.map_eq_some_iff.1 sizeBld
  go_enter Try.func144, Try.ntmps144
  go_wp2
  rw [Lib.run_neq_ptr_same w _ Try.underlying150 hj]
  go_wp2
  go_end0
  exact ⟨rfl, rfl⟩
set_option maxHeartbeats 1000000 in
set_option maxRecDepth 100000 in
theorem bcheck_fresh (b : Nat) (w : World) (h0 : w.cell? ⟨b, 0, none⟩ = some (.pointer none)) (hsh : w.shape? b = some (153, 2)) (hfz : w.frozen? ⟨b, 0, none⟩ = false) :
    Calls Try.prog 144 #[.pointer (some ⟨b, 0, none⟩)] w fun e w' => e = .returned (.tuple #[]) ∧ w' = w.setCell ⟨b, 0, none⟩ (.pointer (some ⟨b, 0, none⟩)) := by
  obtain ⟨j, hj, hjs⟩ := Option.map_eq_some_iff.1 sizeBld
  go_enter Try.func144, Try.ntmps144
  go_wp2
  rw [Lib.run_to_unsafe w ⟨b, 0, none⟩ Try.underlying150 Try.underlying164 hj (by rw [hjs]; decide) hsh (Nat.zero_lt_succ 1)]
  simp only [Result.andThen]
  rw [Oper.upon_value]
  go_wp2
  rw [run_callFunc_extern Try.func154 (by kernel_rfl) (by kernel_rfl) (by kernel_rfl) (e := Extern.AbiNoEscape.same) (by kernel_rfl)]
  rw [Lib.run_noEscape]
  simp only [Result.andThen]
  rw [Oper.upon_value]
  go_wp2
  rw [Lib.run_from_unsafe w ⟨b, 0, none⟩ Try.underlying164 Try.underlying150 hj hsh liesBld]
  simp only [Result.andThen]
  rw [Oper.upon_value]
  go_wp2
  go_end0
  exact ⟨rfl, rfl⟩
/-- A builder, holding bytes. -/
def Bl (B b : Nat) (l : List UInt8) (w : World) : Prop := Lib.IsBuilderF 153 5 B b (Lib.byteCells l) w
/-- All other blocks stand, but rows of bytes. -/
abbrev Ot (b : Nat) (w w' : World) : Prop := Lib.OthersKept 5 (some b) w w'
theorem bcheck (B b : Nat) (bs : List Value) (w : World) (h : Lib.IsBuilderF 153 5 B b bs w) :
    Calls Try.prog 144 #[.pointer (some ⟨b, 0, none⟩)] w fun e w' => e = .returned (.tuple #[]) ∧ Lib.BuilderAtF 153 5 B b (.pointer (some ⟨b, 0, none⟩)) bs w' ∧ Below B w w' ∧ Ot b w w' := by
  rcases h with h | h
  · refine (bcheck_fresh b w h.cell0 h.shape h.frozen0).mono ?_
    rintro e w' ⟨rfl, rfl⟩
    exact ⟨rfl, h.used _, (Below.refl B w).setCell (p := ⟨b, 0, none⟩) h.1 _, (Lib.OthersKept.refl _ _ w).setCell ⟨b, 0, none⟩ rfl _⟩
  · refine (bcheck_used b w h.cell0).mono ?_
    rintro e w' ⟨rfl, rfl⟩
    exact ⟨rfl, h, Below.refl B _, Lib.OthersKept.refl _ _ _⟩
theorem strCells_eq (s : ByteArray) : Lib.strCells s = Lib.byteCells s.data.toList := by
  simp [Lib.strCells, Lib.byteCells]
theorem byteCells_append (l m : List UInt8) : Lib.byteCells (l ++ m) = Lib.byteCells l ++ Lib.byteCells m := by
  simp [Lib.byteCells]
set_option maxHeartbeats 2000000 in
set_option maxRecDepth 100000 in
theorem bwrite (B b : Nat) (l : List UInt8) (s : ByteArray) (w : World) (h : Bl B b l w) (hlen : l.length + s.size ≤ 1000000) (hBw : B ≤ w.heap.size) :
    Calls Try.prog 137 #[.pointer (some ⟨b, 0, none⟩), .string s] w fun e w' => e = .returned (.tuple #[.int .i64 s.size, .nilIface]) ∧ Bl B b (l ++ s.data.toList) w' ∧ Below B w w' ∧ Ot b w w' := by
  obtain ⟨i0, hi, hz0, hz1, hz2⟩ := info_parts infoByt
  have hcl : (Lib.byteCells l).length = l.length := by simp [Lib.byteCells]
  go_enter Try.func137, Try.ntmps137
  go_wp2_with fail
  refine (bcheck B b _ _ h).mono ?_
  rintro e w1 ⟨rfl, h1, hb1, hk1⟩
  obtain ⟨hB, v, hbk, hown, hne⟩ := h1
  have c0 : w1.cell? ⟨b, 0, none⟩ = some (.pointer (some ⟨b, 0, none⟩)) := by rw [Lib.cell_of_heap hbk]; rfl
  have c1 : w1.cell? ⟨b, 1, none⟩ = some v := by rw [Lib.cell_of_heap hbk]; rfl
  go_wp2_with (at_builtin; refine Lib.wpList_append_own_stringF _ rfl _ _ 151 9 rfl B 5 i0 Try.underlying151 Try.underlying9 hi hz0 hz1 hz2 _ _ _ rfl hown s rfl ?c3 ?c4 ?c5 ?_)
  case c3 => unfold maxLen; omega
  case c4 => omega
  case c5 => have := hb1.size; omega
  intro v' w2 hown' hgrow _
  have hlt : b < w1.heap.size := by
    rcases Nat.lt_or_ge b w1.heap.size with h' | h'
    · exact h'
    · simp [Array.getElem?_eq_none h'] at hbk
  have hb2 : w2.heap[b]? = some (.cells #[.pointer (some ⟨b, 0, none⟩), v] 153 (0, 0)) := by
    rw [hgrow.block b hlt (fun e => hne e.symm)]
    exact hbk
  have d0 : w2.cell? ⟨b, 0, none⟩ = some (.pointer (some ⟨b, 0, none⟩)) := by rw [Lib.cell_of_heap hb2]; rfl
  have d1 : w2.cell? ⟨b, 1, none⟩ = some v := by rw [Lib.cell_of_heap hb2]; rfl
  have f1 : w2.frozen? ⟨b, 1, none⟩ = false := Lib.frozen_of_heap hb2 1
  obtain ⟨ao, n', cap, rfl⟩ : ∃ ao n' cap, v' = .slice ao n' cap := by
    rcases hown'.2 with ⟨hv, _⟩ | ⟨g, cap, cur, fz, hv, _⟩
    · exact ⟨_, _, _, hv⟩
    · exact ⟨_, _, _, hv⟩
  go_wp2
  go_ret2
  refine ⟨rfl, .inr ?_, ?_, (hk1.grown hgrow (Lib.ownsRowF_kind hown)).setCell ⟨b, 1, none⟩ rfl _⟩
  · refine Lib.BuilderAtF.put (T := 153) (e := 5) hB hb2 (bs' := Lib.byteCells (l ++ s.data.toList)) ?_ (by decide)
    rw [byteCells_append, ← strCells_eq]
    simpa [Lib.strCells_length, hcl] using hown'
  · exact (hb1.grown hgrow (by have := hb1.size; omega) (fun k hk => (hown.lt k hk).1)).setCell (p := ⟨b, 1, none⟩) hB _
theorem bstring (B b : Nat) (l : List UInt8) (w : World) (h : Bl B b l w) (hBw : B ≤ w.heap.size) :
    Calls Try.prog 139 #[.pointer (some ⟨b, 0, none⟩)] w fun e w' => e = .returned (.string ⟨l.toArray⟩) ∧ Below B w w' :=
  (Try.Builder_String_any_k B b l w h hBw).mono fun _ _ ⟨h1, _, h2, _⟩ => ⟨h1, h2⟩
end Go.Proofs.Ytghplmldnkcpnac

/- Two expressions that are held against each other. -/
namespace Go.Proofs.Ytghplmldnkcpnac
open Go.RowKit
end Go.Proofs.Ytghplmldnkcpnac

/- Two texts that are held against each other. -/
namespace Go.Proofs.Ytghplmldnkcpnac
open Go.RowKit
def kk (pl : Bool) (d : Df) : ByteArray × Int × Xp := (d.nm, if pl then d.at_ else 0, d.e)
theorem DsIn.at_ {w : World} {S : Nat → Prop} : ∀ {ds : List Df} {b o : Nat}, DsIn w S ds b o → ∀ i (h : i < ds.length), w.cell? ⟨b, o + i * 5, none⟩ = some (.string ds[i].nm) ∧ w.cell? ⟨b, o + i * 5 + 1, none⟩ = some (.int .i64 ds[i].at_) ∧ XIn w S ds[i].e b (o + i * 5 + 2)
  | [], _, _, _, i, hi => by simp at hi
  | d :: l, b, o, h, 0, _ => by
    obtain ⟨h0, h1, h2, h3, _⟩ := h
    exact ⟨by simpa using h1, by simpa using h2, by simpa using h3⟩
  | d :: l, b, o, h, i + 1, hi => by
    have := DsIn.at_ (ds := l) h.2.2.2.2 i (by simpa using hi)
    rw [show o + 5 + i * 5 = o + (i + 1) * 5 by omega] at this
    simpa using this
end Go.Proofs.Ytghplmldnkcpnac

/- What package render finds wrong with definitions. -/
namespace Go.Proofs.Ytghplmldnkcpnac
open Go.RowKit
def Df.sh (d : Df) : Prop := d.nm.size ≤ 5000 ∧ d.e.sh
set_option maxRecDepth 100000 in
set_option maxHeartbeats 4000000 in
theorem cdef_any (d : Df) (va : Value) (w : World) (hx : DV w All va d) (hs : d.sh) :
    Calls Try.prog 136 #[va] w fun e w' => e = .returned (.int .i64 d.code) ∧ Below w.heap.size w w' := by
  obtain ⟨u, rfl, hv⟩ := hx
  have hxe : XV w All (.agg #[.int .i64 d.e.op, .string d.e.nm, u]) d.e := ⟨u, rfl, hv⟩
  obtain ⟨hl, ao, cap, rfl, hin⟩ := hv
  obtain ⟨W, hW⟩ : ∃ W, W = w.alloc (.cells #[.string d.nm, .int .i64 d.at_, .int .i64 d.e.op, .string d.e.nm, .slice ao d.e.kids.len cap] 66) := ⟨_, rfl⟩
  have hWz : W.heap.size = w.heap.size + 1 := by rw [hW]; simp
  have hWb : Below w.heap.size w W := by rw [hW]; exact (Below.refl _ _).alloc (Nat.le_refl _) _
  have hW2 : W.cell? ⟨w.heap.size, 2, none⟩ = some (.int .i64 d.e.op) := by rw [hW]; simp
  have hW3 : W.cell? ⟨w.heap.size, 3, none⟩ = some (.string d.e.nm) := by rw [hW]; simp
  have hW4 : W.cell? ⟨w.heap.size, 4, none⟩ = some (.slice ao d.e.kids.len cap) := by rw [hW]; simp
  have NM := fun w => name_any d.nm w (by unfold maxLen; have := hs.1; omega)
  have PL := fun w' hx => pl_any d.e 60 (.agg #[.int .i64 d.e.op, .string d.e.nm, .slice ao d.e.kids.len cap]) w' hx (by omega) (by omega)
  have hxW := hxe.below hWb
  have hcd : Hid (d.code = if isNameB d.nm = true then (if 60 < d.e.pts then 6 else if 40 < d.e.dp then 5 else d.e.bad) else 2) := hd rfl
  have hle := d.e.dp_pts
  generalize d.code = C at *
  cases hN : isNameB d.nm with
  | false =>
    have hc : C = 2 := by rw [hcd.out, hN]; rfl
    rw [hN] at NM
    subst hc
    go_enter Try.func136, Try.ntmps136
    go_wp2_with fail
    refine (NM _).mono ?_
    rintro e w1 ⟨rfl, rfl⟩
    go_wp2_with fail
    go_ret
    exact ⟨rfl, by rw [← hW]; exact hWb⟩
  | true =>
  rw [hN] at NM
  simp only [hN, if_true] at hcd
  have HN := hd hN
  clear hN
  by_cases h60 : 60 < d.e.pts
  · have hc : C = 6 := by rw [hcd.out, if_pos h60]
    subst hc
    go_enter Try.func136, Try.ntmps136
    go_wp2_with fail
    refine (NM _).mono ?_
    rintro e w1 ⟨rfl, rfl⟩
    rw [← hW]
    have HW := hd hW
    clear hW
    go_wp2_with fail
    refine (PL _ hxW).mono ?_
    rintro e w2 ⟨q, rfl, i1, i2, i3, hb2⟩
    have hq : q < 0 := by
      by_cases h : q < 0
      · exact h
      · have := i1 (by omega); omega
    go_wp2_with fail
    go_ret
    exact ⟨rfl, hWb.trans (hb2.mono (by omega))⟩
  have DP := fun w' hx => dp_any d.e (.agg #[.int .i64 d.e.op, .string d.e.nm, .slice ao d.e.kids.len cap]) w' hx (by omega)
  by_cases h40 : 40 < d.e.dp
  · have hc : C = 5 := by rw [hcd.out, if_neg h60, if_pos h40]
    subst hc
    go_enter Try.func136, Try.ntmps136
    go_wp2_with fail
    refine (NM _).mono ?_
    rintro e w1 ⟨rfl, rfl⟩
    rw [← hW]
    have HW := hd hW
    clear hW
    go_wp2_with fail
    refine (PL _ hxW).mono ?_
    rintro e w2 ⟨q, rfl, i1, i2, i3, hb2⟩
    have hq : ¬ q < 0 := fun h => by have := i2 h; omega
    have z2 := hb2.size
    have f2 := bkeep hb2 hW2
    have f3 := bkeep hb2 hW3
    have f4 := bkeep hb2 hW4
    go_wp2_with fail
    refine (DP _ (hxW.below hb2)).mono ?_
    rintro e w3 ⟨rfl, hb3⟩
    go_wp2_with fail
    go_ret
    exact ⟨rfl, (hWb.trans (hb2.mono (by omega))).trans (hb3.mono (by omega))⟩
  have hc : C = d.e.bad := by rw [hcd.out, if_neg h60, if_neg h40]
  subst hc
  have CE := fun w' hx => ce_any d.e (.agg #[.int .i64 d.e.op, .string d.e.nm, .slice ao d.e.kids.len cap]) w' hx hs.2
  clear hcd
  generalize d.e.bad = C at *
  go_enter Try.func136, Try.ntmps136
  go_wp2_with fail
  refine (NM _).mono ?_
  rintro e w1 ⟨rfl, rfl⟩
  rw [← hW]
  have HW := hd hW
  clear hW
  go_wp2_with fail
  refine (PL _ hxW).mono ?_
  rintro e w2 ⟨q, rfl, i1, i2, i3, hb2⟩
  have hq : ¬ q < 0 := fun h => by have := i2 h; omega
  have z2 := hb2.size
  have f2 := bkeep hb2 hW2
  have f3 := bkeep hb2 hW3
  have f4 := bkeep hb2 hW4
  go_wp2_with fail
  refine (DP _ (hxW.below hb2)).mono ?_
  rintro e w3 ⟨rfl, hb3⟩
  have z3 := hb3.size
  have g2 := bkeep hb3 f2
  have g3 := bkeep hb3 f3
  have g4 := bkeep hb3 f4
  go_wp2_with fail
  refine (CE _ ((hxW.below hb2).below hb3)).mono ?_
  rintro e w4 ⟨rfl, hb4⟩
  go_wp2_with fail
  go_ret
  exact ⟨rfl, ((hWb.trans (hb2.mono (by omega))).trans (hb3.mono (by omega))).trans (hb4.mono (by omega))⟩
theorem dflt_at {ds : List Df} {k : Nat} (h : k < ds.length) : dflt k (ds.drop k) = if ds[k].code ≠ 0 then (ds[k].code, (k : Int)) else dflt (k + 1) (ds.drop (k + 1)) := by
  rw [List.drop_eq_getElem_cons h]; rfl
set_option maxRecDepth 100000 in
set_option maxHeartbeats 4000000 in
theorem cdefs_any (ds : List Df) (va : Value) (w : World) (hx : DsV w All va ds) (hs : ∀ d ∈ ds, d.sh) :
    Calls Try.prog 127 #[va] w fun e w' => e = .returned (.agg #[.int .i64 (cflt ds).1, .int .i64 (cflt ds).2]) ∧ Below w.heap.size w w' := by
  obtain ⟨hl, ao, cap, rfl, hin⟩ := hx
  by_cases h0 : ds.length = 0
  · have hc : cflt ds = (8, -1) := by unfold cflt; rw [if_pos h0]
    rw [hc]
    go_enter Try.func127, Try.ntmps127
    go_wp2_with fail
    refine bodyPost_ret (v := .agg #[.int .i64 8, .int .i64 (-1)]) (by simp [results, Try.results127, go_sem]) rfl ⟨rfl, ?_⟩
    exact al1 _ _
  by_cases h16 : 16 < ds.length
  · have hc : cflt ds = (6, -1) := by unfold cflt; rw [if_neg h0, if_pos h16]
    rw [hc]
    go_enter Try.func127, Try.ntmps127
    go_wp2_with fail
    refine bodyPost_ret (v := .agg #[.int .i64 6, .int .i64 (-1)]) (by simp [results, Try.results127, go_sem]) rfl ⟨rfl, ?_⟩
    exact al1 _ _
  have hc : cflt ds = dflt 0 ds := by unfold cflt; rw [if_neg h0, if_neg h16]
  rw [hc]
  clear hc
  obtain ⟨W, hW⟩ : ∃ W, W = w.alloc (.cells #[.int .i64 0, .int .i64 0] 29) := ⟨_, rfl⟩
  have hWz : W.heap.size = w.heap.size + 1 := by rw [hW]; simp
  have hWb : Below w.heap.size w W := by rw [hW]; exact (Below.refl _ _).alloc (Nat.le_refl _) _
  have hW0 : W.cell? ⟨w.heap.size, 0, none⟩ = some (.int .i64 0) := by rw [hW]; simp
  have hW1 : W.cell? ⟨w.heap.size, 1, none⟩ = some (.int .i64 0) := by rw [hW]; simp
  have hWf : ∀ i, W.frozen? ⟨w.heap.size, i, none⟩ = false := fun i => by rw [hW]; simp [go_sem]
  obtain ⟨R, hR⟩ : ∃ R, R = dflt 0 ds := ⟨_, rfl⟩
  rw [← hR]
  have hb0 : ((ds.length : Int) == 0) = false := by rw [beq_eq_false_iff_ne]; omega
  have hb16 : decide ((16 : Int) < (ds.length : Int)) = false := by simp; omega
  have H0 := hd h0
  have H16 := hd h16
  clear h0 h16
  go_enter Try.func127, Try.ntmps127
  go_wp2_with fail
  rw [← hW]
  have HW := hd hW
  clear hW
  go_loopw [16] (fun i wr => ∃ (k : Nat), k ≤ ds.length ∧ i = .int .i64 k ∧ dflt k (ds.drop k) = R ∧ Below W.heap.size W wr) (fun i _ => ds.length - (intOf i).toNat)
  case atStart => exact ⟨0, Nat.zero_le _, rfl, by rw [hR]; rfl, Below.refl _ _⟩
  case round =>
    obtain ⟨k, hk, rfl, hm, hb⟩ := hrel
    have hz := hb.size
    have bel : Below w.heap.size w wr := hWb.trans (hb.mono (by omega))
    have s0 := bkeep hb hW0
    have s1 := bkeep hb hW1
    have sf : ∀ i, wr.frozen? ⟨w.heap.size, i, none⟩ = false := fun i => by rw [World.frozen?_of_block (w := W) (a := ⟨w.heap.size, i, none⟩) (hb.block w.heap.size (by omega))]; exact hWf i
    by_cases hlt : k < ds.length
    · obtain h0' | ⟨ba, oa, rfl, hia⟩ := hin
      · omega
      have kA : ∀ b o v, All b → w.cell? ⟨b, o, none⟩ = some v → All b ∧ wr.cell? ⟨b, o, none⟩ = some v := keep_cell (fun _ _ h => h) (Kp.of_below bel).block
      obtain ⟨an, aa, ax⟩ := (hia.mono kA).at_ k hlt
      obtain ⟨ua, a0, a1, a2, hxa⟩ := ax.xv
      have hxa' := hxa
      obtain ⟨_, e, _, aoa', capa', rfl, _⟩ := hxa'
      simp at e; subst e
      have hda := dflt_at hlt
      have hsd := hs ds[k] (List.getElem_mem hlt)
      have HLT := hd hlt
      generalize ds[k] = dk at *
      obtain ⟨ob, hob⟩ : ∃ ob : Obj, ob = .cells #[.string dk.nm, .int .i64 dk.at_, .int .i64 dk.e.op, .string dk.e.nm, .slice aoa' dk.e.kids.len capa'] 66 := ⟨_, rfl⟩
      have bz : Below W.heap.size W (wr.alloc ob) := hb.trans ((al1 wr ob).mono hb.size)
      have CD := cdef_any dk (.agg #[.string dk.nm, .int .i64 dk.at_, .int .i64 dk.e.op, .string dk.e.nm, .slice aoa' dk.e.kids.len capa']) (wr.alloc ob) ⟨_, rfl, (hxa.below (al1 wr ob)).fov⟩ hsd
      have t0 := alcell s0 ob
      have t1 := alcell s1 ob
      have tf : ∀ i, (wr.alloc ob).frozen? ⟨w.heap.size, i, none⟩ = false := fun i => by rw [World.frozen?_of_block (w := wr) (a := ⟨w.heap.size, i, none⟩) ((al1 wr ob).block _ (lt_of_cell s0))]; exact sf i
      subst hob
      generalize dk.code = C at *
      go_wp2_with fail
      refine CD.mono ?_
      rintro e w2 ⟨rfl, hb2⟩
      have bel2 : Below W.heap.size W w2 := bz.trans (hb2.mono bz.size)
      have r0 := bkeep hb2 t0
      have r1 := bkeep hb2 t1
      have rf : ∀ i, w2.frozen? ⟨w.heap.size, i, none⟩ = false := fun i => by rw [World.frozen?_of_block (a := ⟨w.heap.size, i, none⟩) (hb2.block _ (lt_of_cell t0))]; exact tf i
      by_cases h5 : C = 0
      · subst h5
        simp only [ne_eq, not_true_eq_false, if_false] at hda
        go_wp2_with fail
        go_roundw
        case rel => exact ⟨k + 1, by omega, by go_num, by rw [← hda]; exact hm, bel2⟩
        case measure => simp [intOf]; omega
      · rw [if_pos h5, hm] at hda
        go_wp2_with fail
        refine bodyPost_ret (v := .agg #[.int .i64 C, .int .i64 (k : Int)]) (by simp [results, Try.results127, go_sem, r0, r1]) rfl ⟨by rw [hda], ?_⟩
        exact ((hWb.trans (bel2.mono (by omega))).setCell (Nat.le_refl _) _).setCell (Nat.le_refl _) _
    · rw [List.drop_eq_nil_of_le (by omega)] at hm
      simp only [dflt] at hm
      go_wp2_with fail
      refine bodyPost_ret (v := .agg #[.int .i64 0, .int .i64 0]) (by simp [results, Try.results127, go_sem, s0, s1]) rfl ⟨by rw [← hm], ?_⟩
      exact (bel.setCell (Nat.le_refl _) _).setCell (Nat.le_refl _) _
end Go.Proofs.Ytghplmldnkcpnac
