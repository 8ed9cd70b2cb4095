/- The text that package render writes into a builder. -/
import Derived.Test.YtghplmldnkcpnacL06
namespace Go.Proofs.Ytghplmldnkcpnac
open Go.RowKit
/-- What a writing leaves. -/
structure Fr (B b : Nat) (w w' : World) : Prop where
  bel : Below B w w'
  ot : Ot b w w'
theorem Fr.refl (B b : Nat) (w : World) : Fr B b w w := ⟨Below.refl _ _, Lib.OthersKept.refl _ _ _⟩
theorem Fr.trans {B b : Nat} {w1 w2 w3 : World} (h : Fr B b w1 w2) (k : Fr B b w2 w3) : Fr B b w1 w3 := ⟨h.bel.trans k.bel, h.ot.trans k.ot⟩
theorem ot_below {b : Nat} {w w' : World} (hb : Below w.heap.size w w') : Ot b w w' := fun k _ hk _ _ => by
  rw [hb.block k (Array.getElem?_eq_some_iff.1 hk).1]; exact hk
theorem Fr.of {B b : Nat} {w w' : World} (h : Below w.heap.size w w') (hB : B ≤ w.heap.size) : Fr B b w w' := ⟨h.mono hB, ot_below h⟩
theorem Bl.below {B b : Nat} {l : List UInt8} {w w' : World} (h : Bl B b l w) (hb : Below w.heap.size w w') : Bl B b l w' := by
  have key : ∀ p, Lib.BuilderAtF 153 5 B b p (Lib.byteCells l) w → Lib.BuilderAtF 153 5 B b p (Lib.byteCells l) w' := by
    intro p h
    have hlt := h.lt
    obtain ⟨hB, v, hv, hown, hne⟩ := h
    exact ⟨hB, v, (hb.block b hlt).trans hv, hown.kept (row := none) ⟨hb.os, hb.tape, hb.output, hb.size, fun k hk _ => hb.block k hk⟩ (by cases v.ownBlock <;> simp), hne⟩
  exact h.imp (key _) (key _)
theorem Bl.lt {B b : Nat} {l : List UInt8} {w : World} (h : Bl B b l w) : b < w.heap.size := h.elim (fun h => h.lt) (fun h => h.lt)
theorem Bl.le {B b : Nat} {l : List UInt8} {w : World} (h : Bl B b l w) : B ≤ b := h.elim (fun h => h.1) (fun h => h.1)
/-- A variable of the call's own. -/
def Bx (w : World) (k : Nat) (x : Xp) (ao : Option Addr) (cap : Nat) : Prop := w.heap[k]? = some (.cells #[.int .i64 x.op, .string x.nm, .slice ao x.kids.len cap] 64)
theorem Bx.new (w : World) (x : Xp) (ao : Option Addr) (cap : Nat) : Bx (w.alloc (.cells #[.int .i64 x.op, .string x.nm, .slice ao x.kids.len cap] 64)) w.heap.size x ao cap := by
  unfold Bx; exact heap_alloc_new w _
theorem Bx.c0 {w : World} {k : Nat} {x : Xp} {ao : Option Addr} {cap : Nat} (h : Bx w k x ao cap) : w.cell? ⟨k, 0, none⟩ = some (.int .i64 x.op) := by rw [Lib.cell_of_heap h]; rfl
theorem Bx.c1 {w : World} {k : Nat} {x : Xp} {ao : Option Addr} {cap : Nat} (h : Bx w k x ao cap) : w.cell? ⟨k, 1, none⟩ = some (.string x.nm) := by rw [Lib.cell_of_heap h]; rfl
theorem Bx.c2 {w : World} {k : Nat} {x : Xp} {ao : Option Addr} {cap : Nat} (h : Bx w k x ao cap) : w.cell? ⟨k, 2, none⟩ = some (.slice ao x.kids.len cap) := by rw [Lib.cell_of_heap h]; rfl
theorem Bx.ot {w w' : World} {b k : Nat} {x : Xp} {ao : Option Addr} {cap : Nat} (h : Bx w k x ao cap) (hk : k ≠ b) (ho : Ot b w w') : Bx w' k x ao cap :=
  ho k _ h (by simpa using hk) (fun c fz e => by injection e with _ e2 _; cases e2)
theorem Bx.below {w w' : World} {k : Nat} {x : Xp} {ao : Option Addr} {cap : Nat} (h : Bx w k x ao cap) (hb : Below w.heap.size w w') : Bx w' k x ao cap :=
  (hb.block k (lt_of_cell h.c0)).trans h
theorem XV.lowB {w w' : World} {B : Nat} {v : Value} {x : Xp} (h : XV w (fun k => k < B) v x) (hb : Below B w w') : XV w' (fun k => k < B) v x :=
  h.mono (keep_cell (fun _ _ h => h) (fun k _ h => hb.block k h))
theorem Fo.In.lowB {w w' : World} {B : Nat} {f : Fo} {b o : Nat} (h : f.In w (fun k => k < B) b o) (hb : Below B w w') : f.In w' (fun k => k < B) b o :=
  h.mono (keep_cell (fun _ _ h => h) (fun k _ h => hb.block k h))
def WrOK (x : Xp) : Prop := ∀ (B b : Nat) (l : List UInt8) (va : Value) (w : World), XV w (fun k => k < B) va x → Bl B b l w → B ≤ w.heap.size → l.length + x.tx.length ≤ 1000000 →
  Calls Try.prog 138 #[.pointer (some ⟨b, 0, none⟩), va] w fun e w' => e = .returned (.tuple #[]) ∧ Bl B b (l ++ x.tx) w' ∧ Fr B b w w'
set_option maxRecDepth 100000 in
set_option maxHeartbeats 8000000 in
theorem wr_head (x : Xp) (ih : ∀ i, i < x.kids.len → WrOK (x.kids.at_ i)) : WrOK x := by
  intro B b l va w hx hbl hB hlen
  obtain ⟨u, rfl, hl, ao, cap, rfl, hin⟩ := hx
  obtain ⟨W, hW⟩ : ∃ W, W = w.alloc (.cells #[.int .i64 x.op, .string x.nm, .slice ao x.kids.len cap] 64) := ⟨_, rfl⟩
  have hWz : W.heap.size = w.heap.size + 1 := by rw [hW]; simp
  have hWb : Below w.heap.size w W := by rw [hW]; exact (Below.refl _ _).alloc (Nat.le_refl _) _
  have hWx : Bx W w.heap.size x ao cap := by rw [hW]; exact Bx.new _ _ _ _
  have hWl := hbl.below hWb
  have hlt := hbl.lt
  have hne : w.heap.size ≠ b := by omega
  have fr0 : Fr B b w W := Fr.of hWb hB
  have MK := fun w => marks_any x.op w
  have htx : x.tx = bef x.op ++ bys x.nm ++ x.kids.tx x.op true ++ beh x.op := rfl
  have hl1 : (bef x.op).length ≤ 1 := by unfold bef; (repeat' split) <;> simp
  have hll := congrArg List.length htx
  simp only [List.length_append, bys_length] at hll
  have h1 := hWx.c0
  have h2 := hWx.c1
  have h3 := hWx.c2
  have HTX := hd htx
  clear htx
  generalize x.tx = TX at *
  generalize hbe : bef x.op = be at *
  generalize hbt : btw x.op = bt_ at *
  generalize hbh : beh x.op = bh at *
  go_enter Try.func138, Try.ntmps138
  go_wp2_with fail
  refine (MK _).mono ?_
  rintro e w0 ⟨rfl, rfl⟩
  rw [← hW]
  have HW := hd hW
  clear hW MK
  go_wp2_with fail
  refine (bwrite B b l ⟨be.toArray⟩ _ hWl (by simp [ByteArray.size]; omega) (by omega)).mono ?_
  rintro e w2 ⟨rfl, g1, b1, o1⟩
  simp only at g1
  have x2 := hWx.ot hne o1
  have z2 := b1.size
  have h1 := x2.c0
  have h2 := x2.c1
  have h3 := x2.c2
  have fr2 := fr0.trans ⟨b1, o1⟩
  clear b1 o1 hWl hWx
  go_wp2_with fail
  refine (bwrite B b _ x.nm _ g1 (by simp only [List.length_append]; omega) (by omega)).mono ?_
  rintro e w3 ⟨rfl, g2, b2, o2⟩
  have x3 := x2.ot hne o2
  have z3 := b2.size
  have h1 := x3.c0
  have h2 := x3.c1
  have h3 := x3.c2
  have fr3 := fr2.trans ⟨b2, o2⟩
  clear b2 o2 g1 x2
  obtain ⟨L, hL⟩ : ∃ L, L = l ++ be ++ bys x.nm ++ x.kids.tx x.op true := ⟨_, rfl⟩
  have hLl := congrArg List.length hL
  simp only [List.length_append, bys_length] at hLl
  have HL := hd hL
  clear hL
  go_wp2_with fail
  go_loopw [26] (fun i wr => ∃ (k : Nat) (l' : List UInt8), k ≤ x.kids.len ∧ i = .int .i64 k ∧ Bl B b l' wr ∧ l' ++ (x.kids.drp k).tx x.op (k == 0) = L ∧ Bx wr w.heap.size x ao cap ∧ Fr B b w3 wr) (fun i _ => x.kids.len - (intOf i).toNat)
  case atStart => exact ⟨0, _, Nat.zero_le _, rfl, g2, by rw [Fo.drp_zero, HL.out]; simp [bys], x3, Fr.refl _ _ _⟩
  case round =>
    obtain ⟨k, l', hk, rfl, gl, hm, xr, frr⟩ := hrel
    have hz := frr.bel.size
    have frw := fr3.trans frr
    have s0 := xr.c0
    have s1 := xr.c1
    have s2 := xr.c2
    by_cases hlk : k < x.kids.len
    · obtain h0 | ⟨ba, oa, rfl, hia⟩ := hin
      · omega
      obtain ⟨ua, a0, a1, a2, hxa⟩ := ((hia.lowB frw.bel).at_ k hlk).xv
      have hxa' := hxa
      obtain ⟨_, e, _, aoa', capa', rfl, _⟩ := hxa'
      simp at e; subst e
      have IH := ih k hlk
      rw [Fo.tx_at x.op hlk] at hm
      have RD := fun w => rounded_any (x.kids.at_ k).op x.op (x.kids.at_ k).nm x.nm aoa' (some ⟨ba, oa, none⟩) (x.kids.at_ k).kids.len x.kids.len capa' cap w
      have hlp : lp x.op (x.kids.at_ k).op = if rnd x.op (x.kids.at_ k).op = true then [40] else [] := rfl
      have hrp : rp x.op (x.kids.at_ k).op = if rnd x.op (x.kids.at_ k).op = true then [41] else [] := rfl
      have HLT := hd hlk
      generalize x.kids.at_ k = xk at *
      obtain ⟨ob, hob⟩ : ∃ ob : Obj, ob = .cells #[.int .i64 xk.op, .string xk.nm, .slice aoa' xk.kids.len capa'] 64 := ⟨_, rfl⟩
      have ba1 : Below wr.heap.size wr (wr.alloc ob) := al1 wr ob
      have xz : Bx (wr.alloc ob) w.heap.size x (some ⟨ba, oa, none⟩) cap := xr.below ba1
      have yz : Bx (wr.alloc ob) wr.heap.size xk aoa' capa' := by rw [hob]; exact Bx.new _ _ _ _
      have gz := gl.below ba1
      have frz : Fr B b w3 (wr.alloc ob) := frr.trans (Fr.of ba1 (by omega))
      have hxz := hxa.lowB (ba1.mono (show B ≤ wr.heap.size by omega))
      have hsz : (wr.alloc ob).heap.size = wr.heap.size + 1 := by simp
      have hyn : wr.heap.size ≠ b := by have := gl.lt; omega
      subst hob
      have t0 := xz.c0
      have t1 := xz.c1
      have t2 := xz.c2
      have y0 := yz.c0
      have y1 := yz.c1
      have y2 := yz.c2
      by_cases hk0 : k = 0
      · have hkb : (k == 0) = true := by simpa using hk0
        rw [hkb] at hm
        simp only [if_true, List.nil_append] at hm
        have hkp : ¬ (0 : Int) < (k : Int) := by omega
        have HK0 := hd hk0
        clear hk0 hkb
        go_wp2_with fail
        refine (RD _).mono ?_
        rintro e w5 ⟨rfl, hb5⟩
        have g5 := gz.below hb5
        have x5 := xz.below hb5
        have y5 := yz.below hb5
        have z5 := hb5.size
        have fr5 := frz.trans (Fr.of hb5 (by omega))
        have hx5 := hxz.lowB (hb5.mono (by omega))
        have p0 := y5.c0
        have p1 := y5.c1
        have p2 := y5.c2
        clear RD hb5
        cases hR : rnd x.op xk.op with
        | true =>
          rw [hR] at hlp hrp
          simp only [if_true] at hlp hrp
          rw [hlp, hrp] at hm
          have hln := congrArg List.length hm
          simp only [List.length_append, List.length_cons, List.length_nil] at hln
          go_wp2_with fail
          refine (bwrite B b _ ⟨#[40]⟩ _ g5 (by simp [ByteArray.size]; omega) (by omega)).mono ?_
          rintro e w6 ⟨rfl, g6, b6, o6⟩
          simp only at g6
          have x6 := x5.ot hne o6
          have y6 := y5.ot hyn o6
          have z6 := b6.size
          have fr6 := fr5.trans ⟨b6, o6⟩
          have hx6 := hx5.lowB b6
          have p0 := y6.c0
          have p1 := y6.c1
          have p2 := y6.c2
          clear b6 o6
          go_wp2_with fail
          refine (IH B b _ _ _ hx6 g6 (by omega) (by simp only [List.length_append, List.length_cons, List.length_nil]; omega)).mono ?_
          rintro e w7 ⟨rfl, g7, f7⟩
          have x7 := x6.ot hne f7.ot
          have z7 := f7.bel.size
          have fr7 := fr6.trans f7
          go_wp2_with fail
          refine (bwrite B b _ ⟨#[41]⟩ _ g7 (by simp [ByteArray.size]; omega) (by omega)).mono ?_
          rintro e w8 ⟨rfl, g8, b8, o8⟩
          simp only at g8
          have x8 := x7.ot hne o8
          have fr8 := fr7.trans ⟨b8, o8⟩
          go_wp2_with fail
          go_roundw
          case rel => exact ⟨k + 1, _, by omega, by go_num, g8, by rw [← hm]; simp, x8, fr8⟩
          case measure => simp [intOf]; omega
        | false =>
          rw [hR] at hlp hrp
          simp only [Bool.false_eq_true, if_false] at hlp hrp
          rw [hlp, hrp] at hm
          have hln := congrArg List.length hm
          simp only [List.length_append, List.length_nil] at hln
          go_wp2_with fail
          refine (IH B b _ _ _ hx5 g5 (by omega) (by (try simp only [List.length_append]); omega)).mono ?_
          rintro e w7 ⟨rfl, g7, f7⟩
          have x7 := x5.ot hne f7.ot
          have fr7 := fr5.trans f7
          go_wp2_with fail
          go_roundw
          case rel => exact ⟨k + 1, _, by omega, by go_num, g7, by rw [← hm]; simp, x7, fr7⟩
          case measure => simp [intOf]; omega
      · have hkb : (k == 0) = false := by simpa using hk0
        rw [hkb] at hm
        simp only [Bool.false_eq_true, if_false] at hm
        have hln0 := congrArg List.length hm
        rw [hbt] at hm hln0
        simp only [List.length_append] at hln0
        have hkp : (0 : Int) < (k : Int) := by omega
        go_wp2_with fail
        refine (bwrite B b _ ⟨bt_.toArray⟩ _ gz (by simp [ByteArray.size]; omega) (by omega)).mono ?_
        rintro e w4 ⟨rfl, g4, b4, o4⟩
        simp only at g4
        have x4 := xz.ot hne o4
        have y4 := yz.ot hyn o4
        have z4 := b4.size
        have fr4 := frz.trans ⟨b4, o4⟩
        have hx4 := hxz.lowB b4
        have t0 := x4.c0
        have t1 := x4.c1
        have t2 := x4.c2
        have y0 := y4.c0
        have y1 := y4.c1
        have y2 := y4.c2
        clear b4 o4
        go_wp2_with fail
        refine (RD _).mono ?_
        rintro e w5 ⟨rfl, hb5⟩
        have g5 := g4.below hb5
        have x5 := x4.below hb5
        have y5 := y4.below hb5
        have z5 := hb5.size
        have fr5 := fr4.trans (Fr.of hb5 (by omega))
        have hx5 := hx4.lowB (hb5.mono (by omega))
        have p0 := y5.c0
        have p1 := y5.c1
        have p2 := y5.c2
        clear RD hb5
        cases hR : rnd x.op xk.op with
        | true =>
          rw [hR] at hlp hrp
          simp only [if_true] at hlp hrp
          rw [hlp, hrp] at hm
          have hln := congrArg List.length hm
          simp only [List.length_append, List.length_cons, List.length_nil] at hln
          go_wp2_with fail
          refine (bwrite B b _ ⟨#[40]⟩ _ g5 (by simp [ByteArray.size]; omega) (by omega)).mono ?_
          rintro e w6 ⟨rfl, g6, b6, o6⟩
          simp only at g6
          have x6 := x5.ot hne o6
          have y6 := y5.ot hyn o6
          have z6 := b6.size
          have fr6 := fr5.trans ⟨b6, o6⟩
          have hx6 := hx5.lowB b6
          have p0 := y6.c0
          have p1 := y6.c1
          have p2 := y6.c2
          clear b6 o6
          go_wp2_with fail
          refine (IH B b _ _ _ hx6 g6 (by omega) (by simp only [List.length_append, List.length_cons, List.length_nil]; omega)).mono ?_
          rintro e w7 ⟨rfl, g7, f7⟩
          have x7 := x6.ot hne f7.ot
          have z7 := f7.bel.size
          have fr7 := fr6.trans f7
          go_wp2_with fail
          refine (bwrite B b _ ⟨#[41]⟩ _ g7 (by simp [ByteArray.size]; omega) (by omega)).mono ?_
          rintro e w8 ⟨rfl, g8, b8, o8⟩
          simp only at g8
          have x8 := x7.ot hne o8
          have fr8 := fr7.trans ⟨b8, o8⟩
          go_wp2_with fail
          go_roundw
          case rel => exact ⟨k + 1, _, by omega, by go_num, g8, by rw [← hm]; simp, x8, fr8⟩
          case measure => simp [intOf]; omega
        | false =>
          rw [hR] at hlp hrp
          simp only [Bool.false_eq_true, if_false] at hlp hrp
          rw [hlp, hrp] at hm
          have hln := congrArg List.length hm
          simp only [List.length_append, List.length_nil] at hln
          go_wp2_with fail
          refine (IH B b _ _ _ hx5 g5 (by omega) (by (try simp only [List.length_append]); omega)).mono ?_
          rintro e w7 ⟨rfl, g7, f7⟩
          have x7 := x5.ot hne f7.ot
          have fr7 := fr5.trans f7
          go_wp2_with fail
          go_roundw
          case rel => exact ⟨k + 1, _, by omega, by go_num, g7, by rw [← hm]; simp, x7, fr7⟩
          case measure => simp [intOf]; omega
    · rw [Fo.drp_end (by omega)] at hm
      simp only [Fo.tx, List.append_nil] at hm
      subst hm
      go_wp2_with fail
      refine (bwrite B b _ ⟨bh.toArray⟩ _ gl (by simp [ByteArray.size]; omega) (by omega)).mono ?_
      rintro e w4 ⟨rfl, g4, b4, o4⟩
      go_wp2_with fail
      go_end0
      refine ⟨rfl, ?_, frw.trans ⟨b4, o4⟩⟩
      rw [HTX.out]
      rw [HL.out] at g4
      simpa using g4
theorem wr_all : ∀ (f : Fo) (i : Nat), i < f.len → WrOK (f.at_ i)
  | .nil, _, h => absurd h (Nat.not_lt_zero _)
  | .cons op nm kids _, 0, _ => wr_head ⟨op, nm, kids⟩ (wr_all kids)
  | .cons _ _ _ rest, i + 1, h => wr_all rest i (by simpa [Fo.len] using h)
theorem wr_any (x : Xp) : WrOK x := wr_head x (wr_all x.kids)
end Go.Proofs.Ytghplmldnkcpnac
