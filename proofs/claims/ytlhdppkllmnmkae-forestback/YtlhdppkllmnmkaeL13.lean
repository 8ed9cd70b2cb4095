/- A forest in memory; what gives up; how many ways things have, one behind the other. -/
import Derived.Test.YtlhdppkllmnmkaeL10
import Derived.Test.YtlhdppkllmnmkaeL12
namespace Go.Proofs.Ytlhdppkllmnmkae.G
open Go.RowKit Go.Maps
/-- All blocks but three are as they were. -/
structure Kf (p q f : Nat) (w w' : World) : Prop where
  os : w'.os = w.os
  tape : w'.tape = w.tape
  output : w'.output = w.output
  size : w.heap.size ≤ w'.heap.size
  block : ∀ k, k < w.heap.size → k ≠ p → k ≠ q → k ≠ f → w'.heap[k]? = w.heap[k]?
section
variable {p q f : Nat} {a w w' : World}
theorem Kf.of_kt (h : Kt p q w w') : Kf p q f w w' := ⟨h.os, h.tape, h.output, h.size, fun k hk h1 h2 _ => h.block k hk h1 h2⟩
theorem Kf.of_below (h : Below w.heap.size w w') : Kf p q f w w' := Kf.of_kt (Kt.of_below h)
theorem Kf.refl (p q f : Nat) (w : World) : Kf p q f w w := ⟨rfl, rfl, rfl, Nat.le_refl _, fun _ _ _ _ _ => rfl⟩
theorem Kf.trans {b c : World} (h : Kf p q f a b) (k : Kf p q f b c) : Kf p q f a c :=
  ⟨k.os.trans h.os, k.tape.trans h.tape, k.output.trans h.output, Nat.le_trans h.size k.size, fun i hi h1 h2 h3 => (k.block i (Nat.lt_of_lt_of_le hi h.size) h1 h2 h3).trans (h.block i hi h1 h2 h3)⟩
theorem Kf.alloc (h : Kf p q f a w) (o : Obj) : Kf p q f a (w.alloc o) := h.trans (Kf.of_below (al1 _ _))
theorem Kf.setF (h : Kf p q f a w) {o : Nat} (u : Value) : Kf p q f a (w.setCell ⟨f, o, none⟩ u) :=
  ⟨h.os, h.tape, h.output, by simpa [World.setCell] using h.size, fun k hk h1 h2 h3 => by rw [Below.heap_setCell _ _ _ _ (by omega)]; exact h.block k hk h1 h2 h3⟩
theorem Kf.setCell (h : Kf p q f a w) {x : Addr} (hx : a.heap.size ≤ x.block) (u : Value) : Kf p q f a (w.setCell x u) :=
  ⟨h.os, h.tape, h.output, by simpa [World.setCell] using h.size, fun k hk h1 h2 h3 => by rw [Below.heap_setCell _ _ _ _ (by omega)]; exact h.block k hk h1 h2 h3⟩
theorem Kf.grown {row : Option Nat} (h : Kf p q f a w) (hg : w.grownBy w' row) (hr : ∀ k, row = some k → a.heap.size ≤ k) : Kf p q f a w' :=
  ⟨hg.os.trans h.os, hg.tape.trans h.tape, hg.output.trans h.output, Nat.le_trans h.size hg.size, fun k hk h1 h2 h3 => by
    rw [hg.block k (Nat.lt_of_lt_of_le hk h.size) (fun e => by have := hr k e.symm; omega)]; exact h.block k hk h1 h2 h3⟩
theorem Kf.below {B : Nat} (h : Kf p q f w w') (hp : B ≤ p) (hq : B ≤ q) (hf : B ≤ f) (hB : B ≤ w.heap.size) : Below B w w' := ⟨h.os, h.tape, h.output, h.size, fun k hk => h.block k (by omega) (by omega) (by omega) (by omega)⟩
theorem Kf.kp (h : Kf p q f w w') : Kp (fun k => k ≠ p ∧ k ≠ q ∧ k ≠ f) w w' := ⟨h.size, fun k hk hs => h.block k hk hs.1 hs.2.1 hs.2.2⟩
theorem Kf.cell (h : Kf p q f w w') {b o : Nat} {v : Value} (hc : w.cell? ⟨b, o, none⟩ = some v) (hp : b ≠ p) (hq : b ≠ q) (hf : b ≠ f) : w'.cell? ⟨b, o, none⟩ = some v :=
  (World.cell?_of_block (w := w) (a := ⟨b, o, none⟩) (h.block b (lt_of_cell hc) hp hq hf)).trans hc
end
/-- What stays of a forest. -/
structure FoP (w : World) (fb cb : Nat) (g : Gm) (L : Nat) (vg : Value) : Prop where
  p : w.cell? ⟨fb, 0, none⟩ = some (.pointer (some ⟨cb, 0, none⟩))
  s : w.cell? ⟨fb, 3, none⟩ = some (.int .i64 g.start)
  v : w.cell? ⟨fb, 4, none⟩ = some vg
  l : w.cell? ⟨fb, 5, none⟩ = some (.int .i64 L)
  r : RsV w (fun k => k ≠ fb) vg g.rules
theorem FoP.stay {w w' : World} {fb cb L : Nat} {g : Gm} {vg : Value} (h : FoP w fb cb g L vg) (hc : ∀ b o v, w.cell? ⟨b, o, none⟩ = some v → w'.cell? ⟨b, o, none⟩ = some v) : FoP w' fb cb g L vg :=
  ⟨hc _ _ _ h.p, hc _ _ _ h.s, hc _ _ _ h.v, hc _ _ _ h.l, h.r.mono fun _ _ _ hs h => ⟨hs, hc _ _ _ h⟩⟩
/-- A forest. -/
structure FoS (w : World) (fb cb tb rb : Nat) (g : Gm) (W : List Int) (V : Nat) (E : BitVec 64) (vR vW vg : Value) (room : Nat) : Prop where
  ch : ChS w cb tb rb g W V E vR vW
  fp : FoP w fb cb g W.length vg
  rm : w.cell? ⟨fb, 6, none⟩ = some (.int .i64 room)
  f0 : w.cell? ⟨fb, 7, none⟩ = some (.int .i64 0)
  f1 : w.cell? ⟨fb, 8, none⟩ = some (.int .i64 0)
  fz : ∀ i, w.frozen? ⟨fb, i, none⟩ = false
  cr : RsV w (fun k => k ≠ fb) vR g.rules
  cx : IsV w (fun k => k ≠ fb) vW W
  nb : fb ≠ cb
/-- It has given up. -/
def FPan (p q fb : Nat) (code : Int) (w : World) (e : Ending) (w' : World) : Prop :=
  e = .panicked [{ v := .iface 30 (.agg #[.int .i64 code, .int .i64 (-1)]), recovered := false }] ∧ w'.cell? ⟨fb, 7, none⟩ = some (.int .i64 code) ∧ w'.cell? ⟨fb, 8, none⟩ = some (.int .i64 (-1)) ∧ Kf p q fb w w'
section
variable {fb cb tb rb : Nat} {g : Gm} {W : List Int} {V : Nat} {E : BitVec 64} {vR vW vg : Value} {room : Nat} {w w' : World}
theorem FoS.lw (h : FoS w fb cb tb rb g W V E vR vW vg room) (hb : Below w.heap.size w w') : FoS w' fb cb tb rb g W V E vR vW vg room :=
  ⟨h.ch.lw hb, h.fp.stay (fun _ _ _ hc => bkeep hb hc), bkeep hb h.rm, bkeep hb h.f0, bkeep hb h.f1, fun i => by rw [World.frozen?_of_block (w := w) (a := ⟨fb, i, none⟩) (hb.block fb (lt_of_cell h.rm))]; exact h.fz i,
    h.cr.lw hb, h.cx.lw hb, h.nb⟩
theorem FoS.kt (h : FoS w fb cb tb rb g W V E vR vW vg room) (hc : ChS w' cb tb rb g W V E vR vW) (hk : Kt tb rb w w') : FoS w' fb cb tb rb g W V E vR vW vg room :=
  ⟨hc, h.fp.stay (fun _ _ _ x => h.ch.keep hk x), h.ch.keep hk h.rm, h.ch.keep hk h.f0, h.ch.keep hk h.f1, fun i => by rw [h.ch.froz hk h.rm]; exact h.fz i,
    h.cr.mono (fun _ _ _ hs x => ⟨hs, h.ch.keep hk x⟩), h.cx.mono (fun _ _ _ hs x => ⟨hs, h.ch.keep hk x⟩), h.nb⟩
theorem FoS.ne (h : FoS w fb cb tb rb g W V E vR vW vg room) : fb ≠ tb ∧ fb ≠ rb := ⟨memo_ne h.ch.t h.rm, memo_ne h.ch.o h.rm⟩
theorem set_other {w : World} {p o b i : Nat} {u v : Value} (h : w.cell? ⟨b, i, none⟩ = some v) (hne : b ≠ p) : (w.setCell ⟨p, o, none⟩ u).cell? ⟨b, i, none⟩ = some v := by
  rw [World.cell?_of_block (w := w) (a := ⟨b, i, none⟩) (Below.heap_setCell _ _ _ _ hne)]; exact h
theorem set_off {w : World} {p o i : Nat} {u v : Value} (h : w.cell? ⟨p, i, none⟩ = some v) (hne : i ≠ o) : (w.setCell ⟨p, o, none⟩ u).cell? ⟨p, i, none⟩ = some v := by
  rw [World.cell?_setCell_other _ _ _ _ (by simp [])]; exact h
theorem set_same {w : World} {p o : Nat} {u v : Value} (h : w.cell? ⟨p, o, none⟩ = some v) : (w.setCell ⟨p, o, none⟩ u).cell? ⟨p, o, none⟩ = some u := by
  simp [go_sem, h]
/-- Less room, or more. -/
theorem FoS.setRoom (h : FoS w fb cb tb rb g W V E vR vW vg room) (m : Nat) : FoS (w.setCell ⟨fb, 6, none⟩ (.int .i64 m)) fb cb tb rb g W V E vR vW vg m := by
  have hS : ∀ b o v, (fun k => k ≠ fb) b → w.cell? ⟨b, o, none⟩ = some v → (fun k => k ≠ fb) b ∧ (w.setCell ⟨fb, 6, none⟩ (.int .i64 m)).cell? ⟨b, o, none⟩ = some v := fun b o v hs hc => ⟨hs, set_other hc hs⟩
  have r' := h.cr.mono hS
  have x' := h.cx.mono hS
  obtain ⟨n1, n2⟩ := h.ne
  refine ⟨h.ch.setCell (fun _ _ _ => trivial) h.nb r'.all x'.all n1 n2, ⟨set_off h.fp.p (by decide), set_off h.fp.s (by decide), set_off h.fp.v (by decide), set_off h.fp.l (by decide), h.fp.r.mono hS⟩, set_same h.rm, set_off h.f0 (by decide), set_off h.f1 (by decide), ?_, r', x', h.nb⟩
  intro i
  have := h.fz i
  simpa [go_sem] using this
set_option maxRecDepth 100000 in
set_option maxHeartbeats 1000000 in
theorem fgive_any (code : Int) (h : FoS w fb cb tb rb g W V E vR vW vg room) : Calls Try.prog 64 #[.pointer (some ⟨fb, 0, none⟩), .int .i64 code] w (FPan tb rb fb code w) := by
  have c7 := h.f0
  have c8 := h.f1
  have fz := h.fz
  clear h
  go_enter Try.func64, Try.ntmps64
  go_wp2_with fail
  refine ⟨rfl, rfl, ?_, ?_, ((Kf.refl tb rb fb w).setF _).setF _⟩
  · simp [go_sem, c7]
  · simp [go_sem, c8]
/-- What is asked of things, one behind the other. -/
def Wys (cb tb rb : Nat) (g : Gm) (W : List Int) (V : Nat) (E : BitVec 64) (vR vW : Value) (w : World) (f : Value) (F : Nat → Nat) (x m : Nat) : Prop :=
  ∃ (id : Nat) (rc cs : Array Value), f = .func (.func id) rc cs ∧ Cal id ∧ ∀ (y : Nat), x ≤ y → y ≤ m → ∀ u, ChS u cb tb rb g W V E vR vW → Kt tb rb w u → Calls Try.prog id (rc.push (.int .i64 y) ++ cs) u (ChR u cb tb rb g W V E vR vW (cM (F y)))
theorem Wys.kt {w u : World} {f : Value} {F : Nat → Nat} {x m : Nat} (h : Wys cb tb rb g W V E vR vW w f F x m) (hk : Kt tb rb w u) : Wys cb tb rb g W V E vR vW u f F x m :=
  let ⟨id, rc, cs, e, hc, h⟩ := h
  ⟨id, rc, cs, e, hc, fun y h1 h2 z hz hkz => h y h1 h2 z hz (hk.trans hkz)⟩
theorem fi_more {F : Nat → Nat} {x m n left : Nat} (h : n = spS F x (m - x) + left) (hx : x < m) : F x ≤ n ∧ n - F x = spS F (x + 1) (m - (x + 1)) + left := by
  rw [show m - x = (m - (x + 1)) + 1 by omega, spS_first] at h
  omega
theorem fi_cM {F : Nat → Nat} {x n : Nat} (h : F x ≤ n) (hn : n < 4611686018427387904) : cM (F x) = (F x : Nat) := cM_lt (by omega)
set_option maxRecDepth 100000 in
set_option maxHeartbeats 1000000 in
theorem find_any {F : Nat → Nat} {x m n left : Nat} {f : Value} (hw : Wys cb tb rb g W V E vR vW w f F x m) (hc : ChS w cb tb rb g W V E vR vW) (hxm : x ≤ m) (hm : m ≤ 1000000) (hn : n = spS F x (m - x) + left) (hl : left < F m) (hn62 : n < 4611686018427387904) :
    Calls Try.prog 96 #[.int .i64 x, .int .i64 n, f] w fun e w' => e = .returned (.tuple #[.int .i64 m, .int .i64 left]) ∧ ChS w' cb tb rb g W V E vR vW ∧ Kt tb rb w w' := by
  obtain ⟨id, rc, cs, rfl, hcal, hw⟩ := hw
  have HN := hd hn
  have HL := hd hl
  have HW := hd hw
  clear hn hl hw
  unfold Cal at hcal
  go_enter Try.func96, Try.ntmps96
  go_wp2_with fail
  go_loopw [0, 1, 8] (fun a b _ wr => ∃ (y k : Nat), x ≤ y ∧ y ≤ m ∧ a = .int .i64 y ∧ b = .int .i64 k ∧ k ≤ n ∧ Hid (k = spS F y (m - y) + left) ∧ ChS wr cb tb rb g W V E vR vW ∧ Kt tb rb w wr) (fun a _ _ _ => m + 1 - (intOf a).toNat)
  case atStart => exact ⟨x, n, Nat.le_refl _, hxm, rfl, rfl, Nat.le_refl _, HN, hc, Kt.refl _ _ _⟩
  case round =>
    obtain ⟨y, k, hxy, hym, rfl, rfl, hkn, hk, hs, hkt⟩ := hrel
    have WA := HW.out y hxy hym wr hs hkt
    have hg1 := hd (cM_gt (n := k) (a := F y) (by omega))
    by_cases e : y = m
    · subst e
      have hk' : k = left := by have := hk.out; rw [Nat.sub_self] at this; simp [spS] at this; exact this
      subst hk'
      have hlt : (k : Int) < cM (F y) := hg1.out.2 HL.out
      clear HW HN HL hk hg1
      generalize cM (F y) = c at *
      go_wp2_with fail
      refine WA.mono ?_
      rintro e w1 ⟨rfl, hs1, kt1⟩
      go_wp2_with fail
      exact bodyPost_ret (v := .tuple #[.int .i64 y, .int .i64 k]) (by simp [results, Try.results96, go_sem]) rfl ⟨rfl, hs1, hkt.trans kt1⟩
    · obtain ⟨h1, h2⟩ := fi_more hk.out (by omega)
      have h3 := fi_cM h1 (by omega)
      rw [h3] at WA
      have h4 : ¬ ((k : Int) < (F y : Nat)) := by omega
      have H2 := hd h2
      clear HW HN HL hk hg1 h2 h3
      generalize F y = c at *
      go_wp2_with fail
      refine WA.mono ?_
      rintro e w1 ⟨rfl, hs1, kt1⟩
      go_wp2_with fail
      go_roundw
      case rel => exact ⟨y + 1, k - c, by omega, by omega, by go_num, by go_num, by omega, H2, hs1, hkt.trans kt1⟩
      case measure => simp [intOf]; omega
set_option maxRecDepth 100000 in
set_option maxHeartbeats 1000000 in
theorem ahead_any {F : Nat → Nat} {x m : Nat} {f : Value} (hw : Wys cb tb rb g W V E vR vW w f F x m) (hc : ChS w cb tb rb g W V E vR vW) (hxm : x ≤ m) (hm : m ≤ 1000000) (hn62 : spS F x (m - x) < 4611686018427387904) :
    Calls Try.prog 82 #[.int .i64 x, .int .i64 m, f] w (ChR w cb tb rb g W V E vR vW (spS F x (m - x) : Nat)) := by
  obtain ⟨id, rc, cs, rfl, hcal, hw⟩ := hw
  obtain ⟨R, hR⟩ : ∃ R, R = spS F x (m - x) := ⟨_, rfl⟩
  rw [← hR] at hn62 ⊢
  have HR := hd hR
  have HW := hd hw
  clear hw hR
  unfold Cal at hcal
  go_enter Try.func82, Try.ntmps82
  go_wp2_with fail
  go_loopw [0, 7] (fun a b wr => ∃ (y k : Nat), x ≤ y ∧ y ≤ m ∧ a = .int .i64 y ∧ b = .int .i64 k ∧ Hid (R = k + spS F y (m - y)) ∧ ChS wr cb tb rb g W V E vR vW ∧ Kt tb rb w wr) (fun a _ _ => m - (intOf a).toNat)
  case atStart => exact ⟨x, 0, Nat.le_refl _, hxm, rfl, rfl, hd (by rw [Nat.zero_add]; exact HR.out), hc, Kt.refl _ _ _⟩
  case round =>
    obtain ⟨y, k, hxy, hym, rfl, rfl, hk, hs, hkt⟩ := hrel
    by_cases e : y = m
    · subst e
      have hk' : R = k := by have := hk.out; rw [Nat.sub_self] at this; simp [spS] at this; exact this
      subst hk'
      clear HW HR hk
      go_wp2_with fail
      go_ret
      exact ⟨rfl, hs, hkt⟩
    · have WA := HW.out y hxy hym wr hs hkt
      have h1 : R = k + F y + spS F (y + 1) (m - (y + 1)) := by have := hk.out; rw [show m - y = (m - (y + 1)) + 1 by omega, spS_first] at this; omega
      have h3 : cM (F y) = (F y : Nat) := cM_lt (by omega)
      rw [h3] at WA
      have h5 : k + F y < 4611686018427387904 := by omega
      have H1 := hd h1
      have h6 : (y : Int) < m := by omega
      clear HW HR hk h1 h3 e
      generalize F y = c at *
      go_wp2_with fail
      refine WA.mono ?_
      rintro e w1 ⟨rfl, hs1, kt1⟩
      go_wp2_with fail
      go_roundw
      case rel => exact ⟨y + 1, k + c, by omega, by omega, by go_num, by go_num, H1, hs1, hkt.trans kt1⟩
      case measure => simp [intOf]; omega
end
end Go.Proofs.Ytlhdppkllmnmkae.G
