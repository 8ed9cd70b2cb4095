/- Texts laid together: Zn Zo Zv Zp Zq. -/
import Derived.Test.YtlhdppkllmnmkadL14
import Derived.Test.YtlhdppkllmnmkadL01
/- A chart's small functions; what is kept in a map. -/
namespace Go.Proofs.Ytlhdppkllmnmkad.G
open Go.RowKit Go.Maps Go.WideMaps
set_option maxRecDepth 100000 in
theorem laidOutZ : laidOutB Try.prog = true := by kernel_rfl
theorem zeroI (w : World) : (zeroValue 3).run Try.prog w = .ok (.int .i64 0) w := by kernel_rfl
theorem wideT : (match Try.prog.underlying 127 with | some (.array _ _) | some (.struct _) => true | _ => false) = true := by rw [Try.underlying127]
set_option maxRecDepth 100000 in
theorem lawT : Keyed Try.prog 127 := Keyed.of_law (deep_law_laid laidOutZ (m := 2) (by omega) (of_decide_eq_true (by kernel_rfl)) (by kernel_rfl) wideT)
theorem wideO : (match Try.prog.underlying 153 with | some (.array _ _) | some (.struct _) => true | _ => false) = true := by rw [Try.underlying153]
set_option maxRecDepth 100000 in
theorem lawO : Keyed Try.prog 153 := Keyed.of_law (deep_law_laid laidOutZ (m := 2) (by omega) (of_decide_eq_true (by kernel_rfl)) (by kernel_rfl) wideO)
theorem types_pos : ∃ d, Try.prog.types.size = d + 1 := ⟨Try.prog.types.size - 1, by have : 0 < Try.prog.types.size := of_decide_eq_true (by kernel_rfl); omega⟩
theorem keyOf_int3 {P : Program} {k it : TypeId} {fs : Array Field} {d : Nat} (hk : P.underlying k = some (.struct fs)) (h1 : P.keyType k = true) (h3 : P.cellsOf k = 3) (hi : P.cellsOf it = 1) (hit : P.underlying it = some (.int .i64)) (hd : P.types.size = d + 1)
    (hfs : fs.toList.map (fun f => (f.type, f.offset)) = [(it, 0), (it, 1), (it, 2)]) (hn : fs.all (·.name != "_") = true) {a b c : Int} (ha : (Lit.int .i64 a).wf = true) (hb : (Lit.int .i64 b).wf = true) (hc : (Lit.int .i64 c).wf = true) : ∃ kl, keyOf P k (.agg #[.int .i64 a, .int .i64 b, .int .i64 c]) = some kl := by
  obtain ⟨f0, l0, e0, h0, hl0⟩ := List.map_eq_cons_iff.1 hfs
  obtain ⟨f1, l1, e1, g1, hl1⟩ := List.map_eq_cons_iff.1 hl0
  obtain ⟨f2, l2, e2, g2, hl2⟩ := List.map_eq_cons_iff.1 hl1
  rw [List.map_eq_nil_iff] at hl2
  subst hl2 e2 e1
  simp only [Prod.mk.injEq] at h0 g1 g2
  obtain ⟨a0, b0⟩ := h0
  obtain ⟨a1, b1⟩ := g1
  obtain ⟨a2, b2⟩ := g2
  have hf : (Value.agg #[.int .i64 a, .int .i64 b, .int .i64 c]).formed P k = true := by simp [Value.formed, hk, h3]
  have hL : P.keyLits (P.types.size + 1) k (Value.agg #[.int .i64 a, .int .i64 b, .int .i64 c]).cells.toList = some [.int .i64 a, .int .i64 b, .int .i64 c] := by
    simp [Program.keyLits, hk, Value.cells, h3, hn, e0, a0, a1, a2, b0, b1, b2, hi, hit, hd, ha, hb, hc]
  unfold keyOf
  rw [hk]
  simp only [h1, hf, hL]
  exact ⟨_, rfl⟩
theorem keyOf_int4 {P : Program} {k it : TypeId} {fs : Array Field} {d : Nat} (hk : P.underlying k = some (.struct fs)) (h1 : P.keyType k = true) (h3 : P.cellsOf k = 4) (hi : P.cellsOf it = 1) (hit : P.underlying it = some (.int .i64)) (hd : P.types.size = d + 1)
    (hfs : fs.toList.map (fun f => (f.type, f.offset)) = [(it, 0), (it, 1), (it, 2), (it, 3)]) (hn : fs.all (·.name != "_") = true) {a b c x : Int} (ha : (Lit.int .i64 a).wf = true) (hb : (Lit.int .i64 b).wf = true) (hc : (Lit.int .i64 c).wf = true) (hx : (Lit.int .i64 x).wf = true) : ∃ kl, keyOf P k (.agg #[.int .i64 a, .int .i64 b, .int .i64 c, .int .i64 x]) = some kl := by
  obtain ⟨f0, l0, e0, h0, hl0⟩ := List.map_eq_cons_iff.1 hfs
  obtain ⟨f1, l1, e1, g1, hl1⟩ := List.map_eq_cons_iff.1 hl0
  obtain ⟨f2, l2, e2, g2, hl2⟩ := List.map_eq_cons_iff.1 hl1
  obtain ⟨f3, l3, e3, g3, hl3⟩ := List.map_eq_cons_iff.1 hl2
  rw [List.map_eq_nil_iff] at hl3
  subst hl3 e3 e2 e1
  simp only [Prod.mk.injEq] at h0 g1 g2 g3
  obtain ⟨a0, b0⟩ := h0
  obtain ⟨a1, b1⟩ := g1
  obtain ⟨a2, b2⟩ := g2
  obtain ⟨a3, b3⟩ := g3
  have hf : (Value.agg #[.int .i64 a, .int .i64 b, .int .i64 c, .int .i64 x]).formed P k = true := by simp [Value.formed, hk, h3]
  have hL : P.keyLits (P.types.size + 1) k (Value.agg #[.int .i64 a, .int .i64 b, .int .i64 c, .int .i64 x]).cells.toList = some [.int .i64 a, .int .i64 b, .int .i64 c, .int .i64 x] := by
    simp [Program.keyLits, hk, Value.cells, h3, hn, e0, a0, a1, a2, a3, b0, b1, b2, b3, hi, hit, hd, ha, hb, hc, hx]
  unfold keyOf
  rw [hk]
  simp only [h1, hf, hL]
  exact ⟨_, rfl⟩
theorem keyT {a b c : Int} (ha : (Lit.int .i64 a).wf = true) (hb : (Lit.int .i64 b).wf = true) (hc : (Lit.int .i64 c).wf = true) : ∃ kl, keyOf Try.prog 127 (.agg #[.int .i64 a, .int .i64 b, .int .i64 c]) = some kl := by
  obtain ⟨d, hd⟩ := types_pos
  exact keyOf_int3 Try.underlying127 (by kernel_rfl) (by kernel_rfl) (by kernel_rfl) Try.underlying3 hd rfl (by kernel_rfl) ha hb hc
theorem keyO {a b c x : Int} (ha : (Lit.int .i64 a).wf = true) (hb : (Lit.int .i64 b).wf = true) (hc : (Lit.int .i64 c).wf = true) (hx : (Lit.int .i64 x).wf = true) : ∃ kl, keyOf Try.prog 153 (.agg #[.int .i64 a, .int .i64 b, .int .i64 c, .int .i64 x]) = some kl := by
  obtain ⟨d, hd⟩ := types_pos
  exact keyOf_int4 Try.underlying153 (by kernel_rfl) (by kernel_rfl) (by kernel_rfl) Try.underlying3 hd rfl (by kernel_rfl) ha hb hc hx
section
variable {cb tb rb : Nat} {g : Gm} {W : List Int} {V : Nat} {E : BitVec 64} {vR vW : Value}
theorem gt_det {key : Value} {n m : Int} (h : GT g W V key n) (h' : GT g W V key m) : n = m := by
  obtain ⟨v, i, j, _, _, _, rfl, rfl⟩ := h
  obtain ⟨v', i', j', _, _, _, e, rfl⟩ := h'
  simp at e
  obtain ⟨e1, e2, e3⟩ := e
  obtain rfl : v = v' := by omega
  obtain rfl : i = i' := by omega
  obtain rfl : j = j' := by omega
  rfl
theorem gr_det {key : Value} {n m : Int} (h : GR g W V key n) (h' : GR g W V key m) : n = m := by
  obtain ⟨r, k, i, j, _, _, _, _, rfl, rfl⟩ := h
  obtain ⟨r', k', i', j', _, _, _, _, e, rfl⟩ := h'
  simp at e
  obtain ⟨e0, e1, e2, e3⟩ := e
  obtain rfl : r = r' := by omega
  obtain rfl : k = k' := by omega
  obtain rfl : i = i' := by omega
  obtain rfl : j = j' := by omega
  rfl
set_option maxRecDepth 100000 in
set_option maxHeartbeats 4000000 in
theorem chas_any (r : Int) (w : World) (h : ChS w cb tb rb g W V E vR vW) :
    Calls Try.prog 99 #[.pointer (some ⟨cb, 0, none⟩), .int .i64 r] w fun e w' => e = .returned (.bool (decide (0 ≤ r) && decide (r < (g.rules.length : Int)))) ∧ w' = w := by
  have k3 := h.c3
  obtain ⟨aR, cR, rfl⟩ := h.r.slice
  clear h
  by_cases h1 : 0 ≤ r
  · have hd1 : decide (0 ≤ r) = true := decide_eq_true h1
    go_enter Try.func99, Try.ntmps99
    go_wp2_with fail
    go_ret
    exact ⟨ret_bool (by first | (simp; done) | (simp; omega)), rfl⟩
  · have hd1 : decide (0 ≤ r) = false := decide_eq_false h1
    go_enter Try.func99, Try.ntmps99
    go_wp2_with fail
    go_ret
    exact ⟨ret_bool (by first | (simp; done) | (simp; omega)), rfl⟩
def spB (L i j : Int) : Bool := decide (0 ≤ i) && decide (i ≤ j) && decide (j ≤ L)
set_option maxRecDepth 100000 in
set_option maxHeartbeats 4000000 in
theorem cspans_any (i j : Int) (w : World) (h : ChS w cb tb rb g W V E vR vW) :
    Calls Try.prog 94 #[.pointer (some ⟨cb, 0, none⟩), .int .i64 i, .int .i64 j] w fun e w' => e = .returned (.bool (spB W.length i j)) ∧ w' = w := by
  have k4 := h.c4
  obtain ⟨aW, cW, rfl⟩ := h.x.slice
  clear h
  unfold spB
  by_cases h1 : 0 ≤ i
  · have hd1 : decide (0 ≤ i) = true := decide_eq_true h1
    by_cases h2 : i ≤ j
    · have hd2 : decide (i ≤ j) = true := decide_eq_true h2
      go_enter Try.func94, Try.ntmps94
      go_wp2_with fail
      go_ret
      exact ⟨ret_bool (by first | (simp; done) | (simp; omega)), rfl⟩
    · have hd2 : decide (i ≤ j) = false := decide_eq_false h2
      go_enter Try.func94, Try.ntmps94
      go_wp2_with fail
      go_ret
      exact ⟨ret_bool (by first | (simp; done) | (simp; omega)), rfl⟩
  · have hd1 : decide (0 ≤ i) = false := decide_eq_false h1
    go_enter Try.func94, Try.ntmps94
    go_wp2_with fail
    go_ret
    exact ⟨ret_bool (by first | (simp; done) | (simp; omega)), rfl⟩
theorem lstN_drop {F : Int → Bool} {l : List Int} {k : Nat} (hk : k < l.length) : lstN F (l.take (k + 1)) = lstN F (l.take k) + (if F l[k] then 0 else 1) := by
  have key : ∀ (a b : List Int), lstN F (a ++ b) = lstN F a + lstN F b := fun a b => by
    induction a with
    | nil => simp [lstN]
    | cons x a ih => simp only [List.cons_append, lstN, ih]; omega
  rw [← List.take_append_getElem hk, key]; simp only [lstN]; omega
set_option maxRecDepth 100000 in
set_option maxHeartbeats 4000000 in
theorem cleast_any (l : List Int) (vl : Value) (w : World) (h : ChS w cb tb rb g W V E vR vW) (hl : IsV w All vl l) (hl10 : l.length ≤ 10) :
    Calls Try.prog 100 #[.pointer (some ⟨cb, 0, none⟩), vl] w fun e w' => e = .returned (.int .i64 (lstN (fun s => hasB E s) l : Nat)) ∧ w' = w := by
  have k5 := h.c5
  obtain ⟨ao, cap, rfl⟩ := hl.slice
  clear h
  go_enter Try.func100, Try.ntmps100
  go_wp2_with fail
  go_loopw [5, 10] (fun n i wr => ∃ (k q : Nat), k ≤ l.length ∧ n = .int .i64 q ∧ i = .int .i64 k ∧ Hid (q = lstN (fun s => hasB E s) (l.take k)) ∧ q ≤ k ∧ wr = w) (fun _ i _ => l.length - (intOf i).toNat)
  case atStart => exact ⟨0, 0, Nat.zero_le _, rfl, rfl, hd (by simp [lstN]), Nat.le_refl _, rfl⟩
  case round =>
    obtain ⟨k, q, hk, rfl, rfl, hq, hqk, rfl⟩ := hrel
    by_cases hlt : k < l.length
    · obtain ⟨b, o, rfl, c0⟩ := hl.at_ hlt
      have HA := has_any E l[k] wr
      have HS := hd (lstN_drop (F := fun s => hasB E s) hlt)
      generalize l[k] = x at *
      have HQ : Hid (∀ t, t = hasB E x → q + (if t then 0 else 1) = lstN (fun s => hasB E s) (l.take (k + 1))) := hd fun t ht => by rw [HS.out, hq.out, ht]
      clear HS hq
      have HT := HQ.out _ rfl
      clear HQ
      generalize hasB E x = t at *
      have OA := one_any (!t) wr
      have HT' := hd HT
      clear HT
      go_wp2_with fail
      refine HA.mono ?_
      rintro e wx ⟨rfl, hwx⟩
      obtain rfl := hwx.symm
      go_wp2_with fail
      refine OA.mono ?_
      rintro e wx ⟨rfl, hwx⟩
      obtain rfl := hwx.symm
      cases t with
      | true =>
        go_wp2_with fail
        go_roundw
        case rel => exact ⟨k + 1, q, by omega, by have := w64_in (n := (q : Int)) (by omega); simp [oneI, this], by go_num, hd (by have := HT'.out; simpa using this), by omega, trivial⟩
        case measure => simp [intOf]; omega
      | false =>
        go_wp2_with fail
        go_roundw
        case rel => exact ⟨k + 1, q + 1, by omega, by have := w64_in (n := (q : Int) + 1) (by omega); simp [oneI, this], by go_num, hd (by have := HT'.out; simpa using this), by omega, trivial⟩
        case measure => simp [intOf]; omega
    · have he : Hid (q = lstN (fun s => hasB E s) l) := hd (by rw [hq.out, List.take_of_length_le (by omega)])
      clear hq
      go_wp2_with fail
      go_ret
      exact ⟨by rw [← he.out]; rfl, rfl⟩
end
end Go.Proofs.Ytlhdppkllmnmkad.G

/- What is kept in a map, of trees and of rows. -/
namespace Go.Proofs.Ytlhdppkllmnmkad.G
open Go.RowKit Go.Maps
section
variable {cb tb rb : Nat} {g : Gm} {W : List Int} {V : Nat} {E : BitVec 64} {vR vW : Value}
theorem ChR.grownT {w0 u u' : World} (hk : Kt tb rb w0 u) (hc : ChS u cb tb rb g W V E vR vW) (ht : Memo Try.prog 127 3 u' tb (GT g W V)) (hg : u.grownBy u' (some tb)) : ChS u' cb tb rb g W V E vR vW ∧ Kt tb rb w0 u' := by
  have k1 : Kt tb rb u u' := (Kt.refl tb rb u).grown hg (fun k e => by cases e; exact .inl rfl)
  refine ⟨hc.turn k1 ht (hc.o.of (hg.block rb hc.o.lt (fun e => hc.ne (by cases e; rfl)))), hk.trans k1⟩
theorem ChR.grownO {w0 u u' : World} (hk : Kt tb rb w0 u) (hc : ChS u cb tb rb g W V E vR vW) (ht : Memo Try.prog 153 3 u' rb (GR g W V)) (hg : u.grownBy u' (some rb)) : ChS u' cb tb rb g W V E vR vW ∧ Kt tb rb w0 u' := by
  have k1 : Kt tb rb u u' := (Kt.refl tb rb u).grown hg (fun k e => by cases e; exact .inr (.inl rfl))
  refine ⟨hc.turn k1 (hc.t.of (hg.block tb hc.t.lt (fun e => hc.ne (by cases e; rfl)))) ht, hk.trans k1⟩
set_option maxRecDepth 100000 in
set_option maxHeartbeats 4000000 in
theorem keptT_any (hG : CkG g W V) (v i j : Nat) (hv : v < V) (hij : i ≤ j) (hj : j ≤ W.length) (id : Nat) (cs : Array Value) (w : World) (h : ChS w cb tb rb g W V E vR vW) (hcal : Cal id)
    (hcount : ∀ w1, Below w.heap.size w w1 → Calls Try.prog id cs w1 (ChR w1 cb tb rb g W V E vR vW (cM (nN g.rules W V v i j)))) :
    Calls Try.prog 95 #[.map (some tb), .agg #[.int .i64 v, .int .i64 i, .int .i64 j], .func (.func id) #[] cs] w (ChR w cb tb rb g W V E vR vW (cM (nN g.rules W V v i j))) := by
  have hg0 : GT g W V (.agg #[.int .i64 v, .int .i64 i, .int .i64 j]) (cM (nN g.rules W V v i j)) := ⟨v, i, j, hv, hij, hj, rfl, rfl⟩
  have hwf := cM_wf (nN g.rules W V v i j)
  have hV64 := hG.rg.vr.1
  have hW12 := hG.wl
  have hkey := keyT (a := (v : Int)) (b := (i : Int)) (c := (j : Int)) (WalkArith.wf_i64 (by omega)) (WalkArith.wf_i64 (by omega)) (WalkArith.wf_i64 (by omega))
  have hKs := keysT Try.prog 127 hG
  obtain ⟨u, hu⟩ : ∃ u, u = w.alloc (.cells #[.int .i64 v, .int .i64 i, .int .i64 j] 127) := ⟨_, rfl⟩
  have hub : Below w.heap.size w u := by rw [hu]; exact al1 _ _
  have x0 : u.cell? ⟨w.heap.size, 0, none⟩ = some (.int .i64 v) := by rw [hu]; simp
  have x1 : u.cell? ⟨w.heap.size, 1, none⟩ = some (.int .i64 i) := by rw [hu]; simp
  have x2 : u.cell? ⟨w.heap.size, 2, none⟩ = some (.int .i64 j) := by rw [hu]; simp
  have CU := hcount u hub
  have hs := h.lw hub
  have hdet := fun n (h : GT g W V (.agg #[.int .i64 v, .int .i64 i, .int .i64 j]) n) => gt_det h hg0
  have HD := hd hdet
  have HG0 := hd hg0
  have HKT := hd hkey
  generalize cM (nN g.rules W V v i j) = n at *
  clear hcount hdet hg0 hkey
  unfold Cal at hcal
  obtain ⟨kl, hkl'⟩ := HKT.out
  have hmu : Memo Try.prog 127 3 (w.alloc (.cells #[.int .i64 v, .int .i64 i, .int .i64 j] 127)) tb (GT g W V) := hu ▸ hs.t
  obtain ⟨m, q, hrun, hq⟩ := hmu.look lawT Try.underlying109 (zeroI _) hkl'
  clear hmu hkl'
  have HQ := hd hq
  clear hq
  cases q with
  | true =>
    have hm := HD.out m (HQ.out rfl)
    subst hm
    clear HD HG0 HKT HQ
    go_enter Try.func95, Try.ntmps95
    go_wp2_with fail
    go_ret
    exact ⟨rfl, hu ▸ hs, Kt.of_below (hu ▸ hub)⟩
  | false =>
    clear HQ
    go_enter Try.func95, Try.ntmps95
    go_wp2_with fail
    rw [← hu]
    have HU := hd hu
    clear hu
    refine CU.mono ?_
    rintro e w1 ⟨rfl, hs1, hk1⟩
    have y0 := hs.keep hk1 x0
    have y1 := hs.keep hk1 x1
    have y2 := hs.keep hk1 x2
    go_wp2_with (at_mapUpdate; go_must (refine wpList_mapUpdate_memo _ rfl _ _ _ 109 rfl 127 3 lawT Try.underlying109 Try.underlying3 tb (GT g W V) 10816 hKs rfl hs1.t _ n rfl rfl HKT.out hwf HG0.out ?_))
    intro w2 ht2 hg2
    obtain ⟨hs2, hk2⟩ := ChR.grownT ((Kt.of_below hub).trans hk1) hs1 ht2 hg2
    go_wp2_with fail
    go_ret
    exact ⟨rfl, hs2, hk2⟩
set_option maxRecDepth 100000 in
set_option maxHeartbeats 4000000 in
theorem keptO_any (hG : CkG g W V) (r k i j : Nat) (hr : r < g.rules.length) (hkl : k < (rgtR g r).length) (hij : i ≤ j) (hj : j ≤ W.length) (id : Nat) (cs : Array Value) (w : World) (h : ChS w cb tb rb g W V E vR vW) (hcal : Cal id)
    (hcount : ∀ w1, Below w.heap.size w w1 → Calls Try.prog id cs w1 (ChR w1 cb tb rb g W V E vR vW (cM (chN (nN g.rules W V) W ((rgtR g r).drop k) i j)))) :
    Calls Try.prog 130 #[.map (some rb), .agg #[.int .i64 r, .int .i64 k, .int .i64 i, .int .i64 j], .func (.func id) #[] cs] w (ChR w cb tb rb g W V E vR vW (cM (chN (nN g.rules W V) W ((rgtR g r).drop k) i j))) := by
  have hg0 : GR g W V (.agg #[.int .i64 r, .int .i64 k, .int .i64 i, .int .i64 j]) (cM (chN (nN g.rules W V) W ((rgtR g r).drop k) i j)) := ⟨r, k, i, j, hr, hkl, hij, hj, rfl, rfl⟩
  have hwf := cM_wf (chN (nN g.rules W V) W ((rgtR g r).drop k) i j)
  have hR160 := hG.rg.few
  have hW12 := hG.wl
  have hr10 := hG.short hr
  have hkey := keyO (a := (r : Int)) (b := (k : Int)) (c := (i : Int)) (x := (j : Int)) (WalkArith.wf_i64 (by omega)) (WalkArith.wf_i64 (by omega)) (WalkArith.wf_i64 (by omega)) (WalkArith.wf_i64 (by omega))
  have hKs := keysR Try.prog 153 hG
  obtain ⟨u, hu⟩ : ∃ u, u = w.alloc (.cells #[.int .i64 r, .int .i64 k, .int .i64 i, .int .i64 j] 153) := ⟨_, rfl⟩
  have hub : Below w.heap.size w u := by rw [hu]; exact al1 _ _
  have x0 : u.cell? ⟨w.heap.size, 0, none⟩ = some (.int .i64 r) := by rw [hu]; simp
  have x1 : u.cell? ⟨w.heap.size, 1, none⟩ = some (.int .i64 k) := by rw [hu]; simp
  have x2 : u.cell? ⟨w.heap.size, 2, none⟩ = some (.int .i64 i) := by rw [hu]; simp
  have x3 : u.cell? ⟨w.heap.size, 3, none⟩ = some (.int .i64 j) := by rw [hu]; simp
  have CU := hcount u hub
  have hs := h.lw hub
  have hdet := fun n (h : GR g W V (.agg #[.int .i64 r, .int .i64 k, .int .i64 i, .int .i64 j]) n) => gr_det h hg0
  have HD := hd hdet
  have HG0 := hd hg0
  have HKT := hd hkey
  generalize cM (chN (nN g.rules W V) W ((rgtR g r).drop k) i j) = n at *
  clear hcount hdet hg0 hkey
  unfold Cal at hcal
  obtain ⟨kl, hkl'⟩ := HKT.out
  have hmu : Memo Try.prog 153 3 (w.alloc (.cells #[.int .i64 r, .int .i64 k, .int .i64 i, .int .i64 j] 153)) rb (GR g W V) := hu ▸ hs.o
  obtain ⟨m, q, hrun, hq⟩ := hmu.look lawO Try.underlying110 (zeroI _) hkl'
  clear hmu hkl'
  have HQ := hd hq
  clear hq
  cases q with
  | true =>
    have hm := HD.out m (HQ.out rfl)
    subst hm
    clear HD HG0 HKT HQ
    go_enter Try.func130, Try.ntmps130
    go_wp2_with fail
    go_ret
    exact ⟨rfl, hu ▸ hs, Kt.of_below (hu ▸ hub)⟩
  | false =>
    clear HQ
    go_enter Try.func130, Try.ntmps130
    go_wp2_with fail
    rw [← hu]
    have HU := hd hu
    clear hu
    refine CU.mono ?_
    rintro e w1 ⟨rfl, hs1, hk1⟩
    have y0 := hs.keep hk1 x0
    have y1 := hs.keep hk1 x1
    have y2 := hs.keep hk1 x2
    have y3 := hs.keep hk1 x3
    go_wp2_with (at_mapUpdate; go_must (refine wpList_mapUpdate_memo _ rfl _ _ _ 110 rfl 153 3 lawO Try.underlying110 Try.underlying3 rb (GR g W V) 270400 hKs rfl hs1.o _ n rfl rfl HKT.out hwf HG0.out ?_))
    intro w2 ht2 hg2
    obtain ⟨hs2, hk2⟩ := ChR.grownO ((Kt.of_below hub).trans hk1) hs1 ht2 hg2
    go_wp2_with fail
    go_ret
    exact ⟨rfl, hs2, hk2⟩
end
end Go.Proofs.Ytlhdppkllmnmkad.G

/- Pieces of a slice of numbers. -/
namespace Go.Proofs.Ytlhdppkllmnmkad.G
open Go.RowKit
/-- One element of a slice, and what is behind it. -/
theorem IsV_one {w : World} {S : Nat → Prop} {b o n cap : Nat} {l : List Int} (h : IsV w S (.slice (some ⟨b, o, none⟩) n cap) l) {k : Nat} (hk : k < l.length) (c : Nat) (hc : 1 ≤ c) : IsV w S (.slice (some ⟨b, o + k, none⟩) 1 c) [l[k]] := by
  obtain ⟨h1, ao, cap', e, h2, h3, h4⟩ := h
  simp at e
  obtain ⟨rfl, rfl, rfl⟩ := e
  rcases h4 with h4 | ⟨b', o', e, hS, hx⟩
  · rw [h4] at hk; simp at hk
  · simp at e
    obtain ⟨rfl, rfl⟩ := e
    exact ⟨by simp, _, c, rfl, hc, (fun h => by cases h), .inr ⟨b, o + k, rfl, hS, fun i hi => by
      have : i = 0 := by simp at hi; omega
      subst this
      exact hx k hk⟩⟩
theorem IsV_rest {w : World} {S : Nat → Prop} {b o n cap : Nat} {l : List Int} (h : IsV w S (.slice (some ⟨b, o, none⟩) n cap) l) {k : Nat} (hk : k ≤ l.length) (ao : Option Addr) (c : Nat) (hc : l.length - k ≤ c) (ha : ao = some ⟨b, o + k, none⟩ ∨ (k = l.length ∧ ∃ p, ao = some p)) : IsV w S (.slice ao (l.length - k) c) (l.drop k) := by
  obtain ⟨h1, ao', cap', e, h2, h3, h4⟩ := h
  simp at e
  obtain ⟨rfl, rfl, rfl⟩ := e
  have hl : (l.drop k).length = l.length - k := by simp
  refine ⟨by rw [hl]; omega, ao, c, by rw [hl], by rw [hl]; exact hc, (fun h => by rcases ha with ha | ⟨_, p, ha⟩ <;> rw [ha] at h <;> cases h), ?_⟩
  by_cases e : l.length - k = 0
  · exact .inl (hl.trans e)
  · rcases ha with ha | ⟨ha, _⟩
    · rcases h4 with h4 | ⟨b', o', e', hS, hx⟩
      · omega
      · simp at e'
        obtain ⟨rfl, rfl⟩ := e'
        exact .inr ⟨b, o + k, ha, hS, fun i hi => by
          have := hx (k + i) (by simp at hi; omega)
          rw [show o + k + i = o + (k + i) by omega, this]; simp⟩
    · omega
end Go.Proofs.Ytlhdppkllmnmkad.G

/- A chart's symbol and Split. -/
namespace Go.Proofs.Ytlhdppkllmnmkad.G
open Go.RowKit Go.Maps
section
variable (cb tb rb : Nat) (g : Gm) (W : List Int) (V : Nat) (E : BitVec 64) (vR vW : Value)
def COfOK (v i j : Nat) : Prop := ∀ w, ChS w cb tb rb g W V E vR vW → Calls Try.prog 46 #[.pointer (some ⟨cb, 0, none⟩), .int .i64 v, .int .i64 i, .int .i64 j] w (ChR w cb tb rb g W V E vR vW (cM (nN g.rules W V v i j)))
def CSyOK (s : Int) (i j : Nat) : Prop := ∀ w, ChS w cb tb rb g W V E vR vW → Calls Try.prog 102 #[.pointer (some ⟨cb, 0, none⟩), .int .i64 s, .int .i64 i, .int .i64 j] w (ChR w cb tb rb g W V E vR vW (cM (vlN (nN g.rules W V) W s i j)))
def CRowOK (r k i j : Nat) : Prop := ∀ w, ChS w cb tb rb g W V E vR vW → Calls Try.prog 98 #[.pointer (some ⟨cb, 0, none⟩), .int .i64 r, .int .i64 k, .int .i64 i, .int .i64 j] w (ChR w cb tb rb g W V E vR vW (cM (chN (nN g.rules W V) W ((rgtR g r).drop k) i j)))
def SplOK (r k i m j : Nat) : Prop := ∀ w, ChS w cb tb rb g W V E vR vW → Calls Try.prog 49 #[.pointer (some ⟨cb, 0, none⟩), .int .i64 r, .int .i64 k, .int .i64 i, .int .i64 m, .int .i64 j] w (ChR w cb tb rb g W V E vR vW (cM (spN g.rules W V (rgtR g r) k i m j)))
end
section
variable {cb tb rb : Nat} {g : Gm} {W : List Int} {V : Nat} {E : BitVec 64} {vR vW : Value}
set_option maxRecDepth 100000 in
set_option maxHeartbeats 4000000 in
theorem sym_var {s : Int} {i j : Nat} (hs : 0 ≤ s) (h : COfOK cb tb rb g W V E vR vW s.toNat i j) : CSyOK cb tb rb g W V E vR vW s i j := by
  intro w hc
  obtain ⟨v, rfl⟩ : ∃ v : Nat, s = v := ⟨s.toNat, by omega⟩
  have CO := h w hc
  have hv : vlN (nN g.rules W V) W (v : Int) i j = nN g.rules W V v i j := by unfold vlN; rw [if_pos hs, Int.toNat_natCast]
  rw [hv]
  rw [Int.toNat_natCast] at CO
  clear hv h
  generalize cM (nN g.rules W V v i j) = n at *
  go_enter Try.func102, Try.ntmps102
  go_wp2_with fail
  refine CO.mono ?_
  rintro e w1 ⟨rfl, hs1, hk1⟩
  go_wp2_with fail
  go_ret
  exact ⟨rfl, hs1, hk1⟩
set_option maxRecDepth 100000 in
set_option maxHeartbeats 4000000 in
theorem sym_term {s : Int} {i j : Nat} (hs : s < 0) (hlo : -16 ≤ s) (hij : i ≤ j) (hj : j ≤ W.length) (hW12 : W.length ≤ 12) : CSyOK cb tb rb g W V E vR vW s i j := by
  intro w hc
  have k4 := hc.c4
  obtain ⟨aW, cW, rfl⟩ := hc.x.slice
  have hv : vlN (nN g.rules W V) W s i j = if j = i + 1 ∧ W[i]? = some (-1 - s) then 1 else 0 := by unfold vlN; rw [if_neg (by omega)]
  rw [hv]
  have w1 : wrap64 ((i : Int) + 1) = (i : Int) + 1 := w64_in (by omega)
  have w2 : wrap64 (-1 - s) = -1 - s := w64_in (by omega)
  by_cases he : j = i + 1
  · subst he
    obtain ⟨b, o, rfl, c0⟩ := hc.x.at_ (show i < W.length by omega)
    have hg : W[i]? = some W[i] := List.getElem?_eq_getElem (by omega)
    rw [hg]
    have hkeep := hc
    clear hc hg
    generalize W[i] = x at *
    by_cases hx : x = -1 - s
    · have hb : (x == -1 - s) = true := by simpa using hx
      rw [if_pos ⟨rfl, by rw [hx]⟩, cM_one]
      have OA := one_any true w
      clear hx
      go_enter Try.func102, Try.ntmps102
      go_wp2_with fail
      refine OA.mono ?_
      rintro e wx ⟨rfl, hwx⟩
      obtain rfl := hwx.symm
      go_wp2_with fail
      go_ret
      exact ⟨rfl, hkeep, Kt.refl _ _ _⟩
    · have hb : (x == -1 - s) = false := by simpa using hx
      rw [if_neg (fun h => hx (by have := h.2; simpa using this)), cM_zero]
      have OA := one_any false w
      clear hx
      go_enter Try.func102, Try.ntmps102
      go_wp2_with fail
      refine OA.mono ?_
      rintro e wx ⟨rfl, hwx⟩
      obtain rfl := hwx.symm
      go_wp2_with fail
      go_ret
      exact ⟨rfl, hkeep, Kt.refl _ _ _⟩
  · have hb : ((j : Int) == (i : Int) + 1) = false := by simp; omega
    rw [if_neg (fun h => he h.1), cM_zero]
    have OA := one_any false w
    clear he
    go_enter Try.func102, Try.ntmps102
    go_wp2_with fail
    refine OA.mono ?_
    rintro e wx ⟨rfl, hwx⟩
    obtain rfl := hwx.symm
    go_wp2_with fail
    go_ret
    exact ⟨rfl, hc, Kt.refl _ _ _⟩
end
end Go.Proofs.Ytlhdppkllmnmkad.G

/- A chart's Split. -/
namespace Go.Proofs.Ytlhdppkllmnmkad.G
open Go.RowKit Go.Maps
section
variable {cb tb rb : Nat} {g : Gm} {W : List Int} {V : Nat} {E : BitVec 64} {vR vW : Value}
/-- What Split answers of any numbers. -/
noncomputable def splZ (g : Gm) (W : List Int) (V : Nat) (r k i m j : Int) : Int :=
  if r < 0 ∨ (g.rules.length : Int) ≤ r ∨ k < 0 ∨ ((rgtR g r.toNat).length : Int) ≤ k ∨ i < 0 ∨ j < i ∨ (W.length : Int) < j ∨ m < i ∨ j < m then 0 else cM (spN g.rules W V (rgtR g r.toNat) k.toNat i.toNat m.toNat j.toNat)
theorem spB_no {L i j : Int} (h : i < 0 ∨ j < i ∨ L < j) : spB L i j = false := by
  unfold spB
  rw [← Bool.not_eq_true]
  simp only [Bool.and_eq_true, decide_eq_true_eq]
  omega
theorem spB_yes {L i j : Int} (h : 0 ≤ i) (h2 : i ≤ j) (h3 : j ≤ L) : spB L i j = true := by
  unfold spB
  simp only [Bool.and_eq_true, decide_eq_true_eq]
  exact ⟨⟨h, h2⟩, h3⟩
theorem zq_facts {k' L cu i' m' j' : Nat} (h1 : k' < L) (h2 : L ≤ 10) (h3 : L ≤ cu) (h4 : i' ≤ m') (h5 : m' ≤ j') (h6 : j' ≤ 12) :
    ¬ (cu = k') ∧ wrap64 ((k' : Int) + 1) = (k' : Int) + 1 ∧ wrap64 ((m' : Int) - i') = (m' : Int) - i' ∧ wrap64 ((j' : Int) - m') = (j' : Int) - m' ∧ ¬ ((L : Int) ≤ (k' : Int)) ∧ ¬ ((m' : Int) < (i' : Int)) ∧ ¬ ((j' : Int) < (m' : Int)) ∧
      ((k' : Int) + 1).toNat = k' + 1 ∧ k' + 1 - k' = 1 ∧ (0 : Int) ≤ (k' : Int) + 1 ∧ k' ≤ k' + 1 ∧ (k' : Int) + 1 ≤ (L : Int) ∧ (k' : Int) + 1 ≤ (cu : Int) ∧ (L : Int) ≤ (cu : Int) ∧ (k' : Int) ≤ (k' : Int) + 1 ∧ k' + 1 ≤ L :=
  ⟨by omega, w64_in (by omega), w64_in (by omega), w64_in (by omega), by omega, by omega, by omega, by omega, by omega, by omega, by omega, by omega, by omega, by omega, by omega, by omega⟩
theorem zq_lt {m i q : Nat} (h : (m : Int) - i < q) (_hi : i ≤ m) : m < i + q := by omega
theorem zq_no {m i q : Nat} (h : (m : Int) - i < q) (hi : i ≤ m) (hq : q ≤ 0) : False := by omega
theorem zq_le {m i q : Nat} (h : ¬ ((m : Int) - i < q)) (_hi : i ≤ m) : i + q ≤ m := by omega
theorem zq_cast (k : Nat) : ((k + 1 : Nat) : Int) = (k : Int) + 1 := by omega
theorem zq_cap {cu k L : Nat} (h : k < L) (h2 : L ≤ cu) : 1 ≤ cu - k ∧ L - (k + 1) ≤ cu - (k + 1) ∧ (cu = k + 1 → L - (k + 1) ≤ 0 ∧ k + 1 = L) := by omega
set_option maxRecDepth 100000 in
set_option maxHeartbeats 8000000 in
theorem csplit_any (hG : CkG g W V) (hE : ∀ v : Int, hasB E v = true ↔ Nul g.rules v) (r k i m j : Int)
    (hrec : ∀ r' k' i' m' j' : Nat, r = r' → k = k' → i = i' → m = m' → j = j' → r' < g.rules.length → k' < (rgtR g r').length → i' ≤ m' → m' ≤ j' → j' ≤ W.length → i' + lstN (fun s => hasB E s) [(rgtR g r').getD k' 0] ≤ m' → m' + lstN (fun s => hasB E s) ((rgtR g r').drop (k' + 1)) ≤ j' →
      CSyOK cb tb rb g W V E vR vW ((rgtR g r').getD k' 0) i' m' ∧ CRowOK cb tb rb g W V E vR vW r' (k' + 1) m' j')
    (w : World) (hc : ChS w cb tb rb g W V E vR vW) :
    Calls Try.prog 49 #[.pointer (some ⟨cb, 0, none⟩), .int .i64 r, .int .i64 k, .int .i64 i, .int .i64 m, .int .i64 j] w (ChR w cb tb rb g W V E vR vW (splZ g W V r k i m j)) := by
  have HA := chas_any r w hc
  have HS := cspans_any i j w hc
  have k3 := hc.c3
  have k4 := hc.c4
  obtain ⟨aR, cR, rfl⟩ := hc.r.slice
  obtain ⟨Z, hZ⟩ : ∃ Z, Z = splZ g W V r k i m j := ⟨_, rfl⟩
  rw [← hZ]
  by_cases g0 : r < 0 ∨ (g.rules.length : Int) ≤ r
  · have hz : Hid (Z = 0) := hd (by rw [hZ]; exact if_pos (by rcases g0 with h | h; exact .inl h; exact .inr (.inl h)))
    have hb : (decide (0 ≤ r) && decide (r < (g.rules.length : Int))) = false := by rw [← Bool.not_eq_true]; simp only [Bool.and_eq_true, decide_eq_true_eq]; omega
    rw [hb] at HA
    clear hZ hrec g0 hb
    go_enter Try.func49, Try.ntmps49
    go_wp2_with fail
    refine HA.mono ?_
    rintro e wx ⟨rfl, hwx⟩
    obtain rfl := hwx.symm
    go_wp2_with fail
    go_ret
    exact ⟨ret_int hz.out.symm, hc, Kt.refl _ _ _⟩
  have hb : (decide (0 ≤ r) && decide (r < (g.rules.length : Int))) = true := by simp only [Bool.and_eq_true, decide_eq_true_eq]; omega
  rw [hb] at HA
  clear hb
  obtain ⟨r', rfl⟩ : ∃ r' : Nat, r = r' := ⟨r.toNat, by omega⟩
  have hr : r' < g.rules.length := by omega
  have gr : ¬ ((g.rules.length : Int) ≤ (r' : Int)) := by omega
  obtain ⟨bR, oR, rfl, d0, au, cu, d1, hu⟩ := hc.r.at_ hr
  have hrr : g.rules[r'].right = rgtR g r' := by unfold rgtR; rw [hG.at_ hr]
  rw [hrr] at d1 hu
  clear hrr
  have hZ1 : Z = if k < 0 ∨ ((rgtR g r').length : Int) ≤ k ∨ i < 0 ∨ j < i ∨ (W.length : Int) < j ∨ m < i ∨ j < m then 0 else cM (spN g.rules W V (rgtR g r') k.toNat i.toNat m.toNat j.toNat) := by
    rw [hZ]; unfold splZ
    rw [Int.toNat_natCast]
    by_cases hx : k < 0 ∨ ((rgtR g r').length : Int) ≤ k ∨ i < 0 ∨ j < i ∨ (W.length : Int) < j ∨ m < i ∨ j < m
    · rw [if_pos hx, if_pos (.inr (.inr hx))]
    · rw [if_neg hx, if_neg (fun h => by rcases h with h | h | h; exact g0 (.inl h); exact gr h; exact hx h)]
  have hsh := hG.short hr
  have hsy := hG.sym hr
  have hsx : ∀ (i' m' j' : Nat) (k' : Nat), k' < (rgtR g r').length → i' ≤ m' → m' ≤ j' → j' ≤ W.length → (m' < i' + lstN (fun s => hasB E s) [(rgtR g r').getD k' 0] ∨ j' < m' + lstN (fun s => hasB E s) ((rgtR g r').drop (k' + 1))) → spN g.rules W V (rgtR g r') k' i' m' j' = 0 :=
    fun i' m' j' k' a1 a2 a3 a4 a5 => spN_least hG.ac hG.hR (fun v _ _ h => (hE v).2 h) (fun s hs => (hsy s hs).1) a1 a2 a3 a4 a5
  have hspd : ∀ (k' i' m' j' : Nat), cM (spN g.rules W V (rgtR g r') k' i' m' j') = prI (cM (vlN (nN g.rules W V) W ((rgtR g r').getD k' 0) i' m')) (cM (chN (nN g.rules W V) W ((rgtR g r').drop (k' + 1)) m' j')) 4611686018427387904 := fun k' i' m' j' => by rw [cM_mul]; rfl
  clear hZ g0
  by_cases g1 : k < 0
  · have hz : Hid (Z = 0) := hd (by rw [hZ1]; exact if_pos (.inl g1))
    clear hZ1 hrec hsx hspd
    go_enter Try.func49, Try.ntmps49
    go_wp2_with fail
    refine HA.mono ?_
    rintro e wx ⟨rfl, hwx⟩
    obtain rfl := hwx.symm
    go_wp2_with fail
    go_ret
    exact ⟨ret_int hz.out.symm, hc, Kt.refl _ _ _⟩
  by_cases g2 : ((rgtR g r').length : Int) ≤ k
  · have hz : Hid (Z = 0) := hd (by rw [hZ1]; exact if_pos (.inr (.inl g2)))
    clear hZ1 hrec hsx hspd
    generalize rgtR g r' = ru at *
    generalize g.rules[r'] = rz at *
    go_enter Try.func49, Try.ntmps49
    go_wp2_with fail
    refine HA.mono ?_
    rintro e wx ⟨rfl, hwx⟩
    obtain rfl := hwx.symm
    go_wp2_with fail
    go_ret
    exact ⟨ret_int hz.out.symm, hc, Kt.refl _ _ _⟩
  by_cases g3 : i < 0 ∨ j < i ∨ (W.length : Int) < j
  · have hz : Hid (Z = 0) := hd (by rw [hZ1]; exact if_pos (by omega))
    rw [spB_no g3] at HS
    clear hZ1 hrec hsx hspd g3
    generalize rgtR g r' = ru at *
    generalize g.rules[r'] = rz at *
    go_enter Try.func49, Try.ntmps49
    go_wp2_with fail
    refine HA.mono ?_
    rintro e wx ⟨rfl, hwx⟩
    obtain rfl := hwx.symm
    go_wp2_with fail
    refine HS.mono ?_
    rintro e wx ⟨rfl, hwx⟩
    obtain rfl := hwx.symm
    go_wp2_with fail
    go_ret
    exact ⟨ret_int hz.out.symm, hc, Kt.refl _ _ _⟩
  rw [spB_yes (by omega) (by omega) (by omega)] at HS
  by_cases g4 : m < i
  · have hz : Hid (Z = 0) := hd (by rw [hZ1]; exact if_pos (by omega))
    clear hZ1 hrec hsx hspd g3
    generalize rgtR g r' = ru at *
    generalize g.rules[r'] = rz at *
    go_enter Try.func49, Try.ntmps49
    go_wp2_with fail
    refine HA.mono ?_
    rintro e wx ⟨rfl, hwx⟩
    obtain rfl := hwx.symm
    go_wp2_with fail
    refine HS.mono ?_
    rintro e wx ⟨rfl, hwx⟩
    obtain rfl := hwx.symm
    go_wp2_with fail
    go_ret
    exact ⟨ret_int hz.out.symm, hc, Kt.refl _ _ _⟩
  by_cases g5 : j < m
  · have hz : Hid (Z = 0) := hd (by rw [hZ1]; exact if_pos (by omega))
    clear hZ1 hrec hsx hspd g3
    generalize rgtR g r' = ru at *
    generalize g.rules[r'] = rz at *
    go_enter Try.func49, Try.ntmps49
    go_wp2_with fail
    refine HA.mono ?_
    rintro e wx ⟨rfl, hwx⟩
    obtain rfl := hwx.symm
    go_wp2_with fail
    refine HS.mono ?_
    rintro e wx ⟨rfl, hwx⟩
    obtain rfl := hwx.symm
    go_wp2_with fail
    go_ret
    exact ⟨ret_int hz.out.symm, hc, Kt.refl _ _ _⟩
  obtain ⟨k', rfl⟩ : ∃ k' : Nat, k = k' := ⟨k.toNat, by omega⟩
  obtain ⟨i', rfl⟩ : ∃ i' : Nat, i = i' := ⟨i.toNat, by omega⟩
  obtain ⟨m', rfl⟩ : ∃ m' : Nat, m = m' := ⟨m.toNat, by omega⟩
  obtain ⟨j', rfl⟩ : ∃ j' : Nat, j = j' := ⟨j.toNat, by omega⟩
  have hkl : k' < (rgtR g r').length := by omega
  have hZ2 : Z = cM (spN g.rules W V (rgtR g r') k' i' m' j') := by rw [hZ1, if_neg (by omega)]; simp only [Int.toNat_natCast]
  have hsx' := hsx i' m' j' k' hkl (by omega) (by omega) (by omega)
  have hrec' := hrec r' k' i' m' j' rfl rfl rfl rfl rfl hr hkl (by omega) (by omega) (by omega)
  have hget : (rgtR g r').getD k' 0 = (rgtR g r')[k'] := by rw [List.getD_eq_getElem?_getD, List.getElem?_eq_getElem hkl]; rfl
  rw [hspd k' i' m' j'] at hZ2
  have hzero : (m' < i' + lstN (fun s => hasB E s) [(rgtR g r').getD k' 0] ∨ j' < m' + lstN (fun s => hasB E s) ((rgtR g r').drop (k' + 1))) → Z = 0 := fun h => by rw [hZ2, ← hspd, hsx' h, cM_zero]
  have rg1 := cM_rng (vlN (nN g.rules W V) W ((rgtR g r').getD k' 0) i' m')
  have rg2 := cM_rng (chN (nN g.rules W V) W ((rgtR g r').drop (k' + 1)) m' j')
  unfold CSyOK CRowOK at hrec'
  rw [hget] at hzero
  rw [hget] at hZ2 hrec' rg1
  clear hZ1 hrec hsx hspd hsx' hget
  have HZ2 := hd hZ2
  have HZ0 := hd hzero
  have HREC := hd hrec'
  clear hZ2 hzero hrec'
  generalize cM (vlN (nN g.rules W V) W (rgtR g r')[k'] i' m') = a1 at *
  generalize cM (chN (nN g.rules W V) W ((rgtR g r').drop (k' + 1)) m' j') = a2 at *
  obtain ⟨bu, ou, rfl, c0⟩ := hu.at_ hkl
  have hcu : (rgtR g r').length ≤ cu := by
    obtain ⟨_, ao, cap', e, h2, _⟩ := hu
    simp at e; omega
  have u1 := fun c hc => IsV_one hu hkl c hc
  have hL1 : lstN (fun s => hasB E s) [(rgtR g r')[k']] ≤ 1 := by simp only [lstN]; split <;> omega
  have lle : ∀ l : List Int, lstN (fun s => hasB E s) l ≤ l.length := fun l => by
    induction l with
    | nil => simp [lstN]
    | cons x l ih => simp only [lstN, List.length_cons]; split <;> omega
  have hL2 := lle ((rgtR g r').drop (k' + 1))
  rw [List.length_drop] at hL2
  have hW12 := hG.wl
  have hdl : ((rgtR g r').drop (k' + 1)).length ≤ 10 := by rw [List.length_drop]; omega
  have L1' := fun c hcc => cleast_any [(rgtR g r')[k']] _ w hc (u1 c hcc) (by simp)
  have L2' := fun ao c (u2 : IsV w All (.slice ao ((rgtR g r').length - (k' + 1)) c) ((rgtR g r').drop (k' + 1))) => cleast_any _ _ w hc u2 hdl
  have hi12 : i' ≤ m' ∧ m' ≤ j' ∧ j' ≤ 12 := ⟨by omega, by omega, by omega⟩
  obtain ⟨hck, wk, wmi, wjm, nk1, nk2, nk3, ht1, ht2, ht3, ht4, ht5, ht6, ht7, ht8, ht9⟩ := zq_facts hkl hsh hcu hi12.1 hi12.2.1 hi12.2.2
  obtain ⟨hc1, hc2, hc3⟩ := zq_cap hkl hcu
  have hm12 := hi12.1
  have hm13 := hi12.2.1
  have HC3 := hd hc3
  clear hi12 hcu g3 hc3
  have hrest := fun ao c h1 h2 => IsV_rest hu (k := k' + 1) ht9 ao c h1 h2
  generalize lstN (fun s => hasB E s) [(rgtR g r')[k']] = q1 at *
  generalize lstN (fun s => hasB E s) ((rgtR g r').drop (k' + 1)) = q2 at *
  generalize (rgtR g r')[k'] = x at *
  generalize g.rules[r'] = rz at *
  clear u1 hdl lle hsh hsy
  by_cases hcz : cu = k' + 1
  · skip
    have L1 := L1' 1 (Nat.le_refl _)
    have L2 := L2' (some ⟨bu, ou, none⟩) 0 (hrest _ 0 (HC3.out hcz).1 (.inr ⟨(HC3.out hcz).2, _, rfl⟩))
    have hq0 := hd (Nat.le_trans hL2 (HC3.out hcz).1)
    clear L1' L2' hrest hu hc1 hc2 HC3
    subst hcz
    by_cases f1 : (m' : Int) - i' < (q1 : Int)
    · have hz := hd (HZ0.out (.inl (zq_lt f1 hm12)))
      clear HZ0 HREC HZ2
      go_enter Try.func49, Try.ntmps49
      go_wp2_with fail
      refine HA.mono ?_
      rintro e wx ⟨rfl, hwx⟩
      obtain rfl := hwx.symm
      go_wp2_with fail
      refine HS.mono ?_
      rintro e wx ⟨rfl, hwx⟩
      obtain rfl := hwx.symm
      go_wp2_with fail
      refine L1.mono ?_
      rintro e wx ⟨rfl, hwx⟩
      obtain rfl := hwx.symm
      go_wp2_with fail
      go_ret
      exact ⟨ret_int hz.out.symm, hc, Kt.refl _ _ _⟩
    by_cases f2 : (j' : Int) - m' < (q2 : Int)
    · exact (zq_no f2 hm13 hq0.out).elim
    · obtain ⟨SY, RO⟩ := HREC.out (zq_le f1 hm12) (zq_le f2 hm13)
      have SYw := SY w hc
      have ROw := hd RO
      clear HZ0 HREC SY RO
      go_enter Try.func49, Try.ntmps49
      go_wp2_with fail
      refine HA.mono ?_
      rintro e wx ⟨rfl, hwx⟩
      obtain rfl := hwx.symm
      go_wp2_with fail
      refine HS.mono ?_
      rintro e wx ⟨rfl, hwx⟩
      obtain rfl := hwx.symm
      go_wp2_with fail
      refine L1.mono ?_
      rintro e wx ⟨rfl, hwx⟩
      obtain rfl := hwx.symm
      go_wp2_with fail
      refine L2.mono ?_
      rintro e wx ⟨rfl, hwx⟩
      obtain rfl := hwx.symm
      go_wp2_with fail
      refine SYw.mono ?_
      rintro e w1 ⟨rfl, hs1, kt1⟩
      have RW := ROw.out w1 hs1
      have ecast := zq_cast k'
      rw [ecast] at RW
      clear ecast
      go_wp2_with fail
      refine RW.mono ?_
      rintro e w2 ⟨rfl, hs2, kt2⟩
      go_wp2_with fail
      refine (times_in w2 rg1.1 rg1.2 rg2.1 rg2.2).mono ?_
      rintro e wx ⟨rfl, hwx⟩
      obtain rfl := hwx.symm
      go_wp2_with fail
      go_ret
      exact ⟨ret_int HZ2.out.symm, hs2, kt1.trans kt2⟩
  · skip
    have L1 := L1' (cu - k') hc1
    have L2 := L2' (some ⟨bu, ou + (k' + 1), none⟩) (cu - (k' + 1)) (hrest _ (cu - (k' + 1)) hc2 (.inl rfl))
    skip
    clear L1' L2' hrest hu hc1 hc2 HC3
    skip
    by_cases f1 : (m' : Int) - i' < (q1 : Int)
    · have hz := hd (HZ0.out (.inl (zq_lt f1 hm12)))
      clear HZ0 HREC HZ2
      go_enter Try.func49, Try.ntmps49
      go_wp2_with fail
      refine HA.mono ?_
      rintro e wx ⟨rfl, hwx⟩
      obtain rfl := hwx.symm
      go_wp2_with fail
      refine HS.mono ?_
      rintro e wx ⟨rfl, hwx⟩
      obtain rfl := hwx.symm
      go_wp2_with fail
      refine L1.mono ?_
      rintro e wx ⟨rfl, hwx⟩
      obtain rfl := hwx.symm
      go_wp2_with fail
      go_ret
      exact ⟨ret_int hz.out.symm, hc, Kt.refl _ _ _⟩
    by_cases f2 : (j' : Int) - m' < (q2 : Int)
    · have hz := hd (HZ0.out (.inr (zq_lt f2 hm13)))
      clear HZ0 HREC HZ2
      go_enter Try.func49, Try.ntmps49
      go_wp2_with fail
      refine HA.mono ?_
      rintro e wx ⟨rfl, hwx⟩
      obtain rfl := hwx.symm
      go_wp2_with fail
      refine HS.mono ?_
      rintro e wx ⟨rfl, hwx⟩
      obtain rfl := hwx.symm
      go_wp2_with fail
      refine L1.mono ?_
      rintro e wx ⟨rfl, hwx⟩
      obtain rfl := hwx.symm
      go_wp2_with fail
      refine L2.mono ?_
      rintro e wx ⟨rfl, hwx⟩
      obtain rfl := hwx.symm
      go_wp2_with fail
      go_ret
      exact ⟨ret_int hz.out.symm, hc, Kt.refl _ _ _⟩
    · obtain ⟨SY, RO⟩ := HREC.out (zq_le f1 hm12) (zq_le f2 hm13)
      have SYw := SY w hc
      have ROw := hd RO
      clear HZ0 HREC SY RO
      go_enter Try.func49, Try.ntmps49
      go_wp2_with fail
      refine HA.mono ?_
      rintro e wx ⟨rfl, hwx⟩
      obtain rfl := hwx.symm
      go_wp2_with fail
      refine HS.mono ?_
      rintro e wx ⟨rfl, hwx⟩
      obtain rfl := hwx.symm
      go_wp2_with fail
      refine L1.mono ?_
      rintro e wx ⟨rfl, hwx⟩
      obtain rfl := hwx.symm
      go_wp2_with fail
      refine L2.mono ?_
      rintro e wx ⟨rfl, hwx⟩
      obtain rfl := hwx.symm
      go_wp2_with fail
      refine SYw.mono ?_
      rintro e w1 ⟨rfl, hs1, kt1⟩
      have RW := ROw.out w1 hs1
      have ecast := zq_cast k'
      rw [ecast] at RW
      clear ecast
      go_wp2_with fail
      refine RW.mono ?_
      rintro e w2 ⟨rfl, hs2, kt2⟩
      go_wp2_with fail
      refine (times_in w2 rg1.1 rg1.2 rg2.1 rg2.2).mono ?_
      rintro e wx ⟨rfl, hwx⟩
      obtain rfl := hwx.symm
      go_wp2_with fail
      go_ret
      exact ⟨ret_int HZ2.out.symm, hs2, kt1.trans kt2⟩
end
end Go.Proofs.Ytlhdppkllmnmkad.G
