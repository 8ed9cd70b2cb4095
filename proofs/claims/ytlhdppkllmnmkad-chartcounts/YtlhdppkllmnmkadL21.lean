/- Texts laid together: Yo Zg Zy Zd Zz Zi Fe. -/
import Derived.Test.YtlhdppkllmnmkadL08
import Derived.Test.YtlhdppkllmnmkadL20
import Derived.Test.YtlhdppkllmnmkadL15
import Derived.BigQuiet
import Derived.Test.YtlhdppkllmnmkadL09
import Derived.Test.YtlhdppkllmnmkadL05
import Derived.Test.YtlhdppkllmnmkadL16
import Derived.Test.YtlhdppkllmnmkadL02
import Derived.Test.YtlhdppkllmnmkadL14
import Derived.Test.YtlhdppkllmnmkadL13
/- A count that is told: the document's Of. -/
namespace Go.Proofs.Ytlhdppkllmnmkad.G
open Go.RowKit
set_option maxRecDepth 100000 in
set_option maxHeartbeats 4000000 in
theorem cof_any (cb : Nat) (aoW : Option Addr) (L capW V b0 c0 : Nat) (b1 c1 : Nat → Nat) (rb : Nat → Nat → Nat) (f : Nat → Nat → Nat → Int) (v i j : Nat) (w : World) (k0 : w.cell? ⟨cb, 0, none⟩ = some (.int .i64 (V : Int))) (k4 : w.cell? ⟨cb, 4, none⟩ = some (.slice aoW L capW)) (k6 : w.cell? ⟨cb, 6, none⟩ = some (.slice (some ⟨b0, 0, none⟩) V c0)) (tb : TbR w V L b0 b1 c1 rb f) (hv : v < V) (hij : i ≤ j) (hj : j ≤ L) (_hL : L ≤ 1000) (_hV : V ≤ 1000) :
    Calls Try.prog 45 #[.pointer (some ⟨cb, 0, none⟩), .int .i64 v, .int .i64 i, .int .i64 j] w fun e w' => e = .returned (.int .i64 (f v i j)) ∧ w' = w := by
  have h0 := tb.h0 v hv
  have h1 := tb.h1 v i hv (by omega)
  have h2 := tb.h2 v i j hv (by omega) hj
  have hv2 : (v : Int) < (V : Int) := by omega
  have hv3 : ¬ ((V : Int) ≤ (v : Int)) := by omega
  have hij2 : ¬ ((j : Int) < (i : Int)) := by omega
  have hj2 : ¬ ((L : Int) < (j : Int)) := by omega
  have hi3 : i < L + 1 := by omega
  have hj3 : j < L + 1 := by omega
  have hi4 : (i : Int) < (L : Int) + 1 := by omega
  have hj4 : (j : Int) < (L : Int) + 1 := by omega
  generalize f v i j = x at *
  clear tb
  go_enter Try.func45, Try.ntmps45
  go_wp2_with fail
  go_ret
  exact ⟨rfl, rfl⟩
end Go.Proofs.Ytlhdppkllmnmkad.G

/- What the document tells of counts: Of, Rule, Split. -/
namespace Go.Proofs.Ytlhdppkllmnmkad.G
open Go.RowKit
/-- Counts, as they lie in memory. -/
structure CtV (w : World) (cb V : Nat) (R : List Ru) (W : List Int) (m : Int) (f : Nat → Nat → Nat → Int) (vR vW : Value) (b0 c0 : Nat) (b1 c1 : Nat → Nat) (rb : Nat → Nat → Nat) : Prop where
  k0 : w.cell? ⟨cb, 0, none⟩ = some (.int .i64 (V : Int))
  k3 : w.cell? ⟨cb, 3, none⟩ = some vR
  k4 : w.cell? ⟨cb, 4, none⟩ = some vW
  k5 : w.cell? ⟨cb, 5, none⟩ = some (.int .i64 m)
  k6 : w.cell? ⟨cb, 6, none⟩ = some (.slice (some ⟨b0, 0, none⟩) V c0)
  r : RsV w All vR R
  x : IsV w All vW W
  tb : TbR w V W.length b0 b1 c1 rb f
theorem CtV.lw {w w' : World} {cb V : Nat} {R : List Ru} {W : List Int} {m : Int} {f : Nat → Nat → Nat → Int} {vR vW : Value} {b0 c0 : Nat} {b1 c1 : Nat → Nat} {rb : Nat → Nat → Nat} (h : CtV w cb V R W m f vR vW b0 c0 b1 c1 rb) (hb : Below w.heap.size w w') : CtV w' cb V R W m f vR vW b0 c0 b1 c1 rb :=
  ⟨bkeep hb h.k0, bkeep hb h.k3, bkeep hb h.k4, bkeep hb h.k5, bkeep hb h.k6, h.r.lw hb, h.x.lw hb, h.tb.lw hb⟩
/-- What goes for all of them. -/
structure CtG (V : Nat) (R : List Ru) (W : List Int) (m : Int) (f : Nat → Nat → Nat → Int) : Prop where
  hV : V ≤ 1000
  hR : ∀ r ∈ R, ∀ s ∈ r.right, s < V ∧ -1000000 ≤ s
  hW : W.length ≤ 1000
  hWr : ∀ x ∈ W, -1000000 ≤ x ∧ x ≤ 1000000
  hm1 : 1 ≤ m
  hm62 : m ≤ 4611686018427387904
  hf : ∀ v a b, 0 ≤ f v a b ∧ f v a b ≤ m
def ofI (V L : Nat) (f : Nat → Nat → Nat → Int) (v i j : Int) : Int := if v < 0 ∨ (V : Int) ≤ v ∨ i < 0 ∨ j < i ∨ (L : Int) < j then 0 else f v.toNat i.toNat j.toNat
set_option maxRecDepth 100000 in
set_option maxHeartbeats 4000000 in
theorem cofI_any {cb V : Nat} {R : List Ru} {W : List Int} {m : Int} {f : Nat → Nat → Nat → Int} {vR vW : Value} {b0 c0 : Nat} {b1 c1 : Nat → Nat} {rb : Nat → Nat → Nat} (v i j : Int) (w : World) (h : CtV w cb V R W m f vR vW b0 c0 b1 c1 rb) (hg : CtG V R W m f) :
    Calls Try.prog 45 #[.pointer (some ⟨cb, 0, none⟩), .int .i64 v, .int .i64 i, .int .i64 j] w fun e w' => e = .returned (.int .i64 (ofI V W.length f v i j)) ∧ w' = w := by
  have k0 := h.k0
  have k4 := h.k4
  obtain ⟨aW, cW, rfl⟩ := h.x.slice
  obtain ⟨Z, hZ⟩ : ∃ Z, Z = ofI V W.length f v i j := ⟨_, rfl⟩
  by_cases hin : v < 0 ∨ (V : Int) ≤ v ∨ i < 0 ∨ j < i ∨ (W.length : Int) < j
  · have hz : Hid (Z = 0) := hd (by rw [hZ]; exact if_pos hin)
    rw [← hZ]
    clear hZ h hg
    by_cases h1 : v < 0
    · clear hin
      go_enter Try.func45, Try.ntmps45
      go_wp2_with fail
      go_ret
      exact ⟨ret_int hz.out.symm, rfl⟩
    by_cases h2 : (V : Int) ≤ v
    · clear hin
      go_enter Try.func45, Try.ntmps45
      go_wp2_with fail
      go_ret
      exact ⟨ret_int hz.out.symm, rfl⟩
    by_cases h3 : i < 0
    · clear hin
      go_enter Try.func45, Try.ntmps45
      go_wp2_with fail
      go_ret
      exact ⟨ret_int hz.out.symm, rfl⟩
    by_cases h4 : j < i
    · clear hin
      go_enter Try.func45, Try.ntmps45
      go_wp2_with fail
      go_ret
      exact ⟨ret_int hz.out.symm, rfl⟩
    have h5 : (W.length : Int) < j := by omega
    clear hin
    go_enter Try.func45, Try.ntmps45
    go_wp2_with fail
    go_ret
    exact ⟨ret_int hz.out.symm, rfl⟩
  · obtain ⟨v', rfl⟩ : ∃ v' : Nat, v = v' := ⟨v.toNat, by omega⟩
    obtain ⟨i', rfl⟩ : ∃ i' : Nat, i = i' := ⟨i.toNat, by omega⟩
    obtain ⟨j', rfl⟩ : ∃ j' : Nat, j = j' := ⟨j.toNat, by omega⟩
    have hz : ofI V W.length f v' i' j' = f v' i' j' := if_neg hin
    rw [hz]
    exact cof_any cb aW W.length cW V b0 c0 b1 c1 rb f v' i' j' w k0 k4 h.k6 h.tb (by omega) (by omega) (by omega) hg.hW hg.hV
def ruleI (R : List Ru) (W : List Int) (m : Int) (f : Nat → Nat → Nat → Int) (r i j : Int) : Int := if r < 0 ∨ (R.length : Int) ≤ r ∨ i < 0 ∨ j < i ∨ (W.length : Int) < j then 0 else wyN f W m i.toNat j.toNat (R.getD r.toNat ⟨0, []⟩).right
set_option maxRecDepth 100000 in
set_option maxHeartbeats 4000000 in
theorem cruleI_any {cb V : Nat} {R : List Ru} {W : List Int} {m : Int} {f : Nat → Nat → Nat → Int} {vR vW : Value} {b0 c0 : Nat} {b1 c1 : Nat → Nat} {rb : Nat → Nat → Nat} (r i j : Int) (w : World) (h : CtV w cb V R W m f vR vW b0 c0 b1 c1 rb) (hg : CtG V R W m f) :
    Calls Try.prog 48 #[.pointer (some ⟨cb, 0, none⟩), .int .i64 r, .int .i64 i, .int .i64 j] w fun e w' => e = .returned (.int .i64 (ruleI R W m f r i j)) ∧ Below w.heap.size w w' := by
  have k3 := h.k3
  have k4 := h.k4
  obtain ⟨aR, cR, rfl⟩ := h.r.slice
  obtain ⟨aW, cW, rfl⟩ := h.x.slice
  obtain ⟨Z, hZ⟩ : ∃ Z, Z = ruleI R W m f r i j := ⟨_, rfl⟩
  rw [← hZ]
  by_cases hin : r < 0 ∨ (R.length : Int) ≤ r ∨ i < 0 ∨ j < i ∨ (W.length : Int) < j
  · have hz : Hid (Z = 0) := hd (by rw [hZ]; exact if_pos hin)
    clear hZ h hg
    by_cases h1 : r < 0
    · clear hin
      go_enter Try.func48, Try.ntmps48
      go_wp2_with fail
      go_ret
      exact ⟨ret_int hz.out.symm, Below.refl _ _⟩
    by_cases h2 : (R.length : Int) ≤ r
    · clear hin
      go_enter Try.func48, Try.ntmps48
      go_wp2_with fail
      go_ret
      exact ⟨ret_int hz.out.symm, Below.refl _ _⟩
    by_cases h3 : i < 0
    · clear hin
      go_enter Try.func48, Try.ntmps48
      go_wp2_with fail
      go_ret
      exact ⟨ret_int hz.out.symm, Below.refl _ _⟩
    by_cases h4 : j < i
    · clear hin
      go_enter Try.func48, Try.ntmps48
      go_wp2_with fail
      go_ret
      exact ⟨ret_int hz.out.symm, Below.refl _ _⟩
    have h5 : (W.length : Int) < j := by omega
    clear hin
    go_enter Try.func48, Try.ntmps48
    go_wp2_with fail
    go_ret
    exact ⟨ret_int hz.out.symm, Below.refl _ _⟩
  · obtain ⟨r', rfl⟩ : ∃ r' : Nat, r = r' := ⟨r.toNat, by omega⟩
    obtain ⟨i', rfl⟩ : ∃ i' : Nat, i = i' := ⟨i.toNat, by omega⟩
    obtain ⟨j', rfl⟩ : ∃ j' : Nat, j = j' := ⟨j.toNat, by omega⟩
    have hr : r' < R.length := by omega
    have hz : Z = wyN f W m i' j' R[r'].right := by
      rw [hZ]
      refine (if_neg hin).trans ?_
      simp only [Int.toNat_natCast]
      rw [List.getD_eq_getElem?_getD, List.getElem?_eq_getElem hr]; rfl
    obtain ⟨bR, oR, rfl, d0, au, cu, d1, hu⟩ := h.r.at_ hr
    have WY := cways_any cb _ W m V b0 c0 b1 c1 rb f _ R[r'].right i' j' w k4 h.x h.k5 h.k6 h.tb hu (hg.hR _ (List.getElem_mem hr)) hg.hW hg.hV hg.hWr (by omega) (by omega) hg.hm1 hg.hm62 (fun v a b _ _ _ => hg.hf v a b)
    rw [← hz] at WY
    have h1 : ¬ ((R.length : Int) ≤ (r' : Int)) := by omega
    have h2 : ¬ ((j' : Int) < (i' : Int)) := by omega
    have h3 : ¬ ((W.length : Int) < (j' : Int)) := by omega
    clear hin hZ hz h hg hu
    generalize R[r'] = x at *
    go_enter Try.func48, Try.ntmps48
    go_wp2_with fail
    refine WY.mono ?_
    rintro e w1 ⟨rfl, hb1⟩
    go_wp2_with fail
    go_ret
    exact ⟨rfl, hb1⟩
def splitI (R : List Ru) (W : List Int) (m : Int) (f : Nat → Nat → Nat → Int) (r k i x j : Int) : Int :=
  if r < 0 ∨ (R.length : Int) ≤ r ∨ k < 0 ∨ ((R.getD r.toNat ⟨0, []⟩).right.length : Int) ≤ k ∨ i < 0 ∨ x < i ∨ j < x ∨ (W.length : Int) < j then 0 else
    prI (wyN f W m i.toNat x.toNat [(R.getD r.toNat ⟨0, []⟩).right.getD k.toNat 0]) (wyN f W m x.toNat j.toNat ((R.getD r.toNat ⟨0, []⟩).right.drop (k.toNat + 1))) m
end Go.Proofs.Ytlhdppkllmnmkad.G

/- What the document tells of counts: Split. -/
namespace Go.Proofs.Ytlhdppkllmnmkad.G
open Go.RowKit
set_option maxRecDepth 100000 in
set_option maxHeartbeats 4000000 in
theorem csplitI_any {cb V : Nat} {R : List Ru} {W : List Int} {m : Int} {f : Nat → Nat → Nat → Int} {vR vW : Value} {b0 c0 : Nat} {b1 c1 : Nat → Nat} {rb : Nat → Nat → Nat} (r k i x j : Int) (w : World) (h : CtV w cb V R W m f vR vW b0 c0 b1 c1 rb) (hg : CtG V R W m f) :
    Calls Try.prog 50 #[.pointer (some ⟨cb, 0, none⟩), .int .i64 r, .int .i64 k, .int .i64 i, .int .i64 x, .int .i64 j] w fun e w' => e = .returned (.int .i64 (splitI R W m f r k i x j)) ∧ Below w.heap.size w w' := by
  have k3 := h.k3
  have k4 := h.k4
  have k5 := h.k5
  have h0 := h
  obtain ⟨aR, cR, rfl⟩ := h.r.slice
  obtain ⟨aW, cW, rfl⟩ := h.x.slice
  obtain ⟨Z, hZ⟩ : ∃ Z, Z = splitI R W m f r k i x j := ⟨_, rfl⟩
  rw [← hZ]
  by_cases g1 : r < 0
  · have hz : Hid (Z = 0) := hd (by rw [hZ]; exact if_pos (.inl g1))
    clear hZ h hg
    go_enter Try.func50, Try.ntmps50
    go_wp2_with fail
    go_ret
    exact ⟨ret_int hz.out.symm, Below.refl _ _⟩
  by_cases g2 : (R.length : Int) ≤ r
  · have hz : Hid (Z = 0) := hd (by rw [hZ]; exact if_pos (.inr (.inl g2)))
    clear hZ h hg
    go_enter Try.func50, Try.ntmps50
    go_wp2_with fail
    go_ret
    exact ⟨ret_int hz.out.symm, Below.refl _ _⟩
  by_cases g3 : k < 0
  · have hz : Hid (Z = 0) := hd (by rw [hZ]; exact if_pos (.inr (.inr (.inl g3))))
    clear hZ h hg
    go_enter Try.func50, Try.ntmps50
    go_wp2_with fail
    go_ret
    exact ⟨ret_int hz.out.symm, Below.refl _ _⟩
  obtain ⟨r', rfl⟩ : ∃ r' : Nat, r = r' := ⟨r.toNat, by omega⟩
  have hr : r' < R.length := by omega
  obtain ⟨bR, oR, rfl, d0, au, cu, d1, hu⟩ := h.r.at_ hr
  have hgR := hg.hR _ (List.getElem_mem hr)
  have hget : R.getD r' ⟨0, []⟩ = R[r'] := by rw [List.getD_eq_getElem?_getD, List.getElem?_eq_getElem hr]; rfl
  have hZ2 : Z = if k < 0 ∨ (R[r'].right.length : Int) ≤ k ∨ i < 0 ∨ x < i ∨ j < x ∨ (W.length : Int) < j then 0 else prI (wyN f W m i.toNat x.toNat [R[r'].right.getD k.toNat 0]) (wyN f W m x.toNat j.toNat (R[r'].right.drop (k.toNat + 1))) m := by
    rw [hZ]; unfold splitI
    simp only [Int.toNat_natCast, hget]
    by_cases hc : k < 0 ∨ (R[r'].right.length : Int) ≤ k ∨ i < 0 ∨ x < i ∨ j < x ∨ (W.length : Int) < j
    · rw [if_pos hc, if_pos (.inr (.inr hc))]
    · rw [if_neg hc, if_neg (fun h => by rcases h with h | h | h; exact g1 h; exact g2 h; exact hc h)]
  clear hZ hget
  have gr : ¬ ((R.length : Int) ≤ (r' : Int)) := g2
  generalize R[r'] = ru at *
  by_cases g4 : (ru.right.length : Int) ≤ k
  · have hz : Hid (Z = 0) := hd (by rw [hZ2]; exact if_pos (.inr (.inl g4)))
    clear hZ2 h hg h0
    go_enter Try.func50, Try.ntmps50
    go_wp2_with fail
    go_ret
    exact ⟨ret_int hz.out.symm, Below.refl _ _⟩
  by_cases g5 : i < 0
  · have hz : Hid (Z = 0) := hd (by rw [hZ2]; exact if_pos (.inr (.inr (.inl g5))))
    clear hZ2 h hg h0
    go_enter Try.func50, Try.ntmps50
    go_wp2_with fail
    go_ret
    exact ⟨ret_int hz.out.symm, Below.refl _ _⟩
  by_cases g6 : x < i
  · have hz : Hid (Z = 0) := hd (by rw [hZ2]; exact if_pos (.inr (.inr (.inr (.inl g6)))))
    clear hZ2 h hg h0
    go_enter Try.func50, Try.ntmps50
    go_wp2_with fail
    go_ret
    exact ⟨ret_int hz.out.symm, Below.refl _ _⟩
  by_cases g7 : j < x
  · have hz : Hid (Z = 0) := hd (by rw [hZ2]; exact if_pos (.inr (.inr (.inr (.inr (.inl g7))))))
    clear hZ2 h hg h0
    go_enter Try.func50, Try.ntmps50
    go_wp2_with fail
    go_ret
    exact ⟨ret_int hz.out.symm, Below.refl _ _⟩
  by_cases g8 : (W.length : Int) < j
  · have hz : Hid (Z = 0) := hd (by rw [hZ2]; exact if_pos (.inr (.inr (.inr (.inr (.inr g8))))))
    clear hZ2 h hg h0
    go_enter Try.func50, Try.ntmps50
    go_wp2_with fail
    go_ret
    exact ⟨ret_int hz.out.symm, Below.refl _ _⟩
  obtain ⟨k', rfl⟩ : ∃ k' : Nat, k = k' := ⟨k.toNat, by omega⟩
  obtain ⟨i', rfl⟩ : ∃ i' : Nat, i = i' := ⟨i.toNat, by omega⟩
  obtain ⟨x', rfl⟩ : ∃ x' : Nat, x = x' := ⟨x.toNat, by omega⟩
  obtain ⟨j', rfl⟩ : ∃ j' : Nat, j = j' := ⟨j.toNat, by omega⟩
  have hkl : k' < ru.right.length := by omega
  have hZ3 : Z = prI (wyN f W m i' x' [ru.right[k']]) (wyN f W m x' j' (ru.right.drop (k' + 1))) m := by
    rw [hZ2, if_neg (by omega)]
    simp only [Int.toNat_natCast]
    rw [List.getD_eq_getElem?_getD, List.getElem?_eq_getElem hkl]; rfl
  obtain ⟨bu, ou, rfl, _⟩ := hu.at_ hkl
  have hcu : ru.right.length ≤ cu := by
    obtain ⟨_, ao, cap', e, h2, _⟩ := hu
    simp at e; omega
  have hck : ¬ (cu = k') := by omega
  have u1' := fun c hc => IsV_one hu hkl c hc
  have hone : ∀ s ∈ [ru.right[k']], s < (V : Int) ∧ -1000000 ≤ s := fun s hs => by rw [List.mem_singleton] at hs; rw [hs]; exact hgR _ (List.getElem_mem hkl)
  have hres : ∀ s ∈ ru.right.drop (k' + 1), s < (V : Int) ∧ -1000000 ≤ s := fun s hs => hgR _ (List.mem_of_mem_drop hs)
  have W1' := fun c hc w' (hb : Below w.heap.size w w') => cways_any cb _ W m V b0 c0 b1 c1 rb f _ [ru.right[k']] i' x' w' (h0.lw hb).k4 (h0.lw hb).x (h0.lw hb).k5 (h0.lw hb).k6 (h0.lw hb).tb ((u1' c hc).lw hb) hone hg.hW hg.hV hg.hWr (by omega) (by omega) hg.hm1 hg.hm62 (fun v a b _ _ _ => hg.hf v a b)
  have W2 := fun ao c (u2 : IsV w All (.slice ao (ru.right.length - (k' + 1)) c) (ru.right.drop (k' + 1))) w' (hb : Below w.heap.size w w') => cways_any cb _ W m V b0 c0 b1 c1 rb f _ (ru.right.drop (k' + 1)) x' j' w' (h0.lw hb).k4 (h0.lw hb).x (h0.lw hb).k5 (h0.lw hb).k6 (h0.lw hb).tb (u2.lw hb) hres hg.hW hg.hV hg.hWr (by omega) (by omega) hg.hm1 hg.hm62 (fun v a b _ _ _ => hg.hf v a b)
  have r1 := wyN_rng (W := W) (f := f) (i := i') (j := x') (l := [ru.right[k']]) hg.hm1 (fun v a b => (hg.hf v a b).1)
  have r2 := wyN_rng (W := W) (f := f) (i := x') (j := j') (l := ru.right.drop (k' + 1)) hg.hm1 (fun v a b => (hg.hf v a b).1)
  have m1 := hg.hm1
  have m62 := hg.hm62
  by_cases hcz : cu = k' + 1
  · subst hcz
    have W1 := W1' 1 (by omega)
    have W2' := W2 (some ⟨bu, ou, none⟩) 0 (IsV_rest hu (by omega) _ 0 (by omega) (.inr ⟨by omega, _, rfl⟩))
    have hz0 : ru.right.length - (k' + 1) = 0 := by omega
    rw [hz0] at W2'
    have nk1 : ¬ ((ru.right.length : Int) ≤ (k' : Int)) := by omega
    have nk2 : ¬ ((x' : Int) < (i' : Int)) := by omega
    have nk3 : ¬ ((j' : Int) < (x' : Int)) := by omega
    have nk4 : ¬ ((W.length : Int) < (j' : Int)) := by omega
    have hk1 : k' + 1 ≤ ru.right.length := by omega
    have hrl := hu.1
    have hw1 : IntKind.i64.wrap ((k' : Int) + 1) = (k' : Int) + 1 := IntWalk.i64_in _ ⟨by omega, by omega⟩
    have ht1 : ((k' : Int) + 1).toNat = k' + 1 := by omega
    have ht2 : k' + 1 - k' = 1 := by omega
    have ht3 : (0 : Int) ≤ (k' : Int) + 1 := by omega
    have ht4 : k' ≤ k' + 1 := by omega
    have ht5 : (k' : Int) + 1 ≤ (ru.right.length : Int) := by omega
    have hZ4 := hd hZ3
    clear hu hrl
    clear hZ3 hZ2 g1 g2 g3 g4 g5 g6 g7 g8 hgR h0 h u1' W2 hone hres hg W1'
    have NE := Wd.ne w
    have e0 := fun z : Wd w => z.cell k5
    generalize wyN f W m i' x' [ru.right[k']] = a1 at *
    generalize wyN f W m x' j' (ru.right.drop (k' + 1)) = a2 at *
    have PRR : ∀ z : Wd w, Calls Try.prog 103 #[.int .i64 a1, .int .i64 a2, .int .i64 m] z.u fun e w' => e = .returned (.int .i64 (prI a1 a2 m)) ∧ Below z.u.heap.size z.u w' := fun z => (product_any a1 a2 m z.u r1.1 r2.1 m1 m62 r1.2 r2.2).mono fun _ _ h => ⟨h.1, by rw [h.2]; exact Below.refl _ _⟩
    go_enter Try.func50, Try.ntmps50
    go_wp2_with fail
    refine region_quiet_lit (C := fun w' => ∃ z : Wd w, w' = z.u) (by kernel_rfl) (by kernel_rfl) (Wd.drawn _) ?_
    iterate 8 (go_big_quiet_step (fail))
    go_big_quiet_step (exact calls_wd (W1 _ (Wd.h _)))
    iterate 7 (go_big_quiet_step (fail))
    go_big_quiet_step (exact calls_wd (W2' _ (Wd.h _)))
    iterate 4 (go_big_quiet_step (fail))
    go_big_quiet_step (exact calls_wd (PRR _))
    iterate 1 (go_big_quiet_step (fail))
    refine wpQuiet_nil ?_
    intro _ hw'
    obtain ⟨z, hw''⟩ := hw'
    subst hw''
    go_wp2_with fail
    go_ret
    exact ⟨ret_int hZ4.out.symm, z.h⟩
  · have W1 := W1' (cu - k') (by omega)
    have W2' := W2 (some ⟨bu, ou + (k' + 1), none⟩) (cu - (k' + 1)) (IsV_rest hu (by omega) _ (cu - (k' + 1)) (by omega) (.inl rfl))
    have nk1 : ¬ ((ru.right.length : Int) ≤ (k' : Int)) := by omega
    have nk2 : ¬ ((x' : Int) < (i' : Int)) := by omega
    have nk3 : ¬ ((j' : Int) < (x' : Int)) := by omega
    have nk4 : ¬ ((W.length : Int) < (j' : Int)) := by omega
    have hk1 : k' + 1 ≤ ru.right.length := by omega
    have hrl := hu.1
    have hw1 : IntKind.i64.wrap ((k' : Int) + 1) = (k' : Int) + 1 := IntWalk.i64_in _ ⟨by omega, by omega⟩
    have ht1 : ((k' : Int) + 1).toNat = k' + 1 := by omega
    have ht2 : k' + 1 - k' = 1 := by omega
    have ht3 : (0 : Int) ≤ (k' : Int) + 1 := by omega
    have ht4 : k' ≤ k' + 1 := by omega
    have ht5 : (k' : Int) + 1 ≤ (ru.right.length : Int) := by omega
    have ht6 : (k' : Int) + 1 ≤ (cu : Int) := by omega
    have ht7 : (ru.right.length : Int) ≤ (cu : Int) := by omega
    have hZ4 := hd hZ3
    clear hu hrl
    clear hZ3 hZ2 g1 g2 g3 g4 g5 g6 g7 g8 hgR h0 h u1' W2 hone hres hg W1'
    have NE := Wd.ne w
    have e0 := fun z : Wd w => z.cell k5
    generalize wyN f W m i' x' [ru.right[k']] = a1 at *
    generalize wyN f W m x' j' (ru.right.drop (k' + 1)) = a2 at *
    have PRR : ∀ z : Wd w, Calls Try.prog 103 #[.int .i64 a1, .int .i64 a2, .int .i64 m] z.u fun e w' => e = .returned (.int .i64 (prI a1 a2 m)) ∧ Below z.u.heap.size z.u w' := fun z => (product_any a1 a2 m z.u r1.1 r2.1 m1 m62 r1.2 r2.2).mono fun _ _ h => ⟨h.1, by rw [h.2]; exact Below.refl _ _⟩
    go_enter Try.func50, Try.ntmps50
    go_wp2_with fail
    refine region_quiet_lit (C := fun w' => ∃ z : Wd w, w' = z.u) (by kernel_rfl) (by kernel_rfl) (Wd.drawn _) ?_
    iterate 8 (go_big_quiet_step (fail))
    go_big_quiet_step (exact calls_wd (W1 _ (Wd.h _)))
    iterate 7 (go_big_quiet_step (fail))
    go_big_quiet_step (exact calls_wd (W2' _ (Wd.h _)))
    iterate 4 (go_big_quiet_step (fail))
    go_big_quiet_step (exact calls_wd (PRR _))
    iterate 1 (go_big_quiet_step (fail))
    refine wpQuiet_nil ?_
    intro _ hw'
    obtain ⟨z, hw''⟩ := hw'
    subst hw''
    go_wp2_with fail
    go_ret
    exact ⟨ret_int hZ4.out.symm, z.h⟩
end Go.Proofs.Ytlhdppkllmnmkad.G

/- The document's counts stop to grow; what they are then. -/
namespace Go.Proofs.Ytlhdppkllmnmkad.G
open Go.RowKit
theorem sm_lt {F G : Nat → Nat} : ∀ {n : Nat}, (∀ k, k < n → F k ≤ G k) → (∃ k, k < n ∧ F k < G k) → sm n F < sm n G
  | 0, _, ⟨_, h, _⟩ => absurd h (Nat.not_lt_zero _)
  | n + 1, h, ⟨k, hk, hl⟩ => by
    have h1 := sm_le (n := n) fun k hk => h k (by omega)
    have h2 := h n (by omega)
    simp only [sm]
    by_cases e : k = n
    · subst e; omega
    · have := sm_lt (n := n) (fun k hk => h k (by omega)) ⟨k, by omega, hl⟩
      omega
theorem sm_bound {F : Nat → Nat} {b : Nat} : ∀ {n : Nat}, (∀ k, k < n → F k ≤ b) → sm n F ≤ n * b
  | 0, _ => by simp [sm]
  | n + 1, h => by
    have h1 := sm_bound (n := n) fun k hk => h k (by omega)
    have h2 := h n (by omega)
    simp only [sm]; rw [Nat.add_mul, Nat.one_mul]; omega
section
variable {R : List Ru} {W : List Int} {m V : Nat}
def totT (R : List Ru) (W : List Int) (m V t : Nat) : Nat := sm V fun v => sm (W.length + 1) fun i => sm (W.length + 1) fun j => min (nT R W t v i j) m
def StopT (R : List Ru) (W : List Int) (m V t : Nat) : Prop := ∀ v i j, v < V → i ≤ W.length → j ≤ W.length → cap m (nT R W (t + 1) v i j) = cap m (nT R W t v i j)
theorem tot_le (t : Nat) : totT R W m V t ≤ V * ((W.length + 1) * ((W.length + 1) * m)) :=
  sm_bound fun _ _ => sm_bound fun _ _ => sm_bound fun _ _ => Nat.min_le_right _ _
theorem tot_lt {t : Nat} (h : ¬ StopT R W m V t) : totT R W m V t < totT R W m V (t + 1) := by
  unfold StopT at h
  simp only [Classical.not_forall] at h
  obtain ⟨v, i, j, hv, hi, hj, hne⟩ := h
  have mono : ∀ v i j, min (nT R W t v i j) m ≤ min (nT R W (t + 1) v i j) m := fun v i j => by have := nT_le (R := R) (W := W) (h := t) (k := t + 1) (Nat.le_succ t) v i j; omega
  refine sm_lt (fun v _ => sm_le fun i _ => sm_le fun j _ => mono v i j) ⟨v, hv, sm_lt (fun i _ => sm_le fun j _ => mono v i j) ⟨i, by omega, sm_lt (fun j _ => mono v i j) ⟨j, by omega, ?_⟩⟩⟩
  have h1 := mono v i j
  have h2 : min (nT R W (t + 1) v i j) m ≠ min (nT R W t v i j) m := fun e => hne (by unfold cap; rw [e])
  omega
/-- They stop to grow. -/
theorem stops (R : List Ru) (W : List Int) (m V : Nat) : ∃ T, StopT R W m V T := by
  refine Classical.byContradiction fun hno => ?_
  have hno' : ∀ t, ¬ StopT R W m V t := fun t h => hno ⟨t, h⟩
  have hgrow : ∀ t, t ≤ totT R W m V t := fun t => by
    induction t with
    | zero => exact Nat.zero_le _
    | succ t ih => have := tot_lt (hno' t); omega
  have h1 := hgrow (V * ((W.length + 1) * ((W.length + 1) * m)) + 1)
  have h2 := tot_le (R := R) (W := W) (m := m) (V := V) (V * ((W.length + 1) * ((W.length + 1) * m)) + 1)
  omega
theorem stop_cnT (hm : 1 ≤ m) (hR : ∀ r ∈ R, ∀ s ∈ r.right, s < V) {T : Nat} (h : StopT R W m V T) : ∀ v i j, v < V → i ≤ W.length → j ≤ W.length → cnT R W m (T + 1) v i j = cnT R W m T v i j := fun v i j hv hi hj => by
  rw [cnT_cap hm hR (T + 1) v i j hv hi hj, cnT_cap hm hR T v i j hv hi hj, h v i j hv hi hj]
theorem stop_next (hm : 1 ≤ m) (hR : ∀ r ∈ R, ∀ s ∈ r.right, s < V) {T : Nat} (h : StopT R W m V T) : StopT R W m V (T + 1) := fun v i j hv hi hj => by
  have h1 := cnF_cap (f := cnT R W m (T + 1)) (N := nT R W T) hm hR (fun v a b hv ha hb => by rw [cnT_cap hm hR (T + 1) v a b hv ha hb, h v a b hv ha hb]) R.length v i j (Nat.le_refl _) hi hj
  rw [List.take_length] at h1
  have h2 : cnT R W m (T + 1 + 1) v i j = cap m (nT R W (T + 1) v i j) := h1
  rw [← h2, cnT_cap hm hR (T + 1 + 1) v i j hv hi hj]
/-- Once they have stopped, they stay. -/
theorem stop_stays (hm : 1 ≤ m) (hR : ∀ r ∈ R, ∀ s ∈ r.right, s < V) {T : Nat} (h : StopT R W m V T) : ∀ k, ∀ v i j, v < V → i ≤ W.length → j ≤ W.length → cap m (nT R W (T + k) v i j) = cap m (nT R W T v i j)
  | 0, _, _, _, _, _, _ => rfl
  | k + 1, v, i, j, hv, hi, hj => by
    have hk : ∀ k, StopT R W m V (T + k) := fun k => by
      induction k with
      | zero => exact h
      | succ k ih => exact stop_next hm hR ih
    exact (hk k v i j hv hi hj).trans (stop_stays hm hR h k v i j hv hi hj)
/-- What the document counts, where no tree is higher than so: the trees, as far as so many. -/
theorem counts_are (hm : 1 ≤ m) (hR : ∀ r ∈ R, ∀ s ∈ r.right, s < V) {H : Nat} (hH : ∀ v i j, v < V → i ≤ W.length → j ≤ W.length → ∀ h t, IsT R W h (v : Int) i j t → t.hg ≤ H) {t : Nat}
    (ht : ∀ v i j, v < V → i ≤ W.length → j ≤ W.length → cnT R W m (t + 1) v i j = cnT R W m t v i j) (v i j : Nat) (hv : v < V) (hi : i ≤ W.length) (hj : j ≤ W.length) : cnT R W m (t + 1) v i j = cap m (LT R W H (v : Int) i j).length := by
  have hs : StopT R W m V t := fun v i j hv hi hj => by rw [← cnT_cap hm hR (t + 1) v i j hv hi hj, ← cnT_cap hm hR t v i j hv hi hj, ht v i j hv hi hj]
  rw [ht v i j hv hi hj, cnT_cap hm hR t v i j hv hi hj, ← stop_stays hm hR hs H v i j hv hi hj, ← LT_len, LT_stop hj (hH v i j hv hi hj) (Nat.le_add_left H t)]
end
end Go.Proofs.Ytlhdppkllmnmkad.G

/- The document's counts and the program's are one. -/
namespace Go.Proofs.Ytlhdppkllmnmkad.G
open Go.RowKit
section
variable {g : Gm} {W : List Int} {V t : Nat}
theorem ct_stop (hG : CkG g W V) : ∃ T, ∀ v i j, v < V → i ≤ W.length → j ≤ W.length → cnT g.rules W 4611686018427387904 (T + 1) v i j = cnT g.rules W 4611686018427387904 T v i j := by
  obtain ⟨T, hT⟩ := stops g.rules W 4611686018427387904 V
  exact ⟨T, stop_cnT (m := 4611686018427387904) (by omega) hG.hR hT⟩
theorem ct_f (hG : CkG g W V) (ht : ∀ v i j, v < V → i ≤ W.length → j ≤ W.length → cnT g.rules W 4611686018427387904 (t + 1) v i j = cnT g.rules W 4611686018427387904 t v i j) {v i j : Nat} (hv : v < V) (hi : i ≤ W.length) (hj : j ≤ W.length) :
    cnT g.rules W 4611686018427387904 (t + 1) v i j = cap 4611686018427387904 (nN g.rules W V v i j) := by
  have h : cnT g.rules W 4611686018427387904 (t + 1) v i j = cap 4611686018427387904 (LT g.rules W (lvls W V) (v : Int) i j).length := counts_are (R := g.rules) (W := W) (V := V) (m := 4611686018427387904) (by omega) hG.hR (H := lvls W V) (fun v i j _ _ _ h t ht => high_is hG.ac hG.hR ht) ht v i j hv hi hj
  rw [h, nN_len]; rfl
theorem ct_g (hG : CkG g W V) : CtG V g.rules W 4611686018427387904 (cnT g.rules W 4611686018427387904 (t + 1)) :=
  ⟨by have := hG.rg.vr.1; omega, fun r hr s hs => ⟨hG.hR r hr s hs, by have := hG.lo r hr s hs; omega⟩, by have := hG.wl; omega, fun x hx => by have := hG.wr x hx; omega, by omega, by omega, fun v a b => cnT_rng (m := 4611686018427387904) (by omega) (t + 1) v a b⟩
theorem of_eq (hG : CkG g W V) (ht : ∀ v i j, v < V → i ≤ W.length → j ≤ W.length → cnT g.rules W 4611686018427387904 (t + 1) v i j = cnT g.rules W 4611686018427387904 t v i j) (v i j : Int) :
    ofI V W.length (cnT g.rules W 4611686018427387904 (t + 1)) v i j = ofZ g W V v i j := by
  unfold ofI ofZ
  by_cases h : v < 0 ∨ (V : Int) ≤ v ∨ i < 0 ∨ j < i ∨ (W.length : Int) < j
  · rw [if_pos h, if_pos h]
  · rw [if_neg h, if_neg h, ct_f hG ht (by omega) (by omega) (by omega), cM_eq]
theorem wy_eq (hG : CkG g W V) (ht : ∀ v i j, v < V → i ≤ W.length → j ≤ W.length → cnT g.rules W 4611686018427387904 (t + 1) v i j = cnT g.rules W 4611686018427387904 t v i j) {i j : Nat} (hij : i ≤ j) (hj : j ≤ W.length) {l : List Int} (hl : ∀ s ∈ l, s < V) :
    wyN (cnT g.rules W 4611686018427387904 (t + 1)) W 4611686018427387904 i j l = cM (chN (nN g.rules W V) W l i j) := by
  have := wyN_cap (m := 4611686018427387904) (f := cnT g.rules W 4611686018427387904 (t + 1)) (N := nN g.rules W V) (W := W) (V := V) (by omega) (fun v a b hv ha hb => ct_f hG ht hv ha hb) hij hj hl
  rw [cM_eq]; exact this
theorem ru_eq (hG : CkG g W V) (ht : ∀ v i j, v < V → i ≤ W.length → j ≤ W.length → cnT g.rules W 4611686018427387904 (t + 1) v i j = cnT g.rules W 4611686018427387904 t v i j) (r i j : Int) :
    ruleI g.rules W 4611686018427387904 (cnT g.rules W 4611686018427387904 (t + 1)) r i j = ruZ g W V r i j := by
  unfold ruleI ruZ
  by_cases h : r < 0 ∨ (g.rules.length : Int) ≤ r ∨ i < 0 ∨ j < i ∨ (W.length : Int) < j
  · rw [if_pos h, if_pos h]
  · rw [if_neg h, if_neg h]
    exact wy_eq hG ht (by omega) (by omega) (fun s hs => (hG.sym (r := r.toNat) (by omega) s hs).1)
theorem ch_one {f : Nat → Nat → Nat → Nat} {s : Int} {i x : Nat} (hix : i ≤ x) (hx : x ≤ W.length) : chN f W [s] i x = vlN f W s i x := by
  simp only [chN]
  rw [sm_one (p := x) (by omega) (fun k _ hk => by
    split
    · exact Nat.mul_zero _
    · rfl), if_pos ⟨hix, Nat.le_refl _⟩, if_pos rfl, Nat.mul_one]
theorem sp_eq (hG : CkG g W V) (ht : ∀ v i j, v < V → i ≤ W.length → j ≤ W.length → cnT g.rules W 4611686018427387904 (t + 1) v i j = cnT g.rules W 4611686018427387904 t v i j) (r k i m j : Int) :
    splitI g.rules W 4611686018427387904 (cnT g.rules W 4611686018427387904 (t + 1)) r k i m j = splZ g W V r k i m j := by
  have e : (g.rules.getD r.toNat ⟨0, []⟩).right = rgtR g r.toNat := rfl
  unfold splitI splZ
  rw [e]
  by_cases h : r < 0 ∨ (g.rules.length : Int) ≤ r ∨ k < 0 ∨ ((rgtR g r.toNat).length : Int) ≤ k ∨ i < 0 ∨ m < i ∨ j < m ∨ (W.length : Int) < j
  · rw [if_pos h, if_pos (by omega)]
  · have hk : k.toNat < (rgtR g r.toNat).length := by omega
    have hsy := hG.sym (r := r.toNat) (by omega)
    have hgd : (rgtR g r.toNat).getD k.toNat 0 = (rgtR g r.toNat)[k.toNat] := by rw [List.getD_eq_getElem?_getD, List.getElem?_eq_getElem hk]; rfl
    rw [if_neg h, if_neg (by omega), wy_eq hG ht (by omega) (by omega) (fun s hs => by rw [List.mem_singleton] at hs; rw [hs, hgd]; exact (hsy _ (List.getElem_mem hk)).1), wy_eq hG ht (by omega) (by omega) (fun s hs => (hsy s (List.mem_of_mem_drop hs)).1), cM_mul, ch_one (by omega) (by omega)]
    rfl
end
end Go.Proofs.Ytlhdppkllmnmkad.G

/- Words that are too much: the document's Heavy. -/
namespace Go.Proofs.Ytlhdppkllmnmkad.G
open Go.RowKit
def HvR (g : Gm) (W : List Int) (w : World) (e : Ending) (w' : World) : Prop := ∃ q : Bool, e = .returned (.bool q) ∧ (q = false → Small g.rules ∧ W.length ≤ 300 ∧ ¬ (7 < W.length ∧ W.length ≤ 12 ∧ 40 < g.rules.length) ∧ ¬ (5 < W.length ∧ W.length ≤ 12 ∧ 100 < g.rules.length)) ∧ Below w.heap.size w w'
theorem hvr_yes {g : Gm} {W : List Int} {w w' : World} {e : Ending} (h : e = .returned (.bool true)) (hb : Below w.heap.size w w') : HvR g W w e w' := ⟨true, h, (fun h => by cases h), hb⟩
theorem hvr_no {g : Gm} {W : List Int} {w w' : World} {e : Ending} (h : e = .returned (.bool false)) (hs : Small g.rules) (h3 : W.length ≤ 300) (h4 : ¬ (7 < W.length ∧ W.length ≤ 12 ∧ 40 < g.rules.length)) (h5 : ¬ (5 < W.length ∧ W.length ≤ 12 ∧ 100 < g.rules.length)) (hb : Below w.heap.size w w') : HvR g W w e w' := ⟨false, h, fun _ => ⟨hs, h3, h4, h5⟩, hb⟩
set_option maxRecDepth 100000 in
set_option maxHeartbeats 4000000 in
theorem heavy_any (g : Gm) (W : List Int) (va vw : Value) (w : World) (hg : GV w All va g) (hw : IsV w All vw W) :
    Calls Try.prog 39 #[va, vw] w (HvR g W w) := by
  have GG := fun w' (hb : Below w.heap.size w w') => great_any g va w' (hg.lw hb)
  obtain ⟨ua, rfl, ra⟩ := hg
  obtain ⟨ao, cap, rfl⟩ := ra.slice
  obtain ⟨aw, cw, rfl⟩ := hw.slice
  obtain ⟨Z, hZ⟩ : ∃ Z, Z = w.alloc (.cells #[.int .i64 g.vars, .int .i64 g.terms, .int .i64 g.start, .slice ao g.rules.length cap] 24) := ⟨_, rfl⟩
  have hZb : Below w.heap.size w Z := by rw [hZ]; exact al1 _ _
  have x3 : Z.cell? ⟨w.heap.size, 3, none⟩ = some (.slice ao g.rules.length cap) := by rw [hZ]; simp
  have GZ := GG Z hZb
  clear GG
  go_enter Try.func39, Try.ntmps39
  go_wp2_with fail
  rw [← hZ]
  have HZ := hd hZ
  clear hZ
  refine GZ.mono ?_
  rintro e w1 ⟨q, rfl, hq, hb1⟩
  have b1 := bthen hZb hb1
  have y3 := bkeep hb1 x3
  cases q with
  | true =>
    go_wp2_with fail
    go_ret
    exact hvr_yes rfl b1
  | false =>
  have hsm := hq rfl
  have HQ := hd hsm
  clear hsm hq
  by_cases h3 : (300 : Int) < (W.length : Int)
  · go_wp2_with fail
    go_ret
    exact hvr_yes rfl b1
  by_cases h12 : (W.length : Int) ≤ 12
  rotate_left
  · have H3 := hd h3
    have H12 := hd h12
    go_wp2_with fail
    go_ret
    have h3 := H3.out
    exact hvr_no (by first | rfl | exact ret_bool (by simp only [decide_eq_false_iff_not]; omega)) HQ.out (by omega) (fun h => by have := H12.out; omega) (fun h => by have := H12.out; omega) b1
  by_cases h5 : (5 : Int) < (W.length : Int)
  rotate_left
  · have h7 : ¬ ((7 : Int) < (W.length : Int)) := by omega
    have H3 := hd h3
    have H5 := hd h5
    go_wp2_with fail
    go_ret
    have h3 := H3.out
    exact hvr_no (by first | rfl | exact ret_bool (by simp only [decide_eq_false_iff_not]; omega)) HQ.out (by omega) (fun h => by have := H5.out; omega) (fun h => by have := H5.out; omega) b1
  by_cases h100 : (100 : Int) < (g.rules.length : Int)
  · by_cases h7 : (7 : Int) < (W.length : Int)
    · have h40 : (40 : Int) < (g.rules.length : Int) := by omega
      go_wp2_with fail
      go_ret
      exact hvr_yes rfl b1
    · go_wp2_with fail
      go_ret
      exact hvr_yes rfl b1
  by_cases h7 : (7 : Int) < (W.length : Int)
  · by_cases h40 : (40 : Int) < (g.rules.length : Int)
    · go_wp2_with fail
      go_ret
      exact hvr_yes rfl b1
    · have H3 := hd h3
      have H4 := hd h40
      have H1 := hd h100
      go_wp2_with fail
      go_ret
      have h3 := H3.out
      exact hvr_no (by first | rfl | exact ret_bool (by simp only [Bool.or_eq_false_iff, decide_eq_false_iff_not]; omega)) HQ.out (by omega) (fun h => by have := H4.out; omega) (fun h => by have := H1.out; omega) b1
  · have H3 := hd h3
    have H7 := hd h7
    have H1 := hd h100
    go_wp2_with fail
    go_ret
    have h3 := H3.out
    exact hvr_no (by first | rfl | exact ret_bool (by simp only [Bool.or_eq_false_iff, decide_eq_false_iff_not]; omega)) HQ.out (by omega) (fun h => by have := H7.out; omega) (fun h => by have := H1.out; omega) b1
end Go.Proofs.Ytlhdppkllmnmkad.G

/- What is so of nonterminals, the document's way: which have the empty word, which have a tree. -/
namespace Go.Proofs.Ytlhdppkllmnmkad.G
open Go.RowKit
theorem Try.infoBool : (Try.prog.info? 4).map (fun i => (i.zero, i.size, i.bytes)) = some (some (.bool false), 1, 1) := by kernel_rfl
def bools (l : List Bool) : List Value := l.map .bool
theorem bools_at {l : List Bool} {k : Nat} (h : k < l.length) : (bools l)[k]? = some (.bool (l.getD k false)) := by simp [bools, List.getD_eq_getElem?_getD, h]
theorem bools_set (l : List Bool) (k : Nat) (x : Bool) : (bools l).set k (.bool x) = bools (l.set k x) := by simp [bools, List.map_set]
theorem made_bools (n : Nat) : (madeCells #[Value.bool false] n).toList = bools (List.replicate n false) := by
  unfold madeCells bools
  apply List.ext_getElem
  · simp
  · intro k h1 h2
    simp [Nat.mod_one]
/-- A row of yes and no, in memory. -/
def BsV (w : World) (gb : Nat) (is : List Bool) : Prop := ∀ j, j < is.length → w.cell? ⟨gb, j, none⟩ = some (.bool (is.getD j false))
theorem BsV.lw {w w' : World} {gb : Nat} {is : List Bool} (h : BsV w gb is) (hb : Below w.heap.size w w') : BsV w' gb is := fun j hj => bkeep hb (h j hj)
theorem BsV_owned {w : World} {base gb V : Nat} {e : TypeId} {is : List Bool} (h : w.ownsRow base e 1 (.slice (some ⟨gb, 0, none⟩) V V) V (bools is)) (hl : is.length = V) : BsV w gb is := fun j hj => by
  rw [World.ownsRow.cellAt h j (by omega), bools_at hj]
set_option maxRecDepth 100000 in
set_option maxHeartbeats 4000000 in
theorem allIn_any (l : List Int) (is : List Bool) (va : Value) (gb : Nat) (w : World) (ha : IsV w All va l) (hb : BsV w gb is) (hl : ∀ s ∈ l, s < is.length) :
    Calls Try.prog 145 #[va, .slice (some ⟨gb, 0, none⟩) is.length is.length] w fun e w' => e = .returned (.bool (l.all (isAt is))) ∧ w' = w := by
  obtain ⟨ao, cap, rfl⟩ := ha.slice
  have hlen := ha.1
  go_enter Try.func145, Try.ntmps145
  go_wp2_with fail
  go_loopw [5] (fun i wr => ∃ k : Nat, k ≤ l.length ∧ i = .int .i64 k ∧ Hid (∀ j (h : j < l.length), j < k → isAt is l[j] = true) ∧ wr = w) (fun i _ => l.length - (intOf i).toNat)
  case atStart => exact ⟨0, Nat.zero_le _, rfl, hd (fun j _ hj => absurd hj (Nat.not_lt_zero _)), rfl⟩
  case round =>
    obtain ⟨k, hk, rfl, hall, rfl⟩ := hrel
    by_cases hlt : k < l.length
    · obtain ⟨b, o, rfl, c0⟩ := ha.at_ hlt
      have hx1 := hl l[k] (List.getElem_mem hlt)
      have HY : Hid (isAt is l[k] = true → ∀ j (h : j < l.length), j < k + 1 → isAt is l[j] = true) := hd (fun e j h hj => by
        by_cases ej : j = k
        · subst ej; exact e
        · exact hall.out j h (by omega))
      have HN : Hid (isAt is l[k] = false → l.all (isAt is) = false) := hd (fun e => by
        rw [List.all_eq_false]
        exact ⟨_, List.getElem_mem hlt, by simpa using e⟩)
      clear hall
      generalize l[k] = x at *
      by_cases hx : x < 0
      · have HR := hd (HN.out (by unfold isAt; rw [decide_eq_false (by omega)]; rfl))
        clear HY HN
        go_wp2_with fail
        go_ret
        exact ⟨ret_bool HR.out.symm, rfl⟩
      · obtain ⟨m, rfl⟩ : ∃ m : Nat, x = m := ⟨x.toNat, by omega⟩
        have cm := hb m (by omega)
        have HI : Hid (isAt is (m : Int) = is.getD m false) := hd (by unfold isAt; simp)
        have hm2 : (m : Int) < (is.length : Int) := hx1
        generalize is.getD m false = q at *
        cases q with
        | true =>
          have HY' := hd (HY.out HI.out)
          clear HY HN
          go_wp2_with fail
          go_roundw
          case rel => exact ⟨k + 1, by omega, by go_num, HY', trivial⟩
          case measure => simp [intOf]; omega
        | false =>
          have HR := hd (HN.out HI.out)
          clear HY HN
          go_wp2_with fail
          go_ret
          exact ⟨ret_bool HR.out.symm, rfl⟩
    · have hR : Hid (l.all (isAt is) = true) := hd (by
        rw [List.all_eq_true]
        intro x hx
        obtain ⟨j, hj, rfl⟩ := List.mem_iff_getElem.1 hx
        exact hall.out j hj (by omega))
      clear hall
      go_wp2_with fail
      go_ret
      exact ⟨ret_bool hR.out.symm, rfl⟩
theorem genR_snoc (t : Bool) (R : List Ru) (is : List Bool) {k : Nat} (h : k < R.length) : genR t (R.take (k + 1)) is = if R[k].right.all (fitL t (genR t (R.take k) is)) then (genR t (R.take k) is).set R[k].left.toNat true else genR t (R.take k) is := by
  unfold genR
  rw [take_snoc R h, List.foldl_append]
  rfl
theorem Rgt.lin {g : Gm} {V : Nat} (h : Rgt g V) : Lin V g.rules := fun r hr => (h.vr.2 r hr).1
set_option maxRecDepth 100000 in
set_option maxHeartbeats 8000000 in
theorem nullOf_any (g : Gm) (V : Nat) (hR : Rgt g V) (va : Value) (w : World) (ha : GV w All va g) :
    Calls Try.prog 127 #[va] w fun e w' => ∃ gb, e = .returned (.slice (some ⟨gb, 0, none⟩) V V) ∧ w'.ownsRow w.heap.size 4 1 (.slice (some ⟨gb, 0, none⟩) V V) V (bools (genN false g.rules V V)) ∧ Below w.heap.size w w' := by
  obtain ⟨i0, hi, iz0, iz1, iz2⟩ := info_parts Try.infoBool
  obtain ⟨u, rfl, hr⟩ := ha
  obtain ⟨ao, cap, rfl⟩ := hr.slice
  have hl := hr.1
  have hgv := hR.gv
  have hV1 := hR.v1
  have hV64 := hR.vr.1
  have hfew := hR.few
  rw [hgv]
  obtain ⟨W, hW⟩ : ∃ W, W = w.alloc (.cells #[.int .i64 V, .int .i64 g.terms, .int .i64 g.start, .slice ao g.rules.length cap] 24) := ⟨_, rfl⟩
  have hWb : Below w.heap.size w W := by rw [hW]; exact al1 _ _
  have hWz : W.heap.size = w.heap.size + 1 := by rw [hW]; simp
  have hW0 : W.cell? ⟨w.heap.size, 0, none⟩ = some (.int .i64 V) := by rw [hW]; simp
  have hW3 : W.cell? ⟨w.heap.size, 3, none⟩ = some (.slice ao g.rules.length cap) := by rw [hW]; simp
  have HGV := hd hgv
  clear hgv
  go_enter Try.func127, Try.ntmps127
  go_wp2_with (first | (refine wpList_make_full _ rfl _ _ 146 rfl (w.heap.size + 1) 4 i0 (.bool false) 1 Try.underlying146 hi iz0 iz1 .i64 .i64 _ _ V rfl rfl rfl rfl (by rw [iz2]; omega) (by unfold maxLen; omega) (by simp) ?_))
  intro w1 own1 grow1
  rw [← hW] at grow1
  have k1 := grown_below grow1
  rw [made_bools] at own1
  have hgw : (w.alloc (.cells #[.int .i64 V, .int .i64 g.terms, .int .i64 g.start, .slice ao g.rules.length cap] 24)).heap.size = w.heap.size + 1 := by simp
  obtain ⟨gb, hgb⟩ : ∃ gb, gb = w.heap.size + 1 := ⟨_, rfl⟩
  rw [← hgb] at own1 ⊢
  have HG := hd hgb
  have hgW : W.heap.size ≤ gb := by omega
  clear hgb hW grow1 hgw
  have s0 := bkeep k1 hW0
  have hlt64 : (V : Int) ≤ 64 := by omega
  go_wp2_with fail
  go_loopw [4] (fun i wr => ∃ n : Nat, n ≤ V ∧ i = .int .i64 n ∧ wr.ownsRow gb 4 1 (.slice (some ⟨gb, 0, none⟩) V V) V (bools (genN false g.rules V n)) ∧ Below W.heap.size W wr) (fun i _ => V - (intOf i).toNat)
  case atStart => exact ⟨0, Nat.zero_le _, rfl, own1, k1⟩
  case round =>
    obtain ⟨n, hn, rfl, own, bel⟩ := hrel
    have t0 := bkeep bel hW0
    by_cases hlt : n < V
    · have hlt2 : (n : Int) < (V : Int) := by omega
      go_wp2_with fail
      go_loopw [5] (fun i wx => ∃ (k : Nat) (is : List Bool), k ≤ g.rules.length ∧ i = .int .i64 k ∧ Hid (is = genR false (g.rules.take k) (genN false g.rules V n)) ∧ is.length = V ∧ wx.ownsRow gb 4 1 (.slice (some ⟨gb, 0, none⟩) V V) V (bools is) ∧ Below W.heap.size W wx) (fun i _ => g.rules.length - (intOf i).toNat)
      case atStart => exact ⟨0, _, Nat.zero_le _, rfl, hd (by simp [genR]), genN_len _ _ _ _, own, bel⟩
      case round =>
        clear own bel t0
        obtain ⟨k, is, hk, rfl, his, hil, own, bel⟩ := hrel
        have t3 := bkeep bel hW3
        by_cases hlk : k < g.rules.length
        · have belw := bthen hWb bel
          have hRk := hR.vr.2 _ (List.getElem_mem hlk)
          obtain ⟨b, o, rfl, c0, ar, cr, c1, hc⟩ := (hr.lw belw).at_ hlk
          have HY : Hid (g.rules[k].right.all (fitL false is) = true → is.set g.rules[k].left.toNat true = genR false (g.rules.take (k + 1)) (genN false g.rules V n)) := hd (fun e => by rw [genR_snoc _ _ _ hlk, ← his.out, if_pos e])
          have HN : Hid (g.rules[k].right.all (fitL false is) = false → is = genR false (g.rules.take (k + 1)) (genN false g.rules V n)) := hd (fun e => by rw [genR_snoc _ _ _ hlk, ← his.out, if_neg (by rw [e]; simp)])
          clear his
          have AA := allIn_any g.rules[k].right is _ gb wr hc (BsV_owned own hil) (fun s hs => by rw [hil]; exact hRk.2 s hs)
          rw [all_fit] at AA
          rw [hil] at AA
          clear hc
          generalize g.rules[k] = x at *
          obtain ⟨m, hm⟩ : ∃ m : Nat, x.left = m := ⟨x.left.toNat, by omega⟩
          rw [hm] at c0
          have hmV : m < V := by omega
          have hmV2 : (m : Int) < (V : Int) := by omega
          have hm' : x.left.toNat = m := by omega
          rw [hm'] at HY
          clear hm hm' hRk
          generalize x.right.all (fitL false is) = q at *
          cases q with
          | true =>
            have HY' := hd (HY.out rfl)
            clear HY HN
            go_wp2_with fail
            refine AA.mono ?_
            rintro e wx ⟨rfl, hwx⟩
            obtain rfl := hwx.symm
            have fz := World.ownsRow.frozenAt own
            have cg : World.cell? wr ⟨gb, m, none⟩ = some (.bool (is.getD m false)) := BsV_owned own hil m (by omega)
            have q9 := World.ownsRow.stored own m (.bool true)
            have be9 := bel.setCell (p := ⟨gb, m, none⟩) hgW (.bool true)
            go_wp2_with fail
            go_roundw
            case rel => exact ⟨k + 1, is.set m true, by omega, by go_num, HY', by simpa using hil, by rw [← bools_set]; exact q9.1, be9⟩
            case measure => simp [intOf]; omega
          | false =>
            have HN' := hd (HN.out rfl)
            clear HY HN
            go_wp2_with fail
            refine AA.mono ?_
            rintro e wx ⟨rfl, hwx⟩
            obtain rfl := hwx.symm
            go_wp2_with fail
            go_roundw
            case rel => exact ⟨k + 1, is, by omega, by go_num, HN', hil, own, bel⟩
            case measure => simp [intOf]; omega
        · have he : is = genN false g.rules V (n + 1) := by rw [his.out, List.take_of_length_le (by omega)]; rfl
          subst he
          clear his
          go_wp2_with fail
          go_roundw
          case rel => exact ⟨n + 1, by omega, by go_num, own, bel⟩
          case measure => simp [intOf]; omega
    · obtain rfl : n = V := by omega
      go_wp2_with fail
      go_ret
      exact ⟨gb, rfl, owns_mono own (by omega), bthen hWb bel⟩
end Go.Proofs.Ytlhdppkllmnmkad.G
