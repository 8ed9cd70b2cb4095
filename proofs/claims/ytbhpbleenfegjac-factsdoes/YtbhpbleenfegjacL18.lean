/- Cyclic and Corners, the document's way. -/
import Derived.Test.YtbhpbleenfegjacL16
import Derived.Test.YtbhpbleenfegjacL17
namespace Go.Proofs.Ytbhpbleenfegjac.G
open Go.RowKit
/-- Is it so? -/
noncomputable def pB (p : Prop) : Bool := @decide p (Classical.propDecidable p)
theorem pB_iff {p : Prop} : pB p = true ↔ p := by unfold pB; exact @decide_eq_true_iff p (Classical.propDecidable p)
theorem pB_of {p : Prop} {b : Bool} (h : b = true ↔ p) : b = pB p := by rw [Bool.eq_iff_iff, pB_iff]; exact h
theorem isAt_nat (is : List Bool) (k : Nat) : isAt is (k : Int) = is.getD k false := by unfold isAt; simp
theorem nul_right {g : Gm} {V : Nat} (hR : Rgt g V) (v : Int) : isAt (genN false g.rules V V) v = true ↔ Gen false g.rules v := genN_right hR.lin v
set_option maxRecDepth 100000 in
set_option maxHeartbeats 8000000 in
theorem cyclicOf_any (g : Gm) (V : Nat) (hR : Rgt g V) (va : Value) (w : World) (ha : GV w All va g) :
    Calls Try.prog 45 #[va] w fun e w' => ∃ v l, e = .returned v ∧ w'.ownsRow w.heap.size 3 1 v l.length (ints l) ∧ l = (upto V fun k => pB (Led false (Gen false g.rules) g.rules k k)) ∧ Below w.heap.size w w' := by
  obtain ⟨j0, hj, jz0, jz1, jz2⟩ := info_parts Try.infoInt
  obtain ⟨u, rfl, hr⟩ := id ha
  obtain ⟨ao, cap, rfl⟩ := hr.slice
  have hgv := hR.gv
  have hV1 := hR.v1
  have hV64 := hR.vr.1
  have NA := fun w' (hb' : Below w.heap.size w w') => nullOf_any g V hR _ w' (ha.lw hb')
  have LA := fun nb x w' (hb' : Below w.heap.size w w') (hn : BsV w' nb (genN false g.rules V V)) => ledTo_any g V hR (genN false g.rules V V) (genN_len _ _ _ _) (nul_right hR) nb x false _ w' (ha.lw hb') hn
  have hnl := genN_len false g.rules V V
  rw [hgv] at NA LA ⊢
  generalize genN false g.rules V V = nl at *
  obtain ⟨W, hW⟩ : ∃ W, W = w.alloc (.cells #[.int .i64 V, .int .i64 g.terms, .int .i64 g.start, .slice ao g.rules.length cap] 24) := ⟨_, rfl⟩
  have hWb : Below w.heap.size w W := by rw [hW]; exact al1 _ _
  have hWz : W.heap.size = w.heap.size + 1 := by rw [hW]; simp
  have hW0 : W.cell? ⟨w.heap.size, 0, none⟩ = some (.int .i64 V) := by rw [hW]; simp
  have hW1 : W.cell? ⟨w.heap.size, 1, none⟩ = some (.int .i64 g.terms) := by rw [hW]; simp
  have hW2 : W.cell? ⟨w.heap.size, 2, none⟩ = some (.int .i64 g.start) := by rw [hW]; simp
  have hW3 : W.cell? ⟨w.heap.size, 3, none⟩ = some (.slice ao g.rules.length cap) := by rw [hW]; simp
  have HGV := hd hgv
  clear hgv
  go_enter Try.func45, Try.ntmps45
  go_wp2_with fail
  rw [← hW]
  clear hW
  refine (NA W hWb).mono ?_
  rintro e w1 ⟨nb, rfl, ownn, k1⟩
  have hn1 := BsV_owned ownn hnl
  have s0 := bkeep k1 hW0
  have s1 := bkeep k1 hW1
  have s2 := bkeep k1 hW2
  have s3 := bkeep k1 hW3
  have b1 := bthen hWb k1
  have z1 := b1.size
  clear ownn hW0 hW1 hW2 hW3 NA
  go_wp2_with fail
  go_loopw [4, 5] (fun o i wr => ∃ (k : Nat) (acc : List Int), k ≤ V ∧ i = .int .i64 k ∧ Hid (acc = upto k fun j => pB (Led false (Gen false g.rules) g.rules j j)) ∧ acc.length ≤ k ∧ wr.ownsRow w1.heap.size 3 1 o acc.length (ints acc) ∧ Below w1.heap.size w1 wr) (fun _ i _ => V - (intOf i).toNat)
  case atStart => exact ⟨0, [], Nat.zero_le _, rfl, hd rfl, Nat.le_refl _, World.ownsRow_nil _ _ _ _, Below.refl _ _⟩
  case round =>
    obtain ⟨k, acc, hk, rfl, hacc, hal, own, bel⟩ := hrel
    obtain ⟨aov, capv, rfl⟩ := owns_slice own
    have t0 := bkeep bel s0
    by_cases hlt : k < V
    · have hlt2 : (k : Int) < (V : Int) := by omega
      have t1 := bkeep bel s1
      have t2 := bkeep bel s2
      have t3 := bkeep bel s3
      have LK := LA nb k wr (bthen b1 bel) (hn1.lw bel)
      go_wp2_with fail
      refine LK.mono ?_
      rintro e wx ⟨gb, is, rfl, ownb, hil, hled, kx⟩
      have cb : wx.cell? ⟨gb, k, none⟩ = some (.bool (is.getD k false)) := BsV_owned ownb hil k (by omega)
      have HB : Hid (is.getD k false = pB (Led false (Gen false g.rules) g.rules k k)) := hd (pB_of (by rw [← isAt_nat]; exact hled k))
      have own := owns_below own kx
      have bel := bthen bel kx
      have hz := bel.size
      clear hled ownb
      have HY : Hid (is.getD k false = true → acc ++ [(k : Int)] = upto (k + 1) fun j => pB (Led false (Gen false g.rules) g.rules j j)) := hd (fun e => by rw [hacc.out, upto_yes (f := fun j : Nat => pB (Led false (Gen false g.rules) g.rules j j)) (by rw [← HB.out]; exact e)])
      have HN : Hid (is.getD k false = false → acc = upto (k + 1) fun j => pB (Led false (Gen false g.rules) g.rules j j)) := hd (fun e => by rw [hacc.out, upto_no (f := fun j : Nat => pB (Led false (Gen false g.rules) g.rules j j)) (by rw [← HB.out]; exact e)])
      clear hacc HB
      generalize is.getD k false = q at *
      cases q with
      | true =>
        have HY' := hd (HY.out rfl)
        clear HY HN
        go_wp2_with (first | (at_builtin; go_must (refine wpList_append_own _ rfl _ _ 33 rfl w1.heap.size 3 j0 (.int .i64 0) 1 8 Try.underlying33 hj jz0 jz1 jz2 rfl (by decide) _ _ _ rfl (own.alloc _) ⟨wx.heap.size, 0, none⟩ 1 1 [.int .i64 k] rfl rfl (cell_one_at _ _ _ (by simp)) (oneInts [(k : Int)]) (by unfold maxLen; omega) (by omega) (by simp <;> omega) ?_)))
        intro v1 W1 own1 grow1 _
        go_wp2_with fail
        go_roundw
        case rel => exact ⟨k + 1, acc ++ [(k : Int)], by omega, by go_num, HY', by simp; omega, by simpa [ints] using own1, (bel.alloc hz _).grown grow1 (by simp <;> omega) (fun j hj => (own.lt j hj).1)⟩
        case measure => simp [intOf]; omega
      | false =>
        have HN' := hd (HN.out rfl)
        clear HY HN
        go_wp2_with fail
        go_roundw
        case rel => exact ⟨k + 1, acc, by omega, by go_num, HN', by omega, own, bel⟩
        case measure => simp [intOf]; omega
    · have he : Hid (acc = upto V fun j => pB (Led false (Gen false g.rules) g.rules j j)) := hd (by rw [hacc.out, show k = V by omega])
      clear hacc
      go_wp2_with fail
      go_ret
      exact ⟨_, acc, rfl, owns_mono own z1, he.out, bthen b1 bel⟩
/-- Slices of numbers, told one behind the other. -/
def Lc (w : World) (S : Nat → Prop) (xs : List Value) (L : List (List Int)) : Prop := ∀ j (h : j < L.length), ∃ u, xs[j]? = some u ∧ IsV w S u L[j]
theorem Lc.kp {w w' : World} {S T : Nat → Prop} {xs : List Value} {L : List (List Int)} (h : Lc w S xs L) (hk : Kp S w w') (hT : ∀ k, k < w.heap.size → S k → T k) : Lc w' T xs L := fun j hj =>
  let ⟨u, h1, h2⟩ := h j hj
  ⟨u, h1, h2.kp hk hT⟩
theorem Lc.snoc {w : World} {S : Nat → Prop} {xs : List Value} {L : List (List Int)} {u : Value} {l : List Int} (h : Lc w S xs L) (hx : xs.length = L.length) (hu : IsV w S u l) : Lc w S (xs ++ [u]) (L ++ [l]) := by
  intro j hj
  rw [List.length_append] at hj
  by_cases e : j < L.length
  · obtain ⟨u', h1, h2⟩ := h j e
    refine ⟨u', by rw [List.getElem?_append_left (by omega)]; exact h1, ?_⟩
    rw [List.getElem_append_left e]; exact h2
  · obtain rfl : j = L.length := by simp at hj; omega
    refine ⟨u, by rw [List.getElem?_append_right (by omega), hx]; simp, ?_⟩
    rw [List.getElem_append_right (Nat.le_refl _)]
    simpa using hu
theorem oneSlice (ao : Option Addr) (n c : Nat) : ∀ u ∈ [Value.slice ao n c], u.oneCell' = true := by
  intro u hu; simp at hu; subst hu; rfl
theorem LsV_owned {w : World} {S : Nat → Prop} {base : Nat} {e : TypeId} {v : Value} {xs : List Value} {L : List (List Int)} (h : w.ownsRow base e 1 v L.length xs) (hc : Lc w S xs L) (hl : L.length ≤ 9223372036854775807) : LsV w v L := by
  have h0 := h
  obtain ⟨h1, h2 | ⟨g, cap, cur, e1, e2, e3, e4, e5⟩⟩ := h
  · have : L = [] := List.eq_nil_of_length_eq_zero h2.2
    subst this
    rw [h2.1]; exact LsV_nil _
  · refine ⟨hl, _, cap, e1, .inr ⟨g, 0, rfl, fun i hi => ?_⟩⟩
    subst e1
    obtain ⟨u, g1, g2⟩ := hc i hi
    exact ⟨u, by rw [Nat.zero_add, World.ownsRow.cellAt h0 i (by omega)]; exact g1, g2.all⟩
set_option maxRecDepth 100000 in
set_option maxHeartbeats 8000000 in
theorem cornersOf_any (g : Gm) (V : Nat) (hR : Rgt g V) (va : Value) (w : World) (ha : GV w All va g) :
    Calls Try.prog 40 #[va] w fun e w' => ∃ v L, e = .returned v ∧ LsV w' v L ∧ L.length = V ∧ (∀ k (h : k < L.length), L[k] = upto V fun x => pB (Led true (Gen false g.rules) g.rules k x)) ∧ Below w.heap.size w w' := by
  obtain ⟨i0, hi, iz0, iz1, iz2⟩ := info_parts Try.infoIntsOf
  obtain ⟨u, rfl, hr⟩ := id ha
  obtain ⟨ao, cap, rfl⟩ := hr.slice
  have hgv := hR.gv
  have hV1 := hR.v1
  have hV64 := hR.vr.1
  have NA := fun w' (hb' : Below w.heap.size w w') => nullOf_any g V hR _ w' (ha.lw hb')
  have LA := fun nb x w' (hb' : Below w.heap.size w w') (hn : BsV w' nb (genN false g.rules V V)) => ledTo_any g V hR (genN false g.rules V V) (genN_len _ _ _ _) (nul_right hR) nb x true _ w' (ha.lw hb') hn
  have hnl := genN_len false g.rules V V
  rw [hgv] at NA LA ⊢
  generalize genN false g.rules V V = nl at *
  obtain ⟨W, hW⟩ : ∃ W, W = w.alloc (.cells #[.int .i64 V, .int .i64 g.terms, .int .i64 g.start, .slice ao g.rules.length cap] 24) := ⟨_, rfl⟩
  have hWb : Below w.heap.size w W := by rw [hW]; exact al1 _ _
  have hWz : W.heap.size = w.heap.size + 1 := by rw [hW]; simp
  have hW0 : W.cell? ⟨w.heap.size, 0, none⟩ = some (.int .i64 V) := by rw [hW]; simp
  have hW1 : W.cell? ⟨w.heap.size, 1, none⟩ = some (.int .i64 g.terms) := by rw [hW]; simp
  have hW2 : W.cell? ⟨w.heap.size, 2, none⟩ = some (.int .i64 g.start) := by rw [hW]; simp
  have hW3 : W.cell? ⟨w.heap.size, 3, none⟩ = some (.slice ao g.rules.length cap) := by rw [hW]; simp
  have HGV := hd hgv
  clear hgv
  go_enter Try.func40, Try.ntmps40
  go_wp2_with fail
  rw [← hW]
  clear hW
  refine (NA W hWb).mono ?_
  rintro e w1 ⟨nb, rfl, ownn, k1⟩
  have hn1 := BsV_owned ownn hnl
  have s0 := bkeep k1 hW0
  have s1 := bkeep k1 hW1
  have s2 := bkeep k1 hW2
  have s3 := bkeep k1 hW3
  have b1 := bthen hWb k1
  have z1 := b1.size
  clear ownn hW0 hW1 hW2 hW3 NA
  go_wp2_with fail
  go_loopw [4, 5] (fun o i wr => ∃ (k : Nat) (xs : List Value) (L : List (List Int)), k ≤ V ∧ i = .int .i64 k ∧ L.length = k ∧ xs.length = k ∧ Hid (∀ j (h : j < L.length), L[j] = upto V fun x => pB (Led true (Gen false g.rules) g.rules j x)) ∧ wr.ownsRow w1.heap.size 33 1 o k xs ∧ Lc wr (fun q => o.ownBlock ≠ some q) xs L ∧ Below w1.heap.size w1 wr) (fun _ i _ => V - (intOf i).toNat)
  case atStart => exact ⟨0, [], [], Nat.zero_le _, rfl, rfl, rfl, hd (fun j h => by simp at h), World.ownsRow_nil _ _ _ _, (fun j h => by simp at h), Below.refl _ _⟩
  case round =>
    obtain ⟨k, xs, L, hk, rfl, hLl, hxl, hL, own, hlc, bel⟩ := hrel
    obtain ⟨aov, capv, rfl⟩ := owns_slice own
    have t0 := bkeep bel s0
    by_cases hlt : k < V
    · have hlt2 : (k : Int) < (V : Int) := by omega
      have t1 := bkeep bel s1
      have t2 := bkeep bel s2
      have t3 := bkeep bel s3
      have LK := LA nb k wr (bthen b1 bel) (hn1.lw bel)
      go_wp2_with fail
      refine LK.mono ?_
      rintro e wx ⟨gb, is, rfl, ownb, hil, hled, kx⟩
      have OA := listOf_any is gb wx (BsV_owned ownb hil) (by omega)
      have hle : (upto is.length fun j => is.getD j false) = upto V fun x => pB (Led true (Gen false g.rules) g.rules k x) := by
        rw [hil]
        exact upto_congr fun x _ => pB_of (by rw [← isAt_nat]; exact hled x)
      rw [hle, hil] at OA
      have HLk : Hid (∀ j (h : j < (L ++ [upto V fun x => pB (Led true (Gen false g.rules) g.rules k x)]).length), (L ++ [upto V fun x => pB (Led true (Gen false g.rules) g.rules k x)])[j] = upto V fun x => pB (Led true (Gen false g.rules) g.rules j x)) := hd (fun j h => by
        rw [List.length_append] at h
        by_cases e : j < L.length
        · rw [List.getElem_append_left e]; exact hL.out j e
        · obtain rfl : j = L.length := by simp at h; omega
          rw [List.getElem_append_right (Nat.le_refl _)]; simp [hLl])
      have hul : (upto V fun x => pB (Led true (Gen false g.rules) g.rules k x)).length ≤ V := upto_len _ _
      generalize (upto V fun x => pB (Led true (Gen false g.rules) g.rules k x)) = ll at *
      clear hled ownb hle hL
      go_wp2_with fail
      refine OA.mono ?_
      rintro e wy ⟨vy, rfl, owny, ky⟩
      have kxy := bthen kx ky
      have owny' := owns_below own kxy
      have bey := bthen bel kxy
      have hzy := bey.size
      have hzx := kx.size
      have hown : ∀ q, (Value.slice aov k capv).ownBlock = some q → w1.heap.size ≤ q ∧ q < wr.heap.size := fun q hq => own.lt q hq
      have iy : IsV wy (fun q => (Value.slice aov k capv).ownBlock ≠ some q) vy ll := IsV_owned owny (by omega) (fun q hq e => by have h1 := (owny.lt q hq).1; have h2 := (hown q e).2; omega)
      have lcy : Lc wy (fun q => (Value.slice aov k capv).ownBlock ≠ some q) xs L := hlc.kp (Kp.of_below kxy) (fun q _ h => h)
      obtain ⟨ay, cy, rfl⟩ := iy.slice
      clear owny hlc
      go_wp2_with (first | (at_builtin; go_must (refine wpList_append_own_at _ rfl _ _ 71 rfl w1.heap.size 33 i0 (.slice none 0 0) 1 24 Try.underlying71 hi iz0 iz1 iz2 rfl (by decide) _ _ _ rfl (owny'.alloc _) ⟨wy.heap.size, 0, none⟩ 1 1 [.slice ay ll.length cy] rfl rfl (cell_one_at _ _ _ (by simp)) (oneSlice _ _ _) (by unfold maxLen; omega) (by omega) (by simp <;> omega) ?_)))
      intro v1 W1 own1 grow1 _ hat1
      have kpA : Kp (fun q => (Value.slice aov k capv).ownBlock ≠ some q) wy W1 := ((Kp.refl _ wy).alloc _).grown grow1 (fun q hq => .inl (fun h => h hq))
      have hT : ∀ q, q < wy.heap.size → (Value.slice aov k capv).ownBlock ≠ some q → v1.ownBlock ≠ some q := fun q hq h e => by
        rcases hat1 with h1 | h1
        · exact h (h1 ▸ e)
        · rw [h1] at e; simp at e; omega
      have lc1 : Lc W1 (fun q => v1.ownBlock ≠ some q) (xs ++ [.slice ay ll.length cy]) (L ++ [ll]) := Lc.snoc (lcy.kp kpA hT) (by omega) (iy.kp kpA hT)
      have be1 := (bey.alloc hzy (.cells #[.slice ay ll.length cy] 33)).grown grow1 (by simp <;> omega) (fun q hq => (hown q hq).1)
      obtain ⟨a1, c1, rfl⟩ := owns_slice own1
      go_wp2_with fail
      go_roundw
      case rel => exact ⟨k + 1, _, _, by omega, by go_num, by simp; omega, by simp; omega, HLk, own1, lc1, be1⟩
      case measure => simp [intOf]; omega
    · obtain rfl : k = V := by omega
      have hLs : LsV wr (.slice aov k capv) L := LsV_owned (by rw [hLl]; exact own) hlc (by omega)
      go_wp2_with fail
      go_ret
      exact ⟨_, L, rfl, hLs, hLl, hL.out, bthen b1 bel⟩
end Go.Proofs.Ytbhpbleenfegjac.G
