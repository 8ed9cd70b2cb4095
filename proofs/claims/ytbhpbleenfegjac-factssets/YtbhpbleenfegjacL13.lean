/- Proved: for every set and every two numbers FactsSets returns true (Set's Has, With and List answer as the document says), and what came in reads as before. No condition. -/
import Derived.Test.YtbhpbleenfegjacL12
import Derived.Test.YtbhpbleenfegjacRows
import Derived.Deep.CutRange
import Derived.ProofKit
import Derived.OpenShut
import Derived.ShutString
import Derived.ChangeOld
namespace Go.Proofs.Ytbhpbleenfegjac.factsSets
open Go.Proofs.Ytbhpbleenfegjac Go.Proofs.Ytbhpbleenfegjac.G
open Go.ChangeShapes Go.WideShapes Go.ChangeAt Go.RowKit

theorem own : ownKnob Try.prog.godebug = none := by kernel_rfl
theorem laidOut : laidOutB Try.prog = true := by kernel_rfl
theorem okWide_u64 {P : Program} {w : World} {r : Reach} {base : Nat} {t : TypeId} {v : Value} (ht : P.underlying t = some (.int .u64)) (h : Value.okWide P w r base t v) : ∃ n, v = .int .u64 n ∧ 0 ≤ n ∧ n < 2 ^ 64 := by
  obtain ⟨n, rfl⟩ := okWide_int ht h
  refine ⟨n, rfl, ?_⟩
  simp [Value.okWide, ht, Cell.okWide, Cell.ok, IntKind.has] at h
  have h1 : IntKind.u64.min = 0 := by decide
  have h2 : IntKind.u64.max = 18446744073709551615 := by decide
  rw [h1, h2] at h
  omega
theorem U_rem (s : BitVec 64) (k : Nat) : ((U s / 2 ^ k).tmod 2 == 1) = s.getLsbD k := by
  have h1 : U s / 2 ^ k = U (s >>> k) := by
    unfold U
    rw [BitVec.toNat_ushiftRight, Nat.shiftRight_eq_div_pow]
    simp
  have h5 : s.getLsbD k = (s >>> k).getLsbD 0 := by simp
  rw [h1, h5]
  generalize s >>> k = t
  have h2 : t.getLsbD 0 = decide (t.toNat % 2 = 1) := by
    rw [BitVec.getLsbD, Nat.testBit_zero]
  rw [h2, Bool.eq_iff_iff]
  simp only [beq_iff_eq, decide_eq_true_eq]
  unfold U
  rw [Int.tmod_eq_emod_of_nonneg (by omega)]
  omega
theorem upto_split {f : Nat → Bool} {k : Nat} : ∀ {m : Nat}, k ≤ m → ∃ r, upto m f = upto k f ++ r
  | 0, h => by obtain rfl : k = 0 := by omega
               exact ⟨[], rfl⟩
  | m + 1, h => by
    by_cases e : k = m + 1
    · subst e; exact ⟨[], by simp⟩
    · obtain ⟨r, hr⟩ := upto_split (f := f) (k := k) (m := m) (by omega)
      cases hf : f m with
      | true => exact ⟨r ++ [(m : Int)], by rw [upto_yes hf, hr, List.append_assoc]⟩
      | false => exact ⟨r, by rw [upto_no hf, hr]⟩
theorem listB_at {y : BitVec 64} {k n : Nat} (hk : k < 64) (hn : n = (upto k fun j => hasB y j).length) (h : hasB y k = true) : ∃ hl : n < (listB y).length, (listB y)[n] = (k : Int) := by
  obtain ⟨r, hr⟩ := upto_split (f := fun j : Nat => hasB y j) (k := k + 1) (m := 64) (by omega)
  rw [upto_yes (f := fun j : Nat => hasB y j) h] at hr
  have hl : listB y = upto k (fun j => hasB y j) ++ ([(k : Int)] ++ r) := by unfold listB; rw [hr, List.append_assoc]
  have hlen : n < (listB y).length := by rw [hl, hn]; simp
  refine ⟨hlen, ?_⟩
  have : (listB y)[n]? = some (k : Int) := by rw [hl, hn, List.getElem?_append_right (Nat.le_refl _)]; simp
  rw [List.getElem?_eq_getElem hlen] at this
  exact Option.some.inj this
set_option maxRecDepth 100000 in
set_option maxHeartbeats 16000000 in
theorem walk (s : BitVec 64) (v u : Int) (w : World) :
    Calls Try.prog 7 #[.int .u64 (U s), .int .i64 v, .int .i64 u] w fun e w' => e = .returned (.bool true) ∧ Below w.heap.size w w' := by
  have BA := factsBegun_any w
  have WA := fun w' => with_any s v w'
  have HS := fun w' => has_any s u w'
  have HY := fun w' => has_any (withB s v) u w'
  have HK := fun (k : Nat) w' => has_any (withB s v) (k : Int) w'
  have LA := fun w' => list_any (withB s v) w'
  have hY : hasB (withB s v) u = (hasB s u || (mayB v && (u == v))) := by
    rw [Bool.eq_iff_iff, has_with, Bool.or_eq_true, Bool.and_eq_true, mayB_iff, beq_iff_eq]
    constructor
    · rintro (h | ⟨h1, h2⟩)
      · exact .inl h
      · exact .inr ⟨h2, h1⟩
    · rintro (h | ⟨h1, h2⟩)
      · exact .inl h
      · exact .inr ⟨h2, h1⟩
  have hlen : (listB (withB s v)).length ≤ 64 := upto_len _ _
  have hat := fun {k n : Nat} => listB_at (y := withB s v) (k := k) (n := n)
  have hend : (listB (withB s v)).length = (upto 64 fun j => hasB (withB s v) j).length := rfl
  rw [hY] at HY
  clear hY
  generalize withB s v = y at *
  have HU : Hid (hasB s u = true → 0 ≤ u ∧ u < 64) := hd has_in
  have HUk : Hid (0 ≤ u → u < 64 → ((U s / 2 ^ u.toNat).tmod 2 == 1) = hasB s u) := hd (fun h0 h1 => by
    obtain ⟨k, rfl⟩ : ∃ k : Nat, u = k := ⟨u.toNat, by omega⟩
    rw [has_nat s (by omega), U_rem]; simp)
  have HAT := hd (fun k n => hat (k := k) (n := n))
  have HEND := hd hend
  clear hat hend
  generalize hasB s u = H at *
  have HI : Hid (mayB v = true ↔ 0 ≤ v ∧ v < 64) := hd mayB_iff
  generalize mayB v = I at *
  obtain ⟨q, hq⟩ : ∃ q, (u == v) = q := ⟨_, rfl⟩
  have HQ : Hid (q = true → u = v) := hd (fun e => by rw [e] at hq; simpa using hq)
  rw [hq] at HY
  go_enter Try.func7, Try.ntmps7
  go_wp2_with fail
  refine BA.mono ?_
  rintro e w1 ⟨rfl, k1⟩
  go_wp2_with fail
  refine (WA _).mono ?_
  rintro e w2 ⟨rfl, hw2⟩
  obtain rfl := hw2.symm
  go_upto_region 5 with fail
  go_cut [9] from 20 to 33 (fun v9 wc => v9 = .bool H ∧ wc = w1)
  case first =>
    by_cases h0 : 0 ≤ u
    · by_cases h1 : u < 64
      · have HH := HUk.out h0 h1
        go_wp2_with fail
        go_meet
        exact ⟨rfl, rfl⟩
      · have hH : Hid (H = false) := hd (by
          cases H with
          | true => exact absurd (HU.out rfl).2 h1
          | false => rfl)
        go_wp2_with fail
        go_meet
        exact ⟨by rw [hH.out], rfl⟩
    · have hH : Hid (H = false) := hd (by
        cases H with
        | true => exact absurd (HU.out rfl).1 h0
        | false => rfl)
      go_wp2_with fail
      go_meet
      exact ⟨by rw [hH.out], rfl⟩
  case rest =>
  obtain ⟨rfl, hwc⟩ := hcut
  obtain rfl := hwc.symm
  clear HU HUk
  go_upto_region 6 with fail
  go_cut [10] from 34 to 39 (fun v10 wc => v10 = .bool I ∧ wc = w1)
  case first =>
    by_cases h0 : 0 ≤ v
    · by_cases h1 : v < 64
      · have hI : Hid (I = true) := hd (HI.out.2 ⟨h0, h1⟩)
        go_wp2_with fail
        go_meet
        exact ⟨by rw [hI.out], rfl⟩
      · have hI : Hid (I = false) := hd (by
          cases I with
          | true => exact absurd (HI.out.1 rfl).2 h1
          | false => rfl)
        go_wp2_with fail
        go_meet
        exact ⟨by rw [hI.out], rfl⟩
    · have hI : Hid (I = false) := hd (by
        cases I with
        | true => exact absurd (HI.out.1 rfl).1 h0
        | false => rfl)
      go_wp2_with fail
      go_meet
      exact ⟨by rw [hI.out], rfl⟩
  case rest =>
  obtain ⟨rfl, hwc⟩ := hcut
  obtain rfl := hwc.symm
  clear HI
  go_upto_region 7 with fail
  go_cut [59] from 40 to 59 (fun v59 wc => v59 = .bool false ∧ wc = w1)
  case first =>
    clear HQ
    cases H <;> cases I <;> cases q
    all_goals
      simp only [Bool.true_or, Bool.false_or, Bool.true_and, Bool.false_and] at HY
      go_wp2_with fail
      refine (HS _).mono ?_
      rintro e w2 ⟨rfl, hw2⟩
      obtain rfl := hw2.symm
      go_wp2_with fail
      refine (HY _).mono ?_
      rintro e w2 ⟨rfl, hw2⟩
      obtain rfl := hw2.symm
      go_wp2_with fail
      go_meet
      exact ⟨rfl, rfl⟩
  case rest =>
  obtain ⟨rfl, hwc⟩ := hcut
  obtain rfl := hwc.symm
  go_wp2_with fail
  refine (LA _).mono ?_
  rintro e w2 ⟨v2, rfl, own2, k2⟩
  have i2 : IsV w2 All v2 (listB y) := IsV_owned own2 (by omega) (fun _ _ => trivial)
  obtain ⟨ao, cap, rfl⟩ := i2.slice
  have b2 := bthen k1 k2
  clear own2 k1 k2
  go_wp2_with fail
  go_loopw [12, 13] (fun n i wr => ∃ k m : Nat, k ≤ 64 ∧ i = .int .i64 k ∧ n = .int .i64 m ∧ Hid (m = (upto k fun j => hasB y j).length) ∧ m ≤ k ∧ wr = w2) (fun _ i _ => 64 - (intOf i).toNat)
  case atStart => exact ⟨0, 0, Nat.zero_le _, rfl, rfl, hd rfl, Nat.le_refl _, rfl⟩
  case round =>
    obtain ⟨k, m, hk, rfl, rfl, hm, hmk, rfl⟩ := hrel
    by_cases hlt : k < 64
    · have KA := HK k wr
      have HY1 : Hid (hasB y k = true → m + 1 = (upto (k + 1) fun j => hasB y j).length) := hd (fun e => by rw [upto_yes (f := fun j : Nat => hasB y j) e, hm.out]; simp)
      have HN1 : Hid (hasB y k = false → m = (upto (k + 1) fun j => hasB y j).length) := hd (fun e => by rw [upto_no (f := fun j : Nat => hasB y j) e, hm.out])
      have HA1 := hd (HAT.out k m hlt hm.out)
      generalize hasB y k = z at *
      cases z with
      | true =>
        obtain ⟨hl1, hl2⟩ := HA1.out rfl
        obtain ⟨b, o, rfl, c0⟩ := i2.at_ hl1
        rw [hl2] at c0
        have hl3 : (m : Int) < ((listB y).length : Int) := by omega
        clear hl2 HA1
        go_wp2_with fail
        refine KA.mono ?_
        rintro e wx ⟨rfl, hwx⟩
        obtain rfl := hwx.symm
        go_wp2_with fail
        go_roundw
        case rel => exact ⟨k + 1, m + 1, by omega, by go_num, by go_num, hd (HY1.out trivial), by omega, trivial⟩
        case measure => simp [intOf]; omega
      | false =>
        clear HA1
        go_wp2_with fail
        refine KA.mono ?_
        rintro e wx ⟨rfl, hwx⟩
        obtain rfl := hwx.symm
        go_wp2_with fail
        go_roundw
        case rel => exact ⟨k + 1, m, by omega, by go_num, by go_num, hd (HN1.out trivial), by omega, trivial⟩
        case measure => simp [intOf]; omega
    · obtain rfl : k = 64 := by omega
      have he : m = (listB y).length := by rw [hm.out]; exact HEND.out.symm
      have hb : ((m : Int) == ((listB y).length : Int)) = true := by rw [he]; simp
      have HM := hd he
      clear he hm
      go_wp2_with fail
      go_ret
      exact ⟨ret_bool (by first | rfl | simpa using HM.out), b2⟩

set_option maxRecDepth 100000 in
theorem lifted (os : Os) (started : os.Started) (H : Type) (enc : TypeId × Value → H) :
    ReturnsInHanded {} Try.checked os 7 .any (Rows.factsSetsSpec.pre6 enc Try.prog Try.f7 Rows.factsSetsRow.domain false) (Rows.factsSetsSpec.post enc Try.prog Try.f7 false true false false) := by
  refine returnsInHanded_of_change (C := Try.checked) own started (by kernel_rfl) Try.func7
    (ChangeSpec.witness6 (enc := enc) (C := Try.checked) false ⟨#[], #[.int .u64 0, .int .i64 0, .int .i64 0], []⟩ 8 (by kernel_rfl) (by kernel_rfl) (by kernel_rfl) (by kernel_rfl)) ?_
  intro W base args ds gs before hval0 hW hcnd _
  have hval : ∀ (j : Nat) t v, Try.f7.params[j]? = some t → args[j]? = some v → Value.okWide Try.prog W .any base t v := hval0
  have hW' := hW
  obtain ⟨p, q, hA0, hV, rfl, hfz, hnd⟩ := hW
  have hA : DataW.TrodAll enc Try.prog W 0 (fun _ => true) true Try.f7.params.toList args.toList ds p := hA0
  rw [Try.params7] at hA hval
  obtain ⟨v0, vs0, d0, ds0, p0, q0, hargs, rfl, rfl, h0, r0⟩ := trodAll_cons hA
  obtain ⟨v1, vs1, d1, ds1, p1, q1, rfl, rfl, rfl, h1, r1⟩ := trodAll_cons r0
  obtain ⟨v2, vs2, d2, ds2, p2, q2, rfl, rfl, rfl, h2, r2⟩ := trodAll_cons r1
  obtain ⟨rfl, rfl, rfl⟩ := trodAll_nil r2
  obtain rfl : args = #[v0, v1, v2] := by cases args; simp_all
  obtain ⟨rfl, rfl⟩ := trodVars_none hV
  have k0 := h0
  have k1 := h1
  have k2 := h2
  have lt0 : ∀ x ∈ p0, x.block < W.heap.size := by obtain ⟨m, hm⟩ := k0; exact DataW.trod_lt m _ _ _ hm
  have lt1 : ∀ x ∈ p1, x.block < W.heap.size := by obtain ⟨m, hm⟩ := k1; exact DataW.trod_lt m _ _ _ hm
  have lt2 : ∀ x ∈ p2, x.block < W.heap.size := by obtain ⟨m, hm⟩ := k2; exact DataW.trod_lt m _ _ _ hm
  obtain ⟨n0, rfl, hn0⟩ := okWide_u64 Try.underlying79 (hval 0 79 v0 rfl rfl)
  obtain ⟨s, rfl⟩ := U_num n0 hn0.1 hn0.2
  obtain ⟨n1, rfl⟩ := okWide_int Try.underlying3 (hval 1 3 v1 rfl rfl)
  obtain ⟨n2, rfl⟩ := okWide_int Try.underlying3 (hval 2 3 v2 rfl rfl)
  clear hA0 hval0
  refine (walk s n1 n2 W).mono fun e W' ⟨he, bel⟩ => ?_
  subst he
  exact ⟨_, rfl, _, _, _, [], _, [], hW', trodAll_mk1 (shut_bool Try.underlying4 _), (trodAll_cons_mk (Below.trod laidOut (by kernel_rfl) (of_decide_eq_true (by kernel_rfl)) k0 bel lt0) (trodAll_cons_mk (Below.trod laidOut (by kernel_rfl) (of_decide_eq_true (by kernel_rfl)) k1 bel lt1) (trodAll_cons_mk (Below.trod laidOut (by kernel_rfl) (of_decide_eq_true (by kernel_rfl)) k2 bel lt2) trodAll_mk0))), rfl, bel.frame _, fun h => by cases h⟩

theorem stands : Rows.factsSetsRow.holds Try.pinned (OpenSpec.ofChange Rows.factsSetsSpec) :=
  OpenClaim.holds_of_wide 7 Try.f7 rfl rfl rfl rfl rfl rfl rfl ⟨rfl, rfl, rfl, rfl, rfl⟩ rfl rfl rfl rfl rfl (by kernel_rfl) Try.func7 (by kernel_rfl)
    (of_decide_eq_true (by kernel_rfl)) (by unfold Func.isWrapper; first | (rw [if_pos (by decide +kernel)]; kernel_rfl) | (rw [if_neg (by decide +kernel)]; exact ⟨rfl, rfl⟩))
    (fun os started H enc _ => lifted os started H enc)

theorem proved : Rows.FactsSetsSaid := stands
#print axioms proved
end Go.Proofs.Ytbhpbleenfegjac.factsSets
