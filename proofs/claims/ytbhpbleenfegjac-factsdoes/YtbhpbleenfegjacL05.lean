/- One step, the program's two ways: alone, and as the first one. -/
import Derived.Test.YtbhpbleenfegjacL04
namespace Go.Proofs.Ytbhpbleenfegjac.G
open Go.RowKit
theorem has_lk (e : BitVec 64) (w : World) : Lk w (.func (.func 47) #[.int .u64 (U e)] #[]) (hasB e) := ⟨_, _, _, rfl, cal_has, fun n w1 _ => has_any e n w1⟩
theorem IsV.take {w : World} {S : Nat → Prop} {ao : Option Addr} {n cap k : Nat} {l : List Int} (h : IsV w S (.slice ao n cap) l) (hk : k ≤ l.length) : IsV w S (.slice ao k cap) (l.take k) := by
  obtain ⟨h1, ao', cap', e, h3, h4, h5⟩ := h
  simp at e
  obtain ⟨rfl, rfl, rfl⟩ := e
  have hm : (l.take k).length = k := by simp; omega
  refine ⟨by omega, ao, cap, by rw [hm], by omega, h4, ?_⟩
  rcases h5 with h5 | ⟨b, o, e, hs, hx⟩
  · exact .inl (by omega)
  · exact .inr ⟨b, o, e, hs, fun i hi => by rw [hx i (by omega)]; simp⟩
theorem IsV.drop {w : World} {S : Nat → Prop} {ao : Option Addr} {n cap k : Nat} {l : List Int} (h : IsV w S (.slice ao n cap) l) (hk : k ≤ l.length) : IsV w S (sliced ao k n cap 1) (l.drop k) := by
  obtain ⟨h1, ao', cap', e, h3, h4, h5⟩ := h
  simp at e
  obtain ⟨rfl, rfl, rfl⟩ := e
  have hm : (l.drop k).length = l.length - k := by simp
  unfold sliced
  refine ⟨by omega, _, cap - k, by rw [hm], by omega, ?_, ?_⟩
  · intro e
    split at e
    next h => omega
    next h =>
      cases ao with
      | none => have := h4 rfl; omega
      | some a => simp at e
  · rcases h5 with h5 | ⟨b, o, rfl, hs, hx⟩
    · exact .inl (by omega)
    · by_cases hc : cap = k
      · exact .inl (by omega)
      · refine .inr ⟨b, o + k, by simp [hc, addr_add], hs, fun i hi => ?_⟩
        rw [show o + k + i = o + (k + i) by omega, hx (k + i) (by omega)]
        simp
set_option maxRecDepth 100000 in
set_option maxHeartbeats 4000000 in
theorem alone_any (l : List Int) (e : BitVec 64) (va : Value) (w : World) (ha : IsV w All va l) :
    Calls Try.prog 107 #[va, .int .u64 (U e)] w fun e' w' => e' = .returned (.int .u64 (U (aloneB l e))) ∧ Below w.heap.size w w' := by
  obtain ⟨ao, cap, rfl⟩ := ha.slice
  have hl := ha.1
  go_enter Try.func107, Try.ntmps107
  go_wp2_with fail
  go_loopw [5, 10] (fun v i wr => ∃ (k : Nat) (acc : BitVec 64), k ≤ l.length ∧ i = .int .i64 k ∧ v = .int .u64 (U acc) ∧ Hid (acc = aloneL l e k) ∧ Below w.heap.size w wr) (fun _ i _ => l.length - (intOf i).toNat)
  case atStart => exact ⟨0, 0#64, Nat.zero_le _, rfl, rfl, hd rfl, Below.refl _ _⟩
  case round =>
    obtain ⟨k, acc, hk, rfl, rfl, hacc, bel⟩ := hrel
    by_cases hlt : k < l.length
    · have ha1 := ha.lw bel
      have hT := ha1.take (k := k) (by omega)
      have hD := ha1.drop (k := k + 1) (by omega)
      have hcap : l.length ≤ cap := by
        obtain ⟨_, ao', cap', e', h3, _⟩ := ha
        simp at e'
        obtain ⟨_, rfl⟩ := e'
        exact h3
      obtain ⟨b, o, rfl, c0⟩ := ha1.at_ hlt
      have hg : l.getD k 0 = l[k] := by rw [List.getD_eq_getElem?_getD, List.getElem?_eq_getElem hlt]; rfl
      have HR : Hid (aloneL l e (k + 1) = if (l.take k).all (hasB e) && (l.drop (k + 1)).all (hasB e) then withB acc l[k] else acc) := hd (by rw [aloneL, hg, ← hacc.out])
      clear hacc hg
      have FT := fun W h => fall_any (hasB e) (l.take k) _ _ W (hT.lw h) (has_lk e W)
      have FD := fun W h => fall_any (hasB e) (l.drop (k + 1)) _ _ W (hD.lw h) (has_lk e W)
      clear hT hD ha1
      generalize (l.take k).all (hasB e) = q1 at *
      generalize (l.drop (k + 1)).all (hasB e) = q2 at *
      generalize l[k] = x at *
      cases q1 with
      | false =>
        have HR' : Hid (acc = aloneL l e (k + 1)) := hd (by rw [HR.out]; rfl)
        clear HR FD
        go_wp2_with fail
        refine (FT wr (Below.refl _ _)).mono ?_
        rintro e1 wx ⟨rfl, kx⟩
        go_wp2_with fail
        go_roundw
        case rel => exact ⟨k + 1, acc, by omega, by go_num, rfl, HR', bthen bel kx⟩
        case measure => simp [intOf]; omega
      | true =>
        by_cases hc : cap = k + 1
        · subst hc
          simp only [sliced, if_true, Nat.sub_self, Nat.sub_eq_zero_of_le hcap] at FD
          cases q2 with
          | false =>
            have HR' : Hid (acc = aloneL l e (k + 1)) := hd (by rw [HR.out]; rfl)
            clear HR
            go_wp2_with fail
            refine (FT wr (Below.refl _ _)).mono ?_
            rintro e1 wx ⟨rfl, kx⟩
            go_wp2_with fail
            refine (FD wx kx).mono ?_
            rintro e1 wy ⟨rfl, ky⟩
            go_wp2_with fail
            go_roundw
            case rel => exact ⟨k + 1, acc, by omega, by go_num, rfl, HR', bthen (bthen bel kx) ky⟩
            case measure => simp [intOf]; omega
          | true =>
            have HR' : Hid (withB acc x = aloneL l e (k + 1)) := hd (by rw [HR.out]; rfl)
            clear HR
            go_wp2_with fail
            refine (FT wr (Below.refl _ _)).mono ?_
            rintro e1 wx ⟨rfl, kx⟩
            go_wp2_with fail
            refine (FD wx kx).mono ?_
            rintro e1 wy ⟨rfl, ky⟩
            go_wp2_with fail
            refine (with_any acc x wy).mono ?_
            rintro e1 wz ⟨rfl, hwz⟩
            obtain rfl := hwz.symm
            go_wp2_with fail
            go_roundw
            case rel => exact ⟨k + 1, _, by omega, by go_num, rfl, HR', bthen (bthen bel kx) ky⟩
            case measure => simp [intOf]; omega
        · simp only [sliced, if_neg hc, Option.map_some, addr_add, Nat.mul_one] at FD
          cases q2 with
          | false =>
            have HR' : Hid (acc = aloneL l e (k + 1)) := hd (by rw [HR.out]; rfl)
            clear HR
            go_wp2_with fail
            refine (FT wr (Below.refl _ _)).mono ?_
            rintro e1 wx ⟨rfl, kx⟩
            go_wp2_with fail
            refine (FD wx kx).mono ?_
            rintro e1 wy ⟨rfl, ky⟩
            go_wp2_with fail
            go_roundw
            case rel => exact ⟨k + 1, acc, by omega, by go_num, rfl, HR', bthen (bthen bel kx) ky⟩
            case measure => simp [intOf]; omega
          | true =>
            have HR' : Hid (withB acc x = aloneL l e (k + 1)) := hd (by rw [HR.out]; rfl)
            clear HR
            go_wp2_with fail
            refine (FT wr (Below.refl _ _)).mono ?_
            rintro e1 wx ⟨rfl, kx⟩
            go_wp2_with fail
            refine (FD wx kx).mono ?_
            rintro e1 wy ⟨rfl, ky⟩
            go_wp2_with fail
            refine (with_any acc x wy).mono ?_
            rintro e1 wz ⟨rfl, hwz⟩
            obtain rfl := hwz.symm
            go_wp2_with fail
            go_roundw
            case rel => exact ⟨k + 1, _, by omega, by go_num, rfl, HR', bthen (bthen bel kx) ky⟩
            case measure => simp [intOf]; omega
    · have he : Hid (acc = aloneB l e) := hd (by rw [hacc.out, show k = l.length by omega]; rfl)
      clear hacc
      go_wp2_with fail
      go_ret
      exact ⟨ret_u (by rw [he.out]), bel⟩
theorem drop_at {l : List Int} {k : Nat} (h : k < l.length) : l.drop k = l[k] :: l.drop (k + 1) := List.drop_eq_getElem_cons h
set_option maxRecDepth 100000 in
set_option maxHeartbeats 4000000 in
theorem firsts_any (l : List Int) (e : BitVec 64) (va : Value) (w : World) (ha : IsV w All va l) :
    Calls Try.prog 79 #[va, .int .u64 (U e)] w fun e' w' => e' = .returned (.int .u64 (U (firstsL e l 0#64))) ∧ Below w.heap.size w w' := by
  obtain ⟨ao, cap, rfl⟩ := ha.slice
  have hl := ha.1
  obtain ⟨R, hR⟩ : ∃ R, R = firstsL e l 0#64 := ⟨_, rfl⟩
  rw [← hR]
  have HR0 : Hid (R = firstsL e (l.drop 0) 0#64) := hd hR
  clear hR
  go_enter Try.func79, Try.ntmps79
  go_wp2_with fail
  go_loopw [5, 10] (fun v i wr => ∃ (k : Nat) (acc : BitVec 64), k ≤ l.length ∧ i = .int .i64 k ∧ v = .int .u64 (U acc) ∧ Hid (R = firstsL e (l.drop k) acc) ∧ wr = w) (fun _ i _ => l.length - (intOf i).toNat)
  case atStart => exact ⟨0, 0#64, Nat.zero_le _, rfl, rfl, HR0, rfl⟩
  case round =>
    obtain ⟨k, acc, hk, rfl, rfl, hacc, rfl⟩ := hrel
    by_cases hlt : k < l.length
    · obtain ⟨b, o, rfl, c0⟩ := ha.at_ hlt
      have HR : Hid (R = if hasB e l[k] then firstsL e (l.drop (k + 1)) (withB acc l[k]) else withB acc l[k]) := hd (by rw [hacc.out, drop_at hlt, firstsL])
      clear hacc
      generalize l[k] = x at *
      have HA := has_any e x wr
      generalize hasB e x = q at *
      cases q with
      | true =>
        go_wp2_with fail
        refine (with_any acc x wr).mono ?_
        rintro e1 wz ⟨rfl, hwz⟩
        obtain rfl := hwz.symm
        go_wp2_with fail
        refine HA.mono ?_
        rintro e1 wz ⟨rfl, hwz⟩
        obtain rfl := hwz.symm
        go_wp2_with fail
        go_roundw
        case rel => exact ⟨k + 1, _, by omega, by go_num, rfl, hd HR.out, trivial⟩
        case measure => simp [intOf]; omega
      | false =>
        have HR' : Hid (R = withB acc x) := hd HR.out
        clear HR
        go_wp2_with fail
        refine (with_any acc x wr).mono ?_
        rintro e1 wz ⟨rfl, hwz⟩
        obtain rfl := hwz.symm
        go_wp2_with fail
        refine HA.mono ?_
        rintro e1 wz ⟨rfl, hwz⟩
        obtain rfl := hwz.symm
        go_wp2_with fail
        go_ret
        exact ⟨ret_u (by rw [HR'.out]), Below.refl _ _⟩
    · have he : Hid (acc = R) := hd (by rw [hacc.out, List.drop_of_length_le (by omega)]; rfl)
      clear hacc
      go_wp2_with fail
      go_ret
      exact ⟨ret_u (by rw [he.out]), Below.refl _ _⟩
/-- One step by a right side: a function that is called as it is. -/
def StpC (id : Nat) (c : Bool) : Prop := Cal id ∧ ∀ (l : List Int) (e : BitVec 64) (va : Value) (w : World), IsV w All va l → Calls Try.prog id #[va, .int .u64 (U e)] w fun e' w' => e' = .returned (.int .u64 (U (stepB c l e))) ∧ Below w.heap.size w w'
theorem step_alone : StpC 107 false := ⟨fun args w => by go_simp, fun l e va w ha => by simpa [stepB] using alone_any l e va w ha⟩
theorem step_firsts : StpC 79 true := ⟨fun args w => by go_simp, fun l e va w ha => by simpa [stepB] using firsts_any l e va w ha⟩
end Go.Proofs.Ytbhpbleenfegjac.G
