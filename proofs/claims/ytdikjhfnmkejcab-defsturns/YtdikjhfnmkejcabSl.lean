/- Lists of strings in memory: where a name stands in one, are two the same. -/
import Derived.Test.YtdikjhfnmkejcabDm
import Derived.Test.YtdikjhfnmkejcabPl
import Derived.Test.YtdikjhfnmkejcabDefn
namespace Go.Proofs.Ytdikjhfnmkejcab
open Go.RowKit

/-- A slice of strings. -/
def SsV (w : World) (v : Value) (l : List ByteArray) : Prop :=
  l.length ≤ 9223372036854775807 ∧ ∃ ao cap, v = .slice ao l.length cap ∧ l.length ≤ cap ∧ (l.length = 0 ∨ ∃ b o, ao = some ⟨b, o, none⟩ ∧ ∀ i (h : i < l.length), w.cell? ⟨b, o + i, none⟩ = some (.string l[i]))
theorem SsV.below {w w' : World} {v : Value} {l : List ByteArray} (h : SsV w v l) (hb : Below w.heap.size w w') : SsV w' v l :=
  let ⟨h1, ao, cap, h2, h3, h4⟩ := h
  ⟨h1, ao, cap, h2, h3, h4.imp id fun ⟨b, o, e, hc⟩ => ⟨b, o, e, fun i hi => bkeep hb (hc i hi)⟩⟩
theorem SsV.take {w : World} {ao : Option Addr} {n cap : Nat} {l : List ByteArray} (h : SsV w (.slice ao n cap) l) {k : Nat} (hk : k ≤ l.length) : SsV w (.slice ao k cap) (l.take k) := by
  obtain ⟨h1, ao', cap', h2, h3, h4⟩ := h
  simp at h2
  obtain ⟨rfl, rfl, rfl⟩ := h2
  have hl : (l.take k).length = k := by simp; omega
  refine ⟨by omega, ao, cap, by rw [hl], by omega, ?_⟩
  rcases h4 with h4 | ⟨b, o, e, hc⟩
  · exact .inl (by omega)
  · exact .inr ⟨b, o, e, fun i hi => by rw [List.getElem_take]; exact hc i (by omega)⟩
theorem SsV_nil (w : World) : SsV w (.slice none 0 0) [] := ⟨by simp, none, 0, rfl, Nat.zero_le _, .inl rfl⟩
theorem SsV_owned {w : World} {base : Nat} {e : TypeId} {v : Value} {l : List ByteArray} (h : w.ownsRow base e 1 v l.length (l.map .string)) (hl : l.length ≤ 9223372036854775807) : SsV w v l := by
  have h0 := h
  obtain ⟨h1, h2 | ⟨g, cap, cur, e1, e2, e3, e4, e5⟩⟩ := h
  · exact ⟨hl, none, 0, by rw [h2.1, h2.2], by omega, .inl h2.2⟩
  · refine ⟨hl, _, cap, e1, e4, .inr ⟨g, 0, rfl, fun i hi => ?_⟩⟩
    subst e1
    have := World.ownsRow.cellAt h0 i (by simpa using hi)
    rw [show 0 + i = i by omega, this]
    simp [hi]
theorem SsV.slice {w : World} {v : Value} {l : List ByteArray} (h : SsV w v l) : ∃ ao cap, v = .slice ao l.length cap := let ⟨_, ao, cap, e, _⟩ := h; ⟨ao, cap, e⟩

set_option maxRecDepth 100000 in
set_option maxHeartbeats 4000000 in
theorem placeOf_any (l : List ByteArray) (s : ByteArray) (v : Value) (w : World) (h : SsV w v l) :
    Calls Try.prog 27 #[v, .string s] w fun e w' => e = .returned (.int .i64 (whr l s)) ∧ w' = w := by
  obtain ⟨hl, ao, cap, rfl, hcap, hin⟩ := h
  go_enter Try.func27, Try.ntmps27
  go_wp2_with fail
  go_loopw [5] (fun i wr => ∃ k : Nat, k ≤ l.length ∧ i = .int .i64 k ∧ wr = w ∧ Hid (∀ j, j < k → decide (l[j]? = some s) = false)) (fun i _ => l.length - (intOf i).toNat)
  case atStart => exact ⟨0, Nat.zero_le _, rfl, rfl, hd (fun j hj => absurd hj (Nat.not_lt_zero _))⟩
  case round =>
    obtain ⟨k, hk, rfl, rfl, hall⟩ := hrel
    by_cases hlt : k < l.length
    · obtain h0 | ⟨b, o, rfl, hc⟩ := hin
      · omega
      have c0 := hc k hlt
      have HK : Hid (l[k]? = some l[k]) := hd (List.getElem?_eq_getElem hlt)
      have HL := hd hlt
      clear hc
      generalize l[k] = t at *
      by_cases hs : t = s
      · subst hs
        go_wp2_with fail
        go_ret
        exact ⟨by rw [whr, fstI_hit (k := k) (decide_eq_true HK.out) hall.out HL.out]; rfl, rfl⟩
      · have hs' : (t.toList == s.toList) = false := by rw [beq_str]; simpa using hs
        go_wp2_with fail
        go_roundw
        case rel => exact ⟨k + 1, by omega, by go_num, trivial, hd (fun j hj => by
          by_cases e : j = k
          · subst e; rw [HK.out]; simpa using hs
          · exact hall.out j (by omega))⟩
        case measure => simp [intOf]; omega
    · go_wp2_with fail
      go_ret
      exact ⟨by rw [whr, fstI_none (fun j hj => hall.out j (by omega))]; rfl, rfl⟩
set_option maxRecDepth 100000 in
set_option maxHeartbeats 4000000 in
theorem index_any (l : List ByteArray) (s : ByteArray) (v : Value) (w : World) (h : SsV w v l) :
    Calls Try.prog 85 #[v, .string s] w fun e w' => e = .returned (.int .i64 (whr l s)) ∧ w' = w := by
  obtain ⟨hl, ao, cap, rfl, hcap, hin⟩ := h
  go_enter Try.func85, Try.ntmps85
  go_wp2_with fail
  go_loopw [8] (fun i wr => ∃ k : Nat, k ≤ l.length ∧ i = .int .i64 k ∧ wr = w ∧ Hid (∀ j, j < k → decide (l[j]? = some s) = false)) (fun i _ => l.length - (intOf i).toNat)
  case atStart => exact ⟨0, Nat.zero_le _, rfl, rfl, hd (fun j hj => absurd hj (Nat.not_lt_zero _))⟩
  case round =>
    obtain ⟨k, hk, rfl, rfl, hall⟩ := hrel
    by_cases hlt : k < l.length
    · obtain h0 | ⟨b, o, rfl, hc⟩ := hin
      · omega
      have c0 := hc k hlt
      have HK : Hid (l[k]? = some l[k]) := hd (List.getElem?_eq_getElem hlt)
      have HL := hd hlt
      clear hc
      generalize l[k] = t at *
      by_cases hs : t = s
      · subst hs
        go_wp2_with fail
        go_ret
        exact ⟨by rw [whr, fstI_hit (k := k) (decide_eq_true HK.out) hall.out HL.out]; rfl, rfl⟩
      · have hs' : (s.toList == t.toList) = false := by rw [beq_str]; simpa using fun e : s = t => hs e.symm
        go_wp2_with fail
        go_roundw
        case rel => exact ⟨k + 1, by omega, by go_num, trivial, hd (fun j hj => by
          by_cases e : j = k
          · subst e; rw [HK.out]; simpa using hs
          · exact hall.out j (by omega))⟩
        case measure => simp [intOf]; omega
    · go_wp2_with fail
      go_ret
      exact ⟨by rw [whr, fstI_none (fun j hj => hall.out j (by omega))]; rfl, rfl⟩
theorem contains_any (l : List ByteArray) (s : ByteArray) (v : Value) (w : World) (h : SsV w v l) :
    Calls Try.prog 63 #[v, .string s] w fun e w' => e = .returned (.bool (inB s l)) ∧ w' = w := by
  have IA := index_any l s v w h
  have hm := whr_mem l s
  obtain ⟨ao, cap, rfl⟩ := h.slice
  generalize whr l s = r at *
  rw [show inB s l = decide (0 ≤ r) from by rw [Bool.eq_iff_iff, inB_iff, ← hm]; simp]
  clear hm
  go_enter Try.func63, Try.ntmps63
  go_wp2_with (go_at_call 85; refine IA.mono ?_; rintro e wx ⟨rfl, hwx⟩; obtain rfl := hwx.symm)
  go_ret
  exact ⟨rfl, rfl⟩

set_option maxRecDepth 100000 in
set_option maxHeartbeats 4000000 in
theorem sameStrings_any (l : List ByteArray) (va vb : Value) (w : World) (ha : SsV w va l) (hb : SsV w vb l) :
    Calls Try.prog 20 #[va, vb] w fun e w' => e = .returned (.bool true) ∧ Below w.heap.size w w' := by
  obtain ⟨hl, ao, cap, rfl, hcap, hin⟩ := ha
  obtain ⟨_, ao', cap', rfl, hcap', hin'⟩ := hb
  go_enter Try.func20, Try.ntmps20
  go_wp2_with fail
  go_loopw [5] (fun i wr => ∃ k : Nat, k ≤ l.length ∧ i = .int .i64 k ∧ Below w.heap.size w wr) (fun i _ => l.length - (intOf i).toNat)
  case atStart => exact ⟨0, Nat.zero_le _, rfl, Below.refl _ _⟩
  case round =>
    obtain ⟨k, hk, rfl, bel⟩ := hrel
    by_cases hlt : k < l.length
    · obtain h0 | ⟨b, o, rfl, hc⟩ := hin
      · omega
      obtain h0 | ⟨b', o', rfl, hc'⟩ := hin'
      · omega
      have c0 := bkeep bel (hc k hlt)
      have c1 := bkeep bel (hc' k hlt)
      clear hc hc'
      generalize l[k] = t at *
      go_wp2_with fail
      go_region
      all_goals
        go_wp2_with fail
        go_roundw
        case rel => exact ⟨k + 1, by omega, by go_num, bel.drew⟩
        case measure => simp [intOf]; omega
    · go_wp2_with fail
      go_ret
      exact ⟨rfl, bel⟩
end Go.Proofs.Ytdikjhfnmkejcab
