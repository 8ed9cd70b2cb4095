/- Whether a text is great: it is asked, it ends, and nothing turns. -/
import Derived.Test.YtcanphhmflbdmacL17
namespace Go.Proofs.Ytcanphhmflbdmac
open Go.RowKit
def SzOK (x : Xp) : Prop := ∀ (z : Int) (va : Value) (w : World), XV w All va x → 0 ≤ z → z ≤ 3000 →
  Calls Try.prog 38 #[va, .int .i64 z] w fun e w' => ∃ q : Int, e = .returned (.int .i64 q) ∧ -1 ≤ q ∧ q ≤ 3000 ∧ Below w.heap.size w w'
set_option maxRecDepth 100000 in
set_option maxHeartbeats 4000000 in
theorem sz_head (x : Xp) (ih : ∀ i, i < x.kids.len → SzOK (x.kids.at_ i)) : SzOK x := by
  intro z va w hx hz0 hz1
  obtain ⟨u, rfl, hl, ao, cap, rfl, hin⟩ := hx
  obtain ⟨W, hW⟩ : ∃ W, W = w.alloc (.cells #[.int .i64 x.op, .string x.nm, .slice ao x.kids.len cap] 64) := ⟨_, rfl⟩
  have hWz : W.heap.size = w.heap.size + 1 := by rw [hW]; simp
  have hWb : Below w.heap.size w W := by rw [hW]; exact (Below.refl _ _).alloc (Nat.le_refl _) _
  have hWc : W.cell? ⟨w.heap.size, 2, none⟩ = some (.slice ao x.kids.len cap) := by rw [hW]; simp
  go_enter Try.func38, Try.ntmps38
  go_wp2_with fail
  rw [← hW]
  have HW := hd hW
  clear hW
  go_loopw [1, 5] (fun a i wr => ∃ (k : Nat) (q : Int), k ≤ x.kids.len ∧ i = .int .i64 k ∧ a = .int .i64 q ∧ -1 ≤ q ∧ q ≤ 3000 ∧ Below W.heap.size W wr) (fun _ i _ => x.kids.len - (intOf i).toNat)
  case atStart => exact ⟨0, z - 1, Nat.zero_le _, rfl, rfl, by omega, by omega, Below.refl _ _⟩
  case round =>
    obtain ⟨k, q, hk, rfl, rfl, hq0, hq1, hb⟩ := hrel
    have hz := hb.size
    have bel : Below w.heap.size w wr := hWb.trans (hb.mono (by omega))
    have s1 : wr.cell? ⟨w.heap.size, 2, none⟩ = some (.slice ao x.kids.len cap) := by rw [hb.cell (p := ⟨w.heap.size, 2, none⟩) (by simp; omega)]; exact hWc
    by_cases hlt : k < x.kids.len
    · by_cases hq : 0 ≤ q
      · obtain h0 | ⟨ba, oa, rfl, hia⟩ := hin
        · omega
        have kA : ∀ b o v, All b → w.cell? ⟨b, o, none⟩ = some v → All b ∧ wr.cell? ⟨b, o, none⟩ = some v := keep_cell (fun _ _ h => h) (Kp.of_below bel).block
        obtain ⟨ua, a0, a1, a2, hxa⟩ := ((hia.mono kA).at_ k hlt).xv
        have hxa' := hxa
        obtain ⟨_, e, _, aoa', capa', rfl, _⟩ := hxa'
        simp at e; subst e
        have IH := ih k hlt
        generalize x.kids.at_ k = xk at *
        go_wp2_with fail
        refine (IH _ _ _ hxa hq hq1).mono ?_
        rintro e w2 ⟨q', rfl, h1, h2, hb2⟩
        go_wp2_with fail
        go_roundw
        case rel => exact ⟨k + 1, q', by omega, by go_num, rfl, h1, h2, hb.trans (hb2.mono hb.size)⟩
        case measure => simp [intOf]; omega
      · go_wp2_with fail
        go_ret
        exact ⟨q, rfl, hq0, hq1, bel⟩
    · go_wp2_with fail
      go_ret
      exact ⟨q, rfl, hq0, hq1, bel⟩
theorem sz_all : ∀ (f : Fo) (i : Nat), i < f.len → SzOK (f.at_ i)
  | .nil, _, h => absurd h (Nat.not_lt_zero _)
  | .cons op nm kids _, 0, _ => sz_head ⟨op, nm, kids⟩ (sz_all kids)
  | .cons _ _ _ rest, i + 1, h => sz_all rest i (by simpa [Fo.len] using h)
theorem sz_any (x : Xp) : SzOK x := sz_head x (sz_all x.kids)
def LnOK (x : Xp) : Prop := ∀ (va : Value) (w : World), XV w All va x →
  Calls Try.prog 58 #[va] w fun e w' => ∃ q : Bool, e = .returned (.bool q) ∧ Below w.heap.size w w'
set_option maxRecDepth 100000 in
set_option maxHeartbeats 4000000 in
theorem ln_head (x : Xp) (ih : ∀ i, i < x.kids.len → LnOK (x.kids.at_ i)) : LnOK x := by
  intro va w hx
  obtain ⟨u, rfl, hl, ao, cap, rfl, hin⟩ := hx
  obtain ⟨W, hW⟩ : ∃ W, W = w.alloc (.cells #[.int .i64 x.op, .string x.nm, .slice ao x.kids.len cap] 64) := ⟨_, rfl⟩
  have hWz : W.heap.size = w.heap.size + 1 := by rw [hW]; simp
  have hWb : Below w.heap.size w W := by rw [hW]; exact (Below.refl _ _).alloc (Nat.le_refl _) _
  have hWc : W.cell? ⟨w.heap.size, 2, none⟩ = some (.slice ao x.kids.len cap) := by rw [hW]; simp
  by_cases hnm : (5000 : Int) < (x.nm.size : Int)
  · go_enter Try.func58, Try.ntmps58
    go_wp2_with fail
    go_ret
    exact ⟨true, rfl, (Below.refl _ _).alloc (Nat.le_refl _) _⟩
  go_enter Try.func58, Try.ntmps58
  go_wp2_with fail
  rw [← hW]
  have HW := hd hW
  clear hW
  go_loopw [3] (fun i wr => ∃ (k : Nat), k ≤ x.kids.len ∧ i = .int .i64 k ∧ Below W.heap.size W wr) (fun i _ => x.kids.len - (intOf i).toNat)
  case atStart => exact ⟨0, Nat.zero_le _, rfl, Below.refl _ _⟩
  case round =>
    obtain ⟨k, hk, rfl, hb⟩ := hrel
    have hz := hb.size
    have bel : Below w.heap.size w wr := hWb.trans (hb.mono (by omega))
    have s1 : wr.cell? ⟨w.heap.size, 2, none⟩ = some (.slice ao x.kids.len cap) := by rw [hb.cell (p := ⟨w.heap.size, 2, none⟩) (by simp; omega)]; exact hWc
    by_cases hlt : k < x.kids.len
    · obtain h0 | ⟨ba, oa, rfl, hia⟩ := hin
      · omega
      have kA : ∀ b o v, All b → w.cell? ⟨b, o, none⟩ = some v → All b ∧ wr.cell? ⟨b, o, none⟩ = some v := keep_cell (fun _ _ h => h) (Kp.of_below bel).block
      obtain ⟨ua, a0, a1, a2, hxa⟩ := ((hia.mono kA).at_ k hlt).xv
      have hxa' := hxa
      obtain ⟨_, e, _, aoa', capa', rfl, _⟩ := hxa'
      simp at e; subst e
      have IH := ih k hlt
      generalize x.kids.at_ k = xk at *
      go_wp2_with fail
      refine (IH _ _ hxa).mono ?_
      rintro e w2 ⟨q', rfl, hb2⟩
      cases q' with
      | true =>
        go_wp2_with fail
        go_ret
        exact ⟨true, rfl, bel.trans (hb2.mono bel.size)⟩
      | false =>
        go_wp2_with fail
        go_roundw
        case rel => exact ⟨k + 1, by omega, by go_num, hb.trans (hb2.mono hb.size)⟩
        case measure => simp [intOf]; omega
    · go_wp2_with fail
      go_ret
      exact ⟨false, rfl, bel⟩
theorem ln_all : ∀ (f : Fo) (i : Nat), i < f.len → LnOK (f.at_ i)
  | .nil, _, h => absurd h (Nat.not_lt_zero _)
  | .cons op nm kids _, 0, _ => ln_head ⟨op, nm, kids⟩ (ln_all kids)
  | .cons _ _ _ rest, i + 1, h => ln_all rest i (by simpa [Fo.len] using h)
theorem ln_any (x : Xp) : LnOK x := ln_head x (ln_all x.kids)
set_option maxRecDepth 100000 in
set_option maxHeartbeats 4000000 in
theorem lnames_any (ds : List Df) (va : Value) (w : World) (hx : DsV w All va ds) :
    Calls Try.prog 39 #[.agg #[va]] w fun e w' => ∃ q : Bool, e = .returned (.bool q) ∧ Below w.heap.size w w' := by
  obtain ⟨hl, ao, cap, rfl, hin⟩ := hx
  obtain ⟨W, hW⟩ : ∃ W, W = w.alloc (.cells #[.slice ao ds.length cap] 42) := ⟨_, rfl⟩
  have hWz : W.heap.size = w.heap.size + 1 := by rw [hW]; simp
  have hWb : Below w.heap.size w W := by rw [hW]; exact (Below.refl _ _).alloc (Nat.le_refl _) _
  have hWc : W.cell? ⟨w.heap.size, 0, none⟩ = some (.slice ao ds.length cap) := by rw [hW]; simp
  go_enter Try.func39, Try.ntmps39
  go_wp2_with fail
  rw [← hW]
  have HW := hd hW
  clear hW
  go_loopw [3] (fun i wr => ∃ (k : Nat), k ≤ ds.length ∧ i = .int .i64 k ∧ Below W.heap.size W wr) (fun i _ => ds.length - (intOf i).toNat)
  case atStart => exact ⟨0, Nat.zero_le _, rfl, Below.refl _ _⟩
  case round =>
    obtain ⟨k, hk, rfl, hb⟩ := hrel
    have hz := hb.size
    have bel : Below w.heap.size w wr := hWb.trans (hb.mono (by omega))
    have s1 : wr.cell? ⟨w.heap.size, 0, none⟩ = some (.slice ao ds.length cap) := by rw [hb.cell (p := ⟨w.heap.size, 0, none⟩) (by simp; omega)]; exact hWc
    by_cases hlt : k < ds.length
    · obtain h0 | ⟨ba, oa, rfl, hia⟩ := hin
      · omega
      have kA : ∀ b o v, All b → w.cell? ⟨b, o, none⟩ = some v → All b ∧ wr.cell? ⟨b, o, none⟩ = some v := keep_cell (fun _ _ h => h) (Kp.of_below bel).block
      obtain ⟨an, aa, ax⟩ := (hia.mono kA).at_ k hlt
      obtain ⟨ua, a0, a1, a2, hxa⟩ := ax.xv
      have hxa' := hxa
      obtain ⟨_, e, _, aoa', capa', rfl, _⟩ := hxa'
      simp at e; subst e
      generalize ds[k] = dk at *
      have IH := ln_any dk.e
      go_wp2_with fail
      refine (IH _ _ hxa).mono ?_
      rintro e w2 ⟨q', rfl, hb2⟩
      cases q' with
      | true =>
        go_wp2_with fail
        go_ret
        exact ⟨true, rfl, bel.trans (hb2.mono bel.size)⟩
      | false =>
        go_wp2_with fail
        go_roundw
        case rel => exact ⟨k + 1, by omega, by go_num, hb.trans (hb2.mono hb.size)⟩
        case measure => simp [intOf]; omega
    · go_wp2_with fail
      go_ret
      exact ⟨false, rfl, bel⟩
theorem DsV.below {w w' : World} {S : Nat → Prop} {v : Value} {x : List Df} (h : DsV w S v x) (hb : Below w.heap.size w w') : DsV w' S v x := h.kp (Kp.of_below hb) (fun _ _ h => h)
set_option maxRecDepth 100000 in
set_option maxHeartbeats 4000000 in
theorem great_any (ds : List Df) (va : Value) (w : World) (hx : DsV w All va ds) :
    Calls Try.prog 20 #[.agg #[va]] w fun e w' => ∃ q : Bool, e = .returned (.bool q) ∧ Below w.heap.size w w' := by
  have hx0 := hx
  obtain ⟨hl, ao, cap, rfl, hin⟩ := hx
  obtain ⟨W, hW⟩ : ∃ W, W = w.alloc (.cells #[.slice ao ds.length cap] 42) := ⟨_, rfl⟩
  have hWz : W.heap.size = w.heap.size + 1 := by rw [hW]; simp
  have hWb : Below w.heap.size w W := by rw [hW]; exact (Below.refl _ _).alloc (Nat.le_refl _) _
  have hWc : W.cell? ⟨w.heap.size, 0, none⟩ = some (.slice ao ds.length cap) := by rw [hW]; simp
  by_cases h60 : (60 : Int) < (ds.length : Int)
  · go_enter Try.func20, Try.ntmps20
    go_wp2_with fail
    go_ret
    exact ⟨true, rfl, (Below.refl _ _).alloc (Nat.le_refl _) _⟩
  go_enter Try.func20, Try.ntmps20
  go_wp2_with fail
  rw [← hW]
  have HW := hd hW
  clear hW
  go_loopw [3, 4] (fun a i wr => ∃ (k : Nat) (q : Int), k ≤ ds.length ∧ i = .int .i64 k ∧ a = .int .i64 q ∧ 0 ≤ q ∧ q ≤ 3000 ∧ Below W.heap.size W wr) (fun _ i _ => ds.length - (intOf i).toNat)
  case atStart => exact ⟨0, 3000, Nat.zero_le _, rfl, rfl, by omega, by omega, Below.refl _ _⟩
  case round =>
    obtain ⟨k, q, hk, rfl, rfl, hq0, hq1, hb⟩ := hrel
    have hz := hb.size
    have bel : Below w.heap.size w wr := hWb.trans (hb.mono (by omega))
    have s1 : wr.cell? ⟨w.heap.size, 0, none⟩ = some (.slice ao ds.length cap) := by rw [hb.cell (p := ⟨w.heap.size, 0, none⟩) (by simp; omega)]; exact hWc
    by_cases hlt : k < ds.length
    · obtain h0 | ⟨ba, oa, rfl, hia⟩ := hin
      · omega
      have kA : ∀ b o v, All b → w.cell? ⟨b, o, none⟩ = some v → All b ∧ wr.cell? ⟨b, o, none⟩ = some v := keep_cell (fun _ _ h => h) (Kp.of_below bel).block
      obtain ⟨an, aa, ax⟩ := (hia.mono kA).at_ k hlt
      obtain ⟨ua, a0, a1, a2, hxa⟩ := ax.xv
      have hxa' := hxa
      obtain ⟨_, e, _, aoa', capa', rfl, _⟩ := hxa'
      simp at e; subst e
      have LT := hd hlt
      generalize ds[k] = dk at *
      have IH := sz_any dk.e
      go_wp2_with fail
      refine (IH _ _ _ hxa hq0 hq1).mono ?_
      rintro e w2 ⟨q', rfl, h1, h2, hb2⟩
      have s1' : w2.cell? ⟨w.heap.size, 0, none⟩ = some (.slice (some ⟨ba, oa, none⟩) ds.length cap) := by rw [hb2.cell (p := ⟨w.heap.size, 0, none⟩) (lt_of_cell s1)]; exact s1
      have an' : w2.cell? ⟨ba, oa + k * 5, none⟩ = some (.string dk.nm) := by rw [hb2.cell (p := ⟨ba, oa + k * 5, none⟩) (lt_of_cell an)]; exact an
      by_cases hq : q' < 0
      · go_wp2_with fail
        go_ret
        exact ⟨true, rfl, bel.trans (hb2.mono bel.size)⟩
      · by_cases hnm : (5000 : Int) < (dk.nm.size : Int)
        · go_wp2_with fail
          go_ret
          exact ⟨true, rfl, bel.trans (hb2.mono bel.size)⟩
        · go_wp2_with fail
          go_roundw
          case rel => exact ⟨k + 1, q', by omega, by go_num, rfl, by omega, h2, hb.trans (hb2.mono hb.size)⟩
          case measure => simp [intOf]; omega
    · go_wp2_with fail
      refine (lnames_any ds _ _ (hx0.below bel)).mono ?_
      rintro e w2 ⟨q', rfl, hb2⟩
      go_wp2_with fail
      go_ret
      exact ⟨q', rfl, bel.trans (hb2.mono bel.size)⟩
end Go.Proofs.Ytcanphhmflbdmac
