/- Whether a text is great: if it is not, it has few expressions and short names. -/
import Derived.Test.YtdikjhfnmkejcabSt
import Derived.Test.YtdikjhfnmkejcabCd
namespace Go.Proofs.Ytdikjhfnmkejcab
open Go.RowKit
def GzOK (x : Xp) : Prop := ∀ (z : Int) (va : Value) (w : World), XV w All va x → 0 ≤ z → z ≤ 3000 →
  Calls Try.prog 28 #[va, .int .i64 z] w fun e w' => ∃ q : Int, e = .returned (.int .i64 q) ∧ -1 ≤ q ∧ q ≤ 3000 ∧ (0 ≤ q → (x.sz : Int) + q ≤ z) ∧ Below w.heap.size w w'
set_option maxRecDepth 100000 in
set_option maxHeartbeats 4000000 in
theorem gz_head (x : Xp) (ih : ∀ i, i < x.kids.len → GzOK (x.kids.at_ i)) : GzOK x := by
  intro z va w hx hz0 hz1
  obtain ⟨u, rfl, hl, ao, cap, rfl, hin⟩ := hx
  obtain ⟨W, hW⟩ : ∃ W, W = w.alloc (.cells #[.int .i64 x.op, .string x.nm, .slice ao x.kids.len cap] 48) := ⟨_, rfl⟩
  have hWz : W.heap.size = w.heap.size + 1 := by rw [hW]; simp
  have hWb : Below w.heap.size w W := by rw [hW]; exact (Below.refl _ _).alloc (Nat.le_refl _) _
  have hWc : W.cell? ⟨w.heap.size, 2, none⟩ = some (.slice ao x.kids.len cap) := by rw [hW]; simp
  have hxs : Hid (x.sz = 1 + x.kids.sz) := hd rfl
  generalize x.sz = XS at *
  go_enter Try.func28, Try.ntmps28
  go_wp2_with fail
  rw [← hW]
  have HW := hd hW
  clear hW
  go_loopw [1, 5] (fun a i wr => ∃ (k : Nat) (q : Int), k ≤ x.kids.len ∧ i = .int .i64 k ∧ a = .int .i64 q ∧ -1 ≤ q ∧ q ≤ 3000 ∧ (0 ≤ q → (XS : Int) + q ≤ z + ((x.kids.drp k).sz : Int)) ∧ Below W.heap.size W wr) (fun _ i _ => x.kids.len - (intOf i).toNat)
  case atStart => exact ⟨0, z - 1, Nat.zero_le _, rfl, rfl, by omega, by omega, by rw [Fo.drp_zero]; have := hxs.out; omega, Below.refl _ _⟩
  case round =>
    obtain ⟨k, q, hk, rfl, rfl, hq0, hq1, hqs, hb⟩ := hrel
    have hz := hb.size
    have bel : Below w.heap.size w wr := hWb.trans (hb.mono (by omega))
    have s1 : wr.cell? ⟨w.heap.size, 2, none⟩ = some (.slice ao x.kids.len cap) := by rw [hb.cell (p := ⟨w.heap.size, 2, none⟩) (by simp; omega)]; exact hWc
    by_cases hlt : k < x.kids.len
    · by_cases hq : 0 ≤ q
      · obtain h0 | ⟨ba, oa, rfl, hia⟩ := hin
        · omega
        have kA : ∀ b o v, All b → w.cell? ⟨b, o, none⟩ = some v → All b ∧ wr.cell? ⟨b, o, none⟩ = some v := keep_cell (fun _ _ h => h) (Kp.of_below bel).block
        obtain ⟨ua, a0, a1, a2, hxa⟩ := ((hia.mono kA).at_ k hlt).xv
        have hxa' := hxa
        obtain ⟨_, e, _, aoa', capa', rfl, _⟩ := hxa'
        simp at e; subst e
        have IH := ih k hlt
        have hsa := Fo.sz_at hlt
        have HLT := hd hlt
        generalize x.kids.at_ k = xk at *
        go_wp2_with fail
        refine (IH _ _ _ hxa hq hq1).mono ?_
        rintro e w2 ⟨q', rfl, h1, h2, h3, hb2⟩
        go_wp2_with fail
        go_roundw
        case rel => exact ⟨k + 1, q', by omega, by go_num, rfl, h1, h2, by omega, hb.trans (hb2.mono hb.size)⟩
        case measure => simp [intOf]; omega
      · go_wp2_with fail
        go_ret
        exact ⟨q, rfl, hq0, hq1, by omega, bel⟩
    · rw [Fo.drp_end (by omega)] at hqs
      simp only [Fo.sz] at hqs
      go_wp2_with fail
      go_ret
      exact ⟨q, rfl, hq0, hq1, by omega, bel⟩
theorem gz_all : ∀ (f : Fo) (i : Nat), i < f.len → GzOK (f.at_ i)
  | .nil, _, h => absurd h (Nat.not_lt_zero _)
  | .cons op nm kids _, 0, _ => gz_head ⟨op, nm, kids⟩ (gz_all kids)
  | .cons _ _ _ rest, i + 1, h => gz_all rest i (by simpa [Fo.len] using h)
theorem gz_any (x : Xp) : GzOK x := gz_head x (gz_all x.kids)
theorem Fo.sh_of : ∀ {f : Fo}, (∀ i, i < f.len → (f.at_ i).sh) → f.sh
  | .nil, _ => trivial
  | .cons _ _ _ r, h => ⟨h 0 (by simp [Fo.len]), Fo.sh_of (f := r) fun i hi => h (i + 1) (by simpa [Fo.len] using hi)⟩
def GnOK (x : Xp) : Prop := ∀ (va : Value) (w : World), XV w All va x →
  Calls Try.prog 49 #[va] w fun e w' => ∃ q : Bool, e = .returned (.bool q) ∧ (q = false → x.sh) ∧ Below w.heap.size w w'
set_option maxRecDepth 100000 in
set_option maxHeartbeats 4000000 in
theorem gn_head (x : Xp) (ih : ∀ i, i < x.kids.len → GnOK (x.kids.at_ i)) : GnOK x := by
  intro va w hx
  obtain ⟨u, rfl, hl, ao, cap, rfl, hin⟩ := hx
  obtain ⟨W, hW⟩ : ∃ W, W = w.alloc (.cells #[.int .i64 x.op, .string x.nm, .slice ao x.kids.len cap] 48) := ⟨_, rfl⟩
  have hWz : W.heap.size = w.heap.size + 1 := by rw [hW]; simp
  have hWb : Below w.heap.size w W := by rw [hW]; exact (Below.refl _ _).alloc (Nat.le_refl _) _
  have hWc : W.cell? ⟨w.heap.size, 2, none⟩ = some (.slice ao x.kids.len cap) := by rw [hW]; simp
  by_cases hnm : (5000 : Int) < (x.nm.size : Int)
  · go_enter Try.func49, Try.ntmps49
    go_wp2_with fail
    go_ret
    exact ⟨true, rfl, (fun h => by cases h), (Below.refl _ _).alloc (Nat.le_refl _) _⟩
  have HNM := hd hnm
  go_enter Try.func49, Try.ntmps49
  go_wp2_with fail
  rw [← hW]
  have HW := hd hW
  clear hW
  go_loopw [3] (fun i wr => ∃ (k : Nat), k ≤ x.kids.len ∧ i = .int .i64 k ∧ Hid (∀ j, j < k → (x.kids.at_ j).sh) ∧ Below W.heap.size W wr) (fun i _ => x.kids.len - (intOf i).toNat)
  case atStart => exact ⟨0, Nat.zero_le _, rfl, hd (fun j hj => absurd hj (Nat.not_lt_zero _)), Below.refl _ _⟩
  case round =>
    obtain ⟨k, hk, rfl, hall, hb⟩ := hrel
    have hz := hb.size
    have bel : Below w.heap.size w wr := hWb.trans (hb.mono (by omega))
    have s1 : wr.cell? ⟨w.heap.size, 2, none⟩ = some (.slice ao x.kids.len cap) := by rw [hb.cell (p := ⟨w.heap.size, 2, none⟩) (by simp; omega)]; exact hWc
    by_cases hlt : k < x.kids.len
    · obtain h0 | ⟨ba, oa, rfl, hia⟩ := hin
      · omega
      have kA : ∀ b o v, All b → w.cell? ⟨b, o, none⟩ = some v → All b ∧ wr.cell? ⟨b, o, none⟩ = some v := keep_cell (fun _ _ h => h) (Kp.of_below bel).block
      obtain ⟨ua, a0, a1, a2, hxa⟩ := ((hia.mono kA).at_ k hlt).xv
      have hxa' := hxa
      obtain ⟨_, e, _, aoa', capa', rfl, _⟩ := hxa'
      simp at e; subst e
      have IH := ih k hlt
      have HX : Hid (∀ y, y = x.kids.at_ k → y.sh → ∀ j, j < k + 1 → (x.kids.at_ j).sh) := hd (fun y hy hs j hj => by
        by_cases e : j = k
        · rw [e, ← hy]; exact hs
        · exact hall.out j (by omega))
      have HE : Hid (x.kids.at_ k = x.kids.at_ k) := hd rfl
      have HLT := hd hlt
      obtain ⟨xk, hxk⟩ : ∃ xk, xk = x.kids.at_ k := ⟨_, rfl⟩
      have HXK := hd hxk
      rw [← hxk] at a0 a1 a2 hxa IH
      clear hxk HE
      go_wp2_with fail
      refine (IH _ _ hxa).mono ?_
      rintro e w2 ⟨q', rfl, hqs, hb2⟩
      cases q' with
      | true =>
        go_wp2_with fail
        go_ret
        exact ⟨true, rfl, (fun h => by cases h), bel.trans (hb2.mono bel.size)⟩
      | false =>
        go_wp2_with fail
        go_roundw
        case rel => exact ⟨k + 1, by omega, by go_num, hd (HX.out xk HXK.out (hqs (by simp))), hb.trans (hb2.mono hb.size)⟩
        case measure => simp [intOf]; omega
    · go_wp2_with fail
      go_ret
      exact ⟨false, rfl, (fun _ => ⟨by have := HNM.out; omega, Fo.sh_of fun j hj => hall.out j (by omega)⟩), bel⟩
theorem gn_all : ∀ (f : Fo) (i : Nat), i < f.len → GnOK (f.at_ i)
  | .nil, _, h => absurd h (Nat.not_lt_zero _)
  | .cons op nm kids _, 0, _ => gn_head ⟨op, nm, kids⟩ (gn_all kids)
  | .cons _ _ _ rest, i + 1, h => gn_all rest i (by simpa [Fo.len] using h)
theorem gn_any (x : Xp) : GnOK x := gn_head x (gn_all x.kids)
set_option maxRecDepth 100000 in
set_option maxHeartbeats 4000000 in
theorem gnames_any (ds : List Df) (va : Value) (w : World) (hx : DsV w All va ds) :
    Calls Try.prog 29 #[.agg #[va]] w fun e w' => ∃ q : Bool, e = .returned (.bool q) ∧ (q = false → ∀ d ∈ ds, d.e.sh) ∧ Below w.heap.size w w' := by
  obtain ⟨hl, ao, cap, rfl, hin⟩ := hx
  obtain ⟨W, hW⟩ : ∃ W, W = w.alloc (.cells #[.slice ao ds.length cap] 24) := ⟨_, rfl⟩
  have hWz : W.heap.size = w.heap.size + 1 := by rw [hW]; simp
  have hWb : Below w.heap.size w W := by rw [hW]; exact (Below.refl _ _).alloc (Nat.le_refl _) _
  have hWc : W.cell? ⟨w.heap.size, 0, none⟩ = some (.slice ao ds.length cap) := by rw [hW]; simp
  go_enter Try.func29, Try.ntmps29
  go_wp2_with fail
  rw [← hW]
  have HW := hd hW
  clear hW
  go_loopw [3] (fun i wr => ∃ (k : Nat), k ≤ ds.length ∧ i = .int .i64 k ∧ Hid (∀ j (hj : j < ds.length), j < k → ds[j].e.sh) ∧ Below W.heap.size W wr) (fun i _ => ds.length - (intOf i).toNat)
  case atStart => exact ⟨0, Nat.zero_le _, rfl, hd (fun j _ hj => absurd hj (Nat.not_lt_zero _)), Below.refl _ _⟩
  case round =>
    obtain ⟨k, hk, rfl, hall, hb⟩ := hrel
    have hz := hb.size
    have bel : Below w.heap.size w wr := hWb.trans (hb.mono (by omega))
    have s1 : wr.cell? ⟨w.heap.size, 0, none⟩ = some (.slice ao ds.length cap) := by rw [hb.cell (p := ⟨w.heap.size, 0, none⟩) (by simp; omega)]; exact hWc
    by_cases hlt : k < ds.length
    · obtain h0 | ⟨ba, oa, rfl, hia⟩ := hin
      · omega
      have kA : ∀ b o v, All b → w.cell? ⟨b, o, none⟩ = some v → All b ∧ wr.cell? ⟨b, o, none⟩ = some v := keep_cell (fun _ _ h => h) (Kp.of_below bel).block
      obtain ⟨an, aa, ax⟩ := (hia.mono kA).at_ k hlt
      obtain ⟨ua, a0, a1, a2, hxa⟩ := ax.xv
      have hxa' := hxa
      obtain ⟨_, e, _, aoa', capa', rfl, _⟩ := hxa'
      simp at e; subst e
      have HX : Hid (ds[k].e.sh → ∀ j (hj : j < ds.length), j < k + 1 → ds[j].e.sh) := hd (fun hs j hj hj' => by
        by_cases e : j = k
        · subst e; exact hs
        · exact hall.out j hj (by omega))
      have HLT := hd hlt
      clear hall
      generalize ds[k] = dk at *
      have IH := gn_any dk.e
      go_wp2_with fail
      refine (IH _ _ hxa).mono ?_
      rintro e w2 ⟨q', rfl, hqs, hb2⟩
      cases q' with
      | true =>
        go_wp2_with fail
        go_ret
        exact ⟨true, rfl, (fun h => by cases h), bel.trans (hb2.mono bel.size)⟩
      | false =>
        go_wp2_with fail
        go_roundw
        case rel => exact ⟨k + 1, by omega, by go_num, hd (HX.out (hqs (by simp))), hb.trans (hb2.mono hb.size)⟩
        case measure => simp [intOf]; omega
    · go_wp2_with fail
      go_ret
      exact ⟨false, rfl, (fun _ d hd' => by
        obtain ⟨j, hj, rfl⟩ := List.mem_iff_getElem.1 hd'
        exact hall.out j hj (by omega)), bel⟩
set_option maxRecDepth 100000 in
set_option maxHeartbeats 4000000 in
theorem grt_all (ds : List Df) (va : Value) (w : World) (hx : DsV w All va ds) :
    Calls Try.prog 10 #[.agg #[va]] w fun e w' => ∃ q : Bool, e = .returned (.bool q) ∧ (q = false → ds.length ≤ 60 ∧ ∀ d ∈ ds, d.e.sz ≤ 3000 ∧ d.sh) ∧ Below w.heap.size w w' := by
  have hx0 := hx
  obtain ⟨hl, ao, cap, rfl, hin⟩ := hx
  obtain ⟨W, hW⟩ : ∃ W, W = w.alloc (.cells #[.slice ao ds.length cap] 24) := ⟨_, rfl⟩
  have hWz : W.heap.size = w.heap.size + 1 := by rw [hW]; simp
  have hWb : Below w.heap.size w W := by rw [hW]; exact (Below.refl _ _).alloc (Nat.le_refl _) _
  have hWc : W.cell? ⟨w.heap.size, 0, none⟩ = some (.slice ao ds.length cap) := by rw [hW]; simp
  by_cases h60 : (60 : Int) < (ds.length : Int)
  · go_enter Try.func10, Try.ntmps10
    go_wp2_with fail
    go_ret
    exact ⟨true, rfl, (fun h => by cases h), (Below.refl _ _).alloc (Nat.le_refl _) _⟩
  have H60 := hd h60
  go_enter Try.func10, Try.ntmps10
  go_wp2_with fail
  rw [← hW]
  have HW := hd hW
  clear hW
  go_loopw [3, 4] (fun a i wr => ∃ (k : Nat) (q : Int), k ≤ ds.length ∧ i = .int .i64 k ∧ a = .int .i64 q ∧ 0 ≤ q ∧ q ≤ 3000 ∧ Hid (∀ j (hj : j < ds.length), j < k → ds[j].e.sz ≤ 3000 ∧ ds[j].nm.size ≤ 5000) ∧ Below W.heap.size W wr) (fun _ i _ => ds.length - (intOf i).toNat)
  case atStart => exact ⟨0, 3000, Nat.zero_le _, rfl, rfl, by omega, by omega, hd (fun j _ hj => absurd hj (Nat.not_lt_zero _)), Below.refl _ _⟩
  case round =>
    obtain ⟨k, q, hk, rfl, rfl, hq0, hq1, hall, hb⟩ := hrel
    have hz := hb.size
    have bel : Below w.heap.size w wr := hWb.trans (hb.mono (by omega))
    have s1 : wr.cell? ⟨w.heap.size, 0, none⟩ = some (.slice ao ds.length cap) := by rw [hb.cell (p := ⟨w.heap.size, 0, none⟩) (by simp; omega)]; exact hWc
    by_cases hlt : k < ds.length
    · obtain h0 | ⟨ba, oa, rfl, hia⟩ := hin
      · omega
      have kA : ∀ b o v, All b → w.cell? ⟨b, o, none⟩ = some v → All b ∧ wr.cell? ⟨b, o, none⟩ = some v := keep_cell (fun _ _ h => h) (Kp.of_below bel).block
      obtain ⟨an, aa, ax⟩ := (hia.mono kA).at_ k hlt
      obtain ⟨ua, a0, a1, a2, hxa⟩ := ax.xv
      have hxa' := hxa
      obtain ⟨_, e, _, aoa', capa', rfl, _⟩ := hxa'
      simp at e; subst e
      have LT := hd hlt
      have HX : Hid (ds[k].e.sz ≤ 3000 → ds[k].nm.size ≤ 5000 → ∀ j (hj : j < ds.length), j < k + 1 → ds[j].e.sz ≤ 3000 ∧ ds[j].nm.size ≤ 5000) := hd (fun hs hn j hj hj' => by
        by_cases e : j = k
        · subst e; exact ⟨hs, hn⟩
        · exact hall.out j hj (by omega))
      clear hall
      generalize ds[k] = dk at *
      have IH := gz_any dk.e
      go_wp2_with fail
      refine (IH _ _ _ hxa hq0 hq1).mono ?_
      rintro e w2 ⟨q', rfl, h1, h2, h3, hb2⟩
      have s1' : w2.cell? ⟨w.heap.size, 0, none⟩ = some (.slice (some ⟨ba, oa, none⟩) ds.length cap) := by rw [hb2.cell (p := ⟨w.heap.size, 0, none⟩) (lt_of_cell s1)]; exact s1
      have an' : w2.cell? ⟨ba, oa + k * 5, none⟩ = some (.string dk.nm) := by rw [hb2.cell (p := ⟨ba, oa + k * 5, none⟩) (lt_of_cell an)]; exact an
      by_cases hq : q' < 0
      · go_wp2_with fail
        go_ret
        exact ⟨true, rfl, (fun h => by cases h), bel.trans (hb2.mono bel.size)⟩
      · by_cases hnm : (5000 : Int) < (dk.nm.size : Int)
        · go_wp2_with fail
          go_ret
          exact ⟨true, rfl, (fun h => by cases h), bel.trans (hb2.mono bel.size)⟩
        · go_wp2_with fail
          go_roundw
          case rel => exact ⟨k + 1, q', by omega, by go_num, rfl, by omega, h2, hd (HX.out (by omega) (by omega)), hb.trans (hb2.mono hb.size)⟩
          case measure => simp [intOf]; omega
    · go_wp2_with fail
      refine (gnames_any ds _ _ (hx0.kp (Kp.of_below bel) (fun _ _ h => h))).mono ?_
      rintro e w2 ⟨q', rfl, hqs, hb2⟩
      go_wp2_with fail
      go_ret
      exact ⟨q', rfl, (fun hq => ⟨by have := H60.out; omega, fun d hd' => by
        have hs := hqs hq d hd'
        obtain ⟨j, hj, rfl⟩ := List.mem_iff_getElem.1 hd'
        have := hall.out j hj (by omega)
        exact ⟨this.1, this.2, hs⟩⟩), bel.trans (hb2.mono bel.size)⟩
theorem grt_any (ds : List Df) (va : Value) (w : World) (hx : DsV w All va ds) :
    Calls Try.prog 10 #[.agg #[va]] w fun e w' => ∃ q : Bool, e = .returned (.bool q) ∧ (q = false → ∀ d ∈ ds, d.e.sz ≤ 3000 ∧ d.sh) ∧ Below w.heap.size w w' :=
  (grt_all ds va w hx).mono fun _ _ ⟨q, h1, h2, h3⟩ => ⟨q, h1, fun h => (h2 h).2, h3⟩
end Go.Proofs.Ytdikjhfnmkejcab
