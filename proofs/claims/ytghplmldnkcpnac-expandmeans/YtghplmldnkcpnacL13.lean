/- Texts laid together: Ew Db Grt Great Open Tn Ot StT Dl Gf El Yc. -/
import Derived.Test.YtghplmldnkcpnacL10
import Derived.Test.YtghplmldnkcpnacL12
import Derived.Test.YtghplmldnkcpnacL11
import Derived.Test.YtghplmldnkcpnacL06
import Derived.ChangeArms
import Derived.DataReads
import Derived.WideShapes
import Derived.OpenShut
import Derived.Test.YtghplmldnkcpnacL08
import Derived.Deep.RegionHeldLaw
import Derived.Test.YtghplmldnkcpnacL03
import Derived.Deep.CutRange
/- The document's way from definitions to a grammar: Expanded. -/
namespace Go.Proofs.Ytghplmldnkcpnac
open Go.RowKit G

/-- The blocks of Expanded's own: the text, and what is told. -/
structure Rx (u : World) (b : Nat) (tv : Value) : Prop where
  t0 : u.cell? ⟨b, 0, none⟩ = some tv
  o0 : u.cell? ⟨b + 1, 0, none⟩ = some (.int .i64 0)
  o1 : u.cell? ⟨b + 1, 1, none⟩ = some (.int .i64 0)
  o2 : u.cell? ⟨b + 1, 2, none⟩ = some (.int .i64 0)
  o3 : u.cell? ⟨b + 1, 3, none⟩ = some (.slice none 0 0)
  f0 : u.cell? ⟨b + 2, 0, none⟩ = some (.int .i64 0)
  f1 : u.cell? ⟨b + 2, 1, none⟩ = some (.int .i64 0)
  zo : ∀ i, u.frozen? ⟨b + 1, i, none⟩ = false
  zf : ∀ i, u.frozen? ⟨b + 2, i, none⟩ = false
theorem Rx.of {u u' : World} {b : Nat} {tv : Value} (h : Rx u b tv) (hb : ∀ k, k < b + 3 → u'.heap[k]? = u.heap[k]?) : Rx u' b tv := by
  have hc : ∀ k i v, k < b + 3 → u.cell? ⟨k, i, none⟩ = some v → u'.cell? ⟨k, i, none⟩ = some v := fun k i v hk h => by rw [World.cell?_of_block (w := u) (a := ⟨k, i, none⟩) (hb k hk)]; exact h
  exact ⟨hc _ _ _ (by omega) h.t0, hc _ _ _ (by omega) h.o0, hc _ _ _ (by omega) h.o1, hc _ _ _ (by omega) h.o2, hc _ _ _ (by omega) h.o3, hc _ _ _ (by omega) h.f0, hc _ _ _ (by omega) h.f1,
    fun i => by rw [World.frozen?_of_block (w := u) (a := ⟨b + 1, i, none⟩) (hb (b + 1) (by omega))]; exact h.zo i, fun i => by rw [World.frozen?_of_block (w := u) (a := ⟨b + 2, i, none⟩) (hb (b + 2) (by omega))]; exact h.zf i⟩
/-- What is told, written. -/
theorem Rx.told {u : World} {b : Nat} {tv g0 g1 g2 g3 c a : Value} (h : Rx u b tv) : ∃ Z, Z = (((((u.setCell ⟨b + 1, 0, none⟩ g0).setCell ⟨b + 1, 1, none⟩ g1).setCell ⟨b + 1, 2, none⟩ g2).setCell ⟨b + 1, 3, none⟩ g3).setCell ⟨b + 1 + 1, 0, none⟩ c).setCell ⟨b + 1 + 1, 1, none⟩ a ∧
    (Z.cell? ⟨b + 1, 0, none⟩ = some g0 ∧ Z.cell? ⟨b + 1, 1, none⟩ = some g1 ∧ Z.cell? ⟨b + 1, 2, none⟩ = some g2 ∧ Z.cell? ⟨b + 1, 3, none⟩ = some g3 ∧ Z.cell? ⟨b + 1 + 1, 0, none⟩ = some c ∧ Z.cell? ⟨b + 1 + 1, 1, none⟩ = some a) ∧ (∀ j, j ≠ b + 1 → j ≠ b + 2 → Z.heap[j]? = u.heap[j]?) ∧ Below (b + 1) u Z := by
  obtain ⟨t0, o0, o1, o2, o3, f0, f1, zo, zf⟩ := h
  refine ⟨_, rfl, ⟨?_, ?_, ?_, ?_, ?_, ?_⟩, fun j h1 h2 => ?_, ?_⟩
  · simp [go_sem, o0]
  · simp [go_sem, o1]
  · simp [go_sem, o2]
  · simp [go_sem, o3]
  · simp [go_sem, f0]
  · simp [go_sem, f1]
  · rw [Below.heap_setCell _ _ _ _ (by exact h2), Below.heap_setCell _ _ _ _ (by exact h2), Below.heap_setCell _ _ _ _ (by exact h1), Below.heap_setCell _ _ _ _ (by exact h1), Below.heap_setCell _ _ _ _ (by exact h1), Below.heap_setCell _ _ _ _ (by exact h1)]
  · exact ((((((Below.refl _ _).setCell (p := ⟨b + 1, 0, none⟩) (Nat.le_refl _) _).setCell (p := ⟨b + 1, 1, none⟩) (Nat.le_refl _) _).setCell (p := ⟨b + 1, 2, none⟩) (Nat.le_refl _) _).setCell (p := ⟨b + 1, 3, none⟩) (Nat.le_refl _) _).setCell (p := ⟨b + 1 + 1, 0, none⟩) (Nat.le_succ _) _).setCell (p := ⟨b + 1 + 1, 1, none⟩) (Nat.le_succ _) _
end Go.Proofs.Ytghplmldnkcpnac

/- The laws' own beginning: a small text that is looked at. -/
namespace Go.Proofs.Ytghplmldnkcpnac
open Go.RowKit
end Go.Proofs.Ytghplmldnkcpnac

/- Whether a text is great: if it is not, it has few expressions and short names. -/
namespace Go.Proofs.Ytghplmldnkcpnac
open Go.RowKit
def GzOK (x : Xp) : Prop := ∀ (z : Int) (va : Value) (w : World), XV w All va x → 0 ≤ z → z ≤ 3000 →
  Calls Try.prog 57 #[va, .int .i64 z] w fun e w' => ∃ q : Int, e = .returned (.int .i64 q) ∧ -1 ≤ q ∧ q ≤ 3000 ∧ (0 ≤ q → (x.sz : Int) + q ≤ z) ∧ Below w.heap.size w w'
set_option maxRecDepth 100000 in
set_option maxHeartbeats 4000000 in
theorem gz_head (x : Xp) (ih : ∀ i, i < x.kids.len → GzOK (x.kids.at_ i)) : GzOK x := by
  intro z va w hx hz0 hz1
  obtain ⟨u, rfl, hl, ao, cap, rfl, hin⟩ := hx
  obtain ⟨W, hW⟩ : ∃ W, W = w.alloc (.cells #[.int .i64 x.op, .string x.nm, .slice ao x.kids.len cap] 64) := ⟨_, rfl⟩
  have hWz : W.heap.size = w.heap.size + 1 := by rw [hW]; simp
  have hWb : Below w.heap.size w W := by rw [hW]; exact (Below.refl _ _).alloc (Nat.le_refl _) _
  have hWc : W.cell? ⟨w.heap.size, 2, none⟩ = some (.slice ao x.kids.len cap) := by rw [hW]; simp
  have hxs : Hid (x.sz = 1 + x.kids.sz) := hd rfl
  generalize x.sz = XS at *
  go_enter Try.func57, Try.ntmps57
  go_wp2_with fail
  rw [← hW]
  have HW := hd hW
  clear hW
  go_loopw [1, 5] (fun a i wr => ∃ (k : Nat) (q : Int), k ≤ x.kids.len ∧ i = .int .i64 k ∧ a = .int .i64 q ∧ -1 ≤ q ∧ q ≤ 3000 ∧ (0 ≤ q → (XS : Int) + q ≤ z + ((x.kids.drp k).sz : Int)) ∧ Below W.heap.size W wr) (fun _ i _ => x.kids.len - (intOf i).toNat)
  case atStart => exact ⟨0, z - 1, Nat.zero_le _, rfl, rfl, by omega, by omega, by rw [Fo.drp_zero]; have := hxs.out; omega, Below.refl _ _⟩
  case round =>
    obtain ⟨k, q, hk, rfl, rfl, hq0, hq1, hqs, hb⟩ := hrel
    have hz := hb.size
    have bel : Below w.heap.size w wr := hWb.trans (hb.mono (by omega))
    have s1 : wr.cell? ⟨w.heap.size, 2, none⟩ = some (.slice ao x.kids.len cap) := by rw [hb.cell (p := ⟨w.heap.size, 2, none⟩) (by simp; omega)]; exact hWc
    by_cases hlt : k < x.kids.len
    · by_cases hq : 0 ≤ q
      · obtain h0 | ⟨ba, oa, rfl, hia⟩ := hin
        · omega
        have kA : ∀ b o v, All b → w.cell? ⟨b, o, none⟩ = some v → All b ∧ wr.cell? ⟨b, o, none⟩ = some v := keep_cell (fun _ _ h => h) (Kp.of_below bel).block
        obtain ⟨ua, a0, a1, a2, hxa⟩ := ((hia.mono kA).at_ k hlt).xv
        have hxa' := hxa
        obtain ⟨_, e, _, aoa', capa', rfl, _⟩ := hxa'
        simp at e; subst e
        have IH := ih k hlt
        have hsa := Fo.sz_at hlt
        have HLT := hd hlt
        generalize x.kids.at_ k = xk at *
        go_wp2_with fail
        refine (IH _ _ _ hxa hq hq1).mono ?_
        rintro e w2 ⟨q', rfl, h1, h2, h3, hb2⟩
        go_wp2_with fail
        go_roundw
        case rel => exact ⟨k + 1, q', by omega, by go_num, rfl, h1, h2, by omega, hb.trans (hb2.mono hb.size)⟩
        case measure => simp [intOf]; omega
      · go_wp2_with fail
        go_ret
        exact ⟨q, rfl, hq0, hq1, by omega, bel⟩
    · rw [Fo.drp_end (by omega)] at hqs
      simp only [Fo.sz] at hqs
      go_wp2_with fail
      go_ret
      exact ⟨q, rfl, hq0, hq1, by omega, bel⟩
theorem gz_all : ∀ (f : Fo) (i : Nat), i < f.len → GzOK (f.at_ i)
  | .nil, _, h => absurd h (Nat.not_lt_zero _)
  | .cons op nm kids _, 0, _ => gz_head ⟨op, nm, kids⟩ (gz_all kids)
  | .cons _ _ _ rest, i + 1, h => gz_all rest i (by simpa [Fo.len] using h)
theorem gz_any (x : Xp) : GzOK x := gz_head x (gz_all x.kids)
theorem Fo.sh_of : ∀ {f : Fo}, (∀ i, i < f.len → (f.at_ i).sh) → f.sh
  | .nil, _ => trivial
  | .cons _ _ _ r, h => ⟨h 0 (by simp [Fo.len]), Fo.sh_of (f := r) fun i hi => h (i + 1) (by simpa [Fo.len] using hi)⟩
def GnOK (x : Xp) : Prop := ∀ (va : Value) (w : World), XV w All va x →
  Calls Try.prog 88 #[va] w fun e w' => ∃ q : Bool, e = .returned (.bool q) ∧ (q = false → x.sh) ∧ Below w.heap.size w w'
set_option maxRecDepth 100000 in
set_option maxHeartbeats 4000000 in
theorem gn_head (x : Xp) (ih : ∀ i, i < x.kids.len → GnOK (x.kids.at_ i)) : GnOK x := by
  intro va w hx
  obtain ⟨u, rfl, hl, ao, cap, rfl, hin⟩ := hx
  obtain ⟨W, hW⟩ : ∃ W, W = w.alloc (.cells #[.int .i64 x.op, .string x.nm, .slice ao x.kids.len cap] 64) := ⟨_, rfl⟩
  have hWz : W.heap.size = w.heap.size + 1 := by rw [hW]; simp
  have hWb : Below w.heap.size w W := by rw [hW]; exact (Below.refl _ _).alloc (Nat.le_refl _) _
  have hWc : W.cell? ⟨w.heap.size, 2, none⟩ = some (.slice ao x.kids.len cap) := by rw [hW]; simp
  by_cases hnm : (5000 : Int) < (x.nm.size : Int)
  · go_enter Try.func88, Try.ntmps88
    go_wp2_with fail
    go_ret
    exact ⟨true, rfl, (fun h => by cases h), (Below.refl _ _).alloc (Nat.le_refl _) _⟩
  have HNM := hd hnm
  go_enter Try.func88, Try.ntmps88
  go_wp2_with fail
  rw [← hW]
  have HW := hd hW
  clear hW
  go_loopw [3] (fun i wr => ∃ (k : Nat), k ≤ x.kids.len ∧ i = .int .i64 k ∧ Hid (∀ j, j < k → (x.kids.at_ j).sh) ∧ Below W.heap.size W wr) (fun i _ => x.kids.len - (intOf i).toNat)
  case atStart => exact ⟨0, Nat.zero_le _, rfl, hd (fun j hj => absurd hj (Nat.not_lt_zero _)), Below.refl _ _⟩
  case round =>
    obtain ⟨k, hk, rfl, hall, hb⟩ := hrel
    have hz := hb.size
    have bel : Below w.heap.size w wr := hWb.trans (hb.mono (by omega))
    have s1 : wr.cell? ⟨w.heap.size, 2, none⟩ = some (.slice ao x.kids.len cap) := by rw [hb.cell (p := ⟨w.heap.size, 2, none⟩) (by simp; omega)]; exact hWc
    by_cases hlt : k < x.kids.len
    · obtain h0 | ⟨ba, oa, rfl, hia⟩ := hin
      · omega
      have kA : ∀ b o v, All b → w.cell? ⟨b, o, none⟩ = some v → All b ∧ wr.cell? ⟨b, o, none⟩ = some v := keep_cell (fun _ _ h => h) (Kp.of_below bel).block
      obtain ⟨ua, a0, a1, a2, hxa⟩ := ((hia.mono kA).at_ k hlt).xv
      have hxa' := hxa
      obtain ⟨_, e, _, aoa', capa', rfl, _⟩ := hxa'
      simp at e; subst e
      have IH := ih k hlt
      have HX : Hid (∀ y, y = x.kids.at_ k → y.sh → ∀ j, j < k + 1 → (x.kids.at_ j).sh) := hd (fun y hy hs j hj => by
        by_cases e : j = k
        · rw [e, ← hy]; exact hs
        · exact hall.out j (by omega))
      have HE : Hid (x.kids.at_ k = x.kids.at_ k) := hd rfl
      have HLT := hd hlt
      obtain ⟨xk, hxk⟩ : ∃ xk, xk = x.kids.at_ k := ⟨_, rfl⟩
      have HXK := hd hxk
      rw [← hxk] at a0 a1 a2 hxa IH
      clear hxk HE
      go_wp2_with fail
      refine (IH _ _ hxa).mono ?_
      rintro e w2 ⟨q', rfl, hqs, hb2⟩
      cases q' with
      | true =>
        go_wp2_with fail
        go_ret
        exact ⟨true, rfl, (fun h => by cases h), bel.trans (hb2.mono bel.size)⟩
      | false =>
        go_wp2_with fail
        go_roundw
        case rel => exact ⟨k + 1, by omega, by go_num, hd (HX.out xk HXK.out (hqs (by simp))), hb.trans (hb2.mono hb.size)⟩
        case measure => simp [intOf]; omega
    · go_wp2_with fail
      go_ret
      exact ⟨false, rfl, (fun _ => ⟨by have := HNM.out; omega, Fo.sh_of fun j hj => hall.out j (by omega)⟩), bel⟩
theorem gn_all : ∀ (f : Fo) (i : Nat), i < f.len → GnOK (f.at_ i)
  | .nil, _, h => absurd h (Nat.not_lt_zero _)
  | .cons op nm kids _, 0, _ => gn_head ⟨op, nm, kids⟩ (gn_all kids)
  | .cons _ _ _ rest, i + 1, h => gn_all rest i (by simpa [Fo.len] using h)
theorem gn_any (x : Xp) : GnOK x := gn_head x (gn_all x.kids)
set_option maxRecDepth 100000 in
set_option maxHeartbeats 4000000 in
theorem gnames_any (ds : List Df) (va : Value) (w : World) (hx : DsV w All va ds) :
    Calls Try.prog 58 #[.agg #[va]] w fun e w' => ∃ q : Bool, e = .returned (.bool q) ∧ (q = false → ∀ d ∈ ds, d.e.sh) ∧ Below w.heap.size w w' := by
  obtain ⟨hl, ao, cap, rfl, hin⟩ := hx
  obtain ⟨W, hW⟩ : ∃ W, W = w.alloc (.cells #[.slice ao ds.length cap] 42) := ⟨_, rfl⟩
  have hWz : W.heap.size = w.heap.size + 1 := by rw [hW]; simp
  have hWb : Below w.heap.size w W := by rw [hW]; exact (Below.refl _ _).alloc (Nat.le_refl _) _
  have hWc : W.cell? ⟨w.heap.size, 0, none⟩ = some (.slice ao ds.length cap) := by rw [hW]; simp
  go_enter Try.func58, Try.ntmps58
  go_wp2_with fail
  rw [← hW]
  have HW := hd hW
  clear hW
  go_loopw [3] (fun i wr => ∃ (k : Nat), k ≤ ds.length ∧ i = .int .i64 k ∧ Hid (∀ j (hj : j < ds.length), j < k → ds[j].e.sh) ∧ Below W.heap.size W wr) (fun i _ => ds.length - (intOf i).toNat)
  case atStart => exact ⟨0, Nat.zero_le _, rfl, hd (fun j _ hj => absurd hj (Nat.not_lt_zero _)), Below.refl _ _⟩
  case round =>
    obtain ⟨k, hk, rfl, hall, hb⟩ := hrel
    have hz := hb.size
    have bel : Below w.heap.size w wr := hWb.trans (hb.mono (by omega))
    have s1 : wr.cell? ⟨w.heap.size, 0, none⟩ = some (.slice ao ds.length cap) := by rw [hb.cell (p := ⟨w.heap.size, 0, none⟩) (by simp; omega)]; exact hWc
    by_cases hlt : k < ds.length
    · obtain h0 | ⟨ba, oa, rfl, hia⟩ := hin
      · omega
      have kA : ∀ b o v, All b → w.cell? ⟨b, o, none⟩ = some v → All b ∧ wr.cell? ⟨b, o, none⟩ = some v := keep_cell (fun _ _ h => h) (Kp.of_below bel).block
      obtain ⟨an, aa, ax⟩ := (hia.mono kA).at_ k hlt
      obtain ⟨ua, a0, a1, a2, hxa⟩ := ax.xv
      have hxa' := hxa
      obtain ⟨_, e, _, aoa', capa', rfl, _⟩ := hxa'
      simp at e; subst e
      have HX : Hid (ds[k].e.sh → ∀ j (hj : j < ds.length), j < k + 1 → ds[j].e.sh) := hd (fun hs j hj hj' => by
        by_cases e : j = k
        · subst e; exact hs
        · exact hall.out j hj (by omega))
      have HLT := hd hlt
      clear hall
      generalize ds[k] = dk at *
      have IH := gn_any dk.e
      go_wp2_with fail
      refine (IH _ _ hxa).mono ?_
      rintro e w2 ⟨q', rfl, hqs, hb2⟩
      cases q' with
      | true =>
        go_wp2_with fail
        go_ret
        exact ⟨true, rfl, (fun h => by cases h), bel.trans (hb2.mono bel.size)⟩
      | false =>
        go_wp2_with fail
        go_roundw
        case rel => exact ⟨k + 1, by omega, by go_num, hd (HX.out (hqs (by simp))), hb.trans (hb2.mono hb.size)⟩
        case measure => simp [intOf]; omega
    · go_wp2_with fail
      go_ret
      exact ⟨false, rfl, (fun _ d hd' => by
        obtain ⟨j, hj, rfl⟩ := List.mem_iff_getElem.1 hd'
        exact hall.out j hj (by omega)), bel⟩
set_option maxRecDepth 100000 in
set_option maxHeartbeats 4000000 in
theorem grt_all (ds : List Df) (va : Value) (w : World) (hx : DsV w All va ds) :
    Calls Try.prog 23 #[.agg #[va]] w fun e w' => ∃ q : Bool, e = .returned (.bool q) ∧ (q = false → ds.length ≤ 60 ∧ ∀ d ∈ ds, d.e.sz ≤ 3000 ∧ d.sh) ∧ Below w.heap.size w w' := by
  have hx0 := hx
  obtain ⟨hl, ao, cap, rfl, hin⟩ := hx
  obtain ⟨W, hW⟩ : ∃ W, W = w.alloc (.cells #[.slice ao ds.length cap] 42) := ⟨_, rfl⟩
  have hWz : W.heap.size = w.heap.size + 1 := by rw [hW]; simp
  have hWb : Below w.heap.size w W := by rw [hW]; exact (Below.refl _ _).alloc (Nat.le_refl _) _
  have hWc : W.cell? ⟨w.heap.size, 0, none⟩ = some (.slice ao ds.length cap) := by rw [hW]; simp
  by_cases h60 : (60 : Int) < (ds.length : Int)
  · go_enter Try.func23, Try.ntmps23
    go_wp2_with fail
    go_ret
    exact ⟨true, rfl, (fun h => by cases h), (Below.refl _ _).alloc (Nat.le_refl _) _⟩
  have H60 := hd h60
  go_enter Try.func23, Try.ntmps23
  go_wp2_with fail
  rw [← hW]
  have HW := hd hW
  clear hW
  go_loopw [3, 4] (fun a i wr => ∃ (k : Nat) (q : Int), k ≤ ds.length ∧ i = .int .i64 k ∧ a = .int .i64 q ∧ 0 ≤ q ∧ q ≤ 3000 ∧ Hid (∀ j (hj : j < ds.length), j < k → ds[j].e.sz ≤ 3000 ∧ ds[j].nm.size ≤ 5000) ∧ Below W.heap.size W wr) (fun _ i _ => ds.length - (intOf i).toNat)
  case atStart => exact ⟨0, 3000, Nat.zero_le _, rfl, rfl, by omega, by omega, hd (fun j _ hj => absurd hj (Nat.not_lt_zero _)), Below.refl _ _⟩
  case round =>
    obtain ⟨k, q, hk, rfl, rfl, hq0, hq1, hall, hb⟩ := hrel
    have hz := hb.size
    have bel : Below w.heap.size w wr := hWb.trans (hb.mono (by omega))
    have s1 : wr.cell? ⟨w.heap.size, 0, none⟩ = some (.slice ao ds.length cap) := by rw [hb.cell (p := ⟨w.heap.size, 0, none⟩) (by simp; omega)]; exact hWc
    by_cases hlt : k < ds.length
    · obtain h0 | ⟨ba, oa, rfl, hia⟩ := hin
      · omega
      have kA : ∀ b o v, All b → w.cell? ⟨b, o, none⟩ = some v → All b ∧ wr.cell? ⟨b, o, none⟩ = some v := keep_cell (fun _ _ h => h) (Kp.of_below bel).block
      obtain ⟨an, aa, ax⟩ := (hia.mono kA).at_ k hlt
      obtain ⟨ua, a0, a1, a2, hxa⟩ := ax.xv
      have hxa' := hxa
      obtain ⟨_, e, _, aoa', capa', rfl, _⟩ := hxa'
      simp at e; subst e
      have LT := hd hlt
      have HX : Hid (ds[k].e.sz ≤ 3000 → ds[k].nm.size ≤ 5000 → ∀ j (hj : j < ds.length), j < k + 1 → ds[j].e.sz ≤ 3000 ∧ ds[j].nm.size ≤ 5000) := hd (fun hs hn j hj hj' => by
        by_cases e : j = k
        · subst e; exact ⟨hs, hn⟩
        · exact hall.out j hj (by omega))
      clear hall
      generalize ds[k] = dk at *
      have IH := gz_any dk.e
      go_wp2_with fail
      refine (IH _ _ _ hxa hq0 hq1).mono ?_
      rintro e w2 ⟨q', rfl, h1, h2, h3, hb2⟩
      have s1' : w2.cell? ⟨w.heap.size, 0, none⟩ = some (.slice (some ⟨ba, oa, none⟩) ds.length cap) := by rw [hb2.cell (p := ⟨w.heap.size, 0, none⟩) (lt_of_cell s1)]; exact s1
      have an' : w2.cell? ⟨ba, oa + k * 5, none⟩ = some (.string dk.nm) := by rw [hb2.cell (p := ⟨ba, oa + k * 5, none⟩) (lt_of_cell an)]; exact an
      by_cases hq : q' < 0
      · go_wp2_with fail
        go_ret
        exact ⟨true, rfl, (fun h => by cases h), bel.trans (hb2.mono bel.size)⟩
      · by_cases hnm : (5000 : Int) < (dk.nm.size : Int)
        · go_wp2_with fail
          go_ret
          exact ⟨true, rfl, (fun h => by cases h), bel.trans (hb2.mono bel.size)⟩
        · go_wp2_with fail
          go_roundw
          case rel => exact ⟨k + 1, q', by omega, by go_num, rfl, by omega, h2, hd (HX.out (by omega) (by omega)), hb.trans (hb2.mono hb.size)⟩
          case measure => simp [intOf]; omega
    · go_wp2_with fail
      refine (gnames_any ds _ _ (hx0.kp (Kp.of_below bel) (fun _ _ h => h))).mono ?_
      rintro e w2 ⟨q', rfl, hqs, hb2⟩
      go_wp2_with fail
      go_ret
      exact ⟨q', rfl, (fun hq => ⟨by have := H60.out; omega, fun d hd' => by
        have hs := hqs hq d hd'
        obtain ⟨j, hj, rfl⟩ := List.mem_iff_getElem.1 hd'
        have := hall.out j hj (by omega)
        exact ⟨this.1, this.2, hs⟩⟩), bel.trans (hb2.mono bel.size)⟩
end Go.Proofs.Ytghplmldnkcpnac

/- Whether a text is great: it is asked, it ends, and nothing turns. -/
namespace Go.Proofs.Ytghplmldnkcpnac
open Go.RowKit
theorem DsV.below {w w' : World} {S : Nat → Prop} {v : Value} {x : List Df} (h : DsV w S v x) (hb : Below w.heap.size w w') : DsV w' S v x := h.kp (Kp.of_below hb) (fun _ _ h => h)
end Go.Proofs.Ytghplmldnkcpnac

/- A text that comes in: what its reading says of its cells. -/
namespace Go.Proofs.Ytghplmldnkcpnac
open Go.RowKit Go.WideShapes
def Fo.of (f : Nat → Xp) : Nat → Nat → Fo
  | _, 0 => .nil
  | s, n + 1 => .cons (f s).op (f s).nm (f s).kids (Fo.of f (s + 1) n)
theorem Fo.of_len (f : Nat → Xp) : ∀ s n, (Fo.of f s n).len = n
  | _, 0 => rfl
  | s, n + 1 => by simp [Fo.of, Fo.len, Fo.of_len f (s + 1) n]
def dsOf (f : Nat → Df) : Nat → Nat → List Df
  | _, 0 => []
  | s, n + 1 => f s :: dsOf f (s + 1) n
theorem dsOf_len (f : Nat → Df) : ∀ s n, (dsOf f s n).length = n
  | _, 0 => rfl
  | s, n + 1 => by simp [dsOf, dsOf_len f (s + 1) n]
theorem pick_lt {α : Type} [Inhabited α] {n : Nat} {p : Nat → α → Prop} (h : ∀ i, i < n → ∃ x, p i x) : ∃ f : Nat → α, ∀ i, i < n → p i (f i) := by
  classical
  refine ⟨fun i => if hi : i < n then Classical.choose (h i hi) else default, fun i hi => ?_⟩
  simp only [dif_pos hi]
  exact Classical.choose_spec (h i hi)
section
variable {H : Type} {enc : TypeId × Value → H} {w : World} {base : Nat} {spare : Nat → Bool} {held : Bool}
theorem cellsExpr : Try.prog.cellsOf 64 = 3 := by kernel_rfl
theorem cellsDef : Try.prog.cellsOf 66 = 5 := by kernel_rfl
theorem cellsText : Try.prog.cellsOf 42 = 1 := by kernel_rfl
theorem cellsInt : Try.prog.cellsOf 3 = 1 := by kernel_rfl
theorem cellsStr : Try.prog.cellsOf 9 = 1 := by kernel_rfl
theorem cellsExprs : Try.prog.cellsOf 62 = 1 := by kernel_rfl
theorem cellsDefs : Try.prog.cellsOf 40 = 1 := by kernel_rfl
/-- An address of a cell that is there. -/
theorem plain_addr {a : Addr} {v : Value} (h : w.cell? (a.add 0) = some v) : ∃ b o, a = ⟨b, o, none⟩ := by
  obtain ⟨b, o, s⟩ := a
  have hs : s = none := by simpa [Addr.add] using World.cell?_spot h
  exact ⟨b, o, by rw [hs]⟩
theorem addr_add (b o i : Nat) : (⟨b, o, none⟩ : Addr).add i = ⟨b, o + i, none⟩ := by
  unfold Addr.add
  by_cases h : i = 0 <;> simp [h]
end
end Go.Proofs.Ytghplmldnkcpnac

/- Definitions turned round, in memory. -/
namespace Go.Proofs.Ytghplmldnkcpnac
open Go.RowKit
/-- A step: what was there is as it was. -/
structure Stp (a b : World) : Prop where
  h : Below a.heap.size a b
theorem DsIn.drop {w : World} {S : Nat → Prop} {b : Nat} : ∀ {ds : List Df} {o : Nat} (k : Nat), DsIn w S ds b o → DsIn w S (ds.drop k) b (o + k * 5)
  | _, _, 0, h => h
  | [], _, _ + 1, _ => trivial
  | _ :: l, o, k + 1, ⟨_, _, _, _, h⟩ => by
    have := DsIn.drop (ds := l) k h
    rw [show o + 5 + k * 5 = o + (k + 1) * 5 by omega] at this
    exact this
theorem DsIn.take {w : World} {S : Nat → Prop} {b : Nat} : ∀ {ds : List Df} {o : Nat} (k : Nat), DsIn w S ds b o → DsIn w S (ds.take k) b o
  | [], _, 0, _ => trivial
  | _ :: _, _, 0, _ => trivial
  | [], _, _ + 1, _ => trivial
  | _ :: l, _, k + 1, ⟨h1, h2, h3, h4, h⟩ => ⟨h1, h2, h3, h4, DsIn.take (ds := l) k h⟩
/-- The cells of what lies in memory. -/
theorem DsIn.cells {w : World} {S : Nat → Prop} {b : Nat} : ∀ {ds : List Df} {o : Nat}, DsIn w S ds b o → ∃ xs : List Value, xs.length = ds.length * 5 ∧ DC w S xs ds ∧ (∀ u ∈ xs, u.oneCell' = true) ∧ ∀ j u, xs[j]? = some u → w.cell? ⟨b, o + j, none⟩ = some u
  | [], _, _ => ⟨[], rfl, trivial, by simp, fun j u h => by simp at h⟩
  | d :: l, o, ⟨_, h2, h3, ⟨h4, h5, u, h6, h7⟩, h8⟩ => by
    obtain ⟨xs, e1, e2, e3, e4⟩ := DsIn.cells h8
    have h7' := h7
    obtain ⟨_, ao, cap, rfl, _⟩ := h7'
    refine ⟨.string d.nm :: .int .i64 d.at_ :: .int .i64 d.e.op :: .string d.e.nm :: .slice ao d.e.kids.len cap :: xs, by simp [e1]; omega, ⟨rfl, rfl, rfl, rfl, h7, e2⟩, ?_, ?_⟩
    · intro u hu
      simp only [List.mem_cons] at hu
      rcases hu with rfl | rfl | rfl | rfl | rfl | hu
      iterate 5 rfl
      exact e3 u hu
    · intro j v hj
      match j, hj with
      | 0, hj => simp at hj; subst hj; simpa using h2
      | 1, hj => simp at hj; subst hj; simpa using h3
      | 2, hj => simp at hj; subst hj; simpa using h4
      | 3, hj => simp at hj; subst hj; simpa using h5
      | 4, hj => simp at hj; subst hj; simpa using h6
      | j + 5, hj =>
        have := e4 j v (by simpa using hj)
        rwa [show o + 5 + j = o + (j + 5) by omega] at this
theorem DC.app {w : World} {S : Nat → Prop} : ∀ {xs ys : List Value} {ds es : List Df}, DC w S xs ds → DC w S ys es → DC w S (xs ++ ys) (ds ++ es)
  | [], _, [], _, _, h => h
  | a :: b :: c :: d :: e :: xs, _, x :: l, _, ⟨h1, h2, h3, h4, h5, h6⟩, h => ⟨h1, h2, h3, h4, h5, DC.app h6 h⟩
  | [], _, _ :: _, _, h, _ => by simp [DC] at h
  | [_], _, _, _, h, _ => by simp [DC] at h
  | [_, _], _, _, _, h, _ => by simp [DC] at h
  | [_, _, _], _, _, _, h, _ => by simp [DC] at h
  | [_, _, _, _], _, _, _, h, _ => by simp [DC] at h
  | _ :: _ :: _ :: _ :: _ :: _, _, [], _, h, _ => by simp [DC] at h
section
variable {H : Type} {enc : TypeId × Value → H} {w : World} {base : Nat} {spare : Nat → Bool} {held : Bool}
end
theorem grown_below {w w' : World} (h : w.grownBy w' none) : Below w.heap.size w w' := ⟨h.os, h.tape, h.output, h.size, fun k hk => h.block k hk (by simp)⟩
section
variable {W x z : World} {p p' q r : Nat} {u v : Value} {F1 F2 : Int}
end
end Go.Proofs.Ytghplmldnkcpnac

/- The document's own copy of a text. -/
namespace Go.Proofs.Ytghplmldnkcpnac
open Go.RowKit
end Go.Proofs.Ytghplmldnkcpnac

/- Two texts that are the same, with their places: the document's way. -/
namespace Go.Proofs.Ytghplmldnkcpnac
open Go.RowKit
end Go.Proofs.Ytghplmldnkcpnac

/- Worlds one behind the other, in a region that draws its order. -/
namespace Go.Proofs.Ytghplmldnkcpnac
open Go.RowKit
theorem DsV.lw {w w' : World} {v : Value} {x : List Df} (h : DsV w All v x) (hb : Below w.heap.size w w') : DsV w' All v x := h.kp (Kp.of_below hb) (fun _ _ h => h)
end Go.Proofs.Ytghplmldnkcpnac

/- What is wrong with a grammar, in the document's way. -/
namespace Go.Proofs.Ytghplmldnkcpnac.G
open Go.RowKit
theorem ruF_many {g : Gm} {r : Ru} (h : 10 < r.right.length) : ruF g r = 6 := if_pos h
end Go.Proofs.Ytghplmldnkcpnac.G

/- Make and Expanded, whole; the laws' own beginning. -/
namespace Go.Proofs.Ytghplmldnkcpnac
open Go.RowKit G
def exN (ds : List Df) : List ByteArray := if (exF ds).1 = 0 then nms ds else []
def exT (ds : List Df) : List ByteArray := if (exF ds).1 = 0 then trms ds else []
theorem ex_wrong {ds : List Df} (h : (dfl ds).1 ≠ 0) : exGm ds = ⟨0, 0, 0, []⟩ ∧ exF ds = dfl ds ∧ exN ds = [] ∧ exT ds = [] := by
  have h1 : exF ds = dfl ds := if_pos h
  refine ⟨if_pos h, h1, ?_, ?_⟩
  · unfold exN; rw [h1, if_neg h]
  · unfold exT; rw [h1, if_neg h]
theorem ex_many {ds : List Df} (h : (dfl ds).1 = 0) (hb : (exA ds).1.bad = true) : exGm ds = ⟨0, 0, 0, []⟩ ∧ exF ds = (6, (exA ds).2) ∧ exN ds = [] ∧ exT ds = [] := by
  have h1 : exF ds = (6, (exA ds).2) := by unfold exF; rw [if_neg (by simpa using h), if_pos hb]
  refine ⟨by unfold exGm; rw [if_neg (by simpa using h), if_pos hb], h1, ?_, ?_⟩
  · unfold exN; rw [h1]; rfl
  · unfold exT; rw [h1]; rfl
theorem ex_good {ds : List Df} (h : (dfl ds).1 = 0) (hb : (exA ds).1.bad = false) : exGm ds = ⟨(exA ds).1.vars, (trms ds).length, 0, (exA ds).1.rules⟩ ∧ exF ds = (0, 0) ∧ exN ds = nms ds ∧ exT ds = trms ds := by
  have h1 : exF ds = (0, 0) := by unfold exF; rw [if_neg (by simpa using h), if_neg (by simp [hb])]
  refine ⟨by unfold exGm; rw [if_neg (by simpa using h), if_neg (by simp [hb])], h1, ?_, ?_⟩
  · unfold exN; rw [h1]; rfl
  · unfold exT; rw [h1]; rfl
theorem exF_right {ds : List Df} (h : (exF ds).1 = 0) : (dfl ds).1 = 0 ∧ (exA ds).1.bad = false ∧ (gFl (exGm ds)).1 = 0 := by
  by_cases h0 : (dfl ds).1 = 0
  · cases hb : (exA ds).1.bad with
    | true => rw [(ex_many h0 hb).2.1] at h; cases h
    | false => exact ⟨h0, rfl, exGm_right h0 hb⟩
  · rw [(ex_wrong h0).2.1] at h; exact absurd h h0
theorem exGm_rl (ds : List Df) : (exGm ds).rules.length ≤ 160 := by
  by_cases h0 : (dfl ds).1 = 0
  · cases hb : (exA ds).1.bad with
    | true => rw [(ex_many h0 hb).1]; simp
    | false => rw [(ex_good h0 hb).1]; exact (exA_ok h0).1.rl
  · rw [(ex_wrong h0).1]; simp
theorem make_all (ds : List Df) (va : Value) (w : World) (hx : DsV w All va ds) (h60 : ds.length ≤ 60) (hs : ∀ d ∈ ds, d.e.sz ≤ 3000 ∧ d.sh) :
    Calls Try.prog 25 #[.agg #[va]] w fun e w' => ∃ vr vn vt, e = .returned (.tuple #[.agg #[.int .i64 (exGm ds).vars, .int .i64 (exGm ds).terms, .int .i64 (exGm ds).start, vr, vn, vt], .agg #[.int .i64 (exF ds).1, .int .i64 (exF ds).2]]) ∧ RsV w' (fun k => w.heap.size ≤ k) vr (exGm ds).rules ∧ SsV w' vn (exN ds) ∧ SsV w' vt (exT ds) ∧ Below w.heap.size w w' := by
  by_cases h0 : (dfl ds).1 = 0
  · refine (make_good ds va w hx h60 hs h0).mono fun e w' h => ?_
    cases hb : (exA ds).1.bad with
    | true =>
      rw [if_pos hb] at h
      obtain ⟨rfl, hbel⟩ := h
      obtain ⟨e1, e2, e3, e4⟩ := ex_many h0 hb
      rw [e1, e2, e3, e4]
      exact ⟨_, _, _, rfl, RsV_nil _ _, SsV_nil _, SsV_nil _, hbel⟩
    | false =>
      rw [if_neg (by simp [hb])] at h
      obtain ⟨vr, vn, vt, rfl, h1, h2, h3, h4⟩ := h
      obtain ⟨e1, e2, e3, e4⟩ := ex_good h0 hb
      rw [e1, e2, e3, e4]
      exact ⟨vr, vn, vt, rfl, h1, h2, h3, h4⟩
  · refine (make_wrong ds va w hx h60 hs h0).mono fun e w' ⟨h1, hbel⟩ => ?_
    obtain ⟨e1, e2, e3, e4⟩ := ex_wrong h0
    rw [e1, e2, e3, e4]
    exact ⟨_, _, _, h1, RsV_nil _ _, SsV_nil _, SsV_nil _, hbel⟩
/-- The text that is looked at first. -/
def ebD : List Df := [⟨⟨#[83]⟩, 0, ⟨6, ⟨#[]⟩, .cons 1 ⟨#[97]⟩ .nil .nil⟩⟩]
theorem exF_eb : exF ebD = (0, 0) := by kernel_rfl
theorem exGm_eb : exGm ebD = ⟨2, 1, 0, [⟨1, []⟩, ⟨1, [-1, 1]⟩, ⟨0, [1]⟩]⟩ := by kernel_rfl
theorem ok_eb : ∀ d ∈ ebD, d.e.sz ≤ 3000 ∧ d.sh := by
  intro d hd
  simp only [ebD, List.mem_cons, List.not_mem_nil, or_false] at hd
  subst hd
  simp [Df.sh, Xp.sh, Fo.sh, Xp.sz, Fo.sz, ByteArray.size]
set_option maxRecDepth 100000 in
set_option maxHeartbeats 2000000 in
theorem some_any (w : World) : Calls Try.prog 56 #[] w fun e w' => ∃ v, e = .returned (.agg #[v]) ∧ DsV w' All v ebD ∧ Below w.heap.size w w' := by
  obtain ⟨W, hW⟩ : ∃ W, W = ((((w.alloc (.cells #[.slice (some ⟨w.heap.size + 1 + 1 + 1, 0, none⟩) 1 1] 42)).alloc (.cells #[.int .i64 1, .string ⟨#[97]⟩, .slice none 0 0] 64)).alloc (.cells #[.int .i64 1, .string ⟨#[97]⟩, .slice none 0 0] 64)).alloc (.cells #[.string ⟨#[83]⟩, .int .i64 0, .int .i64 6, .string ⟨#[]⟩, .slice (some ⟨w.heap.size + 1 + 1, 0, none⟩) 1 1] 66)) := ⟨_, rfl⟩
  have bW : Below w.heap.size w W := by rw [hW]; exact bthen (al2 w _ _) (al2 _ _ _)
  have t0 : W.cell? ⟨w.heap.size, 0, none⟩ = some (.slice (some ⟨w.heap.size + 1 + 1 + 1, 0, none⟩) 1 1) := by rw [hW]; simp [go_sem]
  have hD : DsV W All (.slice (some ⟨w.heap.size + 1 + 1 + 1, 0, none⟩) 1 1) ebD := by
    refine ⟨by simp [ebD], _, 1, rfl, .inr ⟨_, _, rfl, ?_⟩⟩
    refine ⟨trivial, by rw [hW]; simp [go_sem], by rw [hW]; simp [go_sem], ⟨by rw [hW]; simp [go_sem], by rw [hW]; simp [go_sem], .slice (some ⟨w.heap.size + 1 + 1, 0, none⟩) 1 1, by rw [hW]; simp [go_sem], ?_⟩, trivial⟩
    refine ⟨by simp [Fo.len], _, 1, rfl, .inr ⟨_, _, rfl, ?_⟩⟩
    exact ⟨trivial, by rw [hW]; simp [go_sem], by rw [hW]; simp [go_sem], ⟨by simp [Fo.len], none, 0, by rw [hW]; simp [go_sem, Fo.len], .inl rfl⟩, trivial⟩
  go_enter Try.func56, Try.ntmps56
  go_wp2_with fail
  rw [← hW]
  exact bodyPost_ret (v := .agg #[.slice (some ⟨w.heap.size + 1 + 1 + 1, 0, none⟩) 1 1]) (by simp [results, Try.results56, go_sem, t0]) rfl ⟨_, rfl, hD, bW⟩
theorem IsV_two (w : World) (a b : Int) (t : TypeId) : IsV (w.alloc (.cells #[.int .i64 a, .int .i64 b] t)) G.All (.slice (some ⟨w.heap.size, 0, none⟩) 2 2) [a, b] :=
  ⟨by simp, _, 2, rfl, Nat.le_refl _, (fun h => by cases h), .inr ⟨w.heap.size, 0, rfl, trivial, fun i hi => by
    match i, hi with
    | 0, _ => simp
    | 1, _ => simp
    | n + 2, hi => exact absurd hi (by simp)⟩⟩
set_option maxRecDepth 100000 in
set_option maxHeartbeats 4000000 in
theorem ebegun_any (w : World) : Calls Try.prog 22 #[] w fun e w' => e = .returned (.bool true) ∧ Below w.heap.size w w' := by
  have MA := fun w1 v h => make_all ebD v w1 h (by simp [ebD]) ok_eb
  rw [exGm_eb, exF_eb] at MA
  go_enter Try.func22, Try.ntmps22
  go_wp2_with fail
  refine (some_any w).mono ?_
  rintro e w1 ⟨v1, rfl, hd1, hb1⟩
  go_wp2_with fail
  refine (MA w1 v1 hd1).mono ?_
  rintro e w2 ⟨vr, vn, vt, rfl, rs, sn, st, hb2⟩
  obtain ⟨aor, capr, rfl⟩ := rs.slice
  obtain ⟨aon, capn, rfl⟩ := sn.slice
  obtain ⟨aot, capt, rfl⟩ := st.slice
  generalize (exN ebD).length = n1 at *
  generalize (exT ebD).length = n2 at *
  clear sn st MA
  obtain ⟨b, o, rfl, c0, ar, cr, c1, iv⟩ := rs.at_ (k := 1) (by simp)
  simp only [List.getElem_cons_succ, List.getElem_cons_zero, List.length_cons, List.length_nil, Nat.zero_add, Nat.one_mul, Nat.reduceAdd] at c0 c1 iv
  clear rs
  have hbz := lt_of_cell c0
  obtain ⟨W, hW⟩ : ∃ W, W = (w2.alloc (.cells #[.int .i64 2, .int .i64 1, .int .i64 0, .slice (some ⟨b, o, none⟩) 3 capr, .slice aon n1 capn, .slice aot n2 capt] 47)).alloc (.cells #[.int .i64 0, .int .i64 0] 29) := ⟨_, rfl⟩
  have bW : Below w2.heap.size w2 W := by rw [hW]; exact al2 _ _ _
  have zW : W.heap.size = w2.heap.size + 1 + 1 := by rw [hW]; simp
  have SI := sameInts_any [-1, 1] [-1, 1] _ _ (W.alloc (.cells #[.int .i64 (-1), .int .i64 1] 3)) ((iv.lw (bthen bW (al1 _ _))).all) (IsV_two _ _ _ _)
  rw [zW] at SI
  have bE : Below w.heap.size w (W.alloc (.cells #[.int .i64 (-1), .int .i64 1] 3)) := bthen (bthen hb1 hb2) (bthen bW (al1 _ _))
  go_wp2_with fail
  rw [← hW]
  refine SI.mono ?_
  rintro e w3 ⟨rfl, hb3⟩
  go_wp2_with fail
  go_ret
  exact ⟨rfl, bthen bE hb3⟩
end Go.Proofs.Ytghplmldnkcpnac

/- Counts that never go above a number: sums, products, and the ways of symbols, as the document reckons them. -/
namespace Go.Proofs.Ytghplmldnkcpnac.G
open Go.RowKit

def smI (a b m : Int) : Int := if m ≤ a ∨ m - a ≤ b then m else a + b
def prI (a b m : Int) : Int := if a = 0 ∨ b = 0 then 0 else if m ≤ a ∨ m ≤ b ∨ (m - 1) / b < a then m else a * b
theorem smI_rng {a b m : Int} (ha : 0 ≤ a) (hb : 0 ≤ b) (hm : 1 ≤ m) : 0 ≤ smI a b m ∧ smI a b m ≤ m := by unfold smI; split <;> omega
theorem prI_le {a b m : Int} (hb : 0 < b) (h : ¬ (m - 1) / b < a) : a * b ≤ m - 1 := by
  have h1 : a ≤ (m - 1) / b := by omega
  have h2 := Int.mul_le_mul_of_nonneg_right h1 (Int.le_of_lt hb)
  have h3 := Int.ediv_mul_le (m - 1) (b := b) (by omega)
  omega
theorem prI_rng {a b m : Int} (ha : 0 ≤ a) (hb : 0 ≤ b) (hm : 1 ≤ m) : 0 ≤ prI a b m ∧ prI a b m ≤ m := by
  unfold prI
  split
  · omega
  split
  · omega
  · rename_i h1 h2
    have hb' : 0 < b := by omega
    have := prI_le hb' (a := a) (m := m) (by omega)
    have := Int.mul_nonneg ha hb
    omega
set_option maxRecDepth 100000 in
set_option maxHeartbeats 2000000 in
theorem sum_any (a b m : Int) (w : World) (ha : 0 ≤ a) (hb : 0 ≤ b) (hm : 1 ≤ m) (h62 : m ≤ 4611686018427387904) (_ham : a ≤ m) (_hbm : b ≤ m) :
    Calls Try.prog 71 #[.int .i64 a, .int .i64 b, .int .i64 m] w fun e w' => e = .returned (.int .i64 (smI a b m)) ∧ w' = w := by
  unfold smI
  by_cases h1 : m ≤ a
  · rw [if_pos (.inl h1)]
    go_enter Try.func71, Try.ntmps71
    go_wp2_with fail
    go_ret
    exact ⟨rfl, rfl⟩
  by_cases h2 : m - a ≤ b
  · rw [if_pos (.inr h2)]
    go_enter Try.func71, Try.ntmps71
    go_wp2_with fail
    go_ret
    exact ⟨rfl, rfl⟩
  · rw [if_neg (by omega)]
    go_enter Try.func71, Try.ntmps71
    go_wp2_with fail
    go_ret
    exact ⟨ret_int (by omega), rfl⟩
set_option maxRecDepth 100000 in
set_option maxHeartbeats 4000000 in
theorem product_any (a b m : Int) (w : World) (ha : 0 ≤ a) (hb : 0 ≤ b) (hm : 1 ≤ m) (h62 : m ≤ 4611686018427387904) (ham : a ≤ m) (hbm : b ≤ m) :
    Calls Try.prog 100 #[.int .i64 a, .int .i64 b, .int .i64 m] w fun e w' => e = .returned (.int .i64 (prI a b m)) ∧ w' = w := by
  unfold prI
  by_cases h1 : a = 0
  · rw [if_pos (.inl h1)]
    subst h1
    go_enter Try.func100, Try.ntmps100
    go_wp2_with fail
    go_ret
    exact ⟨rfl, rfl⟩
  have h1b : (a == 0) = false := by simpa using h1
  by_cases h2 : b = 0
  · rw [if_pos (.inr h2)]
    subst h2
    go_enter Try.func100, Try.ntmps100
    go_wp2_with fail
    go_ret
    exact ⟨rfl, rfl⟩
  have h2b : (b == 0) = false := by simpa using h2
  rw [if_neg (by omega)]
  by_cases h3 : m ≤ a
  · rw [if_pos (.inl h3)]
    go_enter Try.func100, Try.ntmps100
    go_wp2_with fail
    go_ret
    exact ⟨rfl, rfl⟩
  by_cases h4 : m ≤ b
  · rw [if_pos (.inr (.inl h4))]
    go_enter Try.func100, Try.ntmps100
    go_wp2_with fail
    go_ret
    exact ⟨rfl, rfl⟩
  have hq : Int.tdiv (m - 1) b = (m - 1) / b := Int.tdiv_eq_ediv_of_nonneg (by omega)
  have hq0 : 0 ≤ (m - 1) / b := Int.ediv_nonneg (by omega) hb
  have hq1 : (m - 1) / b ≤ m - 1 := Int.ediv_le_self _ (by omega)
  by_cases h5 : (m - 1) / b < a
  · rw [if_pos (.inr (.inr h5))]
    generalize (m - 1) / b = q at *
    go_enter Try.func100, Try.ntmps100
    go_wp2_with fail
    go_ret
    exact ⟨rfl, rfl⟩
  · rw [if_neg (by omega)]
    have hmul := prI_le (a := a) (m := m) (b := b) (by omega) h5
    have hmul0 := Int.mul_nonneg ha hb
    generalize (m - 1) / b = q at *
    generalize hab : a * b = ab at *
    go_enter Try.func100, Try.ntmps100
    go_wp2_with fail
    go_ret
    exact ⟨ret_int (by first | rfl | omega), rfl⟩
end Go.Proofs.Ytghplmldnkcpnac.G
