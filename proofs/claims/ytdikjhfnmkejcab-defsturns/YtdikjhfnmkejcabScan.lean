/- token.Scan comes to what 'scan' reckons. -/
import Derived.Test.YtdikjhfnmkejcabRead
namespace Go.Proofs.Ytdikjhfnmkejcab
open Go.RowKit

theorem owns_below {w w' : World} {base : Nat} {e : TypeId} {size : Nat} {v : Value} {n : Nat} {xs : List Value} (h : w.ownsRow base e size v n xs) (hb : Below w.heap.size w w') : w'.ownsRow base e size v n xs :=
  h.kept (row := none) ⟨hb.os, hb.tape, hb.output, hb.size, fun k hk _ => hb.block k hk⟩ (by cases v.ownBlock <;> simp)
theorem owns_mono {w : World} {base b2 : Nat} {e : TypeId} {size : Nat} {v : Value} {n : Nat} {xs : List Value} (h : w.ownsRow base e size v n xs) (hb : b2 ≤ base) : w.ownsRow b2 e size v n xs := by
  obtain ⟨h1, h2⟩ := h
  refine ⟨h1, ?_⟩
  rcases h2 with h2 | ⟨g, cap, cur, e1, e2, e3⟩
  · exact .inl h2
  · exact .inr ⟨g, cap, cur, e1, Nat.le_trans hb e2, e3⟩
theorem owns_setCell {w : World} {base : Nat} {e : TypeId} {size : Nat} {v u : Value} {n : Nat} {xs : List Value} {a : Addr} (h : w.ownsRow base e size v n xs) (ha : a.block < base) : (w.setCell a u).ownsRow base e size v n xs := by
  obtain ⟨h1, h2⟩ := h
  refine ⟨h1, ?_⟩
  rcases h2 with h2 | ⟨g, cap, cur, e1, e2, e3, e4⟩
  · exact .inl h2
  · exact .inr ⟨g, cap, cur, e1, e2, by rw [Below.heap_setCell _ _ _ _ (by omega)]; exact e3, e4⟩

theorem Try.infoToken : (Try.prog.info? 87).map (fun i => (i.zero, i.size, i.bytes)) = some (some (.agg #[.int .i64 0, .int .i64 0, .string ⟨#[]⟩]), 3, 32) := by kernel_rfl

theorem cell3_new (w : World) (v0 v1 v2 : Value) (t : TypeId) : ∀ j u, [v0, v1, v2][j]? = some u → (w.alloc (.cells #[v0, v1, v2] t)).cell? ((⟨w.heap.size, 0, none⟩ : Addr).add j) = some u := by
  intro j u hj
  match j, hj with
  | 0, hj => simp at hj; subst hj; simp [Addr.add]
  | 1, hj => simp at hj; subst hj; simp [Addr.add]
  | 2, hj => simp at hj; subst hj; simp [Addr.add]

theorem st_next {s : ByteArray} {k : Nat} {l : List Tk} {a : Nat} {x : Tk} {nx c : Int} (e : st s k = (l, a)) (h : a < s.size) (er : rd s a = (x, nx, c)) (hc : c = 0) :
    st s (k + 1) = (l ++ [x], skip s nx.toNat) := by
  show stp s (st s k) = _
  rw [e]; unfold stp
  simp only [er]
  rw [if_pos ⟨h, hc⟩]
theorem scan_bad {s : ByteArray} {k : Nat} {l : List Tk} {a : Nat} {x : Tk} {nx c : Int} (e : st s k = (l, a)) (hk : k ≤ a) (h : a < s.size) (er : rd s a = (x, nx, c)) (hc : c ≠ 0) (h6 : s.size ≤ 6000) :
    scan s = ([], c, (a : Int)) := by
  have hst : stp s (st s k) = st s k := by
    rw [e]; unfold stp; simp only [er]; rw [if_neg (fun h => hc h.2)]
  unfold scan
  rw [if_neg (by omega), st_fin hst (by omega), e]
  unfold fin; simp only [er]; rw [if_pos h]
theorem scan_good {s : ByteArray} {k : Nat} {l : List Tk} {a : Nat} (e : st s k = (l, a)) (hk : k ≤ a) (ha : a ≤ s.size) (h : ¬ a < s.size) (h6 : s.size ≤ 6000) :
    scan s = (l, 0, 0) := by
  have hst : stp s (st s k) = st s k := by
    rw [e]; unfold stp; rw [if_neg (fun x => h x.1)]
  unfold scan
  rw [if_neg (by omega), st_fin hst (by omega), e]
  unfold fin; rw [if_neg h]

theorem below_fault {w W wr : World} {o : Obj} {v0 v1 : Value} (hW : W = w.alloc o) (hb : Below (w.heap.size + 1) W wr) :
    Below w.heap.size w ((wr.setCell ⟨w.heap.size, 0, none⟩ v0).setCell ⟨w.heap.size, 1, none⟩ v1) := by
  subst hW
  exact ((((Below.refl _ _).alloc (Nat.le_refl _) _).trans (hb.mono (by omega))).setCell (Nat.le_refl _) _).setCell (Nat.le_refl _) _
set_option maxRecDepth 100000 in
set_option maxHeartbeats 1000000 in
theorem scan_any (s : ByteArray) (w : World) (hs : s.size ≤ 281474976710656) :
    Calls Try.prog 39 #[.string s] w fun e w' => ∃ v, e = .returned (.tuple #[v, .agg #[.int .i64 (scan s).2.1, .int .i64 (scan s).2.2]]) ∧
      w'.ownsRow w.heap.size 87 3 v (scan s).1.length (cellsOf (scan s).1) ∧ Below w.heap.size w w' := by
  have hm : s.size ≤ maxLen := by unfold maxLen; omega
  by_cases h6 : 6000 < s.size
  · have E : Hid (scan s = ([], 6, 6000)) := hd (by unfold scan; rw [if_pos h6])
    rw [E.out]
    clear E
    go_enter Try.func39, Try.ntmps39
    go_wp2_with fail
    refine bodyPost_ret (v := .tuple #[.slice none 0 0, .agg #[.int .i64 6, .int .i64 6000]]) (by simp [results, Try.results39, go_sem]) rfl ⟨_, rfl, World.ownsRow_nil _ _ _ _, ?_⟩
    exact (Below.refl _ _).alloc (Nat.le_refl _) _
  · obtain ⟨i0, hi, iz0, iz1, iz2⟩ := info_parts Try.infoToken
    have h6' : s.size ≤ 6000 := by omega
    have h0 : st s 0 = ([], skip s 0) := rfl
    have H0 := hd h0
    have hsl := skip_le s 0 (by omega)
    have C := skip_any s 0
    rw [show (0 : Int).toNat = 0 from rfl] at C
    have FB : Hid (∀ (k : Nat) (l : List Tk) (a : Nat) (x : Tk) (nx c : Int), st s k = (l, a) → k ≤ a → a < s.size → rd s a = (x, nx, c) → c ≠ 0 → s.size ≤ 6000 → scan s = ([], c, (a : Int))) := fun _ _ _ _ _ _ => scan_bad
    have FG : Hid (∀ (k : Nat) (l : List Tk) (a : Nat), st s k = (l, a) → k ≤ a → a ≤ s.size → ¬ a < s.size → s.size ≤ 6000 → scan s = (l, 0, 0)) := fun _ _ _ => scan_good
    generalize scan s = R at *
    clear h0
    generalize skip s 0 = a0 at *
    go_enter Try.func39, Try.ntmps39
    go_wp2_with fail
    refine (C _ hm (by omega) (by omega)).mono ?_
    clear C
    rintro e w1 ⟨rfl, hb1⟩
    go_wp2_with fail
    obtain ⟨W, hW⟩ : ∃ W, W = w.alloc (.cells #[.int .i64 0, .int .i64 0] 28) := ⟨_, rfl⟩
    have hWz : W.heap.size = w.heap.size + 1 := by rw [hW]; simp
    rw [← hW] at hb1
    have HW := hd hW
    clear hW
    go_loopw [4, 5] (fun v i wr => ∃ (k : Nat) (l : List Tk) (a : Nat), Hid (st s k = (l, a)) ∧ k ≤ a ∧ a ≤ s.size ∧ l.length ≤ k ∧ i = .int .i64 a ∧ wr.ownsRow (w.heap.size + 1) 87 3 v l.length (cellsOf l) ∧ Below (w.heap.size + 1) W wr) (fun _ i _ => s.size - (intOf i).toNat)
    case atStart => exact ⟨0, [], a0, H0, by omega, hsl, by simp, rfl, World.ownsRow_nil _ _ _ _, by rw [← hWz]; exact hb1⟩
    case round =>
      obtain ⟨k, l, a, hst, hka, has, hlk, rfl, hown, hbr⟩ := hrel
      have hzr : w.heap.size + 1 ≤ wr.heap.size := by have := hbr.size; omega
      have f0 : wr.cell? ⟨w.heap.size, 0, none⟩ = some (.int .i64 0) := by rw [hbr.cell (by simp), HW.out]; simp
      have f1 : wr.cell? ⟨w.heap.size, 1, none⟩ = some (.int .i64 0) := by rw [hbr.cell (by simp), HW.out]; simp
      have z0 : wr.frozen? ⟨w.heap.size, 0, none⟩ = false := by rw [hbr.frozen (by simp), HW.out]; simp
      have z1 : wr.frozen? ⟨w.heap.size, 1, none⟩ = false := by rw [hbr.frozen (by simp), HW.out]; simp
      by_cases hlt : a < s.size
      · have RD := read_any s a
        have NX := rd_next hlt
        have SN := @st_next s k l a
        have SB := fun x nx c => FB.out k l a x nx c hst.out hka hlt
        generalize hr : rd s a = r at *
        obtain ⟨⟨kk, aa, tt⟩, nx, c⟩ := r
        simp only [Tk.v] at RD
        simp only at NX
        by_cases hc : (c != 0) = true
        · have E := hd (SB _ _ _ rfl (by simpa using hc) h6')
          clear SN SB NX hr FB FG
          go_wp2_with fail
          refine (RD _ hs hlt).mono ?_
          clear RD
          rintro e w1 ⟨rfl, hb⟩
          have y0 : w1.cell? ⟨w.heap.size, 0, none⟩ = some (.int .i64 0) := by rw [hb.cell (p := ⟨w.heap.size, 0, none⟩) (by show w.heap.size < _; omega)]; exact f0
          have y1 : w1.cell? ⟨w.heap.size, 1, none⟩ = some (.int .i64 0) := by rw [hb.cell (p := ⟨w.heap.size, 1, none⟩) (by show w.heap.size < _; omega)]; exact f1
          have x0 : w1.frozen? ⟨w.heap.size, 0, none⟩ = false := by rw [hb.frozen (p := ⟨w.heap.size, 0, none⟩) (by show w.heap.size < _; omega)]; exact z0
          have x1 : w1.frozen? ⟨w.heap.size, 1, none⟩ = false := by rw [hb.frozen (p := ⟨w.heap.size, 1, none⟩) (by show w.heap.size < _; omega)]; exact z1
          have hz1 := hb.size
          have hz3 : w.heap.size < w1.heap.size := by omega
          have hbq := hbr.trans (hb.mono hzr)
          clear hb hbr hown f0 f1 z0 z1
          go_wp2_with fail
          rw [E.out]
          refine bodyPost_ret (v := .tuple #[.slice none 0 0, .agg #[.int .i64 c, .int .i64 a]]) (by simp [results, Try.results39, go_sem, y0, y1, hz3]) rfl ⟨_, rfl, World.ownsRow_nil _ _ _ _, ?_⟩
          exact (below_fault HW.out hbq).alloc (by simp; omega) _
        · have hc' : (c != 0) = false := by simpa using hc
          have hc0 : c = 0 := by simpa using hc
          obtain ⟨n1, n2, n3⟩ := NX hc0
          have SN2 := hd (SN hst.out hlt rfl hc0)
          clear SB hr SN NX hc hc0
          obtain ⟨nn, rfl⟩ : ∃ nn : Nat, nx = nn := ⟨nx.toNat, n3.symm⟩
          rw [Int.toNat_natCast] at SN2 n1 n2
          clear n3
          go_wp2_with fail
          refine (RD _ hs hlt).mono ?_
          clear RD
          rintro e w1 ⟨rfl, hb⟩
          have hown1 := owns_below hown hb
          have hz1 := hb.size
          have hb1 := hbr.trans (hb.mono hzr)
          clear f0 f1 z0 z1 hown hb
          have hl6 : l.length ≤ 6000 := by omega
          go_wp2_with (at_builtin; go_must (refine wpList_append_own _ rfl _ _ 57 rfl (w.heap.size + 1) 87 i0 (.agg #[.int .i64 0, .int .i64 0, .string ⟨#[]⟩]) 3 32 Try.underlying57 hi iz0 iz1 iz2 rfl (by decide) _ _ _ rfl ((hown1.alloc _).alloc _) ⟨w1.heap.size + 1, 0, none⟩ 1 1 [.int .i64 kk, .int .i64 aa, .string tt] rfl rfl ?c1 ?c2 ?c3 ?c4 ?c5 ?_))
          case c1 => intro j u hj; have := cell3_new (w1.alloc (.cells #[.int .i64 kk, .int .i64 aa, .string tt] 87)) _ _ _ 87 j u hj; simpa using this
          case c2 => intro u hu; simp at hu; rcases hu with rfl | rfl | rfl <;> rfl
          case c3 => unfold maxLen; omega
          case c4 => omega
          case c5 => simp; omega
          intro v' w2 hown2 hgrow _
          have hb2 : Below (w.heap.size + 1) W w2 := Below.grown ((hb1.alloc (by omega) _).alloc (by simp; omega) _) hgrow (by simp; omega) (fun j hj => (hown1.lt _ hj).1)
          have hown3 : w2.ownsRow (w.heap.size + 1) 87 3 v' (l ++ [Tk.mk kk aa tt]).length (cellsOf (l ++ [Tk.mk kk aa tt])) := by rw [cellsOf_snoc, List.length_append]; exact hown2
          clear hown2 hgrow hown1 hb1 hbr
          go_wp2_with fail
          have C := skip_any s nn w2 hm (by omega) (by omega)
          rw [Int.toNat_natCast] at C
          have k1 := skip_ge s nn
          have k2 := skip_le s nn n2
          generalize skip s nn = a2 at *
          refine C.mono ?_
          clear C
          rintro e w3 ⟨rfl, hb3⟩
          have hz2 := hb2.size
          go_wp2_with fail
          go_roundw
          case rel => exact ⟨k + 1, l ++ [Tk.mk kk aa tt], a2, SN2, by omega, k2, by simp; omega, rfl, owns_below hown3 hb3, hb2.trans (hb3.mono (by omega))⟩
          case measure => simp [intOf]; omega
      · have E := hd (FG.out k l a hst.out hka has hlt h6')
        clear FB FG
        go_wp2_with fail
        rw [E.out]
        refine bodyPost_ret (v := .tuple #[u4, .agg #[.int .i64 0, .int .i64 0]]) (by simp [results, Try.results39, go_sem, f0, f1]) rfl ⟨_, rfl, ?_, ?_⟩
        · exact owns_mono (owns_setCell (owns_setCell hown (by simp)) (by simp)) (by omega)
        · exact below_fault HW.out hbr
end Go.Proofs.Ytdikjhfnmkejcab
