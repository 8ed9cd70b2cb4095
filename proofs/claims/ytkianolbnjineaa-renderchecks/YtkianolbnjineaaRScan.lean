/- The document's own scan comes to what 'scan' reckons. -/
import Derived.Test.YtkianolbnjineaaRMath
namespace Go.Proofs.Ytkianolbnjineaa
open Go.RowKit

theorem one3 (a b : Int) (t : ByteArray) : ∀ u ∈ [Value.int .i64 a, Value.int .i64 b, Value.string t], u.oneCell' = true := by
  intro u hu; simp at hu; rcases hu with rfl | rfl | rfl <;> rfl
set_option maxHeartbeats 4000000 in
set_option maxRecDepth 100000 in
theorem rScan_any (s : ByteArray) (w : World) (hs : s.size ≤ 281474976710656) :
    Calls Try.prog 11 #[.string s] w fun e w' => ∃ v, e = .returned (.tuple #[v, .agg #[.int .i64 (scan s).2.1, .int .i64 (scan s).2.2]]) ∧
      w'.ownsRow w.heap.size 31 3 v (scan s).1.length (cellsOf (scan s).1) ∧ Below w.heap.size w w' := by
  have hm : s.size ≤ maxLen := by unfold maxLen; omega
  by_cases h6 : 6000 < s.size
  · have E : Hid (scan s = ([], 6, 6000)) := hd (by unfold scan; rw [if_pos h6])
    rw [E.out]
    clear E
    go_enter Try.func11, Try.ntmps11
    go_wp2_with fail
    refine (rF_any _ _ _).mono ?_
    rintro e w1 ⟨rfl, hb⟩
    obtain ⟨hc, hf⟩ := bcell hb
    have hz1 : w.heap.size + 1 ≤ w1.heap.size := by have := hb.size; simpa using this
    go_wp2_with fail
    refine bodyPost_ret (v := .tuple #[.slice none 0 0, .agg #[.int .i64 6, .int .i64 6000]]) (by simp [results, Try.results11, go_sem, hc]) rfl ⟨_, rfl, World.ownsRow_nil _ _ _ _, ?_⟩
    exact ((((Below.refl _ _).alloc (Nat.le_refl _) _).trans (hb.mono (by simp))).setCell (by simp) _).setCell (by simp) _
  · obtain ⟨i0, hi, iz0, iz1, iz2⟩ := info_parts Try.infoToken
    have h6' : s.size ≤ 6000 := by omega
    have h0 : st s 0 = ([], skip s 0) := rfl
    have H0 := hd h0
    have hsl := skip_le s 0 (by omega)
    have C := rSkipped_any s 0
    have FB : Hid (∀ (k : Nat) (l : List Tk) (a : Nat) (x : Tk) (nx c : Int), st s k = (l, a) → k ≤ a → a < s.size → rd s a = (x, nx, c) → c ≠ 0 → s.size ≤ 6000 → scan s = ([], c, (a : Int))) := fun _ _ _ _ _ _ => scan_bad
    have FG : Hid (∀ (k : Nat) (l : List Tk) (a : Nat), st s k = (l, a) → k ≤ a → a ≤ s.size → ¬ a < s.size → s.size ≤ 6000 → scan s = (l, 0, 0)) := fun _ _ _ => scan_good
    generalize scan s = R at *
    clear h0
    generalize skip s 0 = a0 at *
    go_enter Try.func11, Try.ntmps11
    go_wp2_with fail
    refine (C _ hm (by omega)).mono ?_
    clear C
    rintro e w1 ⟨rfl, rfl⟩
    go_wp2_with fail
    obtain ⟨W, hW⟩ : ∃ W, W = w.alloc (.cells #[.int .i64 0, .int .i64 0] 25) := ⟨_, rfl⟩
    have hWz : W.heap.size = w.heap.size + 1 := by rw [hW]; simp
    have HW := hd hW
    clear hW
    go_loopw [4, 5] (fun v i wr => ∃ (k : Nat) (l : List Tk) (a : Nat), Hid (st s k = (l, a)) ∧ k ≤ a ∧ a ≤ s.size ∧ l.length ≤ k ∧ i = .int .i64 a ∧ wr.ownsRow (w.heap.size + 1) 31 3 v l.length (cellsOf l) ∧ Below (w.heap.size + 1) W wr) (fun _ i _ => s.size - (intOf i).toNat)
    case atStart => exact ⟨0, [], a0, H0, by omega, hsl, by simp, rfl, World.ownsRow_nil _ _ _ _, by rw [HW.out]; exact Below.refl _ _⟩
    case round =>
      obtain ⟨k, l, a, hst, hka, has, hlk, rfl, hown, hbr⟩ := hrel
      have hzr : w.heap.size + 1 ≤ wr.heap.size := by have := hbr.size; omega
      have f0 : wr.cell? ⟨w.heap.size, 0, none⟩ = some (.int .i64 0) := by rw [hbr.cell (by simp), HW.out]; simp
      have f1 : wr.cell? ⟨w.heap.size, 1, none⟩ = some (.int .i64 0) := by rw [hbr.cell (by simp), HW.out]; simp
      have z0 : wr.frozen? ⟨w.heap.size, 0, none⟩ = false := by rw [hbr.frozen (by simp), HW.out]; simp
      have z1 : wr.frozen? ⟨w.heap.size, 1, none⟩ = false := by rw [hbr.frozen (by simp), HW.out]; simp
      by_cases hlt : a < s.size
      · by_cases hg : signB (s[a].toNat : Int) = true
        · have SN2 := hd (st_next hst.out hlt (rd_sign hlt hg) rfl)
          rw [Int.toNat_natCast] at SN2
          have n2 : a + 1 ≤ s.size := hlt
          go_wp2_with fail
          refine (rIsSign_any _ _).mono ?_
          rintro e wx ⟨rfl, hwx⟩; obtain rfl := hwx.symm
          have hl6 : l.length ≤ 6000 := by omega
          clear f0 f1 z0 z1 FB FG
          go_wp2_with (first | (at_builtin; go_must (refine wpList_append_own _ rfl _ _ 23 rfl (w.heap.size + 1) 31 i0 (.agg #[.int .i64 0, .int .i64 0, .string ⟨#[]⟩]) 3 32 Try.underlying23 hi iz0 iz1 iz2 rfl (by decide) _ _ _ rfl (hown.alloc _) ⟨wr.heap.size, 0, none⟩ 1 1 [.int .i64 3, .int .i64 a, .string (s.extract a (a + 1))] rfl rfl (cell3_new wr _ _ _ _) (one3 _ _ _) (by unfold maxLen; omega) (by omega) (by simp; omega) ?_)))
          intro v' w2 hown2 hgrow _
          have hb2 : Below (w.heap.size + 1) W w2 := Below.grown (hbr.alloc (by omega) _) hgrow (by simp; omega) (fun j hj => (hown.lt _ hj).1)
          have hown3 : w2.ownsRow (w.heap.size + 1) 31 3 v' (l ++ [Tk.mk 3 a (s.extract a (a + 1))]).length (cellsOf (l ++ [Tk.mk 3 a (s.extract a (a + 1))])) := by rw [cellsOf_snoc, List.length_append]; exact hown2
          clear hown2 hgrow hown hbr
          go_wp2_with fail
          rw [show ((a : Int) + 1) = ((a + 1 : Nat) : Int) from by omega]
          have C := rSkipped_any s (a + 1) w2 hm (by omega)
          have k1 := skip_ge s (a + 1)
          have k2 := skip_le s (a + 1) n2
          generalize skip s (a + 1) = a2 at *
          refine C.mono ?_
          clear C
          rintro e w3 ⟨rfl, rfl⟩
          have hz2 := hb2.size
          go_wp2_with fail
          go_roundw
          case rel => exact ⟨k + 1, _, a2, SN2, by omega, k2, by simp; omega, rfl, hown3, hb2⟩
          case measure => simp [intOf]; omega
        · have hg' : signB (s[a].toNat : Int) = false := by simpa using hg
          clear hg
          by_cases hq : ((s[a].toNat : Int) == 34) = true
          · have RT := @rd_term s a hlt hq
            have RB := @rd_term_bad s a hlt hq
            have l1 := over_le quotB s (a + 1) hlt
            have g1 := over_ge quotB s (a + 1)
            have RT := hd RT
            have RB := hd RB
            go_wp2_with fail
            refine (rIsSign_any _ _).mono ?_
            rintro e wx ⟨rfl, hwx⟩; obtain rfl := hwx.symm
            go_wp2_with fail
            go_loop [5] (fun i => ∃ j : Nat, a + 1 ≤ j ∧ j ≤ s.size ∧ i = .int .i64 j ∧ Hid (over quotB s j = over quotB s (a + 1))) (fun i => s.size - (intOf i).toNat)
            case atStart => exact ⟨a + 1, by omega, hlt, by go_num, hd rfl⟩
            case round =>
              obtain ⟨j, hj1, hj2, rfl, hov⟩ := hrel
              by_cases hjl : j < s.size
              · by_cases q1 : ((s[j].toNat : Int) == 34) = true
                · have q2 : ((s[j].toNat : Int) != 34) = false := by simp at q1; simp [q1]
                  have q3 : ((s[j].toNat : Int) == 10) = false := by simp at q1; simp [q1]
                  have q4 : ((j : Int) == (s.size : Int)) = false := by simp; omega
                  have ej : over quotB s (a + 1) = j := by rw [← hov.out]; exact over_no hjl (by simp at q1; rw [q1]; decide)
                  have bj : bt s j = 34 := by rw [bt_lt hjl]; simpa using q1
                  by_cases hT : isTermB (s.extract (a + 1) j) = true
                  · have ER := RT.out (by rw [ej]; exact hjl) (by rw [ej]; exact bj) (by rw [ej]; exact hT)
                    rw [ej] at ER
                    have SN2 := hd (st_next hst.out hlt ER rfl)
                    rw [Int.toNat_natCast] at SN2
                    have n2 : j + 1 ≤ s.size := hjl
                    clear RT RB ER l1 g1 hov bj ej q1
                    go_wp2_with fail
                    refine (rIsTerm_any _ _ (by unfold maxLen; simp; omega)).mono ?_
                    rintro e wx ⟨rfl, hwx⟩; obtain rfl := hwx.symm
                    have hl6 : l.length ≤ 6000 := by omega
                    clear f0 f1 z0 z1 FB FG
                    go_wp2_with (first | (at_builtin; go_must (refine wpList_append_own _ rfl _ _ 23 rfl (w.heap.size + 1) 31 i0 (.agg #[.int .i64 0, .int .i64 0, .string ⟨#[]⟩]) 3 32 Try.underlying23 hi iz0 iz1 iz2 rfl (by decide) _ _ _ rfl (hown.alloc _) ⟨wr.heap.size, 0, none⟩ 1 1 [.int .i64 2, .int .i64 a, .string (s.extract (a + 1) j)] rfl rfl (cell3_new wr _ _ _ _) (one3 _ _ _) (by unfold maxLen; omega) (by omega) (by simp; omega) ?_)))
                    intro v' w2 hown2 hgrow _
                    have hb2 : Below (w.heap.size + 1) W w2 := Below.grown (hbr.alloc (by omega) _) hgrow (by simp; omega) (fun j hj => (hown.lt _ hj).1)
                    have hown3 : w2.ownsRow (w.heap.size + 1) 31 3 v' (l ++ [Tk.mk 2 a (s.extract (a + 1) j)]).length (cellsOf (l ++ [Tk.mk 2 a (s.extract (a + 1) j)])) := by rw [cellsOf_snoc, List.length_append]; exact hown2
                    clear hown2 hgrow hown hbr
                    go_wp2_with fail
                    rw [show ((j : Int) + 1) = ((j + 1 : Nat) : Int) from by omega]
                    have C := rSkipped_any s (j + 1) w2 hm (by omega)
                    have k1 := skip_ge s (j + 1)
                    have k2 := skip_le s (j + 1) n2
                    generalize skip s (j + 1) = a2 at *
                    refine C.mono ?_
                    clear C
                    rintro e w3 ⟨rfl, rfl⟩
                    have hz2 := hb2.size
                    go_wp2_with fail
                    go_roundw
                    case rel => exact ⟨k + 1, _, a2, SN2, by omega, k2, by simp; omega, rfl, hown3, hb2⟩
                    case measure => simp [intOf]; omega
                  · have hT' : isTermB (s.extract (a + 1) j) = false := by simpa using hT
                    have ER := RB.out (by rw [ej]; exact fun h => hT h.2.2)
                    have E := hd (FB.out k l a _ _ _ hst.out hka hlt ER (by decide) h6')
                    clear RT RB ER l1 g1 hov bj ej q1 FB FG hT
                    go_wp2_with fail
                    refine (rIsTerm_any _ _ (by unfold maxLen; simp; omega)).mono ?_
                    rintro e wx ⟨rfl, hwx⟩; obtain rfl := hwx.symm
                    go_wp2_with fail
                    refine (rF_any _ _ _).mono ?_
                    rintro e w1 ⟨rfl, hb⟩
                    have y0 : w1.cell? ⟨w.heap.size, 0, none⟩ = some (.int .i64 0) := by rw [hb.cell (p := ⟨w.heap.size, 0, none⟩) (by show w.heap.size < _; omega)]; exact f0
                    have y1 : w1.cell? ⟨w.heap.size, 1, none⟩ = some (.int .i64 0) := by rw [hb.cell (p := ⟨w.heap.size, 1, none⟩) (by show w.heap.size < _; omega)]; exact f1
                    have x0 : w1.frozen? ⟨w.heap.size, 0, none⟩ = false := by rw [hb.frozen (p := ⟨w.heap.size, 0, none⟩) (by show w.heap.size < _; omega)]; exact z0
                    have x1 : w1.frozen? ⟨w.heap.size, 1, none⟩ = false := by rw [hb.frozen (p := ⟨w.heap.size, 1, none⟩) (by show w.heap.size < _; omega)]; exact z1
                    have hz3 : w.heap.size < w1.heap.size := by have := hb.size; omega
                    have hbq := hbr.trans (hb.mono hzr)
                    clear hb hbr hown f0 f1 z0 z1
                    go_wp2_with fail
                    rw [E.out]
                    refine bodyPost_ret (v := .tuple #[.slice none 0 0, .agg #[.int .i64 1, .int .i64 a]]) (by simp [results, Try.results11, go_sem, y0, y1]) rfl ⟨_, rfl, World.ownsRow_nil _ _ _ _, ?_⟩
                    exact below_fault HW.out hbq
                · have q1' : ((s[j].toNat : Int) == 34) = false := by simpa using q1
                  have q2 : ((s[j].toNat : Int) != 34) = true := by simpa using q1
                  clear q1
                  by_cases q3 : ((s[j].toNat : Int) == 10) = true
                  · have q4 : ((s[j].toNat : Int) != 10) = false := by simp at q3; simp [q3]
                    have q5 : ((j : Int) == (s.size : Int)) = false := by simp; omega
                    have ej : over quotB s (a + 1) = j := by rw [← hov.out]; exact over_no hjl (by simp at q3; rw [q3]; decide)
                    have ER := RB.out (by rw [ej, bt_lt hjl]; simp at q3; rw [q3]; exact fun h => by have := h.2.1; omega)
                    have E := hd (FB.out k l a _ _ _ hst.out hka hlt ER (by decide) h6')
                    clear RT RB ER l1 g1 hov ej FB FG
                    go_wp2_with fail
                    refine (rF_any _ _ _).mono ?_
                    rintro e w1 ⟨rfl, hb⟩
                    have y0 : w1.cell? ⟨w.heap.size, 0, none⟩ = some (.int .i64 0) := by rw [hb.cell (p := ⟨w.heap.size, 0, none⟩) (by show w.heap.size < _; omega)]; exact f0
                    have y1 : w1.cell? ⟨w.heap.size, 1, none⟩ = some (.int .i64 0) := by rw [hb.cell (p := ⟨w.heap.size, 1, none⟩) (by show w.heap.size < _; omega)]; exact f1
                    have x0 : w1.frozen? ⟨w.heap.size, 0, none⟩ = false := by rw [hb.frozen (p := ⟨w.heap.size, 0, none⟩) (by show w.heap.size < _; omega)]; exact z0
                    have x1 : w1.frozen? ⟨w.heap.size, 1, none⟩ = false := by rw [hb.frozen (p := ⟨w.heap.size, 1, none⟩) (by show w.heap.size < _; omega)]; exact z1
                    have hz3 : w.heap.size < w1.heap.size := by have := hb.size; omega
                    have hbq := hbr.trans (hb.mono hzr)
                    clear hb hbr hown f0 f1 z0 z1
                    go_wp2_with fail
                    rw [E.out]
                    refine bodyPost_ret (v := .tuple #[.slice none 0 0, .agg #[.int .i64 1, .int .i64 a]]) (by simp [results, Try.results11, go_sem, y0, y1]) rfl ⟨_, rfl, World.ownsRow_nil _ _ _ _, ?_⟩
                    exact below_fault HW.out hbq
                  · have q4 : ((s[j].toNat : Int) != 10) = true := by simpa using q3
                    have hp : quotB (s[j].toNat : Int) = true := by simp only [quotB, q2, q4]; rfl
                    have OV := hd ((over_yes hjl hp).trans hov.out)
                    clear q3 hp hov
                    go_wp2_with fail
                    go_round
                    case rel => exact ⟨j + 1, by omega, by omega, by go_num, OV⟩
                    case measure => simp [intOf]; omega
              · have q5 : ((j : Int) == (s.size : Int)) = true := by simp; omega
                have ej : over quotB s (a + 1) = j := by rw [← hov.out]; exact over_end (by omega)
                have ER := RB.out (by rw [ej]; exact fun h => hjl h.1)
                have E := hd (FB.out k l a _ _ _ hst.out hka hlt ER (by decide) h6')
                clear RT RB ER l1 g1 hov ej FB FG
                go_wp2_with fail
                refine (rF_any _ _ _).mono ?_
                rintro e w1 ⟨rfl, hb⟩
                have y0 : w1.cell? ⟨w.heap.size, 0, none⟩ = some (.int .i64 0) := by rw [hb.cell (p := ⟨w.heap.size, 0, none⟩) (by show w.heap.size < _; omega)]; exact f0
                have y1 : w1.cell? ⟨w.heap.size, 1, none⟩ = some (.int .i64 0) := by rw [hb.cell (p := ⟨w.heap.size, 1, none⟩) (by show w.heap.size < _; omega)]; exact f1
                have x0 : w1.frozen? ⟨w.heap.size, 0, none⟩ = false := by rw [hb.frozen (p := ⟨w.heap.size, 0, none⟩) (by show w.heap.size < _; omega)]; exact z0
                have x1 : w1.frozen? ⟨w.heap.size, 1, none⟩ = false := by rw [hb.frozen (p := ⟨w.heap.size, 1, none⟩) (by show w.heap.size < _; omega)]; exact z1
                have hz3 : w.heap.size < w1.heap.size := by have := hb.size; omega
                have hbq := hbr.trans (hb.mono hzr)
                clear hb hbr hown f0 f1 z0 z1
                go_wp2_with fail
                rw [E.out]
                refine bodyPost_ret (v := .tuple #[.slice none 0 0, .agg #[.int .i64 1, .int .i64 a]]) (by simp [results, Try.results11, go_sem, y0, y1]) rfl ⟨_, rfl, World.ownsRow_nil _ _ _ _, ?_⟩
                exact below_fault HW.out hbq
          · have hq' : ((s[a].toNat : Int) == 34) = false := by simpa using hq
            clear hq
            by_cases hL : letB (s[a].toNat : Int) = true
            · have g1 : a + 1 ≤ over nameB s a := by
                have := over_ge nameB s (a + 1)
                rwa [over_yes hlt (by simp [nameB, hL])] at this
              have RN := hd (@rd_name s a hlt hL)
              have RB := hd (@rd_name_bad s a hlt hL)
              go_wp2_with fail
              refine (rIsSign_any _ _).mono ?_
              rintro e wx ⟨rfl, hwx⟩; obtain rfl := hwx.symm
              go_wp2_with fail
              refine (rIsLetter_any _ _).mono ?_
              rintro e wx ⟨rfl, hwx⟩; obtain rfl := hwx.symm
              go_wp2_with fail
              go_loop [5] (fun i => ∃ j : Nat, a ≤ j ∧ j ≤ s.size ∧ i = .int .i64 j ∧ Hid (over nameB s j = over nameB s a)) (fun i => s.size - (intOf i).toNat)
              case atStart => exact ⟨a, by omega, has, rfl, hd rfl⟩
              case round =>
                obtain ⟨j, hj1, hj2, rfl, hov⟩ := hrel
                by_cases hjl : j < s.size
                · by_cases hl : letB (s[j].toNat : Int) = true
                  · have OV := hd ((over_yes hjl (p := nameB) (by simp [nameB, hl])).trans hov.out)
                    clear hov
                    go_wp2_with (first | (go_at_call 33; refine (rIsDigit_any _ _).mono ?_; rintro e wx ⟨rfl, hwx⟩; obtain rfl := hwx.symm) | (go_at_call 32; refine (rIsLetter_any _ _).mono ?_; rintro e wx ⟨rfl, hwx⟩; obtain rfl := hwx.symm))
                    go_round
                    case rel => exact ⟨j + 1, by omega, by omega, by go_num, OV⟩
                    case measure => simp [intOf]; omega
                  · have hl' : letB (s[j].toNat : Int) = false := by simpa using hl
                    clear hl
                    by_cases hdk : digB (s[j].toNat : Int) = true
                    · have OV := hd ((over_yes hjl (p := nameB) (by simp [nameB, hdk])).trans hov.out)
                      clear hov
                      go_wp2_with (first | (go_at_call 33; refine (rIsDigit_any _ _).mono ?_; rintro e wx ⟨rfl, hwx⟩; obtain rfl := hwx.symm) | (go_at_call 32; refine (rIsLetter_any _ _).mono ?_; rintro e wx ⟨rfl, hwx⟩; obtain rfl := hwx.symm))
                      go_round
                      case rel => exact ⟨j + 1, by omega, by omega, by go_num, OV⟩
                      case measure => simp [intOf]; omega
                    · have hdk' : digB (s[j].toNat : Int) = false := by simpa using hdk
                      have ej : over nameB s a = j := by rw [← hov.out]; exact over_no hjl (by simp [nameB, hl', hdk'])
                      clear hdk hov
                      rw [ej] at g1
                      by_cases h12 : j - a ≤ 12
                      · have ER := RN.out (by rw [ej]; exact h12)
                        rw [ej] at ER
                        have SN2 := hd (st_next hst.out hlt ER rfl)
                        rw [Int.toNat_natCast] at SN2
                        have n2 : j ≤ s.size := hj2
                        clear RN RB ER ej
                        have hl6 : l.length ≤ 6000 := by omega
                        clear f0 f1 z0 z1 FB FG
                        go_wp2_with (first | (go_at_call 33; refine (rIsDigit_any _ _).mono ?_; rintro e wx ⟨rfl, hwx⟩; obtain rfl := hwx.symm) | (go_at_call 32; refine (rIsLetter_any _ _).mono ?_; rintro e wx ⟨rfl, hwx⟩; obtain rfl := hwx.symm) | (at_builtin; go_must (refine wpList_append_own _ rfl _ _ 23 rfl (w.heap.size + 1) 31 i0 (.agg #[.int .i64 0, .int .i64 0, .string ⟨#[]⟩]) 3 32 Try.underlying23 hi iz0 iz1 iz2 rfl (by decide) _ _ _ rfl (hown.alloc _) ⟨wr.heap.size, 0, none⟩ 1 1 [.int .i64 1, .int .i64 a, .string (s.extract a j)] rfl rfl (cell3_new wr _ _ _ _) (one3 _ _ _) (by unfold maxLen; omega) (by omega) (by simp; omega) ?_)))
                        intro v' w2 hown2 hgrow _
                        have hb2 : Below (w.heap.size + 1) W w2 := Below.grown (hbr.alloc (by omega) _) hgrow (by simp; omega) (fun j hj => (hown.lt _ hj).1)
                        have hown3 : w2.ownsRow (w.heap.size + 1) 31 3 v' (l ++ [Tk.mk 1 a (s.extract a j)]).length (cellsOf (l ++ [Tk.mk 1 a (s.extract a j)])) := by rw [cellsOf_snoc, List.length_append]; exact hown2
                        clear hown2 hgrow hown hbr
                        go_wp2_with fail

                        have C := rSkipped_any s (j) w2 hm (by omega)
                        have k1 := skip_ge s (j)
                        have k2 := skip_le s (j) n2
                        generalize skip s (j) = a2 at *
                        refine C.mono ?_
                        clear C
                        rintro e w3 ⟨rfl, rfl⟩
                        have hz2 := hb2.size
                        go_wp2_with fail
                        go_roundw
                        case rel => exact ⟨k + 1, _, a2, SN2, by omega, k2, by simp; omega, rfl, hown3, hb2⟩
                        case measure => simp [intOf]; omega
                      · have ER := RB.out (by rw [ej]; exact h12)
                        have E := hd (FB.out k l a _ _ _ hst.out hka hlt ER (by decide) h6')
                        clear RN RB ER ej FB FG
                        go_wp2_with (first | (go_at_call 33; refine (rIsDigit_any _ _).mono ?_; rintro e wx ⟨rfl, hwx⟩; obtain rfl := hwx.symm) | (go_at_call 32; refine (rIsLetter_any _ _).mono ?_; rintro e wx ⟨rfl, hwx⟩; obtain rfl := hwx.symm))
                        refine (rF_any _ _ _).mono ?_
                        rintro e w1 ⟨rfl, hb⟩
                        have y0 : w1.cell? ⟨w.heap.size, 0, none⟩ = some (.int .i64 0) := by rw [hb.cell (p := ⟨w.heap.size, 0, none⟩) (by show w.heap.size < _; omega)]; exact f0
                        have y1 : w1.cell? ⟨w.heap.size, 1, none⟩ = some (.int .i64 0) := by rw [hb.cell (p := ⟨w.heap.size, 1, none⟩) (by show w.heap.size < _; omega)]; exact f1
                        have x0 : w1.frozen? ⟨w.heap.size, 0, none⟩ = false := by rw [hb.frozen (p := ⟨w.heap.size, 0, none⟩) (by show w.heap.size < _; omega)]; exact z0
                        have x1 : w1.frozen? ⟨w.heap.size, 1, none⟩ = false := by rw [hb.frozen (p := ⟨w.heap.size, 1, none⟩) (by show w.heap.size < _; omega)]; exact z1
                        have hz3 : w.heap.size < w1.heap.size := by have := hb.size; omega
                        have hbq := hbr.trans (hb.mono hzr)
                        clear hb hbr hown f0 f1 z0 z1
                        go_wp2_with fail
                        rw [E.out]
                        refine bodyPost_ret (v := .tuple #[.slice none 0 0, .agg #[.int .i64 2, .int .i64 a]]) (by simp [results, Try.results11, go_sem, y0, y1]) rfl ⟨_, rfl, World.ownsRow_nil _ _ _ _, ?_⟩
                        exact below_fault HW.out hbq
                · have ej : over nameB s a = j := by rw [← hov.out]; exact over_end (by omega)
                  clear hov
                  rw [ej] at g1
                  by_cases h12 : j - a ≤ 12
                  · have ER := RN.out (by rw [ej]; exact h12)
                    rw [ej] at ER
                    have SN2 := hd (st_next hst.out hlt ER rfl)
                    rw [Int.toNat_natCast] at SN2
                    have n2 : j ≤ s.size := hj2
                    clear RN RB ER ej
                    have hl6 : l.length ≤ 6000 := by omega
                    clear f0 f1 z0 z1 FB FG
                    go_wp2_with (first | (go_at_call 33; refine (rIsDigit_any _ _).mono ?_; rintro e wx ⟨rfl, hwx⟩; obtain rfl := hwx.symm) | (go_at_call 32; refine (rIsLetter_any _ _).mono ?_; rintro e wx ⟨rfl, hwx⟩; obtain rfl := hwx.symm) | (at_builtin; go_must (refine wpList_append_own _ rfl _ _ 23 rfl (w.heap.size + 1) 31 i0 (.agg #[.int .i64 0, .int .i64 0, .string ⟨#[]⟩]) 3 32 Try.underlying23 hi iz0 iz1 iz2 rfl (by decide) _ _ _ rfl (hown.alloc _) ⟨wr.heap.size, 0, none⟩ 1 1 [.int .i64 1, .int .i64 a, .string (s.extract a j)] rfl rfl (cell3_new wr _ _ _ _) (one3 _ _ _) (by unfold maxLen; omega) (by omega) (by simp; omega) ?_)))
                    intro v' w2 hown2 hgrow _
                    have hb2 : Below (w.heap.size + 1) W w2 := Below.grown (hbr.alloc (by omega) _) hgrow (by simp; omega) (fun j hj => (hown.lt _ hj).1)
                    have hown3 : w2.ownsRow (w.heap.size + 1) 31 3 v' (l ++ [Tk.mk 1 a (s.extract a j)]).length (cellsOf (l ++ [Tk.mk 1 a (s.extract a j)])) := by rw [cellsOf_snoc, List.length_append]; exact hown2
                    clear hown2 hgrow hown hbr
                    go_wp2_with fail

                    have C := rSkipped_any s (j) w2 hm (by omega)
                    have k1 := skip_ge s (j)
                    have k2 := skip_le s (j) n2
                    generalize skip s (j) = a2 at *
                    refine C.mono ?_
                    clear C
                    rintro e w3 ⟨rfl, rfl⟩
                    have hz2 := hb2.size
                    go_wp2_with fail
                    go_roundw
                    case rel => exact ⟨k + 1, _, a2, SN2, by omega, k2, by simp; omega, rfl, hown3, hb2⟩
                    case measure => simp [intOf]; omega
                  · have ER := RB.out (by rw [ej]; exact h12)
                    have E := hd (FB.out k l a _ _ _ hst.out hka hlt ER (by decide) h6')
                    clear RN RB ER ej FB FG
                    go_wp2_with (first | (go_at_call 33; refine (rIsDigit_any _ _).mono ?_; rintro e wx ⟨rfl, hwx⟩; obtain rfl := hwx.symm) | (go_at_call 32; refine (rIsLetter_any _ _).mono ?_; rintro e wx ⟨rfl, hwx⟩; obtain rfl := hwx.symm))
                    refine (rF_any _ _ _).mono ?_
                    rintro e w1 ⟨rfl, hb⟩
                    have y0 : w1.cell? ⟨w.heap.size, 0, none⟩ = some (.int .i64 0) := by rw [hb.cell (p := ⟨w.heap.size, 0, none⟩) (by show w.heap.size < _; omega)]; exact f0
                    have y1 : w1.cell? ⟨w.heap.size, 1, none⟩ = some (.int .i64 0) := by rw [hb.cell (p := ⟨w.heap.size, 1, none⟩) (by show w.heap.size < _; omega)]; exact f1
                    have x0 : w1.frozen? ⟨w.heap.size, 0, none⟩ = false := by rw [hb.frozen (p := ⟨w.heap.size, 0, none⟩) (by show w.heap.size < _; omega)]; exact z0
                    have x1 : w1.frozen? ⟨w.heap.size, 1, none⟩ = false := by rw [hb.frozen (p := ⟨w.heap.size, 1, none⟩) (by show w.heap.size < _; omega)]; exact z1
                    have hz3 : w.heap.size < w1.heap.size := by have := hb.size; omega
                    have hbq := hbr.trans (hb.mono hzr)
                    clear hb hbr hown f0 f1 z0 z1
                    go_wp2_with fail
                    rw [E.out]
                    refine bodyPost_ret (v := .tuple #[.slice none 0 0, .agg #[.int .i64 2, .int .i64 a]]) (by simp [results, Try.results11, go_sem, y0, y1]) rfl ⟨_, rfl, World.ownsRow_nil _ _ _ _, ?_⟩
                    exact below_fault HW.out hbq
            · have hL' : letB (s[a].toNat : Int) = false := by simpa using hL
              clear hL
              have ER := rd_none hlt hg' hq' hL'
              have E := hd (FB.out k l a _ _ _ hst.out hka hlt ER (by decide) h6')
              clear ER FB FG
              go_wp2_with fail
              refine (rIsSign_any _ _).mono ?_
              rintro e wx ⟨rfl, hwx⟩; obtain rfl := hwx.symm
              go_wp2_with fail
              refine (rIsLetter_any _ _).mono ?_
              rintro e wx ⟨rfl, hwx⟩; obtain rfl := hwx.symm
              go_wp2_with fail
              refine (rF_any _ _ _).mono ?_
              rintro e w1 ⟨rfl, hb⟩
              have y0 : w1.cell? ⟨w.heap.size, 0, none⟩ = some (.int .i64 0) := by rw [hb.cell (p := ⟨w.heap.size, 0, none⟩) (by show w.heap.size < _; omega)]; exact f0
              have y1 : w1.cell? ⟨w.heap.size, 1, none⟩ = some (.int .i64 0) := by rw [hb.cell (p := ⟨w.heap.size, 1, none⟩) (by show w.heap.size < _; omega)]; exact f1
              have x0 : w1.frozen? ⟨w.heap.size, 0, none⟩ = false := by rw [hb.frozen (p := ⟨w.heap.size, 0, none⟩) (by show w.heap.size < _; omega)]; exact z0
              have x1 : w1.frozen? ⟨w.heap.size, 1, none⟩ = false := by rw [hb.frozen (p := ⟨w.heap.size, 1, none⟩) (by show w.heap.size < _; omega)]; exact z1
              have hz3 : w.heap.size < w1.heap.size := by have := hb.size; omega
              have hbq := hbr.trans (hb.mono hzr)
              clear hb hbr hown f0 f1 z0 z1
              go_wp2_with fail
              rw [E.out]
              refine bodyPost_ret (v := .tuple #[.slice none 0 0, .agg #[.int .i64 1, .int .i64 a]]) (by simp [results, Try.results11, go_sem, y0, y1]) rfl ⟨_, rfl, World.ownsRow_nil _ _ _ _, ?_⟩
              exact below_fault HW.out hbq
      · have E := hd (FG.out k l a hst.out hka has hlt h6')
        clear FB FG
        go_wp2_with fail
        rw [E.out]
        refine bodyPost_ret (v := .tuple #[u4, .agg #[.int .i64 0, .int .i64 0]]) (by simp [results, Try.results11, go_sem, f0, f1]) rfl ⟨_, rfl, ?_, ?_⟩
        · exact owns_mono (owns_setCell (owns_setCell hown (by simp)) (by simp)) (by omega)
        · exact below_fault HW.out hbr
end Go.Proofs.Ytkianolbnjineaa
