/- The document's reader: alternatives. -/
import Derived.Test.YthbbfddclhcoaaaRRow
namespace Go.Proofs.Ythbbfddclhcoaaa
open Go.RowKit
section
variable {r : Nat} {ao : Option Addr} {cap : Nat} {l : List Tk} {en : Int}
set_option maxHeartbeats 4000000 in
theorem ralt_step {k : Nat} (H : ∀ j, j < k → RRowOK r ao cap l en j) : RAltOK r ao cap l en k := by
  intro n p o w h hf
  obtain ⟨i0, hi, iz0, iz1, iz2⟩ := info_parts Try.infoExpr
  obtain ⟨k, rfl⟩ : ∃ j, k = j + 1 := ⟨k - 1, by omega⟩
  generalize hR : alt l en (k + 1) n p o = R
  rw [alt] at hR
  have sz := h.sz
  have pl := h.pl
  have nl := h.nl
  have ln := h.ln
  have hne : ¬ w.heap.size = r := by omega
  obtain ⟨W, hW⟩ : ∃ W, W = w.alloc (.cells #[.int .i64 0, .string ⟨#[]⟩, .slice none 0 0] 49) := ⟨_, rfl⟩
  have hWz : W.heap.size = w.heap.size + 1 := by rw [hW]; simp
  have hWr : RgS W r ao cap l en n p o := by rw [hW]; exact h.alloc_ _
  have hWb : But r w W := by rw [hW]; exact (But.refl r w).alloc _
  have hWc : W.cell? ⟨w.heap.size, 0, none⟩ = some (.int .i64 0) ∧ W.cell? ⟨w.heap.size, 1, none⟩ = some (.string ⟨#[]⟩) ∧ W.cell? ⟨w.heap.size, 2, none⟩ = some (.slice none 0 0) ∧ ∀ i, W.frozen? ⟨w.heap.size, i, none⟩ = false := by
    rw [hW]; exact ⟨by simp, by simp, by simp, fun i => by simp⟩
  have ha := h.hao _ (Nat.le_refl _)
  have htk := h.tkb
  clear h
  have A := H k (by omega) n p o W hWr (by omega)
  have FA := (far l en k).row n p o .nil
  cases hA : rowL l en k n p o .nil with
  | out =>
    rw [hA] at A
    go_enter Try.func40, Try.ntmps40
    go_wp2_with fail
    rw [← hW]
    refine A.mono ?_
    rintro e w1 h2
    exact h2.elim
  | err c a =>
    rw [hA] at A hR
    simp only at hR
    subst hR
    go_enter Try.func40, Try.ntmps40
    go_wp2_with fail
    rw [← hW]
    have HW := hd hW
    clear hW
    refine A.mono ?_
    rintro e w0 ⟨xi, xs, xq, xm, xk, rfl, h0, hb0⟩
    have z0 := hb0.size
    have sz0 := h0.sz
    have e0 : w0.cell? ⟨w.heap.size, 0, none⟩ = some (.int .i64 0) := by rw [hb0.cell (by omega) hne]; exact hWc.1
    have e1 : w0.cell? ⟨w.heap.size, 1, none⟩ = some (.string ⟨#[]⟩) := by rw [hb0.cell (by omega) hne]; exact hWc.2.1
    have e2 : w0.cell? ⟨w.heap.size, 2, none⟩ = some (.slice none 0 0) := by rw [hb0.cell (by omega) hne]; exact hWc.2.2.1
    have ef : ∀ i, w0.frozen? ⟨w.heap.size, i, none⟩ = false := fun i => by rw [hb0.frozen (by omega) hne]; exact hWc.2.2.2 i
    have hlt : w.heap.size < w0.heap.size := by omega
    have hnw : ¬ w0.heap.size = w.heap.size := by omega
    have gc : ∀ X i, (w0.alloc X).cell? ⟨w.heap.size, i, none⟩ = w0.cell? ⟨w.heap.size, i, none⟩ := fun X i => World.cell?_alloc_lt _ _ _ hlt
    have gf : ∀ X i, (w0.alloc X).frozen? ⟨w.heap.size, i, none⟩ = false := fun X i => by
      rw [World.frozen?_alloc_old _ _ _ (by simp; omega)]; exact ef i
    go_wp2_with fail
    refine (is_err (h0.alloc_ _) ⟨#[124]⟩).mono ?_
    rintro e w1 ⟨rfl, m1, rfl⟩
    go_wp2_with fail
    refine bodyPost_ret (v := .agg #[.int .i64 xi, .string xs, .slice xq xm xk]) (by simp [results, Try.results40, go_sem, e0, e1, e2, hlt]) rfl ⟨_, _, _, _, _, rfl, ?_, ?_⟩
    · exact ((((h0.alloc_ _).drew_ m1).off (by simp; omega) _).off (by simp; omega) _).off (by simp; omega) _
    · exact (((((hWb.trans hb0).alloc _).drewN m1).setCell (.inr (Nat.le_refl _)) _).setCell (.inr (Nat.le_refl _)) _).setCell (.inr (Nat.le_refl _)) _
  | ok x n1 p1 =>
    have FA2 := FA x n1 p1 pl nl hA
    rw [hA] at A hR
    simp only at hR
    have HR := hd hR
    clear hR FA hA
    cases hI : isS l n1 ⟨#[124]⟩ with
    | false =>
      obtain ⟨k', rfl⟩ : ∃ j, k = j + 1 := ⟨k - 1, by omega⟩
      have hRR := HR.out
      rw [altL, hI] at hRR
      have hm : mk 4 (Fo.nil.snoc x) = x := by simp [mk, Fo.snoc, Fo.len, Fo.at_]
      rw [if_neg (by decide), hm] at hRR
      clear HR
      subst hRR
      go_enter Try.func40, Try.ntmps40
      go_wp2_with fail
      rw [← hW]
      have HW := hd hW
      clear hW
      refine A.mono ?_
      rintro e w0 ⟨v0, rfl, hx0, h0, hb0⟩
      have z0 := hb0.size
      have sz0 := h0.sz
      have hxx0 := hx0
      obtain ⟨u0, rfl, hl0, ao0, cap0, rfl, hin0⟩ := hx0
      clear hin0 A
      have e0 : w0.cell? ⟨w.heap.size, 0, none⟩ = some (.int .i64 0) := by rw [hb0.cell (by omega) hne]; exact hWc.1
      have e1 : w0.cell? ⟨w.heap.size, 1, none⟩ = some (.string ⟨#[]⟩) := by rw [hb0.cell (by omega) hne]; exact hWc.2.1
      have e2 : w0.cell? ⟨w.heap.size, 2, none⟩ = some (.slice none 0 0) := by rw [hb0.cell (by omega) hne]; exact hWc.2.2.1
      have ef : ∀ i, w0.frozen? ⟨w.heap.size, i, none⟩ = false := fun i => by rw [hb0.frozen (by omega) hne]; exact hWc.2.2.2 i
      have hlt : w.heap.size < w0.heap.size := by omega
      have hnw : ¬ w0.heap.size = w.heap.size := by omega
      have gc : ∀ X i, (w0.alloc X).cell? ⟨w.heap.size, i, none⟩ = w0.cell? ⟨w.heap.size, i, none⟩ := fun X i => World.cell?_alloc_lt _ _ _ hlt
      have gf : ∀ X i, (w0.alloc X).frozen? ⟨w.heap.size, i, none⟩ = false := fun X i => by
        rw [World.frozen?_alloc_old _ _ _ (by simp; omega)]; exact ef i
      go_wp2_with fail
      refine (is_any (h0.alloc_ _) ⟨#[124]⟩).mono ?_
      rintro e w1 ⟨rfl, m1, rfl⟩
      rw [hI]
      go_wp2_with fail
      refine bodyPost_ret (v := .agg #[.int .i64 x.op, .string x.nm, .slice ao0 x.kids.len cap0]) (by simp [results, Try.results40, go_sem, e0, e1, e2, hlt]) rfl ⟨_, rfl, ?_, ?_, ?_⟩
      · exact hxx0.kp ((((((Kp.refl _ w0).alloc _).drewN m1).setCell (.inl (by simp; omega)) _).setCell (.inl (by simp; omega)) _).setCell (.inl (by simp; omega)) _) (fun k _ h => by omega)
      · exact ((((h0.alloc_ _).drew_ m1).off (by simp; omega) ha _).off (by simp; omega) ha _).off (by simp; omega) ha _
      · exact (((((hWb.trans hb0).alloc _).drewN m1).setCell (.inr (Nat.le_refl _)) _).setCell (.inr (Nat.le_refl _)) _).setCell (.inr (Nat.le_refl _)) _
    | true =>
      go_enter Try.func40, Try.ntmps40
      go_wp2_with fail
      rw [← hW]
      have HW := hd hW
      clear hW
      refine A.mono ?_
      rintro e w0 ⟨v0, rfl, hx0, h0, hb0⟩
      have z0 := hb0.size
      have sz0 := h0.sz
      have hxx0 := hx0
      obtain ⟨u0, rfl, hl0, ao0, cap0, rfl, hin0⟩ := hx0
      clear hin0 A
      go_wp2_with fail
      refine (is_any (h0.alloc_ _) ⟨#[124]⟩).mono ?_
      rintro e w1 ⟨rfl, m1, hw1⟩
      rw [hI]
      have h1 := (h0.alloc_ (.cells #[.int .i64 x.op, .string x.nm, .slice ao0 x.kids.len cap0] 49)).drew_ m1
      have b1 : Below w0.heap.size w0 w1 := by rw [hw1]; exact below_drewN0 ((Below.refl _ _).alloc (Nat.le_refl _) _) m1
      have z1 : w0.heap.size + 1 ≤ w1.heap.size := by rw [hw1]; simp
      have d0 : w1.cell? ⟨w0.heap.size, 0, none⟩ = some (.int .i64 x.op) := by rw [hw1]; simp
      have d1 : w1.cell? ⟨w0.heap.size, 1, none⟩ = some (.string x.nm) := by rw [hw1]; simp
      have d2 : w1.cell? ⟨w0.heap.size, 2, none⟩ = some (.slice ao0 x.kids.len cap0) := by rw [hw1]; simp
      rw [← hw1] at h1
      clear hw1
      go_wp2_with fail
      go_loopg [4] k (fun gk v wr => ∃ (vv : Value), vv = v ∧ ((∃ (n' p' : Nat) (acc : Fo) (xs : List Value), RgS wr r ao cap l en n' p' o ∧ gk ≤ k ∧ 4 * (l.length - n') + 1 ≤ gk ∧ Hid (altL l en gk n' p' o acc = R) ∧ 1 ≤ acc.len ∧ acc.len ≤ p' + 1 ∧ (2 ≤ acc.len ∨ isS l n' ⟨#[124]⟩ = true) ∧ wr.ownsRow (w.heap.size + 1) 49 3 v acc.len xs ∧ FoC wr (fun q => w.heap.size + 1 ≤ q ∧ v.ownBlock ≠ some q) xs acc ∧ But r W wr) ∨ (∃ (c a : Int) (q : Option Addr) (m m' : Nat), Hid (R = .err c a) ∧ RgE wr r o c a ∧ v = .slice q m m' ∧ But r W wr)))
      case atStart =>
        refine ⟨_, rfl, .inl ⟨n1, p1, Fo.nil.snoc x, _, h1.alloc_ _, Nat.le_refl _, by omega, HR, by simp [Fo.snoc, Fo.len], by simp [Fo.snoc, Fo.len], .inr hI, owns_lit w1 _ _ _ _ (w.heap.size + 1) (by omega), ?_, (hb0.trans (But.of_below b1)).alloc _⟩⟩
        exact ⟨rfl, rfl, (hxx0.kp (T := fun q => w.heap.size + 1 ≤ q ∧ (Value.slice (some ⟨w1.heap.size, 0, none⟩) 1 1).ownBlock ≠ some q) ((Kp.of_below b1).alloc _) (fun q hq hs => ⟨by omega, fun e => by simp [Value.ownBlock] at e; omega⟩)).fov, trivial⟩
      case round =>
        obtain ⟨v, hv, hrel⟩ := hrel
        subst hv
        clear hxx0 h0 hb0 HR h1 b1 d0 d1 d2
        rcases hrel with ⟨n', p', acc, xs, h1, hgk, hfu, hE, hac1, hal, hac, hown, hfc, hbr⟩ | ⟨c, a, q, m, m', hE, h1, rfl, hbr⟩
        · have hzr := hbr.size
          rw [hWz] at hzr
          have hp60 := h1.pl
          obtain ⟨j, rfl⟩ : ∃ j, gk = j + 1 := ⟨gk - 1, by omega⟩
          have SE := is_any h1 ⟨#[124]⟩
          have hEE := hE.out
          rw [altL] at hEE
          have hvl : ∀ q, v.ownBlock = some q → w.heap.size + 1 ≤ q ∧ q < wr.heap.size := fun q e => hown.lt q e
          by_cases hs : isS l n' ⟨#[124]⟩ = true
          · have hn' := lt_of_isS hs
            have hn6 : (n' : Int) < 6000 := by omega
            rw [if_pos hs] at hEE
            rw [hs] at SE
            by_cases hp : p' = 60
            · rw [if_pos hp] at hEE
              have HE := hd hEE
              clear hEE hE
              obtain ⟨aov, capv, hve⟩ := owns_slice hown
              have HVE := hd hve
              clear hve
              go_wp2_with fail
              refine SE.mono ?_
              rintro e w1 ⟨rfl, m1, rfl⟩
              go_wp2_with fail
              refine (rpart_no (h1.drew_ m1) hn' hp).mono ?_
              rintro e w2 ⟨rfl, h2, hb2⟩
              go_wp2_with fail
              refine (ok_no h2).mono ?_
              rintro e wx ⟨rfl, hwx⟩; obtain rfl := hwx.symm
              go_wp2_with fail
              go_roundg j
              case measure => omega
              case rel => exact ⟨v, rfl, .inr ⟨_, _, aov, _, capv, HE.out.symm, h2, HVE.out, (hbr.drewN m1).trans hb2⟩⟩
            · rw [if_neg hp] at hEE
              have RO := fun w2 h2 => H j (by omega) (n' + 1) (p' + 1) o w2 h2 (by omega)
              have FR := (far l en j).row (n' + 1) (p' + 1) o .nil
              cases hA : rowL l en j (n' + 1) (p' + 1) o .nil with
              | out =>
                rw [hA] at RO
                clear hEE hE
                go_wp2_with fail
                refine SE.mono ?_
                rintro e w1 ⟨rfl, m1, rfl⟩
                go_wp2_with fail
                refine (rpart_yes (h1.drew_ m1) hp).mono ?_
                rintro e w2 ⟨rfl, h2, hb2⟩
                have z2 := hb2.size
                simp at z2
                go_wp2_with fail
                refine (ok_yes h2).mono ?_
                rintro e wx ⟨rfl, hwx⟩; obtain rfl := hwx.symm
                have q2 := h2.c2
                have qf := h2.fz
                go_wp2_with fail
                have h3 := h2.setNext hn'
                have bb3 : But r wr (w2.setCell ⟨r, 2, none⟩ (.int .i64 ((n' + 1 : Nat) : Int))) := (((But.refl r wr).drewN m1).trans hb2).setCell (.inl rfl) _
                have z3' : (w2.setCell ⟨r, 2, none⟩ (.int .i64 ((n' + 1 : Nat) : Int))).heap.size = w2.heap.size := by simp [World.setCell]
                refine (RO _ h3).mono ?_
                rintro e wq h4
                exact h4.elim
              | err c a =>
                rw [hA] at RO hEE
                simp only at hEE
                have HE := hd hEE
                clear hEE hE
                go_wp2_with fail
                refine SE.mono ?_
                rintro e w1 ⟨rfl, m1, rfl⟩
                go_wp2_with fail
                refine (rpart_yes (h1.drew_ m1) hp).mono ?_
                rintro e w2 ⟨rfl, h2, hb2⟩
                have z2 := hb2.size
                simp at z2
                go_wp2_with fail
                refine (ok_yes h2).mono ?_
                rintro e wx ⟨rfl, hwx⟩; obtain rfl := hwx.symm
                have q2 := h2.c2
                have qf := h2.fz
                go_wp2_with fail
                have h3 := h2.setNext hn'
                have bb3 : But r wr (w2.setCell ⟨r, 2, none⟩ (.int .i64 ((n' + 1 : Nat) : Int))) := (((But.refl r wr).drewN m1).trans hb2).setCell (.inl rfl) _
                have z3' : (w2.setCell ⟨r, 2, none⟩ (.int .i64 ((n' + 1 : Nat) : Int))).heap.size = w2.heap.size := by simp [World.setCell]
                refine (RO _ h3).mono ?_
                rintro e wq ⟨xi, xs', xq, xm, xk, rfl, h4, hbq⟩
                have zq := hbq.size
                have hbw : But r wr wq := bb3.trans hbq
                have hown1 := owns_but hown hbw (by omega)
                go_wp2_with (first | (at_builtin; go_must (refine wpList_append_own_at _ rfl _ _ 47 rfl (w.heap.size + 1) 49 i0 (.agg #[.int .i64 0, .string ⟨#[]⟩, .slice none 0 0]) 3 48 Try.underlying47 hi iz0 iz1 iz2 rfl (by decide) _ _ _ rfl (hown1.alloc _) ⟨wq.heap.size, 0, none⟩ 1 1 [.int .i64 xi, .string xs', .slice xq xm xk] rfl rfl (cell3_new wq _ _ _ _) (oneX _ _ _ _ _) (by unfold maxLen; omega) (by omega) (by simp; omega) ?_)))
                intro v' w3 hown3 hgrow _ hat
                obtain ⟨aov, capv, hve⟩ := owns_slice hown3
                have HVE := hd hve
                clear hve
                go_wp2_with fail
                go_roundg j
                case measure => omega
                case rel =>
                  refine ⟨v', rfl, .inr ⟨_, _, aov, _, capv, HE.out.symm, ?_, HVE.out, ?_⟩⟩
                  · exact h4.kp (S := fun q => q < w.heap.size) (Kp.grown ((Kp.refl _ wq).alloc _) hgrow (fun q e => .inl (by have := (hvl q e).1; omega))) sz
                  · exact ((hbr.trans hbw).alloc _).grown hgrow (fun q e => by have := (hvl q e).1; omega)
              | ok x n2 p2 =>
                have FR2 := FR x n2 p2 (by omega) (by omega) hA
                rw [hA] at RO hEE
                simp only at hEE
                have HE := hd hEE
                clear hE hEE FR hA
                go_wp2_with fail
                refine SE.mono ?_
                rintro e w1 ⟨rfl, m1, rfl⟩
                go_wp2_with fail
                refine (rpart_yes (h1.drew_ m1) hp).mono ?_
                rintro e w2 ⟨rfl, h2, hb2⟩
                have z2 := hb2.size
                simp at z2
                go_wp2_with fail
                refine (ok_yes h2).mono ?_
                rintro e wx ⟨rfl, hwx⟩; obtain rfl := hwx.symm
                have q2 := h2.c2
                have qf := h2.fz
                go_wp2_with fail
                have h3 := h2.setNext hn'
                have bb3 : But r wr (w2.setCell ⟨r, 2, none⟩ (.int .i64 ((n' + 1 : Nat) : Int))) := (((But.refl r wr).drewN m1).trans hb2).setCell (.inl rfl) _
                have z3' : (w2.setCell ⟨r, 2, none⟩ (.int .i64 ((n' + 1 : Nat) : Int))).heap.size = w2.heap.size := by simp [World.setCell]
                refine (RO _ h3).mono ?_
                rintro e wq ⟨v1, rfl, hx, h4, hbq⟩
                have zq := hbq.size
                have hxx : XV wq (fun k => wr.heap.size ≤ k) v1 x := hx.mono fun b o v hs hc => ⟨by omega, hc⟩
                clear hx
                have hx := hxx
                obtain ⟨u, rfl, hl, ao', cap', rfl, hin⟩ := hx
                clear hin
                have hbw : But r wr wq := bb3.trans hbq
                have hown1 := owns_but hown hbw (by omega)
                go_wp2_with (first | (at_builtin; go_must (refine wpList_append_own_at _ rfl _ _ 47 rfl (w.heap.size + 1) 49 i0 (.agg #[.int .i64 0, .string ⟨#[]⟩, .slice none 0 0]) 3 48 Try.underlying47 hi iz0 iz1 iz2 rfl (by decide) _ _ _ rfl (hown1.alloc _) ⟨wq.heap.size, 0, none⟩ 1 1 [.int .i64 x.op, .string x.nm, .slice ao' x.kids.len cap'] rfl rfl (cell3_new wq _ _ _ _) (oneX _ _ _ _ _) (by unfold maxLen; omega) (by omega) (by simp; omega) ?_)))
                intro v' w3 hown3 hgrow _ hat
                have z3 := hgrow.size
                simp at z3
                go_wp2_with fail
                go_roundg j
                case measure => omega
                case rel =>
                  refine ⟨v', rfl, .inl ⟨n2, p2, acc.snoc x, _, ?_, by omega, by omega, HE, by rw [Fo.len_snoc]; omega, by rw [Fo.len_snoc]; omega, .inl (by rw [Fo.len_snoc]; omega), by rw [Fo.len_snoc]; exact hown3, ?_, ?_⟩⟩
                  · exact h4.kp (S := fun q => q < w.heap.size) (Kp.grown ((Kp.refl _ wq).alloc _) hgrow (fun q e => .inl (by have := (hvl q e).1; omega))) sz htk
                  · refine FoC_step (w1 := wq) (g := wq.heap.size + 1) hfc hxx.fov hzr (by omega) ?_ ?_ (fun q e => (hvl q e).2) (by omega) (by simpa using hat)
                    · exact Kp.grown ((Kp.of_but hbw (by omega)).alloc _) hgrow (fun q e => .inl fun hs => hs.2 e)
                    · exact Kp.grown ((Kp.refl _ wq).alloc _) hgrow (fun q e => .inl fun hs => by have := (hvl q e).2; omega)
                  · exact ((hbr.trans hbw).alloc _).grown hgrow (fun q e => by have := (hvl q e).1; omega)
          · rw [if_neg hs] at hEE
            have hs' : isS l n' ⟨#[124]⟩ = false := by simpa using hs
            rw [hs'] at SE
            have hac2 : 2 ≤ acc.len := hac.resolve_right hs
            have hmk : mk 4 acc = ⟨4, ⟨#[]⟩, acc⟩ := if_neg (by omega)
            rw [hmk] at hEE
            subst hEE
            clear hE
            obtain ⟨aov, capv, rfl⟩ := owns_slice hown
            have e0 : wr.cell? ⟨w.heap.size, 0, none⟩ = some (.int .i64 0) := by rw [hbr.cell (by omega) hne]; exact hWc.1
            have e1 : wr.cell? ⟨w.heap.size, 1, none⟩ = some (.string ⟨#[]⟩) := by rw [hbr.cell (by omega) hne]; exact hWc.2.1
            have e2 : wr.cell? ⟨w.heap.size, 2, none⟩ = some (.slice none 0 0) := by rw [hbr.cell (by omega) hne]; exact hWc.2.2.1
            have ef : ∀ i, wr.frozen? ⟨w.heap.size, i, none⟩ = false := fun i => by rw [hbr.frozen (by omega) hne]; exact hWc.2.2.2 i
            go_wp2_with fail
            refine SE.mono ?_
            rintro e w1 ⟨rfl, m1, rfl⟩
            go_wp2_with fail
            refine bodyPost_ret (v := .agg #[.int .i64 4, .string ⟨#[]⟩, .slice aov acc.len capv]) (by simp [results, Try.results40, go_sem, e0, e1, e2]) rfl ⟨_, rfl, ⟨_, rfl, ?_⟩, ?_, ?_⟩
            · exact FoV_owned (w := (((wr.drewN m1).setCell _ _).setCell _ _).setCell _ _) (owns_setCell (owns_setCell (owns_setCell (w := wr.drewN m1) hown (by simp)) (by simp)) (by simp)) (hfc.kp (T := fun q => w.heap.size ≤ q) (((((Kp.refl _ wr).drewN m1).setCell (.inl (fun hs => absurd hs.1 (Nat.not_succ_le_self _))) _).setCell (.inl (fun hs => absurd hs.1 (Nat.not_succ_le_self _))) _).setCell (.inl (fun hs => absurd hs.1 (Nat.not_succ_le_self _))) _) (fun k _ h => by omega)) (fun _ h => h) (fun k h => by omega) (show acc.len ≤ _ by omega)
            · exact (((h1.drew_ m1).off (by simp; omega) ha _).off (by simp; omega) ha _).off (by simp; omega) ha _
            · exact ((((hWb.trans hbr).drewN m1).setCell (.inr (Nat.le_refl _)) _).setCell (.inr (Nat.le_refl _)) _).setCell (.inr (Nat.le_refl _)) _
        · have hzr := hbr.size
          rw [hWz] at hzr
          have hEE := hE.out
          subst hEE
          clear hE
          have SE := is_err h1 ⟨#[124]⟩
          have sz1 := h1.sz
          have e0 : wr.cell? ⟨w.heap.size, 0, none⟩ = some (.int .i64 0) := by rw [hbr.cell (by omega) hne]; exact hWc.1
          have e1 : wr.cell? ⟨w.heap.size, 1, none⟩ = some (.string ⟨#[]⟩) := by rw [hbr.cell (by omega) hne]; exact hWc.2.1
          have e2 : wr.cell? ⟨w.heap.size, 2, none⟩ = some (.slice none 0 0) := by rw [hbr.cell (by omega) hne]; exact hWc.2.2.1
          have ef : ∀ i, wr.frozen? ⟨w.heap.size, i, none⟩ = false := fun i => by rw [hbr.frozen (by omega) hne]; exact hWc.2.2.2 i
          go_wp2_with fail
          refine SE.mono ?_
          rintro e w1 ⟨rfl, m1, rfl⟩
          go_wp2_with fail
          refine bodyPost_ret (v := .agg #[.int .i64 4, .string ⟨#[]⟩, .slice q m m']) (by simp [results, Try.results40, go_sem, e0, e1, e2]) rfl ⟨_, _, _, _, _, rfl, ?_, ?_⟩
          · exact (((h1.drew_ m1).off (by simp; omega) _).off (by simp; omega) _).off (by simp; omega) _
          · exact ((((hWb.trans hbr).drewN m1).setCell (.inr (Nat.le_refl _)) _).setCell (.inr (Nat.le_refl _)) _).setCell (.inr (Nat.le_refl _)) _
theorem rall_ok (k : Nat) : RItemOK r ao cap l en k ∧ RRowOK r ao cap l en k ∧ RAltOK r ao cap l en k := by
  induction k using Nat.strongRecOn with
  | _ k ih =>
    refine ⟨?_, rrow_step fun j hj => (ih j hj).1, ralt_step fun j hj => (ih j hj).2.1⟩
    cases k with
    | zero => intro n p o w _ hf; omega
    | succ k => exact ritem_step (ih k (by omega)).2.2
end
end Go.Proofs.Ythbbfddclhcoaaa
