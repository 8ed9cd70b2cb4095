/- Rows and alternatives: the reader's own functions. -/
import Derived.Test.YtdikjhfnmkejcabItem
import Derived.Deep.LoopGhost
namespace Go.Proofs.Ytdikjhfnmkejcab
open Go.RowKit
theorem Try.infoExpr : (Try.prog.info? 48).map (fun i => (i.zero, i.size, i.bytes)) = some (some (.agg #[.int .i64 0, .string ⟨#[]⟩, .slice none 0 0]), 3, 48) := by kernel_rfl
theorem cell3_new2 (w : World) (E : Obj) (v0 v1 v2 : Value) (t : TypeId) : ∀ j u, [v0, v1, v2][j]? = some u → ((w.alloc E).alloc (.cells #[v0, v1, v2] t)).cell? ((⟨w.heap.size + 1, 0, none⟩ : Addr).add j) = some u := by
  have := cell3_new (w.alloc E) v0 v1 v2 t
  rw [World.size_alloc] at this
  exact this
theorem oneX (a : Int) (t : ByteArray) (ao : Option Addr) (n c : Nat) : ∀ u ∈ [Value.int .i64 a, Value.string t, Value.slice ao n c], u.oneCell' = true := by
  intro u hu; simp at hu; rcases hu with rfl | rfl | rfl <;> rfl
/-- One expression more at the end of a row that the call owns. -/
theorem FoC_step {wr w1 w3 : World} {base g : Nat} {v v' : Value} {xs : List Value} {acc : Fo} {x : Xp} {u : Value}
    (hc : FoC wr (fun q => base ≤ q ∧ v.ownBlock ≠ some q) xs acc) (hu : FoV w1 (fun k => wr.heap.size ≤ k) u x.kids) (hbase : base ≤ wr.heap.size) (hz : w1.heap.size ≤ g)
    (k1 : Kp (fun q => base ≤ q ∧ v.ownBlock ≠ some q) wr w3) (k2 : Kp (fun k => wr.heap.size ≤ k) w1 w3) (hv : ∀ q, v.ownBlock = some q → q < wr.heap.size) (hzz : wr.heap.size ≤ w1.heap.size)
    (hat : v'.ownBlock = v.ownBlock ∨ v'.ownBlock = some g) : FoC w3 (fun q => base ≤ q ∧ v'.ownBlock ≠ some q) (xs ++ [.int .i64 x.op, .string x.nm, u]) (acc.snoc x) := by
  refine FoC.snoc ?_ ?_
  · refine hu.kp k2 fun q hq hs => ⟨by omega, fun e => ?_⟩
    rcases hat with h | h
    · have := hv q (h ▸ e); omega
    · rw [h] at e; cases e; omega
  · refine hc.kp k1 fun q hq hs => ⟨hs.1, fun e => ?_⟩
    rcases hat with h | h
    · exact hs.2 (h ▸ e)
    · rw [h] at e; cases e; omega
theorem FoC_one {w : World} {S : Nat → Prop} {xs : List Value} {f : Fo} (h : FoC w S xs f) (h1 : f.len = 1) : ∃ u, xs = [.int .i64 (f.at_ 0).op, .string (f.at_ 0).nm, u] ∧ FoV w S u (f.at_ 0).kids := by
  match xs, f, h with
  | a :: b :: c :: xs, .cons op nm kids rest, ⟨e1, e2, e3, e4⟩ =>
    have : rest = .nil := Fo.len_zero (by simpa [Fo.len] using h1)
    subst this
    match xs, e4 with
    | [], _ => exact ⟨c, by rw [e1, e2]; rfl, e3⟩
    | [_], h => simp [FoC] at h
    | [_, _], h => simp [FoC] at h
    | _ :: _ :: _ :: _, h => simp [FoC] at h
  | [], .nil, _ => simp [Fo.len] at h1
theorem owns_slice {w : World} {base : Nat} {e : TypeId} {size : Nat} {v : Value} {n : Nat} {xs : List Value} (h : w.ownsRow base e size v n xs) : ∃ ao cap, v = .slice ao n cap := by
  obtain ⟨h1, h2 | ⟨g, cap, cur, e1, e2, e3, e4⟩⟩ := h
  · exact ⟨none, 0, by rw [h2.1, h2.2]⟩
  · exact ⟨_, _, e1⟩
theorem owns_first {w : World} {base : Nat} {e : TypeId} {v a b c : Value} (h : w.ownsRow base e 3 v 1 [a, b, c]) : ∃ g cap, v = .slice (some ⟨g, 0, none⟩) 1 cap ∧ base ≤ g ∧ g < w.heap.size ∧ w.cell? ⟨g, 0, none⟩ = some a ∧ w.cell? ⟨g, 1, none⟩ = some b ∧ w.cell? ⟨g, 2, none⟩ = some c := by
  have h0 := h
  obtain ⟨h1, h2 | ⟨g, cap, cur, e1, e2, e3, e4⟩⟩ := h
  · exact absurd h2.2 (by decide)
  · subst e1
    have hc := fun j hj => World.ownsRow.cellAt h0 j hj
    exact ⟨g, cap, rfl, e2, (h0.lt g rfl).2, by rw [hc 0 (by omega)]; rfl, by rw [hc 1 (by omega)]; rfl, by rw [hc 2 (by omega)]; rfl⟩
section
variable {r : Nat} {ao : Option Addr} {cap : Nat} {l : List Tk} {en : Int}
theorem RdS.kp {w w' : World} {n p o : Nat} {S : Nat → Prop} (h : RdS w r ao cap l en n p o) (hk : Kp S w w') (hr : S r) (hg : ∀ g, ao = some ⟨g, 0, none⟩ → l.length = 0 ∨ S g) : RdS w' r ao cap l en n p o := by
  have hc : ∀ b i, b < w.heap.size → S b → w'.cell? ⟨b, i, none⟩ = w.cell? ⟨b, i, none⟩ := fun b i hb hs => World.cell?_of_block (w := w) (a := ⟨b, i, none⟩) (hk.block b hb hs)
  have hf : ∀ b i, b < w.heap.size → S b → w'.frozen? ⟨b, i, none⟩ = w.frozen? ⟨b, i, none⟩ := fun b i hb hs => World.frozen?_of_block (w := w) (a := ⟨b, i, none⟩) (hk.block b hb hs)
  have sz := h.sz
  refine ⟨by rw [hc _ _ sz hr]; exact h.c0, by rw [hc _ _ sz hr]; exact h.c1, by rw [hc _ _ sz hr]; exact h.c2, by rw [hc _ _ sz hr]; exact h.c3, by rw [hc _ _ sz hr]; exact h.c4, by rw [hc _ _ sz hr]; exact h.c5, by rw [hc _ _ sz hr]; exact h.c6, fun i => by rw [hf _ _ sz hr]; exact h.fz i, Nat.lt_of_lt_of_le sz hk.size, h.ln, h.nl, h.pl, h.ol, ?_⟩
  rcases h.tk with h0 | ⟨g, e, h1, h2, t⟩
  · exact .inl h0
  · rcases hg g e with h3 | h3
    · exact .inl h3
    · exact .inr ⟨g, e, h1, Nat.lt_of_lt_of_le h2 hk.size, fun k hk' => by rw [hc _ _ h2 h3]; exact t.c0 k hk', fun k hk' => by rw [hc _ _ h2 h3]; exact t.c1 k hk', fun k hk' => by rw [hc _ _ h2 h3]; exact t.c2 k hk'⟩
theorem RdS.tkb {w : World} {n p o : Nat} (h : RdS w r ao cap l en n p o) : ∀ g, ao = some ⟨g, 0, none⟩ → l.length = 0 ∨ g < w.heap.size := fun g e => by
  rcases h.tk with h0 | ⟨g', e', h1', h2', _⟩
  · exact .inl h0
  · rw [e] at e'; cases e'; exact .inr h2'
set_option maxRecDepth 100000 in
set_option maxHeartbeats 4000000 in
theorem row_step {k : Nat} (H : ∀ j, j < k → ItemOK r ao cap l en j) : RowOK r ao cap l en k := by
  intro n p o w h hf
  obtain ⟨i0, hi, iz0, iz1, iz2⟩ := info_parts Try.infoExpr
  generalize hR : rowL l en k n p o .nil = R
  have HR := hd hR
  clear hR
  have sz := h.sz
  have hne : ¬ w.heap.size = r := by omega
  obtain ⟨W, hW⟩ : ∃ W, W = w.alloc (.cells #[.int .i64 0, .string ⟨#[]⟩, .slice none 0 0] 48) := ⟨_, rfl⟩
  have hWz : W.heap.size = w.heap.size + 1 := by rw [hW]; simp
  have hWr : RdS W r ao cap l en n p o := by rw [hW]; exact h.alloc_ _
  have hWb : But r w W := by rw [hW]; exact (But.refl r w).alloc _
  have hWc : W.cell? ⟨w.heap.size, 0, none⟩ = some (.int .i64 0) ∧ W.cell? ⟨w.heap.size, 1, none⟩ = some (.string ⟨#[]⟩) ∧ W.cell? ⟨w.heap.size, 2, none⟩ = some (.slice none 0 0) ∧ ∀ i, W.frozen? ⟨w.heap.size, i, none⟩ = false := by
    rw [hW]; exact ⟨by simp, by simp, by simp, fun i => by simp⟩
  have ha := h.hao _ (Nat.le_refl _)
  have htk := h.tkb
  clear h
  go_enter Try.func97, Try.ntmps97
  go_wp2_with fail
  rw [← hW]
  have HW := hd hW
  clear hW
  go_loopg [3] k (fun gk v wr => ∃ (n' p' : Nat) (acc : Fo) (xs : List Value) (vv : Value), vv = v ∧ RdS wr r ao cap l en n' p' o ∧ gk ≤ k ∧ 4 * (l.length - n') + 2 ≤ gk ∧ Hid (rowL l en gk n' p' o acc = R) ∧ acc.len ≤ p' + 0 ∧ wr.ownsRow (w.heap.size + 1) 48 3 v acc.len xs ∧ FoC wr (fun q => w.heap.size + 1 ≤ q ∧ v.ownBlock ≠ some q) xs acc ∧ But r W wr)
  case atStart => exact ⟨n, p, .nil, [], _, rfl, hWr, Nat.le_refl _, hf, HR, by simp [Fo.len], World.ownsRow_nil _ _ _ _, trivial, But.refl _ _⟩
  case round =>
    obtain ⟨n', p', acc, xs, v, hv, h1, hgk, hfu, hE, hal, hown, hfc, hbr⟩ := hrel
    subst hv
    have hzr := hbr.size
    rw [hWz] at hzr
    have hp60 := h1.pl
    have e0 : wr.cell? ⟨w.heap.size, 0, none⟩ = some (.int .i64 0) := by rw [hbr.cell (by omega) hne]; exact hWc.1
    have e1 : wr.cell? ⟨w.heap.size, 1, none⟩ = some (.string ⟨#[]⟩) := by rw [hbr.cell (by omega) hne]; exact hWc.2.1
    have e2 : wr.cell? ⟨w.heap.size, 2, none⟩ = some (.slice none 0 0) := by rw [hbr.cell (by omega) hne]; exact hWc.2.2.1
    have ef : ∀ i, wr.frozen? ⟨w.heap.size, i, none⟩ = false := fun i => by rw [hbr.frozen (by omega) hne]; exact hWc.2.2.2 i
    obtain ⟨j, rfl⟩ : ∃ j, gk = j + 1 := ⟨gk - 1, by omega⟩
    have I := H j (by omega) n' p' o wr h1 (by omega)
    have FI := (far l en j).item n' p' o
    have hEE := hE.out
    rw [rowL] at hEE
    cases hI : item l en j n' p' o with
    | out =>
      rw [hI] at I
      clear hEE hE HR hI
      go_wp2_with fail
      refine I.mono ?_
      rintro e w1 h2
      exact h2.elim
    | err c a =>
      rw [hI] at I hEE
      simp only at hEE
      subst hEE
      clear hE HR hI
      go_wp2_with fail
      refine I.mono ?_
      rintro e w1 h2
      obtain ⟨rfl, h3, h4, h5⟩ := Pan.but h2 (hWb.trans hbr)
      go_wp2_with fail
      exact ⟨rfl, rfl, h3, h4, h5⟩
    | ok x n2 p2 =>
      have FI2 := FI x n2 p2 hp60 hI
      cases x with
      | some x =>
        have hpp := FI2.2 (by simp)
        rw [hI] at I hEE
        simp only at hEE
        have HE := hd hEE
        clear hE HR hI hEE FI FI2
        go_wp2_with fail
        refine I.mono ?_
        rintro e w1 ⟨v1, rfl, hx, h2, hb1⟩
        have z1 := hb1.size
        have hxx := hx
        obtain ⟨u, rfl, hl, ao', cap', rfl, hin⟩ := hx
        clear hin
        have hown1 := owns_but hown hb1 (by omega)
        go_wp2_with (first | (at_builtin; go_must (refine wpList_append_own_at _ rfl _ _ 46 rfl (w.heap.size + 1) 48 i0 (.agg #[.int .i64 0, .string ⟨#[]⟩, .slice none 0 0]) 3 48 Try.underlying46 hi iz0 iz1 iz2 rfl (by decide) _ _ _ rfl ((hown1.alloc _).alloc _) ⟨w1.heap.size + 1, 0, none⟩ 1 1 [.int .i64 x.op, .string x.nm, .slice ao' x.kids.len cap'] rfl rfl (cell3_new2 w1 _ _ _ _ _) (oneX _ _ _ _ _) (by unfold maxLen; omega) (by omega) (by simp; omega) ?_)))
        intro v' w3 hown3 hgrow _ hat
        
        have z3 := hgrow.size
        simp at z3
        have hvl : ∀ q, v.ownBlock = some q → w.heap.size + 1 ≤ q ∧ q < wr.heap.size := fun q e => hown.lt q e
        go_wp2_with fail
        go_roundg j
        case measure => omega
        case rel =>
          refine ⟨n2, p2, acc.snoc x, _, v', rfl, ?_, by omega, by omega, HE, by rw [Fo.len_snoc]; omega, by rw [Fo.len_snoc]; exact hown3, ?_, ?_⟩
          · exact h2.kp (S := fun q => q < w.heap.size) (Kp.grown (((Kp.refl _ w1).alloc _).alloc _) hgrow (fun q e => .inl (by have := (hvl q e).1; omega))) sz htk
          · refine FoC_step (w1 := w1) (g := w1.heap.size + 2) hfc hxx.fov hzr (by omega) ?_ ?_ (fun q e => (hvl q e).2) z1 (by simpa using hat)
            · exact Kp.grown (((Kp.of_but hb1 (by omega)).alloc _).alloc _) hgrow (fun q e => .inl fun hs => hs.2 e)
            · exact Kp.grown (((Kp.refl _ w1).alloc _).alloc _) hgrow (fun q e => .inl fun hs => by have := (hvl q e).2; omega)
          · exact (((hbr.trans hb1).alloc _).alloc _).grown hgrow (fun q e => by have := (hvl q e).1; omega)
      | none =>
        obtain ⟨rfl, rfl⟩ := FI2.1 rfl
        rw [hI] at I hEE
        simp only at hEE
        subst hEE
        clear hE HR hI FI FI2
        have hown1W := fun (w1 : World) (hb1 : But r wr w1) => owns_but hown hb1 (show r < w.heap.size + 1 by omega)
        by_cases hlen : acc.len = 1
        · have hmk : mk 3 acc = acc.at_ 0 := if_pos hlen
          obtain ⟨u, rfl, hu⟩ := FoC_one hfc hlen
          generalize acc.at_ 0 = y at *
          rw [hlen] at hown hown1W
          have huu := hu
          obtain ⟨hl, ao', cap', rfl, hin⟩ := hu
          clear hin
          obtain ⟨g, capg, rfl, hg1, hg2, -, -, -⟩ := owns_first hown
          go_wp2_with fail
          refine I.mono ?_
          rintro e w1 ⟨rfl, h2, hb1⟩
          have z1 := hb1.size
          obtain ⟨g', capg', hgg, -, -, gc0, gc1, gc2⟩ := owns_first (hown1W w1 hb1)
          cases hgg
          have hlt : w.heap.size < w1.heap.size := by omega
          have e0' : w1.cell? ⟨w.heap.size, 0, none⟩ = some (.int .i64 0) := by rw [hb1.cell (by omega) hne]; exact e0
          have e1' : w1.cell? ⟨w.heap.size, 1, none⟩ = some (.string ⟨#[]⟩) := by rw [hb1.cell (by omega) hne]; exact e1
          have e2' : w1.cell? ⟨w.heap.size, 2, none⟩ = some (.slice none 0 0) := by rw [hb1.cell (by omega) hne]; exact e2
          have ef' : ∀ i, w1.frozen? ⟨w.heap.size, i, none⟩ = false := fun i => by rw [hb1.frozen (by omega) hne]; exact ef i
          have gc : ∀ X i, (w1.alloc X).cell? ⟨w.heap.size, i, none⟩ = w1.cell? ⟨w.heap.size, i, none⟩ := fun X i => World.cell?_alloc_lt _ _ _ hlt
          have gf : ∀ X i, (w1.alloc X).frozen? ⟨w.heap.size, i, none⟩ = false := fun X i => by
            rw [World.frozen?_alloc_old _ _ _ (by simp; omega)]; exact ef' i
          have g0 : ∀ X, (w1.alloc X).cell? ⟨g, 0, none⟩ = some (.int .i64 y.op) := fun X => by rw [World.cell?_alloc_lt _ _ _ (show g < w1.heap.size by omega)]; exact gc0
          have g1 : ∀ X, (w1.alloc X).cell? ⟨g, 1, none⟩ = some (.string y.nm) := fun X => by rw [World.cell?_alloc_lt _ _ _ (show g < w1.heap.size by omega)]; exact gc1
          have g2 : ∀ X, (w1.alloc X).cell? ⟨g, 2, none⟩ = some (.slice ao' y.kids.len cap') := fun X => by rw [World.cell?_alloc_lt _ _ _ (show g < w1.heap.size by omega)]; exact gc2
          go_wp2_with fail
          refine bodyPost_ret (v := .agg #[.int .i64 y.op, .string y.nm, .slice ao' y.kids.len cap']) (by simp [results, Try.results97, go_sem, e0', e1', e2', hlt]) rfl ⟨_, rfl, ?_, ?_, ?_⟩
          · rw [hmk]; refine ⟨_, rfl, ?_⟩; exact huu.kp (((((Kp.of_but hb1 (by omega)).setCell (.inl (fun hs => absurd hs.1 (Nat.not_succ_le_self _))) _).setCell (.inl (fun hs => absurd hs.1 (Nat.not_succ_le_self _))) _).setCell (.inl (fun hs => absurd hs.1 (Nat.not_succ_le_self _))) _).alloc _) (fun k _ h => by omega)
          · exact (((h2.off (by simp; omega) ha _).off (by simp; omega) ha _).off (by simp; omega) ha _).alloc_ _
          · exact (((((hWb.trans hbr).trans hb1).setCell (.inr (Nat.le_refl _)) _).setCell (.inr (Nat.le_refl _)) _).setCell (.inr (Nat.le_refl _)) _).alloc _
        · have hmk : mk 3 acc = ⟨3, ⟨#[]⟩, acc⟩ := if_neg hlen
          obtain ⟨aov, capv, rfl⟩ := owns_slice hown
          have hlb : ((acc.len : Int) == 1) = false := by simp; omega
          go_wp2_with fail
          refine I.mono ?_
          rintro e w1 ⟨rfl, h2, hb1⟩
          have z1 := hb1.size
          have hlt : w.heap.size < w1.heap.size := by omega
          have e0' : w1.cell? ⟨w.heap.size, 0, none⟩ = some (.int .i64 0) := by rw [hb1.cell (by omega) hne]; exact e0
          have e1' : w1.cell? ⟨w.heap.size, 1, none⟩ = some (.string ⟨#[]⟩) := by rw [hb1.cell (by omega) hne]; exact e1
          have e2' : w1.cell? ⟨w.heap.size, 2, none⟩ = some (.slice none 0 0) := by rw [hb1.cell (by omega) hne]; exact e2
          have ef' : ∀ i, w1.frozen? ⟨w.heap.size, i, none⟩ = false := fun i => by rw [hb1.frozen (by omega) hne]; exact ef i
          have gc : ∀ X i, (w1.alloc X).cell? ⟨w.heap.size, i, none⟩ = w1.cell? ⟨w.heap.size, i, none⟩ := fun X i => World.cell?_alloc_lt _ _ _ hlt
          have gf : ∀ X i, (w1.alloc X).frozen? ⟨w.heap.size, i, none⟩ = false := fun X i => by
            rw [World.frozen?_alloc_old _ _ _ (by simp; omega)]; exact ef' i
          go_wp2_with fail
          refine bodyPost_ret (v := .agg #[.int .i64 3, .string ⟨#[]⟩, .slice aov acc.len capv]) (by simp [results, Try.results97, go_sem, e0', e1', e2', hlt]) rfl ⟨_, rfl, ?_, ?_, ?_⟩
          · rw [hmk]; refine ⟨_, rfl, ?_⟩; exact FoV_owned ((owns_setCell (owns_setCell (owns_setCell (hown1W w1 hb1) (by simp)) (by simp)) (by simp)).alloc _) (hfc.kp (T := fun q => w.heap.size ≤ q) (((((Kp.of_but hb1 (by omega)).setCell (.inl (fun hs => absurd hs.1 (Nat.not_succ_le_self _))) _).setCell (.inl (fun hs => absurd hs.1 (Nat.not_succ_le_self _))) _).setCell (.inl (fun hs => absurd hs.1 (Nat.not_succ_le_self _))) _).alloc _) (fun k _ h => by omega)) (fun _ h => h) (fun k h => by omega) (show acc.len ≤ _ by omega)
          · exact (((h2.off (by simp; omega) ha _).off (by simp; omega) ha _).off (by simp; omega) ha _).alloc_ _
          · exact (((((hWb.trans hbr).trans hb1).setCell (.inr (Nat.le_refl _)) _).setCell (.inr (Nat.le_refl _)) _).setCell (.inr (Nat.le_refl _)) _).alloc _

theorem owns_lit (w : World) (a b c : Value) (t : TypeId) (base : Nat) (hb : base ≤ w.heap.size) : (w.alloc (.cells #[a, b, c] t)).ownsRow base t 3 (.slice (some ⟨w.heap.size, 0, none⟩) 1 1) 1 [a, b, c] :=
  ⟨rfl, .inr ⟨w.heap.size, 1, #[a, b, c], rfl, hb, by show (w.heap.push _)[w.heap.size]? = _; simp, Nat.le_refl _, by decide, rfl, rfl⟩⟩
set_option maxRecDepth 100000 in
set_option maxHeartbeats 4000000 in
theorem alt_step {k : Nat} (H : ∀ j, j < k → RowOK r ao cap l en j) : AltOK r ao cap l en k := by
  intro n p o w h hf
  obtain ⟨i0, hi, iz0, iz1, iz2⟩ := info_parts Try.infoExpr
  obtain ⟨k, rfl⟩ : ∃ j, k = j + 1 := ⟨k - 1, by omega⟩
  generalize hR : alt l en (k + 1) n p o = R
  rw [alt] at hR
  have sz := h.sz
  have pl := h.pl
  have nl := h.nl
  have hne : ¬ w.heap.size = r := by omega
  obtain ⟨W, hW⟩ : ∃ W, W = w.alloc (.cells #[.int .i64 0, .string ⟨#[]⟩, .slice none 0 0] 48) := ⟨_, rfl⟩
  have hWz : W.heap.size = w.heap.size + 1 := by rw [hW]; simp
  have hWr : RdS W r ao cap l en n p o := by rw [hW]; exact h.alloc_ _
  have hWb : But r w W := by rw [hW]; exact (But.refl r w).alloc _
  have hWc : W.cell? ⟨w.heap.size, 0, none⟩ = some (.int .i64 0) ∧ W.cell? ⟨w.heap.size, 1, none⟩ = some (.string ⟨#[]⟩) ∧ W.cell? ⟨w.heap.size, 2, none⟩ = some (.slice none 0 0) ∧ ∀ i, W.frozen? ⟨w.heap.size, i, none⟩ = false := by
    rw [hW]; exact ⟨by simp, by simp, by simp, fun i => by simp⟩
  have ha := h.hao _ (Nat.le_refl _)
  have htk := h.tkb
  clear h
  have A := H k (by omega) n p o W hWr (by omega)
  have FA := (far l en k).row n p o .nil
  cases hA : rowL l en k n p o .nil with
  | out =>
    rw [hA] at A
    go_enter Try.func84, Try.ntmps84
    go_wp2_with fail
    rw [← hW]
    refine A.mono ?_
    rintro e w1 h2
    exact h2.elim
  | err c a =>
    rw [hA] at A hR
    simp only at hR
    subst hR
    go_enter Try.func84, Try.ntmps84
    go_wp2_with fail
    rw [← hW]
    refine A.mono ?_
    rintro e w1 h2
    obtain ⟨rfl, h3, h4, h5⟩ := Pan.but h2 hWb
    go_wp2_with fail
    exact ⟨rfl, rfl, h3, h4, h5⟩
  | ok x n1 p1 =>
    have FA2 := FA x n1 p1 pl nl hA
    rw [hA] at A hR
    simp only at hR
    have HR := hd hR
    clear hR FA hA
    go_enter Try.func84, Try.ntmps84
    go_wp2_with fail
    rw [← hW]
    have HW := hd hW
    clear hW
    refine A.mono ?_
    rintro e w0 ⟨v0, rfl, hx0, h0, hb0⟩
    have z0 := hb0.size
    have hxx0 := hx0
    obtain ⟨u0, rfl, hl0, ao0, cap0, rfl, hin0⟩ := hx0
    clear hin0 A
    go_wp2_with fail
    go_loopg [3] k (fun gk v wr => ∃ (n' p' : Nat) (acc : Fo) (xs : List Value) (vv : Value), vv = v ∧ RdS wr r ao cap l en n' p' o ∧ gk ≤ k ∧ 4 * (l.length - n') + 1 ≤ gk ∧ Hid (altL l en gk n' p' o acc = R) ∧ acc.len ≤ p' + 1 ∧ wr.ownsRow (w.heap.size + 1) 48 3 v acc.len xs ∧ FoC wr (fun q => w.heap.size + 1 ≤ q ∧ v.ownBlock ≠ some q) xs acc ∧ But r W wr)
    case atStart =>
      refine ⟨n1, p1, Fo.nil.snoc x, _, _, rfl, h0.alloc_ _, Nat.le_refl _, by omega, HR, by simp [Fo.snoc, Fo.len], owns_lit w0 _ _ _ _ _ (by omega), ?_, hb0.alloc _⟩
      exact ⟨rfl, rfl, (hxx0.kp (T := fun q => w.heap.size + 1 ≤ q ∧ (Value.slice (some ⟨w0.heap.size, 0, none⟩) 1 1).ownBlock ≠ some q) ((Kp.refl _ w0).alloc _) (fun q hq hs => ⟨by omega, fun e => by simp [Value.ownBlock] at e; omega⟩)).fov, trivial⟩
    case round =>
      obtain ⟨n', p', acc, xs, v, hv, h1, hgk, hfu, hE, hal, hown, hfc, hbr⟩ := hrel
      subst hv
      clear hxx0 h0 hb0 HR
      have hzr := hbr.size
      rw [hWz] at hzr
      have hp60 := h1.pl
      have e0 : wr.cell? ⟨w.heap.size, 0, none⟩ = some (.int .i64 0) := by rw [hbr.cell (by omega) hne]; exact hWc.1
      have e1 : wr.cell? ⟨w.heap.size, 1, none⟩ = some (.string ⟨#[]⟩) := by rw [hbr.cell (by omega) hne]; exact hWc.2.1
      have e2 : wr.cell? ⟨w.heap.size, 2, none⟩ = some (.slice none 0 0) := by rw [hbr.cell (by omega) hne]; exact hWc.2.2.1
      have ef : ∀ i, wr.frozen? ⟨w.heap.size, i, none⟩ = false := fun i => by rw [hbr.frozen (by omega) hne]; exact hWc.2.2.2 i
      obtain ⟨j, rfl⟩ : ∃ j, gk = j + 1 := ⟨gk - 1, by omega⟩
      have SE := sees_any h1 ⟨#[124]⟩
      have hEE := hE.out
      rw [altL] at hEE
      by_cases hs : isS l n' ⟨#[124]⟩ = true
      · have hn' := lt_of_isS hs
        rw [if_pos hs] at hEE
        rw [hs] at SE
        by_cases hp : p' = 60
        · rw [if_pos hp] at hEE
          subst hEE
          clear hE
          go_wp2_with fail
          refine SE.mono ?_
          rintro e w1 ⟨rfl, hb1⟩
          go_wp2_with fail
          refine (part_no (h1.keep hb1) hp).mono ?_
          rintro e w2 h2
          obtain ⟨rfl, h3, h4, h5⟩ := Pan.but h2 ((hWb.trans hbr).trans (But.of_below hb1))
          go_wp2_with fail
          exact ⟨rfl, rfl, h3, h4, h5⟩
        · rw [if_neg hp] at hEE
          have RO := fun w2 h2 => H j (by omega) (n' + 1) (p' + 1) o w2 h2 (by omega)
          have FR := (far l en j).row (n' + 1) (p' + 1) o .nil
          cases hA : rowL l en j (n' + 1) (p' + 1) o .nil with
          | out =>
            rw [hA] at RO
            clear hEE hE
            go_wp2_with fail
            refine SE.mono ?_
            rintro e w1 ⟨rfl, hb1⟩
            go_wp2_with fail
            refine (part_yes (h1.keep hb1) hn' hp).mono ?_
            rintro e w2 ⟨rfl, h2, hb2⟩
            go_wp2_with fail
            refine (RO _ h2).mono ?_
            rintro e w3 h3
            exact h3.elim
          | err c a =>
            rw [hA] at RO hEE
            simp only at hEE
            subst hEE
            clear hE
            go_wp2_with fail
            refine SE.mono ?_
            rintro e w1 ⟨rfl, hb1⟩
            go_wp2_with fail
            refine (part_yes (h1.keep hb1) hn' hp).mono ?_
            rintro e w2 ⟨rfl, h2, hb2⟩
            go_wp2_with fail
            refine (RO _ h2).mono ?_
            rintro e w3 h3
            obtain ⟨rfl, h4, h5, h6⟩ := Pan.but h3 (((hWb.trans hbr).trans (But.of_below hb1)).trans hb2)
            go_wp2_with fail
            exact ⟨rfl, rfl, h4, h5, h6⟩
          | ok x n2 p2 =>
            have FR2 := FR x n2 p2 (by omega) (by omega) hA
            rw [hA] at RO hEE
            simp only at hEE
            have HE := hd hEE
            clear hE hEE FR hA
            go_wp2_with fail
            refine SE.mono ?_
            rintro e w1 ⟨rfl, hb1⟩
            have z1 := hb1.size
            go_wp2_with fail
            refine (part_yes (h1.keep hb1) hn' hp).mono ?_
            rintro e w2 ⟨rfl, h2, hb2⟩
            have z2 := hb2.size
            go_wp2_with fail
            refine (RO _ h2).mono ?_
            rintro e wq ⟨v1, rfl, hx, h3, hbq⟩
            have zq := hbq.size
            have hxx : XV wq (fun k => wr.heap.size ≤ k) v1 x := hx.mono fun b o v hs hc => ⟨by omega, hc⟩
            clear hx
            have hx := hxx
            obtain ⟨u, rfl, hl, ao', cap', rfl, hin⟩ := hx
            clear hin
            have hbw : But r wr wq := ((But.of_below hb1).trans hb2).trans hbq
            have hown1 := owns_but hown hbw (by omega)
            go_wp2_with (first | (at_builtin; go_must (refine wpList_append_own_at _ rfl _ _ 46 rfl (w.heap.size + 1) 48 i0 (.agg #[.int .i64 0, .string ⟨#[]⟩, .slice none 0 0]) 3 48 Try.underlying46 hi iz0 iz1 iz2 rfl (by decide) _ _ _ rfl (hown1.alloc _) ⟨wq.heap.size, 0, none⟩ 1 1 [.int .i64 x.op, .string x.nm, .slice ao' x.kids.len cap'] rfl rfl (cell3_new wq _ _ _ _) (oneX _ _ _ _ _) (by unfold maxLen; omega) (by omega) (by simp; omega) ?_)))
            intro v' w3 hown3 hgrow _ hat
            
            have z3 := hgrow.size
            simp at z3
            have hvl : ∀ q, v.ownBlock = some q → w.heap.size + 1 ≤ q ∧ q < wr.heap.size := fun q e => hown.lt q e
            go_wp2_with fail
            go_roundg j
            case measure => omega
            case rel =>
              refine ⟨n2, p2, acc.snoc x, _, v', rfl, ?_, by omega, by omega, HE, by rw [Fo.len_snoc]; omega, by rw [Fo.len_snoc]; exact hown3, ?_, ?_⟩
              · exact h3.kp (S := fun q => q < w.heap.size) (Kp.grown ((Kp.refl _ wq).alloc _) hgrow (fun q e => .inl (by have := (hvl q e).1; omega))) sz htk
              · refine FoC_step (w1 := wq) (g := wq.heap.size + 1) hfc hxx.fov hzr (by omega) ?_ ?_ (fun q e => (hvl q e).2) (by omega) (by simpa using hat)
                · exact Kp.grown ((Kp.of_but hbw (by omega)).alloc _) hgrow (fun q e => .inl fun hs => hs.2 e)
                · exact Kp.grown ((Kp.refl _ wq).alloc _) hgrow (fun q e => .inl fun hs => by have := (hvl q e).2; omega)
              · exact ((hbr.trans hbw).alloc _).grown hgrow (fun q e => by have := (hvl q e).1; omega)
      · rw [if_neg hs] at hEE
        have hs' : isS l n' ⟨#[124]⟩ = false := by simpa using hs
        rw [hs'] at SE
        subst hEE
        clear hE
        go_wp2_with fail
        refine SE.mono ?_
        rintro e w1 ⟨rfl, hb1⟩
        have z1 := hb1.size
        have hown1 := owns_below hown hb1
        have hb1' : But r wr w1 := But.of_below hb1
        have h2 := h1.keep hb1
        by_cases hlen : acc.len = 1
        · have hmk : mk 4 acc = acc.at_ 0 := if_pos hlen
          obtain ⟨u, rfl, hu⟩ := FoC_one hfc hlen
          generalize acc.at_ 0 = y at *
          rw [hlen] at hown1
          have huu := hu
          obtain ⟨hl, ao', cap', rfl, hin⟩ := hu
          clear hin
          obtain ⟨g, capg, rfl, hg1, hg2, gc0, gc1, gc2⟩ := owns_first hown1
          have hlt : w.heap.size < w1.heap.size := by omega
          have e0' : w1.cell? ⟨w.heap.size, 0, none⟩ = some (.int .i64 0) := by rw [hb1'.cell (by omega) hne]; exact e0
          have e1' : w1.cell? ⟨w.heap.size, 1, none⟩ = some (.string ⟨#[]⟩) := by rw [hb1'.cell (by omega) hne]; exact e1
          have e2' : w1.cell? ⟨w.heap.size, 2, none⟩ = some (.slice none 0 0) := by rw [hb1'.cell (by omega) hne]; exact e2
          have ef' : ∀ i, w1.frozen? ⟨w.heap.size, i, none⟩ = false := fun i => by rw [hb1'.frozen (by omega) hne]; exact ef i
          clear hb1
          go_wp2_with fail
          refine bodyPost_ret (v := .agg #[.int .i64 y.op, .string y.nm, .slice ao' y.kids.len cap']) (by simp [results, Try.results84, go_sem, e0', e1', e2']) rfl ⟨_, rfl, ?_, ?_, ?_⟩
          · rw [hmk]; refine ⟨_, rfl, ?_⟩; exact huu.kp ((((Kp.of_but hb1' (by omega)).setCell (.inl (fun hs => absurd hs.1 (Nat.not_succ_le_self _))) _).setCell (.inl (fun hs => absurd hs.1 (Nat.not_succ_le_self _))) _).setCell (.inl (fun hs => absurd hs.1 (Nat.not_succ_le_self _))) _) (fun k _ h => by omega)
          · exact ((h2.off (by simp; omega) ha _).off (by simp; omega) ha _).off (by simp; omega) ha _
          · exact (((((hWb.trans hbr).trans hb1').setCell (.inr (Nat.le_refl _)) _).setCell (.inr (Nat.le_refl _)) _).setCell (.inr (Nat.le_refl _)) _)
        · have hmk : mk 4 acc = ⟨4, ⟨#[]⟩, acc⟩ := if_neg hlen
          obtain ⟨aov, capv, rfl⟩ := owns_slice hown
          have hlb : ((acc.len : Int) == 1) = false := by simp; omega
          have hlt : w.heap.size < w1.heap.size := by omega
          have e0' : w1.cell? ⟨w.heap.size, 0, none⟩ = some (.int .i64 0) := by rw [hb1'.cell (by omega) hne]; exact e0
          have e1' : w1.cell? ⟨w.heap.size, 1, none⟩ = some (.string ⟨#[]⟩) := by rw [hb1'.cell (by omega) hne]; exact e1
          have e2' : w1.cell? ⟨w.heap.size, 2, none⟩ = some (.slice none 0 0) := by rw [hb1'.cell (by omega) hne]; exact e2
          have ef' : ∀ i, w1.frozen? ⟨w.heap.size, i, none⟩ = false := fun i => by rw [hb1'.frozen (by omega) hne]; exact ef i
          clear hb1
          go_wp2_with fail
          refine bodyPost_ret (v := .agg #[.int .i64 4, .string ⟨#[]⟩, .slice aov acc.len capv]) (by simp [results, Try.results84, go_sem, e0', e1', e2']) rfl ⟨_, rfl, ?_, ?_, ?_⟩
          · rw [hmk]; refine ⟨_, rfl, ?_⟩; exact FoV_owned (owns_setCell (owns_setCell (owns_setCell hown1 (by simp)) (by simp)) (by simp)) (hfc.kp (T := fun q => w.heap.size ≤ q) ((((Kp.of_but hb1' (by omega)).setCell (.inl (fun hs => absurd hs.1 (Nat.not_succ_le_self _))) _).setCell (.inl (fun hs => absurd hs.1 (Nat.not_succ_le_self _))) _).setCell (.inl (fun hs => absurd hs.1 (Nat.not_succ_le_self _))) _) (fun k _ h => by omega)) (fun _ h => h) (fun k h => by omega) (show acc.len ≤ _ by omega)
          · exact ((h2.off (by simp; omega) ha _).off (by simp; omega) ha _).off (by simp; omega) ha _
          · exact (((((hWb.trans hbr).trans hb1').setCell (.inr (Nat.le_refl _)) _).setCell (.inr (Nat.le_refl _)) _).setCell (.inr (Nat.le_refl _)) _)

theorem all_ok (k : Nat) : ItemOK r ao cap l en k ∧ RowOK r ao cap l en k ∧ AltOK r ao cap l en k := by
  induction k using Nat.strongRecOn with
  | _ k ih =>
    refine ⟨?_, row_step fun j hj => (ih j hj).1, alt_step fun j hj => (ih j hj).2.1⟩
    cases k with
    | zero => intro n p o w _ hf; omega
    | succ k => exact item_step (ih k (by omega)).2.2
end
end Go.Proofs.Ytdikjhfnmkejcab
