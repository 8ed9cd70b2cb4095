/- The whole text: the reader's own function. -/
import Derived.Test.YtdikjhfnmkejcabDefn
namespace Go.Proofs.Ytdikjhfnmkejcab
open Go.RowKit
theorem Try.infoDef : (Try.prog.info? 50).map (fun i => (i.zero, i.size, i.bytes)) = some (some (.agg #[.string ⟨#[]⟩, .int .i64 0, .int .i64 0, .string ⟨#[]⟩, .slice none 0 0]), 5, 72) := by kernel_rfl
theorem cell5_new (w : World) (v0 v1 v2 v3 v4 : Value) (t : TypeId) : ∀ j u, [v0, v1, v2, v3, v4][j]? = some u → (w.alloc (.cells #[v0, v1, v2, v3, v4] t)).cell? ((⟨w.heap.size, 0, none⟩ : Addr).add j) = some u := by
  intro j u hj
  have hh : (w.alloc (.cells #[v0, v1, v2, v3, v4] t)).heap[w.heap.size]? = some (.cells #[v0, v1, v2, v3, v4] t) := by
    show (w.heap.push _)[w.heap.size]? = _; simp
  match j, hj with
  | 0, hj => simp at hj; subst hj; simp [Addr.add]
  | 1, hj => simp at hj; subst hj; simp [Addr.add]
  | 2, hj => simp at hj; subst hj; simp [Addr.add]
  | 3, hj => simp at hj; subst hj; simp [Addr.add]
  | 4, hj => simp at hj; subst hj; simp [Addr.add]
  | n + 5, hj => simp at hj
theorem oneD (s : ByteArray) (a b : Int) (t : ByteArray) (ao : Option Addr) (n c : Nat) : ∀ u ∈ [Value.string s, Value.int .i64 a, Value.int .i64 b, Value.string t, Value.slice ao n c], u.oneCell' = true := by
  intro u hu; simp at hu; rcases hu with rfl | rfl | rfl | rfl | rfl <;> rfl
theorem owns_lit5 (w : World) (a b c d e : Value) (t : TypeId) (base : Nat) (hb : base ≤ w.heap.size) : (w.alloc (.cells #[a, b, c, d, e] t)).ownsRow base t 5 (.slice (some ⟨w.heap.size, 0, none⟩) 1 1) 1 [a, b, c, d, e] :=
  ⟨rfl, .inr ⟨w.heap.size, 1, #[a, b, c, d, e], rfl, hb, by show (w.heap.push _)[w.heap.size]? = _; simp, Nat.le_refl _, by decide, rfl, rfl⟩⟩
theorem DC_step {wr w1 w3 : World} {base g : Nat} {v v' : Value} {xs : List Value} {acc : List Df} {x : Df} {u : Value}
    (hc : DC wr (fun q => base ≤ q ∧ v.ownBlock ≠ some q) xs acc) (hu : FoV w1 (fun k => wr.heap.size ≤ k) u x.e.kids) (hbase : base ≤ wr.heap.size) (hz : w1.heap.size ≤ g)
    (k1 : Kp (fun q => base ≤ q ∧ v.ownBlock ≠ some q) wr w3) (k2 : Kp (fun k => wr.heap.size ≤ k) w1 w3) (hv : ∀ q, v.ownBlock = some q → q < wr.heap.size) (hzz : wr.heap.size ≤ w1.heap.size)
    (hat : v'.ownBlock = v.ownBlock ∨ v'.ownBlock = some g) : DC w3 (fun q => base ≤ q ∧ v'.ownBlock ≠ some q) (xs ++ [.string x.nm, .int .i64 x.at_, .int .i64 x.e.op, .string x.e.nm, u]) (acc ++ [x]) := by
  refine DC.snoc ?_ ?_
  · refine hu.kp k2 fun q hq hs => ⟨by omega, fun e => ?_⟩
    rcases hat with h | h
    · have := hv q (h ▸ e); omega
    · rw [h] at e; cases e; omega
  · refine hc.kp k1 fun q hq hs => ⟨hs.1, fun e => ?_⟩
    rcases hat with h | h
    · exact hs.2 (h ▸ e)
    · rw [h] at e; cases e; omega
section
variable {r : Nat} {ao : Option Addr} {cap : Nat} {l : List Tk} {en : Int} {p : Nat} {w : World}
def OutT (r : Nat) (ao : Option Addr) (cap : Nat) (l : List Tk) (en : Int) (w : World) (res : Res (List Df)) (e : Ending) (w' : World) : Prop :=
  match res with
  | .ok ds _ _ => ∃ v n p, e = .returned (.agg #[v]) ∧ DsV w' (fun k => w.heap.size ≤ k) v ds ∧ RdS w' r ao cap l en n p 0 ∧ But r w w'
  | .err c a => Pan r c a w e w'
  | .out => False
set_option maxRecDepth 100000 in
set_option maxHeartbeats 4000000 in
theorem text_any (h : RdS w r ao cap l en 0 p 0) : Calls Try.prog 41 #[.pointer (some ⟨r, 0, none⟩)] w (OutT r ao cap l en w (text l en)) := by
  obtain ⟨i0, hi, iz0, iz1, iz2⟩ := info_parts Try.infoDef
  generalize hR : text l en = R
  rw [text, textL, if_pos (.inr rfl), if_neg (by simp)] at hR
  have sz := h.sz
  have hne : ¬ w.heap.size = r := by omega
  obtain ⟨W, hW⟩ : ∃ W, W = w.alloc (.cells #[.slice none 0 0] 24) := ⟨_, rfl⟩
  have hWz : W.heap.size = w.heap.size + 1 := by rw [hW]; simp
  have hWr : RdS W r ao cap l en 0 p 0 := by rw [hW]; exact h.alloc_ _
  have hWb : But r w W := by rw [hW]; exact (But.refl r w).alloc _
  have hWc : W.cell? ⟨w.heap.size, 0, none⟩ = some (.slice none 0 0) ∧ ∀ i, W.frozen? ⟨w.heap.size, i, none⟩ = false := by
    rw [hW]; exact ⟨by simp, fun i => by simp⟩
  have ha := h.hao _ (Nat.le_refl _)
  have htk := h.tkb
  clear h
  have A := def_any hWr
  cases hA : defn l en 0 with
  | out =>
    rw [hA] at A
    go_enter Try.func41, Try.ntmps41
    go_wp2_with fail
    rw [← hW]
    refine A.mono ?_
    rintro e w1 h2
    exact h2.elim
  | err c a =>
    rw [hA] at A hR
    simp only at hR
    subst hR
    go_enter Try.func41, Try.ntmps41
    go_wp2_with fail
    rw [← hW]
    refine A.mono ?_
    rintro e w1 h2
    obtain ⟨rfl, h3, h4, h5⟩ := Pan.but h2 hWb
    go_wp2_with fail
    exact ⟨rfl, rfl, h3, h4, h5⟩
  | ok x n1 p1 =>
    have FA := defn_far hA
    rw [hA] at A hR
    simp only [List.nil_append] at hR
    have HR := hd hR
    clear hR hA
    go_enter Try.func41, Try.ntmps41
    go_wp2_with fail
    rw [← hW]
    have HW := hd hW
    clear hW
    refine A.mono ?_
    rintro e w0 ⟨v0, rfl, hx0, h0, hb0⟩
    have z0 := hb0.size
    obtain ⟨u0, rfl, hf0⟩ := hx0
    have hff0 := hf0
    obtain ⟨hl0, ao0, cap0, rfl, hin0⟩ := hf0
    clear hin0 A
    go_wp2_with fail
    go_loopg [3] (l.length + 1) (fun gk v wr => ∃ (n' p' : Nat) (acc : List Df) (xs : List Value) (vv : Value), vv = v ∧ RdS wr r ao cap l en n' p' 0 ∧ l.length - n' + 1 ≤ gk ∧ Hid (textL l en gk n' acc = R) ∧ 1 ≤ acc.length ∧ acc.length ≤ 16 ∧ wr.ownsRow (w.heap.size + 1) 50 5 v acc.length xs ∧ DC wr (fun q => w.heap.size + 1 ≤ q ∧ v.ownBlock ≠ some q) xs acc ∧ But r W wr)
    case atStart =>
      refine ⟨n1, p1, [x], _, _, rfl, h0.alloc_ _, by omega, HR, by simp, by simp, owns_lit5 w0 _ _ _ _ _ _ _ (by omega), ?_, hb0.alloc _⟩
      exact ⟨rfl, rfl, rfl, rfl, hff0.kp (T := fun q => w.heap.size + 1 ≤ q ∧ (Value.slice (some ⟨w0.heap.size, 0, none⟩) 1 1).ownBlock ≠ some q) ((Kp.refl _ w0).alloc _) (fun q hq hs => ⟨by omega, fun e => by simp [Value.ownBlock] at e; omega⟩), trivial⟩
    case round =>
      obtain ⟨n', p', acc, xs, v, hv, h1, hfu, hE, ha1, hal, hown, hfc, hbr⟩ := hrel
      subst hv
      clear hff0 h0 hb0 HR
      have hzr := hbr.size
      rw [hWz] at hzr
      have e0 : wr.cell? ⟨w.heap.size, 0, none⟩ = some (.slice none 0 0) := by rw [hbr.cell (by omega) hne]; exact hWc.1
      have ef : ∀ i, wr.frozen? ⟨w.heap.size, i, none⟩ = false := fun i => by rw [hbr.frozen (by omega) hne]; exact hWc.2 i
      obtain ⟨j, rfl⟩ : ∃ j, gk = j + 1 := ⟨gk - 1, by omega⟩
      have hEE := hE.out
      rw [textL] at hEE
      have hacc : acc ≠ [] := fun e => by rw [e] at ha1; simp at ha1
      obtain ⟨aov, capv, hve⟩ := owns_slice hown
      by_cases hn : n' < l.length
      · rw [if_pos (.inl hn)] at hEE
        have MO := more_yes h1 hn
        by_cases h16 : acc.length = 16
        · rw [if_pos h16] at hEE
          subst hEE
          clear hE
          subst hve
          rw [h16]
          go_wp2_with fail
          refine MO.mono ?_
          rintro e w1 ⟨rfl, m, rfl⟩
          go_wp2_with fail
          refine (giveUp_any (h1.drew_ m) 6).mono ?_
          rintro e w2 h2
          obtain ⟨rfl, h3, h4, h5⟩ := Pan.but h2 ((hWb.trans hbr).drewN m)
          go_wp2_with fail
          exact ⟨rfl, rfl, h3, h4, h5⟩
        · rw [if_neg h16] at hEE
          have h16b : ((acc.length : Int) == 16) = false := by simp; omega
          have DE := fun m => def_any (h1.drew_ m)
          cases hA : defn l en n' with
          | out =>
            rw [hA] at DE
            clear hEE hE
            subst hve
            go_wp2_with fail
            refine MO.mono ?_
            rintro e w1 ⟨rfl, m, rfl⟩
            go_wp2_with fail
            refine (DE m).mono ?_
            rintro e w3 h3
            exact h3.elim
          | err c a =>
            rw [hA] at DE hEE
            simp only at hEE
            subst hEE
            clear hE
            subst hve
            go_wp2_with fail
            refine MO.mono ?_
            rintro e w1 ⟨rfl, m, rfl⟩
            go_wp2_with fail
            refine (DE m).mono ?_
            rintro e w3 h3
            obtain ⟨rfl, h4, h5, h6⟩ := Pan.but h3 ((hWb.trans hbr).drewN m)
            go_wp2_with fail
            exact ⟨rfl, rfl, h4, h5, h6⟩
          | ok d n2 p2 =>
            have FD := defn_far hA
            rw [hA] at DE hEE
            simp only at hEE
            have HE := hd hEE
            clear hE hEE hA
            subst hve
            go_wp2_with fail
            refine MO.mono ?_
            rintro e w1 ⟨rfl, m, rfl⟩
            go_wp2_with fail
            refine (DE m).mono ?_
            rintro e wq ⟨v1, rfl, hx, h3, hbq⟩
            have zq := hbq.size
            simp at zq
            obtain ⟨u, rfl, hf⟩ := hx
            have hff : FoV wq (fun k => wr.heap.size ≤ k) u d.e.kids := hf
            clear hf
            have hf := hff
            obtain ⟨hl, ao', cap', rfl, hin⟩ := hf
            clear hin
            have hbw : But r wr wq := ((But.refl r wr).drewN m).trans hbq
            have hown1 := owns_but hown hbw (by omega)
            go_wp2_with (first | (at_builtin; go_must (refine wpList_append_own_at _ rfl _ _ 22 rfl (w.heap.size + 1) 50 i0 (.agg #[.string ⟨#[]⟩, .int .i64 0, .int .i64 0, .string ⟨#[]⟩, .slice none 0 0]) 5 72 Try.underlying22 hi iz0 iz1 iz2 rfl (by decide) _ _ _ rfl (hown1.alloc _) ⟨wq.heap.size, 0, none⟩ 1 1 [.string d.nm, .int .i64 d.at_, .int .i64 d.e.op, .string d.e.nm, .slice ao' d.e.kids.len cap'] rfl rfl (cell5_new wq _ _ _ _ _ _) (oneD _ _ _ _ _ _ _) (by unfold maxLen; omega) (by omega) (by simp; omega) ?_)))
            intro v' w3 hown3 hgrow _ hat
            
            have z3 := hgrow.size
            simp at z3
            have hvl : ∀ q, (Value.slice aov acc.length capv).ownBlock = some q → w.heap.size + 1 ≤ q ∧ q < wr.heap.size := fun q e => hown.lt q e
            go_wp2_with fail
            go_roundg j
            case measure => omega
            case rel =>
              refine ⟨n2, p2, acc ++ [d], _, v', rfl, ?_, by omega, HE, by simp, by simp; omega, by rw [List.length_append]; exact hown3, ?_, ?_⟩
              · exact h3.kp (S := fun q => q < w.heap.size) (Kp.grown ((Kp.refl _ wq).alloc _) hgrow (fun q e => .inl (by have := (hvl q e).1; omega))) sz htk
              · refine DC_step (w1 := wq) (g := wq.heap.size + 1) hfc hff hzr (by omega) ?_ ?_ (fun q e => (hvl q e).2) (by omega) (by simpa using hat)
                · exact Kp.grown ((Kp.of_but hbw (by omega)).alloc _) hgrow (fun q e => .inl fun hs => hs.2 e)
                · exact Kp.grown ((Kp.refl _ wq).alloc _) hgrow (fun q e => .inl fun hs => by have := (hvl q e).2; omega)
              · exact ((hbr.trans hbw).alloc _).grown hgrow (fun q e => by have := (hvl q e).1; omega)
      · rw [if_neg (fun h => h.elim hn hacc)] at hEE
        have MO := more_no h1 hn
        subst hEE
        clear hE
        subst hve
        go_wp2_with fail
        refine MO.mono ?_
        rintro e w1 ⟨rfl, m, rfl⟩
        go_wp2_with fail
        refine bodyPost_ret (v := .agg #[.slice aov acc.length capv]) (by simp [results, Try.results41, go_sem, e0]) rfl ⟨_, n', p', rfl, ?_, ?_, ?_⟩
        · exact DsV_owned (w := (wr.drewN m).setCell _ _) (owns_setCell (w := wr.drewN m) hown (by simp)) (hfc.kp (T := fun q => w.heap.size ≤ q) (((Kp.refl _ wr).drewN m).setCell (.inl (fun hs => absurd hs.1 (Nat.not_succ_le_self _))) _) (fun k _ h => by omega)) (fun _ h => h) (fun k h => by omega) (by omega)
        · exact (h1.drew_ m).off (by simp; omega) ha _
        · exact ((hWb.trans hbr).drewN m).setCell (.inr (Nat.le_refl _)) _
end
end Go.Proofs.Ytdikjhfnmkejcab
