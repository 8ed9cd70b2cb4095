/- The document's Parse. -/
import Derived.Test.YthbbfddclhcoaaaRAlt
import Derived.Test.YthbbfddclhcoaaaParse
namespace Go.Proofs.Ythbbfddclhcoaaa
open Go.RowKit
theorem one_new (V : World) (v : Value) (t : TypeId) : (V.alloc (.cells #[v] t)).cell? ⟨V.heap.size, 0, none⟩ = some v ∧ ∀ i, (V.alloc (.cells #[v] t)).frozen? ⟨V.heap.size, i, none⟩ = false := ⟨by simp, fun i => by simp⟩
theorem five_new (V : World) (a b c d e : Value) (t : TypeId) : (V.alloc (.cells #[a, b, c, d, e] t)).cell? ⟨V.heap.size, 0, none⟩ = some a ∧ (V.alloc (.cells #[a, b, c, d, e] t)).cell? ⟨V.heap.size, 1, none⟩ = some b ∧ (V.alloc (.cells #[a, b, c, d, e] t)).cell? ⟨V.heap.size, 2, none⟩ = some c ∧ (V.alloc (.cells #[a, b, c, d, e] t)).cell? ⟨V.heap.size, 3, none⟩ = some d ∧ (V.alloc (.cells #[a, b, c, d, e] t)).cell? ⟨V.heap.size, 4, none⟩ = some e ∧ ∀ i, (V.alloc (.cells #[a, b, c, d, e] t)).frozen? ⟨V.heap.size, i, none⟩ = false := ⟨by simp, by simp, by simp, by simp, by simp, fun i => by simp⟩
theorem owns_kp {w w' : World} {S : Nat → Prop} {base : Nat} {e : TypeId} {size : Nat} {v : Value} {n : Nat} {xs : List Value} (h : w.ownsRow base e size v n xs) (hk : Kp S w w') (hS : ∀ q, base ≤ q → q < w.heap.size → S q) : w'.ownsRow base e size v n xs := by
  obtain ⟨h1, h2⟩ := h
  refine ⟨h1, ?_⟩
  rcases h2 with h2 | ⟨g, cap, cur, hv, hg, hh, rest⟩
  · exact Or.inl h2
  · refine Or.inr ⟨g, cap, cur, hv, hg, ?_, rest⟩
    have hlt : g < w.heap.size := by
      rcases Nat.lt_or_ge g w.heap.size with h' | h'
      · exact h'
      · rw [Array.getElem?_eq_none h'] at hh; cases hh
    rw [hk.block g hlt (hS g hg hlt)]; exact hh
set_option maxRecDepth 100000 in
set_option maxHeartbeats 8000000 in
theorem rparse_any (s : ByteArray) (w : World) (hs : s.size ≤ 281474976710656) (hlen : (scan s).1.length ≤ 6000) :
    Calls Try.prog 18 #[.string s] w (OutP w (parse s)) := by
  have SC := fun w => rScan_any s w hs
  unfold parse
  generalize scan s = sc at *
  obtain ⟨l, c, a⟩ := sc
  simp only at SC hlen ⊢
  obtain ⟨i0, hi, iz0, iz1, iz2⟩ := info_parts Try.infoDef
  by_cases hc : c = 0
  rotate_left
  · rw [if_neg hc]
    have hcB : (c != 0) = true := by simpa using hc
    unfold OutP
    go_enter Try.func18, Try.ntmps18
    go_wp2_with fail
    refine (SC _).mono ?_
    rintro e w1 ⟨v, rfl, hown, hb1⟩
    have z1 := hb1.size
    simp at z1
    have f0 : w1.cell? ⟨w.heap.size + 1, 0, none⟩ = some (.int .i64 0) := by rw [hb1.cell (p := ⟨w.heap.size + 1, 0, none⟩) (by simp)]; simp
    have f1 : w1.cell? ⟨w.heap.size + 1, 1, none⟩ = some (.int .i64 0) := by rw [hb1.cell (p := ⟨w.heap.size + 1, 1, none⟩) (by simp)]; simp
    have ff : ∀ i, w1.frozen? ⟨w.heap.size + 1, i, none⟩ = false := fun i => by rw [hb1.frozen (p := ⟨w.heap.size + 1, i, none⟩) (by simp)]; simp
    have o0 : w1.cell? ⟨w.heap.size, 0, none⟩ = some (.slice none 0 0) := by rw [hb1.cell (p := ⟨w.heap.size, 0, none⟩) (by simp; omega)]; simp
    have of_ : ∀ i, w1.frozen? ⟨w.heap.size, i, none⟩ = false := fun i => by rw [hb1.frozen (p := ⟨w.heap.size, i, none⟩) (by simp; omega)]; simp
    have l0 : w.heap.size < w1.heap.size := by omega
    have l1 : w.heap.size + 1 < w1.heap.size := by omega
    have gf0 : ∀ X i, (w1.alloc X).frozen? ⟨w.heap.size, i, none⟩ = false := fun X i => by rw [World.frozen?_alloc_old _ _ _ (by simp; omega)]; exact of_ i
    have gf1 : ∀ X i, (w1.alloc X).frozen? ⟨w.heap.size + 1, i, none⟩ = false := fun X i => by rw [World.frozen?_alloc_old _ _ _ (by simp; omega)]; exact ff i
    go_wp2_with fail
    go_region
    go_wp2_with fail
    refine bodyPost_ret (v := .tuple #[.agg #[.slice none 0 0], .agg #[.int .i64 c, .int .i64 a]]) (by simp [results, Try.results18, go_sem, o0, f0, f1, l0, l1]) rfl ⟨rfl, ?_⟩
    exact Below.drew ((((((((Below.refl _ _).alloc (Nat.le_refl _) _).alloc (by simp) _).trans (hb1.mono (by simp; omega))).setCell (by simp) _).setCell (by simp) _).setCell (by simp) _).alloc (by simp [World.setCell]; omega) _)
  · subst hc
    rw [if_pos rfl]
    generalize hR : text l s.size = R
    have HR : Hid (textL l s.size (l.length + 2) 0 [] = R) := hR
    clear hR
    go_enter Try.func18, Try.ntmps18
    go_wp2_with fail
    refine (SC _).mono ?_
    rintro e w1 ⟨v, rfl, hown, hb1⟩
    clear SC
    have z1 := hb1.size
    simp at z1
    obtain ⟨ao, cap, hv⟩ := owns_slice hown
    subst hv
    have f0 : w1.cell? ⟨w.heap.size + 1, 0, none⟩ = some (.int .i64 0) := by rw [hb1.cell (p := ⟨w.heap.size + 1, 0, none⟩) (by simp)]; simp
    have f1 : w1.cell? ⟨w.heap.size + 1, 1, none⟩ = some (.int .i64 0) := by rw [hb1.cell (p := ⟨w.heap.size + 1, 1, none⟩) (by simp)]; simp
    have ff : ∀ i, w1.frozen? ⟨w.heap.size + 1, i, none⟩ = false := fun i => by rw [hb1.frozen (p := ⟨w.heap.size + 1, i, none⟩) (by simp)]; simp
    have p0 : w1.cell? ⟨w.heap.size, 0, none⟩ = some (.slice none 0 0) := by rw [hb1.cell (p := ⟨w.heap.size, 0, none⟩) (by simp; omega)]; simp
    have pf : ∀ i, w1.frozen? ⟨w.heap.size, i, none⟩ = false := fun i => by rw [hb1.frozen (p := ⟨w.heap.size, i, none⟩) (by simp; omega)]; simp
    go_wp2_with fail
    obtain ⟨W, hW⟩ : ∃ W, W = ((w1.alloc (.cells #[.int .i64 0, .int .i64 a] 25)).alloc (.cells #[.slice ao l.length cap, .int .i64 s.size, .int .i64 0, .int .i64 0, .int .i64 0, .int .i64 0, .int .i64 0] 58)).alloc (.cells #[.slice none 0 0] 34) := ⟨_, rfl⟩
    have hWz : W.heap.size = w1.heap.size + 3 := by rw [hW]; simp
    have hWb1 : Below w1.heap.size w1 W := by rw [hW]; exact (((Below.refl _ _).alloc (Nat.le_refl _) _).alloc (by simp) _).alloc (by simp; omega) _
    have hWb : Below w.heap.size w W := ((((Below.refl _ _).alloc (Nat.le_refl _) _).alloc (by simp) _).trans (hb1.mono (by simp; omega))).trans (hWb1.mono (by omega))
    have hWc : W.cell? ⟨w.heap.size, 0, none⟩ = some (.slice none 0 0) ∧ W.cell? ⟨w.heap.size + 1, 0, none⟩ = some (.int .i64 0) ∧ W.cell? ⟨w.heap.size + 1, 1, none⟩ = some (.int .i64 0) ∧ (∀ i, W.frozen? ⟨w.heap.size, i, none⟩ = false) ∧ ∀ i, W.frozen? ⟨w.heap.size + 1, i, none⟩ = false :=
      ⟨by rw [hWb1.cell (p := ⟨w.heap.size, 0, none⟩) (by simp; omega)]; exact p0, by rw [hWb1.cell (p := ⟨w.heap.size + 1, 0, none⟩) (by simp; omega)]; exact f0, by rw [hWb1.cell (p := ⟨w.heap.size + 1, 1, none⟩) (by simp; omega)]; exact f1, fun i => by rw [hWb1.frozen (p := ⟨w.heap.size, i, none⟩) (by simp; omega)]; exact pf i, fun i => by rw [hWb1.frozen (p := ⟨w.heap.size + 1, i, none⟩) (by simp; omega)]; exact ff i⟩
    have hWr : RgS W (w1.heap.size + 1) ao cap l s.size 0 0 0 := by
      refine ⟨?_, ?_, ?_, ?_, ?_, ?_, ?_, ?_, by omega, hlen, by omega, by omega, by omega, ?_⟩
      all_goals first | (rw [hW]; simp [go_sem]; done) | skip
      rcases owns_shape hown with ⟨_, _, e, hz⟩ | ⟨g, cap', e, hg1, hg2, t⟩
      · exact .inl hz
      · cases e
        have hc : ∀ i, W.cell? ⟨g, i, none⟩ = w1.cell? ⟨g, i, none⟩ := fun i => hWb1.cell (p := ⟨g, i, none⟩) hg2
        exact .inr ⟨g, rfl, by omega, by omega, fun k hk => by rw [hc]; exact t.c0 k hk, fun k hk => by rw [hc]; exact t.c1 k hk, fun k hk => by rw [hc]; exact t.c2 k hk⟩
    have hWt : W.cell? ⟨w1.heap.size + 2, 0, none⟩ = some (.slice none 0 0) ∧ ∀ i, W.frozen? ⟨w1.heap.size + 2, i, none⟩ = false := by
      have z : ((w1.alloc (.cells #[.int .i64 0, .int .i64 a] 25)).alloc (.cells #[.slice ao l.length cap, .int .i64 s.size, .int .i64 0, .int .i64 0, .int .i64 0, .int .i64 0, .int .i64 0] 58)).heap.size = w1.heap.size + 2 := by simp
      have := one_new ((w1.alloc (.cells #[.int .i64 0, .int .i64 a] 25)).alloc (.cells #[.slice ao l.length cap, .int .i64 s.size, .int .i64 0, .int .i64 0, .int .i64 0, .int .i64 0, .int .i64 0] 58)) (.slice none 0 0) 34
      rw [z] at this
      rw [hW]; exact this
    have htk := hWr.tkb
    have htk1 : ∀ g, ao = some ⟨g, 0, none⟩ → l.length = 0 ∨ g < w1.heap.size := by
      intro g e
      rcases owns_shape hown with ⟨_, _, e', hz⟩ | ⟨g', cap', e', hg1, hg2, t⟩
      · exact .inl hz
      · cases e'; cases e; exact .inr hg2
    rw [← hW]
    have HW := hd hW
    clear hW hown hb1 f0 f1 ff p0 pf
    go_loopg [8] (l.length + 2) (fun gk _ wr => (∃ (n' p' : Nat) (acc : List Df) (xs : List Value) (v : Value), wr.cell? ⟨w1.heap.size + 2, 0, none⟩ = some v ∧ (∀ i, wr.frozen? ⟨w1.heap.size + 2, i, none⟩ = false) ∧ RgS wr (w1.heap.size + 1) ao cap l s.size n' p' 0 ∧ l.length - n' + 1 ≤ gk ∧ Hid (textL l s.size gk n' acc = R) ∧ acc.length ≤ 16 ∧ wr.ownsRow (w1.heap.size + 3) 51 5 v acc.length xs ∧ DC wr (fun q => w1.heap.size + 3 ≤ q ∧ v.ownBlock ≠ some q) xs acc ∧ Below (w1.heap.size + 1) W wr) ∨ (∃ c a : Int, Hid (R = .err c a) ∧ RgE wr (w1.heap.size + 1) 0 c a ∧ Below (w1.heap.size + 1) W wr))
    case atStart => exact .inl ⟨0, 0, [], [], _, hWt.1, hWt.2, hWr, by omega, HR, by simp, World.ownsRow_nil _ _ _ _, trivial, Below.refl _ _⟩
    case round =>
      rcases hrel with ⟨n', p', acc, xs, v, hv, hvf, h1, hfu, hE, ha16, hown, hfc, hbr⟩ | ⟨c, a', hE, h1, hbr⟩
      · have hzr := hbr.size
        rw [hWz] at hzr
        obtain ⟨j, rfl⟩ : ∃ j, gk = j + 1 := ⟨gk - 1, by omega⟩
        have hEE := hE.out
        rw [textL] at hEE
        clear hE HR
        obtain ⟨aov, capv, hve⟩ := owns_slice hown
        subst hve
        have o0 : wr.cell? ⟨w.heap.size, 0, none⟩ = some (.slice none 0 0) := by rw [hbr.cell (p := ⟨w.heap.size, 0, none⟩) (by simp; omega)]; exact hWc.1
        have o1 : wr.cell? ⟨w.heap.size + 1, 0, none⟩ = some (.int .i64 0) := by rw [hbr.cell (p := ⟨w.heap.size + 1, 0, none⟩) (by simp; omega)]; exact hWc.2.1
        have o2 : wr.cell? ⟨w.heap.size + 1, 1, none⟩ = some (.int .i64 0) := by rw [hbr.cell (p := ⟨w.heap.size + 1, 1, none⟩) (by simp; omega)]; exact hWc.2.2.1
        have of0 : ∀ i, wr.frozen? ⟨w.heap.size, i, none⟩ = false := fun i => by rw [hbr.frozen (p := ⟨w.heap.size, i, none⟩) (by simp; omega)]; exact hWc.2.2.2.1 i
        have of1 : ∀ i, wr.frozen? ⟨w.heap.size + 1, i, none⟩ = false := fun i => by rw [hbr.frozen (p := ⟨w.heap.size + 1, i, none⟩) (by simp; omega)]; exact hWc.2.2.2.2 i
        have bel : Below w.heap.size w wr := hWb.trans (hbr.mono (by omega))
        have q2 := h1.c2
        have OK := ok_yes h1
        by_cases hgo : n' < l.length ∨ acc = []
        · rw [if_pos hgo] at hEE
          by_cases h16 : acc.length = 16
          · rw [if_pos h16] at hEE
            have hn : n' < l.length := hgo.resolve_right (fun e => by rw [e] at h16; cases h16)
            subst hEE
            have WR := wrong_at h1 hn 6 (by decide)
            rw [h16] at hv
            go_wp2_with fail
            refine OK.mono ?_
            rintro e wx ⟨rfl, hwx⟩; obtain rfl := hwx.symm
            go_wp2_with fail
            refine WR.mono ?_
            rintro e w2 ⟨rfl, h2, hb2⟩
            have hbr2 : Below (w1.heap.size + 1) W w2 := hbr.trans (hb2.below (Nat.le_refl _) (by omega))
            clear o0 o1 o2 of0 of1 bel
            have o0 : w2.cell? ⟨w.heap.size, 0, none⟩ = some (.slice none 0 0) := by rw [hbr2.cell (p := ⟨w.heap.size, 0, none⟩) (by simp; omega)]; exact hWc.1
            have o1 : w2.cell? ⟨w.heap.size + 1, 0, none⟩ = some (.int .i64 0) := by rw [hbr2.cell (p := ⟨w.heap.size + 1, 0, none⟩) (by simp; omega)]; exact hWc.2.1
            have o2 : w2.cell? ⟨w.heap.size + 1, 1, none⟩ = some (.int .i64 0) := by rw [hbr2.cell (p := ⟨w.heap.size + 1, 1, none⟩) (by simp; omega)]; exact hWc.2.2.1
            have of0 : ∀ i, w2.frozen? ⟨w.heap.size, i, none⟩ = false := fun i => by rw [hbr2.frozen (p := ⟨w.heap.size, i, none⟩) (by simp; omega)]; exact hWc.2.2.2.1 i
            have of1 : ∀ i, w2.frozen? ⟨w.heap.size + 1, i, none⟩ = false := fun i => by rw [hbr2.frozen (p := ⟨w.heap.size + 1, i, none⟩) (by simp; omega)]; exact hWc.2.2.2.2 i
            have bel : Below w.heap.size w w2 := hWb.trans (hbr2.mono (by omega))
            go_wp2_with fail
            have g5 := h2.c5
            have g6 := h2.c6
            refine (ok_no h2).mono ?_
            rintro e wx ⟨rfl, hwx⟩; obtain rfl := hwx.symm
            go_wp2_with fail
            go_region
            all_goals
              go_wp2_with fail
              refine bodyPost_ret (v := .tuple #[.agg #[.slice none 0 0], .agg #[.int .i64 6, .int .i64 (plc l s.size n')]]) (by simp [results, Try.results18, go_sem, o0, o1, o2]) rfl ⟨rfl, ?_⟩
              exact Below.drew (((bel.setCell (by simp) _).setCell (by simp) _).setCell (by simp) _)

          · rw [if_neg h16] at hEE
            have h16B : ((acc.length : Int) == 16) = false := by simp; omega
            have KI := kind_any h1
            by_cases hk : knd l n' = 1
            · have hn := lt_of_knd hk (by decide)
              have hn6 : (n' : Int) < 6000 := by omega
              rw [hk] at KI
              have hMain := hEE
              unfold defn at hMain
              rw [if_pos hk] at hMain
              go_wp2_with fail
              refine OK.mono ?_
              rintro e wx ⟨rfl, hwx⟩; obtain rfl := hwx.symm
              go_wp2_with fail
              refine KI.mono ?_
              rintro e w2 ⟨rfl, m1, hw2⟩
              have g1 : RgS w2 (w1.heap.size + 1) ao cap l s.size n' p' 0 := by rw [hw2]; exact h1.drew_ m1
              have gown : w2.ownsRow (w1.heap.size + 3) 51 5 (.slice aov acc.length capv) acc.length xs := by rw [hw2]; exact hown
              have gfc : DC w2 (fun q => w1.heap.size + 3 ≤ q ∧ (Value.slice aov acc.length capv).ownBlock ≠ some q) xs acc := by rw [hw2]; exact hfc.kp ((Kp.refl _ wr).drewN m1) (fun _ _ h => h)
              have gbr : Below (w1.heap.size + 1) W w2 := by rw [hw2]; exact below_drewN0 hbr m1
              have gv : w2.cell? ⟨w1.heap.size + 2, 0, none⟩ = some (.slice aov acc.length capv) := by rw [hw2]; exact hv
              have gvf : ∀ i, w2.frozen? ⟨w1.heap.size + 2, i, none⟩ = false := by rw [hw2]; exact hvf
              have gzr : w1.heap.size + 3 ≤ w2.heap.size := by rw [hw2]; exact hzr
              clear hw2 h1 hown hfc hbr hv hvf hzr OK KI q2 o0 o1 o2 of0 of1 bel
              have q0 := g1.c0
              have q2 := g1.c2
              have qf := g1.fz
              have sz2 : w1.heap.size + 1 < w2.heap.size := by omega
              obtain htk0 | ⟨g, hao, hgr, hgz, tks⟩ := g1.tk
              · omega
              have a1 := tks.c1 n' hn
              have a2 := tks.c2 n' hn
              rw [txt_lt hn, at0_lt hn] at hMain
              generalize l[n'].t = tt at *
              generalize l[n'].at_ = aa at *
              subst hao
              go_wp2_with fail
              go_region
              go_wp2_with fail
              obtain ⟨w3, hw3⟩ : ∃ w3, w3 = ((w2.setCell ⟨w1.heap.size + 1, 2, none⟩ (.int .i64 ((n' : Int) + 1))).alloc (.cells #[.string tt, .int .i64 aa, .int .i64 0, .string ⟨#[]⟩, .slice none 0 0] 51)).drew := ⟨_, rfl⟩
              have h3 : RgS w3 (w1.heap.size + 1) (some ⟨g, 0, none⟩) cap l s.size (n' + 1) p' 0 := by rw [hw3]; exact ((g1.setNext hn).alloc_ _).drew_ 1
              have b23 : But (w1.heap.size + 1) w2 w3 := by rw [hw3]; exact (((But.refl _ w2).setCell (p := ⟨w1.heap.size + 1, 2, none⟩) (.inl rfl) _).alloc _).drew
              have z3 : w2.heap.size + 1 ≤ w3.heap.size := by rw [hw3]; simp [World.setCell]
              have hv20 : (w2.setCell ⟨w1.heap.size + 1, 2, none⟩ (.int .i64 ((n' : Int) + 1))).heap.size = w2.heap.size := by simp [World.setCell]
              have t3 := five_new (w2.setCell ⟨w1.heap.size + 1, 2, none⟩ (.int .i64 ((n' : Int) + 1))) (.string tt) (.int .i64 aa) (.int .i64 0) (.string ⟨#[]⟩) (.slice none 0 0) 51
              rw [hv20] at t3
              obtain ⟨t30', t31', t32', t33', t34', tf3'⟩ := t3
              have t30 : w3.cell? ⟨w2.heap.size, 0, none⟩ = some (.string tt) := by rw [hw3]; exact t30'
              have t31 : w3.cell? ⟨w2.heap.size, 1, none⟩ = some (.int .i64 aa) := by rw [hw3]; exact t31'
              have t32 : w3.cell? ⟨w2.heap.size, 2, none⟩ = some (.int .i64 0) := by rw [hw3]; exact t32'
              have t33 : w3.cell? ⟨w2.heap.size, 3, none⟩ = some (.string ⟨#[]⟩) := by rw [hw3]; exact t33'
              have t34 : w3.cell? ⟨w2.heap.size, 4, none⟩ = some (.slice none 0 0) := by rw [hw3]; exact t34'
              have tf3 : ∀ i, w3.frozen? ⟨w2.heap.size, i, none⟩ = false := fun i => by rw [hw3]; exact tf3' i
              clear t30' t31' t32' t33' t34' tf3' hv20
              have v3 : w3.cell? ⟨w1.heap.size + 2, 0, none⟩ = some (.slice aov acc.length capv) := by rw [b23.cell (lt_of_cell gv) (by omega)]; exact gv
              have vf3 : ∀ i, w3.frozen? ⟨w1.heap.size + 2, i, none⟩ = false := fun i => by rw [b23.frozen (lt_of_cell gv) (by omega)]; exact gvf i
              have hgg : g < w1.heap.size := (htk1 g rfl).resolve_left (by omega)
              rw [← hw3]
              clear hw3 q0 q2 qf a1 a2 tks
              cases hs : isS l (n' + 1) ⟨#[61]⟩ with
              | false =>
                have HE : Hid (R = .err (fm l (n' + 1)) (plc l s.size (n' + 1))) := by rw [if_neg (by rw [hs]; decide)] at hMain; exact hMain.symm
                clear hMain hEE
                refine (must_no h3 ⟨#[61]⟩ hs).mono ?_
                rintro e w4 ⟨rfl, h4, b34⟩
                have c4 : ∃ y, w4.cell? ⟨w1.heap.size + 1, 4, none⟩ = some (.int .i64 y) := h4.c4
                obtain ⟨y4, c4⟩ := c4
                have f4 := h4.fz
                go_wp2_with fail
                have h5 := h4.setParts 0
                refine (ok_no h5).mono ?_
                rintro e wx ⟨rfl, hwx⟩; obtain rfl := hwx.symm
                go_wp2_with fail
                refine (must_err h5 ⟨#[59]⟩).mono ?_
                rintro e wa ⟨rfl, m6, hwa⟩
                have stA : RgE wa (w1.heap.size + 1) 0 (fm l (n' + 1)) (plc l s.size (n' + 1)) := by rw [hwa]; exact h5.drew_ m6
                have b3a : But (w1.heap.size + 1) w3 wa := by rw [hwa]; exact (b34.setCell (p := ⟨w1.heap.size + 1, 4, none⟩) (.inl rfl) _).drewN m6
                clear hwa
                obtain ⟨yi, hyi⟩ : ∃ yi : Int, yi = 0 := ⟨_, rfl⟩
                obtain ⟨ys, hys⟩ : ∃ ys : ByteArray, ys = ⟨#[]⟩ := ⟨_, rfl⟩
                obtain ⟨yq, hyq⟩ : ∃ yq : Option Addr, yq = none := ⟨_, rfl⟩
                obtain ⟨ym, hym⟩ : ∃ ym : Nat, ym = 0 := ⟨_, rfl⟩
                obtain ⟨yk, hyk⟩ : ∃ yk : Nat, yk = 0 := ⟨_, rfl⟩
                rw [← hyi] at t32
                rw [← hys] at t33
                have t34 : w3.cell? ⟨w2.heap.size, 4, none⟩ = some (.slice yq ym yk) := by rw [hyq, hym, hyk]; exact t34
                clear hyi hys hyq hym hyk
                have vA : wa.cell? ⟨w1.heap.size + 2, 0, none⟩ = some (.slice aov acc.length capv) := by rw [b3a.cell (lt_of_cell v3) (by omega)]; exact v3
                have vfA : ∀ i, wa.frozen? ⟨w1.heap.size + 2, i, none⟩ = false := fun i => by rw [b3a.frozen (lt_of_cell v3) (by omega)]; exact vf3 i
                have tA0 : wa.cell? ⟨w2.heap.size, 0, none⟩ = some (.string tt) := by rw [b3a.cell (lt_of_cell t30) (by omega)]; exact t30
                have tA1 : wa.cell? ⟨w2.heap.size, 1, none⟩ = some (.int .i64 aa) := by rw [b3a.cell (lt_of_cell t31) (by omega)]; exact t31
                have tA2 : wa.cell? ⟨w2.heap.size, 2, none⟩ = some (.int .i64 yi) := by rw [b3a.cell (lt_of_cell t32) (by omega)]; exact t32
                have tA3 : wa.cell? ⟨w2.heap.size, 3, none⟩ = some (.string ys) := by rw [b3a.cell (lt_of_cell t33) (by omega)]; exact t33
                have tA4 : wa.cell? ⟨w2.heap.size, 4, none⟩ = some (.slice yq ym yk) := by rw [b3a.cell (lt_of_cell t34) (by omega)]; exact t34
                have tfA : ∀ i, wa.frozen? ⟨w2.heap.size, i, none⟩ = false := fun i => by rw [b3a.frozen (lt_of_cell t30) (by omega)]; exact tf3 i
                have b2a : But (w1.heap.size + 1) w2 wa := b23.trans b3a
                have kA : Below (w1.heap.size + 1) w2 wa := b2a.below (Nat.le_refl _) (by omega)
                have kpA : Kp (fun q => q ≠ w1.heap.size + 1) w2 wa := Kp.of_but b2a (by simp)
                have belA : Below (w1.heap.size + 1) W wa := gbr.trans kA
                have hownA : wa.ownsRow (w1.heap.size + 3) 51 5 (.slice aov acc.length capv) acc.length xs := owns_kp gown kpA (fun q h h' => by omega)
                have zA : w2.heap.size < wa.heap.size := lt_of_cell tA0
                go_wp2_with (first | (at_builtin; go_must (refine wpList_append_own_at _ rfl _ _ 32 rfl (w1.heap.size + 3) 51 i0 (.agg #[.string ⟨#[]⟩, .int .i64 0, .int .i64 0, .string ⟨#[]⟩, .slice none 0 0]) 5 72 Try.underlying32 hi iz0 iz1 iz2 rfl (by decide) _ _ _ rfl (hownA.alloc _) ⟨wa.heap.size, 0, none⟩ 1 1 [.string tt, .int .i64 aa, .int .i64 yi, .string ys, .slice yq ym yk] rfl rfl (cell5_new wa _ _ _ _ _ _) (oneD _ _ _ _ _ _ _) (by unfold maxLen; omega) (by omega) (by simp; omega) ?_)))
                intro v' w9 hown9 hgrow _ hat
                have z9 := hgrow.size
                simp at z9
                have hvl : ∀ q, (Value.slice aov acc.length capv).ownBlock = some q → w1.heap.size + 3 ≤ q ∧ q < wa.heap.size := fun q e => hownA.lt q e
                have k9 : Kp (fun q => q < w1.heap.size + 3) wa w9 := Kp.grown ((Kp.refl _ wa).alloc _) hgrow (fun q e => .inl (by have := (hvl q e).1; omega))
                have v9 : w9.cell? ⟨w1.heap.size + 2, 0, none⟩ = some (.slice aov acc.length capv) := by rw [World.cell?_of_block (w := wa) (a := ⟨w1.heap.size + 2, 0, none⟩) (k9.block _ (lt_of_cell vA) (show w1.heap.size + 2 < w1.heap.size + 3 by omega))]; exact vA
                have vf9 : ∀ i, w9.frozen? ⟨w1.heap.size + 2, i, none⟩ = false := fun i => by rw [World.frozen?_of_block (w := wa) (a := ⟨w1.heap.size + 2, i, none⟩) (k9.block _ (lt_of_cell vA) (show w1.heap.size + 2 < w1.heap.size + 3 by omega))]; exact vfA i
                have bel9 : Below (w1.heap.size + 1) W w9 := belA.trans ⟨(hgrow.os.trans rfl), (hgrow.tape.trans rfl), (hgrow.output.trans rfl), by omega, fun q hq => k9.block q (by omega) (by omega)⟩
                obtain ⟨ao9, cap9, rfl⟩ := owns_slice hown9
                go_wp2_with fail
                go_roundg j
                case measure => omega
                case rel =>
                  exact .inr ⟨_, _, HE.out, (stA.kp k9 (by omega)).off (by simp) _, bel9.setCell (by simp) _⟩
              | true =>
                have AL := fun w' h' => (rall_ok (r := w1.heap.size + 1) (ao := some ⟨g, 0, none⟩) (cap := cap) (l := l) (en := (s.size : Int)) (fuel l)).2.2 (n' + 2) 0 0 w' h' (by unfold fuel; omega)
                cases hA : alt l s.size (fuel l) (n' + 2) 0 0 with
                | out =>
                  simp only [hA] at AL
                  have hn2 := lt_of_isS hs
                  rw [if_pos hs] at hMain
                  refine (must_yes h3 ⟨#[61]⟩ hs).mono ?_
                  rintro e w4 ⟨rfl, h4, b34⟩
                  have c4 := h4.c4
                  have f4 := h4.fz
                  go_wp2_with fail
                  have h5 := h4.setParts (q := 0) (by omega)
                  rw [show ((0 : Nat) : Int) = 0 from rfl] at h5
                  refine (ok_yes h5).mono ?_
                  rintro e wx ⟨rfl, hwx⟩; obtain rfl := hwx.symm
                  go_wp2_with fail
                  refine (AL _ h5).mono ?_
                  rintro e w6 h6
                  exact h6.elim
                | err c a3 =>
                  simp only [hA] at AL
                  have HE : Hid (R = .err c a3) := by rw [if_pos hs, hA] at hMain; exact hMain.symm
                  have hn2 := lt_of_isS hs
                  rw [if_pos hs] at hMain
                  refine (must_yes h3 ⟨#[61]⟩ hs).mono ?_
                  rintro e w4 ⟨rfl, h4, b34⟩
                  have c4 := h4.c4
                  have f4 := h4.fz
                  go_wp2_with fail
                  have h5 := h4.setParts (q := 0) (by omega)
                  rw [show ((0 : Nat) : Int) = 0 from rfl] at h5
                  refine (ok_yes h5).mono ?_
                  rintro e wx ⟨rfl, hwx⟩; obtain rfl := hwx.symm
                  go_wp2_with fail
                  refine (AL _ h5).mono ?_
                  rintro e w6 ⟨yi, ys, yq, ym, yk, rfl, h6, b56⟩
                  have b36 : But (w1.heap.size + 1) w3 w6 := (b34.setCell (p := ⟨w1.heap.size + 1, 4, none⟩) (.inl rfl) _).trans b56
                  have v6 : w6.cell? ⟨w1.heap.size + 2, 0, none⟩ = some (.slice aov acc.length capv) := by rw [b36.cell (lt_of_cell v3) (by omega)]; exact v3
                  have vf6 : ∀ i, w6.frozen? ⟨w1.heap.size + 2, i, none⟩ = false := fun i => by rw [b36.frozen (lt_of_cell v3) (by omega)]; exact vf3 i
                  have t60 : w6.cell? ⟨w2.heap.size, 0, none⟩ = some (.string tt) := by rw [b36.cell (lt_of_cell t30) (by omega)]; exact t30
                  have t61 : w6.cell? ⟨w2.heap.size, 1, none⟩ = some (.int .i64 aa) := by rw [b36.cell (lt_of_cell t31) (by omega)]; exact t31
                  have t62 : w6.cell? ⟨w2.heap.size, 2, none⟩ = some (.int .i64 0) := by rw [b36.cell (lt_of_cell t32) (by omega)]; exact t32
                  have t63 : w6.cell? ⟨w2.heap.size, 3, none⟩ = some (.string ⟨#[]⟩) := by rw [b36.cell (lt_of_cell t33) (by omega)]; exact t33
                  have t64 : w6.cell? ⟨w2.heap.size, 4, none⟩ = some (.slice none 0 0) := by rw [b36.cell (lt_of_cell t34) (by omega)]; exact t34
                  have tf6 : ∀ i, w6.frozen? ⟨w2.heap.size, i, none⟩ = false := fun i => by rw [b36.frozen (lt_of_cell t30) (by omega)]; exact tf3 i
                  obtain ⟨w7, hw7⟩ : ∃ w7, w7 = ((w6.setCell ⟨w2.heap.size, 2, none⟩ (.int .i64 yi)).setCell ⟨w2.heap.size, 3, none⟩ (.string ys)).setCell ⟨w2.heap.size, 4, none⟩ (.slice yq ym yk) := ⟨_, rfl⟩
                  have k67 : Kp (fun q => q ≠ w2.heap.size) w6 w7 := by rw [hw7]; exact (((Kp.refl _ w6).setCell (.inl (by simp)) _).setCell (.inl (by simp)) _).setCell (.inl (by simp)) _
                  have z67 : w7.heap.size = w6.heap.size := by rw [hw7]; simp [World.setCell]
                  have Z67 := hd z67
                  have u0 : w7.cell? ⟨w2.heap.size, 0, none⟩ = some (.string tt) := by rw [hw7]; simp [go_sem, t60]
                  have u1 : w7.cell? ⟨w2.heap.size, 1, none⟩ = some (.int .i64 aa) := by rw [hw7]; simp [go_sem, t61]
                  have u2 : w7.cell? ⟨w2.heap.size, 2, none⟩ = some (.int .i64 yi) := by rw [hw7]; simp [go_sem, t62]
                  have u3 : w7.cell? ⟨w2.heap.size, 3, none⟩ = some (.string ys) := by rw [hw7]; simp [go_sem, t63]
                  have u4 : w7.cell? ⟨w2.heap.size, 4, none⟩ = some (.slice yq ym yk) := by rw [hw7]; simp [go_sem, t64]
                  have uf : ∀ i, w7.frozen? ⟨w2.heap.size, i, none⟩ = false := fun i => by rw [hw7]; simp [go_sem, tf6]
                  have uv : w7.cell? ⟨w1.heap.size + 2, 0, none⟩ = some (.slice aov acc.length capv) := by rw [World.cell?_of_block (w := w6) (a := ⟨w1.heap.size + 2, 0, none⟩) (k67.block _ (lt_of_cell v6) (show w1.heap.size + 2 ≠ w2.heap.size by omega))]; exact v6
                  have uvf : ∀ i, w7.frozen? ⟨w1.heap.size + 2, i, none⟩ = false := fun i => by rw [World.frozen?_of_block (w := w6) (a := ⟨w1.heap.size + 2, i, none⟩) (k67.block _ (lt_of_cell v6) (show w1.heap.size + 2 ≠ w2.heap.size by omega))]; exact vf6 i
                  have h7 : RgE w7 (w1.heap.size + 1) 0 c a3 := h6.kp k67 (by omega)
                  go_wp2_with fail
                  rw [← hw7]
                  have b7 : Below (w1.heap.size + 1) w6 w7 := by rw [hw7]; exact (((Below.refl _ w6).setCell (by simp; omega) _).setCell (by simp; omega) _).setCell (by simp; omega) _
                  clear hw7 z67
                  refine (must_err h7 ⟨#[59]⟩).mono ?_
                  rintro e wa ⟨rfl, m6, hwa⟩
                  have stA : RgE wa (w1.heap.size + 1) 0 c a3 := by rw [hwa]; exact h7.drew_ m6
                  have b7a : But (w1.heap.size + 1) w7 wa := by rw [hwa]; exact (But.refl _ _).drewN m6
                  clear hwa
                  have vA : wa.cell? ⟨w1.heap.size + 2, 0, none⟩ = some (.slice aov acc.length capv) := by rw [b7a.cell (lt_of_cell uv) (by omega)]; exact uv
                  have vfA : ∀ i, wa.frozen? ⟨w1.heap.size + 2, i, none⟩ = false := fun i => by rw [b7a.frozen (lt_of_cell uv) (by omega)]; exact uvf i
                  have tA0 : wa.cell? ⟨w2.heap.size, 0, none⟩ = some (.string tt) := by rw [b7a.cell (lt_of_cell u0) (by omega)]; exact u0
                  have tA1 : wa.cell? ⟨w2.heap.size, 1, none⟩ = some (.int .i64 aa) := by rw [b7a.cell (lt_of_cell u0) (by omega)]; exact u1
                  have tA2 : wa.cell? ⟨w2.heap.size, 2, none⟩ = some (.int .i64 yi) := by rw [b7a.cell (lt_of_cell u0) (by omega)]; exact u2
                  have tA3 : wa.cell? ⟨w2.heap.size, 3, none⟩ = some (.string ys) := by rw [b7a.cell (lt_of_cell u0) (by omega)]; exact u3
                  have tA4 : wa.cell? ⟨w2.heap.size, 4, none⟩ = some (.slice yq ym yk) := by rw [b7a.cell (lt_of_cell u0) (by omega)]; exact u4
                  have b26 : But (w1.heap.size + 1) w2 w6 := b23.trans b36
                  have z26 := b26.size
                  have kA : Below (w1.heap.size + 1) w2 wa := ((b26.below (Nat.le_refl _) (by omega)).trans b7).trans (b7a.below (Nat.le_refl _) (by have := Z67.out; omega))
                  have kpA : Kp (fun q => q ≠ w1.heap.size + 1 ∧ q ≠ w2.heap.size) w2 wa := (((⟨b26.size, fun q hq hs => b26.block q hq hs.1⟩ : Kp (fun q => q ≠ w1.heap.size + 1 ∧ q ≠ w2.heap.size) w2 w6).trans ⟨k67.size, fun q hq hs => k67.block q hq hs.2⟩).trans ⟨b7a.size, fun q hq hs => b7a.block q hq hs.1⟩)
                  have belA : Below (w1.heap.size + 1) W wa := gbr.trans kA
                  have hownA : wa.ownsRow (w1.heap.size + 3) 51 5 (.slice aov acc.length capv) acc.length xs := owns_kp gown kpA (fun q h h' => by omega)
                  have zA : w2.heap.size < wa.heap.size := lt_of_cell tA0
                  go_wp2_with (first | (at_builtin; go_must (refine wpList_append_own_at _ rfl _ _ 32 rfl (w1.heap.size + 3) 51 i0 (.agg #[.string ⟨#[]⟩, .int .i64 0, .int .i64 0, .string ⟨#[]⟩, .slice none 0 0]) 5 72 Try.underlying32 hi iz0 iz1 iz2 rfl (by decide) _ _ _ rfl (hownA.alloc _) ⟨wa.heap.size, 0, none⟩ 1 1 [.string tt, .int .i64 aa, .int .i64 yi, .string ys, .slice yq ym yk] rfl rfl (cell5_new wa _ _ _ _ _ _) (oneD _ _ _ _ _ _ _) (by unfold maxLen; omega) (by omega) (by simp; omega) ?_)))
                  intro v' w9 hown9 hgrow _ hat
                  have z9 := hgrow.size
                  simp at z9
                  have hvl : ∀ q, (Value.slice aov acc.length capv).ownBlock = some q → w1.heap.size + 3 ≤ q ∧ q < wa.heap.size := fun q e => hownA.lt q e
                  have k9 : Kp (fun q => q < w1.heap.size + 3) wa w9 := Kp.grown ((Kp.refl _ wa).alloc _) hgrow (fun q e => .inl (by have := (hvl q e).1; omega))
                  have v9 : w9.cell? ⟨w1.heap.size + 2, 0, none⟩ = some (.slice aov acc.length capv) := by rw [World.cell?_of_block (w := wa) (a := ⟨w1.heap.size + 2, 0, none⟩) (k9.block _ (lt_of_cell vA) (show w1.heap.size + 2 < w1.heap.size + 3 by omega))]; exact vA
                  have vf9 : ∀ i, w9.frozen? ⟨w1.heap.size + 2, i, none⟩ = false := fun i => by rw [World.frozen?_of_block (w := wa) (a := ⟨w1.heap.size + 2, i, none⟩) (k9.block _ (lt_of_cell vA) (show w1.heap.size + 2 < w1.heap.size + 3 by omega))]; exact vfA i
                  have bel9 : Below (w1.heap.size + 1) W w9 := belA.trans ⟨(hgrow.os.trans rfl), (hgrow.tape.trans rfl), (hgrow.output.trans rfl), by omega, fun q hq => k9.block q (by omega) (by omega)⟩
                  obtain ⟨ao9, cap9, rfl⟩ := owns_slice hown9
                  go_wp2_with fail
                  go_roundg j
                  case measure => omega
                  case rel =>
                    exact .inr ⟨_, _, HE.out, (stA.kp k9 (by omega)).off (by simp) _, bel9.setCell (by simp) _⟩
                | ok x n2 p2 =>
                  simp only [hA] at AL
                  have FA := (far l s.size _).alt _ _ _ _ _ _ (by omega) (by have := lt_of_isS hs; omega) hA
                  cases hs2 : isS l n2 ⟨#[59]⟩ with
                  | true =>
                    have hn3 := lt_of_isS hs2
                    have HE : Hid (textL l s.size j (n2 + 1) (acc ++ [⟨tt, aa, x⟩]) = R) := by rw [if_pos hs, hA] at hMain; simp only [hs2, if_true] at hMain; exact hMain
                    have hn2 := lt_of_isS hs
                    rw [if_pos hs] at hMain
                    refine (must_yes h3 ⟨#[61]⟩ hs).mono ?_
                    rintro e w4 ⟨rfl, h4, b34⟩
                    have c4 := h4.c4
                    have f4 := h4.fz
                    go_wp2_with fail
                    have h5 := h4.setParts (q := 0) (by omega)
                    rw [show ((0 : Nat) : Int) = 0 from rfl] at h5
                    refine (ok_yes h5).mono ?_
                    rintro e wx ⟨rfl, hwx⟩; obtain rfl := hwx.symm
                    go_wp2_with fail
                    refine (AL _ h5).mono ?_
                    rintro e w6 ⟨vx, rfl, hx, h6, b56⟩
                    obtain ⟨u, rfl, hxf⟩ := hx
                    have hxf' : FoV w6 (fun q => w2.heap.size + 1 ≤ q) u x.kids := hxf.mono fun b o v hs hc => ⟨by have := b34.size; simp [World.setCell] at hs; omega, hc⟩
                    clear hxf
                    obtain ⟨_, yq, yk, rfl, _⟩ := id hxf'
                    obtain ⟨yi, hyi⟩ : ∃ yi, yi = x.op := ⟨_, rfl⟩
                    obtain ⟨ys, hys⟩ : ∃ ys, ys = x.nm := ⟨_, rfl⟩
                    obtain ⟨ym, hym⟩ : ∃ ym, ym = x.kids.len := ⟨_, rfl⟩
                    rw [← hyi, ← hys, ← hym]
                    rw [← hym] at hxf'
                    have HXI := hd hyi
                    have HXS := hd hys
                    have HXM := hd hym
                    clear hyi hys hym
                    have b36 : But (w1.heap.size + 1) w3 w6 := (b34.setCell (p := ⟨w1.heap.size + 1, 4, none⟩) (.inl rfl) _).trans b56
                    have v6 : w6.cell? ⟨w1.heap.size + 2, 0, none⟩ = some (.slice aov acc.length capv) := by rw [b36.cell (lt_of_cell v3) (by omega)]; exact v3
                    have vf6 : ∀ i, w6.frozen? ⟨w1.heap.size + 2, i, none⟩ = false := fun i => by rw [b36.frozen (lt_of_cell v3) (by omega)]; exact vf3 i
                    have t60 : w6.cell? ⟨w2.heap.size, 0, none⟩ = some (.string tt) := by rw [b36.cell (lt_of_cell t30) (by omega)]; exact t30
                    have t61 : w6.cell? ⟨w2.heap.size, 1, none⟩ = some (.int .i64 aa) := by rw [b36.cell (lt_of_cell t31) (by omega)]; exact t31
                    have t62 : w6.cell? ⟨w2.heap.size, 2, none⟩ = some (.int .i64 0) := by rw [b36.cell (lt_of_cell t32) (by omega)]; exact t32
                    have t63 : w6.cell? ⟨w2.heap.size, 3, none⟩ = some (.string ⟨#[]⟩) := by rw [b36.cell (lt_of_cell t33) (by omega)]; exact t33
                    have t64 : w6.cell? ⟨w2.heap.size, 4, none⟩ = some (.slice none 0 0) := by rw [b36.cell (lt_of_cell t34) (by omega)]; exact t34
                    have tf6 : ∀ i, w6.frozen? ⟨w2.heap.size, i, none⟩ = false := fun i => by rw [b36.frozen (lt_of_cell t30) (by omega)]; exact tf3 i
                    obtain ⟨w7, hw7⟩ : ∃ w7, w7 = ((w6.setCell ⟨w2.heap.size, 2, none⟩ (.int .i64 yi)).setCell ⟨w2.heap.size, 3, none⟩ (.string ys)).setCell ⟨w2.heap.size, 4, none⟩ (.slice yq ym yk) := ⟨_, rfl⟩
                    have k67 : Kp (fun q => q ≠ w2.heap.size) w6 w7 := by rw [hw7]; exact (((Kp.refl _ w6).setCell (.inl (by simp)) _).setCell (.inl (by simp)) _).setCell (.inl (by simp)) _
                    have z67 : w7.heap.size = w6.heap.size := by rw [hw7]; simp [World.setCell]
                    have Z67 := hd z67
                    have u0 : w7.cell? ⟨w2.heap.size, 0, none⟩ = some (.string tt) := by rw [hw7]; simp [go_sem, t60]
                    have u1 : w7.cell? ⟨w2.heap.size, 1, none⟩ = some (.int .i64 aa) := by rw [hw7]; simp [go_sem, t61]
                    have u2 : w7.cell? ⟨w2.heap.size, 2, none⟩ = some (.int .i64 yi) := by rw [hw7]; simp [go_sem, t62]
                    have u3 : w7.cell? ⟨w2.heap.size, 3, none⟩ = some (.string ys) := by rw [hw7]; simp [go_sem, t63]
                    have u4 : w7.cell? ⟨w2.heap.size, 4, none⟩ = some (.slice yq ym yk) := by rw [hw7]; simp [go_sem, t64]
                    have uf : ∀ i, w7.frozen? ⟨w2.heap.size, i, none⟩ = false := fun i => by rw [hw7]; simp [go_sem, tf6]
                    have uv : w7.cell? ⟨w1.heap.size + 2, 0, none⟩ = some (.slice aov acc.length capv) := by rw [World.cell?_of_block (w := w6) (a := ⟨w1.heap.size + 2, 0, none⟩) (k67.block _ (lt_of_cell v6) (show w1.heap.size + 2 ≠ w2.heap.size by omega))]; exact v6
                    have uvf : ∀ i, w7.frozen? ⟨w1.heap.size + 2, i, none⟩ = false := fun i => by rw [World.frozen?_of_block (w := w6) (a := ⟨w1.heap.size + 2, i, none⟩) (k67.block _ (lt_of_cell v6) (show w1.heap.size + 2 ≠ w2.heap.size by omega))]; exact vf6 i
                    have h7 : RgS w7 (w1.heap.size + 1) (some ⟨g, 0, none⟩) cap l s.size n2 p2 0 := h6.kp k67 (by omega) (fun q e => .inr (by cases e; omega))
                    go_wp2_with fail
                    rw [← hw7]
                    have b7 : Below (w1.heap.size + 1) w6 w7 := by rw [hw7]; exact (((Below.refl _ w6).setCell (by simp; omega) _).setCell (by simp; omega) _).setCell (by simp; omega) _
                    clear hw7 z67
                    refine (must_yes h7 ⟨#[59]⟩ hs2).mono ?_
                    rintro e wa ⟨rfl, stA, b7a⟩
                    have vA : wa.cell? ⟨w1.heap.size + 2, 0, none⟩ = some (.slice aov acc.length capv) := by rw [b7a.cell (lt_of_cell uv) (by omega)]; exact uv
                    have vfA : ∀ i, wa.frozen? ⟨w1.heap.size + 2, i, none⟩ = false := fun i => by rw [b7a.frozen (lt_of_cell uv) (by omega)]; exact uvf i
                    have tA0 : wa.cell? ⟨w2.heap.size, 0, none⟩ = some (.string tt) := by rw [b7a.cell (lt_of_cell u0) (by omega)]; exact u0
                    have tA1 : wa.cell? ⟨w2.heap.size, 1, none⟩ = some (.int .i64 aa) := by rw [b7a.cell (lt_of_cell u0) (by omega)]; exact u1
                    have tA2 : wa.cell? ⟨w2.heap.size, 2, none⟩ = some (.int .i64 yi) := by rw [b7a.cell (lt_of_cell u0) (by omega)]; exact u2
                    have tA3 : wa.cell? ⟨w2.heap.size, 3, none⟩ = some (.string ys) := by rw [b7a.cell (lt_of_cell u0) (by omega)]; exact u3
                    have tA4 : wa.cell? ⟨w2.heap.size, 4, none⟩ = some (.slice yq ym yk) := by rw [b7a.cell (lt_of_cell u0) (by omega)]; exact u4
                    have b26 : But (w1.heap.size + 1) w2 w6 := b23.trans b36
                    have z26 := b26.size
                    have kA : Below (w1.heap.size + 1) w2 wa := ((b26.below (Nat.le_refl _) (by omega)).trans b7).trans (b7a.below (Nat.le_refl _) (by have := Z67.out; omega))
                    have kpA : Kp (fun q => q ≠ w1.heap.size + 1 ∧ q ≠ w2.heap.size) w2 wa := (((⟨b26.size, fun q hq hs => b26.block q hq hs.1⟩ : Kp (fun q => q ≠ w1.heap.size + 1 ∧ q ≠ w2.heap.size) w2 w6).trans ⟨k67.size, fun q hq hs => k67.block q hq hs.2⟩).trans ⟨b7a.size, fun q hq hs => b7a.block q hq hs.1⟩)
                    have fovA : FoV wa (fun q => w2.heap.size ≤ q) (.slice yq ym yk) x.kids := hxf'.kp (⟨Nat.le_trans k67.size b7a.size, fun q hq hs => by rw [b7a.block q (Nat.lt_of_lt_of_le hq k67.size) (by omega)]; exact k67.block q hq (by omega)⟩ : Kp (fun q => w2.heap.size + 1 ≤ q) w6 wa) (fun q _ h => by omega)
                    have kpA' : Kp (fun q => w1.heap.size + 3 ≤ q ∧ (Value.slice aov acc.length capv).ownBlock ≠ some q) w2 wa := ⟨kpA.size, fun q hq hs => kpA.block q hq ⟨by omega, by omega⟩⟩
                    have belA : Below (w1.heap.size + 1) W wa := gbr.trans kA
                    have hownA : wa.ownsRow (w1.heap.size + 3) 51 5 (.slice aov acc.length capv) acc.length xs := owns_kp gown kpA (fun q h h' => by omega)
                    have zA : w2.heap.size < wa.heap.size := lt_of_cell tA0
                    go_wp2_with (first | (at_builtin; go_must (refine wpList_append_own_at _ rfl _ _ 32 rfl (w1.heap.size + 3) 51 i0 (.agg #[.string ⟨#[]⟩, .int .i64 0, .int .i64 0, .string ⟨#[]⟩, .slice none 0 0]) 5 72 Try.underlying32 hi iz0 iz1 iz2 rfl (by decide) _ _ _ rfl (hownA.alloc _) ⟨wa.heap.size, 0, none⟩ 1 1 [.string tt, .int .i64 aa, .int .i64 yi, .string ys, .slice yq ym yk] rfl rfl (cell5_new wa _ _ _ _ _ _) (oneD _ _ _ _ _ _ _) (by unfold maxLen; omega) (by omega) (by simp; omega) ?_)))
                    intro v' w9 hown9 hgrow _ hat
                    have z9 := hgrow.size
                    simp at z9
                    have hvl : ∀ q, (Value.slice aov acc.length capv).ownBlock = some q → w1.heap.size + 3 ≤ q ∧ q < wa.heap.size := fun q e => hownA.lt q e
                    have k9 : Kp (fun q => q < w1.heap.size + 3) wa w9 := Kp.grown ((Kp.refl _ wa).alloc _) hgrow (fun q e => .inl (by have := (hvl q e).1; omega))
                    have v9 : w9.cell? ⟨w1.heap.size + 2, 0, none⟩ = some (.slice aov acc.length capv) := by rw [World.cell?_of_block (w := wa) (a := ⟨w1.heap.size + 2, 0, none⟩) (k9.block _ (lt_of_cell vA) (show w1.heap.size + 2 < w1.heap.size + 3 by omega))]; exact vA
                    have vf9 : ∀ i, w9.frozen? ⟨w1.heap.size + 2, i, none⟩ = false := fun i => by rw [World.frozen?_of_block (w := wa) (a := ⟨w1.heap.size + 2, i, none⟩) (k9.block _ (lt_of_cell vA) (show w1.heap.size + 2 < w1.heap.size + 3 by omega))]; exact vfA i
                    have bel9 : Below (w1.heap.size + 1) W w9 := belA.trans ⟨(hgrow.os.trans rfl), (hgrow.tape.trans rfl), (hgrow.output.trans rfl), by omega, fun q hq => k9.block q (by omega) (by omega)⟩
                    obtain ⟨ao9, cap9, rfl⟩ := owns_slice hown9
                    go_wp2_with fail
                    go_roundg j
                    case measure => omega
                    case rel =>
                      refine .inl ⟨n2 + 1, p2, acc ++ [⟨tt, aa, x⟩], _, .slice ao9 (acc.length + 1) cap9, by simp [go_sem, v9], fun i => by simp [go_sem, vf9], (stA.kp k9 (by omega) (fun q e => .inr (by cases e; omega))).off (by simp) (fun q e => .inr (by cases e; simp; omega)) _, by omega, HE, by simp; omega, owns_setCell (by rw [List.length_append]; exact hown9) (by simp), ?_, bel9.setCell (by simp) _⟩
                      refine DC.kp (S := fun q => w1.heap.size + 3 ≤ q ∧ (Value.slice ao9 (acc.length + 1) cap9).ownBlock ≠ some q) ?_ ((Kp.refl _ w9).setCell (.inl (fun hs => by have := hs.1; simp at this; omega)) _) (fun _ _ h => h)
                      have hat' : (Value.slice ao9 (acc.length + 1) cap9).ownBlock = (Value.slice aov acc.length capv).ownBlock ∨ (Value.slice ao9 (acc.length + 1) cap9).ownBlock = some (wa.heap.size + 1) := by simpa using hat
                      rw [HXI.out, HXS.out, HXM.out]
                      refine DC_step (x := ⟨tt, aa, x⟩) (w1 := wa) (g := wa.heap.size + 1) gfc ?_ gzr (by omega) ?_ ?_ (fun q e => ?_) (by omega) hat'
                      · rw [← HXM.out]; exact fovA
                      · exact kpA'.trans (Kp.grown ((Kp.refl _ wa).alloc _) hgrow (fun q e => .inl fun hs => hs.2 e))
                      · exact Kp.grown ((Kp.refl _ wa).alloc _) hgrow (fun q e => .inl fun hs => by have h1 := gown.lt q e; omega)
                      · have := gown.lt q e; omega
                  | false =>
                    have HE : Hid (R = .err (fm l n2) (plc l s.size n2)) := by rw [if_pos hs, hA] at hMain; simp only [hs2, Bool.false_eq_true, if_false] at hMain; exact hMain.symm
                    have hn2 := lt_of_isS hs
                    rw [if_pos hs] at hMain
                    refine (must_yes h3 ⟨#[61]⟩ hs).mono ?_
                    rintro e w4 ⟨rfl, h4, b34⟩
                    have c4 := h4.c4
                    have f4 := h4.fz
                    go_wp2_with fail
                    have h5 := h4.setParts (q := 0) (by omega)
                    rw [show ((0 : Nat) : Int) = 0 from rfl] at h5
                    refine (ok_yes h5).mono ?_
                    rintro e wx ⟨rfl, hwx⟩; obtain rfl := hwx.symm
                    go_wp2_with fail
                    refine (AL _ h5).mono ?_
                    rintro e w6 ⟨vx, rfl, hx, h6, b56⟩
                    obtain ⟨u, rfl, hxf⟩ := hx
                    have hxf' : FoV w6 (fun q => w2.heap.size + 1 ≤ q) u x.kids := hxf.mono fun b o v hs hc => ⟨by have := b34.size; simp [World.setCell] at hs; omega, hc⟩
                    clear hxf
                    obtain ⟨_, yq, yk, rfl, _⟩ := id hxf'
                    obtain ⟨yi, hyi⟩ : ∃ yi, yi = x.op := ⟨_, rfl⟩
                    obtain ⟨ys, hys⟩ : ∃ ys, ys = x.nm := ⟨_, rfl⟩
                    obtain ⟨ym, hym⟩ : ∃ ym, ym = x.kids.len := ⟨_, rfl⟩
                    rw [← hyi, ← hys, ← hym]
                    rw [← hym] at hxf'
                    have HXI := hd hyi
                    have HXS := hd hys
                    have HXM := hd hym
                    clear hyi hys hym
                    have b36 : But (w1.heap.size + 1) w3 w6 := (b34.setCell (p := ⟨w1.heap.size + 1, 4, none⟩) (.inl rfl) _).trans b56
                    have v6 : w6.cell? ⟨w1.heap.size + 2, 0, none⟩ = some (.slice aov acc.length capv) := by rw [b36.cell (lt_of_cell v3) (by omega)]; exact v3
                    have vf6 : ∀ i, w6.frozen? ⟨w1.heap.size + 2, i, none⟩ = false := fun i => by rw [b36.frozen (lt_of_cell v3) (by omega)]; exact vf3 i
                    have t60 : w6.cell? ⟨w2.heap.size, 0, none⟩ = some (.string tt) := by rw [b36.cell (lt_of_cell t30) (by omega)]; exact t30
                    have t61 : w6.cell? ⟨w2.heap.size, 1, none⟩ = some (.int .i64 aa) := by rw [b36.cell (lt_of_cell t31) (by omega)]; exact t31
                    have t62 : w6.cell? ⟨w2.heap.size, 2, none⟩ = some (.int .i64 0) := by rw [b36.cell (lt_of_cell t32) (by omega)]; exact t32
                    have t63 : w6.cell? ⟨w2.heap.size, 3, none⟩ = some (.string ⟨#[]⟩) := by rw [b36.cell (lt_of_cell t33) (by omega)]; exact t33
                    have t64 : w6.cell? ⟨w2.heap.size, 4, none⟩ = some (.slice none 0 0) := by rw [b36.cell (lt_of_cell t34) (by omega)]; exact t34
                    have tf6 : ∀ i, w6.frozen? ⟨w2.heap.size, i, none⟩ = false := fun i => by rw [b36.frozen (lt_of_cell t30) (by omega)]; exact tf3 i
                    obtain ⟨w7, hw7⟩ : ∃ w7, w7 = ((w6.setCell ⟨w2.heap.size, 2, none⟩ (.int .i64 yi)).setCell ⟨w2.heap.size, 3, none⟩ (.string ys)).setCell ⟨w2.heap.size, 4, none⟩ (.slice yq ym yk) := ⟨_, rfl⟩
                    have k67 : Kp (fun q => q ≠ w2.heap.size) w6 w7 := by rw [hw7]; exact (((Kp.refl _ w6).setCell (.inl (by simp)) _).setCell (.inl (by simp)) _).setCell (.inl (by simp)) _
                    have z67 : w7.heap.size = w6.heap.size := by rw [hw7]; simp [World.setCell]
                    have Z67 := hd z67
                    have u0 : w7.cell? ⟨w2.heap.size, 0, none⟩ = some (.string tt) := by rw [hw7]; simp [go_sem, t60]
                    have u1 : w7.cell? ⟨w2.heap.size, 1, none⟩ = some (.int .i64 aa) := by rw [hw7]; simp [go_sem, t61]
                    have u2 : w7.cell? ⟨w2.heap.size, 2, none⟩ = some (.int .i64 yi) := by rw [hw7]; simp [go_sem, t62]
                    have u3 : w7.cell? ⟨w2.heap.size, 3, none⟩ = some (.string ys) := by rw [hw7]; simp [go_sem, t63]
                    have u4 : w7.cell? ⟨w2.heap.size, 4, none⟩ = some (.slice yq ym yk) := by rw [hw7]; simp [go_sem, t64]
                    have uf : ∀ i, w7.frozen? ⟨w2.heap.size, i, none⟩ = false := fun i => by rw [hw7]; simp [go_sem, tf6]
                    have uv : w7.cell? ⟨w1.heap.size + 2, 0, none⟩ = some (.slice aov acc.length capv) := by rw [World.cell?_of_block (w := w6) (a := ⟨w1.heap.size + 2, 0, none⟩) (k67.block _ (lt_of_cell v6) (show w1.heap.size + 2 ≠ w2.heap.size by omega))]; exact v6
                    have uvf : ∀ i, w7.frozen? ⟨w1.heap.size + 2, i, none⟩ = false := fun i => by rw [World.frozen?_of_block (w := w6) (a := ⟨w1.heap.size + 2, i, none⟩) (k67.block _ (lt_of_cell v6) (show w1.heap.size + 2 ≠ w2.heap.size by omega))]; exact vf6 i
                    have h7 : RgS w7 (w1.heap.size + 1) (some ⟨g, 0, none⟩) cap l s.size n2 p2 0 := h6.kp k67 (by omega) (fun q e => .inr (by cases e; omega))
                    go_wp2_with fail
                    rw [← hw7]
                    have b7 : Below (w1.heap.size + 1) w6 w7 := by rw [hw7]; exact (((Below.refl _ w6).setCell (by simp; omega) _).setCell (by simp; omega) _).setCell (by simp; omega) _
                    clear hw7 z67
                    refine (must_no h7 ⟨#[59]⟩ hs2).mono ?_
                    rintro e wa ⟨rfl, stA, b7a⟩
                    have vA : wa.cell? ⟨w1.heap.size + 2, 0, none⟩ = some (.slice aov acc.length capv) := by rw [b7a.cell (lt_of_cell uv) (by omega)]; exact uv
                    have vfA : ∀ i, wa.frozen? ⟨w1.heap.size + 2, i, none⟩ = false := fun i => by rw [b7a.frozen (lt_of_cell uv) (by omega)]; exact uvf i
                    have tA0 : wa.cell? ⟨w2.heap.size, 0, none⟩ = some (.string tt) := by rw [b7a.cell (lt_of_cell u0) (by omega)]; exact u0
                    have tA1 : wa.cell? ⟨w2.heap.size, 1, none⟩ = some (.int .i64 aa) := by rw [b7a.cell (lt_of_cell u0) (by omega)]; exact u1
                    have tA2 : wa.cell? ⟨w2.heap.size, 2, none⟩ = some (.int .i64 yi) := by rw [b7a.cell (lt_of_cell u0) (by omega)]; exact u2
                    have tA3 : wa.cell? ⟨w2.heap.size, 3, none⟩ = some (.string ys) := by rw [b7a.cell (lt_of_cell u0) (by omega)]; exact u3
                    have tA4 : wa.cell? ⟨w2.heap.size, 4, none⟩ = some (.slice yq ym yk) := by rw [b7a.cell (lt_of_cell u0) (by omega)]; exact u4
                    have b26 : But (w1.heap.size + 1) w2 w6 := b23.trans b36
                    have z26 := b26.size
                    have kA : Below (w1.heap.size + 1) w2 wa := ((b26.below (Nat.le_refl _) (by omega)).trans b7).trans (b7a.below (Nat.le_refl _) (by have := Z67.out; omega))
                    have kpA : Kp (fun q => q ≠ w1.heap.size + 1 ∧ q ≠ w2.heap.size) w2 wa := (((⟨b26.size, fun q hq hs => b26.block q hq hs.1⟩ : Kp (fun q => q ≠ w1.heap.size + 1 ∧ q ≠ w2.heap.size) w2 w6).trans ⟨k67.size, fun q hq hs => k67.block q hq hs.2⟩).trans ⟨b7a.size, fun q hq hs => b7a.block q hq hs.1⟩)
                    have belA : Below (w1.heap.size + 1) W wa := gbr.trans kA
                    have hownA : wa.ownsRow (w1.heap.size + 3) 51 5 (.slice aov acc.length capv) acc.length xs := owns_kp gown kpA (fun q h h' => by omega)
                    have zA : w2.heap.size < wa.heap.size := lt_of_cell tA0
                    go_wp2_with (first | (at_builtin; go_must (refine wpList_append_own_at _ rfl _ _ 32 rfl (w1.heap.size + 3) 51 i0 (.agg #[.string ⟨#[]⟩, .int .i64 0, .int .i64 0, .string ⟨#[]⟩, .slice none 0 0]) 5 72 Try.underlying32 hi iz0 iz1 iz2 rfl (by decide) _ _ _ rfl (hownA.alloc _) ⟨wa.heap.size, 0, none⟩ 1 1 [.string tt, .int .i64 aa, .int .i64 yi, .string ys, .slice yq ym yk] rfl rfl (cell5_new wa _ _ _ _ _ _) (oneD _ _ _ _ _ _ _) (by unfold maxLen; omega) (by omega) (by simp; omega) ?_)))
                    intro v' w9 hown9 hgrow _ hat
                    have z9 := hgrow.size
                    simp at z9
                    have hvl : ∀ q, (Value.slice aov acc.length capv).ownBlock = some q → w1.heap.size + 3 ≤ q ∧ q < wa.heap.size := fun q e => hownA.lt q e
                    have k9 : Kp (fun q => q < w1.heap.size + 3) wa w9 := Kp.grown ((Kp.refl _ wa).alloc _) hgrow (fun q e => .inl (by have := (hvl q e).1; omega))
                    have v9 : w9.cell? ⟨w1.heap.size + 2, 0, none⟩ = some (.slice aov acc.length capv) := by rw [World.cell?_of_block (w := wa) (a := ⟨w1.heap.size + 2, 0, none⟩) (k9.block _ (lt_of_cell vA) (show w1.heap.size + 2 < w1.heap.size + 3 by omega))]; exact vA
                    have vf9 : ∀ i, w9.frozen? ⟨w1.heap.size + 2, i, none⟩ = false := fun i => by rw [World.frozen?_of_block (w := wa) (a := ⟨w1.heap.size + 2, i, none⟩) (k9.block _ (lt_of_cell vA) (show w1.heap.size + 2 < w1.heap.size + 3 by omega))]; exact vfA i
                    have bel9 : Below (w1.heap.size + 1) W w9 := belA.trans ⟨(hgrow.os.trans rfl), (hgrow.tape.trans rfl), (hgrow.output.trans rfl), by omega, fun q hq => k9.block q (by omega) (by omega)⟩
                    obtain ⟨ao9, cap9, rfl⟩ := owns_slice hown9
                    go_wp2_with fail
                    go_roundg j
                    case measure => omega
                    case rel =>
                      exact .inr ⟨_, _, HE.out, (stA.kp k9 (by omega)).off (by simp) _, bel9.setCell (by simp) _⟩
            · have hMain : R = .err (fm l n') (plc l s.size n') := by rw [← hEE]; simp only [defn, if_neg hk]
              have hkB : (knd l n' != 1) = true := by simpa using hk
              generalize knd l n' = kk at *
              subst hMain
              have WR := fun m => wrong_form (h1.drew_ m)
              by_cases hn : n' < l.length
              · skip
                go_wp2_with fail
                refine OK.mono ?_
                rintro e wx ⟨rfl, hwx⟩; obtain rfl := hwx.symm
                go_wp2_with fail
                refine KI.mono ?_
                rintro e w2 ⟨rfl, m1, rfl⟩
                go_wp2_with fail
                refine (WR m1).mono ?_
                rintro e w2 ⟨rfl, h2, hb2⟩
                have hbr2 : Below (w1.heap.size + 1) W w2 := (below_drewN0 hbr m1).trans (hb2.below (Nat.le_refl _) (by simp; omega))
                clear o0 o1 o2 of0 of1 bel
                have o0 : w2.cell? ⟨w.heap.size, 0, none⟩ = some (.slice none 0 0) := by rw [hbr2.cell (p := ⟨w.heap.size, 0, none⟩) (by simp; omega)]; exact hWc.1
                have o1 : w2.cell? ⟨w.heap.size + 1, 0, none⟩ = some (.int .i64 0) := by rw [hbr2.cell (p := ⟨w.heap.size + 1, 0, none⟩) (by simp; omega)]; exact hWc.2.1
                have o2 : w2.cell? ⟨w.heap.size + 1, 1, none⟩ = some (.int .i64 0) := by rw [hbr2.cell (p := ⟨w.heap.size + 1, 1, none⟩) (by simp; omega)]; exact hWc.2.2.1
                have of0 : ∀ i, w2.frozen? ⟨w.heap.size, i, none⟩ = false := fun i => by rw [hbr2.frozen (p := ⟨w.heap.size, i, none⟩) (by simp; omega)]; exact hWc.2.2.2.1 i
                have of1 : ∀ i, w2.frozen? ⟨w.heap.size + 1, i, none⟩ = false := fun i => by rw [hbr2.frozen (p := ⟨w.heap.size + 1, i, none⟩) (by simp; omega)]; exact hWc.2.2.2.2 i
                have bel : Below w.heap.size w w2 := hWb.trans (hbr2.mono (by omega))
                go_wp2_with fail
                have g5 := h2.c5
                have g6 := h2.c6
                refine (ok_no h2).mono ?_
                rintro e wx ⟨rfl, hwx⟩; obtain rfl := hwx.symm
                go_wp2_with fail
                go_region
                all_goals
                  go_wp2_with fail
                  refine bodyPost_ret (v := .tuple #[.agg #[.slice none 0 0], .agg #[.int .i64 (fm l n'), .int .i64 (plc l s.size n')]]) (by simp [results, Try.results18, go_sem, o0, o1, o2]) rfl ⟨rfl, ?_⟩
                  exact Below.drew (((bel.setCell (by simp) _).setCell (by simp) _).setCell (by simp) _)

              · have hac := hgo.resolve_left hn
                subst hac
                rw [List.length_nil] at hv
                go_wp2_with fail
                refine OK.mono ?_
                rintro e wx ⟨rfl, hwx⟩; obtain rfl := hwx.symm
                go_wp2_with fail
                refine KI.mono ?_
                rintro e w2 ⟨rfl, m1, rfl⟩
                go_wp2_with fail
                refine (WR m1).mono ?_
                rintro e w2 ⟨rfl, h2, hb2⟩
                have hbr2 : Below (w1.heap.size + 1) W w2 := (below_drewN0 hbr m1).trans (hb2.below (Nat.le_refl _) (by simp; omega))
                clear o0 o1 o2 of0 of1 bel
                have o0 : w2.cell? ⟨w.heap.size, 0, none⟩ = some (.slice none 0 0) := by rw [hbr2.cell (p := ⟨w.heap.size, 0, none⟩) (by simp; omega)]; exact hWc.1
                have o1 : w2.cell? ⟨w.heap.size + 1, 0, none⟩ = some (.int .i64 0) := by rw [hbr2.cell (p := ⟨w.heap.size + 1, 0, none⟩) (by simp; omega)]; exact hWc.2.1
                have o2 : w2.cell? ⟨w.heap.size + 1, 1, none⟩ = some (.int .i64 0) := by rw [hbr2.cell (p := ⟨w.heap.size + 1, 1, none⟩) (by simp; omega)]; exact hWc.2.2.1
                have of0 : ∀ i, w2.frozen? ⟨w.heap.size, i, none⟩ = false := fun i => by rw [hbr2.frozen (p := ⟨w.heap.size, i, none⟩) (by simp; omega)]; exact hWc.2.2.2.1 i
                have of1 : ∀ i, w2.frozen? ⟨w.heap.size + 1, i, none⟩ = false := fun i => by rw [hbr2.frozen (p := ⟨w.heap.size + 1, i, none⟩) (by simp; omega)]; exact hWc.2.2.2.2 i
                have bel : Below w.heap.size w w2 := hWb.trans (hbr2.mono (by omega))
                go_wp2_with fail
                have g5 := h2.c5
                have g6 := h2.c6
                refine (ok_no h2).mono ?_
                rintro e wx ⟨rfl, hwx⟩; obtain rfl := hwx.symm
                go_wp2_with fail
                go_region
                all_goals
                  go_wp2_with fail
                  refine bodyPost_ret (v := .tuple #[.agg #[.slice none 0 0], .agg #[.int .i64 (fm l n'), .int .i64 (plc l s.size n')]]) (by simp [results, Try.results18, go_sem, o0, o1, o2]) rfl ⟨rfl, ?_⟩
                  exact Below.drew (((bel.setCell (by simp) _).setCell (by simp) _).setCell (by simp) _)

        · rw [if_neg hgo] at hEE
          have hn : ¬ n' < l.length := fun h => hgo (.inl h)
          have hac : acc ≠ [] := fun h => hgo (.inr h)
          have hacl : 1 ≤ acc.length := List.length_pos_iff.2 hac
          have hacB : ((acc.length : Int) == 0) = false := by simp; omega
          subst hEE
          go_wp2_with fail
          refine OK.mono ?_
          rintro e wx ⟨rfl, hwx⟩; obtain rfl := hwx.symm
          go_wp2_with fail
          refine OK.mono ?_
          rintro e wx ⟨rfl, hwx⟩; obtain rfl := hwx.symm
          go_wp2_with fail
          refine bodyPost_ret (v := .tuple #[.agg #[.slice aov acc.length capv], .agg #[.int .i64 0, .int .i64 0]]) (by simp [results, Try.results18, go_sem, o0, o1, o2]) rfl ⟨_, rfl, ?_, ?_⟩
          · exact DsV_owned (owns_setCell (owns_setCell (owns_setCell hown (by simp; omega)) (by simp; omega)) (by simp; omega)) (hfc.kp (T := fun q => w.heap.size ≤ q) ((((Kp.refl _ wr).setCell (.inl (fun hs => by have := hs.1; simp at this; omega)) _).setCell (.inl (fun hs => by have := hs.1; simp at this; omega)) _).setCell (.inl (fun hs => by have := hs.1; simp at this; omega)) _) (fun k _ h => by omega)) (fun _ h => h) (fun k h => by omega) (by omega)
          · exact ((bel.setCell (by simp) _).setCell (by simp) _).setCell (by simp) _
      · have hzr := hbr.size
        rw [hWz] at hzr
        have hEE := hE.out
        subst hEE
        clear hE HR
        have OK := ok_no h1
        have o0 : wr.cell? ⟨w.heap.size, 0, none⟩ = some (.slice none 0 0) := by rw [hbr.cell (p := ⟨w.heap.size, 0, none⟩) (by simp; omega)]; exact hWc.1
        have o1 : wr.cell? ⟨w.heap.size + 1, 0, none⟩ = some (.int .i64 0) := by rw [hbr.cell (p := ⟨w.heap.size + 1, 0, none⟩) (by simp; omega)]; exact hWc.2.1
        have o2 : wr.cell? ⟨w.heap.size + 1, 1, none⟩ = some (.int .i64 0) := by rw [hbr.cell (p := ⟨w.heap.size + 1, 1, none⟩) (by simp; omega)]; exact hWc.2.2.1
        have of0 : ∀ i, wr.frozen? ⟨w.heap.size, i, none⟩ = false := fun i => by rw [hbr.frozen (p := ⟨w.heap.size, i, none⟩) (by simp; omega)]; exact hWc.2.2.2.1 i
        have of1 : ∀ i, wr.frozen? ⟨w.heap.size + 1, i, none⟩ = false := fun i => by rw [hbr.frozen (p := ⟨w.heap.size + 1, i, none⟩) (by simp; omega)]; exact hWc.2.2.2.2 i
        have bel : Below w.heap.size w wr := hWb.trans (hbr.mono (by omega))
        go_wp2_with fail
        refine OK.mono ?_
        rintro e wx ⟨rfl, hwx⟩; obtain rfl := hwx.symm
        go_wp2_with fail
        have g5 := h1.c5
        have g6 := h1.c6
        refine (ok_no h1).mono ?_
        rintro e wx ⟨rfl, hwx⟩; obtain rfl := hwx.symm
        go_wp2_with fail
        go_region
        all_goals
          go_wp2_with fail
          refine bodyPost_ret (v := .tuple #[.agg #[.slice none 0 0], .agg #[.int .i64 c, .int .i64 a']]) (by simp [results, Try.results18, go_sem, o0, o1, o2]) rfl ⟨rfl, ?_⟩
          exact Below.drew (((bel.setCell (by simp) _).setCell (by simp) _).setCell (by simp) _)

end Go.Proofs.Ythbbfddclhcoaaa
