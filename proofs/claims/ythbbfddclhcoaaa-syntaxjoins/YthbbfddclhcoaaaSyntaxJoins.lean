/- Proved: for every two texts SyntaxJoins returns true (one text behind the other, a line between, is parsed as both are), and both texts read as before. No condition. -/
import Derived.Test.YthbbfddclhcoaaaSBegun
import Derived.Test.YthbbfddclhcoaaaJLaw
import Derived.Test.YthbbfddclhcoaaaSt
import Derived.Test.YthbbfddclhcoaaaGreat
import Derived.Test.YthbbfddclhcoaaaRows
import Derived.ProofKit
import Derived.OpenShut
import Derived.ShutString
import Derived.SizedLaws
import Derived.Deep.RegionLaw
import Derived.Maps.AppendAt
namespace Go.Proofs.Ythbbfddclhcoaaa.syntaxJoins
open Go.Proofs.Ythbbfddclhcoaaa
open Go.ChangeShapes Go.WideShapes Go.ChangeAt Go.RowKit
open Go.ChangeMaps (open_string shut_string)

theorem own : ownKnob Try.prog.godebug = none := by kernel_rfl

theorem scan_len (s : ByteArray) : (scan s).1.length ≤ 6000 := by
  unfold scan
  split
  · simp
  · unfold fin
    have := st_len s s.size
    split
    · simp
    · show (st s s.size).1.length ≤ 6000; omega

theorem step_append_own {P : Program} {ops : Array Oper} {o : Oper} {a : Act} {w : World} {K : Act → World → Prop} {Q : Exit → Act → World → Prop} {E : Prop}
    (hg : o.guard = none) (s x : Operand) (t : TypeId) (hop : o.op = Op.call { callee := Callee.builtin Builtin.append, args := #[s, x], argTypes := #[t, t] })
    (base : Nat) (e : TypeId) (i : TypeInfo) (z : Value) (size bytes : Nat) (h1 : P.underlying t = some (.slice e)) (h2 : P.info? e = some i) (h3 : i.zero = some z) (h4 : i.size = size) (h5 : i.bytes = bytes) (h6 : z.cells.size = size) (h7 : 0 < size)
    (v : Value) (n : Nat) (xs : List Value) (hs : a.eval s = v) (hown : w.ownsRow base e size v n xs)
    (ad : Addr) (m c : Nat) (news : List Value) (hx : a.eval x = .slice (some ad) m c) (hn : news.length = m * size) (hc : ∀ j u, news[j]? = some u → w.cell? (ad.add j) = some u) (h1c : ∀ u ∈ news, u.oneCell' = true)
    (b1 : n + m ≤ maxLen) (b2 : (n + m) * bytes ≤ 140737488355328) (hbase : base ≤ w.heap.size)
    (hK : ∀ v' w', w'.ownsRow base e size v' (n + m) (xs ++ news) → w.grownBy w' v.ownBlock → K (a.put o.dst v') w') :
    if Region.wanted o (yielded ops a.tmps) = true then Oper.wp P o a w K Q else E := by
  have hw : Region.wanted o (yielded ops a.tmps) = true := by simp [Region.wanted, hg]
  rw [if_pos hw]
  obtain ⟨v', w', hrun, r1, r2, _⟩ := run_append_own_at (P := P) w base t o.type e i z size bytes h1 h2 h3 h4 h5 h6 h7 v n xs hown ad m c news hn hc h1c b1 b2 hbase
  unfold Oper.wp
  simp [execOp, hop, resolve, invoke, builtin, hs, hx, hrun, Result.andThen]
  exact hK v' w' r1 r2
theorem owns_form {w : World} {base : Nat} {e : TypeId} {size : Nat} {v : Value} {n : Nat} {xs : List Value} (h : w.ownsRow base e size v n xs) (hn : 0 < n) : ∃ g cap, v = .slice (some ⟨g, 0, none⟩) n cap ∧ base ≤ g := by
  obtain ⟨_, h2 | ⟨g, cap, cur, e1, e2, _⟩⟩ := h
  · omega
  · exact ⟨g, cap, e1, e2⟩
theorem addr_add (b o j : Nat) : (⟨b, o, none⟩ : Addr).add j = ⟨b, o + j, none⟩ := by
  by_cases h : j = 0
  · subst h; simp [Addr.add]
  · simp [Addr.add, h]
theorem smB_sh (d : Int) (ds es : List Df) : smB false (ds ++ es.map (Df.sh d)) (ds ++ es) = true := by
  simp [smB, kk, Df.sh, Function.comp_def]

set_option maxRecDepth 100000 in
set_option maxHeartbeats 4000000 in
theorem walk (a b : ByteArray) (ha : a.size ≤ 281474976710656) (hb : b.size ≤ 281474976710656) (w : World) :
    Calls Try.prog 7 #[.string a, .string b] w fun e w' => e = .returned (.bool true) ∧ Below w.heap.size w w' := by
  by_cases h2 : 5999 < a.size + b.size
  · have h3 : (5999 : Int) < (a.size : Int) + (b.size : Int) := by omega
    go_enter Try.func7, Try.ntmps7
    go_wp2_with fail
    refine (sbegun_any _).mono ?_
    rintro e w1 ⟨rfl, hb⟩
    go_wp2_with fail
    go_ret
    exact ⟨rfl, hb⟩
  · have h3 : ¬ (5999 : Int) < (a.size : Int) + (b.size : Int) := by omega
    have A := fun w => parse_u a w (by omega) (scan_len a)
    have B := fun w => parse_u b w (by omega) (scan_len b)
    go_enter Try.func7, Try.ntmps7
    go_wp2_with fail
    refine (sbegun_any _).mono ?_
    rintro e w1 ⟨rfl, hb1⟩
    have z1 := hb1.size
    go_wp2_with fail
    refine (A _).mono ?_
    rintro e w2 ⟨q, m, k, rfl, oa, da, hb2⟩
    have z2 := hb2.size
    go_wp2_with fail
    refine (B _).mono ?_
    rintro e w3 ⟨q', m', k', rfl, ob, db, hb3⟩
    have z3 := hb3.size
    simp at z3
    go_wp2_with fail
    obtain ⟨s, hS⟩ : ∃ s, s = a ++ ⟨#[10]⟩ ++ b := ⟨_, rfl⟩
    have j : Jn a b s := ⟨by rw [hS]; simp [bys]⟩
    rw [← hS]
    clear hS
    have js := j.size
    have C := fun w => parse_u s w (by omega) (scan_len s)
    have L1 := j.law1 (by omega) oa
    have L2 := j.law2 (by omega) oa ob
    have L3 := j.law3 (by omega) oa ob
    refine (C _).mono ?_
    rintro e w4 ⟨q2, m2, k2, rfl, os, dc, hb4⟩
    have z4 := hb4.size
    simp at z4
    generalize parse a = ra at *
    generalize parse b = rb at *
    generalize parse s = rs at *
    obtain ⟨fc, hfc⟩ : ∃ x, x = cd ra := ⟨_, rfl⟩
    obtain ⟨fp, hfp⟩ : ∃ x, x = pt ra := ⟨_, rfl⟩
    obtain ⟨gc, hgc⟩ : ∃ x, x = cd rb := ⟨_, rfl⟩
    obtain ⟨gp, hgp⟩ : ∃ x, x = pt rb := ⟨_, rfl⟩
    obtain ⟨hc, hhc⟩ : ∃ x, x = cd rs := ⟨_, rfl⟩
    obtain ⟨hp, hhp⟩ : ∃ x, x = pt rs := ⟨_, rfl⟩
    rw [← hfc, ← hfp, ← hgc, ← hhc, ← hhp] at L1
    rw [← hfc, ← hgc, ← hhc] at L2
    rw [← hfc, ← hgc, ← hhc] at L3
    rw [← hfc, ← hfp] at hb3
    rw [← hgc, ← hgp] at hb4
    rw [← hhc, ← hhp]
    have b23 : Below w2.heap.size w2 w3 := (((Below.refl _ _).alloc (Nat.le_refl _) _).alloc (by simp) _).trans (hb3.mono (by simp; omega))
    have b34 : Below w3.heap.size w3 w4 := (((Below.refl _ _).alloc (Nat.le_refl _) _).alloc (by simp) _).trans (hb4.mono (by simp; omega))
    have bel : Below w.heap.size w w4 := (hb1.trans (hb2.mono z1)).trans ((b23.mono (by omega)).trans (b34.mono (by omega)))
    have e0 : w3.cell? ⟨w2.heap.size, 0, none⟩ = some (.slice q m k) := by rw [hb3.cell (p := ⟨w2.heap.size, 0, none⟩) (by simp; omega)]; simp
    have e1 : w3.cell? ⟨w2.heap.size + 1, 0, none⟩ = some (.int .i64 fc) := by rw [hb3.cell (p := ⟨w2.heap.size + 1, 0, none⟩) (by simp)]; simp
    have e2 : w3.cell? ⟨w2.heap.size + 1, 1, none⟩ = some (.int .i64 fp) := by rw [hb3.cell (p := ⟨w2.heap.size + 1, 1, none⟩) (by simp)]; simp
    have f0 : w4.cell? ⟨w2.heap.size, 0, none⟩ = some (.slice q m k) := by rw [b34.cell (p := ⟨w2.heap.size, 0, none⟩) (lt_of_cell e0)]; exact e0
    have f1 : w4.cell? ⟨w2.heap.size + 1, 0, none⟩ = some (.int .i64 fc) := by rw [b34.cell (p := ⟨w2.heap.size + 1, 0, none⟩) (lt_of_cell e1)]; exact e1
    have f2 : w4.cell? ⟨w2.heap.size + 1, 1, none⟩ = some (.int .i64 fp) := by rw [b34.cell (p := ⟨w2.heap.size + 1, 1, none⟩) (lt_of_cell e1)]; exact e2
    have g0 : w4.cell? ⟨w3.heap.size, 0, none⟩ = some (.slice q' m' k') := by rw [hb4.cell (p := ⟨w3.heap.size, 0, none⟩) (by simp; omega)]; simp
    have g1 : w4.cell? ⟨w3.heap.size + 1, 0, none⟩ = some (.int .i64 gc) := by rw [hb4.cell (p := ⟨w3.heap.size + 1, 0, none⟩) (by simp)]; simp
    have g2 : w4.cell? ⟨w3.heap.size + 1, 1, none⟩ = some (.int .i64 gp) := by rw [hb4.cell (p := ⟨w3.heap.size + 1, 1, none⟩) (by simp)]; simp
    have lf0 := lt_of_cell f0
    have lf1 := lt_of_cell f1
    have lg0 := lt_of_cell g0
    have lg1 := lt_of_cell g1
    obtain ⟨W, hW⟩ : ∃ W, W = (w4.alloc (.cells #[.slice q2 m2 k2] 34)).alloc (.cells #[.int .i64 hc, .int .i64 hp] 25) := ⟨_, rfl⟩
    have Wz : W.heap.size = w4.heap.size + 2 := by rw [hW]; simp
    have W4 : Below w4.heap.size w4 W := by rw [hW]; exact ((Below.refl _ _).alloc (Nat.le_refl _) _).alloc (by simp) _
    have belW : Below w.heap.size w W := bel.trans (W4.mono (by omega))
    have F0 : W.cell? ⟨w2.heap.size, 0, none⟩ = some (.slice q m k) := by rw [W4.cell (p := ⟨w2.heap.size, 0, none⟩) lf0]; exact f0
    have F1 : W.cell? ⟨w2.heap.size + 1, 0, none⟩ = some (.int .i64 fc) := by rw [W4.cell (p := ⟨w2.heap.size + 1, 0, none⟩) lf1]; exact f1
    have F2 : W.cell? ⟨w2.heap.size + 1, 1, none⟩ = some (.int .i64 fp) := by rw [W4.cell (p := ⟨w2.heap.size + 1, 1, none⟩) lf1]; exact f2
    have G0 : W.cell? ⟨w3.heap.size, 0, none⟩ = some (.slice q' m' k') := by rw [W4.cell (p := ⟨w3.heap.size, 0, none⟩) lg0]; exact g0
    have G1 : W.cell? ⟨w3.heap.size + 1, 0, none⟩ = some (.int .i64 gc) := by rw [W4.cell (p := ⟨w3.heap.size + 1, 0, none⟩) lg1]; exact g1
    have G2 : W.cell? ⟨w3.heap.size + 1, 1, none⟩ = some (.int .i64 gp) := by rw [W4.cell (p := ⟨w3.heap.size + 1, 1, none⟩) lg1]; exact g2
    have H0 : W.cell? ⟨w4.heap.size, 0, none⟩ = some (.slice q2 m2 k2) := by rw [hW]; simp
    have H1 : W.cell? ⟨w4.heap.size + 1, 0, none⟩ = some (.int .i64 hc) := by rw [hW]; simp
    have H2 : W.cell? ⟨w4.heap.size + 1, 1, none⟩ = some (.int .i64 hp) := by rw [hW]; simp
    have DA : ∀ ds x y, ra = .ok ds x y → DsV W All (.slice q m k) ds := fun ds x y h => ((da ds x y h).below (b23.trans (b34.mono (by omega)))).below W4
    have DB : ∀ ds x y, rb = .ok ds x y → DsV W All (.slice q' m' k') ds := fun ds x y h => ((db ds x y h).below b34).below W4
    have DS : ∀ ds x y, rs = .ok ds x y → DsV W All (.slice q2 m2 k2) ds := fun ds x y h => (dc ds x y h).below W4
    clear e0 e1 e2 f0 f1 f2 g0 g1 g2 da db dc A B C hb1 hb2 hb3 hb4 b23 b34 bel hfc hfp hgc hgp hhc hhp j js oa ob os
    by_cases c0 : fc = 0
    rotate_left
    · have b0 : (fc != 0) = true := by simpa using c0
      have L := L1 c0
      clear L1 L2 L3 DA DB DS
      subst hW
      by_cases c1 : (a.size : Int) ≤ fp
      · go_wp2_with fail
        go_ret
        exact ⟨ret_bool (by simp), belW⟩
      · by_cases c2 : fc = 1
        · subst c2
          go_wp2_with fail
          go_ret
          exact ⟨ret_bool (by simp), belW⟩
        · by_cases c3 : gc = 1
          · subst c3
            go_wp2_with fail
            go_ret
            exact ⟨ret_bool (by simp), belW⟩
          · by_cases c4 : gc = 2
            · subst c4
              go_wp2_with fail
              go_ret
              exact ⟨ret_bool (by simp), belW⟩
            · obtain ⟨rfl, rfl⟩ : hc = fc ∧ hp = fp := by
                rcases L with h | h | h | h
                · exact absurd h c1
                · exact absurd h c3
                · exact absurd h c4
                · exact h
              clear L
              go_wp2_with fail
              go_ret
              exact ⟨ret_bool (by simp), belW⟩
    · subst c0
      by_cases c1 : gc = 0
      rotate_left
      · have b0 : (gc != 0) = true := by simpa using c1
        have L := L2 rfl c1
        clear L1 L2 L3 DA DB DS
        subst hW
        by_cases c2 : hc = 0
        · obtain rfl : gc = 4 := by
            rcases L with h | h
            · exact absurd c2 h
            · exact h
          subst c2
          go_wp2_with fail
          go_ret
          exact ⟨ret_bool (by simp), belW⟩
        · have b2 : (hc != 0) = true := by simpa using c2
          go_wp2_with fail
          go_ret
          exact ⟨ret_bool (by simp), belW⟩
      · subst c1
        obtain ⟨ds, es, x, y, x', y', ea, eb, n1, n2, n3, n4, L16, L⟩ := L3 rfl rfl
        have da := DA _ _ _ ea
        have db := DB _ _ _ eb
        clear L1 L2 L3 DA DB ea eb
        have la : m = ds.length := by obtain ⟨_, _, _, h, _⟩ := da; cases h; rfl
        have lb : m' = es.length := by obtain ⟨_, _, _, h, _⟩ := db; cases h; rfl
        subst la lb
        by_cases c2 : 16 < ds.length + es.length
        · have b2 : (16 : Int) < (ds.length : Int) + (es.length : Int) := by omega
          have b3 := L16 c2
          clear L L16 DS da db
          subst b3
          subst hW
          go_wp2_with fail
          go_ret
          exact ⟨ret_bool (by simp), belW⟩
        · have b2 : ¬ (16 : Int) < (ds.length : Int) + (es.length : Int) := by omega
          obtain ⟨c3, x, y, es'⟩ := L (by omega)
          have ds' := DS _ _ _ es'
          clear L L16 DS es'
          subst c3
          have lt_ : ∀ {v f}, DsV W All v f → DsV W (fun k => k < W.heap.size) v f := fun h => h.mono fun b o v _ h => ⟨lt_of_cell h, h⟩
          have da := lt_ da
          have db := lt_ db
          have ds' := lt_ ds'
          obtain ⟨X, hX⟩ : ∃ X, X = W.alloc (.cells #[.slice none 0 0] 34) := ⟨_, rfl⟩
          have Xz : X.heap.size = W.heap.size + 1 := by rw [hX]; simp
          have WX : Below W.heap.size W X := by rw [hX]; exact (Below.refl _ _).alloc (Nat.le_refl _) _
          have belX : Below w.heap.size w X := belW.trans (WX.mono belW.size)
          have C0 : X.cell? ⟨w2.heap.size, 0, none⟩ = some (.slice q ds.length k) := by rw [WX.cell (p := ⟨w2.heap.size, 0, none⟩) (lt_of_cell F0)]; exact F0
          have C1 : X.cell? ⟨w3.heap.size, 0, none⟩ = some (.slice q' es.length k') := by rw [WX.cell (p := ⟨w3.heap.size, 0, none⟩) (lt_of_cell G0)]; exact G0
          have C2 : X.cell? ⟨w4.heap.size, 0, none⟩ = some (.slice q2 m2 k2) := by rw [WX.cell (p := ⟨w4.heap.size, 0, none⟩) (lt_of_cell H0)]; exact H0
          have C3 : X.cell? ⟨w4.heap.size + 1, 0, none⟩ = some (.int .i64 0) := by rw [WX.cell (p := ⟨w4.heap.size + 1, 0, none⟩) (lt_of_cell H1)]; exact H1
          have CX : X.cell? ⟨W.heap.size, 0, none⟩ = some (.slice none 0 0) := by rw [hX]; simp
          have FX : X.frozen? ⟨W.heap.size, 0, none⟩ = false := by rw [hX]; simp
          rw [Wz] at CX FX Xz WX da db ds'
          have dxa := da.kp (T := fun k => k < w4.heap.size + 2) (Kp.of_below (by rw [Wz]; exact WX)) (fun _ _ h => h)
          have dxb := db.kp (T := fun k => k < w4.heap.size + 2) (Kp.of_below (by rw [Wz]; exact WX)) (fun _ _ h => h)
          have dxs := ds'.kp (T := fun k => k < w4.heap.size + 2) (Kp.of_below (by rw [Wz]; exact WX)) (fun _ _ h => h)
          have HX := hd hX
          clear hX
          obtain ⟨i0, hi, iz0, iz1, iz2⟩ := info_parts Try.infoDef
          obtain ⟨_, _, _, hq, hin⟩ := dxa
          cases hq
          obtain hin | ⟨pb, po, hq, hin⟩ := hin
          · omega
          cases hq
          obtain ⟨xs, x1, x2, x3, x4⟩ := hin.cells
          obtain ⟨_, _, _, hq, hin2⟩ := dxb
          clear da db ds'
          cases hq
          obtain hin2 | ⟨qb, qo, hq, hin2⟩ := hin2
          · omega
          cases hq
          obtain ⟨ys, y1, y2, y3, y4⟩ := hin2.cells
          clear hin hin2
          have XA : ∀ j u, xs[j]? = some u → X.drew.cell? ((⟨pb, po, none⟩ : Addr).add j) = some u := fun j u h => by rw [addr_add]; exact x4 j u h
          have YA : ∀ w', Below X.heap.size X w' → ∀ j u, ys[j]? = some u → w'.cell? ((⟨qb, qo, none⟩ : Addr).add j) = some u := fun w' hb j u h => by
            have h4 := y4 j u h
            have := (hb.cell (p := ⟨qb, qo + j, none⟩) (lt_of_cell h4)).trans h4
            rw [addr_add]; exact this
          have z0 : X.heap.size ≤ X.drew.heap.size := Nat.le_refl _
          subst hW
          go_wp2_with fail
          rw [← (show X = _ from HX)]
          clear HX F0 F1 F2 G0 G1 G2 H0 H1 H2 Wz W4 belW lt_
          go_region_law
            (first
              | (refine step_append_own rfl (.tmp 89) (.tmp 91) 32 rfl X.heap.size 51 i0 (.agg #[.string ⟨#[]⟩, .int .i64 0, .int .i64 0, .string ⟨#[]⟩, .slice none 0 0]) 5 72 Try.underlying32 hi iz0 iz1 iz2 rfl (by decide) (.slice none 0 0) 0 [] (by simp [Act.eval]) (World.ownsRow_nil _ _ _ _) ⟨pb, po, none⟩ ds.length k xs (by simp [Act.eval]) x2 XA x3 (by unfold maxLen; omega) (by omega) z0 ?_; intro v1 w5 own1 grow1; rw [Nat.zero_add, List.nil_append] at own1; have bl5 : Below X.heap.size X w5 := ⟨grow1.os, grow1.tape, grow1.output, grow1.size, fun k hk => grow1.block k hk (by simp [Value.ownBlock])⟩; have u5 : w5.cell? ⟨w3.heap.size, 0, none⟩ = some (.slice (some ⟨qb, qo, none⟩) es.length k') := (bl5.cell (p := ⟨w3.heap.size, 0, none⟩) (lt_of_cell C1)).trans C1; have bt5 : But (w4.heap.size + 2) X w5 := But.of_below bl5; obtain ⟨g1, cap1, rfl, lg1'⟩ := owns_form own1 (by omega))
              | (refine step_append_own rfl (.tmp 92) (.tmp 94) 32 rfl X.heap.size 51 i0 (.agg #[.string ⟨#[]⟩, .int .i64 0, .int .i64 0, .string ⟨#[]⟩, .slice none 0 0]) 5 72 Try.underlying32 hi iz0 iz1 iz2 rfl (by decide) (.slice (some ⟨g1, 0, none⟩) ds.length cap1) ds.length xs (by simp [Act.eval]) own1 ⟨qb, qo, none⟩ es.length k' ys (by simp [Act.eval]) y2 (YA _ bl5) y3 (by unfold maxLen; omega) (by omega) bl5.size ?_; intro v2 w6 own2 grow2; have bl6 : Below X.heap.size X w6 := bl5.trans ⟨grow2.os, grow2.tape, grow2.output, grow2.size, fun k hk => grow2.block k (Nat.lt_of_lt_of_le hk bl5.size) (by simp [Value.ownBlock]; omega)⟩; have bt6 : But (w4.heap.size + 2) X w6 := But.of_below bl6; have c6 : w6.cell? ⟨w4.heap.size + 2, 0, none⟩ = some (.slice none 0 0) := (bl6.cell (p := ⟨w4.heap.size + 2, 0, none⟩) (lt_of_cell CX)).trans CX; have fz6 : w6.frozen? ⟨w4.heap.size + 2, 0, none⟩ = false := (World.frozen?_of_block (a := ⟨w4.heap.size + 2, 0, none⟩) (bl6.block _ (lt_of_cell CX))).trans FX; obtain ⟨g2, cap2, rfl, lg2'⟩ := owns_form own2 (by omega)))
          all_goals
            obtain ⟨Z, hZ⟩ : ∃ Z, Z = w6.setCell ⟨w4.heap.size + 2, 0, none⟩ (.slice (some ⟨g2, 0, none⟩) (ds.length + es.length) cap2) := ⟨_, rfl⟩
            rw [← hZ]
            have bt7 : But (w4.heap.size + 2) X Z := by rw [hZ]; exact bt6.setCell (.inl rfl) _
            have own7 : Z.ownsRow X.heap.size 51 5 (.slice (some ⟨g2, 0, none⟩) (ds.length + es.length) cap2) (ds.length + es.length) (xs ++ ys) := by rw [hZ]; exact owns_setCell own2 (by show w4.heap.size + 2 < X.heap.size; omega)
            have kz2 : Z.cell? ⟨w4.heap.size, 0, none⟩ = some (.slice q2 m2 k2) := by rw [bt7.cell (lt_of_cell C2) (by omega)]; exact C2
            have kz3 : Z.cell? ⟨w4.heap.size + 1, 0, none⟩ = some (.int .i64 0) := by rw [bt7.cell (lt_of_cell C3) (by omega)]; exact C3
            have kz4 : Z.cell? ⟨w4.heap.size + 2, 0, none⟩ = some (.slice (some ⟨g2, 0, none⟩) (ds.length + es.length) cap2) := by rw [hZ]; exact World.cell?_setCell_same _ _ _ c6
            have kp7 : Kp (fun k => k < w4.heap.size + 2) X Z := Kp.of_but bt7 (by omega)
            have dz1 : DsV Z All (.slice q2 m2 k2) (ds ++ es.map (Df.sh ((a.size + 1 : Nat) : Int))) := dxs.kp kp7 (fun _ _ _ => trivial)
            have dz2 : DsV Z All (.slice (some ⟨g2, 0, none⟩) (ds.length + es.length) cap2) (ds ++ es) := DsV_owned (S := fun k => k < w4.heap.size + 2) (base := X.heap.size) (e := 51) (by rw [List.length_append]; exact own7) ((x1.kp kp7 (fun _ _ h => h)).append (y1.kp kp7 (fun _ _ h => h))) (fun _ _ => trivial) (fun _ _ => trivial) (by rw [List.length_append]; omega)
            have SM := same_text _ _ _ _ _ dz1 dz2
            rw [smB_sh] at SM
            have belZ : Below w.heap.size w Z := belX.trans (bt7.below (by omega) (by omega))
            clear hZ dz1 dz2 kp7 own7 bt7 own1 own2 grow1 grow2 bl5 bl6 bt5 bt6 c6 fz6 XA YA dxs x1 y1
            go_wp2_with fail
            refine SM.mono ?_
            rintro e w7 ⟨rfl, hb7⟩
            go_wp2_with fail
            go_ret
            exact ⟨ret_bool (by simp), belZ.trans (hb7.mono belZ.size)⟩

set_option maxRecDepth 100000 in
theorem lifted (os : Os) (started : os.Started) (H : Type) (enc : TypeId × Value → H) :
    ReturnsInHanded {} Try.checked os 7 .any (Rows.syntaxJoinsSpec.pre6 enc Try.prog Try.f7 Rows.syntaxJoinsRow.domain false) (Rows.syntaxJoinsSpec.post enc Try.prog Try.f7 false true false false) := by
  refine returnsInHanded_of_change_sized (C := Try.checked) own started (by kernel_rfl) Try.func7
    (ChangeSpec.witness6 (enc := enc) (C := Try.checked) false ⟨#[], #[.string ByteArray.empty, .string ByteArray.empty], []⟩ 8 (by kernel_rfl) (by kernel_rfl) (by kernel_rfl) (by kernel_rfl)) ?_
  intro W base args ds gs before hval0 hW hcnd hz0 _
  have hval : ∀ (j : Nat) t v, Try.f7.params[j]? = some t → args[j]? = some v → Value.okWide Try.prog W .any base t v := hval0
  have hW' := hW
  obtain ⟨p, q, hA0, hV, rfl, hfz, hnd⟩ := hW
  have hA : DataW.TrodAll enc Try.prog W 0 (fun _ => true) true Try.f7.params.toList args.toList ds p := hA0
  rw [Try.params7] at hA hval
  obtain ⟨v0, vs0, d0, ds0, p0, q0, hargs, rfl, rfl, h0, r0⟩ := trodAll_cons hA
  obtain ⟨v1, vs1, d1, ds1, p1, q1, rfl, rfl, rfl, h1, r1⟩ := trodAll_cons r0
  obtain ⟨rfl, rfl, rfl⟩ := trodAll_nil r1
  obtain rfl : args = #[v0, v1] := by cases args; simp_all
  obtain ⟨rfl, rfl⟩ := trodVars_none hV
  obtain ⟨a0, rfl, rfl, rfl, w0⟩ := open_string Try.underlying9 (hval 0 9 v0 rfl rfl) h0
  obtain ⟨a1, rfl, rfl, rfl, w1⟩ := open_string Try.underlying9 (hval 1 9 v1 rfl rfl) h1
  have hz : (DataW.weightsEach Try.prog (Try.f7.params.toList ++ Rows.syntaxJoinsSpec.plain.varTypes Try.prog) _).all (· ≤ reachBytes) = true := hz0
  rw [Try.params7] at hz
  have sz0 := sized_string hz (j := 0) rfl rfl
  have sz1 := sized_string hz (j := 1) rfl rfl
  clear hA0 hval0
  simp only [List.append_nil] at hW'
  have rb := reachBytes_lt
  have e0 : a0.size = a0.data.toList.length := Array.length_toList.symm
  have e1 : a1.size = a1.data.toList.length := Array.length_toList.symm
  refine (walk a0 a1 (by omega) (by omega) W).mono fun e W' ⟨he, bel⟩ => ?_
  subst he
  exact ⟨_, rfl, _, _, _, [], _, [], hW', trodAll_mk1 (shut_bool Try.underlying4 _), trodAll_cons_mk (shut_string Try.underlying9 w0) (trodAll_cons_mk (shut_string Try.underlying9 w1) trodAll_mk0), rfl, bel.frame _, fun h => by cases h⟩

theorem stands : Rows.syntaxJoinsRow.holds Try.pinned (OpenSpec.ofChange Rows.syntaxJoinsSpec) :=
  OpenClaim.holds_of_wide 7 Try.f7 rfl rfl rfl rfl rfl rfl rfl ⟨rfl, rfl, rfl, rfl, rfl⟩ rfl rfl rfl rfl rfl (by kernel_rfl) Try.func7 (by kernel_rfl)
    (of_decide_eq_true (by kernel_rfl)) (by unfold Func.isWrapper; first | (rw [if_pos (by decide +kernel)]; kernel_rfl) | (rw [if_neg (by decide +kernel)]; exact ⟨rfl, rfl⟩))
    (fun os started H enc _ => lifted os started H enc)

theorem proved : Rows.SyntaxJoinsSaid := stands
#print axioms proved
end Go.Proofs.Ythbbfddclhcoaaa.syntaxJoins
