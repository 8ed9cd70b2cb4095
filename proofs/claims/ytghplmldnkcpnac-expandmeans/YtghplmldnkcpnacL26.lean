/- Proved: for every text and every word ExpandMeans returns true (of a text that is right and not great, and a word of few terminals: the grammar that expand.Make answers has the word just if the first definition says it, asked a hundred thousand times at most), and what came in reads as before. No condition. -/
import Derived.Test.YtghplmldnkcpnacL13
import Derived.Test.YtghplmldnkcpnacL20
import Derived.Test.YtghplmldnkcpnacL23
import Derived.Test.YtghplmldnkcpnacL25
import Derived.Test.YtghplmldnkcpnacRows
import Derived.Laws.BitsLemmas
import Derived.ProofKit
import Derived.OpenShut
import Derived.ShutString
import Derived.ChangeOld
namespace Go.Proofs.Ytghplmldnkcpnac.expandMeans
open Go.Proofs.Ytghplmldnkcpnac
open Go.ChangeShapes Go.WideShapes Go.ChangeAt Go.RowKit G

theorem own : ownKnob Try.prog.godebug = none := by kernel_rfl
theorem laidOut : laidOutB Try.prog = true := by kernel_rfl
theorem TxV_owned {w : World} {base n : Nat} {e : TypeId} {v : Value} {X : List ByteArray} (h : w.ownsRow base e 1 v n (X.map .string)) (hX : X.length = n) (hn : n ≤ 1000000) : TxV w AllB v X 0 n := by
  have h0 := h
  obtain ⟨h1, h2 | ⟨g, cap, cur, e1, e2, e3, e4, e5⟩⟩ := h
  · obtain ⟨rfl, rfl⟩ := h2
    exact ⟨Nat.le_refl _, by omega, by omega, none, 0, rfl, by omega, .inl rfl, .inl rfl⟩
  · subst e1
    refine ⟨Nat.zero_le _, by omega, by omega, _, cap, rfl, by omega, .inr ⟨g, 0, rfl⟩, .inr ⟨g, 0, rfl, trivial, fun k hk => ?_⟩⟩
    have hk' : k < X.length := by omega
    refine ⟨X[k], by simp [hk'], ?_⟩
    have := World.ownsRow.cellAt h0 k (by omega)
    rw [Nat.zero_add, this]
    simp [hk']
theorem low_of {g : Gm} (h : (gFl g).1 = 0) : ∀ r ∈ g.rules, ∀ s ∈ r.right, -g.terms ≤ s := by
  unfold gFl at h
  split at h
  next h1 =>
    split at h
    · cases h
    next h2 =>
      intro r hr s hs
      have h3 := (G.rsF_zero h).2 r hr
      unfold ruF at h3
      split at h3
      · cases h3
      · split at h3
        next h4 h5 =>
          have := List.all_eq_true.1 h5.2 s hs
          simp [syB] at this
          exact this.1
        · cases h3
  · cases h
set_option maxRecDepth 100000 in
set_option maxHeartbeats 16000000 in
theorem walk (ds : List Df) (va : Value) (wl : List Int) (vw : Value) (w : World) (hC : DcV w AllB va ds) (hI : IsV w G.All vw wl) :
    Calls Try.prog 5 #[.agg #[va], vw] w fun e w' => e = .returned (.bool true) ∧ Below w.heap.size w w' := by
  obtain ⟨i0, hi, iz0, iz1, iz2⟩ := info_parts G.Try.infoInt
  obtain ⟨s0, hs, sz0, sz1, sz2⟩ := info_parts Try.infoStr
  have hA : DsV w All va ds := hC.ds.mono fun _ _ _ _ h => ⟨trivial, h⟩
  have GA := fun w' (hb : Below w.heap.size w w') => grt_all ds va w' (hA.lw hb)
  have MA := fun w' (hb : Below w.heap.size w w') => make_all ds va w' (hA.lw hb)
  have hrl := exGm_rl ds
  have hfr := fun h => exF_right (ds := ds) h
  have hT0 : (exF ds).1 = 0 → exT ds = trms ds := fun h => if_pos h
  have hgd : (exF ds).1 = 0 → exGm ds = ⟨(exA ds).1.vars, (trms ds).length, 0, (exA ds).1.rules⟩ := fun h => (ex_good (hfr h).1 (hfr h).2.1).1
  obtain ⟨wo, wc, rfl⟩ := hI.slice
  have hwl := hI.1
  obtain ⟨hl, ao, cap, rfl, _⟩ := id hA
  obtain ⟨P, hP⟩ : ∃ P, P = w.alloc (.cells #[.slice ao ds.length cap] 42) := ⟨_, rfl⟩
  have kP : Below w.heap.size w P := by rw [hP]; exact al1 _ _
  have p0 : P.cell? ⟨w.heap.size, 0, none⟩ = some (.slice ao ds.length cap) := by rw [hP]; simp
  go_enter Try.func5, Try.ntmps5
  go_wp2_with fail
  rw [← hP]
  clear hP
  refine (ebegun_any P).mono ?_
  rintro e w1 ⟨rfl, hb1⟩
  have e0 := bkeep hb1 p0
  have bel1 : Below w.heap.size w w1 := bthen kP hb1
  go_wp2_with fail
  refine (GA _ bel1).mono ?_
  rintro e w2 ⟨q, rfl, hq, hb2⟩
  have bel2 : Below w.heap.size w w2 := bthen bel1 hb2
  have f0 := bkeep hb2 e0
  cases q with
  | true =>
    go_wp2_with fail
    go_ret
    exact ⟨rfl, bel2⟩
  | false =>
  obtain ⟨h60, hsz⟩ := hq rfl
  by_cases h4 : 4 < wl.length
  · go_wp2_with fail
    go_ret
    exact ⟨rfl, bel2⟩
  have MA2 := MA w2 bel2 h60 hsz
  clear GA hq hb2 e0 MA hsz
  have HF := hd hfr
  have HT0 := hd hT0
  have HGD := hd hgd
  clear hfr hT0 hgd
  generalize hg : exGm ds = g at *
  generalize hT' : exT ds = T' at *
  generalize exN ds = N' at *
  have HG := hd hg
  have HT' := hd hT'
  clear hg hT'
  generalize hD : exF ds = D at *
  obtain ⟨D1, D2⟩ := D
  have HD := hd hD
  clear hD
  simp only at MA2
  go_wp2_with fail
  refine MA2.mono ?_
  rintro e w3 ⟨vr, vn, vt, rfl, rs3, sn3, st3, hb3⟩
  obtain ⟨aor, capr, rfl⟩ := rs3.slice
  obtain ⟨aon, capn, rfl⟩ := sn3.slice
  obtain ⟨aot, capt, rfl⟩ := st3.slice
  have hTl := st3.1
  obtain ⟨Q, hQ⟩ : ∃ Q, Q = (w3.alloc (.cells #[.int .i64 g.vars, .int .i64 g.terms, .int .i64 g.start, .slice aor g.rules.length capr, .slice aon N'.length capn, .slice aot T'.length capt] 47)).alloc (.cells #[.int .i64 D1, .int .i64 D2] 29) := ⟨_, rfl⟩
  have kQ : Below w3.heap.size w3 Q := by rw [hQ]; exact al2 _ _ _
  have b2Q : Below w2.heap.size w2 Q := bthen hb3 kQ
  have m0 : Q.cell? ⟨w3.heap.size, 0, none⟩ = some (.int .i64 g.vars) := by rw [hQ]; simp [go_sem]
  have m1 : Q.cell? ⟨w3.heap.size, 1, none⟩ = some (.int .i64 g.terms) := by rw [hQ]; simp [go_sem]
  have m2 : Q.cell? ⟨w3.heap.size, 2, none⟩ = some (.int .i64 g.start) := by rw [hQ]; simp [go_sem]
  have m3 : Q.cell? ⟨w3.heap.size, 3, none⟩ = some (.slice aor g.rules.length capr) := by rw [hQ]; simp [go_sem]
  have m5 : Q.cell? ⟨w3.heap.size, 5, none⟩ = some (.slice aot T'.length capt) := by rw [hQ]; simp [go_sem]
  have n0 : Q.cell? ⟨w3.heap.size + 1, 0, none⟩ = some (.int .i64 D1) := by rw [hQ]; simp [go_sem]
  have g0 := bkeep b2Q f0
  have rsQ := (rs3.lw kQ).all
  have stQ := st3.below kQ
  have belQ : Below w.heap.size w Q := bthen bel2 b2Q
  clear rs3 sn3 st3 MA2 f0
  go_upto_region 6 with fail
  rw [← hQ]
  clear hQ
  by_cases hD0 : D1 = 0
  case neg =>
    have hDb : (D1 != 0) = true := by simpa using hD0
    go_wp2_with fail
    go_ret
    exact ⟨rfl, belQ⟩
  subst hD0
  by_cases hTz : T'.length = 0
  · have hTb : ((T'.length : Int) == 0) = true := by rw [hTz]; rfl
    clear hTz
    go_wp2_with fail
    go_ret
    exact ⟨rfl, belQ⟩
  have hTb : ((T'.length : Int) == 0) = false := by rw [beq_eq_false_iff_ne]; omega
  obtain ⟨q0, q1, q2⟩ := HF.out rfl
  have hTT : T' = trms ds := HT0.out rfl
  have hgg : g = ⟨(exA ds).1.vars, (trms ds).length, 0, (exA ds).1.rules⟩ := HGD.out rfl
  obtain ⟨_, V, hV⟩ := rgt_of q2
  have HLO := hd (low_of q2)
  have hT16 : T'.length ≤ 16 := by have h1 := hV.tm.2; rw [hgg] at h1; rw [hTT]; have h2 : ((trms ds).length : Int) ≤ 16 := h1; omega
  have hT60 : T'.length ≤ 60 := by omega
  have HTT := hd hTT
  have HGG := hd hgg
  have HQ0 := hd q0
  have HQ1 := hd q1
  clear hTT hgg q0 q1 q2 HF HT0 HGD
  have zQ := belQ.size
  go_wp2_with fail
  go_loopw [7, 8, 9] (fun vi vt i wr => ∃ (k : Nat) (K : List Int) (X : List ByteArray), k ≤ wl.length ∧ i = .int .i64 k ∧ K.length = k ∧ X.length = k ∧ Hid (Wds T' K X) ∧ wr.ownsRow Q.heap.size 3 1 vi k (ints K) ∧ wr.ownsRow Q.heap.size 9 1 vt k (X.map .string) ∧ (vt.ownBlock = none ∨ vt.ownBlock ≠ vi.ownBlock) ∧ Below Q.heap.size Q wr) (fun _ _ i _ => wl.length - (intOf i).toNat)
  case atStart => exact ⟨0, [], [], Nat.zero_le _, rfl, rfl, rfl, hd ⟨rfl, fun q h => by simp at h⟩, World.ownsRow_nil _ _ _ _, World.ownsRow_nil _ _ _ _, .inl rfl, Below.refl _ _⟩
  case round =>
    obtain ⟨k, K, X, hk, rfl, hKl, hXl, hWd, ownK, ownX, hne, bel⟩ := hrel
    obtain ⟨ai, ci, rfl⟩ := owns_slice ownK
    obtain ⟨ax, cx, rfl⟩ := owns_slice ownX
    by_cases hlt : k < wl.length
    · obtain ⟨b, o, rfl, c0⟩ := (hI.lw (bthen belQ bel)).at_ hlt
      obtain ⟨m, hm, hme⟩ := word_num wl[k] hTz hT60
      have hlt2 : (k : Int) < (wl.length : Int) := by omega
      obtain ⟨_, ao', cap', e', _, hst⟩ := id stQ
      simp at e'
      obtain ⟨rfl, rfl⟩ := e'
      rcases hst with hst | ⟨bt, ot, rfl, hst⟩
      · omega
      have cm := hst m hm
      have HW1 := hd (hWd.out.snoc hm)
      generalize wl[k] = y at *
      generalize T'[m] = tm at *
      clear hst
      have hm2 : (m : Int) < (T'.length : Int) := by omega
      have hTn : ¬ (T'.length : Int) = 0 := by omega
      have m5' := bkeep bel m5
      have hz := bel.size
      go_wp2_with fail
      go_quiet (fail)
      obtain ⟨y0, hy0⟩ : ∃ y0, y0 = wr.drewN nq := ⟨_, rfl⟩
      rw [← hy0]
      have kD : Below wr.heap.size wr y0 := by rw [hy0]; exact drwN _ _
      clear hy0
      have ownK0 := G.owns_below ownK kD
      have ownX0 := G.owns_below ownX kD
      have bel0 := bthen bel kD
      have hz0 := bel0.size
      clear ownK ownX bel m5'
      go_wp2_with (first | (at_builtin; go_must (refine wpList_append_own_at _ rfl _ _ 33 rfl Q.heap.size 3 i0 (.int .i64 0) 1 8 Try.underlying33 hi iz0 iz1 iz2 rfl (by decide) _ _ _ rfl (ownK0.alloc _) ⟨y0.heap.size, 0, none⟩ 1 1 [.int .i64 m] rfl rfl (G.cell_one_at _ _ _ (by simp)) (oneInts [(m : Int)]) (by unfold maxLen; omega) (by omega) (by simp <;> omega) ?_)))
      intro v1 w4 own4 grow4 _ hat4
      have bel4 : Below Q.heap.size Q w4 := (bel0.alloc hz0 (.cells #[.int .i64 m] 3)).grown grow4 (by simp <;> omega) (fun j hj => (ownK0.lt j hj).1)
      have hz4 := bel4.size
      have hzz4 := grow4.size
      have ownX4 := (ownX0.alloc (.cells #[.int .i64 m] 3)).kept grow4 hne
      have hne4 : (Value.slice ax k cx).ownBlock = none ∨ (Value.slice ax k cx).ownBlock ≠ v1.ownBlock := by
        rcases hat4 with h | h
        · rw [h]; exact hne
        · cases hu : (Value.slice ax k cx).ownBlock with
          | none => exact .inl rfl
          | some q =>
            right
            intro e
            have e2 := (ownX0.lt q hu).2
            rw [h] at e
            simp at e
            omega
      obtain ⟨a4, c4, rfl⟩ := G.owns_slice own4
      have m5' := bkeep bel4 m5
      have cm' := bkeep bel4 cm
      go_wp2_with (first | (at_builtin; go_must (refine wpList_append_own_at _ rfl _ _ 45 rfl Q.heap.size 9 s0 (.string ⟨#[]⟩) 1 16 Try.underlying45 hs sz0 sz1 sz2 rfl (by decide) _ _ _ rfl (ownX4.alloc _) ⟨w4.heap.size, 0, none⟩ 1 1 [.string tm] rfl rfl (G.cell_one_at _ _ _ (by simp)) (oneSs [tm]) (by unfold maxLen; omega) (by omega) (by simp <;> omega) ?_)))
      intro v2 w5 own5 grow5 _ hat5
      have bel5 : Below Q.heap.size Q w5 := (bel4.alloc hz4 (.cells #[.string tm] 9)).grown grow5 (by simp <;> omega) (fun j hj => (ownX4.lt j hj).1)
      have ownK5 := (own4.alloc (.cells #[.string tm] 9)).kept grow5 (by
        cases hu : (Value.slice a4 (k + 1) c4).ownBlock with
        | none => exact .inl rfl
        | some q =>
          right
          intro e
          rcases hne4 with h | h
          · rw [h] at e; cases e
          · exact h (by rw [hu]; exact e.symm))
      have hne5 : v2.ownBlock = none ∨ v2.ownBlock ≠ (Value.slice a4 (k + 1) c4).ownBlock := by
        rcases hat5 with h | h
        · rw [h]; exact hne4
        · right
          intro e
          have e2 := (own4.lt _ (e.symm.trans h)).2
          have e3 : (w4.alloc (.cells #[.string tm] 9)).heap.size = w4.heap.size + 1 := by simp
          omega
      obtain ⟨a5, c5, rfl⟩ := G.owns_slice own5
      go_wp2_with fail
      go_roundw
      case rel => exact ⟨k + 1, _, _, by omega, by go_num, by simp; omega, by simp; omega, HW1, by rw [ints_app]; exact ownK5, by rw [List.map_append]; exact own5, hne5, bel5⟩
      case measure => simp [intOf]; omega
    · obtain rfl : k = wl.length := by omega
      have hW := hWd.out
      have hrs : g.rules = (exA ds).1.rules := by rw [HGG.out]
      have hpos : 0 < ds.length := (dfl_zero HQ0.out).1.pos
      have hgd : ∀ e ∈ ds, e.e.gd := fun e he => Xp.gd_of (Df.code_zero ((dfl_zero HQ0.out).1.all e he)).2.2.2
      have hVs : ∀ r ∈ g.rules, ∀ s ∈ r.right, s < (V : Int) := fun r hr => (hV.vr.2 r hr).2
      have hlow : ∀ r ∈ g.rules, ∀ s ∈ r.right, -1000000 ≤ s := fun r hr s hs => by have := HLO.out r hr s hs; have := hV.tm.2; omega
      have hKr : ∀ x ∈ K, -1000000 ≤ x ∧ x ≤ 1000000 := fun x hx => by
        obtain ⟨q, hq, rfl⟩ := List.mem_iff_getElem.1 hx
        obtain ⟨m, m1, m2, _⟩ := hW.2 q hq
        rw [List.getElem?_eq_getElem hq] at m2
        have m2 := Option.some.inj m2
        omega
      have iK : IsV wr G.All (.slice ai wl.length ci) K := IsV_owned (l := K) (by rw [hKl]; exact ownK) (by omega) (fun _ _ => trivial)
      have gV : GV wr G.All (.agg #[.int .i64 g.vars, .int .i64 g.terms, .int .i64 g.start, .slice aor g.rules.length capr]) g := ⟨_, rfl, rsQ.lw bel⟩
      have CO := countsOf_any g _ _ K 1 V wr gV iK hV.gv hV.v1 (by have := hV.vr.1; omega) (by omega) (fun r hr => ⟨(hV.vr.2 r hr).1.1, (hV.vr.2 r hr).1.2, fun s hs => ⟨hVs r hr s hs, hlow r hr s hs⟩⟩) (by omega) hKr (by omega) (by omega) _ (stops hVs)
      have hsn : SaD (nms ds) X (ds.map Df.e) (ds.length * (K.length + 1) + 1) ds[0].e 0 K.length ↔ DG K g.rules 0 0 K.length := by rw [hrs]; exact said HQ0.out HQ1.out (by rw [← HTT.out]; exact hW) hpos
      rw [hKl] at hsn
      have hcn := fun t hfix => counted (R := g.rules) (W := K) (V := V) (t := t) hVs hfix (v := 0) (i := 0) (j := wl.length) (by have := hV.v1; omega) (Nat.zero_le _) (by omega)
      unfold CoD at CO
      rw [hKl] at CO hcn
      have HSN := hd hsn
      have HCN := hd hcn
      have r0 := bkeep bel m0
      have r1 := bkeep bel m1
      have r2 := bkeep bel m2
      have r3 := bkeep bel m3
      have t0 := bkeep bel g0
      clear hsn hcn hVs hlow hKr gV hrs
      go_wp2_with fail
      refine CO.mono ?_
      rintro e w6 ⟨cb, b0, c0, b1, c1, rb, tt, rfl, e1, e2, e3, tb, hfix, k6⟩
      have HFX := hd hfix
      clear hfix CO
      have t6 := bkeep k6 t0
      obtain ⟨ra, hra⟩ : ∃ ra, ra = w6.heap.size := ⟨_, rfl⟩
      obtain ⟨w7, hw7⟩ : ∃ w7, w7 = w6.alloc (.cells #[.slice ao ds.length cap, .int .i64 100000] 60) := ⟨_, rfl⟩
      have k67 : Below w6.heap.size w6 w7 := by rw [hw7]; exact al1 _ _
      have s7 : AsS w7 ra (.slice ao ds.length cap) 100000 := by rw [hw7, hra]; exact ⟨by simp, by simp, by simp [go_sem]⟩
      have bel7 : Below Q.heap.size Q w7 := bthen bel (bthen k6 k67)
      have bw7 : Below w.heap.size w w7 := bthen belQ bel7
      have HRA := hd hra
      have hwra : w.heap.size < ra := by have h1 := G.lt_of_cell t6; omega
      go_upto_region 18 with fail
      rw [← hw7, ← hra]
      clear hw7 hra
      have dC : DcV w7 (Oth ra) (.slice ao ds.length cap) ds := hC.kp (Go.Proofs.Ytghplmldnkcpnac.Kp.of_below bw7) (fun k hk _ => by show k ≠ ra; omega)
      have hz6 := k6.size
      have tX : TxV w7 (Oth ra) (.slice ax wl.length cx) X 0 wl.length := (TxV_owned ownX hXl (by omega)).kp (Go.Proofs.Ytghplmldnkcpnac.Kp.of_below (bthen k6 k67)) (fun k hk _ => by have := HRA.out; show k ≠ ra; omega)
      have g7 := bkeep k67 t6
      obtain ⟨_, ao', cap', e', hin⟩ := id dC
      simp at e'
      obtain ⟨rfl, rfl⟩ := e'
      rcases hin with hin | ⟨bd, od, rfl, hin⟩
      · omega
      obtain ⟨hbd, x0, x1, u', x2, xq⟩ := hin.at_ 0 hpos
      obtain ⟨aq, cq, rfl, _⟩ := xq.slice
      have x0 : w7.cell? ⟨bd, od + 2, none⟩ = some (.int .i64 ds[0].e.op) := by simpa using x0
      have x1 : w7.cell? ⟨bd, od + 3, none⟩ = some (.string ds[0].e.nm) := by simpa using x1
      have x2 : w7.cell? ⟨bd, od + 4, none⟩ = some (.slice aq ds[0].e.kids.len cq) := by simpa using x2
      have hg0 := hgd ds[0] (List.getElem_mem hpos)
      have hn7 : w.heap.size ≠ ra := by omega
      have hnat : ds.length * (wl.length + 1) ≤ 60 * 5 := Nat.mul_le_mul h60 (by omega)
      have hdeep : ((ds.length * (wl.length + 1) + 1 : Nat) : Int) = (ds.length : Int) * ((wl.length : Int) + 1) + 1 := by simp
      have hdp : ds.length * (wl.length + 1) + 1 ≤ 1000000 := by omega
      have hcast : ((ds.length * (wl.length + 1) : Nat) : Int) = (ds.length : Int) * ((wl.length : Int) + 1) := by simp
      have hm1 : (ds.length : Int) * ((wl.length : Int) + 1) ≤ 300 := by rw [← hcast]; omega
      have hm0 : 0 ≤ (ds.length : Int) * ((wl.length : Int) + 1) := by rw [← hcast]; omega
      have HDP := hd hdeep
      have hwr0 : IntKind.i64.wrap (IntKind.i64.wrap ((ds.length : Int) * IntKind.i64.wrap ((wl.length : Int) + 1)) + 1) = (ds.length : Int) * ((wl.length : Int) + 1) + 1 := by
        have wi : ∀ n : Int, 0 ≤ n → n ≤ 1000000 → IntKind.i64.wrap n = n := fun n h1 h2 => by rw [IntKind.wrap_i64]; omega
        rw [wi ((wl.length : Int) + 1) (by omega) (by omega), wi ((ds.length : Int) * ((wl.length : Int) + 1)) hm0 (by omega), wi _ (by omega) (by omega)]
      clear hcast hdeep
      have hps : 0 < (ds.length : Int) := by omega
      have SA : SaysH ds X ra (.slice (some ⟨bd, od, none⟩) ds.length cap) 100000 := says_all ds X ra _ h60 hgd 100000 (by omega)
      have hsense : SaD (nms ds) X (ds.map Df.e) (ds.length * (wl.length + 1) + 1) ds[0].e 0 wl.length ↔ 0 < cnT g.rules K 1 (tt + 1) 0 0 wl.length := HSN.out.trans (by have h1 := HCN.out tt HFX.out; simpa using h1.symm)
      have bfin : ∀ w8, But ra w7 w8 → Below w.heap.size w w8 := fun w8 h => bw7.trans (h.below (by omega) bw7.size)
      have HSE := hd hsense
      have dwD := G.drw1 w7
      have sD := s7.lw dwD
      have bD : But ra w7 w7.drew := But.of_below dwD
      have hs0 : World.cell? w7.drew ⟨w.heap.size, 0, none⟩ = some (.slice (some ⟨bd, od, none⟩) ds.length cap) ∧ World.cell? w7.drew ⟨bd, od + 2, none⟩ = some (.int .i64 ds[0].e.op) ∧ World.cell? w7.drew ⟨bd, od + 3, none⟩ = some (.string ds[0].e.nm) ∧ World.cell? w7.drew ⟨bd, od + 4, none⟩ = some (.slice aq ds[0].e.kids.len cq) := ⟨bkeep dwD g7, bkeep dwD x0, bkeep dwD x1, bkeep dwD x2⟩
      clear hsense hin HSN HCN HFX
      go_wp2_with fail
      refine wp_region_noPanic ?_
      refine wp_region_held_drew (S := fun w' => World.cell? w' ⟨w.heap.size, 0, none⟩ = some (.slice (some ⟨bd, od, none⟩) ds.length cap) ∧ World.cell? w' ⟨bd, od + 2, none⟩ = some (.int .i64 ds[0].e.op) ∧ World.cell? w' ⟨bd, od + 3, none⟩ = some (.string ds[0].e.nm) ∧ World.cell? w' ⟨bd, od + 4, none⟩ = some (.slice aq ds[0].e.kids.len cq)) (by kernel_rfl) hs0 ?_
      intro hSw
      obtain ⟨y0, hy0⟩ : ∃ y0, y0 = w7.drew := ⟨_, rfl⟩
      rw [← hy0] at hSw sD bD ⊢
      clear hy0
      refine wpAnyH_take (i := 0) (v := ?v1) rfl (by kernel_rfl) (by kernel_rfl) (by kernel_rfl) (fun _ _ _ h => np_panic h) (Or.inl ⟨by rfl, ?hy1⟩) (by assumption) ?_
      case hy1 => (intro w' hS'; (try dsimp only at hS'); go_simp; try with_reducible rfl)
      simp only [Act.put, List.setIfInBounds_toArray, List.set_cons_zero, List.set_cons_succ, List.getElem_toArray, List.getElem_cons_zero]
      refine wpAnyH_take (i := 1) (v := ?v2) rfl (by kernel_rfl) (by kernel_rfl) (by kernel_rfl) (fun _ _ _ h => np_panic h) (Or.inl ⟨by rfl, ?hy2⟩) (by assumption) ?_
      case hy2 => (intro w' hS'; (try dsimp only at hS'); go_simp; try with_reducible rfl)
      simp only [Act.put, List.setIfInBounds_toArray, List.set_cons_zero, List.set_cons_succ, List.getElem_toArray, List.getElem_cons_succ, List.getElem_cons_zero]
      refine wpAnyH_take (i := 2) (v := ?v3) rfl (by kernel_rfl) (by kernel_rfl) (by kernel_rfl) (fun _ _ _ h => np_panic h) (Or.inl ⟨by rfl, ?hy3⟩) (by assumption) ?_
      case hy3 => (intro w' hS'; (try dsimp only at hS'); go_simp; try with_reducible rfl)
      simp only [Act.put, List.setIfInBounds_toArray, List.set_cons_zero, List.set_cons_succ, List.getElem_toArray, List.getElem_cons_succ, List.getElem_cons_zero]
      refine wpAnyH_take (i := 3) (v := ?v4) rfl (by kernel_rfl) (by kernel_rfl) (by kernel_rfl) (fun _ _ _ h => np_panic h) (Or.inl ⟨by rfl, ?hy4⟩) (by assumption) ?_
      case hy4 => (intro w' hS'; (try dsimp only at hS'); go_simp; try with_reducible rfl)
      simp only [Act.put, List.setIfInBounds_toArray, List.set_cons_zero, List.set_cons_succ, List.getElem_toArray, List.getElem_cons_succ, List.getElem_cons_zero]
      refine wpAnyH_take (i := 4) (v := ?v5) rfl (by kernel_rfl) (by kernel_rfl) (by kernel_rfl) (fun _ _ _ h => np_panic h) (Or.inl ⟨by rfl, ?hy5⟩) (by assumption) ?_
      case hy5 => (intro w' hS'; (try dsimp only at hS'); go_simp; try with_reducible rfl)
      simp only [Act.put, List.setIfInBounds_toArray, List.set_cons_zero, List.set_cons_succ, List.getElem_toArray, List.getElem_cons_succ, List.getElem_cons_zero]
      refine wpAnyH_take (i := 5) (v := ?v6) rfl (by kernel_rfl) (by kernel_rfl) (by kernel_rfl) (fun _ _ _ h => np_panic h) (Or.inl ⟨by rfl, ?hy6⟩) (by assumption) ?_
      case hy6 => (intro w' hS'; (try dsimp only at hS'); go_simp; try with_reducible rfl)
      simp only [Act.put, List.setIfInBounds_toArray, List.set_cons_zero, List.set_cons_succ, List.getElem_toArray, List.getElem_cons_succ, List.getElem_cons_zero]
      refine wpAnyH_take (i := 6) (v := ?v7) rfl (by kernel_rfl) (by kernel_rfl) (by kernel_rfl) (fun _ _ _ h => np_panic h) (Or.inl ⟨by rfl, ?hy7⟩) (by assumption) ?_
      case hy7 => (intro w' hS'; (try dsimp only at hS'); go_simp; try with_reducible rfl)
      simp only [Act.put, List.setIfInBounds_toArray, List.set_cons_zero, List.set_cons_succ, List.getElem_toArray, List.getElem_cons_succ, List.getElem_cons_zero]
      refine wpAnyH_take (i := 7) (v := ?v8) rfl (by kernel_rfl) (by kernel_rfl) (by kernel_rfl) (fun _ _ _ h => np_panic h) (Or.inl ⟨by rfl, ?hy8⟩) (by assumption) ?_
      case hy8 => (intro w' hS'; (try dsimp only at hS'); go_simp; try with_reducible rfl)
      simp only [Act.put, List.setIfInBounds_toArray, List.set_cons_zero, List.set_cons_succ, List.getElem_toArray, List.getElem_cons_succ, List.getElem_cons_zero]
      refine wpAnyH_take (i := 8) (v := ?v9) rfl (by kernel_rfl) (by kernel_rfl) (by kernel_rfl) (fun _ _ _ h => np_panic h) (Or.inl ⟨by rfl, ?hy9⟩) (by assumption) ?_
      case hy9 => (intro w' hS'; (try dsimp only at hS'); go_simp; try with_reducible rfl)
      simp only [Act.put, List.setIfInBounds_toArray, List.set_cons_zero, List.set_cons_succ, List.getElem_toArray, List.getElem_cons_succ, List.getElem_cons_zero]
      refine wpAnyH_take (i := 9) (v := ?v10) rfl (by kernel_rfl) (by kernel_rfl) (by kernel_rfl) (fun _ _ _ h => np_panic h) (Or.inl ⟨by rfl, ?hy10⟩) (by assumption) ?_
      case hy10 => (intro w' hS'; (try dsimp only at hS'); go_simp; try with_reducible rfl)
      simp only [Act.put, List.setIfInBounds_toArray, List.set_cons_zero, List.set_cons_succ, List.getElem_toArray, List.getElem_cons_succ, List.getElem_cons_zero]
      refine wpAnyH_take (i := 10) (v := ?v11) rfl (by kernel_rfl) (by kernel_rfl) (by kernel_rfl) (fun _ _ _ h => np_panic h) (Or.inl ⟨by rfl, ?hy11⟩) (by assumption) ?_
      case hy11 => (intro w' hS'; (try dsimp only at hS'); go_simp; try with_reducible rfl)
      simp only [Act.put, List.setIfInBounds_toArray, List.set_cons_zero, List.set_cons_succ, List.getElem_toArray, List.getElem_cons_succ, List.getElem_cons_zero]
      refine wpAnyH_take (i := 11) (v := ?v12) rfl (by kernel_rfl) (by kernel_rfl) (by kernel_rfl) (fun _ _ _ h => np_panic h) (Or.inl ⟨by rfl, ?hy12⟩) (by assumption) ?_
      case hy12 => (intro w' hS'; (try dsimp only at hS'); go_simp; try with_reducible rfl)
      simp only [Act.put, List.setIfInBounds_toArray, List.set_cons_zero, List.set_cons_succ, List.getElem_toArray, List.getElem_cons_succ, List.getElem_cons_zero]
      refine wpAnyH_take (i := 12) (v := ?v13) rfl (by kernel_rfl) (by kernel_rfl) (by kernel_rfl) (fun _ _ _ h => np_panic h) (Or.inl ⟨by rfl, ?hy13⟩) (by assumption) ?_
      case hy13 => (intro w' hS'; (try dsimp only at hS'); go_simp; try with_reducible rfl)
      simp only [Act.put, List.setIfInBounds_toArray, List.set_cons_zero, List.set_cons_succ, List.getElem_toArray, List.getElem_cons_succ, List.getElem_cons_zero]
      refine wpAnyH_take (i := 13) (v := ?v14) rfl (by kernel_rfl) (by kernel_rfl) (by kernel_rfl) (fun _ _ _ h => np_panic h) (Or.inl ⟨by rfl, ?hy14⟩) (by assumption) ?_
      case hy14 => (intro w' hS'; (try dsimp only at hS'); go_simp; try with_reducible rfl)
      simp only [Act.put, List.setIfInBounds_toArray, List.set_cons_zero, List.set_cons_succ, List.getElem_toArray, List.getElem_cons_succ, List.getElem_cons_zero]
      refine wpAnyH_take (i := 14) (v := ?v15) rfl (by kernel_rfl) (by kernel_rfl) (by kernel_rfl) (fun _ _ _ h => np_panic h) (Or.inl ⟨by rfl, ?hy15⟩) (by assumption) ?_
      case hy15 => (intro w' hS'; (try dsimp only at hS'); go_simp; try with_reducible rfl)
      simp only [Act.put, List.setIfInBounds_toArray, List.set_cons_zero, List.set_cons_succ, List.getElem_toArray, List.getElem_cons_succ, List.getElem_cons_zero]
      refine wpAnyH_ready (rs := [15]) (by kernel_rfl) (by simp) ?_
      refine AllReadyH.cons rfl (fun K hK => ?_) AllReadyH.nil
      go_simp
      have IA := SA 100000 (by omega) ds[0].e (ds.length * (wl.length + 1) + 1) 0 wl.length (.agg #[.int .i64 ds[0].e.op, .string ds[0].e.nm, .slice aq ds[0].e.kids.len cq]) (.slice ax wl.length cx) y0 ⟨_, rfl, xq.kp bD.kp (fun _ _ h => h)⟩ hg0 (tX.kp bD.kp (fun _ _ h => h)) sD (dC.kp bD.kp (fun _ _ h => h)) hdp
      rw [HDP.out] at IA
      try rw [hwr0]
      refine IA.mono ?_
      rintro e w8 ⟨r, L1, rfl, hL1, s8, b8, h1⟩
      have HR := hd h1
      clear h1 IA
      have bE : But ra w7 w8 := bD.trans b8
      have sY : World.cell? w8 ⟨w.heap.size, 0, none⟩ = some (.slice (some ⟨bd, od, none⟩) ds.length cap) ∧ World.cell? w8 ⟨bd, od + 2, none⟩ = some (.int .i64 ds[0].e.op) ∧ World.cell? w8 ⟨bd, od + 3, none⟩ = some (.string ds[0].e.nm) ∧ World.cell? w8 ⟨bd, od + 4, none⟩ = some (.slice aq ds[0].e.kids.len cq) := ⟨but_cell bE hn7 g7, but_cell bE hbd x0, but_cell bE hbd x1, but_cell bE hbd x2⟩
      refine hK.out _ _ sY ?_
      clear hK K
      intro hSw
      try simp only [Act.put, List.setIfInBounds_toArray, List.set_cons_zero, List.set_cons_succ]
      refine wpAnyH_take (i := 16) (v := ?v16) rfl (by kernel_rfl) (by kernel_rfl) (by kernel_rfl) (fun _ _ _ h => np_panic h) (Or.inl ⟨by rfl, ?hy16⟩) (by assumption) ?_
      case hy16 => (intro w' hS'; (try dsimp only at hS'); go_simp; try with_reducible rfl)
      simp only [Act.put, List.setIfInBounds_toArray, List.set_cons_zero, List.set_cons_succ, List.getElem_toArray, List.getElem_cons_succ, List.getElem_cons_zero]
      refine wpAnyH_done (by kernel_rfl) (NoPanic.normal ?_) _
      have s8c := s8.c1
      by_cases hL : L1 = 0
      · subst hL
        have s8d : w8.cell? ⟨ra, 1, none⟩ = some (.int .i64 0) := s8c
        go_wp2_with fail
        go_ret
        exact ⟨rfl, bfin w8 bE⟩
      · have hLb : ((L1 : Int) == 0) = false := by rw [beq_eq_false_iff_ne]; omega
        have kp8 : ∀ {b o : Nat} {v : Value}, w6.cell? ⟨b, o, none⟩ = some v → w8.cell? ⟨b, o, none⟩ = some v := fun {b o v} h => but_cell bE (by have h1 := G.lt_of_cell h; have h2 := HRA.out; omega) (bkeep k67 h)
        have CO8 := cof_any cb ai wl.length ci V b0 c0 b1 c1 rb (cnT g.rules K 1 (tt + 1)) 0 0 wl.length w8 (kp8 e1) (kp8 e2) (kp8 e3) ⟨fun v hv => kp8 (tb.h0 v hv), fun v i hv hi => kp8 (tb.h1 v i hv hi), fun v i j hv hi hj => kp8 (tb.h2 v i j hv hi hj)⟩ (by have := hV.v1; omega) (Nat.zero_le _) (Nat.le_refl _) (by omega) (by have := hV.vr.1; omega)
        have HRR : Hid (r = decide (0 < cnT g.rules K 1 (tt + 1) 0 0 wl.length)) := hd (by
          rw [Bool.eq_iff_iff, HR.out hL, decide_eq_true_eq]
          exact HSE.out)
        generalize cnT g.rules K 1 (tt + 1) 0 0 wl.length = cv at *
        have hcv : (r == decide (cv > 0)) = true := by rw [HRR.out]; simp
        go_wp2_with fail
        refine CO8.mono ?_
        rintro e wx ⟨rfl, hwx⟩
        obtain rfl := hwx.symm
        go_wp2_with fail
        go_ret
        exact ⟨ret_bool (by first | rfl | simpa using HRR.out), bfin w8 bE⟩
set_option maxRecDepth 100000 in
theorem open_ints_arg {H : Type} {enc : TypeId × Value → H} {w : World} {base b2 : Nat} {spare : Nat → Bool} {held : Bool} {v : Value} {d : DataW H} {ps : List MemPlace} (hv : Value.okWide Try.prog w .any b2 33 v) (h : DataW.Trod enc Try.prog w base spare held 33 v d ps) : ∃ l : List Int, IsV w G.All v l := by
  obtain ⟨a, len, cap, rfl⟩ := okWide_slice Try.underlying33 hv
  obtain ⟨fuel, h⟩ := h
  exact open_ints h
set_option maxRecDepth 100000 in
theorem lifted (os : Os) (started : os.Started) (H : Type) (enc : TypeId × Value → H) :
    ReturnsInHanded {} Try.checked os 5 .any (Rows.expandMeansSpec.pre6 enc Try.prog Try.f5 Rows.expandMeansRow.domain false) (Rows.expandMeansSpec.post enc Try.prog Try.f5 false true false false) := by
  refine returnsInHanded_of_change (C := Try.checked) own started (by kernel_rfl) Try.func5
    (ChangeSpec.witness6 (enc := enc) (C := Try.checked) false ⟨#[], #[.agg #[.slice none 0 0], .slice none 0 0], []⟩ 8 (by kernel_rfl) (by kernel_rfl) (by kernel_rfl) (by kernel_rfl)) ?_
  intro W base args ds gs before hval0 hW hcnd _
  have hval : ∀ (j : Nat) t v, Try.f5.params[j]? = some t → args[j]? = some v → Value.okWide Try.prog W .any base t v := hval0
  have hW' := hW
  obtain ⟨p, q, hA0, hV, rfl, hfz, hnd⟩ := hW
  have hA : DataW.TrodAll enc Try.prog W 0 (fun _ => true) true Try.f5.params.toList args.toList ds p := hA0
  rw [Try.params5] at hA hval
  obtain ⟨v0, vs0, d0, ds0, p0, q0, hargs, rfl, rfl, h0, r0⟩ := trodAll_cons hA
  obtain ⟨v1, vs1, d1, ds1, p1, q1, rfl, rfl, rfl, h1, r1⟩ := trodAll_cons r0
  obtain ⟨rfl, rfl, rfl⟩ := trodAll_nil r1
  obtain rfl : args = #[v0, v1] := by cases args; simp_all
  obtain ⟨rfl, rfl⟩ := trodVars_none hV
  have k0 := h0
  have k1 := h1
  have lt0 : ∀ x ∈ p0, x.block < W.heap.size := by obtain ⟨m, hm⟩ := k0; exact DataW.trod_lt m _ _ _ hm
  have lt1 : ∀ x ∈ p1, x.block < W.heap.size := by obtain ⟨m, hm⟩ := k1; exact DataW.trod_lt m _ _ _ hm
  obtain ⟨xs, ua, rfl, hxs⟩ := open_textc (hval 0 42 v0 rfl rfl) h0
  obtain ⟨wl, hwl⟩ := open_ints_arg (hval 1 33 v1 rfl rfl) h1
  clear hA0 hval0
  refine (walk xs ua wl v1 W hxs hwl).mono fun e W' ⟨he, bel⟩ => ?_
  subst he
  exact ⟨_, rfl, _, _, _, [], _, [], hW', trodAll_mk1 (shut_bool Try.underlying4 _), (trodAll_cons_mk (Below.trod laidOut (by kernel_rfl) (of_decide_eq_true (by kernel_rfl)) k0 bel lt0) (trodAll_cons_mk (Below.trod laidOut (by kernel_rfl) (of_decide_eq_true (by kernel_rfl)) k1 bel lt1) trodAll_mk0)), rfl, bel.frame _, fun h => by cases h⟩

theorem stands : Rows.expandMeansRow.holds Try.pinned (OpenSpec.ofChange Rows.expandMeansSpec) :=
  OpenClaim.holds_of_wide 5 Try.f5 rfl rfl rfl rfl rfl rfl rfl ⟨rfl, rfl, rfl, rfl, rfl⟩ rfl rfl rfl rfl rfl (by kernel_rfl) Try.func5 (by kernel_rfl)
    (of_decide_eq_true (by kernel_rfl)) (by unfold Func.isWrapper; first | (rw [if_pos (by decide +kernel)]; kernel_rfl) | (rw [if_neg (by decide +kernel)]; exact ⟨rfl, rfl⟩))
    (fun os started H enc _ => lifted os started H enc)

theorem proved : Rows.ExpandMeansSaid := stands
#print axioms proved
end Go.Proofs.Ytghplmldnkcpnac.expandMeans
