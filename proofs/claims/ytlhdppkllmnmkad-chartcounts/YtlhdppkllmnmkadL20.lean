/- The document's counts: by trees that grow higher and higher, till nothing more comes. -/
import Derived.Test.YtlhdppkllmnmkadL09
import Derived.Test.YtlhdppkllmnmkadL03
import Derived.Deep.LoopGhost
namespace Go.Proofs.Ytlhdppkllmnmkad.G
open Go.RowKit
theorem TbR.congr {w : World} {V L b0 : Nat} {b1 c1 : Nat → Nat} {rb : Nat → Nat → Nat} {f g : Nat → Nat → Nat → Int} (h : TbR w V L b0 b1 c1 rb f) (hg : ∀ v i j, v < V → i ≤ L → j ≤ L → f v i j = g v i j) : TbR w V L b0 b1 c1 rb g :=
  ⟨h.h0, h.h1, fun v i j hv hi hj => by rw [← hg v i j hv hi hj]; exact h.h2 v i j hv hi hj⟩
def rowL (L : Nat) (f : Nat → Nat → Nat → Int) (v i : Nat) : List Int := (List.range (L + 1)).map (f v i)
theorem rowV {w : World} {V L b0 : Nat} {b1 c1 : Nat → Nat} {rb : Nat → Nat → Nat} {f : Nat → Nat → Nat → Int} (h : TbR w V L b0 b1 c1 rb f) {v i : Nat} (hv : v < V) (hi : i ≤ L) (hL : L ≤ 1000) : IsV w All (.slice (some ⟨rb v i, 0, none⟩) (L + 1) (L + 1)) (rowL L f v i) := by
  refine ⟨by simp [rowL]; omega, _, L + 1, by simp [rowL], by simp [rowL], (fun h => by cases h), .inr ⟨rb v i, 0, rfl, trivial, fun j hj => ?_⟩⟩
  simp only [rowL, List.length_map, List.length_range] at hj
  rw [show 0 + j = j by omega, h.h2 v i j hv hi (by omega)]
  simp [rowL]
theorem rowL_eq {L : Nat} {f g : Nat → Nat → Nat → Int} {v i : Nat} : rowL L f v i = rowL L g v i ↔ ∀ j, j ≤ L → f v i j = g v i j := by
  unfold rowL
  constructor
  · intro h j hj
    have := congrArg (fun l => l[j]?) h
    simpa [show j < L + 1 by omega] using this
  · intro h
    exact List.map_congr_left fun j hj => h j (by have := List.mem_range.1 hj; omega)
/-- What CountsOf holds of its own. -/
structure Cc (u : World) (B V : Nat) (vR vW : Value) (m : Int) (vN : Value) : Prop where
  p0 : u.cell? ⟨B, 0, none⟩ = some (.int .i64 (V : Int))
  p3 : u.cell? ⟨B, 3, none⟩ = some vR
  q0 : u.cell? ⟨B + 1, 0, none⟩ = some vW
  c0 : u.cell? ⟨B + 2, 0, none⟩ = some (.int .i64 (V : Int))
  c4 : u.cell? ⟨B + 2, 4, none⟩ = some vW
  c5 : u.cell? ⟨B + 2, 5, none⟩ = some (.int .i64 m)
  c6 : u.cell? ⟨B + 2, 6, none⟩ = some vN
  cf : ∀ i, u.frozen? ⟨B + 2, i, none⟩ = false
  c3 : u.cell? ⟨B + 2, 3, none⟩ = some vR
theorem Cc.of {u u' : World} {B V : Nat} {vR vW vN : Value} {m : Int} (h : Cc u B V vR vW m vN) (hb : ∀ k, k < B + 3 → u'.heap[k]? = u.heap[k]?) : Cc u' B V vR vW m vN := by
  have hc : ∀ k i v, k < B + 3 → u.cell? ⟨k, i, none⟩ = some v → u'.cell? ⟨k, i, none⟩ = some v := fun k i v hk h => by rw [World.cell?_of_block (w := u) (a := ⟨k, i, none⟩) (hb k hk)]; exact h
  exact ⟨hc _ _ _ (by omega) h.p0, hc _ _ _ (by omega) h.p3, hc _ _ _ (by omega) h.q0, hc _ _ _ (by omega) h.c0, hc _ _ _ (by omega) h.c4, hc _ _ _ (by omega) h.c5, hc _ _ _ (by omega) h.c6, fun i => by rw [World.frozen?_of_block (w := u) (a := ⟨B + 2, i, none⟩) (hb (B + 2) (by omega))]; exact h.cf i, hc _ _ _ (by omega) h.c3⟩
theorem Cc.setN {u : World} {B V : Nat} {vR vW vN vN' : Value} {m : Int} (h : Cc u B V vR vW m vN) : Cc (u.setCell ⟨B + 2, 6, none⟩ vN') B V vR vW m vN' := by
  have hc : ∀ k i v, (k ≠ B + 2 ∨ i ≠ 6) → u.cell? ⟨k, i, none⟩ = some v → (u.setCell ⟨B + 2, 6, none⟩ vN').cell? ⟨k, i, none⟩ = some v := fun k i v hk h => by
    rw [World.cell?_setCell_other _ _ _ _ (fun e => by injection e with e1 e2; omega)]; exact h
  exact ⟨hc _ _ _ (.inl (by omega)) h.p0, hc _ _ _ (.inl (by omega)) h.p3, hc _ _ _ (.inl (by omega)) h.q0, hc _ _ _ (.inr (by omega)) h.c0, hc _ _ _ (.inr (by omega)) h.c4, hc _ _ _ (.inr (by omega)) h.c5, World.cell?_setCell_same _ _ _ h.c6, fun i => by rw [show (u.setCell ⟨B + 2, 6, none⟩ vN').frozen? ⟨B + 2, i, none⟩ = u.frozen? ⟨B + 2, i, none⟩ by simp [go_sem]]; exact h.cf i, hc _ _ _ (.inr (by omega)) h.c3⟩
theorem Tbs.slice {w : World} {base L V : Nat} {vn : Value} {b1 c1 : Nat → Nat} {rb : Nat → Nat → Nat} (h : Tbs w base L V vn b1 c1 rb) (hV : 1 ≤ V) : ∃ b0 c0, vn = .slice (some ⟨b0, 0, none⟩) V c0 ∧ base ≤ b0 := by
  rcases h.own.2 with ⟨_, e⟩ | ⟨g, cap, cur, e, hb, _⟩
  · omega
  · exact ⟨g, cap, e, hb⟩
/-- Where a table stands in a round. -/
def tgt (R : List Ru) (W : List Int) (m : Int) (fo : Nat → Nat → Nat → Int) (r lv a b : Nat) (v i j : Nat) : Int := if v = lv ∧ (i < a ∨ (i = a ∧ j < b)) then cnF R W m fo (r + 1) v i j else cnF R W m fo r v i j
/-- The same, and what else lies there. -/
def CoM (R : List Ru) (W : List Int) (m : Int) (V : Nat) (vW : Value) (w : World) (e : Ending) (w' : World) : Prop :=
  ∃ cb b0 c0 b1 c1 rb t vR, e = .returned (.pointer (some ⟨cb, 0, none⟩)) ∧ w'.cell? ⟨cb, 0, none⟩ = some (.int .i64 (V : Int)) ∧ w'.cell? ⟨cb, 4, none⟩ = some vW ∧ w'.cell? ⟨cb, 6, none⟩ = some (.slice (some ⟨b0, 0, none⟩) V c0) ∧ TbR w' V W.length b0 b1 c1 rb (cnT R W m (t + 1)) ∧
      (∀ v i j, v < V → i ≤ W.length → j ≤ W.length → cnT R W m (t + 1) v i j = cnT R W m t v i j) ∧ w'.cell? ⟨cb, 3, none⟩ = some vR ∧ RsV w' All vR R ∧ w'.cell? ⟨cb, 5, none⟩ = some (.int .i64 m) ∧ Below w.heap.size w w'
set_option maxRecDepth 100000 in
set_option maxHeartbeats 32000000 in
theorem countsOf_more (g : Gm) (va : Value) (vW : Value) (W : List Int) (m : Int) (V : Nat) (w : World) (ha : GV w All va g) (hW : IsV w All vW W) (hV : g.vars = (V : Int)) (hV1 : 1 ≤ V) (hV2 : V ≤ 1000) (hRl : g.rules.length ≤ 1000) (hRr : ∀ r ∈ g.rules, 0 ≤ r.left ∧ r.left < V ∧ ∀ s ∈ r.right, s < V ∧ -1000000 ≤ s)
    (hWl : W.length ≤ 1000) (hWr : ∀ x ∈ W, -1000000 ≤ x ∧ x ≤ 1000000) (hm : 1 ≤ m) (h62 : m ≤ 4611686018427387904) (T : Nat) (hT : ∀ v i j, v < V → i ≤ W.length → j ≤ W.length → cnT g.rules W m (T + 1) v i j = cnT g.rules W m T v i j) :
    Calls Try.prog 43 #[va, vW, .int .i64 m] w (CoM g.rules W m V vW w) := by
  obtain ⟨ua, rfl, ra⟩ := ha
  obtain ⟨aoR, capR, rfl⟩ := ra.slice
  obtain ⟨aoW, capW, rfl⟩ := hW.slice
  rw [hV]
  obtain ⟨W0, hW0⟩ : ∃ W0, W0 = ((w.alloc (.cells #[.int .i64 (V : Int), .int .i64 g.terms, .int .i64 g.start, .slice aoR g.rules.length capR] 24)).alloc (.cells #[.slice aoW W.length capW] 35)).alloc (.cells #[.int .i64 (V : Int), .int .i64 g.terms, .int .i64 g.start, .slice aoR g.rules.length capR, .slice aoW W.length capW, .int .i64 m, .slice none 0 0] 120) := ⟨_, rfl⟩
  have z0 : W0.heap.size = w.heap.size + 3 := by rw [hW0]; simp
  have b0w : Below w.heap.size w W0 := by rw [hW0]; exact (al2 w _ _).alloc (by simp <;> omega) _
  have cc0 : Cc W0 w.heap.size V (.slice aoR g.rules.length capR) (.slice aoW W.length capW) m (.slice none 0 0) := by
    rw [hW0]
    constructor <;> simp [go_sem]
  have hmf : ∀ (fn : Fn) (first cap : Array Value) (w : World), (Instr.makeFunc fn first cap).run Try.prog w = .ok (.func fn first cap) w := fun _ _ _ _ => rfl
  go_enter Try.func43, Try.ntmps43
  go_wp2_with fail
  rw [← hW0]
  have HW0 := hd hW0
  clear hW0
  refine (zero_any w.heap.size (w.heap.size + 1) V aoW W.length capW W0 cc0.p0 cc0.q0 hV2 hWl).mono ?_
  rintro e w1 ⟨vn1, b1, c1, rb, rfl, tb1, hb1⟩
  obtain ⟨b0, c0, rfl, hb0⟩ := tb1.slice hV1
  have cc1 := cc0.of (u' := w1) (fun k hk => hb1.block k (by omega))
  have z1 := hb1.size
  have c6 := cc1.c6
  have cf := cc1.cf
  have tr1 := (Tb_of tb1).r
  obtain ⟨W2, hW2⟩ : ∃ W2, W2 = w1.setCell ⟨w.heap.size + 1 + 1, 6, none⟩ (.slice (some ⟨b0, 0, none⟩) V c0) := ⟨_, rfl⟩
  have kS : ∀ k, k ≠ w.heap.size + 2 → W2.heap[k]? = w1.heap[k]? := fun k h => by rw [hW2, Below.heap_setCell _ _ _ _ (by exact h)]
  have cc2 : Cc W2 w.heap.size V (.slice aoR g.rules.length capR) (.slice aoW W.length capW) m (.slice (some ⟨b0, 0, none⟩) V c0) := by rw [hW2]; exact cc1.setN
  have bel2 : Below w.heap.size w W2 := by rw [hW2]; exact (bthen b0w hb1).setCell (p := ⟨w.heap.size + 1 + 1, 6, none⟩) (Nat.le_add_right _ 2) _
  have tr2 : TbR W2 V W.length b0 b1 c1 rb (cnT g.rules W m 0) := by
    have hk : ∀ b o u, w.heap.size + 3 ≤ b → w1.cell? ⟨b, o, none⟩ = some u → W2.cell? ⟨b, o, none⟩ = some u := fun b o u hb hc => by rw [World.cell?_of_block (w := w1) (a := ⟨b, o, none⟩) (kS b (by omega))]; exact hc
    exact ⟨fun v hv => hk _ _ _ (by omega) (tr1.h0 v hv), fun v i hv hi => hk _ _ _ (by have := (tb1.ro v hv).1; omega) (tr1.h1 v i hv hi), fun v i j hv hi hj => hk _ _ _ (by have := (tb1.rw v i hv hi).1; omega) (tr1.h2 v i j hv hi hj)⟩
  clear tb1 tr1 hb0
  go_wp2_with fail
  rw [← hW2]
  have HW2 := hd hW2
  clear hW2 kS c6 cf cc1 hb1 z1
  go_loopg [9] (T + 2) (fun gk v wr => ∃ (t : Nat) (mb : Bool) (b0 c0 : Nat) (b1 c1 : Nat → Nat) (rb : Nat → Nat → Nat), v = .bool mb ∧ (mb = true → t ≤ T ∧ T - t + 2 ≤ gk) ∧ (mb = false → ∃ t', t = t' + 1 ∧ ∀ v i j, v < V → i ≤ W.length → j ≤ W.length → cnT g.rules W m (t' + 1) v i j = cnT g.rules W m t' v i j) ∧
    Cc wr w.heap.size V (.slice aoR g.rules.length capR) (.slice aoW W.length capW) m (.slice (some ⟨b0, 0, none⟩) V c0) ∧ TbR wr V W.length b0 b1 c1 rb (cnT g.rules W m t) ∧ Below w.heap.size w wr)
  case atStart => exact ⟨0, true, b0, c0, b1, c1, rb, rfl, fun _ => ⟨Nat.zero_le _, by omega⟩, fun h => (by cases h), cc2, tr2, bel2⟩
  case round =>
    obtain ⟨t, mb, b0, c0, b1, c1, rb, rfl, hmt, hmf2, cc, tr, bel⟩ := hrel
    cases mb with
    | false =>
      obtain ⟨t', rfl, hst⟩ := hmf2 rfl
      go_wp2_with fail
      go_ret
      exact ⟨_, b0, c0, b1, c1, rb, t', _, rfl, cc.c0, cc.c4, cc.c6, tr, hst, cc.c3, ra.lw bel, cc.c5, bel⟩
    | true =>
    obtain ⟨htT, hgk⟩ := hmt rfl
    obtain ⟨gj, rfl⟩ : ∃ gj, gk = gj + 1 := ⟨gk - 1, by omega⟩
    have p0 := cc.p0
    have q0 := cc.q0
    have hcz := lt_of_cell cc.c0
    go_wp2_with fail
    refine (zero_any w.heap.size (w.heap.size + 1) V aoW W.length capW wr p0 q0 hV2 hWl).mono ?_
    rintro e wz ⟨vn, d1, e1, rd, rfl, tbn, hbz⟩
    obtain ⟨d0, e0, rfl, hd0⟩ := tbn.slice hV1
    have tn := Tb_of tbn
    have hd1 := fun v (hv : v < V) => (tbn.ro v hv).1
    generalize wr = wq at *
    generalize hfoe : cnT g.rules W m t = fo at *
    clear hmf2 hmt tbn
    have hfo : ∀ v i j, 0 ≤ fo v i j := fun v i j => by rw [← hfoe]; exact (cnT_rng hm t v i j).1
    have hfo2 : ∀ v i j, 0 ≤ fo v i j ∧ fo v i j ≤ m := fun v i j => by rw [← hfoe]; exact cnT_rng hm t v i j
    have ztop : w.heap.size + 3 ≤ wq.heap.size := by omega
    have hd0' := hd0
    go_wp2_with fail
    go_loopw [11] (fun r wx => ∃ (rn : Nat) (f : Nat → Nat → Nat → Int), rn ≤ g.rules.length ∧ r = .int .i64 rn ∧ Tb wx wq.heap.size V W.length d0 d1 e1 rd f ∧ (∀ v i j, v < V → i ≤ W.length → j ≤ W.length → f v i j = cnF g.rules W m fo rn v i j) ∧ Below wq.heap.size wq wx) (fun r _ => g.rules.length - (intOf r).toNat)
    case atStart => exact ⟨0, _, Nat.zero_le _, rfl, tn, fun _ _ _ _ _ _ => rfl, hbz⟩
    case round =>
      obtain ⟨rn, f, hrn, rfl, tb, hf, be⟩ := hrel
      have ccr := cc.of (u' := wr) (fun k hk => be.block k (by omega))
      have r3 := ccr.p3
      have r4 := ccr.q0
      have r1 := ccr.p0
      have bew : Below w.heap.size w wr := bthen bel be
      by_cases hlt : rn < g.rules.length
      · obtain ⟨bR, oR, rfl, x0, ar, cr, x1, hright⟩ := ra.at_ hlt
        have hru := hRr _ (List.getElem_mem hlt)
        have hcn := fun v i j => cnF_at (R := g.rules) (W := W) (m := m) (f := fo) hlt v i j
        generalize g.rules[rn] = ru at *
        obtain ⟨hl0, hl1, hsy⟩ := hru
        obtain ⟨lv, hlv⟩ := Int.eq_ofNat_of_zero_le hl0
        have hlvV : lv < V := by omega
        have x0r := bkeep bew x0
        rw [hlv] at x0r
        go_wp2_with fail
        go_loopw [13] (fun i wx => ∃ (iN : Nat) (f : Nat → Nat → Nat → Int), iN ≤ W.length + 1 ∧ i = .int .i64 iN ∧ Tb wx wq.heap.size V W.length d0 d1 e1 rd f ∧ (∀ v i j, v < V → i ≤ W.length → j ≤ W.length → f v i j = tgt g.rules W m fo rn lv iN 0 v i j) ∧ Below wq.heap.size wq wx) (fun i _ => W.length + 1 - (intOf i).toNat)
        case atStart => exact ⟨0, f, Nat.zero_le _, rfl, tb, fun v i j h1 h2 h3 => by unfold tgt; rw [if_neg (by omega)]; exact hf v i j h1 h2 h3, be⟩
        case round =>
          obtain ⟨iN, f3, hiN, rfl, tb3, hf3, be3⟩ := hrel
          have cc3 := cc.of (u' := wr) (fun k hk => be3.block k (by omega))
          have s4 := cc3.q0
          by_cases hlt3 : iN ≤ W.length
          · go_wp2_with fail
            go_loopw [14] (fun j wx => ∃ (jN : Nat) (f : Nat → Nat → Nat → Int), iN ≤ jN ∧ jN ≤ W.length + 1 ∧ j = .int .i64 jN ∧ Tb wx wq.heap.size V W.length d0 d1 e1 rd f ∧ (∀ v i j, v < V → i ≤ W.length → j ≤ W.length → f v i j = tgt g.rules W m fo rn lv iN jN v i j) ∧ Below wq.heap.size wq wx) (fun j _ => W.length + 1 - (intOf j).toNat)
            case atStart =>
              refine ⟨iN, f3, Nat.le_refl _, by omega, rfl, tb3, fun v i j h1 h2 h3 => (hf3 v i j h1 h2 h3).trans ?_, be3⟩
              unfold tgt
              by_cases e : v = lv ∧ i = iN ∧ j < iN
              · rw [if_neg (by omega), if_pos (by omega), hcn, if_neg (by omega)]
              · by_cases e2 : v = lv ∧ i < iN
                · rw [if_pos (by omega), if_pos (by omega)]
                · rw [if_neg (by omega), if_neg (by omega)]
            case round =>
              obtain ⟨jN, f4, hjI, hjN, rfl, tb4, hf4, be4⟩ := hrel
              have cc4 := cc.of (u' := wr) (fun k hk => be4.block k (by omega))
              have u4 := cc4.q0
              by_cases hlt4 : jN ≤ W.length
              · have hjW : jN < W.length + 1 := by omega
                have hjW2 : (jN : Int) < (W.length : Int) + 1 := by omega
                have hiW : iN < W.length + 1 := by omega
                have hiW2 : (iN : Int) < (W.length : Int) + 1 := by omega
                have hlv2 : (lv : Int) < (V : Int) := by omega
                have hbR := lt_of_cell x1
                have bew4 : Below w.heap.size w wr := bthen bel (be4.mono (by omega))
                have hzv : f4 lv iN jN = cnF g.rules W m fo rn lv iN jN := by rw [hf4 lv iN jN hlvV hlt3 hlt4]; unfold tgt; rw [if_neg (by omega)]
                have hz := cnF_rng (R := g.rules) (W := W) (m := m) (f := fo) hm hfo rn lv iN jN
                have hwy := wyN_rng (W := W) (m := m) (f := fo) (i := iN) (j := jN) (l := ru.right) hm hfo
                have gz0 := tb4.r.h2 lv iN jN hlvV hlt3 hlt4
                rw [hzv] at gz0
                have hcn' := hcn lv iN jN
                rw [if_pos ⟨hlv, hjI⟩] at hcn'
                have hf5 : ∀ v i j, v < V → i ≤ W.length → j ≤ W.length → upd f4 lv iN jN (smI (cnF g.rules W m fo rn lv iN jN) (wyN fo W m iN jN ru.right) m) v i j = tgt g.rules W m fo rn lv iN (jN + 1) v i j := fun v i j h1 h2 h3 => by
                  unfold upd
                  by_cases e : v = lv ∧ i = iN ∧ j = jN
                  · obtain ⟨rfl, rfl, rfl⟩ := e
                    rw [if_pos ⟨rfl, rfl, rfl⟩, ← hcn']
                    unfold tgt
                    rw [if_pos ⟨rfl, .inr ⟨rfl, Nat.lt_succ_self _⟩⟩]
                  · rw [if_neg e, hf4 v i j h1 h2 h3]
                    unfold tgt
                    by_cases e2 : v = lv ∧ (i < iN ∨ (i = iN ∧ j < jN))
                    · rw [if_pos e2, if_pos (by omega)]
                    · rw [if_neg e2, if_neg (by omega)]
                have CW := fun y (hb : Below wq.heap.size wq y) => cways_any (w.heap.size + 2) (.slice aoW W.length capW) W m V b0 c0 b1 c1 rb fo (.slice ar ru.right.length cr) ru.right iN jN y (bkeep hb cc.c4) (hW.lw (bthen bel hb)) (bkeep hb cc.c5) (bkeep hb cc.c6) (tr.lw hb) (hright.lw (bthen bel hb)) hsy hWl hV2 hWr hjI hlt4 hm h62 (fun v a b _ _ _ => hfo2 v a b)
                generalize wyN fo W m iN jN ru.right = wy at *
                generalize cnF g.rules W m fo rn lv iN jN = z at *
                have bD : Below wr.heap.size wr wr.drew := drw1 wr
                have beD := bthen be4 bD
                have tbD := tb4.lw bD
                have gz := bkeep bD gz0
                have S18 : World.cell? wr.drew ⟨w.heap.size, 3, none⟩ = some (.slice (some ⟨bR, oR, none⟩) g.rules.length capR) ∧ World.cell? wr.drew ⟨bR, oR + rn * 2 + 1, none⟩ = some (.slice ar ru.right.length cr) ∧ World.cell? wr.drew ⟨d0, lv, none⟩ = some (.slice (some ⟨d1 lv, 0, none⟩) (W.length + 1) (e1 lv)) ∧ World.cell? wr.drew ⟨d1 lv, iN, none⟩ = some (.slice (some ⟨rd lv iN, 0, none⟩) (W.length + 1) (W.length + 1)) := ⟨cc4.p3, bkeep bD (bkeep bew4 x1), tbD.r.h0 lv hlvV, tbD.r.h1 lv iN hlvV hlt3⟩
                clear hcn' hzv gz0
                go_wp2_with fail
                refine wp_region_noPanic ?_
                refine wp_region_held_drew (S := fun w' => World.cell? w' ⟨w.heap.size, 3, none⟩ = some (.slice (some ⟨bR, oR, none⟩) g.rules.length capR) ∧ World.cell? w' ⟨bR, oR + rn * 2 + 1, none⟩ = some (.slice ar ru.right.length cr) ∧ World.cell? w' ⟨d0, lv, none⟩ = some (.slice (some ⟨d1 lv, 0, none⟩) (W.length + 1) (e1 lv)) ∧ World.cell? w' ⟨d1 lv, iN, none⟩ = some (.slice (some ⟨rd lv iN, 0, none⟩) (W.length + 1) (W.length + 1))) (by kernel_rfl) S18 ?_
                intro hSw
                obtain ⟨y0, hy0⟩ : ∃ y0, y0 = wr.drew := ⟨_, rfl⟩
                rw [← hy0] at hSw beD tbD gz ⊢
                clear hy0
                refine wpAnyH_take (i := 0) (v := ?v1) rfl (by kernel_rfl) (by kernel_rfl) (by kernel_rfl) (fun _ _ _ h => np_panic h) (Or.inl ⟨by rfl, ?hy1⟩) (by assumption) ?_
                case hy1 => (intro w' hS'; (try dsimp only at hS'); go_simp; try with_reducible rfl)
                simp only [Act.put, List.setIfInBounds_toArray, List.set_cons_zero, List.set_cons_succ, List.getElem_toArray, List.getElem_cons_zero]
                refine wpAnyH_take (i := 1) (v := ?v2) rfl (by kernel_rfl) (by kernel_rfl) (by kernel_rfl) (fun _ _ _ h => np_panic h) (Or.inl ⟨by rfl, ?hy2⟩) (by assumption) ?_
                case hy2 => (intro w' hS'; (try dsimp only at hS'); go_simp; try with_reducible rfl)
                simp only [Act.put, List.setIfInBounds_toArray, List.set_cons_zero, List.set_cons_succ, List.getElem_toArray, List.getElem_cons_succ, List.getElem_cons_zero]
                refine wpAnyH_take (i := 2) (v := ?v3) rfl (by kernel_rfl) (by kernel_rfl) (by kernel_rfl) (fun _ _ _ h => np_panic h) (Or.inl ⟨by rfl, ?hy3⟩) (by assumption) ?_
                case hy3 => (intro w' hS'; (try dsimp only at hS'); go_simp; try with_reducible rfl)
                simp only [Act.put, List.setIfInBounds_toArray, List.set_cons_zero, List.set_cons_succ, List.getElem_toArray, List.getElem_cons_succ, List.getElem_cons_zero]
                refine wpAnyH_take (i := 3) (v := ?v4) rfl (by kernel_rfl) (by kernel_rfl) (by kernel_rfl) (fun _ _ _ h => np_panic h) (Or.inl ⟨by rfl, ?hy4⟩) (by assumption) ?_
                case hy4 => (intro w' hS'; (try dsimp only at hS'); go_simp; try with_reducible rfl)
                simp only [Act.put, List.setIfInBounds_toArray, List.set_cons_zero, List.set_cons_succ, List.getElem_toArray, List.getElem_cons_succ, List.getElem_cons_zero]
                refine wpAnyH_take (i := 4) (v := ?v5) rfl (by kernel_rfl) (by kernel_rfl) (by kernel_rfl) (fun _ _ _ h => np_panic h) (Or.inl ⟨by rfl, ?hy5⟩) (by assumption) ?_
                case hy5 => (intro w' hS'; (try dsimp only at hS'); go_simp; try with_reducible rfl)
                simp only [Act.put, List.setIfInBounds_toArray, List.set_cons_zero, List.set_cons_succ, List.getElem_toArray, List.getElem_cons_succ, List.getElem_cons_zero]
                refine wpAnyH_take (i := 5) (v := ?v6) rfl (by kernel_rfl) (by kernel_rfl) (by kernel_rfl) (fun _ _ _ h => np_panic h) (Or.inl ⟨by rfl, ?hy6⟩) (by assumption) ?_
                case hy6 => (intro w' hS'; (try dsimp only at hS'); go_simp; try with_reducible rfl)
                simp only [Act.put, List.setIfInBounds_toArray, List.set_cons_zero, List.set_cons_succ, List.getElem_toArray, List.getElem_cons_succ, List.getElem_cons_zero]
                refine wpAnyH_take (i := 6) (v := ?v7) rfl (by kernel_rfl) (by kernel_rfl) (by kernel_rfl) (fun _ _ _ h => np_panic h) (Or.inl ⟨by rfl, ?hy7⟩) (by assumption) ?_
                case hy7 => (intro w' hS'; (try dsimp only at hS'); go_simp; try with_reducible rfl)
                simp only [Act.put, List.setIfInBounds_toArray, List.set_cons_zero, List.set_cons_succ, List.getElem_toArray, List.getElem_cons_succ, List.getElem_cons_zero]
                refine wpAnyH_take (i := 7) (v := ?v8) rfl (by kernel_rfl) (by kernel_rfl) (by kernel_rfl) (fun _ _ _ h => np_panic h) (Or.inl ⟨by rfl, ?hy8⟩) (by assumption) ?_
                case hy8 => (intro w' hS'; (try dsimp only at hS'); go_simp; try with_reducible rfl)
                simp only [Act.put, List.setIfInBounds_toArray, List.set_cons_zero, List.set_cons_succ, List.getElem_toArray, List.getElem_cons_succ, List.getElem_cons_zero]
                refine wpAnyH_take (i := 8) (v := ?v9) rfl (by kernel_rfl) (by kernel_rfl) (by kernel_rfl) (fun _ _ _ h => np_panic h) (Or.inl ⟨by rfl, ?hy9⟩) (by assumption) ?_
                case hy9 => (intro w' hS'; (try dsimp only at hS'); go_simp; try with_reducible rfl)
                simp only [Act.put, List.setIfInBounds_toArray, List.set_cons_zero, List.set_cons_succ, List.getElem_toArray, List.getElem_cons_succ, List.getElem_cons_zero]
                refine wpAnyH_take (i := 9) (v := ?v10) rfl (by kernel_rfl) (by kernel_rfl) (by kernel_rfl) (fun _ _ _ h => np_panic h) (Or.inl ⟨by rfl, ?hy10⟩) (by assumption) ?_
                case hy10 => (intro w' hS'; (try dsimp only at hS'); go_simp; try with_reducible rfl)
                simp only [Act.put, List.setIfInBounds_toArray, List.set_cons_zero, List.set_cons_succ, List.getElem_toArray, List.getElem_cons_succ, List.getElem_cons_zero]
                refine wpAnyH_take (i := 10) (v := ?v11) rfl (by kernel_rfl) (by kernel_rfl) (by kernel_rfl) (fun _ _ _ h => np_panic h) (Or.inl ⟨by rfl, ?hy11⟩) (by assumption) ?_
                case hy11 => (intro w' hS'; (try dsimp only at hS'); go_simp; try with_reducible rfl)
                simp only [Act.put, List.setIfInBounds_toArray, List.set_cons_zero, List.set_cons_succ, List.getElem_toArray, List.getElem_cons_succ, List.getElem_cons_zero]
                refine wpAnyH_take (i := 11) (v := ?v12) rfl (by kernel_rfl) (by kernel_rfl) (by kernel_rfl) (fun _ _ _ h => np_panic h) (Or.inl ⟨by rfl, ?hy12⟩) (by assumption) ?_
                case hy12 => (intro w' hS'; (try dsimp only at hS'); go_simp; try with_reducible rfl)
                simp only [Act.put, List.setIfInBounds_toArray, List.set_cons_zero, List.set_cons_succ, List.getElem_toArray, List.getElem_cons_succ, List.getElem_cons_zero]
                refine wpAnyH_take (i := 12) (v := ?v13) rfl (by kernel_rfl) (by kernel_rfl) (by kernel_rfl) (fun _ _ _ h => np_panic h) (Or.inl ⟨by rfl, ?hy13⟩) (by assumption) ?_
                case hy13 => (intro w' hS'; (try dsimp only at hS'); go_simp; try with_reducible rfl)
                simp only [Act.put, List.setIfInBounds_toArray, List.set_cons_zero, List.set_cons_succ, List.getElem_toArray, List.getElem_cons_succ, List.getElem_cons_zero]
                refine wpAnyH_take (i := 13) (v := ?v14) rfl (by kernel_rfl) (by kernel_rfl) (by kernel_rfl) (fun _ _ _ h => np_panic h) (Or.inl ⟨by rfl, ?hy14⟩) (by assumption) ?_
                case hy14 => (intro w' hS'; (try dsimp only at hS'); go_simp; try with_reducible rfl)
                simp only [Act.put, List.setIfInBounds_toArray, List.set_cons_zero, List.set_cons_succ, List.getElem_toArray, List.getElem_cons_succ, List.getElem_cons_zero]
                refine wpAnyH_take (i := 14) (v := ?v15) rfl (by kernel_rfl) (by kernel_rfl) (by kernel_rfl) (fun _ _ _ h => np_panic h) (Or.inl ⟨by rfl, ?hy15⟩) (by assumption) ?_
                case hy15 => (intro w' hS'; (try dsimp only at hS'); go_simp; try with_reducible rfl)
                simp only [Act.put, List.setIfInBounds_toArray, List.set_cons_zero, List.set_cons_succ, List.getElem_toArray, List.getElem_cons_succ, List.getElem_cons_zero]
                refine wpAnyH_take (i := 15) (v := ?v16) rfl (by kernel_rfl) (by kernel_rfl) (by kernel_rfl) (fun _ _ _ h => np_panic h) (Or.inl ⟨by rfl, ?hy16⟩) (by assumption) ?_
                case hy16 => (intro w' hS'; (try dsimp only at hS'); go_simp; try with_reducible rfl)
                simp only [Act.put, List.setIfInBounds_toArray, List.set_cons_zero, List.set_cons_succ, List.getElem_toArray, List.getElem_cons_succ, List.getElem_cons_zero]
                refine wpAnyH_take (i := 16) (v := ?v17) rfl (by kernel_rfl) (by kernel_rfl) (by kernel_rfl) (fun _ _ _ h => np_panic h) (Or.inl ⟨by rfl, ?hy17⟩) (by assumption) ?_
                case hy17 => (intro w' hS'; (try dsimp only at hS'); go_simp; try with_reducible rfl)
                simp only [Act.put, List.setIfInBounds_toArray, List.set_cons_zero, List.set_cons_succ, List.getElem_toArray, List.getElem_cons_succ, List.getElem_cons_zero]
                refine wpAnyH_take (i := 18) (v := ?v18) rfl (by kernel_rfl) (by kernel_rfl) (by kernel_rfl) (fun _ _ _ h => np_panic h) (Or.inl ⟨by rfl, ?hy18⟩) (by assumption) ?_
                case hy18 => (intro w' hS'; (try dsimp only at hS'); go_simp; try with_reducible rfl)
                simp only [Act.put, List.setIfInBounds_toArray, List.set_cons_zero, List.set_cons_succ, List.getElem_toArray, List.getElem_cons_succ, List.getElem_cons_zero]
                refine wpAnyH_take (i := 19) (v := ?v19) rfl (by kernel_rfl) (by kernel_rfl) (by kernel_rfl) (fun _ _ _ h => np_panic h) (Or.inl ⟨by rfl, ?hy19⟩) (by assumption) ?_
                case hy19 => (intro w' hS'; (try dsimp only at hS'); go_simp; try with_reducible rfl)
                simp only [Act.put, List.setIfInBounds_toArray, List.set_cons_zero, List.set_cons_succ, List.getElem_toArray, List.getElem_cons_succ, List.getElem_cons_zero]
                refine wpAnyH_take (i := 20) (v := ?v20) rfl (by kernel_rfl) (by kernel_rfl) (by kernel_rfl) (fun _ _ _ h => np_panic h) (Or.inl ⟨by rfl, ?hy20⟩) (by assumption) ?_
                case hy20 => (intro w' hS'; (try dsimp only at hS'); go_simp; try with_reducible rfl)
                simp only [Act.put, List.setIfInBounds_toArray, List.set_cons_zero, List.set_cons_succ, List.getElem_toArray, List.getElem_cons_succ, List.getElem_cons_zero]
                refine wpAnyH_take (i := 21) (v := ?v21) rfl (by kernel_rfl) (by kernel_rfl) (by kernel_rfl) (fun _ _ _ h => np_panic h) (Or.inl ⟨by rfl, ?hy21⟩) (by assumption) ?_
                case hy21 => (intro w' hS'; (try dsimp only at hS'); go_simp; try with_reducible rfl)
                simp only [Act.put, List.setIfInBounds_toArray, List.set_cons_zero, List.set_cons_succ, List.getElem_toArray, List.getElem_cons_succ, List.getElem_cons_zero]
                refine wpAnyH_take (i := 22) (v := ?v22) rfl (by kernel_rfl) (by kernel_rfl) (by kernel_rfl) (fun _ _ _ h => np_panic h) (Or.inl ⟨by rfl, ?hy22⟩) (by assumption) ?_
                case hy22 => (intro w' hS'; (try dsimp only at hS'); go_simp; try with_reducible rfl)
                simp only [Act.put, List.setIfInBounds_toArray, List.set_cons_zero, List.set_cons_succ, List.getElem_toArray, List.getElem_cons_succ, List.getElem_cons_zero]
                refine wpAnyH_take (i := 23) (v := ?v23) rfl (by kernel_rfl) (by kernel_rfl) (by kernel_rfl) (fun _ _ _ h => np_panic h) (Or.inl ⟨by rfl, ?hy23⟩) (by assumption) ?_
                case hy23 => (intro w' hS'; (try dsimp only at hS'); go_simp; try with_reducible rfl)
                simp only [Act.put, List.setIfInBounds_toArray, List.set_cons_zero, List.set_cons_succ, List.getElem_toArray, List.getElem_cons_succ, List.getElem_cons_zero]
                refine wpAnyH_take (i := 24) (v := ?v24) rfl (by kernel_rfl) (by kernel_rfl) (by kernel_rfl) (fun _ _ _ h => np_panic h) (Or.inl ⟨by rfl, ?hy24⟩) (by assumption) ?_
                case hy24 => (intro w' hS'; (try dsimp only at hS'); go_simp; try with_reducible rfl)
                simp only [Act.put, List.setIfInBounds_toArray, List.set_cons_zero, List.set_cons_succ, List.getElem_toArray, List.getElem_cons_succ, List.getElem_cons_zero]
                refine wpAnyH_take (i := 25) (v := ?v25) rfl (by kernel_rfl) (by kernel_rfl) (by kernel_rfl) (fun _ _ _ h => np_panic h) (Or.inl ⟨by rfl, ?hy25⟩) (by assumption) ?_
                case hy25 => (intro w' hS'; (try dsimp only at hS'); go_simp; try with_reducible rfl)
                simp only [Act.put, List.setIfInBounds_toArray, List.set_cons_zero, List.set_cons_succ, List.getElem_toArray, List.getElem_cons_succ, List.getElem_cons_zero]
                refine wpAnyH_take (i := 26) (v := ?v26) rfl (by kernel_rfl) (by kernel_rfl) (by kernel_rfl) (fun _ _ _ h => np_panic h) (Or.inl ⟨by rfl, ?hy26⟩) (by assumption) ?_
                case hy26 => (intro w' hS'; (try dsimp only at hS'); go_simp; try with_reducible rfl)
                simp only [Act.put, List.setIfInBounds_toArray, List.set_cons_zero, List.set_cons_succ, List.getElem_toArray, List.getElem_cons_succ, List.getElem_cons_zero]
                refine wpAnyH_take (i := 28) (v := ?v27) rfl (by kernel_rfl) (by kernel_rfl) (by kernel_rfl) (fun _ _ _ h => np_panic h) (Or.inl ⟨by rfl, ?hy27⟩) (by assumption) ?_
                case hy27 => (intro w' hS'; (try dsimp only at hS'); go_simp; try with_reducible rfl)
                simp only [Act.put, List.setIfInBounds_toArray, List.set_cons_zero, List.set_cons_succ, List.getElem_toArray, List.getElem_cons_succ, List.getElem_cons_zero]
                refine wpAnyH_ready (rs := [17, 27]) (by kernel_rfl) (by simp) ?_
                refine AllReadyH.cons rfl (fun K hK => ?_) (AllReadyH.cons rfl (fun K hK => ?_) AllReadyH.nil)
                · go_simp
                  refine hK.out _ _ hSw ?_
                  clear hK K
                  intro hSw
                  try simp only [Act.put, List.setIfInBounds_toArray, List.set_cons_zero, List.set_cons_succ]
                  refine wpAnyH_ready (rs := [27]) (by kernel_rfl) (by simp) ?_
                  refine AllReadyH.cons rfl (fun K hK => ?_) AllReadyH.nil
                  go_simp
                  go_at_call 93
                  refine (CW _ beD).mono ?_
                  rintro e y1 ⟨rfl, hby⟩
                  have tbY := tbD.lw hby
                  have gzY := bkeep hby gz
                  have fzY := fun c => tbY.fz lv iN c hlvV hlt3
                  have beY := bthen beD hby
                  have sY : World.cell? y1 ⟨w.heap.size, 3, none⟩ = some (.slice (some ⟨bR, oR, none⟩) g.rules.length capR) ∧ World.cell? y1 ⟨bR, oR + rn * 2 + 1, none⟩ = some (.slice ar ru.right.length cr) ∧ World.cell? y1 ⟨d0, lv, none⟩ = some (.slice (some ⟨d1 lv, 0, none⟩) (W.length + 1) (e1 lv)) ∧ World.cell? y1 ⟨d1 lv, iN, none⟩ = some (.slice (some ⟨rd lv iN, 0, none⟩) (W.length + 1) (W.length + 1)) := ⟨bkeep hby hSw.1, bkeep hby hSw.2.1, bkeep hby hSw.2.2.1, bkeep hby hSw.2.2.2⟩
                  refine hK.out _ _ sY ?_
                  clear hK K
                  intro hSw
                  try simp only [Act.put, List.setIfInBounds_toArray, List.set_cons_zero, List.set_cons_succ]
                  refine wpAnyH_ready (rs := [29]) (by kernel_rfl) (by simp) ?_
                  refine AllReadyH.cons rfl (fun K hK => ?_) AllReadyH.nil
                  go_simp
                  go_at_call 92
                  refine (sum_any z wy m _ hz.1 hwy.1 hm h62 hz.2 hwy.2).mono ?_
                  rintro e wx ⟨rfl, hwx⟩
                  obtain rfl := hwx.symm
                  refine hK.out _ _ hSw ?_
                  clear hK K
                  intro hSw
                  try simp only [Act.put, List.setIfInBounds_toArray, List.set_cons_zero, List.set_cons_succ]
                  refine wpAnyH_take (i := 30) (v := ?v28) rfl (by kernel_rfl) (by kernel_rfl) (by kernel_rfl) (fun _ _ _ h => np_panic h) (Or.inl ⟨by rfl, ?hy28⟩) (by assumption) ?_
                  case hy28 => (intro w' hS'; (try dsimp only at hS'); go_simp; try with_reducible rfl)
                  simp only [Act.put, List.setIfInBounds_toArray, List.set_cons_zero, List.set_cons_succ, List.getElem_toArray, List.getElem_cons_succ, List.getElem_cons_zero]
                  refine wpAnyH_ready (rs := [31]) (by kernel_rfl) (by simp) ?_
                  refine AllReadyH.cons rfl (fun K hK => ?_) AllReadyH.nil
                  go_simp
                  have tb5 := tbY.set hlvV hlt3 hlt4 (smI z wy m)
                  have be5 := beY.setCell (p := ⟨rd lv iN, jN, none⟩) (tbY.ge lv iN hlvV hlt3) (.int .i64 (smI z wy m))
                  have kp : ∀ b o u, b ≠ rd lv iN → y1.cell? ⟨b, o, none⟩ = some u → (World.setCell y1 ⟨rd lv iN, jN, none⟩ (.int .i64 (smI z wy m))).cell? ⟨b, o, none⟩ = some u := fun b o u hb hc => by
                    rw [World.cell?_of_block (w := y1) (a := ⟨b, o, none⟩) (Below.heap_setCell _ _ _ _ hb)]; exact hc
                  have hge := tbY.ge lv iN hlvV hlt3
                  have s5 : World.cell? (World.setCell y1 ⟨rd lv iN, jN, none⟩ (.int .i64 (smI z wy m))) ⟨w.heap.size, 3, none⟩ = some (.slice (some ⟨bR, oR, none⟩) g.rules.length capR) ∧ World.cell? (World.setCell y1 ⟨rd lv iN, jN, none⟩ (.int .i64 (smI z wy m))) ⟨bR, oR + rn * 2 + 1, none⟩ = some (.slice ar ru.right.length cr) ∧ World.cell? (World.setCell y1 ⟨rd lv iN, jN, none⟩ (.int .i64 (smI z wy m))) ⟨d0, lv, none⟩ = some (.slice (some ⟨d1 lv, 0, none⟩) (W.length + 1) (e1 lv)) ∧ World.cell? (World.setCell y1 ⟨rd lv iN, jN, none⟩ (.int .i64 (smI z wy m))) ⟨d1 lv, iN, none⟩ = some (.slice (some ⟨rd lv iN, 0, none⟩) (W.length + 1) (W.length + 1)) := ⟨kp _ _ _ (by omega) hSw.1, kp _ _ _ (by omega) hSw.2.1, kp _ _ _ (fun e => tbY.n0 lv iN hlvV hlt3 e.symm) hSw.2.2.1, kp _ _ _ (fun e => tbY.n1 lv iN lv hlvV hlt3 hlvV e.symm) hSw.2.2.2⟩
                  refine hK.out _ _ s5 ?_
                  clear hK K
                  intro hSw
                  try simp only [Act.put, List.setIfInBounds_toArray, List.set_cons_zero, List.set_cons_succ]
                  refine wpAnyH_done (by kernel_rfl) (NoPanic.normal ?_) _
                  go_wp2_with fail
                  go_roundw
                  case rel => exact ⟨jN + 1, _, by omega, by omega, by go_num, tb5, hf5, be5⟩
                  case measure => simp [intOf]; omega
                · go_simp
                  go_at_call 93
                  refine (CW _ beD).mono ?_
                  rintro e y1 ⟨rfl, hby⟩
                  have tbY := tbD.lw hby
                  have gzY := bkeep hby gz
                  have fzY := fun c => tbY.fz lv iN c hlvV hlt3
                  have beY := bthen beD hby
                  have sY : World.cell? y1 ⟨w.heap.size, 3, none⟩ = some (.slice (some ⟨bR, oR, none⟩) g.rules.length capR) ∧ World.cell? y1 ⟨bR, oR + rn * 2 + 1, none⟩ = some (.slice ar ru.right.length cr) ∧ World.cell? y1 ⟨d0, lv, none⟩ = some (.slice (some ⟨d1 lv, 0, none⟩) (W.length + 1) (e1 lv)) ∧ World.cell? y1 ⟨d1 lv, iN, none⟩ = some (.slice (some ⟨rd lv iN, 0, none⟩) (W.length + 1) (W.length + 1)) := ⟨bkeep hby hSw.1, bkeep hby hSw.2.1, bkeep hby hSw.2.2.1, bkeep hby hSw.2.2.2⟩
                  refine hK.out _ _ sY ?_
                  clear hK K
                  intro hSw
                  try simp only [Act.put, List.setIfInBounds_toArray, List.set_cons_zero, List.set_cons_succ]
                  refine wpAnyH_ready (rs := [17]) (by kernel_rfl) (by simp) ?_
                  refine AllReadyH.cons rfl (fun K hK => ?_) AllReadyH.nil
                  go_simp
                  refine hK.out _ _ hSw ?_
                  clear hK K
                  intro hSw
                  try simp only [Act.put, List.setIfInBounds_toArray, List.set_cons_zero, List.set_cons_succ]
                  refine wpAnyH_ready (rs := [29]) (by kernel_rfl) (by simp) ?_
                  refine AllReadyH.cons rfl (fun K hK => ?_) AllReadyH.nil
                  go_simp
                  go_at_call 92
                  refine (sum_any z wy m _ hz.1 hwy.1 hm h62 hz.2 hwy.2).mono ?_
                  rintro e wx ⟨rfl, hwx⟩
                  obtain rfl := hwx.symm
                  refine hK.out _ _ hSw ?_
                  clear hK K
                  intro hSw
                  try simp only [Act.put, List.setIfInBounds_toArray, List.set_cons_zero, List.set_cons_succ]
                  refine wpAnyH_take (i := 30) (v := ?v29) rfl (by kernel_rfl) (by kernel_rfl) (by kernel_rfl) (fun _ _ _ h => np_panic h) (Or.inl ⟨by rfl, ?hy29⟩) (by assumption) ?_
                  case hy29 => (intro w' hS'; (try dsimp only at hS'); go_simp; try with_reducible rfl)
                  simp only [Act.put, List.setIfInBounds_toArray, List.set_cons_zero, List.set_cons_succ, List.getElem_toArray, List.getElem_cons_succ, List.getElem_cons_zero]
                  refine wpAnyH_ready (rs := [31]) (by kernel_rfl) (by simp) ?_
                  refine AllReadyH.cons rfl (fun K hK => ?_) AllReadyH.nil
                  go_simp
                  have tb5 := tbY.set hlvV hlt3 hlt4 (smI z wy m)
                  have be5 := beY.setCell (p := ⟨rd lv iN, jN, none⟩) (tbY.ge lv iN hlvV hlt3) (.int .i64 (smI z wy m))
                  have kp : ∀ b o u, b ≠ rd lv iN → y1.cell? ⟨b, o, none⟩ = some u → (World.setCell y1 ⟨rd lv iN, jN, none⟩ (.int .i64 (smI z wy m))).cell? ⟨b, o, none⟩ = some u := fun b o u hb hc => by
                    rw [World.cell?_of_block (w := y1) (a := ⟨b, o, none⟩) (Below.heap_setCell _ _ _ _ hb)]; exact hc
                  have hge := tbY.ge lv iN hlvV hlt3
                  have s5 : World.cell? (World.setCell y1 ⟨rd lv iN, jN, none⟩ (.int .i64 (smI z wy m))) ⟨w.heap.size, 3, none⟩ = some (.slice (some ⟨bR, oR, none⟩) g.rules.length capR) ∧ World.cell? (World.setCell y1 ⟨rd lv iN, jN, none⟩ (.int .i64 (smI z wy m))) ⟨bR, oR + rn * 2 + 1, none⟩ = some (.slice ar ru.right.length cr) ∧ World.cell? (World.setCell y1 ⟨rd lv iN, jN, none⟩ (.int .i64 (smI z wy m))) ⟨d0, lv, none⟩ = some (.slice (some ⟨d1 lv, 0, none⟩) (W.length + 1) (e1 lv)) ∧ World.cell? (World.setCell y1 ⟨rd lv iN, jN, none⟩ (.int .i64 (smI z wy m))) ⟨d1 lv, iN, none⟩ = some (.slice (some ⟨rd lv iN, 0, none⟩) (W.length + 1) (W.length + 1)) := ⟨kp _ _ _ (by omega) hSw.1, kp _ _ _ (by omega) hSw.2.1, kp _ _ _ (fun e => tbY.n0 lv iN hlvV hlt3 e.symm) hSw.2.2.1, kp _ _ _ (fun e => tbY.n1 lv iN lv hlvV hlt3 hlvV e.symm) hSw.2.2.2⟩
                  refine hK.out _ _ s5 ?_
                  clear hK K
                  intro hSw
                  try simp only [Act.put, List.setIfInBounds_toArray, List.set_cons_zero, List.set_cons_succ]
                  refine wpAnyH_done (by kernel_rfl) (NoPanic.normal ?_) _
                  go_wp2_with fail
                  go_roundw
                  case rel => exact ⟨jN + 1, _, by omega, by omega, by go_num, tb5, hf5, be5⟩
                  case measure => simp [intOf]; omega
              · have hjL : jN = W.length + 1 := by omega
                subst hjL
                go_wp2_with fail
                go_roundw
                case rel =>
                  refine ⟨iN + 1, f4, by omega, by go_num, tb4, fun v i j h1 h2 h3 => (hf4 v i j h1 h2 h3).trans ?_, be4⟩
                  unfold tgt
                  by_cases e : v = lv ∧ i < iN + 1
                  · rw [if_pos (by omega), if_pos (by omega)]
                  · rw [if_neg (by omega), if_neg (by omega)]
                case measure => simp [intOf]; omega
          · have hiL : iN = W.length + 1 := by omega
            subst hiL
            go_wp2_with fail
            go_roundw
            case rel =>
              refine ⟨rn + 1, f3, by omega, by go_num, tb3, fun v i j h1 h2 h3 => (hf3 v i j h1 h2 h3).trans ?_, be3⟩
              unfold tgt
              by_cases e : v = lv
              · rw [if_pos (by omega)]
              · rw [if_neg (by omega), hcn, if_neg (by omega)]
            case measure => simp [intOf]; omega
      · obtain rfl : rn = g.rules.length := by omega
        have tge := tb.ge
        have trn := tb.r.congr (g := cnF g.rules W m fo g.rules.length) hf
        have hfn : cnT g.rules W m (t + 1) = cnF g.rules W m fo g.rules.length := by rw [← hfoe]; rfl
        generalize cnF g.rules W m fo g.rules.length = fn at *
        have trq := tr.lw be
        generalize wr = wa at *
        clear hf tb
        go_wp2_with fail
        go_loopw [9, 15] (fun mo v wx => ∃ (vN : Nat) (mb : Bool), vN ≤ V ∧ mo = .bool mb ∧ v = .int .i64 vN ∧ (mb = false → ∀ v i j, v < vN → i ≤ W.length → j ≤ W.length → fn v i j = fo v i j) ∧ (mb = true → ∃ v i j, v < V ∧ i ≤ W.length ∧ j ≤ W.length ∧ fn v i j ≠ fo v i j) ∧ Below wa.heap.size wa wx) (fun _ v _ => V - (intOf v).toNat)
        case atStart => exact ⟨0, false, Nat.zero_le _, rfl, rfl, fun _ v _ _ h => absurd h (Nat.not_lt_zero _), fun h => (by cases h), Below.refl _ _⟩
        case round =>
          obtain ⟨vN, mb, hvN, rfl, rfl, hF, hTr, bex⟩ := hrel
          have ccx := ccr.of (u' := wr) (fun k hk => bex.block k (by have := be.size; omega))
          have y0' := ccx.p0
          by_cases hltv : vN < V
          · go_wp2_with fail
            go_loopw [9, 16] (fun mo i wx => ∃ (iN : Nat) (mb : Bool), iN ≤ W.length + 1 ∧ mo = .bool mb ∧ i = .int .i64 iN ∧ (mb = false → (∀ v i j, v < vN → i ≤ W.length → j ≤ W.length → fn v i j = fo v i j) ∧ ∀ i j, i < iN → j ≤ W.length → fn vN i j = fo vN i j) ∧ (mb = true → ∃ v i j, v < V ∧ i ≤ W.length ∧ j ≤ W.length ∧ fn v i j ≠ fo v i j) ∧ Below wa.heap.size wa wx) (fun _ i _ => W.length + 1 - (intOf i).toNat)
            case atStart => exact ⟨0, mb, Nat.zero_le _, rfl, rfl, fun h => ⟨hF h, fun i j hi => absurd hi (Nat.not_lt_zero _)⟩, hTr, bex⟩
            case round =>
              obtain ⟨iN, mb, hiN, rfl, rfl, hF6, hT6, be6⟩ := hrel
              have cc6 := ccr.of (u' := wr) (fun k hk => be6.block k (by have := be.size; omega))
              have q6 := cc6.q0
              by_cases hlti : iN ≤ W.length
              · have hiW : iN < W.length + 1 := by omega
                have hiW2 : (iN : Int) < (W.length : Int) + 1 := by omega
                have hvN2 : (vN : Int) < (V : Int) := by omega
                have bD : Below wr.heap.size wr wr.drew := drw1 wr
                have be6D := bthen be6 bD
                have tnD := trn.lw be6D
                have toD := trq.lw be6D
                have S25 : World.cell? wr.drew ⟨d0, vN, none⟩ = some (.slice (some ⟨d1 vN, 0, none⟩) (W.length + 1) (e1 vN)) ∧ World.cell? wr.drew ⟨d1 vN, iN, none⟩ = some (.slice (some ⟨rd vN iN, 0, none⟩) (W.length + 1) (W.length + 1)) ∧ World.cell? wr.drew ⟨w.heap.size + 2, 6, none⟩ = some (.slice (some ⟨b0, 0, none⟩) V c0) ∧ World.cell? wr.drew ⟨b0, vN, none⟩ = some (.slice (some ⟨b1 vN, 0, none⟩) (W.length + 1) (c1 vN)) ∧ World.cell? wr.drew ⟨b1 vN, iN, none⟩ = some (.slice (some ⟨rb vN iN, 0, none⟩) (W.length + 1) (W.length + 1)) := ⟨tnD.h0 vN hltv, tnD.h1 vN iN hltv hlti, cc6.c6, toD.h0 vN hltv, toD.h1 vN iN hltv hlti⟩
                cases mb with
                | true =>
                  go_wp2_with fail
                  refine wp_region_noPanic ?_
                  refine wp_region_held_drew (S := fun w' => World.cell? w' ⟨d0, vN, none⟩ = some (.slice (some ⟨d1 vN, 0, none⟩) (W.length + 1) (e1 vN)) ∧ World.cell? w' ⟨d1 vN, iN, none⟩ = some (.slice (some ⟨rd vN iN, 0, none⟩) (W.length + 1) (W.length + 1)) ∧ World.cell? w' ⟨w.heap.size + 2, 6, none⟩ = some (.slice (some ⟨b0, 0, none⟩) V c0) ∧ World.cell? w' ⟨b0, vN, none⟩ = some (.slice (some ⟨b1 vN, 0, none⟩) (W.length + 1) (c1 vN)) ∧ World.cell? w' ⟨b1 vN, iN, none⟩ = some (.slice (some ⟨rb vN iN, 0, none⟩) (W.length + 1) (W.length + 1))) (by kernel_rfl) S25 ?_
                  intro hSw
                  obtain ⟨y0, hy0⟩ : ∃ y0, y0 = wr.drew := ⟨_, rfl⟩
                  rw [← hy0] at hSw be6D ⊢
                  clear hy0
                  refine wpAnyH_take (i := 0) (v := ?v30) rfl (by kernel_rfl) (by kernel_rfl) (by kernel_rfl) (fun _ _ _ h => np_panic h) (Or.inl ⟨by rfl, ?hy30⟩) (by assumption) ?_
                  case hy30 => (intro w' hS'; (try dsimp only at hS'); go_simp; try with_reducible rfl)
                  simp only [Act.put, List.setIfInBounds_toArray, List.set_cons_zero, List.set_cons_succ, List.getElem_toArray, List.getElem_cons_zero]
                  refine wpAnyH_take (i := 1) (v := ?v31) rfl (by kernel_rfl) (by kernel_rfl) (by kernel_rfl) (fun _ _ _ h => np_panic h) (Or.inl ⟨by rfl, ?hy31⟩) (by assumption) ?_
                  case hy31 => (intro w' hS'; (try dsimp only at hS'); go_simp; try with_reducible rfl)
                  simp only [Act.put, List.setIfInBounds_toArray, List.set_cons_zero, List.set_cons_succ, List.getElem_toArray, List.getElem_cons_succ, List.getElem_cons_zero]
                  refine wpAnyH_take (i := 2) (v := undef) rfl (by kernel_rfl) (by kernel_rfl) (by kernel_rfl) (fun _ _ _ h => np_panic h) (Or.inr ⟨by rfl, rfl⟩) (by assumption) ?_
                  simp only [Act.put, List.setIfInBounds_toArray, List.set_cons_zero, List.set_cons_succ, List.getElem_toArray, List.getElem_cons_succ, List.getElem_cons_zero]
                  refine wpAnyH_take (i := 3) (v := undef) rfl (by kernel_rfl) (by kernel_rfl) (by kernel_rfl) (fun _ _ _ h => np_panic h) (Or.inr ⟨by rfl, rfl⟩) (by assumption) ?_
                  simp only [Act.put, List.setIfInBounds_toArray, List.set_cons_zero, List.set_cons_succ, List.getElem_toArray, List.getElem_cons_succ, List.getElem_cons_zero]
                  refine wpAnyH_take (i := 4) (v := undef) rfl (by kernel_rfl) (by kernel_rfl) (by kernel_rfl) (fun _ _ _ h => np_panic h) (Or.inr ⟨by rfl, rfl⟩) (by assumption) ?_
                  simp only [Act.put, List.setIfInBounds_toArray, List.set_cons_zero, List.set_cons_succ, List.getElem_toArray, List.getElem_cons_succ, List.getElem_cons_zero]
                  refine wpAnyH_take (i := 5) (v := undef) rfl (by kernel_rfl) (by kernel_rfl) (by kernel_rfl) (fun _ _ _ h => np_panic h) (Or.inr ⟨by rfl, rfl⟩) (by assumption) ?_
                  simp only [Act.put, List.setIfInBounds_toArray, List.set_cons_zero, List.set_cons_succ, List.getElem_toArray, List.getElem_cons_succ, List.getElem_cons_zero]
                  refine wpAnyH_take (i := 6) (v := undef) rfl (by kernel_rfl) (by kernel_rfl) (by kernel_rfl) (fun _ _ _ h => np_panic h) (Or.inr ⟨by rfl, rfl⟩) (by assumption) ?_
                  simp only [Act.put, List.setIfInBounds_toArray, List.set_cons_zero, List.set_cons_succ, List.getElem_toArray, List.getElem_cons_succ, List.getElem_cons_zero]
                  refine wpAnyH_take (i := 7) (v := undef) rfl (by kernel_rfl) (by kernel_rfl) (by kernel_rfl) (fun _ _ _ h => np_panic h) (Or.inr ⟨by rfl, rfl⟩) (by assumption) ?_
                  simp only [Act.put, List.setIfInBounds_toArray, List.set_cons_zero, List.set_cons_succ, List.getElem_toArray, List.getElem_cons_succ, List.getElem_cons_zero]
                  refine wpAnyH_take (i := 8) (v := undef) rfl (by kernel_rfl) (by kernel_rfl) (by kernel_rfl) (fun _ _ _ h => np_panic h) (Or.inr ⟨by rfl, rfl⟩) (by assumption) ?_
                  simp only [Act.put, List.setIfInBounds_toArray, List.set_cons_zero, List.set_cons_succ, List.getElem_toArray, List.getElem_cons_succ, List.getElem_cons_zero]
                  refine wpAnyH_take (i := 9) (v := undef) rfl (by kernel_rfl) (by kernel_rfl) (by kernel_rfl) (fun _ _ _ h => np_panic h) (Or.inr ⟨by rfl, rfl⟩) (by assumption) ?_
                  simp only [Act.put, List.setIfInBounds_toArray, List.set_cons_zero, List.set_cons_succ, List.getElem_toArray, List.getElem_cons_succ, List.getElem_cons_zero]
                  refine wpAnyH_take (i := 10) (v := undef) rfl (by kernel_rfl) (by kernel_rfl) (by kernel_rfl) (fun _ _ _ h => np_panic h) (Or.inr ⟨by rfl, rfl⟩) (by assumption) ?_
                  simp only [Act.put, List.setIfInBounds_toArray, List.set_cons_zero, List.set_cons_succ, List.getElem_toArray, List.getElem_cons_succ, List.getElem_cons_zero]
                  refine wpAnyH_take (i := 11) (v := undef) rfl (by kernel_rfl) (by kernel_rfl) (by kernel_rfl) (fun _ _ _ h => np_panic h) (Or.inr ⟨by rfl, rfl⟩) (by assumption) ?_
                  simp only [Act.put, List.setIfInBounds_toArray, List.set_cons_zero, List.set_cons_succ, List.getElem_toArray, List.getElem_cons_succ, List.getElem_cons_zero]
                  refine wpAnyH_take (i := 12) (v := undef) rfl (by kernel_rfl) (by kernel_rfl) (by kernel_rfl) (fun _ _ _ h => np_panic h) (Or.inr ⟨by rfl, rfl⟩) (by assumption) ?_
                  simp only [Act.put, List.setIfInBounds_toArray, List.set_cons_zero, List.set_cons_succ, List.getElem_toArray, List.getElem_cons_succ, List.getElem_cons_zero]
                  refine wpAnyH_take (i := 13) (v := undef) rfl (by kernel_rfl) (by kernel_rfl) (by kernel_rfl) (fun _ _ _ h => np_panic h) (Or.inr ⟨by rfl, rfl⟩) (by assumption) ?_
                  simp only [Act.put, List.setIfInBounds_toArray, List.set_cons_zero, List.set_cons_succ, List.getElem_toArray, List.getElem_cons_succ, List.getElem_cons_zero]
                  refine wpAnyH_take (i := 14) (v := undef) rfl (by kernel_rfl) (by kernel_rfl) (by kernel_rfl) (fun _ _ _ h => np_panic h) (Or.inr ⟨by rfl, rfl⟩) (by assumption) ?_
                  simp only [Act.put, List.setIfInBounds_toArray, List.set_cons_zero, List.set_cons_succ, List.getElem_toArray, List.getElem_cons_succ, List.getElem_cons_zero]
                  refine wpAnyH_take (i := 15) (v := undef) rfl (by kernel_rfl) (by kernel_rfl) (by kernel_rfl) (fun _ _ _ h => np_panic h) (Or.inr ⟨by rfl, rfl⟩) (by assumption) ?_
                  simp only [Act.put, List.setIfInBounds_toArray, List.set_cons_zero, List.set_cons_succ, List.getElem_toArray, List.getElem_cons_succ, List.getElem_cons_zero]
                  refine wpAnyH_take (i := 16) (v := undef) rfl (by kernel_rfl) (by kernel_rfl) (by kernel_rfl) (fun _ _ _ h => np_panic h) (Or.inr ⟨by rfl, rfl⟩) (by assumption) ?_
                  simp only [Act.put, List.setIfInBounds_toArray, List.set_cons_zero, List.set_cons_succ, List.getElem_toArray, List.getElem_cons_succ, List.getElem_cons_zero]
                  refine wpAnyH_take (i := 17) (v := undef) rfl (by kernel_rfl) (by kernel_rfl) (by kernel_rfl) (fun _ _ _ h => np_panic h) (Or.inr ⟨by rfl, rfl⟩) (by assumption) ?_
                  simp only [Act.put, List.setIfInBounds_toArray, List.set_cons_zero, List.set_cons_succ, List.getElem_toArray, List.getElem_cons_succ, List.getElem_cons_zero]
                  refine wpAnyH_take (i := 18) (v := undef) rfl (by kernel_rfl) (by kernel_rfl) (by kernel_rfl) (fun _ _ _ h => np_panic h) (Or.inr ⟨by rfl, rfl⟩) (by assumption) ?_
                  simp only [Act.put, List.setIfInBounds_toArray, List.set_cons_zero, List.set_cons_succ, List.getElem_toArray, List.getElem_cons_succ, List.getElem_cons_zero]
                  refine wpAnyH_take (i := 19) (v := undef) rfl (by kernel_rfl) (by kernel_rfl) (by kernel_rfl) (fun _ _ _ h => np_panic h) (Or.inr ⟨by rfl, rfl⟩) (by assumption) ?_
                  simp only [Act.put, List.setIfInBounds_toArray, List.set_cons_zero, List.set_cons_succ, List.getElem_toArray, List.getElem_cons_succ, List.getElem_cons_zero]
                  refine wpAnyH_take (i := 20) (v := undef) rfl (by kernel_rfl) (by kernel_rfl) (by kernel_rfl) (fun _ _ _ h => np_panic h) (Or.inr ⟨by rfl, rfl⟩) (by assumption) ?_
                  simp only [Act.put, List.setIfInBounds_toArray, List.set_cons_zero, List.set_cons_succ, List.getElem_toArray, List.getElem_cons_succ, List.getElem_cons_zero]
                  refine wpAnyH_take (i := 21) (v := ?v32) rfl (by kernel_rfl) (by kernel_rfl) (by kernel_rfl) (fun _ _ _ h => np_panic h) (Or.inl ⟨by rfl, ?hy32⟩) (by assumption) ?_
                  case hy32 => (intro w' hS'; (try dsimp only at hS'); go_simp; try with_reducible rfl)
                  simp only [Act.put, List.setIfInBounds_toArray, List.set_cons_zero, List.set_cons_succ, List.getElem_toArray, List.getElem_cons_succ, List.getElem_cons_zero]
                  refine wpAnyH_take (i := 22) (v := ?v33) rfl (by kernel_rfl) (by kernel_rfl) (by kernel_rfl) (fun _ _ _ h => np_panic h) (Or.inl ⟨by rfl, ?hy33⟩) (by assumption) ?_
                  case hy33 => (intro w' hS'; (try dsimp only at hS'); go_simp; try with_reducible rfl)
                  simp only [Act.put, List.setIfInBounds_toArray, List.set_cons_zero, List.set_cons_succ, List.getElem_toArray, List.getElem_cons_succ, List.getElem_cons_zero]
                  refine wpAnyH_done (by kernel_rfl) (NoPanic.normal ?_) _
                  go_wp2_with fail
                  go_roundw
                  case rel => exact ⟨iN + 1, true, by omega, rfl, by go_num, fun h => (by cases h), fun _ => (by first | exact hT6 trivial | exact hT6 rfl), be6D⟩
                  case measure => simp [intOf]; omega
                | false =>
                  have SI := sameInts_any (rowL W.length fn vN iN) (rowL W.length fo vN iN) (.slice (some ⟨rd vN iN, 0, none⟩) (W.length + 1) (W.length + 1)) (.slice (some ⟨rb vN iN, 0, none⟩) (W.length + 1) (W.length + 1)) wr.drew (rowV tnD hltv hlti hWl) (rowV toD hltv hlti hWl)
                  go_wp2_with fail
                  refine wp_region_noPanic ?_
                  refine wp_region_held_drew (S := fun w' => World.cell? w' ⟨d0, vN, none⟩ = some (.slice (some ⟨d1 vN, 0, none⟩) (W.length + 1) (e1 vN)) ∧ World.cell? w' ⟨d1 vN, iN, none⟩ = some (.slice (some ⟨rd vN iN, 0, none⟩) (W.length + 1) (W.length + 1)) ∧ World.cell? w' ⟨w.heap.size + 2, 6, none⟩ = some (.slice (some ⟨b0, 0, none⟩) V c0) ∧ World.cell? w' ⟨b0, vN, none⟩ = some (.slice (some ⟨b1 vN, 0, none⟩) (W.length + 1) (c1 vN)) ∧ World.cell? w' ⟨b1 vN, iN, none⟩ = some (.slice (some ⟨rb vN iN, 0, none⟩) (W.length + 1) (W.length + 1))) (by kernel_rfl) S25 ?_
                  intro hSw
                  obtain ⟨y0, hy0⟩ : ∃ y0, y0 = wr.drew := ⟨_, rfl⟩
                  rw [← hy0] at hSw be6D SI ⊢
                  clear hy0
                  refine wpAnyH_take (i := 0) (v := ?v34) rfl (by kernel_rfl) (by kernel_rfl) (by kernel_rfl) (fun _ _ _ h => np_panic h) (Or.inl ⟨by rfl, ?hy34⟩) (by assumption) ?_
                  case hy34 => (intro w' hS'; (try dsimp only at hS'); go_simp; try with_reducible rfl)
                  simp only [Act.put, List.setIfInBounds_toArray, List.set_cons_zero, List.set_cons_succ, List.getElem_toArray, List.getElem_cons_zero]
                  refine wpAnyH_take (i := 1) (v := ?v35) rfl (by kernel_rfl) (by kernel_rfl) (by kernel_rfl) (fun _ _ _ h => np_panic h) (Or.inl ⟨by rfl, ?hy35⟩) (by assumption) ?_
                  case hy35 => (intro w' hS'; (try dsimp only at hS'); go_simp; try with_reducible rfl)
                  simp only [Act.put, List.setIfInBounds_toArray, List.set_cons_zero, List.set_cons_succ, List.getElem_toArray, List.getElem_cons_succ, List.getElem_cons_zero]
                  refine wpAnyH_take (i := 2) (v := ?v36) rfl (by kernel_rfl) (by kernel_rfl) (by kernel_rfl) (fun _ _ _ h => np_panic h) (Or.inl ⟨by rfl, ?hy36⟩) (by assumption) ?_
                  case hy36 => (intro w' hS'; (try dsimp only at hS'); go_simp; try with_reducible rfl)
                  simp only [Act.put, List.setIfInBounds_toArray, List.set_cons_zero, List.set_cons_succ, List.getElem_toArray, List.getElem_cons_succ, List.getElem_cons_zero]
                  refine wpAnyH_take (i := 3) (v := ?v37) rfl (by kernel_rfl) (by kernel_rfl) (by kernel_rfl) (fun _ _ _ h => np_panic h) (Or.inl ⟨by rfl, ?hy37⟩) (by assumption) ?_
                  case hy37 => (intro w' hS'; (try dsimp only at hS'); go_simp; try with_reducible rfl)
                  simp only [Act.put, List.setIfInBounds_toArray, List.set_cons_zero, List.set_cons_succ, List.getElem_toArray, List.getElem_cons_succ, List.getElem_cons_zero]
                  refine wpAnyH_take (i := 4) (v := ?v38) rfl (by kernel_rfl) (by kernel_rfl) (by kernel_rfl) (fun _ _ _ h => np_panic h) (Or.inl ⟨by rfl, ?hy38⟩) (by assumption) ?_
                  case hy38 => (intro w' hS'; (try dsimp only at hS'); go_simp; try with_reducible rfl)
                  simp only [Act.put, List.setIfInBounds_toArray, List.set_cons_zero, List.set_cons_succ, List.getElem_toArray, List.getElem_cons_succ, List.getElem_cons_zero]
                  refine wpAnyH_take (i := 5) (v := ?v39) rfl (by kernel_rfl) (by kernel_rfl) (by kernel_rfl) (fun _ _ _ h => np_panic h) (Or.inl ⟨by rfl, ?hy39⟩) (by assumption) ?_
                  case hy39 => (intro w' hS'; (try dsimp only at hS'); go_simp; try with_reducible rfl)
                  simp only [Act.put, List.setIfInBounds_toArray, List.set_cons_zero, List.set_cons_succ, List.getElem_toArray, List.getElem_cons_succ, List.getElem_cons_zero]
                  refine wpAnyH_take (i := 6) (v := ?v40) rfl (by kernel_rfl) (by kernel_rfl) (by kernel_rfl) (fun _ _ _ h => np_panic h) (Or.inl ⟨by rfl, ?hy40⟩) (by assumption) ?_
                  case hy40 => (intro w' hS'; (try dsimp only at hS'); go_simp; try with_reducible rfl)
                  simp only [Act.put, List.setIfInBounds_toArray, List.set_cons_zero, List.set_cons_succ, List.getElem_toArray, List.getElem_cons_succ, List.getElem_cons_zero]
                  refine wpAnyH_take (i := 7) (v := ?v41) rfl (by kernel_rfl) (by kernel_rfl) (by kernel_rfl) (fun _ _ _ h => np_panic h) (Or.inl ⟨by rfl, ?hy41⟩) (by assumption) ?_
                  case hy41 => (intro w' hS'; (try dsimp only at hS'); go_simp; try with_reducible rfl)
                  simp only [Act.put, List.setIfInBounds_toArray, List.set_cons_zero, List.set_cons_succ, List.getElem_toArray, List.getElem_cons_succ, List.getElem_cons_zero]
                  refine wpAnyH_take (i := 8) (v := ?v42) rfl (by kernel_rfl) (by kernel_rfl) (by kernel_rfl) (fun _ _ _ h => np_panic h) (Or.inl ⟨by rfl, ?hy42⟩) (by assumption) ?_
                  case hy42 => (intro w' hS'; (try dsimp only at hS'); go_simp; try with_reducible rfl)
                  simp only [Act.put, List.setIfInBounds_toArray, List.set_cons_zero, List.set_cons_succ, List.getElem_toArray, List.getElem_cons_succ, List.getElem_cons_zero]
                  refine wpAnyH_take (i := 9) (v := ?v43) rfl (by kernel_rfl) (by kernel_rfl) (by kernel_rfl) (fun _ _ _ h => np_panic h) (Or.inl ⟨by rfl, ?hy43⟩) (by assumption) ?_
                  case hy43 => (intro w' hS'; (try dsimp only at hS'); go_simp; try with_reducible rfl)
                  simp only [Act.put, List.setIfInBounds_toArray, List.set_cons_zero, List.set_cons_succ, List.getElem_toArray, List.getElem_cons_succ, List.getElem_cons_zero]
                  refine wpAnyH_take (i := 10) (v := ?v44) rfl (by kernel_rfl) (by kernel_rfl) (by kernel_rfl) (fun _ _ _ h => np_panic h) (Or.inl ⟨by rfl, ?hy44⟩) (by assumption) ?_
                  case hy44 => (intro w' hS'; (try dsimp only at hS'); go_simp; try with_reducible rfl)
                  simp only [Act.put, List.setIfInBounds_toArray, List.set_cons_zero, List.set_cons_succ, List.getElem_toArray, List.getElem_cons_succ, List.getElem_cons_zero]
                  refine wpAnyH_take (i := 11) (v := ?v45) rfl (by kernel_rfl) (by kernel_rfl) (by kernel_rfl) (fun _ _ _ h => np_panic h) (Or.inl ⟨by rfl, ?hy45⟩) (by assumption) ?_
                  case hy45 => (intro w' hS'; (try dsimp only at hS'); go_simp; try with_reducible rfl)
                  simp only [Act.put, List.setIfInBounds_toArray, List.set_cons_zero, List.set_cons_succ, List.getElem_toArray, List.getElem_cons_succ, List.getElem_cons_zero]
                  refine wpAnyH_take (i := 12) (v := ?v46) rfl (by kernel_rfl) (by kernel_rfl) (by kernel_rfl) (fun _ _ _ h => np_panic h) (Or.inl ⟨by rfl, ?hy46⟩) (by assumption) ?_
                  case hy46 => (intro w' hS'; (try dsimp only at hS'); go_simp; try with_reducible rfl)
                  simp only [Act.put, List.setIfInBounds_toArray, List.set_cons_zero, List.set_cons_succ, List.getElem_toArray, List.getElem_cons_succ, List.getElem_cons_zero]
                  refine wpAnyH_take (i := 13) (v := ?v47) rfl (by kernel_rfl) (by kernel_rfl) (by kernel_rfl) (fun _ _ _ h => np_panic h) (Or.inl ⟨by rfl, ?hy47⟩) (by assumption) ?_
                  case hy47 => (intro w' hS'; (try dsimp only at hS'); go_simp; try with_reducible rfl)
                  simp only [Act.put, List.setIfInBounds_toArray, List.set_cons_zero, List.set_cons_succ, List.getElem_toArray, List.getElem_cons_succ, List.getElem_cons_zero]
                  refine wpAnyH_take (i := 14) (v := ?v48) rfl (by kernel_rfl) (by kernel_rfl) (by kernel_rfl) (fun _ _ _ h => np_panic h) (Or.inl ⟨by rfl, ?hy48⟩) (by assumption) ?_
                  case hy48 => (intro w' hS'; (try dsimp only at hS'); go_simp; try with_reducible rfl)
                  simp only [Act.put, List.setIfInBounds_toArray, List.set_cons_zero, List.set_cons_succ, List.getElem_toArray, List.getElem_cons_succ, List.getElem_cons_zero]
                  refine wpAnyH_take (i := 15) (v := ?v49) rfl (by kernel_rfl) (by kernel_rfl) (by kernel_rfl) (fun _ _ _ h => np_panic h) (Or.inl ⟨by rfl, ?hy49⟩) (by assumption) ?_
                  case hy49 => (intro w' hS'; (try dsimp only at hS'); go_simp; try with_reducible rfl)
                  simp only [Act.put, List.setIfInBounds_toArray, List.set_cons_zero, List.set_cons_succ, List.getElem_toArray, List.getElem_cons_succ, List.getElem_cons_zero]
                  refine wpAnyH_take (i := 16) (v := ?v50) rfl (by kernel_rfl) (by kernel_rfl) (by kernel_rfl) (fun _ _ _ h => np_panic h) (Or.inl ⟨by rfl, ?hy50⟩) (by assumption) ?_
                  case hy50 => (intro w' hS'; (try dsimp only at hS'); go_simp; try with_reducible rfl)
                  simp only [Act.put, List.setIfInBounds_toArray, List.set_cons_zero, List.set_cons_succ, List.getElem_toArray, List.getElem_cons_succ, List.getElem_cons_zero]
                  refine wpAnyH_take (i := 17) (v := ?v51) rfl (by kernel_rfl) (by kernel_rfl) (by kernel_rfl) (fun _ _ _ h => np_panic h) (Or.inl ⟨by rfl, ?hy51⟩) (by assumption) ?_
                  case hy51 => (intro w' hS'; (try dsimp only at hS'); go_simp; try with_reducible rfl)
                  simp only [Act.put, List.setIfInBounds_toArray, List.set_cons_zero, List.set_cons_succ, List.getElem_toArray, List.getElem_cons_succ, List.getElem_cons_zero]
                  refine wpAnyH_take (i := 18) (v := ?v52) rfl (by kernel_rfl) (by kernel_rfl) (by kernel_rfl) (fun _ _ _ h => np_panic h) (Or.inl ⟨by rfl, ?hy52⟩) (by assumption) ?_
                  case hy52 => (intro w' hS'; (try dsimp only at hS'); go_simp; try with_reducible rfl)
                  simp only [Act.put, List.setIfInBounds_toArray, List.set_cons_zero, List.set_cons_succ, List.getElem_toArray, List.getElem_cons_succ, List.getElem_cons_zero]
                  refine wpAnyH_ready (rs := [19]) (by kernel_rfl) (by simp) ?_
                  refine AllReadyH.cons rfl (fun K hK => ?_) AllReadyH.nil
                  go_simp
                  go_at_call 15
                  refine SI.mono ?_
                  rintro e y1 ⟨rfl, hby⟩
                  have be7 := bthen be6D hby
                  have s7 : World.cell? y1 ⟨d0, vN, none⟩ = some (.slice (some ⟨d1 vN, 0, none⟩) (W.length + 1) (e1 vN)) ∧ World.cell? y1 ⟨d1 vN, iN, none⟩ = some (.slice (some ⟨rd vN iN, 0, none⟩) (W.length + 1) (W.length + 1)) ∧ World.cell? y1 ⟨w.heap.size + 2, 6, none⟩ = some (.slice (some ⟨b0, 0, none⟩) V c0) ∧ World.cell? y1 ⟨b0, vN, none⟩ = some (.slice (some ⟨b1 vN, 0, none⟩) (W.length + 1) (c1 vN)) ∧ World.cell? y1 ⟨b1 vN, iN, none⟩ = some (.slice (some ⟨rb vN iN, 0, none⟩) (W.length + 1) (W.length + 1)) := ⟨bkeep hby hSw.1, bkeep hby hSw.2.1, bkeep hby hSw.2.2.1, bkeep hby hSw.2.2.2.1, bkeep hby hSw.2.2.2.2⟩
                  refine hK.out _ _ s7 ?_
                  clear hK K
                  intro hSw
                  try simp only [Act.put, List.setIfInBounds_toArray, List.set_cons_zero, List.set_cons_succ]
                  refine wpAnyH_take (i := 20) (v := ?v53) rfl (by kernel_rfl) (by kernel_rfl) (by kernel_rfl) (fun _ _ _ h => np_panic h) (Or.inl ⟨by rfl, ?hy53⟩) (by assumption) ?_
                  case hy53 => (intro w' hS'; (try dsimp only at hS'); go_simp; try with_reducible rfl)
                  simp only [Act.put, List.setIfInBounds_toArray, List.set_cons_zero, List.set_cons_succ, List.getElem_toArray, List.getElem_cons_succ, List.getElem_cons_zero]
                  refine wpAnyH_take (i := 21) (v := ?v54) rfl (by kernel_rfl) (by kernel_rfl) (by kernel_rfl) (fun _ _ _ h => np_panic h) (Or.inl ⟨by rfl, ?hy54⟩) (by assumption) ?_
                  case hy54 => (intro w' hS'; (try dsimp only at hS'); go_simp; try with_reducible rfl)
                  simp only [Act.put, List.setIfInBounds_toArray, List.set_cons_zero, List.set_cons_succ, List.getElem_toArray, List.getElem_cons_succ, List.getElem_cons_zero]
                  refine wpAnyH_take (i := 22) (v := ?v55) rfl (by kernel_rfl) (by kernel_rfl) (by kernel_rfl) (fun _ _ _ h => np_panic h) (Or.inl ⟨by rfl, ?hy55⟩) (by assumption) ?_
                  case hy55 => (intro w' hS'; (try dsimp only at hS'); go_simp; try with_reducible rfl)
                  simp only [Act.put, List.setIfInBounds_toArray, List.set_cons_zero, List.set_cons_succ, List.getElem_toArray, List.getElem_cons_succ, List.getElem_cons_zero]
                  refine wpAnyH_done (by kernel_rfl) (NoPanic.normal ?_) _
                  have hrow := rowL_eq (L := W.length) (f := fn) (g := fo) (v := vN) (i := iN)
                  generalize rowL W.length fn vN iN = r1 at *
                  generalize rowL W.length fo vN iN = r2 at *
                  by_cases hr : r1 = r2
                  · have hrd : decide (r1 = r2) = true := decide_eq_true hr
                    have hall := hrow.1 hr
                    have h6 := hF6 (by first | exact trivial | rfl)
                    clear hrow
                    go_wp2_with fail
                    go_roundw
                    case rel => exact ⟨iN + 1, false, by omega, by simp [hrd], by go_num, fun _ => ⟨h6.1, fun i j hi hj => if e : i = iN then by rw [e]; exact hall j hj else h6.2 i j (by omega) hj⟩, fun h => (by cases h), be7⟩
                    case measure => simp [intOf]; omega
                  · have hrd : decide (r1 = r2) = false := decide_eq_false hr
                    have hex : ∃ j, j ≤ W.length ∧ fn vN iN j ≠ fo vN iN j := by
                      apply Classical.byContradiction
                      intro hn
                      exact hr (hrow.2 fun j hj => Classical.byContradiction fun q => hn ⟨j, hj, q⟩)
                    obtain ⟨jx, hj1, hj2⟩ := hex
                    clear hrow
                    go_wp2_with fail
                    go_roundw
                    case rel => exact ⟨iN + 1, true, by omega, by simp [hrd], by go_num, fun h => (by cases h), fun _ => ⟨vN, iN, jx, hltv, hlti, hj1, hj2⟩, be7⟩
                    case measure => simp [intOf]; omega
              · obtain rfl : iN = W.length + 1 := by omega
                go_wp2_with fail
                go_roundw
                case rel => exact ⟨vN + 1, mb, by omega, rfl, by go_num, fun h v i j h1 h2 h3 => (if e : v = vN then by rw [e]; exact (hF6 h).2 i j (by omega) h3 else (hF6 h).1 v i j (by omega) h2 h3), hT6, be6⟩
                case measure => simp [intOf]; omega
          · obtain rfl : vN = V := by omega
            have c6x := ccx.c6
            have cfx := ccx.cf
            have hne : ∀ v, v < vN → d1 v ≠ w.heap.size + 2 := fun v hv => by have := hd1 v hv; omega
            have trx := trn.lw bex
            obtain ⟨Z, hZ⟩ : ∃ Z, Z = wr.setCell ⟨w.heap.size + 1 + 1, 6, none⟩ (.slice (some ⟨d0, 0, none⟩) vN e0) := ⟨_, rfl⟩
            have ccZ : Cc Z w.heap.size vN (.slice aoR g.rules.length capR) (.slice aoW W.length capW) m (.slice (some ⟨d0, 0, none⟩) vN e0) := by rw [hZ]; exact ccx.setN
            have belZ : Below w.heap.size w Z := by rw [hZ]; exact (bthen bew bex).setCell (p := ⟨w.heap.size + 1 + 1, 6, none⟩) (Nat.le_add_right _ 2) _
            have kZ : ∀ b o u, b ≠ w.heap.size + 2 → wr.cell? ⟨b, o, none⟩ = some u → Z.cell? ⟨b, o, none⟩ = some u := fun b o u hb hc => by rw [hZ, World.cell?_of_block (w := wr) (a := ⟨b, o, none⟩) (Below.heap_setCell _ _ _ _ hb)]; exact hc
            have trZ : TbR Z vN W.length d0 d1 e1 rd (cnT g.rules W m (t + 1)) := by
              rw [hfn]
              exact ⟨fun v hv => kZ _ _ _ (by omega) (trx.h0 v hv), fun v i hv hi => kZ _ _ _ (hne v hv) (trx.h1 v i hv hi), fun v i j hv hi hj => kZ _ _ _ (by have := tge v i hv hi; omega) (trx.h2 v i j hv hi hj)⟩
            go_wp2_with fail
            rw [← hZ]
            have HZ := hd hZ
            clear hZ
            go_roundg gj
            case measure => omega
            case rel =>
              refine ⟨t + 1, mb, d0, e0, d1, e1, rd, rfl, fun h => ?_, fun h => ⟨t, rfl, fun v i j h1 h2 h3 => by rw [hfn, hfoe]; exact hF h v i j h1 h2 h3⟩, ccZ, trZ, belZ⟩
              obtain ⟨v, i, j, h1, h2, h3, h4⟩ := hTr h
              have hne2 : t ≠ T := fun e => h4 (by have := hT v i j h1 h2 h3; rw [← e, hfn, hfoe] at this; exact this)
              omega
end Go.Proofs.Ytlhdppkllmnmkad.G
