/- Texts laid together: Yz Yt. -/
import Derived.Test.YtghplmldnkcpnacL14
/- Counts, all zero: the document's table of nonterminals, places and places. -/
namespace Go.Proofs.Ytghplmldnkcpnac.G
open Go.RowKit
theorem Try.infoInts : (Try.prog.info? 33).map (fun i => (i.zero, i.size, i.bytes)) = some (some (.slice none 0 0), 1, 24) := by kernel_rfl
theorem Try.infoIntss : (Try.prog.info? 71).map (fun i => (i.zero, i.size, i.bytes)) = some (some (.slice none 0 0), 1, 24) := by kernel_rfl
/-- A row of zeros. -/
structure Rw (w : World) (L g : Nat) : Prop where
  c : ∀ j, j ≤ L → w.cell? ⟨g, j, none⟩ = some (.int .i64 0)
  f : ∀ j, w.frozen? ⟨g, j, none⟩ = false
theorem Rw.of {w w' : World} {L g : Nat} (h : Rw w L g) (hb : w'.heap[g]? = w.heap[g]?) : Rw w' L g :=
  ⟨fun j hj => (World.cell?_of_block (w := w) (a := ⟨g, j, none⟩) hb).trans (h.c j hj), fun j => (World.frozen?_of_block (w := w) (a := ⟨g, j, none⟩) hb).trans (h.f j)⟩
def rwv (L : Nat) (rr : Nat → Nat) (k : Nat) : Value := .slice (some ⟨rr k, 0, none⟩) (L + 1) (L + 1)
def put1 (rr : Nat → Nat) (n g : Nat) : Nat → Nat := fun k => if k = n then g else rr k
theorem put1_lt {rr : Nat → Nat} {n g k : Nat} (h : k < n) : put1 rr n g k = rr k := if_neg (by omega)
theorem put1_at {rr : Nat → Nat} {n g : Nat} : put1 rr n g n = g := if_pos rfl
theorem map_put1 {α : Type} (F : (Nat → Nat) → Nat → α) (hF : ∀ a b k, a k = b k → F a k = F b k) (rr : Nat → Nat) (n g : Nat) : (List.range (n + 1)).map (F (put1 rr n g)) = (List.range n).map (F rr) ++ [F (put1 rr n g) n] := by
  rw [List.range_succ, List.map_append]
  congr 1
  apply List.map_congr_left
  intro k hk
  exact hF _ _ k (put1_lt (List.mem_range.1 hk))
/-- The rows of one nonterminal. -/
structure Rws (w : World) (base L ii : Nat) (vl : Value) (rr : Nat → Nat) : Prop where
  own : w.ownsRow base 33 1 vl ii ((List.range ii).map (rwv L rr))
  ge : ∀ k, k < ii → base ≤ rr k ∧ rr k < w.heap.size ∧ vl.ownBlock ≠ some (rr k) ∧ Rw w L (rr k)
  ij : ∀ k k', k < ii → k' < ii → rr k = rr k' → k = k'
theorem Rws_nil (w : World) (base L : Nat) (rr : Nat → Nat) : Rws w base L 0 (.slice none 0 0) rr := ⟨World.ownsRow_nil _ _ _ _, fun _ h => absurd h (Nat.not_lt_zero _), fun _ _ h => absurd h (Nat.not_lt_zero _)⟩
/-- One row more. -/
theorem Rws.more {w w1 w2 w3 : World} {base L ii g : Nat} {vl vl' : Value} {rr : Nat → Nat} (h : Rws w base L ii vl rr) (hbw : base ≤ w.heap.size) (h1 : Below w.heap.size w w1) (hg : w.heap.size ≤ g ∧ g < w1.heap.size) (hr : Rw w1 L g) (h2 : Below w1.heap.size w1 w2)
    (own3 : w3.ownsRow base 33 1 vl' (ii + 1) ((List.range ii).map (rwv L rr) ++ [.slice (some ⟨g, 0, none⟩) (L + 1) (L + 1)])) (grow3 : w2.grownBy w3 vl.ownBlock) (hat : vl'.ownBlock = vl.ownBlock ∨ vl'.ownBlock = some w2.heap.size) : Rws w3 base L (ii + 1) vl' (put1 rr ii g) := by
  have z1 := h1.size
  have z2 := h2.size
  have z3 := grow3.size
  have hvl : ∀ k, vl.ownBlock = some k → k < w.heap.size := fun k e => (h.own.lt k e).2
  refine ⟨?_, fun k hk => ?_, fun k k' hk hk' e => ?_⟩
  · rw [map_put1 (rwv L) (fun a b k e => by unfold rwv; rw [e])]
    unfold rwv at *
    rw [put1_at]; exact own3
  · by_cases e : k = ii
    · subst e
      rw [put1_at]
      refine ⟨by omega, by omega, fun e => ?_, hr.of ?_⟩
      · rcases hat with e' | e'
        · have := hvl g (e' ▸ e); omega
        · rw [e'] at e; simp at e; omega
      · rw [grow3.block g (by omega) (fun e => by have := hvl g e.symm; omega), h2.block g hg.2]
    · have hk' : k < ii := by omega
      obtain ⟨g1, g2, g3, g4⟩ := h.ge k hk'
      rw [put1_lt hk']
      refine ⟨g1, by omega, fun e => ?_, g4.of ?_⟩
      · rcases hat with e' | e'
        · exact g3 (e' ▸ e)
        · rw [e'] at e; simp at e; omega
      · rw [grow3.block _ (by omega) (fun e => g3 e.symm), h2.block _ (by omega), h1.block _ g2]
  · have hb : ∀ q, q < ii → rr q < w.heap.size := fun q hq => (h.ge q hq).2.1
    by_cases e1 : k = ii
    · by_cases e2 : k' = ii
      · omega
      · rw [e1, put1_at, put1_lt (by omega)] at e
        have := hb k' (by omega); omega
    · by_cases e2 : k' = ii
      · rw [e2, put1_at, put1_lt (by omega)] at e
        have := hb k (by omega); omega
      · rw [put1_lt (by omega), put1_lt (by omega)] at e
        exact h.ij k k' (by omega) (by omega) e
def put2 (rb : Nat → Nat → Nat) (n : Nat) (rr : Nat → Nat) : Nat → Nat → Nat := fun k => if k = n then rr else rb k
theorem put2_lt {rb : Nat → Nat → Nat} {n k : Nat} {rr : Nat → Nat} (h : k < n) : put2 rb n rr k = rb k := if_neg (by omega)
theorem put2_at {rb : Nat → Nat → Nat} {n : Nat} {rr : Nat → Nat} : put2 rb n rr n = rr := if_pos rfl
def tbv (L : Nat) (b1 c1 : Nat → Nat) (k : Nat) : Value := .slice (some ⟨b1 k, 0, none⟩) (L + 1) (c1 k)
/-- The table, as far as it is made. -/
structure Tbs (w : World) (base L vv : Nat) (vn : Value) (b1 c1 : Nat → Nat) (rb : Nat → Nat → Nat) : Prop where
  own : w.ownsRow base 71 1 vn vv ((List.range vv).map (tbv L b1 c1))
  ro : ∀ k, k < vv → base ≤ b1 k ∧ b1 k < w.heap.size ∧ vn.ownBlock ≠ some (b1 k) ∧ ∀ i, i ≤ L → w.cell? ⟨b1 k, i, none⟩ = some (rwv L (rb k) i)
  rw : ∀ k i, k < vv → i ≤ L → base ≤ rb k i ∧ rb k i < w.heap.size ∧ vn.ownBlock ≠ some (rb k i) ∧ Rw w L (rb k i)
  ij : ∀ k i k' i', k < vv → i ≤ L → k' < vv → i' ≤ L → rb k i = rb k' i' → k = k' ∧ i = i'
  n1 : ∀ k i k', k < vv → i ≤ L → k' < vv → rb k i ≠ b1 k'
theorem Tbs_nil (w : World) (base L : Nat) (b1 c1 : Nat → Nat) (rb : Nat → Nat → Nat) : Tbs w base L 0 (.slice none 0 0) b1 c1 rb :=
  ⟨World.ownsRow_nil _ _ _ _, fun _ h => absurd h (Nat.not_lt_zero _), fun _ _ h => absurd h (Nat.not_lt_zero _), fun _ _ _ _ h => absurd h (Nat.not_lt_zero _), fun _ _ _ h => absurd h (Nat.not_lt_zero _)⟩
theorem Tbs.more {w w1 w2 w3 : World} {base L vv gl cl : Nat} {vn vn' : Value} {b1 c1 : Nat → Nat} {rb : Nat → Nat → Nat} {rr : Nat → Nat} (h : Tbs w base L vv vn b1 c1 rb) (hbw : base ≤ w.heap.size) (h1 : Below w.heap.size w w1) (hR : Rws w1 w.heap.size L (L + 1) (.slice (some ⟨gl, 0, none⟩) (L + 1) cl) rr) (h2 : Below w1.heap.size w1 w2)
    (own3 : w3.ownsRow base 71 1 vn' (vv + 1) ((List.range vv).map (tbv L b1 c1) ++ [.slice (some ⟨gl, 0, none⟩) (L + 1) cl])) (grow3 : w2.grownBy w3 vn.ownBlock) (hat : vn'.ownBlock = vn.ownBlock ∨ vn'.ownBlock = some w2.heap.size) : Tbs w3 base L (vv + 1) vn' (put1 b1 vv gl) (put1 c1 vv cl) (put2 rb vv rr) := by
  have z1 := h1.size
  have z2 := h2.size
  have z3 := grow3.size
  have hvn : ∀ k, vn.ownBlock = some k → k < w.heap.size := fun k e => (h.own.lt k e).2
  have hgl := hR.own.lt gl rfl
  have old : ∀ k, k < w.heap.size → vn.ownBlock ≠ some k → w3.heap[k]? = w.heap[k]? := fun k hk hn => by
    rw [grow3.block k (by omega) (fun e => hn e.symm), h2.block k (by omega), h1.block k hk]
  have new : ∀ k, w.heap.size ≤ k → k < w1.heap.size → w3.heap[k]? = w1.heap[k]? := fun k hk hn => by
    rw [grow3.block k (by omega) (fun e => by have := hvn k e.symm; omega), h2.block k hn]
  have nn : ∀ k, k < w2.heap.size → vn.ownBlock ≠ some k → vn'.ownBlock ≠ some k := fun k hk hn e => by
    rcases hat with e' | e'
    · exact hn (e' ▸ e)
    · rw [e'] at e; simp at e; omega
  refine ⟨?_, fun k hk => ?_, fun k i hk hi => ?_, fun k i k' i' hk hi hk' hi' e => ?_, fun k i k' hk hi hk' => ?_⟩
  · rw [List.range_succ, List.map_append]
    have : (List.range vv).map (tbv L (put1 b1 vv gl) (put1 c1 vv cl)) = (List.range vv).map (tbv L b1 c1) := by
      apply List.map_congr_left
      intro k hk
      unfold tbv
      rw [put1_lt (List.mem_range.1 hk), put1_lt (List.mem_range.1 hk)]
    rw [this]
    simpa [tbv, put1_at] using own3
  · by_cases e : k = vv
    · subst e
      rw [put1_at, put2_at]
      refine ⟨by omega, by omega, nn gl (by omega) (fun e => by have := hvn gl e; omega), fun i hi => ?_⟩
      rw [World.cell?_of_block (w := w1) (a := ⟨gl, i, none⟩) (new gl hgl.1 hgl.2), World.ownsRow.cellAt hR.own i (by omega)]
      rw [List.getElem?_map, List.getElem?_range (by omega)]; rfl
    · have hk' : k < vv := by omega
      obtain ⟨g1, g2, g3, g4⟩ := h.ro k hk'
      rw [put1_lt hk', put2_lt hk']
      exact ⟨g1, by omega, nn _ (by omega) g3, fun i hi => (World.cell?_of_block (w := w) (a := ⟨b1 k, i, none⟩) (old _ g2 g3)).trans (g4 i hi)⟩
  · by_cases e : k = vv
    · subst e
      rw [put2_at]
      obtain ⟨g1, g2, g3, g4⟩ := hR.ge i (by omega)
      exact ⟨by omega, by omega, nn _ (by omega) (fun e => by have := hvn _ e; omega), g4.of (new _ g1 g2)⟩
    · have hk' : k < vv := by omega
      obtain ⟨g1, g2, g3, g4⟩ := h.rw k i hk' hi
      rw [put2_lt hk']
      exact ⟨g1, by omega, nn _ (by omega) g3, g4.of (old _ g2 g3)⟩
  · have hlo : ∀ q p, q < vv → p ≤ L → rb q p < w.heap.size := fun q p hq hp => (h.rw q p hq hp).2.1
    have hhi : ∀ p, p ≤ L → w.heap.size ≤ rr p := fun p hp => (hR.ge p (by omega)).1
    by_cases e1 : k = vv
    · by_cases e2 : k' = vv
      · rw [e1, e2, put2_at] at e
        exact ⟨by omega, hR.ij i i' (by omega) (by omega) e⟩
      · rw [e1, put2_at, put2_lt (by omega)] at e
        have := hlo k' i' (by omega) hi'; have := hhi i hi; omega
    · by_cases e2 : k' = vv
      · rw [e2, put2_at, put2_lt (by omega)] at e
        have := hlo k i (by omega) hi; have := hhi i' hi'; omega
      · rw [put2_lt (by omega), put2_lt (by omega)] at e
        exact h.ij k i k' i' (by omega) hi (by omega) hi' e
  · by_cases e1 : k = vv
    · rw [e1, put2_at]
      have g := hR.ge i (by omega)
      by_cases e2 : k' = vv
      · rw [e2, put1_at]
        intro e; exact g.2.2.1 (by rw [← e]; rfl)
      · rw [put1_lt (by omega)]
        have := (h.ro k' (by omega)).2.1
        omega
    · rw [put2_lt (by omega)]
      have g := h.rw k i (by omega) hi
      by_cases e2 : k' = vv
      · rw [e2, put1_at]
        omega
      · rw [put1_lt (by omega)]
        exact h.n1 k i k' (by omega) hi (by omega)
set_option maxRecDepth 100000 in
set_option maxHeartbeats 16000000 in
theorem zero_any (gp wp : Nat) (V : Nat) (aoW : Option Addr) (L capW : Nat) (w : World) (k0 : w.cell? ⟨gp, 0, none⟩ = some (.int .i64 (V : Int))) (k1 : w.cell? ⟨wp, 0, none⟩ = some (.slice aoW L capW)) (hV : V ≤ 1000) (hL : L ≤ 1000) :
    Calls Try.prog 70 #[.pointer (some ⟨gp, 0, none⟩), .pointer (some ⟨wp, 0, none⟩)] w fun e w' => ∃ vn b1 c1 rb, e = .returned vn ∧ Tbs w' w.heap.size L V vn b1 c1 rb ∧ Below w.heap.size w w' := by
  obtain ⟨j0, hj, jz0, jz1, jz2⟩ := info_parts Try.infoInt
  obtain ⟨i0, hi, iz0, iz1, iz2⟩ := info_parts Try.infoInts
  obtain ⟨h0, hh, hz0, hz1, hz2'⟩ := info_parts Try.infoIntss
  go_enter Try.func70, Try.ntmps70
  go_wp2_with fail
  go_loopw [3, 4] (fun vn v wr => ∃ (vv : Nat) (b1 c1 : Nat → Nat) (rb : Nat → Nat → Nat), vv ≤ V ∧ v = .int .i64 vv ∧ Tbs wr w.heap.size L vv vn b1 c1 rb ∧ Below w.heap.size w wr) (fun _ v _ => V - (intOf v).toNat)
  case atStart => exact ⟨0, fun _ => 0, fun _ => 0, fun _ _ => 0, Nat.zero_le _, rfl, Tbs_nil _ _ _ _ _ _, Below.refl _ _⟩
  case round =>
    obtain ⟨vv, b1, c1, rb, hv, rfl, tb, bel⟩ := hrel
    have n0 := bkeep bel k0
    obtain ⟨aon, capn, rfl⟩ := owns_slice tb.own
    by_cases hlt : vv < V
    · have hz := bel.size
      go_wp2_with fail
      generalize wr = wv at *
      go_loopw [5, 6] (fun vl i wr2 => ∃ (ii : Nat) (rr : Nat → Nat), ii ≤ L + 1 ∧ i = .int .i64 ii ∧ Rws wr2 wv.heap.size L ii vl rr ∧ Below wv.heap.size wv wr2) (fun _ i _ => L + 1 - (intOf i).toNat)
      case atStart => exact ⟨0, fun _ => 0, Nat.zero_le _, rfl, Rws_nil _ _ _ _, Below.refl _ _⟩
      case round =>
        obtain ⟨ii, rr, hii, rfl, rws, be2⟩ := hrel
        have n1 := bkeep (bthen bel be2) k1
        obtain ⟨aol, capl, rfl⟩ := owns_slice rws.own
        have hz2 := be2.size
        by_cases hlt2 : ii ≤ L
        · go_wp2_with (first | (refine wpList_make_full _ rfl _ _ 33 rfl wr.heap.size 3 j0 (.int .i64 0) 1 Try.underlying33 hj jz0 jz1 .i64 .i64 _ _ (L + 1) rfl rfl (by go_num) (by go_num) (by rw [jz2]; omega) (by unfold maxLen; omega) (Nat.le_refl _) ?_))
          intro w1 own1 grow1
          have hb1 := grown_below grow1
          rw [made_zero] at own1
          have rw1 : Rw w1 L wr.heap.size := ⟨fun j hj => by rw [World.ownsRow.cellAt own1 j (by omega), ints_at (by simp; omega)]; simp [List.getD_eq_getElem?_getD, show j < L + 1 by omega], World.ownsRow.frozenAt own1⟩
          have g1 := (own1.lt wr.heap.size rfl).2
          have ownL := owns_below rws.own hb1
          obtain ⟨gg, hgg⟩ : ∃ gg, gg = wr.heap.size := ⟨_, rfl⟩
          rw [← hgg] at rw1 g1 ⊢
          have hgl : wr.heap.size ≤ gg := by omega
          clear hgg
          have n6 : ∀ j u, [Value.slice (some ⟨gg, 0, none⟩) (L + 1) (L + 1)][j]? = some u → (w1.alloc (.cells #[.slice (some ⟨gg, 0, none⟩) (L + 1) (L + 1)] 33)).cell? ((⟨w1.heap.size, 0, none⟩ : Addr).add j) = some u := cell_one_at _ _ _ rfl
          have hz1 := hb1.size
          go_wp2_with (first | (at_builtin; go_must (refine wpList_append_own_at _ rfl _ _ 71 rfl wv.heap.size 33 i0 (.slice none 0 0) 1 24 Try.underlying71 hi iz0 iz1 iz2 rfl (by decide) _ _ _ rfl (ownL.alloc _) ⟨w1.heap.size, 0, none⟩ 1 1 [.slice (some ⟨gg, 0, none⟩) (L + 1) (L + 1)] rfl rfl n6 (fun u hu => by simp at hu; subst hu; rfl) (by unfold maxLen; omega) (by omega) (by simp; omega) ?_)))
          intro v3 w3 own3 grow3 _ hat3
          have rws3 := rws.more (g := gg) hz2 hb1 ⟨hgl, g1⟩ rw1 (al1 w1 _) own3 grow3 (by simpa using hat3)
          have be3 : Below wv.heap.size wv w3 := (bthen be2 (bthen hb1 (al1 w1 _))).grown grow3 (bthen be2 (bthen hb1 (al1 w1 _))).size (fun k e => (rws.own.lt k e).1)
          go_wp2_with fail
          go_roundw
          case rel => exact ⟨ii + 1, _, by omega, by go_num, rws3, be3⟩
          case measure => simp [intOf]; omega
        · obtain rfl : ii = L + 1 := by omega
          obtain ⟨gl, cl, hvl⟩ : ∃ gl cl, (Value.slice aol (L + 1) capl) = .slice (some ⟨gl, 0, none⟩) (L + 1) cl := by
            rcases rws.own.2 with ⟨_, h⟩ | ⟨g, cap, cur, h, _⟩
            · omega
            · exact ⟨g, cap, h⟩
          simp only [Value.slice.injEq, true_and] at hvl
          obtain ⟨rfl, rfl⟩ := hvl
          have ownN : wr.ownsRow w.heap.size 71 1 (.slice aon vv capn) vv ((List.range vv).map (tbv L b1 c1)) := owns_below tb.own be2
          have n6 : ∀ j u, [Value.slice (some ⟨gl, 0, none⟩) (L + 1) capl][j]? = some u → (wr.alloc (.cells #[.slice (some ⟨gl, 0, none⟩) (L + 1) capl] 71)).cell? ((⟨wr.heap.size, 0, none⟩ : Addr).add j) = some u := cell_one_at _ _ _ rfl
          go_wp2_with (first | (at_builtin; go_must (refine wpList_append_own_at _ rfl _ _ 106 rfl w.heap.size 71 h0 (.slice none 0 0) 1 24 Try.underlying106 hh hz0 hz1 hz2' rfl (by decide) _ _ _ rfl (ownN.alloc _) ⟨wr.heap.size, 0, none⟩ 1 1 [.slice (some ⟨gl, 0, none⟩) (L + 1) capl] rfl rfl n6 (fun u hu => by simp at hu; subst hu; rfl) (by unfold maxLen; omega) (by omega) (by simp; omega) ?_)))
          intro v3 w3 own3 grow3 _ hat3
          have tb3 := tb.more (w1 := wr) hz be2 rws (al1 wr _) own3 grow3 (by simpa using hat3)
          have be3 : Below w.heap.size w w3 := (bthen (bthen bel be2) (al1 wr _)).grown grow3 (bthen (bthen bel be2) (al1 wr _)).size (fun k e => (tb.own.lt k e).1)
          go_wp2_with fail
          go_roundw
          case rel => exact ⟨vv + 1, _, _, _, by omega, by go_num, tb3, be3⟩
          case measure => simp [intOf]; omega
    · obtain rfl : vv = V := by omega
      go_wp2_with fail
      go_ret
      exact ⟨_, b1, c1, rb, rfl, tb, bel⟩
end Go.Proofs.Ytghplmldnkcpnac.G

/- The document's table of counts: written cell by cell; and its rounds, as plain mathematics. -/
namespace Go.Proofs.Ytghplmldnkcpnac.G
open Go.RowKit

/-- The table: rows apart from one another, and from what leads to them. -/
structure Tb (w : World) (base V L b0 : Nat) (b1 c1 : Nat → Nat) (rb : Nat → Nat → Nat) (f : Nat → Nat → Nat → Int) : Prop where
  r : TbR w V L b0 b1 c1 rb f
  fz : ∀ v i j, v < V → i ≤ L → w.frozen? ⟨rb v i, j, none⟩ = false
  ij : ∀ k i k' i', k < V → i ≤ L → k' < V → i' ≤ L → rb k i = rb k' i' → k = k' ∧ i = i'
  n1 : ∀ k i k', k < V → i ≤ L → k' < V → rb k i ≠ b1 k'
  n0 : ∀ k i, k < V → i ≤ L → rb k i ≠ b0
  ge : ∀ k i, k < V → i ≤ L → base ≤ rb k i
theorem Tb_of {w : World} {base V L b0 c0 : Nat} {b1 c1 : Nat → Nat} {rb : Nat → Nat → Nat} (h : Tbs w base L V (.slice (some ⟨b0, 0, none⟩) V c0) b1 c1 rb) : Tb w base V L b0 b1 c1 rb (fun _ _ _ => 0) := by
  refine ⟨⟨fun v hv => ?_, fun v i hv hi => (h.ro v hv).2.2.2 i hi, fun v i j hv hi hj => (h.rw v i hv hi).2.2.2.c j hj⟩, fun v i j hv hi => (h.rw v i hv hi).2.2.2.f j, h.ij, h.n1, fun k i hk hi e => (h.rw k i hk hi).2.2.1 (by rw [e]; rfl), fun k i hk hi => (h.rw k i hk hi).1⟩
  rw [World.ownsRow.cellAt h.own v (by omega), List.getElem?_map, List.getElem?_range hv]; rfl
theorem Tb.lw {w w' : World} {base V L b0 : Nat} {b1 c1 : Nat → Nat} {rb : Nat → Nat → Nat} {f : Nat → Nat → Nat → Int} (h : Tb w base V L b0 b1 c1 rb f) (hb : Below w.heap.size w w') : Tb w' base V L b0 b1 c1 rb f :=
  ⟨h.r.lw hb, fun v i j hv hi => (World.frozen?_of_block (w := w) (a := ⟨rb v i, j, none⟩) (hb.block _ (lt_of_cell (h.r.h2 v i 0 hv hi (Nat.zero_le _))))).trans (h.fz v i j hv hi), h.ij, h.n1, h.n0, h.ge⟩
def upd (f : Nat → Nat → Nat → Int) (v i j : Nat) (x : Int) : Nat → Nat → Nat → Int := fun a b c => if a = v ∧ b = i ∧ c = j then x else f a b c
theorem Tb.set {w : World} {base V L b0 : Nat} {b1 c1 : Nat → Nat} {rb : Nat → Nat → Nat} {f : Nat → Nat → Nat → Int} (h : Tb w base V L b0 b1 c1 rb f) {v i j : Nat} (hv : v < V) (hi : i ≤ L) (hj : j ≤ L) (x : Int) : Tb (w.setCell ⟨rb v i, j, none⟩ (.int .i64 x)) base V L b0 b1 c1 rb (upd f v i j x) := by
  have keep : ∀ b o u, b ≠ rb v i → w.cell? ⟨b, o, none⟩ = some u → (w.setCell ⟨rb v i, j, none⟩ (.int .i64 x)).cell? ⟨b, o, none⟩ = some u := fun b o u hb hc => by
    rw [World.cell?_of_block (w := w) (a := ⟨b, o, none⟩) (Below.heap_setCell _ _ _ _ hb)]; exact hc
  refine ⟨⟨fun k hk => keep _ _ _ (fun e => h.n0 v i hv hi e.symm) (h.r.h0 k hk), fun k a hk ha => keep _ _ _ (fun e => h.n1 v i k hv hi hk e.symm) (h.r.h1 k a hk ha), fun k a c hk ha hc => ?_⟩, fun k a c hk ha => ?_, h.ij, h.n1, h.n0, h.ge⟩
  · unfold upd
    by_cases e : k = v ∧ a = i
    · obtain ⟨rfl, rfl⟩ := e
      by_cases e2 : c = j
      · subst e2
        rw [if_pos ⟨rfl, rfl, rfl⟩]
        exact World.cell?_setCell_same _ _ _ (h.r.h2 k a c hk ha hc)
      · rw [if_neg (fun q => e2 q.2.2), World.cell?_setCell_other _ _ _ _ (fun q => e2 (by injection q with _ q; exact q.symm))]
        exact h.r.h2 k a c hk ha hc
    · rw [if_neg (fun q => e ⟨q.1, q.2.1⟩)]
      exact keep _ _ _ (fun q => e (h.ij k a v i hk ha hv hi q)) (h.r.h2 k a c hk ha hc)
  · rw [show (w.setCell ⟨rb v i, j, none⟩ (.int .i64 x)).frozen? ⟨rb k a, c, none⟩ = w.frozen? ⟨rb k a, c, none⟩ by simp [go_sem]]
    exact h.fz k a c hk ha

/-! Rounds. -/
section
variable (R : List Ru) (W : List Int) (m : Int)
/-- So many rules of one round. -/
def cnF (f : Nat → Nat → Nat → Int) : Nat → Nat → Nat → Nat → Int
  | 0 => fun _ _ _ => 0
  | r + 1 => fun v i j => match R[r]? with
    | some ru => if ru.left = (v : Int) ∧ i ≤ j then smI (cnF f r v i j) (wyN f W m i j ru.right) m else cnF f r v i j
    | none => cnF f r v i j
def cnT : Nat → Nat → Nat → Nat → Int
  | 0 => fun _ _ _ => 0
  | t + 1 => cnF R W m (cnT t) R.length
variable {R W m}
theorem cnF_at {f : Nat → Nat → Nat → Int} {r : Nat} (h : r < R.length) (v i j : Nat) : cnF R W m f (r + 1) v i j = if R[r].left = (v : Int) ∧ i ≤ j then smI (cnF R W m f r v i j) (wyN f W m i j R[r].right) m else cnF R W m f r v i j := by
  show (match R[r]? with
    | some ru => if ru.left = (v : Int) ∧ i ≤ j then smI (cnF R W m f r v i j) (wyN f W m i j ru.right) m else cnF R W m f r v i j
    | none => cnF R W m f r v i j) = _
  rw [List.getElem?_eq_getElem h]
theorem lpE_rng {val : Nat → Int} {x : Int} (hm : 1 ≤ m) (hx : 0 ≤ x) (hv : ∀ e, 0 ≤ val e) : ∀ (n e : Nat) (nx : List Int), Rng m nx → Rng m (lpE val x m n e nx)
  | 0, _, _, h => h
  | n + 1, e, nx, h => by
    rw [lpE]
    exact lpE_rng hm hx hv n (e + 1) _ (h.set (smI_rng (h.getD hm e).1 (prI_rng hx (hv e) hm).1 hm))
theorem lpM_rng {val : Nat → Nat → Int} {a : List Int} {j : Nat} (hm : 1 ≤ m) (ha : Rng m a) (hv : ∀ k e, 0 ≤ val k e) : ∀ (n k : Nat) (nx : List Int), Rng m nx → Rng m (lpM val a j m n k nx)
  | 0, _, _, h => h
  | n + 1, k, nx, h => by
    rw [lpM]
    refine lpM_rng hm ha hv n (k + 1) _ ?_
    split
    · exact lpE_rng hm (ha.getD hm k).1 (hv k) _ _ _ h
    · exact h
theorem lpK_rng {f : Nat → Nat → Nat → Int} {i j : Nat} (hm : 1 ≤ m) (hf : ∀ v a b, 0 ≤ f v a b) : ∀ (l a : List Int), Rng m a → Rng m (lpK f W m i j l a)
  | [], _, h => h
  | s :: ss, a, h => by
    rw [lpK]
    refine lpK_rng hm hf ss _ (lpM_rng hm h (fun k e => ?_) _ _ _ (Rng.zeros hm _))
    unfold vlF
    split
    · exact hf _ _ _
    · split <;> decide
theorem wyN_rng {f : Nat → Nat → Nat → Int} {i j : Nat} {l : List Int} (hm : 1 ≤ m) (hf : ∀ v a b, 0 ≤ f v a b) : 0 ≤ wyN f W m i j l ∧ wyN f W m i j l ≤ m :=
  (lpK_rng hm hf l _ ((Rng.zeros hm _).set (by omega))).getD hm j
theorem cnF_rng {f : Nat → Nat → Nat → Int} (hm : 1 ≤ m) (hf : ∀ v a b, 0 ≤ f v a b) : ∀ (r v i j : Nat), 0 ≤ cnF R W m f r v i j ∧ cnF R W m f r v i j ≤ m
  | 0, _, _, _ => ⟨Int.le_refl _, by show (0 : Int) ≤ m; omega⟩
  | r + 1, v, i, j => by
    rcases Nat.lt_or_ge r R.length with h | h
    · rw [cnF_at h]
      split
      · exact smI_rng (cnF_rng hm hf r v i j).1 (wyN_rng hm hf).1 hm
      · exact cnF_rng hm hf r v i j
    · show 0 ≤ (match R[r]? with
        | some ru => if ru.left = (v : Int) ∧ i ≤ j then smI (cnF R W m f r v i j) (wyN f W m i j ru.right) m else cnF R W m f r v i j
        | none => cnF R W m f r v i j) ∧ (match R[r]? with
        | some ru => if ru.left = (v : Int) ∧ i ≤ j then smI (cnF R W m f r v i j) (wyN f W m i j ru.right) m else cnF R W m f r v i j
        | none => cnF R W m f r v i j) ≤ m
      rw [List.getElem?_eq_none h]
      exact cnF_rng hm hf r v i j
theorem cnT_rng (hm : 1 ≤ m) : ∀ (t v i j : Nat), 0 ≤ cnT R W m t v i j ∧ cnT R W m t v i j ≤ m
  | 0, _, _, _ => ⟨Int.le_refl _, by show (0 : Int) ≤ m; omega⟩
  | t + 1, v, i, j => cnF_rng hm (fun a b c => (cnT_rng hm t a b c).1) _ v i j
end
end Go.Proofs.Ytghplmldnkcpnac.G
