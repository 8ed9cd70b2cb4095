/- Texts laid together: Yz Yt Zb Zj Zk Zl. -/
import Derived.Test.YtlhdppkllmnmkadL08
import Derived.Test.YtlhdppkllmnmkadL04
import Derived.Test.YtlhdppkllmnmkadL07
import Derived.Test.YtlhdppkllmnmkadL03
import Derived.Test.YtlhdppkllmnmkadL05
import Derived.Maps.OwnSet
import Derived.DeepKeys4
import Derived.Test.YtlhdppkllmnmkadL01
/- Counts, all zero: the document's table of nonterminals, places and places. -/
namespace Go.Proofs.Ytlhdppkllmnmkad.G
open Go.RowKit
theorem Try.infoInts : (Try.prog.info? 35).map (fun i => (i.zero, i.size, i.bytes)) = some (some (.slice none 0 0), 1, 24) := by kernel_rfl
theorem Try.infoIntss : (Try.prog.info? 121).map (fun i => (i.zero, i.size, i.bytes)) = some (some (.slice none 0 0), 1, 24) := by kernel_rfl
/-- A row of zeros. -/
structure Rw (w : World) (L g : Nat) : Prop where
  c : ∀ j, j ≤ L → w.cell? ⟨g, j, none⟩ = some (.int .i64 0)
  f : ∀ j, w.frozen? ⟨g, j, none⟩ = false
theorem Rw.of {w w' : World} {L g : Nat} (h : Rw w L g) (hb : w'.heap[g]? = w.heap[g]?) : Rw w' L g :=
  ⟨fun j hj => (World.cell?_of_block (w := w) (a := ⟨g, j, none⟩) hb).trans (h.c j hj), fun j => (World.frozen?_of_block (w := w) (a := ⟨g, j, none⟩) hb).trans (h.f j)⟩
def rwv (L : Nat) (rr : Nat → Nat) (k : Nat) : Value := .slice (some ⟨rr k, 0, none⟩) (L + 1) (L + 1)
def put1 (rr : Nat → Nat) (n g : Nat) : Nat → Nat := fun k => if k = n then g else rr k
theorem put1_lt {rr : Nat → Nat} {n g k : Nat} (h : k < n) : put1 rr n g k = rr k := if_neg (by omega)
theorem put1_at {rr : Nat → Nat} {n g : Nat} : put1 rr n g n = g := if_pos rfl
theorem map_put1 {α : Type} (F : (Nat → Nat) → Nat → α) (hF : ∀ a b k, a k = b k → F a k = F b k) (rr : Nat → Nat) (n g : Nat) : (List.range (n + 1)).map (F (put1 rr n g)) = (List.range n).map (F rr) ++ [F (put1 rr n g) n] := by
  rw [List.range_succ, List.map_append]
  congr 1
  apply List.map_congr_left
  intro k hk
  exact hF _ _ k (put1_lt (List.mem_range.1 hk))
/-- The rows of one nonterminal. -/
structure Rwz (w : World) (base L ii : Nat) (vl : Value) (rr : Nat → Nat) : Prop where
  own : w.ownsRow base 35 1 vl ii ((List.range ii).map (rwv L rr))
  ge : ∀ k, k < ii → base ≤ rr k ∧ rr k < w.heap.size ∧ vl.ownBlock ≠ some (rr k) ∧ Rw w L (rr k)
  ij : ∀ k k', k < ii → k' < ii → rr k = rr k' → k = k'
theorem Rwz_nil (w : World) (base L : Nat) (rr : Nat → Nat) : Rwz w base L 0 (.slice none 0 0) rr := ⟨World.ownsRow_nil _ _ _ _, fun _ h => absurd h (Nat.not_lt_zero _), fun _ _ h => absurd h (Nat.not_lt_zero _)⟩
/-- One row more. -/
theorem Rwz.more {w w1 w2 w3 : World} {base L ii g : Nat} {vl vl' : Value} {rr : Nat → Nat} (h : Rwz w base L ii vl rr) (hbw : base ≤ w.heap.size) (h1 : Below w.heap.size w w1) (hg : w.heap.size ≤ g ∧ g < w1.heap.size) (hr : Rw w1 L g) (h2 : Below w1.heap.size w1 w2)
    (own3 : w3.ownsRow base 35 1 vl' (ii + 1) ((List.range ii).map (rwv L rr) ++ [.slice (some ⟨g, 0, none⟩) (L + 1) (L + 1)])) (grow3 : w2.grownBy w3 vl.ownBlock) (hat : vl'.ownBlock = vl.ownBlock ∨ vl'.ownBlock = some w2.heap.size) : Rwz w3 base L (ii + 1) vl' (put1 rr ii g) := by
  have z1 := h1.size
  have z2 := h2.size
  have z3 := grow3.size
  have hvl : ∀ k, vl.ownBlock = some k → k < w.heap.size := fun k e => (h.own.lt k e).2
  refine ⟨?_, fun k hk => ?_, fun k k' hk hk' e => ?_⟩
  · rw [map_put1 (rwv L) (fun a b k e => by unfold rwv; rw [e])]
    unfold rwv at *
    rw [put1_at]; exact own3
  · by_cases e : k = ii
    · subst e
      rw [put1_at]
      refine ⟨by omega, by omega, fun e => ?_, hr.of ?_⟩
      · rcases hat with e' | e'
        · have := hvl g (e' ▸ e); omega
        · rw [e'] at e; simp at e; omega
      · rw [grow3.block g (by omega) (fun e => by have := hvl g e.symm; omega), h2.block g hg.2]
    · have hk' : k < ii := by omega
      obtain ⟨g1, g2, g3, g4⟩ := h.ge k hk'
      rw [put1_lt hk']
      refine ⟨g1, by omega, fun e => ?_, g4.of ?_⟩
      · rcases hat with e' | e'
        · exact g3 (e' ▸ e)
        · rw [e'] at e; simp at e; omega
      · rw [grow3.block _ (by omega) (fun e => g3 e.symm), h2.block _ (by omega), h1.block _ g2]
  · have hb : ∀ q, q < ii → rr q < w.heap.size := fun q hq => (h.ge q hq).2.1
    by_cases e1 : k = ii
    · by_cases e2 : k' = ii
      · omega
      · rw [e1, put1_at, put1_lt (by omega)] at e
        have := hb k' (by omega); omega
    · by_cases e2 : k' = ii
      · rw [e2, put1_at, put1_lt (by omega)] at e
        have := hb k (by omega); omega
      · rw [put1_lt (by omega), put1_lt (by omega)] at e
        exact h.ij k k' (by omega) (by omega) e
def put2 (rb : Nat → Nat → Nat) (n : Nat) (rr : Nat → Nat) : Nat → Nat → Nat := fun k => if k = n then rr else rb k
theorem put2_lt {rb : Nat → Nat → Nat} {n k : Nat} {rr : Nat → Nat} (h : k < n) : put2 rb n rr k = rb k := if_neg (by omega)
theorem put2_at {rb : Nat → Nat → Nat} {n : Nat} {rr : Nat → Nat} : put2 rb n rr n = rr := if_pos rfl
def tbv (L : Nat) (b1 c1 : Nat → Nat) (k : Nat) : Value := .slice (some ⟨b1 k, 0, none⟩) (L + 1) (c1 k)
/-- The table, as far as it is made. -/
structure Tbs (w : World) (base L vv : Nat) (vn : Value) (b1 c1 : Nat → Nat) (rb : Nat → Nat → Nat) : Prop where
  own : w.ownsRow base 121 1 vn vv ((List.range vv).map (tbv L b1 c1))
  ro : ∀ k, k < vv → base ≤ b1 k ∧ b1 k < w.heap.size ∧ vn.ownBlock ≠ some (b1 k) ∧ ∀ i, i ≤ L → w.cell? ⟨b1 k, i, none⟩ = some (rwv L (rb k) i)
  rw : ∀ k i, k < vv → i ≤ L → base ≤ rb k i ∧ rb k i < w.heap.size ∧ vn.ownBlock ≠ some (rb k i) ∧ Rw w L (rb k i)
  ij : ∀ k i k' i', k < vv → i ≤ L → k' < vv → i' ≤ L → rb k i = rb k' i' → k = k' ∧ i = i'
  n1 : ∀ k i k', k < vv → i ≤ L → k' < vv → rb k i ≠ b1 k'
theorem Tbs_nil (w : World) (base L : Nat) (b1 c1 : Nat → Nat) (rb : Nat → Nat → Nat) : Tbs w base L 0 (.slice none 0 0) b1 c1 rb :=
  ⟨World.ownsRow_nil _ _ _ _, fun _ h => absurd h (Nat.not_lt_zero _), fun _ _ h => absurd h (Nat.not_lt_zero _), fun _ _ _ _ h => absurd h (Nat.not_lt_zero _), fun _ _ _ h => absurd h (Nat.not_lt_zero _)⟩
theorem Tbs.more {w w1 w2 w3 : World} {base L vv gl cl : Nat} {vn vn' : Value} {b1 c1 : Nat → Nat} {rb : Nat → Nat → Nat} {rr : Nat → Nat} (h : Tbs w base L vv vn b1 c1 rb) (hbw : base ≤ w.heap.size) (h1 : Below w.heap.size w w1) (hR : Rwz w1 w.heap.size L (L + 1) (.slice (some ⟨gl, 0, none⟩) (L + 1) cl) rr) (h2 : Below w1.heap.size w1 w2)
    (own3 : w3.ownsRow base 121 1 vn' (vv + 1) ((List.range vv).map (tbv L b1 c1) ++ [.slice (some ⟨gl, 0, none⟩) (L + 1) cl])) (grow3 : w2.grownBy w3 vn.ownBlock) (hat : vn'.ownBlock = vn.ownBlock ∨ vn'.ownBlock = some w2.heap.size) : Tbs w3 base L (vv + 1) vn' (put1 b1 vv gl) (put1 c1 vv cl) (put2 rb vv rr) := by
  have z1 := h1.size
  have z2 := h2.size
  have z3 := grow3.size
  have hvn : ∀ k, vn.ownBlock = some k → k < w.heap.size := fun k e => (h.own.lt k e).2
  have hgl := hR.own.lt gl rfl
  have old : ∀ k, k < w.heap.size → vn.ownBlock ≠ some k → w3.heap[k]? = w.heap[k]? := fun k hk hn => by
    rw [grow3.block k (by omega) (fun e => hn e.symm), h2.block k (by omega), h1.block k hk]
  have new : ∀ k, w.heap.size ≤ k → k < w1.heap.size → w3.heap[k]? = w1.heap[k]? := fun k hk hn => by
    rw [grow3.block k (by omega) (fun e => by have := hvn k e.symm; omega), h2.block k hn]
  have nn : ∀ k, k < w2.heap.size → vn.ownBlock ≠ some k → vn'.ownBlock ≠ some k := fun k hk hn e => by
    rcases hat with e' | e'
    · exact hn (e' ▸ e)
    · rw [e'] at e; simp at e; omega
  refine ⟨?_, fun k hk => ?_, fun k i hk hi => ?_, fun k i k' i' hk hi hk' hi' e => ?_, fun k i k' hk hi hk' => ?_⟩
  · rw [List.range_succ, List.map_append]
    have : (List.range vv).map (tbv L (put1 b1 vv gl) (put1 c1 vv cl)) = (List.range vv).map (tbv L b1 c1) := by
      apply List.map_congr_left
      intro k hk
      unfold tbv
      rw [put1_lt (List.mem_range.1 hk), put1_lt (List.mem_range.1 hk)]
    rw [this]
    simpa [tbv, put1_at] using own3
  · by_cases e : k = vv
    · subst e
      rw [put1_at, put2_at]
      refine ⟨by omega, by omega, nn gl (by omega) (fun e => by have := hvn gl e; omega), fun i hi => ?_⟩
      rw [World.cell?_of_block (w := w1) (a := ⟨gl, i, none⟩) (new gl hgl.1 hgl.2), World.ownsRow.cellAt hR.own i (by omega)]
      rw [List.getElem?_map, List.getElem?_range (by omega)]; rfl
    · have hk' : k < vv := by omega
      obtain ⟨g1, g2, g3, g4⟩ := h.ro k hk'
      rw [put1_lt hk', put2_lt hk']
      exact ⟨g1, by omega, nn _ (by omega) g3, fun i hi => (World.cell?_of_block (w := w) (a := ⟨b1 k, i, none⟩) (old _ g2 g3)).trans (g4 i hi)⟩
  · by_cases e : k = vv
    · subst e
      rw [put2_at]
      obtain ⟨g1, g2, g3, g4⟩ := hR.ge i (by omega)
      exact ⟨by omega, by omega, nn _ (by omega) (fun e => by have := hvn _ e; omega), g4.of (new _ g1 g2)⟩
    · have hk' : k < vv := by omega
      obtain ⟨g1, g2, g3, g4⟩ := h.rw k i hk' hi
      rw [put2_lt hk']
      exact ⟨g1, by omega, nn _ (by omega) g3, g4.of (old _ g2 g3)⟩
  · have hlo : ∀ q p, q < vv → p ≤ L → rb q p < w.heap.size := fun q p hq hp => (h.rw q p hq hp).2.1
    have hhi : ∀ p, p ≤ L → w.heap.size ≤ rr p := fun p hp => (hR.ge p (by omega)).1
    by_cases e1 : k = vv
    · by_cases e2 : k' = vv
      · rw [e1, e2, put2_at] at e
        exact ⟨by omega, hR.ij i i' (by omega) (by omega) e⟩
      · rw [e1, put2_at, put2_lt (by omega)] at e
        have := hlo k' i' (by omega) hi'; have := hhi i hi; omega
    · by_cases e2 : k' = vv
      · rw [e2, put2_at, put2_lt (by omega)] at e
        have := hlo k i (by omega) hi; have := hhi i' hi'; omega
      · rw [put2_lt (by omega), put2_lt (by omega)] at e
        exact h.ij k i k' i' (by omega) hi (by omega) hi' e
  · by_cases e1 : k = vv
    · rw [e1, put2_at]
      have g := hR.ge i (by omega)
      by_cases e2 : k' = vv
      · rw [e2, put1_at]
        intro e; exact g.2.2.1 (by rw [← e]; rfl)
      · rw [put1_lt (by omega)]
        have := (h.ro k' (by omega)).2.1
        omega
    · rw [put2_lt (by omega)]
      have g := h.rw k i (by omega) hi
      by_cases e2 : k' = vv
      · rw [e2, put1_at]
        omega
      · rw [put1_lt (by omega)]
        exact h.n1 k i k' (by omega) hi (by omega)
set_option maxRecDepth 100000 in
set_option maxHeartbeats 16000000 in
theorem zero_any (gp wp : Nat) (V : Nat) (aoW : Option Addr) (L capW : Nat) (w : World) (k0 : w.cell? ⟨gp, 0, none⟩ = some (.int .i64 (V : Int))) (k1 : w.cell? ⟨wp, 0, none⟩ = some (.slice aoW L capW)) (hV : V ≤ 1000) (hL : L ≤ 1000) :
    Calls Try.prog 91 #[.pointer (some ⟨gp, 0, none⟩), .pointer (some ⟨wp, 0, none⟩)] w fun e w' => ∃ vn b1 c1 rb, e = .returned vn ∧ Tbs w' w.heap.size L V vn b1 c1 rb ∧ Below w.heap.size w w' := by
  obtain ⟨j0, hj, jz0, jz1, jz2⟩ := info_parts Try.infoInt
  obtain ⟨i0, hi, iz0, iz1, iz2⟩ := info_parts Try.infoInts
  obtain ⟨h0, hh, hz0, hz1, hz2'⟩ := info_parts Try.infoIntss
  go_enter Try.func91, Try.ntmps91
  go_wp2_with fail
  go_loopw [3, 4] (fun vn v wr => ∃ (vv : Nat) (b1 c1 : Nat → Nat) (rb : Nat → Nat → Nat), vv ≤ V ∧ v = .int .i64 vv ∧ Tbs wr w.heap.size L vv vn b1 c1 rb ∧ Below w.heap.size w wr) (fun _ v _ => V - (intOf v).toNat)
  case atStart => exact ⟨0, fun _ => 0, fun _ => 0, fun _ _ => 0, Nat.zero_le _, rfl, Tbs_nil _ _ _ _ _ _, Below.refl _ _⟩
  case round =>
    obtain ⟨vv, b1, c1, rb, hv, rfl, tb, bel⟩ := hrel
    have n0 := bkeep bel k0
    obtain ⟨aon, capn, rfl⟩ := owns_slice tb.own
    by_cases hlt : vv < V
    · have hz := bel.size
      go_wp2_with fail
      generalize wr = wv at *
      go_loopw [5, 6] (fun vl i wr2 => ∃ (ii : Nat) (rr : Nat → Nat), ii ≤ L + 1 ∧ i = .int .i64 ii ∧ Rwz wr2 wv.heap.size L ii vl rr ∧ Below wv.heap.size wv wr2) (fun _ i _ => L + 1 - (intOf i).toNat)
      case atStart => exact ⟨0, fun _ => 0, Nat.zero_le _, rfl, Rwz_nil _ _ _ _, Below.refl _ _⟩
      case round =>
        obtain ⟨ii, rr, hii, rfl, rws, be2⟩ := hrel
        have n1 := bkeep (bthen bel be2) k1
        obtain ⟨aol, capl, rfl⟩ := owns_slice rws.own
        have hz2 := be2.size
        by_cases hlt2 : ii ≤ L
        · go_wp2_with (first | (refine wpList_make_full _ rfl _ _ 35 rfl wr.heap.size 3 j0 (.int .i64 0) 1 Try.underlying35 hj jz0 jz1 .i64 .i64 _ _ (L + 1) rfl rfl (by go_num) (by go_num) (by rw [jz2]; omega) (by unfold maxLen; omega) (Nat.le_refl _) ?_))
          intro w1 own1 grow1
          have hb1 := grown_below grow1
          rw [made_zero] at own1
          have rw1 : Rw w1 L wr.heap.size := ⟨fun j hj => by rw [World.ownsRow.cellAt own1 j (by omega), ints_at (by simp; omega)]; simp [List.getD_eq_getElem?_getD, show j < L + 1 by omega], World.ownsRow.frozenAt own1⟩
          have g1 := (own1.lt wr.heap.size rfl).2
          have ownL := owns_below rws.own hb1
          obtain ⟨gg, hgg⟩ : ∃ gg, gg = wr.heap.size := ⟨_, rfl⟩
          rw [← hgg] at rw1 g1 ⊢
          have hgl : wr.heap.size ≤ gg := by omega
          clear hgg
          have n6 : ∀ j u, [Value.slice (some ⟨gg, 0, none⟩) (L + 1) (L + 1)][j]? = some u → (w1.alloc (.cells #[.slice (some ⟨gg, 0, none⟩) (L + 1) (L + 1)] 35)).cell? ((⟨w1.heap.size, 0, none⟩ : Addr).add j) = some u := cell_one_at _ _ _ rfl
          have hz1 := hb1.size
          go_wp2_with (first | (at_builtin; go_must (refine wpList_append_own_at _ rfl _ _ 121 rfl wv.heap.size 35 i0 (.slice none 0 0) 1 24 Try.underlying121 hi iz0 iz1 iz2 rfl (by decide) _ _ _ rfl (ownL.alloc _) ⟨w1.heap.size, 0, none⟩ 1 1 [.slice (some ⟨gg, 0, none⟩) (L + 1) (L + 1)] rfl rfl n6 (fun u hu => by simp at hu; subst hu; rfl) (by unfold maxLen; omega) (by omega) (by simp; omega) ?_)))
          intro v3 w3 own3 grow3 _ hat3
          have rws3 := rws.more (g := gg) hz2 hb1 ⟨hgl, g1⟩ rw1 (al1 w1 _) own3 grow3 (by simpa using hat3)
          have be3 : Below wv.heap.size wv w3 := (bthen be2 (bthen hb1 (al1 w1 _))).grown grow3 (bthen be2 (bthen hb1 (al1 w1 _))).size (fun k e => (rws.own.lt k e).1)
          go_wp2_with fail
          go_roundw
          case rel => exact ⟨ii + 1, _, by omega, by go_num, rws3, be3⟩
          case measure => simp [intOf]; omega
        · obtain rfl : ii = L + 1 := by omega
          obtain ⟨gl, cl, hvl⟩ : ∃ gl cl, (Value.slice aol (L + 1) capl) = .slice (some ⟨gl, 0, none⟩) (L + 1) cl := by
            rcases rws.own.2 with ⟨_, h⟩ | ⟨g, cap, cur, h, _⟩
            · omega
            · exact ⟨g, cap, h⟩
          simp only [Value.slice.injEq, true_and] at hvl
          obtain ⟨rfl, rfl⟩ := hvl
          have ownN : wr.ownsRow w.heap.size 121 1 (.slice aon vv capn) vv ((List.range vv).map (tbv L b1 c1)) := owns_below tb.own be2
          have n6 : ∀ j u, [Value.slice (some ⟨gl, 0, none⟩) (L + 1) capl][j]? = some u → (wr.alloc (.cells #[.slice (some ⟨gl, 0, none⟩) (L + 1) capl] 121)).cell? ((⟨wr.heap.size, 0, none⟩ : Addr).add j) = some u := cell_one_at _ _ _ rfl
          go_wp2_with (first | (at_builtin; go_must (refine wpList_append_own_at _ rfl _ _ 118 rfl w.heap.size 121 h0 (.slice none 0 0) 1 24 Try.underlying118 hh hz0 hz1 hz2' rfl (by decide) _ _ _ rfl (ownN.alloc _) ⟨wr.heap.size, 0, none⟩ 1 1 [.slice (some ⟨gl, 0, none⟩) (L + 1) capl] rfl rfl n6 (fun u hu => by simp at hu; subst hu; rfl) (by unfold maxLen; omega) (by omega) (by simp; omega) ?_)))
          intro v3 w3 own3 grow3 _ hat3
          have tb3 := tb.more (w1 := wr) hz be2 rws (al1 wr _) own3 grow3 (by simpa using hat3)
          have be3 : Below w.heap.size w w3 := (bthen (bthen bel be2) (al1 wr _)).grown grow3 (bthen (bthen bel be2) (al1 wr _)).size (fun k e => (tb.own.lt k e).1)
          go_wp2_with fail
          go_roundw
          case rel => exact ⟨vv + 1, _, _, _, by omega, by go_num, tb3, be3⟩
          case measure => simp [intOf]; omega
    · obtain rfl : vv = V := by omega
      go_wp2_with fail
      go_ret
      exact ⟨_, b1, c1, rb, rfl, tb, bel⟩
end Go.Proofs.Ytlhdppkllmnmkad.G

/- The document's table of counts: written cell by cell; and its rounds, as plain mathematics. -/
namespace Go.Proofs.Ytlhdppkllmnmkad.G
open Go.RowKit

/-- The table: rows apart from one another, and from what leads to them. -/
structure Tb (w : World) (base V L b0 : Nat) (b1 c1 : Nat → Nat) (rb : Nat → Nat → Nat) (f : Nat → Nat → Nat → Int) : Prop where
  r : TbR w V L b0 b1 c1 rb f
  fz : ∀ v i j, v < V → i ≤ L → w.frozen? ⟨rb v i, j, none⟩ = false
  ij : ∀ k i k' i', k < V → i ≤ L → k' < V → i' ≤ L → rb k i = rb k' i' → k = k' ∧ i = i'
  n1 : ∀ k i k', k < V → i ≤ L → k' < V → rb k i ≠ b1 k'
  n0 : ∀ k i, k < V → i ≤ L → rb k i ≠ b0
  ge : ∀ k i, k < V → i ≤ L → base ≤ rb k i
theorem Tb_of {w : World} {base V L b0 c0 : Nat} {b1 c1 : Nat → Nat} {rb : Nat → Nat → Nat} (h : Tbs w base L V (.slice (some ⟨b0, 0, none⟩) V c0) b1 c1 rb) : Tb w base V L b0 b1 c1 rb (fun _ _ _ => 0) := by
  refine ⟨⟨fun v hv => ?_, fun v i hv hi => (h.ro v hv).2.2.2 i hi, fun v i j hv hi hj => (h.rw v i hv hi).2.2.2.c j hj⟩, fun v i j hv hi => (h.rw v i hv hi).2.2.2.f j, h.ij, h.n1, fun k i hk hi e => (h.rw k i hk hi).2.2.1 (by rw [e]; rfl), fun k i hk hi => (h.rw k i hk hi).1⟩
  rw [World.ownsRow.cellAt h.own v (by omega), List.getElem?_map, List.getElem?_range hv]; rfl
theorem Tb.lw {w w' : World} {base V L b0 : Nat} {b1 c1 : Nat → Nat} {rb : Nat → Nat → Nat} {f : Nat → Nat → Nat → Int} (h : Tb w base V L b0 b1 c1 rb f) (hb : Below w.heap.size w w') : Tb w' base V L b0 b1 c1 rb f :=
  ⟨h.r.lw hb, fun v i j hv hi => (World.frozen?_of_block (w := w) (a := ⟨rb v i, j, none⟩) (hb.block _ (lt_of_cell (h.r.h2 v i 0 hv hi (Nat.zero_le _))))).trans (h.fz v i j hv hi), h.ij, h.n1, h.n0, h.ge⟩
def upd (f : Nat → Nat → Nat → Int) (v i j : Nat) (x : Int) : Nat → Nat → Nat → Int := fun a b c => if a = v ∧ b = i ∧ c = j then x else f a b c
theorem Tb.set {w : World} {base V L b0 : Nat} {b1 c1 : Nat → Nat} {rb : Nat → Nat → Nat} {f : Nat → Nat → Nat → Int} (h : Tb w base V L b0 b1 c1 rb f) {v i j : Nat} (hv : v < V) (hi : i ≤ L) (hj : j ≤ L) (x : Int) : Tb (w.setCell ⟨rb v i, j, none⟩ (.int .i64 x)) base V L b0 b1 c1 rb (upd f v i j x) := by
  have keep : ∀ b o u, b ≠ rb v i → w.cell? ⟨b, o, none⟩ = some u → (w.setCell ⟨rb v i, j, none⟩ (.int .i64 x)).cell? ⟨b, o, none⟩ = some u := fun b o u hb hc => by
    rw [World.cell?_of_block (w := w) (a := ⟨b, o, none⟩) (Below.heap_setCell _ _ _ _ hb)]; exact hc
  refine ⟨⟨fun k hk => keep _ _ _ (fun e => h.n0 v i hv hi e.symm) (h.r.h0 k hk), fun k a hk ha => keep _ _ _ (fun e => h.n1 v i k hv hi hk e.symm) (h.r.h1 k a hk ha), fun k a c hk ha hc => ?_⟩, fun k a c hk ha => ?_, h.ij, h.n1, h.n0, h.ge⟩
  · unfold upd
    by_cases e : k = v ∧ a = i
    · obtain ⟨rfl, rfl⟩ := e
      by_cases e2 : c = j
      · subst e2
        rw [if_pos ⟨rfl, rfl, rfl⟩]
        exact World.cell?_setCell_same _ _ _ (h.r.h2 k a c hk ha hc)
      · rw [if_neg (fun q => e2 q.2.2), World.cell?_setCell_other _ _ _ _ (fun q => e2 (by injection q with _ q; exact q.symm))]
        exact h.r.h2 k a c hk ha hc
    · rw [if_neg (fun q => e ⟨q.1, q.2.1⟩)]
      exact keep _ _ _ (fun q => e (h.ij k a v i hk ha hv hi q)) (h.r.h2 k a c hk ha hc)
  · rw [show (w.setCell ⟨rb v i, j, none⟩ (.int .i64 x)).frozen? ⟨rb k a, c, none⟩ = w.frozen? ⟨rb k a, c, none⟩ by simp [go_sem]]
    exact h.fz k a c hk ha

/-! Rounds. -/
section
variable (R : List Ru) (W : List Int) (m : Int)
/-- So many rules of one round. -/
def cnF (f : Nat → Nat → Nat → Int) : Nat → Nat → Nat → Nat → Int
  | 0 => fun _ _ _ => 0
  | r + 1 => fun v i j => match R[r]? with
    | some ru => if ru.left = (v : Int) ∧ i ≤ j then smI (cnF f r v i j) (wyN f W m i j ru.right) m else cnF f r v i j
    | none => cnF f r v i j
def cnT : Nat → Nat → Nat → Nat → Int
  | 0 => fun _ _ _ => 0
  | t + 1 => cnF R W m (cnT t) R.length
variable {R W m}
theorem cnF_at {f : Nat → Nat → Nat → Int} {r : Nat} (h : r < R.length) (v i j : Nat) : cnF R W m f (r + 1) v i j = if R[r].left = (v : Int) ∧ i ≤ j then smI (cnF R W m f r v i j) (wyN f W m i j R[r].right) m else cnF R W m f r v i j := by
  show (match R[r]? with
    | some ru => if ru.left = (v : Int) ∧ i ≤ j then smI (cnF R W m f r v i j) (wyN f W m i j ru.right) m else cnF R W m f r v i j
    | none => cnF R W m f r v i j) = _
  rw [List.getElem?_eq_getElem h]
theorem lpE_rng {val : Nat → Int} {x : Int} (hm : 1 ≤ m) (hx : 0 ≤ x) (hv : ∀ e, 0 ≤ val e) : ∀ (n e : Nat) (nx : List Int), Rng m nx → Rng m (lpE val x m n e nx)
  | 0, _, _, h => h
  | n + 1, e, nx, h => by
    rw [lpE]
    exact lpE_rng hm hx hv n (e + 1) _ (h.set (smI_rng (h.getD hm e).1 (prI_rng hx (hv e) hm).1 hm))
theorem lpM_rng {val : Nat → Nat → Int} {a : List Int} {j : Nat} (hm : 1 ≤ m) (ha : Rng m a) (hv : ∀ k e, 0 ≤ val k e) : ∀ (n k : Nat) (nx : List Int), Rng m nx → Rng m (lpM val a j m n k nx)
  | 0, _, _, h => h
  | n + 1, k, nx, h => by
    rw [lpM]
    refine lpM_rng hm ha hv n (k + 1) _ ?_
    split
    · exact lpE_rng hm (ha.getD hm k).1 (hv k) _ _ _ h
    · exact h
theorem lpK_rng {f : Nat → Nat → Nat → Int} {i j : Nat} (hm : 1 ≤ m) (hf : ∀ v a b, 0 ≤ f v a b) : ∀ (l a : List Int), Rng m a → Rng m (lpK f W m i j l a)
  | [], _, h => h
  | s :: ss, a, h => by
    rw [lpK]
    refine lpK_rng hm hf ss _ (lpM_rng hm h (fun k e => ?_) _ _ _ (Rng.zeros hm _))
    unfold vlF
    split
    · exact hf _ _ _
    · split <;> decide
theorem wyN_rng {f : Nat → Nat → Nat → Int} {i j : Nat} {l : List Int} (hm : 1 ≤ m) (hf : ∀ v a b, 0 ≤ f v a b) : 0 ≤ wyN f W m i j l ∧ wyN f W m i j l ≤ m :=
  (lpK_rng hm hf l _ ((Rng.zeros hm _).set (by omega))).getD hm j
theorem cnF_rng {f : Nat → Nat → Nat → Int} (hm : 1 ≤ m) (hf : ∀ v a b, 0 ≤ f v a b) : ∀ (r v i j : Nat), 0 ≤ cnF R W m f r v i j ∧ cnF R W m f r v i j ≤ m
  | 0, _, _, _ => ⟨Int.le_refl _, by show (0 : Int) ≤ m; omega⟩
  | r + 1, v, i, j => by
    rcases Nat.lt_or_ge r R.length with h | h
    · rw [cnF_at h]
      split
      · exact smI_rng (cnF_rng hm hf r v i j).1 (wyN_rng hm hf).1 hm
      · exact cnF_rng hm hf r v i j
    · show 0 ≤ (match R[r]? with
        | some ru => if ru.left = (v : Int) ∧ i ≤ j then smI (cnF R W m f r v i j) (wyN f W m i j ru.right) m else cnF R W m f r v i j
        | none => cnF R W m f r v i j) ∧ (match R[r]? with
        | some ru => if ru.left = (v : Int) ∧ i ≤ j then smI (cnF R W m f r v i j) (wyN f W m i j ru.right) m else cnF R W m f r v i j
        | none => cnF R W m f r v i j) ≤ m
      rw [List.getElem?_eq_none h]
      exact cnF_rng hm hf r v i j
theorem cnT_rng (hm : 1 ≤ m) : ∀ (t v i j : Nat), 0 ≤ cnT R W m t v i j ∧ cnT R W m t v i j ≤ m
  | 0, _, _, _ => ⟨Int.le_refl _, by show (0 : Int) ≤ m; omega⟩
  | t + 1, v, i, j => cnF_rng hm (fun a b c => (cnT_rng hm t a b c).1) _ v i j
end
end Go.Proofs.Ytlhdppkllmnmkad.G

/- The document's counts are the exact ones, as far as so many. -/
namespace Go.Proofs.Ytlhdppkllmnmkad.G
open Go.RowKit
/-! As far as so many. -/
def cap (m n : Nat) : Int := ((min n m : Nat) : Int)
theorem cap_rng (m n : Nat) : 0 ≤ cap m n ∧ cap m n ≤ (m : Int) := by unfold cap; omega
theorem cap_zero (m : Nat) : cap m 0 = 0 := by unfold cap; simp
theorem cap_one {m : Nat} (h : 1 ≤ m) : cap m 1 = 1 := by unfold cap; omega
theorem cap_pos {m n : Nat} (h : 1 ≤ m) : 0 < cap m n ↔ 0 < n := by unfold cap; omega
theorem smI_cap (m a b : Nat) : smI (cap m a) (cap m b) m = cap m (a + b) := by unfold smI cap; split <;> omega
theorem prI_cap {m a b : Nat} (hm : 1 ≤ m) : prI (cap m a) (cap m b) m = cap m (a * b) := by
  by_cases ha : a = 0
  · subst ha; unfold prI; rw [Nat.zero_mul, cap_zero, if_pos (.inl rfl)]
  by_cases hb : b = 0
  · subst hb; unfold prI; rw [Nat.mul_zero, cap_zero, if_pos (.inr rfl)]
  have h1 : a ≤ a * b := Nat.le_mul_of_pos_right a (by omega)
  have h2 : b ≤ a * b := Nat.le_mul_of_pos_left b (by omega)
  have pa : 0 < cap m a := (cap_pos hm).2 (by omega)
  have pb : 0 < cap m b := (cap_pos hm).2 (by omega)
  unfold prI
  rw [if_neg (by omega)]
  by_cases hma : m ≤ a
  · rw [if_pos (.inl (by unfold cap; omega))]; unfold cap; omega
  by_cases hmb : m ≤ b
  · rw [if_pos (.inr (.inl (by unfold cap; omega)))]; unfold cap; omega
  have ea : cap m a = (a : Int) := by unfold cap; omega
  have eb : cap m b = (b : Int) := by unfold cap; omega
  rw [ea, eb]
  by_cases hq : ((m : Int) - 1) / (b : Int) < (a : Int)
  · rw [if_pos (.inr (.inr hq))]
    have h3 : (m : Int) - 1 < (a : Int) * b := (Int.ediv_lt_iff_lt_mul (by omega)).1 hq
    have h4 : m ≤ a * b := by
      have : ((a * b : Nat) : Int) = (a : Int) * b := Int.natCast_mul a b
      omega
    unfold cap; omega
  · rw [if_neg (by omega)]
    have h3 := prI_le (a := (a : Int)) (b := (b : Int)) (m := (m : Int)) (by omega) hq
    have h4 : ((a * b : Nat) : Int) = (a : Int) * b := Int.natCast_mul a b
    unfold cap; omega

theorem getD_set' {l : List Int} {k e : Nat} {x : Int} (hk : k < l.length) : (l.set e x).getD k 0 = if e = k then x else l.getD k 0 := by
  rw [List.getD_eq_getElem?_getD, List.getElem?_set, List.getD_eq_getElem?_getD]
  split
  · rename_i h; subst h; simp [hk]
  · rfl
theorem lpE_len' (val : Nat → Int) (x m : Int) : ∀ (n e : Nat) (nx : List Int), (lpE val x m n e nx).length = nx.length
  | 0, _, _ => rfl
  | n + 1, e, nx => by rw [lpE, lpE_len']; simp
theorem lpM_len' (val : Nat → Nat → Int) (a : List Int) (j : Nat) (m : Int) : ∀ (n k : Nat) (nx : List Int), (lpM val a j m n k nx).length = nx.length
  | 0, _, _ => rfl
  | n + 1, k, nx => by rw [lpM, lpM_len']; split <;> simp [lpE_len']
/-- A row of counts. -/
def Caps (m : Nat) (l : List Int) (S : Nat → Nat) : Prop := ∀ k, k < l.length → l.getD k 0 = cap m (S k)
section
variable {m : Nat}
theorem lpE_cap (hm : 1 ≤ m) {val : Nat → Int} {V : Nat → Nat} {x : Int} {X : Nat} (hx : x = cap m X) : ∀ (n e : Nat) (nx : List Int) (S : Nat → Nat), e + n ≤ nx.length → (∀ k, e ≤ k → k < e + n → val k = cap m (V k)) → Caps m nx S → Caps m (lpE val x m n e nx) fun k => S k + if e ≤ k ∧ k < e + n then X * V k else 0
  | 0, e, nx, S, _, _, hb => fun k hk => by
    rw [lpE] at hk ⊢
    dsimp only
    rw [hb k hk, if_neg (by omega)]; rfl
  | n + 1, e, nx, S, hl, hv, hb => by
    rw [lpE]
    have h1 : Caps m (nx.set e (smI (nx.getD e 0) (prI x (val e) m) m)) fun k => S k + if k = e then X * V k else 0 := fun k hk => by
      simp only [List.length_set] at hk
      rw [getD_set' hk]
      dsimp only
      by_cases h : e = k
      · subst h
        rw [if_pos rfl, if_pos rfl, hb e (by omega), hv e (by omega) (by omega), hx, prI_cap hm, smI_cap]
      · rw [if_neg h, if_neg (Ne.symm h), hb k hk]; rfl
    have h2 := lpE_cap hm hx n (e + 1) _ _ (by simp; omega) (fun k h1 h2 => hv k (by omega) (by omega)) h1
    intro k hk
    rw [h2 k hk]
    dsimp only
    congr 1
    by_cases e1 : k = e
    · subst e1
      rw [if_pos rfl, if_neg (by omega), if_pos (by omega)]; omega
    · rw [if_neg e1]
      by_cases h3 : e + 1 ≤ k ∧ k < e + 1 + n
      · rw [if_pos h3, if_pos (by omega)]; omega
      · rw [if_neg h3, if_neg (by omega)]
theorem lpM_cap (hm : 1 ≤ m) {val : Nat → Nat → Int} {V : Nat → Nat → Nat} {a : List Int} {A : Nat → Nat} {j L : Nat} (ha : Caps m a A) (hv : ∀ x e, x ≤ j → e ≤ j → val x e = cap m (V x e)) (hja : j < a.length) (hjL : j < L) : ∀ (n k : Nat) (nx : List Int) (S : Nat → Nat), k + n = j + 1 → j < nx.length → Caps m nx S →
    Caps m (lpM val a j m n k nx) fun e => S e + sm L fun q => if k ≤ q ∧ (q ≤ e ∧ e ≤ j ∧ q ≤ j) then A q * V q e else 0
  | 0, k, nx, S, hk, _, hb => fun e he => by
    rw [lpM] at he ⊢
    dsimp only
    rw [hb e he, sm_zero fun q _ => if_neg (by omega)]; rfl
  | n + 1, k, nx, S, hk, hj, hb => by
    rw [lpM]
    have hak := ha k (by omega)
    have h1 : Caps m (if 0 < a.getD k 0 then lpE (val k) (a.getD k 0) m (j + 1 - k) k nx else nx) fun e => S e + if k ≤ e ∧ e ≤ j ∧ k ≤ j then A k * V k e else 0 := by
      by_cases hA : 0 < A k
      · rw [if_pos (by rw [hak]; exact (cap_pos hm).2 hA)]
        have := lpE_cap hm hak (j + 1 - k) k nx S (by omega) (fun e h1 h2 => hv k e (by omega) (by omega)) hb
        intro e he
        rw [this e he]
        dsimp only
        congr 1
        by_cases h3 : k ≤ e ∧ e ≤ j
        · rw [if_pos (by omega), if_pos (by omega)]
        · rw [if_neg (by omega), if_neg (by omega)]
      · rw [if_neg (by rw [hak, cap_pos hm]; exact hA)]
        intro e he
        dsimp only
        rw [hb e he, show A k = 0 by omega, Nat.zero_mul]
        simp
    have hl : j < (if 0 < a.getD k 0 then lpE (val k) (a.getD k 0) m (j + 1 - k) k nx else nx).length := by
      split
      · rw [lpE_len']; exact hj
      · exact hj
    have h2 := lpM_cap hm ha hv hja hjL n (k + 1) _ _ (by omega) hl h1
    intro e he
    rw [h2 e he]
    dsimp only
    rw [sm_pick (P := fun q => q ≤ e ∧ e ≤ j ∧ q ≤ j) (F := fun q => A q * V q e) (k := k) (n := L) (by omega), Nat.add_assoc]
section
variable {f : Nat → Nat → Nat → Int} {N : Nat → Nat → Nat → Nat} {W : List Int} {V : Nat}
theorem vlF_cap (hm : 1 ≤ m) (hf : ∀ v a b, v < V → a ≤ W.length → b ≤ W.length → f v a b = cap m (N v a b)) {s : Int} (hs : s < V) {a b : Nat} (ha : a ≤ W.length) (hb : b ≤ W.length) : vlF f W s a b = cap m (vlN N W s a b) := by
  unfold vlF vlN
  by_cases h : 0 ≤ s
  · rw [if_pos h, if_pos h, hf s.toNat a b (by omega) ha hb]
  · rw [if_neg h, if_neg h]
    split
    · rw [cap_one hm]
    · rw [cap_zero]
theorem lpK_cap (hm : 1 ≤ m) (hf : ∀ v a b, v < V → a ≤ W.length → b ≤ W.length → f v a b = cap m (N v a b)) {i j : Nat} (hij : i ≤ j) (hj : j ≤ W.length) : ∀ (l : List Int) (a : List Int) (A : Nat → Nat), (∀ s ∈ l, s < V) → a.length = W.length + 1 → Caps m a A → (∀ e, e < i → A e = 0) → ∀ e, e ≤ j →
    (lpK f W m i j l a).getD e 0 = cap m (sm (W.length + 1) fun q => if q ≤ j then A q * chN N W l q e else 0)
  | [], a, A, _, hl, hb, _, e, he => by
    rw [lpK, hb e (by omega)]
    congr 1
    rw [sm_one (p := e) (by omega) (fun q _ hq => by simp only [chN]; rw [if_neg hq]; simp)]
    simp [chN, he]
  | s :: ss, a, A, hs, hl, hb, hA, e, he => by
    rw [lpK]
    have hsv : ∀ x y, x ≤ j → y ≤ j → vlF f W s x y = cap m (vlN N W s x y) := fun x y hx hy => vlF_cap hm hf (hs s (by simp)) (by omega) (by omega)
    have hz : Caps m (List.replicate (W.length + 1) (0 : Int)) fun _ => 0 := fun k hk => by
      rw [cap_zero, List.getD_eq_getElem?_getD]
      simp only [List.length_replicate] at hk
      simp [hk]
    have h1 := lpM_cap hm hb hsv (by omega) (show j < W.length + 1 by omega) (j + 1 - i) i _ _ (by omega) (by simp; omega) hz
    have h2 := lpK_cap hm hf hij hj ss _ _ (fun t ht => hs t (by simp [ht])) (by rw [lpM_len']; simp) h1 (fun k h => by
      rw [Nat.zero_add]; exact sm_zero fun q _ => if_neg (by omega)) e he
    rw [h2]
    congr 1
    have h3 : ∀ q, q < W.length + 1 → (if q ≤ j then A q * chN N W (s :: ss) q e else 0) = sm (W.length + 1) fun x => if q ≤ j ∧ q ≤ x ∧ x ≤ e then A q * (vlN N W s q x * chN N W ss x e) else 0 := fun q _ => by
      by_cases hqj : q ≤ j
      · rw [if_pos hqj, chN, ← sm_mul]
        refine sm_congr fun x _ => ?_
        by_cases hc : q ≤ x ∧ x ≤ e
        · rw [if_pos hc, if_pos ⟨hqj, hc⟩]
        · rw [if_neg hc, if_neg (fun h => hc h.2)]; rfl
      · rw [if_neg hqj]; exact (sm_zero fun x _ => if_neg (fun h => hqj h.1)).symm
    rw [sm_congr h3, sm_swap]
    refine sm_congr fun x _ => ?_
    by_cases hxj : x ≤ j
    · rw [if_pos hxj, Nat.zero_add, ← sm_mul_r]
      refine sm_congr fun q _ => ?_
      by_cases hxe : x ≤ e
      · by_cases hqx : q ≤ x
        · rw [if_pos (show q ≤ j ∧ q ≤ x ∧ x ≤ e by omega)]
          by_cases hiq : i ≤ q
          · rw [if_pos (show i ≤ q ∧ q ≤ x ∧ x ≤ j ∧ q ≤ j by omega), Nat.mul_assoc]
          · rw [if_neg (fun h => hiq h.1), hA q (by omega)]; simp
        · rw [if_neg (show ¬ (i ≤ q ∧ q ≤ x ∧ x ≤ j ∧ q ≤ j) by omega), if_neg (show ¬ (q ≤ j ∧ q ≤ x ∧ x ≤ e) by omega)]; simp
      · rw [chN_gt (show e < x by omega), if_neg (show ¬ (q ≤ j ∧ q ≤ x ∧ x ≤ e) by omega)]; simp
    · rw [if_neg hxj]
      exact (sm_zero fun q _ => if_neg (by omega)).symm
theorem wyN_cap (hm : 1 ≤ m) (hf : ∀ v a b, v < V → a ≤ W.length → b ≤ W.length → f v a b = cap m (N v a b)) {i j : Nat} (hij : i ≤ j) (hj : j ≤ W.length) {l : List Int} (hl : ∀ s ∈ l, s < V) : wyN f W m i j l = cap m (chN N W l i j) := by
  have h0 : Caps m ((List.replicate (W.length + 1) (0 : Int)).set i 1) fun e => if e = i then 1 else 0 := fun k hk => by
    simp only [List.length_set, List.length_replicate] at hk
    rw [getD_set' (by simpa using hk)]
    dsimp only
    by_cases e : i = k
    · rw [if_pos e, if_pos e.symm, cap_one hm]
    · rw [if_neg e, if_neg (Ne.symm e), cap_zero, List.getD_eq_getElem?_getD]; simp [hk]
  unfold wyN
  rw [lpK_cap hm hf hij hj l _ _ hl (by simp) h0 (fun e h => by rw [if_neg (by omega)]) j (Nat.le_refl _)]
  congr 1
  rw [sm_one (p := i) (by omega) (fun q _ hq => by rw [if_neg hq]; simp), if_pos rfl, if_pos hij, Nat.one_mul]
variable {R : List Ru}
theorem cnF_cap (hm : 1 ≤ m) (hR : ∀ r ∈ R, ∀ s ∈ r.right, s < V) (hf : ∀ v a b, v < V → a ≤ W.length → b ≤ W.length → f v a b = cap m (N v a b)) : ∀ (r v i j : Nat), r ≤ R.length → i ≤ W.length → j ≤ W.length →
    cnF R W m f r v i j = cap m (stN N W (v : Int) i j (R.take r))
  | 0, v, i, j, _, _, _ => by rw [List.take_zero, stN, cap_zero]; rfl
  | r + 1, v, i, j, hr, hi, hj => by
    have ih := cnF_cap hm hR hf r v i j (by omega) hi hj
    rw [cnF_at (by omega), ih, List.take_succ_eq_append_getElem (by omega), stN_app]
    simp only [stN]
    split
    · rename_i h
      rw [wyN_cap hm hf h.2 hj (hR _ (List.getElem_mem (by omega))), smI_cap, if_pos h.1]; rfl
    · rename_i h
      congr 1
      by_cases hl : R[r].left = (v : Int)
      · rw [chN_gt (show j < i by have : ¬ i ≤ j := fun h' => h ⟨hl, h'⟩; omega)]; simp
      · rw [if_neg hl]; rfl
/-- The document's counts, at each level. -/
theorem cnT_cap (hm : 1 ≤ m) (hR : ∀ r ∈ R, ∀ s ∈ r.right, s < V) : ∀ (t v i j : Nat), v < V → i ≤ W.length → j ≤ W.length → cnT R W m t v i j = cap m (nT R W t v i j)
  | 0, v, i, j, _, _, _ => (cap_zero m).symm
  | t + 1, v, i, j, hv, hi, hj => by
    show cnF R W m (cnT R W m t) R.length v i j = _
    rw [cnF_cap hm hR (cnT_cap hm hR t) R.length v i j (Nat.le_refl _) hi hj, List.take_length]; rfl
end
end
end Go.Proofs.Ytlhdppkllmnmkad.G

/- How many trees, exactly: what the program counts. -/
namespace Go.Proofs.Ytlhdppkllmnmkad.G
open Go.RowKit
/-- How many trees of v have the word from i to j. -/
def nN (R : List Ru) (W : List Int) (V : Nat) : Nat → Nat → Nat → Nat := nT R W (lvls W V)
section
variable {R : List Ru} {W : List Int} {V : Nat}
theorem nN_len (v i j : Nat) : nN R W V v i j = (Trs R W V (v : Int) i j).length := by
  unfold nN Trs; exact (LT_len _ _ _ _ _ _).symm
theorem nN_fix (hA : Acy R V) (hR : ∀ r ∈ R, ∀ s ∈ r.right, s < V) (v i j : Nat) (hj : j ≤ W.length) : nN R W V v i j = stN (nN R W V) W (v : Int) i j R := by
  have h1 : stN (nN R W V) W (v : Int) i j R = nT R W (lvls W V + 1) v i j := rfl
  rw [h1, ← LT_len, LT_Trs hA hR (Nat.le_succ _) (v : Int) i j hj, nN_len]
theorem nN_nul (hA : Acy R V) (hR : ∀ r ∈ R, ∀ s ∈ r.right, s < V) {v i : Nat} (hi : i ≤ W.length) (h : 0 < nN R W V v i i) : Nul R (v : Int) := by
  rw [nN_len] at h
  obtain ⟨t, ht⟩ := List.exists_mem_of_length_pos h
  obtain ⟨h1, h2, _⟩ := (Trs_mem hA hR hi).1 ht
  refine nul_tree h1 ?_
  rw [h2]; unfold seg; simp
/-- How many terminals symbols have at the least. -/
def lstN (E : Int → Bool) : List Int → Nat
  | [] => 0
  | s :: ss => (if E s then 0 else 1) + lstN E ss
theorem sm_pos {F : Nat → Nat} : ∀ {n : Nat}, 0 < sm n F → ∃ k, k < n ∧ 0 < F k
  | 0, h => by simp [sm] at h
  | n + 1, h => by
    have h : 0 < sm n F + F n := h
    by_cases e : 0 < F n
    · exact ⟨n, by omega, e⟩
    · obtain ⟨k, hk, hF⟩ := sm_pos (F := F) (n := n) (by omega)
      exact ⟨k, by omega, hF⟩
theorem vlN_least (hA : Acy R V) (hR : ∀ r ∈ R, ∀ s ∈ r.right, s < V) {E : Int → Bool} (hE : ∀ v : Int, 0 ≤ v → v < V → Nul R v → E v = true) {s : Int} (hs : s < V) {i j : Nat} (hij : i ≤ j) (hj : j ≤ W.length) (h : 0 < vlN (nN R W V) W s i j) : i + (if E s then 0 else 1) ≤ j := by
  by_cases he : i = j
  · subst he
    unfold vlN at h
    by_cases h0 : 0 ≤ s
    · rw [if_pos h0] at h
      have h1 := nN_nul hA hR hj h
      rw [Int.toNat_of_nonneg h0] at h1
      rw [if_pos (hE s h0 hs h1)]; omega
    · rw [if_neg h0, if_neg (by omega)] at h; omega
  · split <;> omega
theorem chN_least (hA : Acy R V) (hR : ∀ r ∈ R, ∀ s ∈ r.right, s < V) {E : Int → Bool} (hE : ∀ v : Int, 0 ≤ v → v < V → Nul R v → E v = true) : ∀ {l : List Int} {i j : Nat}, (∀ s ∈ l, s < V) → j ≤ W.length → 0 < chN (nN R W V) W l i j → i + lstN E l ≤ j
  | [], i, j, _, _, h => by
    simp only [chN] at h
    split at h
    · simp only [lstN]; omega
    · omega
  | s :: ss, i, j, hs, hj, h => by
    simp only [chN] at h
    obtain ⟨m, _, hm⟩ := sm_pos h
    split at hm
    · rename_i hc
      have h1 : 0 < vlN (nN R W V) W s i m := Nat.pos_of_ne_zero fun e => by rw [e] at hm; simp at hm
      have h2 : 0 < chN (nN R W V) W ss m j := Nat.pos_of_ne_zero fun e => by rw [e] at hm; simp at hm
      have h3 := vlN_least hA hR hE (hs s (by simp)) hc.1 (by omega) h1
      have h4 := chN_least hA hR hE (fun t ht => hs t (by simp [ht])) hj h2
      simp only [lstN]; omega
    · omega
/-- What a split counts. -/
def spN (R : List Ru) (W : List Int) (V : Nat) (l : List Int) (k i m j : Nat) : Nat := vlN (nN R W V) W (l.getD k 0) i m * chN (nN R W V) W (l.drop (k + 1)) m j
theorem spN_least (hA : Acy R V) (hR : ∀ r ∈ R, ∀ s ∈ r.right, s < V) {E : Int → Bool} (hE : ∀ v : Int, 0 ≤ v → v < V → Nul R v → E v = true) {l : List Int} (hs : ∀ s ∈ l, s < V) {k i m j : Nat} (hk : k < l.length) (him : i ≤ m) (hmj : m ≤ j) (hj : j ≤ W.length) (h : m < i + lstN E [l.getD k 0] ∨ j < m + lstN E (l.drop (k + 1))) : spN R W V l k i m j = 0 := by
  have hg : l.getD k 0 = l[k] := by rw [List.getD_eq_getElem?_getD, List.getElem?_eq_getElem hk]; rfl
  refine Nat.eq_zero_of_not_pos fun hp => ?_
  unfold spN at hp
  have h1 : 0 < vlN (nN R W V) W (l.getD k 0) i m := Nat.pos_of_ne_zero fun e => by rw [e] at hp; simp at hp
  have h2 : 0 < chN (nN R W V) W (l.drop (k + 1)) m j := Nat.pos_of_ne_zero fun e => by rw [e] at hp; simp at hp
  have h3 := vlN_least hA hR hE (by rw [hg]; exact hs _ (List.getElem_mem hk)) him (by omega) h1
  have h4 := chN_least hA hR hE (fun t ht => hs t (List.mem_of_mem_drop ht)) hj h2
  simp only [lstN] at h
  omega
/-- A row is its splits. -/
theorem chN_split {f : Nat → Nat → Nat → Nat} {l : List Int} {k i j : Nat} (hk : k < l.length) : chN f W (l.drop k) i j = sm (W.length + 1) fun m => if i ≤ m ∧ m ≤ j then vlN f W (l.getD k 0) i m * chN f W (l.drop (k + 1)) m j else 0 := by
  have hg : l.getD k 0 = l[k] := by rw [List.getD_eq_getElem?_getD, List.getElem?_eq_getElem hk]; rfl
  rw [List.drop_eq_getElem_cons hk, hg]; rfl
/-- Splits, summed so far. -/
def spS (F : Nat → Nat) (i : Nat) : Nat → Nat
  | 0 => 0
  | n + 1 => spS F i n + F (i + n)
theorem sm_spS (F : Nat → Nat) (i j : Nat) : ∀ {n : Nat}, (∀ L, i + n ≤ L → sm L (fun m => if i ≤ m ∧ m < i + n then F m else 0) = spS F i n)
  | 0, L, _ => by rw [sm_zero fun k _ => if_neg (by omega)]; rfl
  | n + 1, L, hL => by
    have h1 : sm L (fun m => if i ≤ m ∧ m < i + (n + 1) then F m else 0) = sm L (fun m => (if i ≤ m ∧ m < i + n then F m else 0) + (if m = i + n then F m else 0)) := sm_congr fun m _ => by
      by_cases e : m = i + n
      · subst e; rw [if_pos (by omega), if_neg (by omega), if_pos rfl, Nat.zero_add]
      · by_cases c : i ≤ m ∧ m < i + n
        · rw [if_pos (by omega), if_pos c, if_neg e, Nat.add_zero]
        · rw [if_neg (by omega), if_neg c, if_neg e]
    rw [h1, sm_add, sm_spS F i j (n := n) L (by omega), sm_one (p := i + n) (by omega) (fun k _ hk => if_neg hk), if_pos rfl]; rfl
theorem chN_spS {l : List Int} {k i j : Nat} (hk : k < l.length) (hij : i ≤ j) (hj : j ≤ W.length) : chN (nN R W V) W (l.drop k) i j = spS (fun m => spN R W V l k i m j) i (j + 1 - i) := by
  rw [chN_split hk, ← sm_spS (fun m => spN R W V l k i m j) i j (n := j + 1 - i) (W.length + 1) (by omega)]
  refine sm_congr fun m _ => ?_
  by_cases c : i ≤ m ∧ m ≤ j
  · rw [if_pos c, if_pos (by omega)]; rfl
  · rw [if_neg c, if_neg (by omega)]
/-- The rules of v one behind the other. -/
def stS (f : Nat → Nat → Nat → Nat) (R : List Ru) (W : List Int) (i j : Nat) : List Int → Nat
  | [] => 0
  | r :: rs => chN f W (R.getD r.toNat ⟨0, []⟩).right i j + stS f R W i j rs
theorem stS_by {f : Nat → Nat → Nat → Nat} {i j : Nat} {v : Int} : ∀ (rs : List Ru) (k : Nat), rs = R.drop k → stN f W v i j rs = stS f R W i j (byL v rs k)
  | [], _, _ => rfl
  | r :: rs, k, h => by
    have hk : k < R.length := by
      rcases Nat.lt_or_ge k R.length with h' | h'
      · exact h'
      · rw [List.drop_of_length_le h'] at h; cases h
    rw [List.drop_eq_getElem_cons hk] at h
    obtain ⟨h1, h2⟩ := List.cons.inj h
    have ih := stS_by (f := f) (i := i) (j := j) (v := v) rs (k + 1) h2
    simp only [stN, byL]
    by_cases e : r.left = v
    · rw [if_pos e, if_pos e, ih]
      simp only [stS]
      rw [show ((k : Int)).toNat = k by omega, List.getD_eq_getElem?_getD, List.getElem?_eq_getElem hk, ← h1]; rfl
    · rw [if_neg e, if_neg e, ih, Nat.zero_add]
end
end Go.Proofs.Ytlhdppkllmnmkad.G

/- A map of numbers that is right at each key that it has. -/
namespace Go.Proofs.Ytlhdppkllmnmkad.G
open Go.RowKit Go.Maps Go.WideElems Go.MapKept Go.WideShapes
section
variable {P : Program} {k ei : TypeId} {G : Value → Int → Prop} {w : World} {b : Nat}
/-- Block b is a map of numbers; what it has at a key is right. -/
def Memo (P : Program) (k ei : TypeId) (w : World) (b : Nat) (G : Value → Int → Prop) : Prop :=
  ∃ es clock, w.heap[b]? = some (.map es clock) ∧ WideElems.Fit (H := Unit) P k (plainElem P ei) es clock ∧ ∀ x ∈ es.toList, ∃ n, x.val = .int .i64 n ∧ G x.key n
theorem Memo.made (w : World) : Memo P k ei (w.alloc (.map #[] 0)) w.heap.size G :=
  ⟨#[], 0, (MapKept.heap_alloc w _).1, ⟨by simp, stamped_empty 0, by simp⟩, by simp⟩
theorem Memo.of {w' : World} (h : Memo P k ei w b G) (hb : w'.heap[b]? = w.heap[b]?) : Memo P k ei w' b G := let ⟨es, clock, h1, h2⟩ := h; ⟨es, clock, hb.trans h1, h2⟩
theorem Memo.lt (h : Memo P k ei w b G) : b < w.heap.size := let ⟨_, _, h1, _⟩ := h; (Array.getElem?_eq_some_iff.1 h1).1
theorem Memo.lw {w' : World} (h : Memo P k ei w b G) (hb : Below w.heap.size w w') : Memo P k ei w' b G := h.of (hb.block b h.lt)
/-- Different keys, all below so many. -/
structure Keys (P : Program) (k : TypeId) (G : Value → Int → Prop) (N : Nat) : Prop where
  code : ∃ c : Value → Nat, (∀ key n, G key n → c key < N) ∧ ∀ x y n m, G x n → G y m → c x = c y → x = y
  lim : N < maxLen
theorem Memo.room {N : Nat} {es : Array MapEntry} {clock : Nat} (hK : Keys P k G N) (F : WideElems.Fit (H := Unit) P k (plainElem P ei) es clock) (hG : ∀ x ∈ es.toList, ∃ n, x.val = .int .i64 n ∧ G x.key n) : es.size < maxLen := by
  obtain ⟨c, hc, hi⟩ := hK.code
  have hn : (es.toList.map fun x => c x.key).Nodup := by
    have h1 := ((MapKept.stamped_iff es clock).1 F.stamped).2.2
    show List.Pairwise (fun a b => a ≠ b) _
    rw [List.pairwise_map]
    have h2 : es.toList.Pairwise (fun x y => x ∈ es.toList ∧ y ∈ es.toList ∧ x.key ≠ y.key) := List.Pairwise.imp_of_mem (fun ha hb h => ⟨ha, hb, h⟩) h1
    refine h2.imp fun ⟨ha, hb, h⟩ e => h ?_
    obtain ⟨n, _, g1⟩ := hG _ ha
    obtain ⟨m, _, g2⟩ := hG _ hb
    exact hi _ _ _ _ g1 g2 e
  have hs : (es.toList.map fun x => c x.key) ⊆ List.range N := fun y hy => by
    obtain ⟨x, hx, rfl⟩ := List.mem_map.1 hy
    obtain ⟨n, _, g⟩ := hG _ hx
    exact List.mem_range.2 (hc _ _ g)
  have := nodup_sub hn hs
  have := hK.lim
  simp at *; omega
theorem Memo.look {t : TypeId} (h : Memo P k ei w b G) (K : Keyed P k) (ht : P.underlying t = some (.map k ei)) (hz : (zeroValue ei).run P w = .ok (.int .i64 0) w) {key : Value} {kl : Lit} (hkey : keyOf P k key = some kl) :
    ∃ n q, (Instr.lookup t (.map (some b)) key true).run P w = .ok (.tuple #[.int .i64 n, .bool q]) w ∧ (q = true → G key n) := by
  obtain ⟨es, clock, hb, F, hG⟩ := h
  rcases Maps.fit_look true K ht hz hb F hkey with ⟨hrun, _, _⟩ | ⟨e0, y, hm, he, hrun, _, _, _⟩
  · exact ⟨0, false, hrun, fun h => by cases h⟩
  · obtain ⟨n, hv, g⟩ := hG _ hm
    rw [hv] at hrun
    exact ⟨n, true, hrun, fun _ => he ▸ g⟩
theorem Memo.store {t : TypeId} {N : Nat} (h : Memo P k ei w b G) (hK : Keys P k G N) (K : Keyed P k) (ht : P.underlying t = some (.map k ei)) (he : P.underlying ei = some (.int .i64)) {key : Value} {n : Int} {kl : Lit} (hkey : keyOf P k key = some kl) (hn : (Lit.int .i64 n).wf = true) (hg : G key n) :
    ∃ w', (Instr.mapUpdate t (.map (some b)) key (.int .i64 n)).run P w = .ok () w' ∧ Memo P k ei w' b G ∧ w.grownBy w' (some b) := by
  obtain ⟨es, clock, hb, F, hG⟩ := h
  have hroom := Memo.room hK F hG
  obtain ⟨es', clock', hrun, F', _, _, _, hw⟩ := Maps.fit_store (R' := plainElem P ei) K ht hb F hroom (fun _ _ _ _ hz => hz) hkey (plainElem_int he hn)
  refine ⟨_, hrun, ⟨es', clock', ChangeMaps.heap_setBlock_same hb _, F', fun x hx => ?_⟩, ⟨rfl, rfl, rfl, by simp [ChangeMaps.setBlock], fun i _ hi => ChangeMaps.heap_setBlock_other hb _ (fun e => hi (by rw [e]))⟩⟩
  rcases hw x hx with ⟨h1, _⟩ | ⟨h1, h2⟩
  · exact hG x h1
  · exact ⟨n, h2, by rw [h1]; exact hg⟩
end
/-- 'm[k] = n', at the operation. -/
theorem wpList_mapUpdate_memo {P : Program} (w : World) {ops : Array Oper} {rest : List Oper} {o : Oper} {a : Act} {Q : Exit → Act → World → Prop} (hg : o.guard = none) (m x v : Operand) (t : TypeId) (hop : o.op = Op.mapUpdate t m x v)
    (k ei : TypeId) (K : Keyed P k) (ht : P.underlying t = some (.map k ei)) (he : P.underlying ei = some (.int .i64)) (b : Nat) (G : Value → Int → Prop) (N : Nat) (hKs : Keys P k G N)
    (hm : a.eval m = .map (some b)) (hown : Memo P k ei w b G) (key : Value) (n : Int) (hx : a.eval x = key) (hv : a.eval v = .int .i64 n) (hkey : ∃ kl, keyOf P k key = some kl) (hn : (Lit.int .i64 n).wf = true) (hgn : G key n)
    (hK : ∀ w', Memo P k ei w' b G → w.grownBy w' (some b) → wpList P ops Q rest (a.put o.dst undef) w') :
    wpList P ops Q (o :: rest) a w := by
  refine wpList_plain hg fun K' hK' => ?_
  obtain ⟨kl, hkey⟩ := hkey
  obtain ⟨w', hrun, r1, r2⟩ := hown.store hKs K ht he hkey hn hgn
  unfold Oper.wp
  simp [execOp, hop, hm, hx, hv, hrun, Result.andThen]
  exact hK' _ _ (hK w' r1 r2)
/-- All blocks but two are as they were. -/
structure Kt (p q : Nat) (w w' : World) : Prop where
  os : w'.os = w.os
  tape : w'.tape = w.tape
  output : w'.output = w.output
  size : w.heap.size ≤ w'.heap.size
  block : ∀ k, k < w.heap.size → k ≠ p → k ≠ q → w'.heap[k]? = w.heap[k]?
theorem Kt.refl (p q : Nat) (w : World) : Kt p q w w := ⟨rfl, rfl, rfl, Nat.le_refl _, fun _ _ _ _ => rfl⟩
theorem Kt.trans {p q : Nat} {a b c : World} (h : Kt p q a b) (k : Kt p q b c) : Kt p q a c :=
  ⟨k.os.trans h.os, k.tape.trans h.tape, k.output.trans h.output, Nat.le_trans h.size k.size, fun i hi h1 h2 => (k.block i (Nat.lt_of_lt_of_le hi h.size) h1 h2).trans (h.block i hi h1 h2)⟩
theorem Kt.of_below {p q : Nat} {w w' : World} (h : Below w.heap.size w w') : Kt p q w w' := ⟨h.os, h.tape, h.output, h.size, fun k hk _ _ => h.block k hk⟩
theorem Kt.below {p q B : Nat} {w w' : World} (h : Kt p q w w') (hp : B ≤ p) (hq : B ≤ q) (hB : B ≤ w.heap.size) : Below B w w' := ⟨h.os, h.tape, h.output, h.size, fun k hk => h.block k (by omega) (by omega) (by omega)⟩
theorem Kt.alloc {p q : Nat} {a w : World} (h : Kt p q a w) (o : Obj) : Kt p q a (w.alloc o) := h.trans (Kt.of_below (al1 _ _))
theorem Kt.setCell {p q : Nat} {a w : World} (h : Kt p q a w) {x : Addr} (hx : a.heap.size ≤ x.block) (u : Value) : Kt p q a (w.setCell x u) :=
  ⟨h.os, h.tape, h.output, by simpa [World.setCell] using h.size, fun k hk h1 h2 => by rw [Below.heap_setCell _ _ _ _ (by omega)]; exact h.block k hk h1 h2⟩
theorem Kt.grown {p q : Nat} {a w w' : World} {row : Option Nat} (h : Kt p q a w) (hg : w.grownBy w' row) (hr : ∀ k, row = some k → k = p ∨ k = q ∨ a.heap.size ≤ k) : Kt p q a w' :=
  ⟨hg.os.trans h.os, hg.tape.trans h.tape, hg.output.trans h.output, Nat.le_trans h.size hg.size, fun k hk h1 h2 => by
    rw [hg.block k (Nat.lt_of_lt_of_le hk h.size) (fun e => by rcases hr k e.symm with h' | h' | h' <;> omega)]; exact h.block k hk h1 h2⟩
theorem Kt.cell {p q : Nat} {w w' : World} (h : Kt p q w w') {b o : Nat} {v : Value} (hc : w.cell? ⟨b, o, none⟩ = some v) (hp : b ≠ p) (hq : b ≠ q) : w'.cell? ⟨b, o, none⟩ = some v :=
  (World.cell?_of_block (w := w) (a := ⟨b, o, none⟩) (h.block b (lt_of_cell hc) hp hq)).trans hc
theorem Kt.frozen {p q : Nat} {w w' : World} (h : Kt p q w w') {b o : Nat} (hb : b < w.heap.size) (hp : b ≠ p) (hq : b ≠ q) : w'.frozen? ⟨b, o, none⟩ = w.frozen? ⟨b, o, none⟩ :=
  World.frozen?_of_block (w := w) (a := ⟨b, o, none⟩) (h.block b hb hp hq)
/-- All blocks but two. -/
def Nt2 (p q k : Nat) : Prop := k ≠ p ∧ k ≠ q
theorem Kt.kp {p q : Nat} {w w' : World} (h : Kt p q w w') : Kp (Nt2 p q) w w' := ⟨h.size, fun k hk hs => h.block k hk hs.1 hs.2⟩
end Go.Proofs.Ytlhdppkllmnmkad.G

/- Sums and products, the program's way. -/
namespace Go.Proofs.Ytlhdppkllmnmkad.G
open Go.RowKit
theorem w64_in {n : Int} (h : -9223372036854775808 ≤ n ∧ n ≤ 9223372036854775807) : wrap64 n = n := by unfold wrap64; omega
theorem pr_le {a b : Int} (ha : 0 ≤ a) (hb : 0 < b) (hbm : b ≤ 4611686018427387904) (h : ¬ 4611686018427387904 / b < a) : a * b = prI a b 4611686018427387904 ∧ 0 ≤ a * b ∧ a * b ≤ 4611686018427387904 := by
  have h0 := Int.mul_nonneg ha (Int.le_of_lt hb)
  have h1 : a ≤ 4611686018427387904 / b := by omega
  have h2 := Int.mul_le_mul_of_nonneg_right h1 (Int.le_of_lt hb)
  have h3 := Int.ediv_mul_le 4611686018427387904 (b := b) (by omega)
  have h4 : a * b ≤ 4611686018427387904 := Int.le_trans h2 h3
  refine ⟨?_, h0, h4⟩
  unfold prI
  by_cases ha0 : a = 0
  · subst ha0; simp
  rw [if_neg (by omega)]
  by_cases hc : (4611686018427387904 : Int) ≤ a ∨ 4611686018427387904 ≤ b ∨ (4611686018427387904 - 1) / b < a
  · rw [if_pos hc]
    have hge : 4611686018427387904 ≤ a * b := by
      rcases hc with hc | hc | hc
      · have := Int.mul_le_mul_of_nonneg_left (show (1 : Int) ≤ b by omega) ha; omega
      · have := Int.mul_le_mul_of_nonneg_right (show (1 : Int) ≤ a by omega) (Int.le_of_lt hb); omega
      · have := (Int.ediv_lt_iff_lt_mul hb).1 hc; omega
    omega
  · rw [if_neg hc]
theorem pr_gt {a b : Int} (_ha : 0 ≤ a) (hb : 0 < b) (h : 4611686018427387904 / b < a) : prI a b 4611686018427387904 = 4611686018427387904 := by
  have h0 : 0 ≤ (4611686018427387904 : Int) / b := Int.ediv_nonneg (by omega) (Int.le_of_lt hb)
  have h1 : (4611686018427387904 - 1) / b ≤ 4611686018427387904 / b := Int.ediv_le_ediv hb (by omega)
  unfold prI
  rw [if_neg (by omega), if_pos (by omega)]
set_option maxRecDepth 100000 in
set_option maxHeartbeats 4000000 in
theorem plus_any (a b : Int) (w : World) : Calls Try.prog 85 #[.int .i64 a, .int .i64 b] w fun e w' => (∃ n, e = .returned (.int .i64 n) ∧ (0 ≤ a → a ≤ 4611686018427387904 → 0 ≤ b → b ≤ 4611686018427387904 → n = smI a b 4611686018427387904)) ∧ w' = w := by
  have HA : Hid (0 ≤ a → a ≤ 4611686018427387904 → 0 ≤ b → b ≤ 4611686018427387904 → wrap64 (4611686018427387904 - b) = 4611686018427387904 - b) := hd fun _ _ _ _ => w64_in ⟨by omega, by omega⟩
  by_cases h : wrap64 (4611686018427387904 - b) ≤ a
  · have hR : Hid (0 ≤ a → a ≤ 4611686018427387904 → 0 ≤ b → b ≤ 4611686018427387904 → (4611686018427387904 : Int) = smI a b 4611686018427387904) := hd fun h1 h2 h3 h4 => by
      have := HA.out h1 h2 h3 h4
      unfold smI; rw [if_pos (by omega)]
    generalize hx : wrap64 (4611686018427387904 - b) = x at *
    go_enter Try.func85, Try.ntmps85
    go_wp2_with fail
    go_ret
    exact ⟨⟨_, rfl, hR.out⟩, rfl⟩
  · have hR : Hid (0 ≤ a → a ≤ 4611686018427387904 → 0 ≤ b → b ≤ 4611686018427387904 → wrap64 (a + b) = smI a b 4611686018427387904) := hd fun h1 h2 h3 h4 => by
      have := HA.out h1 h2 h3 h4
      rw [w64_in ⟨by omega, by omega⟩]
      unfold smI; rw [if_neg (by omega)]
    generalize hx : wrap64 (4611686018427387904 - b) = x at *
    go_enter Try.func85, Try.ntmps85
    go_wp2_with fail
    go_ret
    exact ⟨⟨_, rfl, hR.out⟩, rfl⟩
theorem plus_in {a b : Int} (w : World) (ha : 0 ≤ a) (ha' : a ≤ 4611686018427387904) (hb : 0 ≤ b) (hb' : b ≤ 4611686018427387904) : Calls Try.prog 85 #[.int .i64 a, .int .i64 b] w fun e w' => e = .returned (.int .i64 (smI a b 4611686018427387904)) ∧ w' = w :=
  (plus_any a b w).mono fun e w' ⟨⟨n, h1, h2⟩, h3⟩ => ⟨by rw [h1, h2 ha ha' hb hb'], h3⟩
set_option maxRecDepth 100000 in
set_option maxHeartbeats 4000000 in
theorem times_any (a b : Int) (w : World) : Calls Try.prog 101 #[.int .i64 a, .int .i64 b] w fun e w' => (∃ n, e = .returned (.int .i64 n) ∧ (0 ≤ a → a ≤ 4611686018427387904 → 0 ≤ b → b ≤ 4611686018427387904 → n = prI a b 4611686018427387904)) ∧ w' = w := by
  by_cases h0 : b = 0
  · subst h0
    have hR : Hid (prI a 0 4611686018427387904 = 0) := hd (by unfold prI; simp)
    go_enter Try.func101, Try.ntmps101
    go_wp2_with fail
    go_ret
    exact ⟨⟨_, rfl, fun _ _ _ _ => by rw [hR.out]⟩, rfl⟩
  · have h0b : (b == 0) = false := by simpa using h0
    have h0c : (b != 0) = true := by simpa using h0
    have hd0 : Hid (0 ≤ b → Int.tdiv 4611686018427387904 b = 4611686018427387904 / b ∧ 0 ≤ (4611686018427387904 : Int) / b ∧ (4611686018427387904 : Int) / b ≤ 4611686018427387904) := hd fun hb => ⟨Int.tdiv_eq_ediv_of_nonneg (by omega), Int.ediv_nonneg (by omega) hb, Int.ediv_le_self _ (by omega)⟩
    by_cases h : wrap64 (Int.tdiv 4611686018427387904 b) < a
    · have hR : Hid (0 ≤ a → a ≤ 4611686018427387904 → 0 ≤ b → b ≤ 4611686018427387904 → (4611686018427387904 : Int) = prI a b 4611686018427387904) := hd fun h1 h2 h3 h4 => by
        obtain ⟨e1, e2, e3⟩ := hd0.out h3
        rw [e1, w64_in ⟨by omega, by omega⟩] at h
        exact (pr_gt h1 (by omega) h).symm
      generalize hx : wrap64 (Int.tdiv 4611686018427387904 b) = x at *
      go_enter Try.func101, Try.ntmps101
      go_wp2_with fail
      go_ret
      exact ⟨⟨_, rfl, hR.out⟩, rfl⟩
    · have hR : Hid (0 ≤ a → a ≤ 4611686018427387904 → 0 ≤ b → b ≤ 4611686018427387904 → wrap64 (a * b) = prI a b 4611686018427387904) := hd fun h1 h2 h3 h4 => by
        obtain ⟨e1, e2, e3⟩ := hd0.out h3
        rw [e1, w64_in ⟨by omega, by omega⟩] at h
        obtain ⟨g1, g2, g3⟩ := pr_le h1 (by omega) h4 h
        rw [w64_in ⟨by omega, by omega⟩, g1]
      generalize hx : wrap64 (Int.tdiv 4611686018427387904 b) = x at *
      generalize hab : a * b = ab at *
      go_enter Try.func101, Try.ntmps101
      go_wp2_with fail
      go_ret
      exact ⟨⟨_, rfl, hR.out⟩, rfl⟩
theorem times_in {a b : Int} (w : World) (ha : 0 ≤ a) (ha' : a ≤ 4611686018427387904) (hb : 0 ≤ b) (hb' : b ≤ 4611686018427387904) : Calls Try.prog 101 #[.int .i64 a, .int .i64 b] w fun e w' => e = .returned (.int .i64 (prI a b 4611686018427387904)) ∧ w' = w :=
  (times_any a b w).mono fun e w' ⟨⟨n, h1, h2⟩, h3⟩ => ⟨by rw [h1, h2 ha ha' hb hb'], h3⟩
def oneI (q : Bool) : Int := if q then 1 else 0
set_option maxRecDepth 100000 in
set_option maxHeartbeats 4000000 in
theorem one_any (q : Bool) (w : World) : Calls Try.prog 129 #[.bool q] w fun e w' => e = .returned (.int .i64 (oneI q)) ∧ w' = w := by
  cases q with
  | true =>
    go_enter Try.func129, Try.ntmps129
    go_wp2_with fail
    go_ret
    exact ⟨rfl, rfl⟩
  | false =>
    go_enter Try.func129, Try.ntmps129
    go_wp2_with fail
    go_ret
    exact ⟨rfl, rfl⟩
end Go.Proofs.Ytlhdppkllmnmkad.G
