/- What is so of nonterminals, the document's way: which have the empty word, which have a tree. -/
import Derived.Test.YtbhpbleenfegjacL04
import Derived.Test.YtbhpbleenfegjacL11
namespace Go.Proofs.Ytbhpbleenfegjac.G
open Go.RowKit
theorem Try.infoBool : (Try.prog.info? 4).map (fun i => (i.zero, i.size, i.bytes)) = some (some (.bool false), 1, 1) := by kernel_rfl
def bools (l : List Bool) : List Value := l.map .bool
theorem bools_at {l : List Bool} {k : Nat} (h : k < l.length) : (bools l)[k]? = some (.bool (l.getD k false)) := by simp [bools, List.getD_eq_getElem?_getD, h]
theorem bools_set (l : List Bool) (k : Nat) (x : Bool) : (bools l).set k (.bool x) = bools (l.set k x) := by simp [bools, List.map_set]
theorem made_bools (n : Nat) : (madeCells #[Value.bool false] n).toList = bools (List.replicate n false) := by
  unfold madeCells bools
  apply List.ext_getElem
  · simp
  · intro k h1 h2
    simp [Nat.mod_one]
/-- A row of yes and no, in memory. -/
def BsV (w : World) (gb : Nat) (is : List Bool) : Prop := ∀ j, j < is.length → w.cell? ⟨gb, j, none⟩ = some (.bool (is.getD j false))
theorem BsV.lw {w w' : World} {gb : Nat} {is : List Bool} (h : BsV w gb is) (hb : Below w.heap.size w w') : BsV w' gb is := fun j hj => bkeep hb (h j hj)
theorem BsV_owned {w : World} {base gb V : Nat} {e : TypeId} {is : List Bool} (h : w.ownsRow base e 1 (.slice (some ⟨gb, 0, none⟩) V V) V (bools is)) (hl : is.length = V) : BsV w gb is := fun j hj => by
  rw [World.ownsRow.cellAt h j (by omega), bools_at hj]
set_option maxRecDepth 100000 in
set_option maxHeartbeats 4000000 in
theorem allIn_any (l : List Int) (is : List Bool) (va : Value) (gb : Nat) (w : World) (ha : IsV w All va l) (hb : BsV w gb is) (hl : ∀ s ∈ l, s < is.length) :
    Calls Try.prog 81 #[va, .slice (some ⟨gb, 0, none⟩) is.length is.length] w fun e w' => e = .returned (.bool (l.all (isAt is))) ∧ w' = w := by
  obtain ⟨ao, cap, rfl⟩ := ha.slice
  have hlen := ha.1
  go_enter Try.func81, Try.ntmps81
  go_wp2_with fail
  go_loopw [5] (fun i wr => ∃ k : Nat, k ≤ l.length ∧ i = .int .i64 k ∧ Hid (∀ j (h : j < l.length), j < k → isAt is l[j] = true) ∧ wr = w) (fun i _ => l.length - (intOf i).toNat)
  case atStart => exact ⟨0, Nat.zero_le _, rfl, hd (fun j _ hj => absurd hj (Nat.not_lt_zero _)), rfl⟩
  case round =>
    obtain ⟨k, hk, rfl, hall, rfl⟩ := hrel
    by_cases hlt : k < l.length
    · obtain ⟨b, o, rfl, c0⟩ := ha.at_ hlt
      have hx1 := hl l[k] (List.getElem_mem hlt)
      have HY : Hid (isAt is l[k] = true → ∀ j (h : j < l.length), j < k + 1 → isAt is l[j] = true) := hd (fun e j h hj => by
        by_cases ej : j = k
        · subst ej; exact e
        · exact hall.out j h (by omega))
      have HN : Hid (isAt is l[k] = false → l.all (isAt is) = false) := hd (fun e => by
        rw [List.all_eq_false]
        exact ⟨_, List.getElem_mem hlt, by simpa using e⟩)
      clear hall
      generalize l[k] = x at *
      by_cases hx : x < 0
      · have HR := hd (HN.out (by unfold isAt; rw [decide_eq_false (by omega)]; rfl))
        clear HY HN
        go_wp2_with fail
        go_ret
        exact ⟨ret_bool HR.out.symm, rfl⟩
      · obtain ⟨m, rfl⟩ : ∃ m : Nat, x = m := ⟨x.toNat, by omega⟩
        have cm := hb m (by omega)
        have HI : Hid (isAt is (m : Int) = is.getD m false) := hd (by unfold isAt; simp)
        have hm2 : (m : Int) < (is.length : Int) := hx1
        generalize is.getD m false = q at *
        cases q with
        | true =>
          have HY' := hd (HY.out HI.out)
          clear HY HN
          go_wp2_with fail
          go_roundw
          case rel => exact ⟨k + 1, by omega, by go_num, HY', trivial⟩
          case measure => simp [intOf]; omega
        | false =>
          have HR := hd (HN.out HI.out)
          clear HY HN
          go_wp2_with fail
          go_ret
          exact ⟨ret_bool HR.out.symm, rfl⟩
    · have hR : Hid (l.all (isAt is) = true) := hd (by
        rw [List.all_eq_true]
        intro x hx
        obtain ⟨j, hj, rfl⟩ := List.mem_iff_getElem.1 hx
        exact hall.out j hj (by omega))
      clear hall
      go_wp2_with fail
      go_ret
      exact ⟨ret_bool hR.out.symm, rfl⟩
theorem genR_snoc (t : Bool) (R : List Ru) (is : List Bool) {k : Nat} (h : k < R.length) : genR t (R.take (k + 1)) is = if R[k].right.all (fitL t (genR t (R.take k) is)) then (genR t (R.take k) is).set R[k].left.toNat true else genR t (R.take k) is := by
  unfold genR
  rw [take_snoc R h, List.foldl_append]
  rfl
theorem Rgt.lin {g : Gm} {V : Nat} (h : Rgt g V) : Lin V g.rules := fun r hr => (h.vr.2 r hr).1
theorem kidsL_sub {l : List Int} {x : Int} (h : x ∈ kidsL l) : x ∈ l ∧ 0 ≤ x := by unfold kidsL at h; rw [List.mem_filter, decide_eq_true_eq] at h; exact h
set_option maxRecDepth 100000 in
set_option maxHeartbeats 8000000 in
theorem nullOf_any (g : Gm) (V : Nat) (hR : Rgt g V) (va : Value) (w : World) (ha : GV w All va g) :
    Calls Try.prog 42 #[va] w fun e w' => ∃ gb, e = .returned (.slice (some ⟨gb, 0, none⟩) V V) ∧ w'.ownsRow w.heap.size 4 1 (.slice (some ⟨gb, 0, none⟩) V V) V (bools (genN false g.rules V V)) ∧ Below w.heap.size w w' := by
  obtain ⟨i0, hi, iz0, iz1, iz2⟩ := info_parts Try.infoBool
  obtain ⟨u, rfl, hr⟩ := ha
  obtain ⟨ao, cap, rfl⟩ := hr.slice
  have hl := hr.1
  have hgv := hR.gv
  have hV1 := hR.v1
  have hV64 := hR.vr.1
  have hfew := hR.few
  rw [hgv]
  obtain ⟨W, hW⟩ : ∃ W, W = w.alloc (.cells #[.int .i64 V, .int .i64 g.terms, .int .i64 g.start, .slice ao g.rules.length cap] 24) := ⟨_, rfl⟩
  have hWb : Below w.heap.size w W := by rw [hW]; exact al1 _ _
  have hWz : W.heap.size = w.heap.size + 1 := by rw [hW]; simp
  have hW0 : W.cell? ⟨w.heap.size, 0, none⟩ = some (.int .i64 V) := by rw [hW]; simp
  have hW3 : W.cell? ⟨w.heap.size, 3, none⟩ = some (.slice ao g.rules.length cap) := by rw [hW]; simp
  have HGV := hd hgv
  clear hgv
  go_enter Try.func42, Try.ntmps42
  go_wp2_with (first | (refine wpList_make_full _ rfl _ _ 76 rfl (w.heap.size + 1) 4 i0 (.bool false) 1 Try.underlying76 hi iz0 iz1 .i64 .i64 _ _ V rfl rfl rfl rfl (by rw [iz2]; omega) (by unfold maxLen; omega) (by simp) ?_))
  intro w1 own1 grow1
  rw [← hW] at grow1
  have k1 := grown_below grow1
  rw [made_bools] at own1
  have hgw : (w.alloc (.cells #[.int .i64 V, .int .i64 g.terms, .int .i64 g.start, .slice ao g.rules.length cap] 24)).heap.size = w.heap.size + 1 := by simp
  obtain ⟨gb, hgb⟩ : ∃ gb, gb = w.heap.size + 1 := ⟨_, rfl⟩
  rw [← hgb] at own1 ⊢
  have HG := hd hgb
  have hgW : W.heap.size ≤ gb := by omega
  clear hgb hW grow1 hgw
  have s0 := bkeep k1 hW0
  have hlt64 : (V : Int) ≤ 64 := by omega
  go_wp2_with fail
  go_loopw [4] (fun i wr => ∃ n : Nat, n ≤ V ∧ i = .int .i64 n ∧ wr.ownsRow gb 4 1 (.slice (some ⟨gb, 0, none⟩) V V) V (bools (genN false g.rules V n)) ∧ Below W.heap.size W wr) (fun i _ => V - (intOf i).toNat)
  case atStart => exact ⟨0, Nat.zero_le _, rfl, own1, k1⟩
  case round =>
    obtain ⟨n, hn, rfl, own, bel⟩ := hrel
    have t0 := bkeep bel hW0
    by_cases hlt : n < V
    · have hlt2 : (n : Int) < (V : Int) := by omega
      go_wp2_with fail
      go_loopw [5] (fun i wx => ∃ (k : Nat) (is : List Bool), k ≤ g.rules.length ∧ i = .int .i64 k ∧ Hid (is = genR false (g.rules.take k) (genN false g.rules V n)) ∧ is.length = V ∧ wx.ownsRow gb 4 1 (.slice (some ⟨gb, 0, none⟩) V V) V (bools is) ∧ Below W.heap.size W wx) (fun i _ => g.rules.length - (intOf i).toNat)
      case atStart => exact ⟨0, _, Nat.zero_le _, rfl, hd (by simp [genR]), genN_len _ _ _ _, own, bel⟩
      case round =>
        clear own bel t0
        obtain ⟨k, is, hk, rfl, his, hil, own, bel⟩ := hrel
        have t3 := bkeep bel hW3
        by_cases hlk : k < g.rules.length
        · have belw := bthen hWb bel
          have hRk := hR.vr.2 _ (List.getElem_mem hlk)
          obtain ⟨b, o, rfl, c0, ar, cr, c1, hc⟩ := (hr.lw belw).at_ hlk
          have HY : Hid (g.rules[k].right.all (fitL false is) = true → is.set g.rules[k].left.toNat true = genR false (g.rules.take (k + 1)) (genN false g.rules V n)) := hd (fun e => by rw [genR_snoc _ _ _ hlk, ← his.out, if_pos e])
          have HN : Hid (g.rules[k].right.all (fitL false is) = false → is = genR false (g.rules.take (k + 1)) (genN false g.rules V n)) := hd (fun e => by rw [genR_snoc _ _ _ hlk, ← his.out, if_neg (by rw [e]; simp)])
          clear his
          have AA := allIn_any g.rules[k].right is _ gb wr hc (BsV_owned own hil) (fun s hs => by rw [hil]; exact hRk.2 s hs)
          rw [all_fit] at AA
          rw [hil] at AA
          clear hc
          generalize g.rules[k] = x at *
          obtain ⟨m, hm⟩ : ∃ m : Nat, x.left = m := ⟨x.left.toNat, by omega⟩
          rw [hm] at c0
          have hmV : m < V := by omega
          have hmV2 : (m : Int) < (V : Int) := by omega
          have hm' : x.left.toNat = m := by omega
          rw [hm'] at HY
          clear hm hm' hRk
          generalize x.right.all (fitL false is) = q at *
          cases q with
          | true =>
            have HY' := hd (HY.out rfl)
            clear HY HN
            go_wp2_with fail
            refine AA.mono ?_
            rintro e wx ⟨rfl, hwx⟩
            obtain rfl := hwx.symm
            have fz := World.ownsRow.frozenAt own
            have cg : World.cell? wr ⟨gb, m, none⟩ = some (.bool (is.getD m false)) := BsV_owned own hil m (by omega)
            have q9 := World.ownsRow.stored own m (.bool true)
            have be9 := bel.setCell (p := ⟨gb, m, none⟩) hgW (.bool true)
            go_wp2_with fail
            go_roundw
            case rel => exact ⟨k + 1, is.set m true, by omega, by go_num, HY', by simpa using hil, by rw [← bools_set]; exact q9.1, be9⟩
            case measure => simp [intOf]; omega
          | false =>
            have HN' := hd (HN.out rfl)
            clear HY HN
            go_wp2_with fail
            refine AA.mono ?_
            rintro e wx ⟨rfl, hwx⟩
            obtain rfl := hwx.symm
            go_wp2_with fail
            go_roundw
            case rel => exact ⟨k + 1, is, by omega, by go_num, HN', hil, own, bel⟩
            case measure => simp [intOf]; omega
        · have he : is = genN false g.rules V (n + 1) := by rw [his.out, List.take_of_length_le (by omega)]; rfl
          subst he
          clear his
          go_wp2_with fail
          go_roundw
          case rel => exact ⟨n + 1, by omega, by go_num, own, bel⟩
          case measure => simp [intOf]; omega
    · obtain rfl : n = V := by omega
      go_wp2_with fail
      go_ret
      exact ⟨gb, rfl, owns_mono own (by omega), bthen hWb bel⟩
set_option maxRecDepth 100000 in
set_option maxHeartbeats 8000000 in
theorem goodOf_any (g : Gm) (V : Nat) (hR : Rgt g V) (va : Value) (w : World) (ha : GV w All va g) :
    Calls Try.prog 43 #[va] w fun e w' => ∃ gb, e = .returned (.slice (some ⟨gb, 0, none⟩) V V) ∧ w'.ownsRow w.heap.size 4 1 (.slice (some ⟨gb, 0, none⟩) V V) V (bools (genN true g.rules V V)) ∧ Below w.heap.size w w' := by
  obtain ⟨i0, hi, iz0, iz1, iz2⟩ := info_parts Try.infoBool
  obtain ⟨u, rfl, hr⟩ := ha
  obtain ⟨ao, cap, rfl⟩ := hr.slice
  have hl := hr.1
  have hgv := hR.gv
  have hV1 := hR.v1
  have hV64 := hR.vr.1
  have hfew := hR.few
  rw [hgv]
  obtain ⟨W, hW⟩ : ∃ W, W = w.alloc (.cells #[.int .i64 V, .int .i64 g.terms, .int .i64 g.start, .slice ao g.rules.length cap] 24) := ⟨_, rfl⟩
  have hWb : Below w.heap.size w W := by rw [hW]; exact al1 _ _
  have hWz : W.heap.size = w.heap.size + 1 := by rw [hW]; simp
  have hW0 : W.cell? ⟨w.heap.size, 0, none⟩ = some (.int .i64 V) := by rw [hW]; simp
  have hW3 : W.cell? ⟨w.heap.size, 3, none⟩ = some (.slice ao g.rules.length cap) := by rw [hW]; simp
  have HGV := hd hgv
  clear hgv
  go_enter Try.func43, Try.ntmps43
  go_wp2_with (first | (refine wpList_make_full _ rfl _ _ 76 rfl (w.heap.size + 1) 4 i0 (.bool false) 1 Try.underlying76 hi iz0 iz1 .i64 .i64 _ _ V rfl rfl rfl rfl (by rw [iz2]; omega) (by unfold maxLen; omega) (by simp) ?_))
  intro w1 own1 grow1
  rw [← hW] at grow1
  have k1 := grown_below grow1
  rw [made_bools] at own1
  have hgw : (w.alloc (.cells #[.int .i64 V, .int .i64 g.terms, .int .i64 g.start, .slice ao g.rules.length cap] 24)).heap.size = w.heap.size + 1 := by simp
  obtain ⟨gb, hgb⟩ : ∃ gb, gb = w.heap.size + 1 := ⟨_, rfl⟩
  rw [← hgb] at own1 ⊢
  have HG := hd hgb
  have hgW : W.heap.size ≤ gb := by omega
  clear hgb hW grow1 hgw
  have s0 := bkeep k1 hW0
  have hlt64 : (V : Int) ≤ 64 := by omega
  go_wp2_with fail
  go_loopw [4] (fun i wr => ∃ n : Nat, n ≤ V ∧ i = .int .i64 n ∧ wr.ownsRow gb 4 1 (.slice (some ⟨gb, 0, none⟩) V V) V (bools (genN true g.rules V n)) ∧ Below W.heap.size W wr) (fun i _ => V - (intOf i).toNat)
  case atStart => exact ⟨0, Nat.zero_le _, rfl, own1, k1⟩
  case round =>
    obtain ⟨n, hn, rfl, own, bel⟩ := hrel
    have t0 := bkeep bel hW0
    by_cases hlt : n < V
    · have hlt2 : (n : Int) < (V : Int) := by omega
      go_wp2_with fail
      go_loopw [5] (fun i wx => ∃ (k : Nat) (is : List Bool), k ≤ g.rules.length ∧ i = .int .i64 k ∧ Hid (is = genR true (g.rules.take k) (genN true g.rules V n)) ∧ is.length = V ∧ wx.ownsRow gb 4 1 (.slice (some ⟨gb, 0, none⟩) V V) V (bools is) ∧ Below W.heap.size W wx) (fun i _ => g.rules.length - (intOf i).toNat)
      case atStart => exact ⟨0, _, Nat.zero_le _, rfl, hd (by simp [genR]), genN_len _ _ _ _, own, bel⟩
      case round =>
        clear own bel t0
        obtain ⟨k, is, hk, rfl, his, hil, own, bel⟩ := hrel
        have t3 := bkeep bel hW3
        by_cases hlk : k < g.rules.length
        · have belw := bthen hWb bel
          have hRk := hR.vr.2 _ (List.getElem_mem hlk)
          obtain ⟨b, o, rfl, c0, ar, cr, c1, hc⟩ := (hr.lw belw).at_ hlk
          have HY : Hid (g.rules[k].right.all (fitL true is) = true → is.set g.rules[k].left.toNat true = genR true (g.rules.take (k + 1)) (genN true g.rules V n)) := hd (fun e => by rw [genR_snoc _ _ _ hlk, ← his.out, if_pos e])
          have HN : Hid (g.rules[k].right.all (fitL true is) = false → is = genR true (g.rules.take (k + 1)) (genN true g.rules V n)) := hd (fun e => by rw [genR_snoc _ _ _ hlk, ← his.out, if_neg (by rw [e]; simp)])
          clear his
          have h100 := hR.short _ (List.getElem_mem hlk)
          have KA := kidsOf_any g.rules[k].right _ wr hc (by omega)
          have AA := fun vk wx (hb : Below wr.heap.size wr wx) (hv : IsV wx All vk (kidsL g.rules[k].right)) => allIn_any (kidsL g.rules[k].right) is vk gb wx hv (BsV_owned (owns_below own hb) hil) (fun s hs => by rw [hil]; exact hRk.2 s (kidsL_sub hs).1)
          have kl := kidsL_len g.rules[k].right
          simp only [kids_all] at AA
          rw [hil] at AA
          clear hc
          generalize g.rules[k] = x at *
          obtain ⟨m, hm⟩ : ∃ m : Nat, x.left = m := ⟨x.left.toNat, by omega⟩
          rw [hm] at c0
          have hmV : m < V := by omega
          have hmV2 : (m : Int) < (V : Int) := by omega
          have hm' : x.left.toNat = m := by omega
          rw [hm'] at HY
          clear hm hm' hRk
          generalize x.right.all (fitL true is) = q at *
          cases q with
          | true =>
            have HY' := hd (HY.out rfl)
            clear HY HN
            go_wp2_with fail
            refine KA.mono ?_
            rintro e wx ⟨vk, rfl, ownk, kx⟩
            have ik : IsV wx All vk (kidsL x.right) := IsV_owned ownk (by omega) (fun _ _ => trivial)
            have AB := AA vk wx kx ik
            obtain ⟨aok, capk, rfl⟩ := ik.slice
            have c0 := bkeep kx c0
            have t3 := bkeep kx t3
            have own := owns_below own kx
            have bel := bthen bel kx
            clear ownk ik AA KA
            go_wp2_with fail
            refine AB.mono ?_
            rintro e wy ⟨rfl, hwy⟩
            obtain rfl := hwy.symm
            have fz := World.ownsRow.frozenAt own
            have cg : World.cell? wx ⟨gb, m, none⟩ = some (.bool (is.getD m false)) := BsV_owned own hil m (by omega)
            have q9 := World.ownsRow.stored own m (.bool true)
            have be9 := bel.setCell (p := ⟨gb, m, none⟩) hgW (.bool true)
            go_wp2_with fail
            go_roundw
            case rel => exact ⟨k + 1, is.set m true, by omega, by go_num, HY', by simpa using hil, by rw [← bools_set]; exact q9.1, be9⟩
            case measure => simp [intOf]; omega
          | false =>
            have HN' := hd (HN.out rfl)
            clear HY HN
            go_wp2_with fail
            refine KA.mono ?_
            rintro e wx ⟨vk, rfl, ownk, kx⟩
            have ik : IsV wx All vk (kidsL x.right) := IsV_owned ownk (by omega) (fun _ _ => trivial)
            have AB := AA vk wx kx ik
            obtain ⟨aok, capk, rfl⟩ := ik.slice
            have own := owns_below own kx
            have bel := bthen bel kx
            clear ownk ik AA KA
            go_wp2_with fail
            refine AB.mono ?_
            rintro e wy ⟨rfl, hwy⟩
            obtain rfl := hwy.symm
            go_wp2_with fail
            go_roundw
            case rel => exact ⟨k + 1, is, by omega, by go_num, HN', hil, own, bel⟩
            case measure => simp [intOf]; omega
        · have he : is = genN true g.rules V (n + 1) := by rw [his.out, List.take_of_length_le (by omega)]; rfl
          subst he
          clear his
          go_wp2_with fail
          go_roundw
          case rel => exact ⟨n + 1, by omega, by go_num, own, bel⟩
          case measure => simp [intOf]; omega
    · obtain rfl : n = V := by omega
      go_wp2_with fail
      go_ret
      exact ⟨gb, rfl, owns_mono own (by omega), bthen hWb bel⟩
theorem upto_len_at (f : Nat → Bool) (n : Nat) : (upto n f).length ≤ n := upto_len n f
set_option maxRecDepth 100000 in
set_option maxHeartbeats 4000000 in
theorem listOf_any (is : List Bool) (gb : Nat) (w : World) (hb : BsV w gb is) (h64 : is.length ≤ 64) :
    Calls Try.prog 41 #[.slice (some ⟨gb, 0, none⟩) is.length is.length] w fun e w' => ∃ v, e = .returned v ∧ w'.ownsRow w.heap.size 3 1 v (upto is.length fun k => is.getD k false).length (ints (upto is.length fun k => is.getD k false)) ∧ Below w.heap.size w w' := by
  obtain ⟨i0, hi, iz0, iz1, iz2⟩ := info_parts Try.infoInt
  go_enter Try.func41, Try.ntmps41
  go_wp2_with fail
  go_loopw [3, 4] (fun v i wr => ∃ (k : Nat) (acc : List Int), k ≤ is.length ∧ i = .int .i64 k ∧ Hid (acc = upto k fun j => is.getD j false) ∧ acc.length ≤ k ∧ wr.ownsRow w.heap.size 3 1 v acc.length (ints acc) ∧ Below w.heap.size w wr) (fun _ i _ => is.length - (intOf i).toNat)
  case atStart => exact ⟨0, [], Nat.zero_le _, rfl, hd rfl, Nat.le_refl _, World.ownsRow_nil _ _ _ _, Below.refl _ _⟩
  case round =>
    obtain ⟨k, acc, hk, rfl, hacc, hal, hown, bel⟩ := hrel
    have hz := bel.size
    by_cases hlt : k < is.length
    · have c0 := bkeep bel (hb k hlt)
      have hlt2 : (k : Int) < (is.length : Int) := by omega
      have HY : Hid (is.getD k false = true → acc ++ [(k : Int)] = upto (k + 1) fun j => is.getD j false) := hd (fun e => by rw [hacc.out, upto_yes (f := fun j : Nat => is.getD j false) e])
      have HN : Hid (is.getD k false = false → acc = upto (k + 1) fun j => is.getD j false) := hd (fun e => by rw [hacc.out, upto_no (f := fun j : Nat => is.getD j false) e])
      clear hacc
      generalize is.getD k false = q at *
      obtain ⟨aov, capv, rfl⟩ := owns_slice hown
      cases q with
      | true =>
        have HY' := hd (HY.out rfl)
        clear HY HN
        go_wp2_with (first | (at_builtin; go_must (refine wpList_append_own _ rfl _ _ 33 rfl w.heap.size 3 i0 (.int .i64 0) 1 8 Try.underlying33 hi iz0 iz1 iz2 rfl (by decide) _ _ _ rfl (hown.alloc _) ⟨wr.heap.size, 0, none⟩ 1 1 [.int .i64 k] rfl rfl (cell_one_at _ _ _ (by simp)) (oneInts [(k : Int)]) (by unfold maxLen; omega) (by omega) (by simp <;> omega) ?_)))
        intro v1 W1 own1 grow1 _
        go_wp2_with fail
        go_roundw
        case rel => exact ⟨k + 1, acc ++ [(k : Int)], by omega, by go_num, HY', by simp; omega, by simpa [ints] using own1, (bel.alloc hz _).grown grow1 (by simp <;> omega) (fun j hj => (hown.lt j hj).1)⟩
        case measure => simp [intOf]; omega
      | false =>
        have HN' := hd (HN.out rfl)
        clear HY HN
        go_wp2_with fail
        go_roundw
        case rel => exact ⟨k + 1, acc, by omega, by go_num, HN', by omega, hown, bel⟩
        case measure => simp [intOf]; omega
    · have he : acc = upto is.length fun j => is.getD j false := by rw [hacc.out, show k = is.length by omega]
      rw [he] at hown
      clear hacc hal
      go_wp2_with fail
      go_ret
      exact ⟨_, rfl, hown, bel⟩
end Go.Proofs.Ytbhpbleenfegjac.G
