/- Texts laid together: Tn Ot StT Dl Gf. -/
import Derived.Test.YtcanphhmflbdmacL28
import Derived.Test.YtcanphhmflbdmacL30
import Derived.Test.YtcanphhmflbdmacL19
import Derived.Deep.RegionHeldLaw
import Derived.Test.YtcanphhmflbdmacL17
import Derived.Test.YtcanphhmflbdmacL08
/- Definitions turned round, in memory. -/
namespace Go.Proofs.Ytcanphhmflbdmac
open Go.RowKit
/-- A step: what was there is as it was. -/
structure Stp (a b : World) : Prop where
  h : Below a.heap.size a b
theorem stk {W a b : World} {p q : Nat} {u v : Value} (st : Stp a b) (h : Below W.heap.size W a ∧ a.cell? ⟨p, 0, none⟩ = some u ∧ a.cell? ⟨q, 0, none⟩ = some v) :
    Below W.heap.size W b ∧ b.cell? ⟨p, 0, none⟩ = some u ∧ b.cell? ⟨q, 0, none⟩ = some v := ⟨h.1.trans (st.h.mono h.1.size), bkeep st.h h.2.1, bkeep st.h h.2.2⟩
theorem DsIn.drop {w : World} {S : Nat → Prop} {b : Nat} : ∀ {ds : List Df} {o : Nat} (k : Nat), DsIn w S ds b o → DsIn w S (ds.drop k) b (o + k * 5)
  | _, _, 0, h => h
  | [], _, _ + 1, _ => trivial
  | _ :: l, o, k + 1, ⟨_, _, _, _, h⟩ => by
    have := DsIn.drop (ds := l) k h
    rw [show o + 5 + k * 5 = o + (k + 1) * 5 by omega] at this
    exact this
theorem DsIn.take {w : World} {S : Nat → Prop} {b : Nat} : ∀ {ds : List Df} {o : Nat} (k : Nat), DsIn w S ds b o → DsIn w S (ds.take k) b o
  | [], _, 0, _ => trivial
  | _ :: _, _, 0, _ => trivial
  | [], _, _ + 1, _ => trivial
  | _ :: l, _, k + 1, ⟨h1, h2, h3, h4, h⟩ => ⟨h1, h2, h3, h4, DsIn.take (ds := l) k h⟩
/-- The cells of what lies in memory. -/
theorem DsIn.cells {w : World} {S : Nat → Prop} {b : Nat} : ∀ {ds : List Df} {o : Nat}, DsIn w S ds b o → ∃ xs : List Value, xs.length = ds.length * 5 ∧ DC w S xs ds ∧ (∀ u ∈ xs, u.oneCell' = true) ∧ ∀ j u, xs[j]? = some u → w.cell? ⟨b, o + j, none⟩ = some u
  | [], _, _ => ⟨[], rfl, trivial, by simp, fun j u h => by simp at h⟩
  | d :: l, o, ⟨_, h2, h3, ⟨h4, h5, u, h6, h7⟩, h8⟩ => by
    obtain ⟨xs, e1, e2, e3, e4⟩ := DsIn.cells h8
    have h7' := h7
    obtain ⟨_, ao, cap, rfl, _⟩ := h7'
    refine ⟨.string d.nm :: .int .i64 d.at_ :: .int .i64 d.e.op :: .string d.e.nm :: .slice ao d.e.kids.len cap :: xs, by simp [e1]; omega, ⟨rfl, rfl, rfl, rfl, h7, e2⟩, ?_, ?_⟩
    · intro u hu
      simp only [List.mem_cons] at hu
      rcases hu with rfl | rfl | rfl | rfl | rfl | hu
      iterate 5 rfl
      exact e3 u hu
    · intro j v hj
      match j, hj with
      | 0, hj => simp at hj; subst hj; simpa using h2
      | 1, hj => simp at hj; subst hj; simpa using h3
      | 2, hj => simp at hj; subst hj; simpa using h4
      | 3, hj => simp at hj; subst hj; simpa using h5
      | 4, hj => simp at hj; subst hj; simpa using h6
      | j + 5, hj =>
        have := e4 j v (by simpa using hj)
        rwa [show o + 5 + j = o + (j + 5) by omega] at this
theorem DC.app {w : World} {S : Nat → Prop} : ∀ {xs ys : List Value} {ds es : List Df}, DC w S xs ds → DC w S ys es → DC w S (xs ++ ys) (ds ++ es)
  | [], _, [], _, _, h => h
  | a :: b :: c :: d :: e :: xs, _, x :: l, _, ⟨h1, h2, h3, h4, h5, h6⟩, h => ⟨h1, h2, h3, h4, h5, DC.app h6 h⟩
  | [], _, _ :: _, _, h, _ => by simp [DC] at h
  | [_], _, _, _, h, _ => by simp [DC] at h
  | [_, _], _, _, _, h, _ => by simp [DC] at h
  | [_, _, _], _, _, _, h, _ => by simp [DC] at h
  | [_, _, _, _], _, _, _, h, _ => by simp [DC] at h
  | _ :: _ :: _ :: _ :: _ :: _, _, [], _, h, _ => by simp [DC] at h
theorem turn_perm (ds : List Df) (k : Nat) : ds.Perm (ds.drop k ++ ds.take k) := by
  have h : (ds.take k ++ ds.drop k).Perm (ds.drop k ++ ds.take k) := List.perm_append_comm
  rwa [List.take_append_drop] at h
section
variable {H : Type} {enc : TypeId × Value → H} {w : World} {base : Nat} {spare : Nat → Bool} {held : Bool}
set_option maxRecDepth 100000 in
theorem open_cap {ao : Option Addr} {n cap : Nat} {d : DataW H} {ps : List MemPlace} (h : DataW.Trod enc Try.prog w base spare held 42 (.agg #[.slice ao n cap]) d ps) : n ≤ cap ∧ cap ≤ 9223372036854775807 := by
  obtain ⟨fuel, h⟩ := h
  obtain ⟨xs, m, rfl, hd, hl, hlen, hf⟩ := DataW.trod_struct Try.underlying42 h
  match xs, hlen with
  | [y0], _ =>
  have f0 : DataW.trod enc Try.prog w base spare held m 40 (([Value.slice ao n cap].drop 0).take (Try.prog.cellsOf 40)) = some y0 := hf 0 _ rfl
  rw [cellsDefs] at f0
  rcases DataW.trod_slice Try.underlying40 f0 with ⟨e2, _⟩ | ⟨ad, len, cap', elems, rest, m, rfl, e2, _, hb, hlc, hcm, _⟩
  · have e3 : Value.slice ao n cap = .slice none 0 0 := by simpa using e2
    simp at e3
    omega
  · have e3 : Value.slice ao n cap = .slice (some ad) len cap' := by simpa using e2
    simp at e3
    unfold maxLen at hcm
    omega
end
theorem turn_num (n : Int) {m : Nat} (h : ¬ m = 0) (h60 : m ≤ 60) : ∃ k : Nat, k < m ∧ wrap64 ((IntKind.u64.wrap n).tmod m) = (k : Int) := by
  have h1 : 0 ≤ IntKind.u64.wrap n := by
    have e : IntKind.u64.wrap n = n % 2 ^ 64 := rfl
    rw [e]; omega
  have h2 := Int.tmod_nonneg (m : Int) h1
  have h3 : (IntKind.u64.wrap n).tmod (m : Int) < m := Int.tmod_lt_of_pos _ (by omega)
  generalize (IntKind.u64.wrap n).tmod (m : Int) = x at *
  refine ⟨x.toNat, by omega, ?_⟩
  unfold wrap64
  omega
theorem grown_below {w w' : World} (h : w.grownBy w' none) : Below w.heap.size w w' := ⟨h.os, h.tape, h.output, h.size, fun k hk => h.block k hk (by simp)⟩
section
variable {W x z : World} {p p' q r : Nat} {u v : Value} {F1 F2 : Int}
theorem two_set (hr : RB x p) (hS : Below W.heap.size W x ∧ x.cell? ⟨q, 0, none⟩ = some u ∧ x.cell? ⟨r, 0, none⟩ = some v) (hl : W.heap.size ≤ p) (hq : q < W.heap.size) (hr' : r < W.heap.size)
    (hz : z = (x.setCell ⟨p, 0, none⟩ (.int .i64 F1)).setCell ⟨p, 1, none⟩ (.int .i64 F2)) :
    (Below W.heap.size W z ∧ z.cell? ⟨q, 0, none⟩ = some u ∧ z.cell? ⟨r, 0, none⟩ = some v) ∧ z.cell? ⟨p, 0, none⟩ = some (.int .i64 F1) ∧ z.cell? ⟨p, 1, none⟩ = some (.int .i64 F2) := by
  subst hz
  have far : ∀ b, b < W.heap.size → ((x.setCell ⟨p, 0, none⟩ (.int .i64 F1)).setCell ⟨p, 1, none⟩ (.int .i64 F2)).cell? ⟨b, 0, none⟩ = x.cell? ⟨b, 0, none⟩ := fun b hb => by
    rw [World.cell?_setCell_other _ _ _ _ (by simp <;> omega), World.cell?_setCell_other _ _ _ _ (by simp <;> omega)]
  refine ⟨⟨(hS.1.setCell (p := ⟨p, 0, none⟩) hl _).setCell (p := ⟨p, 1, none⟩) hl _, (far q hq).trans hS.2.1, (far r hr').trans hS.2.2⟩, ?_, ?_⟩
  · rw [World.cell?_setCell_other _ _ _ _ (by simp)]
    exact World.cell?_setCell_same _ _ _ hr.c0
  · exact World.cell?_setCell_same _ _ _ ((World.cell?_setCell_other _ _ _ _ (by simp)).trans hr.c1)
theorem two_set_other (hr : RB x p') (hne : p' ≠ p) (hz : z = (x.setCell ⟨p, 0, none⟩ (.int .i64 F1)).setCell ⟨p, 1, none⟩ (.int .i64 F2)) : RB z p' := by
  have hb : z.heap[p']? = x.heap[p']? := by
    rw [hz, Below.heap_setCell _ _ _ _ (by exact hne), Below.heap_setCell _ _ _ _ (by exact hne)]
  exact ⟨(World.cell?_of_block (a := ⟨p', 0, none⟩) hb).trans hr.c0, (World.cell?_of_block (a := ⟨p', 1, none⟩) hb).trans hr.c1, fun i => (World.frozen?_of_block (a := ⟨p', i, none⟩) hb).trans (hr.fz i)⟩
theorem two_set_keep {a b : Value} (h : x.cell? ⟨p', 0, none⟩ = some a ∧ x.cell? ⟨p', 1, none⟩ = some b) (hne : p' ≠ p) (hz : z = (x.setCell ⟨p, 0, none⟩ (.int .i64 F1)).setCell ⟨p, 1, none⟩ (.int .i64 F2)) : z.cell? ⟨p', 0, none⟩ = some a ∧ z.cell? ⟨p', 1, none⟩ = some b := by
  have hb : z.heap[p']? = x.heap[p']? := by
    rw [hz, Below.heap_setCell _ _ _ _ (by exact hne), Below.heap_setCell _ _ _ _ (by exact hne)]
  exact ⟨(World.cell?_of_block (a := ⟨p', 0, none⟩) hb).trans h.1, (World.cell?_of_block (a := ⟨p', 1, none⟩) hb).trans h.2⟩
end
/-- Behind a region: nothing but its normal end. -/
def CutQ (R : Act → World → Prop) : Exit → Act → World → Prop
  | .normal, a, w => R a w
  | _, _, _ => False
theorem region_cut {P : Program} {c : Code} {Q : Exit → Act → World → Prop} {a : Act} {w : World} (R : Act → Act → World → Prop) (h1 : c.wp P (CutQ (R a)) a w) (h2 : ∀ a' w', R a a' w' → Q .normal a' w') : c.wp P Q a w :=
  Code.wp_mono (fun e a' w' hr => by
    cases e
    case normal => exact h2 a' w' hr
    all_goals exact (hr : False).elim) h1
end Go.Proofs.Ytcanphhmflbdmac

/- The document's own copy of a text. -/
namespace Go.Proofs.Ytcanphhmflbdmac
open Go.RowKit
theorem take_next {ds : List Df} {k : Nat} (h : k < ds.length) : ds.take (k + 1) = ds.take k ++ [ds[k]] := by simp
set_option maxRecDepth 100000 in
set_option maxHeartbeats 16000000 in
theorem ownT_any (ds : List Df) (va : Value) (w : World) (hx : DsV w All va ds) (hd60 : ds.length ≤ 60) (hs : ∀ d ∈ ds, d.e.sz ≤ 3000) :
    Calls Try.prog 21 #[.agg #[va]] w fun e w' => ∃ v, e = .returned (.agg #[v]) ∧ DsV w' (fun k => w.heap.size ≤ k) v ds ∧ Below w.heap.size w w' := by
  obtain ⟨i0, hi, iz0, iz1, iz2⟩ := info_parts Try.infoDef
  obtain ⟨hl, ao, cap, rfl, hin⟩ := hx
  obtain ⟨V, hV⟩ : ∃ V, V = (w.alloc (.cells #[.slice ao ds.length cap] 42)).alloc (.cells #[.slice none 0 0] 42) := ⟨_, rfl⟩
  have hVz : V.heap.size = w.heap.size + 2 := by rw [hV]; simp
  obtain ⟨W, hW⟩ : ∃ W, W = V.alloc (.cells #[.slice none 0 0] 42) := ⟨_, rfl⟩
  have hVW : Below V.heap.size V W := by rw [hW]; exact al1 _ _
  have hWz : W.heap.size = w.heap.size + 3 := by rw [hW]; simp; omega
  have hVb : Below w.heap.size w V := by rw [hV]; exact al2 _ _ _
  have hWb : Below w.heap.size w W := hVb.trans (hVW.mono (by omega))
  have hW2 : W.cell? ⟨w.heap.size, 0, none⟩ = some (.slice ao ds.length cap) := bkeep hVW (by rw [hV]; simp)
  have hWr0 : W.cell? ⟨w.heap.size + 1, 0, none⟩ = some (.slice none 0 0) := bkeep hVW (by rw [hV]; simp)
  have hWrf : ∀ i, W.frozen? ⟨w.heap.size + 1, i, none⟩ = false := fun i => by
    rw [World.frozen?_of_block (w := V) (a := ⟨w.heap.size + 1, i, none⟩) (hVW.block (w.heap.size + 1) (by omega)), hV]; simp [go_sem]
  have hWo : W.cell? ⟨w.heap.size + 2, 0, none⟩ = (V.alloc (.cells #[.slice none 0 0] 42)).cell? ⟨V.heap.size, 0, none⟩ := by rw [hW, hVz]
  have hWo0 : W.cell? ⟨w.heap.size + 2, 0, none⟩ = some (.slice none 0 0) := by rw [hWo]; simp
  have hWof : ∀ i, W.frozen? ⟨w.heap.size + 2, i, none⟩ = false := fun i => by rw [hW, ← hVz]; simp [go_sem]
  clear hWo
  go_enter Try.func21, Try.ntmps21
  go_wp2_with fail
  rw [← hV, ← hW]
  have HW := hd hW
  have HV := hd hV
  have HS := hd hs
  clear hW hV hs
  go_loopw [4] (fun i wr => ∃ (k : Nat) (v : Value) (xs : List Value), k ≤ ds.length ∧ i = .int .i64 k ∧ wr.ownsRow (w.heap.size + 3) 66 5 v k xs ∧ DC wr (fun q => w.heap.size + 3 ≤ q ∧ v.ownBlock ≠ some q) xs (ds.take k) ∧
    wr.cell? ⟨w.heap.size + 2, 0, none⟩ = some v ∧ (∀ i, wr.frozen? ⟨w.heap.size + 2, i, none⟩ = false) ∧ But (w.heap.size + 2) W wr) (fun i _ => ds.length - (intOf i).toNat)
  case atStart => exact ⟨0, .slice none 0 0, [], Nat.zero_le _, rfl, World.ownsRow_nil _ _ _ _, trivial, hWo0, hWof, But.refl _ _⟩
  case round =>
    obtain ⟨k, v, xs, hk, rfl, hown, hfc, o2, hof, hbt⟩ := hrel
    have hz := hbt.size
    have bel : Below w.heap.size w wr := hWb.trans (hbt.below (by omega) (by omega))
    have s2 : wr.cell? ⟨w.heap.size, 0, none⟩ = some (.slice ao ds.length cap) := by rw [hbt.cell (by omega) (by omega)]; exact hW2
    by_cases hlt : k < ds.length
    · obtain h0 | ⟨ba, oa, rfl, hia⟩ := hin
      · omega
      have kA : ∀ b o v, All b → w.cell? ⟨b, o, none⟩ = some v → All b ∧ wr.cell? ⟨b, o, none⟩ = some v := keep_cell (fun _ _ h => h) (Kp.of_below bel).block
      obtain ⟨an, aa, ax⟩ := (hia.mono kA).at_ k hlt
      obtain ⟨ua, a0, a1, a2, hxa⟩ := ax.xv
      have hxa' := hxa
      obtain ⟨_, e, _, aoa', capa', rfl, _⟩ := hxa'
      simp at e; subst e
      have hds := HS.out ds[k] (List.getElem_mem hlt)
      have HTK := hd (take_next hlt)
      have HLT := hd hlt
      generalize ds[k] = dk at *
      have IH := fun w hx => ow_any dk.e (.agg #[.int .i64 dk.e.op, .string dk.e.nm, .slice aoa' dk.e.kids.len capa']) w hx hds
      have hvl : ∀ q, v.ownBlock = some q → w.heap.size + 3 ≤ q ∧ q < wr.heap.size := fun q e => hown.lt q e
      obtain ⟨aov, capv, rfl⟩ := owns_slice hown
      obtain ⟨U, hU⟩ : ∃ U, U = wr.alloc (.cells #[.string dk.nm, .int .i64 dk.at_, .int .i64 dk.e.op, .string dk.e.nm, .slice aoa' dk.e.kids.len capa'] 66) := ⟨_, rfl⟩
      have hUb : Below wr.heap.size wr U := by rw [hU]; exact al1 _ _
      have hUz : U.heap.size = wr.heap.size + 1 := by rw [hU]; simp
      have uby : By U wr.heap.size dk aoa' capa' := by rw [hU]; exact By.new _ _ _ _
      have drw : Below U.heap.size U U.drew := ⟨rfl, rfl, rfl, Nat.le_refl _, fun _ _ => rfl⟩
      have IHd := IH U.drew ((hxa.below hUb).below drw)
      have hown0 : U.drew.ownsRow (w.heap.size + 3) 66 5 (.slice aov k capv) k xs := by rw [hU]; exact hown.alloc _
      have bt0 : But (w.heap.size + 2) W U.drew := (hbt.trans (But.of_below hUb)).drew
      have of0 : ∀ i, U.drew.frozen? ⟨w.heap.size + 2, i, none⟩ = false := fun i => by
        exact (World.frozen?_of_block (w := wr) (w' := U) (a := ⟨w.heap.size + 2, i, none⟩) (hUb.block (w.heap.size + 2) (by omega))).trans (hof i)
      have e2 : U.drew.cell? ⟨w.heap.size + 2, 0, none⟩ = some (.slice aov k capv) := bkeep hUb o2
      have c0 : U.drew.cell? ⟨wr.heap.size, 0, none⟩ = some (.string dk.nm) := uby.c0
      have c1 : U.drew.cell? ⟨wr.heap.size, 1, none⟩ = some (.int .i64 dk.at_) := by rw [Lib.cell_of_heap (show U.drew.heap[wr.heap.size]? = _ from uby)]; rfl
      have c2 : U.drew.cell? ⟨wr.heap.size, 2, none⟩ = some (.int .i64 dk.e.op) := uby.c2
      have c3 : U.drew.cell? ⟨wr.heap.size, 3, none⟩ = some (.string dk.e.nm) := uby.c3
      have c4 : U.drew.cell? ⟨wr.heap.size, 4, none⟩ = some (.slice aoa' dk.e.kids.len capa') := uby.c4
      have hS0 := And.intro c0 (And.intro c1 (And.intro c2 (And.intro c3 c4)))
      go_wp2_with fail
      rw [← hU]
      have HU := hd hU
      clear hU
      refine wp_region_held_drew (S := fun w' => w'.cell? ⟨wr.heap.size, 0, none⟩ = some (.string dk.nm) ∧ w'.cell? ⟨wr.heap.size, 1, none⟩ = some (.int .i64 dk.at_) ∧ w'.cell? ⟨wr.heap.size, 2, none⟩ = some (.int .i64 dk.e.op) ∧ w'.cell? ⟨wr.heap.size, 3, none⟩ = some (.string dk.e.nm) ∧ w'.cell? ⟨wr.heap.size, 4, none⟩ = some (.slice aoa' dk.e.kids.len capa')) (by kernel_rfl) hS0 ?_
      intro hSw
      refine wpAnyH_take (i := 0) (v := ?v6) rfl (by kernel_rfl) (by kernel_rfl) (by kernel_rfl) (fun _ _ _ h => h) (Or.inl ⟨by rfl, ?hy6⟩) (by assumption) ?_
      case hy6 => (intro w' hS'; (try dsimp only at hS'); go_simp; try with_reducible rfl)
      refine wpAnyH_take (i := 2) (v := ?v7) rfl (by kernel_rfl) (by kernel_rfl) (by kernel_rfl) (fun _ _ _ h => h) (Or.inl ⟨by rfl, ?hy7⟩) (by assumption) ?_
      case hy7 => (intro w' hS'; (try dsimp only at hS'); go_simp; try with_reducible rfl)
      refine wpAnyH_take (i := 3) (v := ?v8) rfl (by kernel_rfl) (by kernel_rfl) (by kernel_rfl) (fun _ _ _ h => h) (Or.inl ⟨by rfl, ?hy8⟩) (by assumption) ?_
      case hy8 => (intro w' hS'; (try dsimp only at hS'); go_simp; try with_reducible rfl)
      refine wpAnyH_take (i := 4) (v := ?v9) rfl (by kernel_rfl) (by kernel_rfl) (by kernel_rfl) (fun _ _ _ h => h) (Or.inl ⟨by rfl, ?hy9⟩) (by assumption) ?_
      case hy9 => (intro w' hS'; (try dsimp only at hS'); go_simp; try with_reducible rfl)
      refine wpAnyH_take (i := 5) (v := ?v10) rfl (by kernel_rfl) (by kernel_rfl) (by kernel_rfl) (fun _ _ _ h => h) (Or.inl ⟨by rfl, ?hy10⟩) (by assumption) ?_
      case hy10 => (intro w' hS'; (try dsimp only at hS'); go_simp; try with_reducible rfl)
      refine wpAnyH_take (i := 6) (v := ?v11) rfl (by kernel_rfl) (by kernel_rfl) (by kernel_rfl) (fun _ _ _ h => h) (Or.inl ⟨by rfl, ?hy11⟩) (by assumption) ?_
      case hy11 => (intro w' hS'; (try dsimp only at hS'); go_simp; try with_reducible rfl)
      refine wpAnyH_take (i := 7) (v := ?v12) rfl (by kernel_rfl) (by kernel_rfl) (by kernel_rfl) (fun _ _ _ h => h) (Or.inl ⟨by rfl, ?hy12⟩) (by assumption) ?_
      case hy12 => (intro w' hS'; (try dsimp only at hS'); go_simp; try with_reducible rfl)
      refine wpAnyH_ready (rs := [1, 8]) (by kernel_rfl) (by simp) ?_
      refine AllReadyH.cons rfl (fun K hK => ?_) (AllReadyH.cons rfl (fun K hK => ?_) AllReadyH.nil)
      · go_simp
        refine hK.out _ _ hSw ?_
        clear hK K
        intro hSw
        refine wpAnyH_ready (rs := [8]) (by kernel_rfl) (by simp) ?_
        refine AllReadyH.cons rfl (fun K hK => ?_) AllReadyH.nil
        go_simp
        go_at_call 40
        refine IHd.mono ?_
        rintro e w2 ⟨_, rfl, ⟨u2, rfl, hu2⟩, hb2⟩
        obtain ⟨hl2, ao2, cap2, rfl, hin2⟩ := id hu2
        have z2 : wr.heap.size + 1 ≤ w2.heap.size := hUz ▸ hb2.size
        have f2 := bkeep hb2 e2
        have hS2 := And.intro (bkeep hb2 c0) (And.intro (bkeep hb2 c1) (And.intro (bkeep hb2 c2) (And.intro (bkeep hb2 c3) (bkeep hb2 c4))))
        have ff : ∀ i, w2.frozen? ⟨w.heap.size + 2, i, none⟩ = false := fun i => (World.frozen?_of_block (a := ⟨w.heap.size + 2, i, none⟩) (hb2.block (w.heap.size + 2) (lt_of_cell e2))).trans (of0 i)
        have own2 := owns_but hown0 (But.of_below (r := w.heap.size + 2) hb2) (by omega)
        obtain ⟨ob, hob⟩ : ∃ ob : Obj, ob = .cells #[.string dk.nm, .int .i64 dk.at_, .int .i64 dk.e.op, .string dk.e.nm, .slice ao2 dk.e.kids.len cap2] 66 := ⟨_, rfl⟩
        have hbo : Below w2.heap.size w2 (w2.alloc ob) := al1 _ _
        have own3 : (w2.alloc ob).ownsRow (w.heap.size + 3) 66 5 (.slice aov k capv) k xs := own2.alloc _
        have bt3 : But (w.heap.size + 2) W (w2.alloc ob) := (bt0.trans (But.of_below hb2)).alloc _
        have f3 := bkeep hbo f2
        have hS3 := And.intro (bkeep hbo hS2.1) (And.intro (bkeep hbo hS2.2.1) (And.intro (bkeep hbo hS2.2.2.1) (And.intro (bkeep hbo hS2.2.2.2.1) (bkeep hbo hS2.2.2.2.2))))
        subst hob
        refine hK.out _ _ hS2 ?_
        clear hK K
        intro hSw
        refine wpAnyH_take (i := 9) (v := ?v1) rfl (by kernel_rfl) (by kernel_rfl) (by kernel_rfl) (fun _ _ _ h => h) (Or.inl ⟨by rfl, ?hy1⟩) (by assumption) ?_
        case hy1 => (intro w' hS'; (try dsimp only at hS'); go_simp; try with_reducible rfl)
        refine wpAnyH_ready (rs := [10]) (by kernel_rfl) (by simp) ?_
        refine AllReadyH.cons rfl (fun K hK => ?_) AllReadyH.nil
        go_simp
        refine hK.out _ _ hS3 ?_
        clear hK K
        intro hSw
        refine wpAnyH_ready (rs := [11]) (by kernel_rfl) (by simp) ?_
        refine AllReadyH.cons rfl (fun K hK => ?_) AllReadyH.nil
        refine step_own rfl (.tmp 19) (.tmp 28) 40 rfl (w.heap.size + 3) 66 i0 (.agg #[.string ⟨#[]⟩, .int .i64 0, .int .i64 0, .string ⟨#[]⟩, .slice none 0 0]) 5 72 Try.underlying40 hi iz0 iz1 iz2 rfl (by decide) (.slice aov k capv) k xs (by simp [Act.eval]) own3 ⟨w2.heap.size, 0, none⟩ 1 1 [.string dk.nm, .int .i64 dk.at_, .int .i64 dk.e.op, .string dk.e.nm, .slice ao2 dk.e.kids.len cap2] (by simp [Act.eval]) rfl (cell5_new w2 _ _ _ _ _ _) (oneD _ _ _ _ _ _ _) (by unfold maxLen; omega) (by omega) (by simp; omega) ?_
        intro v' w4 own4 grow4 hat
        have bt4 : But (w.heap.size + 2) W w4 := bt3.grown grow4 (fun q e => by have := (hvl q e).1; omega)
        have z4 := grow4.size
        have gk : ∀ q, q < w2.heap.size → (q < w.heap.size + 3 ∨ wr.heap.size ≤ q) → w4.heap[q]? = w2.heap[q]? := fun q h1 h2 => by
          rw [grow4.block q (by simp; omega) (fun e => by have := hvl q e.symm; omega)]; exact (al1 w2 _).block q h1
        have f42 : w4.cell? ⟨w.heap.size + 2, 0, none⟩ = some (.slice aov k capv) := (World.cell?_of_block (a := ⟨w.heap.size + 2, 0, none⟩) (gk (w.heap.size + 2) (lt_of_cell f2) (.inl (by omega)))).trans f2
        have f4f : ∀ i, w4.frozen? ⟨w.heap.size + 2, i, none⟩ = false := fun i => (World.frozen?_of_block (a := ⟨w.heap.size + 2, i, none⟩) (gk (w.heap.size + 2) (lt_of_cell f2) (.inl (by omega)))).trans (ff i)
        have gd : ∀ i, w4.cell? ⟨wr.heap.size, i, none⟩ = w2.cell? ⟨wr.heap.size, i, none⟩ := fun i => World.cell?_of_block (a := ⟨wr.heap.size, i, none⟩) (gk wr.heap.size (by omega) (.inr (Nat.le_refl _)))
        obtain ⟨ao4, cap4, rfl⟩ := owns_slice own4
        have hS4 : w4.cell? ⟨wr.heap.size, 0, none⟩ = some (.string dk.nm) ∧ w4.cell? ⟨wr.heap.size, 1, none⟩ = some (.int .i64 dk.at_) ∧ w4.cell? ⟨wr.heap.size, 2, none⟩ = some (.int .i64 dk.e.op) ∧ w4.cell? ⟨wr.heap.size, 3, none⟩ = some (.string dk.e.nm) ∧ w4.cell? ⟨wr.heap.size, 4, none⟩ = some (.slice aoa' dk.e.kids.len capa') := ⟨(gd 0).trans hS2.1, (gd 1).trans hS2.2.1, (gd 2).trans hS2.2.2.1, (gd 3).trans hS2.2.2.2.1, (gd 4).trans hS2.2.2.2.2⟩
        have gz : ∀ u i, (w4.setCell ⟨w.heap.size + 2, 0, none⟩ u).cell? ⟨wr.heap.size, i, none⟩ = w4.cell? ⟨wr.heap.size, i, none⟩ := fun u i => World.cell?_setCell_other _ _ _ _ (by simp <;> omega)
        refine hK.out _ _ hS4 ?_
        clear hK K
        intro hSw
        refine wpAnyH_take (i := 12) (v := ?v2) rfl (by kernel_rfl) (by kernel_rfl) (by kernel_rfl) (fun _ _ _ h => h) (Or.inl ⟨by rfl, ?hy2⟩) (by assumption) ?_
        case hy2 => (intro w' hS'; (try dsimp only at hS'); go_simp; try with_reducible rfl)
        refine wpAnyH_ready (rs := [13]) (by kernel_rfl) (by simp) ?_
        refine AllReadyH.cons rfl (fun K hK => ?_) AllReadyH.nil
        go_simp
        refine hK.out _ _ ⟨(gz _ 0).trans hS4.1, (gz _ 1).trans hS4.2.1, (gz _ 2).trans hS4.2.2.1, (gz _ 3).trans hS4.2.2.2.1, (gz _ 4).trans hS4.2.2.2.2⟩ ?_
        clear hK K
        intro hSw
        refine wpAnyH_done (by kernel_rfl) ?_ _
        have bt5 : But (w.heap.size + 2) W (w4.setCell ⟨w.heap.size + 2, 0, none⟩ (.slice ao4 (k + 1) cap4)) := bt4.setCell (.inl rfl) _
        have own5 := (owns_setCell (a := ⟨w.heap.size + 2, 0, none⟩) own4 (by show w.heap.size + 2 < w.heap.size + 3; omega) : (w4.setCell ⟨w.heap.size + 2, 0, none⟩ (.slice ao4 (k + 1) cap4)).ownsRow _ _ _ _ _ _)
        have z4' : w2.heap.size + 1 ≤ w4.heap.size := by simpa using z4
        have fc5 : DC (w4.setCell ⟨w.heap.size + 2, 0, none⟩ (.slice ao4 (k + 1) cap4)) (fun q => w.heap.size + 3 ≤ q ∧ (Value.slice ao4 (k + 1) cap4).ownBlock ≠ some q) (xs ++ [.string dk.nm, .int .i64 dk.at_, .int .i64 dk.e.op, .string dk.e.nm, .slice ao2 dk.e.kids.len cap2]) (ds.take k ++ [dk]) := by
          refine DC_step (w1 := w2) (g := w2.heap.size + 1) (x := dk) hfc (hu2.mono fun q o v hq h => ⟨by have : U.heap.size ≤ q := hq; omega, h⟩) (by omega) (by omega) ?_ ?_ (fun q e => (hvl q e).2) (by omega) (by simpa using hat)
          · have kk1 : Kp (fun q => w.heap.size + 3 ≤ q ∧ (Value.slice aov k capv).ownBlock ≠ some q) wr w2 := ⟨by omega, fun q hq _ => (hb2.block q (by show q < U.heap.size; omega)).trans (hUb.block q hq)⟩
            exact Kp.setCell ((kk1.alloc _).grown grow4 (fun q e => .inl fun hs => hs.2 e)) (.inl fun hs => by have := hs.1; simp at this) _
          · exact Kp.setCell (((Kp.refl _ w2).alloc _).grown grow4 (fun q e => .inl fun hs => by have := (hvl q e).2; omega)) (.inl fun hs => by simp at hs <;> omega) _
        have p2 : (w4.setCell ⟨w.heap.size + 2, 0, none⟩ (.slice ao4 (k + 1) cap4)).cell? ⟨w.heap.size + 2, 0, none⟩ = some (.slice ao4 (k + 1) cap4) := World.cell?_setCell_same _ _ _ f42
        have pf : ∀ i, (w4.setCell ⟨w.heap.size + 2, 0, none⟩ (.slice ao4 (k + 1) cap4)).frozen? ⟨w.heap.size + 2, i, none⟩ = false := fun i => by simp [f4f i]
        obtain ⟨Z, hZ⟩ : ∃ Z, Z = w4.setCell ⟨w.heap.size + 2, 0, none⟩ (.slice ao4 (k + 1) cap4) := ⟨_, rfl⟩
        rw [← hZ] at bt5 own5 fc5 p2 pf
        rw [← hZ]
        clear hZ bt4 own4 f42 f4f hS4 hS3 hS2 hSw gz gd gk
        go_wp2_with fail
        go_roundw
        case rel => exact ⟨k + 1, _, _, by omega, by go_num, own5, by rw [HTK.out]; exact fc5, p2, pf, bt5⟩
        case measure => simp [intOf]; omega
      · go_simp
        go_at_call 40
        refine IHd.mono ?_
        rintro e w2 ⟨_, rfl, ⟨u2, rfl, hu2⟩, hb2⟩
        obtain ⟨hl2, ao2, cap2, rfl, hin2⟩ := id hu2
        have z2 : wr.heap.size + 1 ≤ w2.heap.size := hUz ▸ hb2.size
        have f2 := bkeep hb2 e2
        have hS2 := And.intro (bkeep hb2 c0) (And.intro (bkeep hb2 c1) (And.intro (bkeep hb2 c2) (And.intro (bkeep hb2 c3) (bkeep hb2 c4))))
        have ff : ∀ i, w2.frozen? ⟨w.heap.size + 2, i, none⟩ = false := fun i => (World.frozen?_of_block (a := ⟨w.heap.size + 2, i, none⟩) (hb2.block (w.heap.size + 2) (lt_of_cell e2))).trans (of0 i)
        have own2 := owns_but hown0 (But.of_below (r := w.heap.size + 2) hb2) (by omega)
        obtain ⟨ob, hob⟩ : ∃ ob : Obj, ob = .cells #[.string dk.nm, .int .i64 dk.at_, .int .i64 dk.e.op, .string dk.e.nm, .slice ao2 dk.e.kids.len cap2] 66 := ⟨_, rfl⟩
        have hbo : Below w2.heap.size w2 (w2.alloc ob) := al1 _ _
        have own3 : (w2.alloc ob).ownsRow (w.heap.size + 3) 66 5 (.slice aov k capv) k xs := own2.alloc _
        have bt3 : But (w.heap.size + 2) W (w2.alloc ob) := (bt0.trans (But.of_below hb2)).alloc _
        have f3 := bkeep hbo f2
        have hS3 := And.intro (bkeep hbo hS2.1) (And.intro (bkeep hbo hS2.2.1) (And.intro (bkeep hbo hS2.2.2.1) (And.intro (bkeep hbo hS2.2.2.2.1) (bkeep hbo hS2.2.2.2.2))))
        subst hob
        refine hK.out _ _ hS2 ?_
        clear hK K
        intro hSw
        refine wpAnyH_take (i := 9) (v := ?v3) rfl (by kernel_rfl) (by kernel_rfl) (by kernel_rfl) (fun _ _ _ h => h) (Or.inl ⟨by rfl, ?hy3⟩) (by assumption) ?_
        case hy3 => (intro w' hS'; (try dsimp only at hS'); go_simp; try with_reducible rfl)
        refine wpAnyH_ready (rs := [1, 10]) (by kernel_rfl) (by simp) ?_
        refine AllReadyH.cons rfl (fun K hK => ?_) (AllReadyH.cons rfl (fun K hK => ?_) AllReadyH.nil)
        · go_simp
          refine hK.out _ _ hSw ?_
          clear hK K
          intro hSw
          refine wpAnyH_ready (rs := [10]) (by kernel_rfl) (by simp) ?_
          refine AllReadyH.cons rfl (fun K hK => ?_) AllReadyH.nil
          go_simp
          refine hK.out _ _ hS3 ?_
          clear hK K
          intro hSw
          refine wpAnyH_ready (rs := [11]) (by kernel_rfl) (by simp) ?_
          refine AllReadyH.cons rfl (fun K hK => ?_) AllReadyH.nil
          refine step_own rfl (.tmp 19) (.tmp 28) 40 rfl (w.heap.size + 3) 66 i0 (.agg #[.string ⟨#[]⟩, .int .i64 0, .int .i64 0, .string ⟨#[]⟩, .slice none 0 0]) 5 72 Try.underlying40 hi iz0 iz1 iz2 rfl (by decide) (.slice aov k capv) k xs (by simp [Act.eval]) own3 ⟨w2.heap.size, 0, none⟩ 1 1 [.string dk.nm, .int .i64 dk.at_, .int .i64 dk.e.op, .string dk.e.nm, .slice ao2 dk.e.kids.len cap2] (by simp [Act.eval]) rfl (cell5_new w2 _ _ _ _ _ _) (oneD _ _ _ _ _ _ _) (by unfold maxLen; omega) (by omega) (by simp; omega) ?_
          intro v' w4 own4 grow4 hat
          have bt4 : But (w.heap.size + 2) W w4 := bt3.grown grow4 (fun q e => by have := (hvl q e).1; omega)
          have z4 := grow4.size
          have gk : ∀ q, q < w2.heap.size → (q < w.heap.size + 3 ∨ wr.heap.size ≤ q) → w4.heap[q]? = w2.heap[q]? := fun q h1 h2 => by
            rw [grow4.block q (by simp; omega) (fun e => by have := hvl q e.symm; omega)]; exact (al1 w2 _).block q h1
          have f42 : w4.cell? ⟨w.heap.size + 2, 0, none⟩ = some (.slice aov k capv) := (World.cell?_of_block (a := ⟨w.heap.size + 2, 0, none⟩) (gk (w.heap.size + 2) (lt_of_cell f2) (.inl (by omega)))).trans f2
          have f4f : ∀ i, w4.frozen? ⟨w.heap.size + 2, i, none⟩ = false := fun i => (World.frozen?_of_block (a := ⟨w.heap.size + 2, i, none⟩) (gk (w.heap.size + 2) (lt_of_cell f2) (.inl (by omega)))).trans (ff i)
          have gd : ∀ i, w4.cell? ⟨wr.heap.size, i, none⟩ = w2.cell? ⟨wr.heap.size, i, none⟩ := fun i => World.cell?_of_block (a := ⟨wr.heap.size, i, none⟩) (gk wr.heap.size (by omega) (.inr (Nat.le_refl _)))
          obtain ⟨ao4, cap4, rfl⟩ := owns_slice own4
          have hS4 : w4.cell? ⟨wr.heap.size, 0, none⟩ = some (.string dk.nm) ∧ w4.cell? ⟨wr.heap.size, 1, none⟩ = some (.int .i64 dk.at_) ∧ w4.cell? ⟨wr.heap.size, 2, none⟩ = some (.int .i64 dk.e.op) ∧ w4.cell? ⟨wr.heap.size, 3, none⟩ = some (.string dk.e.nm) ∧ w4.cell? ⟨wr.heap.size, 4, none⟩ = some (.slice aoa' dk.e.kids.len capa') := ⟨(gd 0).trans hS2.1, (gd 1).trans hS2.2.1, (gd 2).trans hS2.2.2.1, (gd 3).trans hS2.2.2.2.1, (gd 4).trans hS2.2.2.2.2⟩
          have gz : ∀ u i, (w4.setCell ⟨w.heap.size + 2, 0, none⟩ u).cell? ⟨wr.heap.size, i, none⟩ = w4.cell? ⟨wr.heap.size, i, none⟩ := fun u i => World.cell?_setCell_other _ _ _ _ (by simp <;> omega)
          refine hK.out _ _ hS4 ?_
          clear hK K
          intro hSw
          refine wpAnyH_take (i := 12) (v := ?v4) rfl (by kernel_rfl) (by kernel_rfl) (by kernel_rfl) (fun _ _ _ h => h) (Or.inl ⟨by rfl, ?hy4⟩) (by assumption) ?_
          case hy4 => (intro w' hS'; (try dsimp only at hS'); go_simp; try with_reducible rfl)
          refine wpAnyH_ready (rs := [13]) (by kernel_rfl) (by simp) ?_
          refine AllReadyH.cons rfl (fun K hK => ?_) AllReadyH.nil
          go_simp
          refine hK.out _ _ ⟨(gz _ 0).trans hS4.1, (gz _ 1).trans hS4.2.1, (gz _ 2).trans hS4.2.2.1, (gz _ 3).trans hS4.2.2.2.1, (gz _ 4).trans hS4.2.2.2.2⟩ ?_
          clear hK K
          intro hSw
          refine wpAnyH_done (by kernel_rfl) ?_ _
          have bt5 : But (w.heap.size + 2) W (w4.setCell ⟨w.heap.size + 2, 0, none⟩ (.slice ao4 (k + 1) cap4)) := bt4.setCell (.inl rfl) _
          have own5 := (owns_setCell (a := ⟨w.heap.size + 2, 0, none⟩) own4 (by show w.heap.size + 2 < w.heap.size + 3; omega) : (w4.setCell ⟨w.heap.size + 2, 0, none⟩ (.slice ao4 (k + 1) cap4)).ownsRow _ _ _ _ _ _)
          have z4' : w2.heap.size + 1 ≤ w4.heap.size := by simpa using z4
          have fc5 : DC (w4.setCell ⟨w.heap.size + 2, 0, none⟩ (.slice ao4 (k + 1) cap4)) (fun q => w.heap.size + 3 ≤ q ∧ (Value.slice ao4 (k + 1) cap4).ownBlock ≠ some q) (xs ++ [.string dk.nm, .int .i64 dk.at_, .int .i64 dk.e.op, .string dk.e.nm, .slice ao2 dk.e.kids.len cap2]) (ds.take k ++ [dk]) := by
            refine DC_step (w1 := w2) (g := w2.heap.size + 1) (x := dk) hfc (hu2.mono fun q o v hq h => ⟨by have : U.heap.size ≤ q := hq; omega, h⟩) (by omega) (by omega) ?_ ?_ (fun q e => (hvl q e).2) (by omega) (by simpa using hat)
            · have kk1 : Kp (fun q => w.heap.size + 3 ≤ q ∧ (Value.slice aov k capv).ownBlock ≠ some q) wr w2 := ⟨by omega, fun q hq _ => (hb2.block q (by show q < U.heap.size; omega)).trans (hUb.block q hq)⟩
              exact Kp.setCell ((kk1.alloc _).grown grow4 (fun q e => .inl fun hs => hs.2 e)) (.inl fun hs => by have := hs.1; simp at this) _
            · exact Kp.setCell (((Kp.refl _ w2).alloc _).grown grow4 (fun q e => .inl fun hs => by have := (hvl q e).2; omega)) (.inl fun hs => by simp at hs <;> omega) _
          have p2 : (w4.setCell ⟨w.heap.size + 2, 0, none⟩ (.slice ao4 (k + 1) cap4)).cell? ⟨w.heap.size + 2, 0, none⟩ = some (.slice ao4 (k + 1) cap4) := World.cell?_setCell_same _ _ _ f42
          have pf : ∀ i, (w4.setCell ⟨w.heap.size + 2, 0, none⟩ (.slice ao4 (k + 1) cap4)).frozen? ⟨w.heap.size + 2, i, none⟩ = false := fun i => by simp [f4f i]
          obtain ⟨Z, hZ⟩ : ∃ Z, Z = w4.setCell ⟨w.heap.size + 2, 0, none⟩ (.slice ao4 (k + 1) cap4) := ⟨_, rfl⟩
          rw [← hZ] at bt5 own5 fc5 p2 pf
          rw [← hZ]
          clear hZ bt4 own4 f42 f4f hS4 hS3 hS2 hSw gz gd gk
          go_wp2_with fail
          go_roundw
          case rel => exact ⟨k + 1, _, _, by omega, by go_num, own5, by rw [HTK.out]; exact fc5, p2, pf, bt5⟩
          case measure => simp [intOf]; omega
        · go_simp
          refine hK.out _ _ hS3 ?_
          clear hK K
          intro hSw
          refine wpAnyH_ready (rs := [1]) (by kernel_rfl) (by simp) ?_
          refine AllReadyH.cons rfl (fun K hK => ?_) AllReadyH.nil
          go_simp
          refine hK.out _ _ hSw ?_
          clear hK K
          intro hSw
          refine wpAnyH_ready (rs := [11]) (by kernel_rfl) (by simp) ?_
          refine AllReadyH.cons rfl (fun K hK => ?_) AllReadyH.nil
          refine step_own rfl (.tmp 19) (.tmp 28) 40 rfl (w.heap.size + 3) 66 i0 (.agg #[.string ⟨#[]⟩, .int .i64 0, .int .i64 0, .string ⟨#[]⟩, .slice none 0 0]) 5 72 Try.underlying40 hi iz0 iz1 iz2 rfl (by decide) (.slice aov k capv) k xs (by simp [Act.eval]) own3 ⟨w2.heap.size, 0, none⟩ 1 1 [.string dk.nm, .int .i64 dk.at_, .int .i64 dk.e.op, .string dk.e.nm, .slice ao2 dk.e.kids.len cap2] (by simp [Act.eval]) rfl (cell5_new w2 _ _ _ _ _ _) (oneD _ _ _ _ _ _ _) (by unfold maxLen; omega) (by omega) (by simp; omega) ?_
          intro v' w4 own4 grow4 hat
          have bt4 : But (w.heap.size + 2) W w4 := bt3.grown grow4 (fun q e => by have := (hvl q e).1; omega)
          have z4 := grow4.size
          have gk : ∀ q, q < w2.heap.size → (q < w.heap.size + 3 ∨ wr.heap.size ≤ q) → w4.heap[q]? = w2.heap[q]? := fun q h1 h2 => by
            rw [grow4.block q (by simp; omega) (fun e => by have := hvl q e.symm; omega)]; exact (al1 w2 _).block q h1
          have f42 : w4.cell? ⟨w.heap.size + 2, 0, none⟩ = some (.slice aov k capv) := (World.cell?_of_block (a := ⟨w.heap.size + 2, 0, none⟩) (gk (w.heap.size + 2) (lt_of_cell f2) (.inl (by omega)))).trans f2
          have f4f : ∀ i, w4.frozen? ⟨w.heap.size + 2, i, none⟩ = false := fun i => (World.frozen?_of_block (a := ⟨w.heap.size + 2, i, none⟩) (gk (w.heap.size + 2) (lt_of_cell f2) (.inl (by omega)))).trans (ff i)
          have gd : ∀ i, w4.cell? ⟨wr.heap.size, i, none⟩ = w2.cell? ⟨wr.heap.size, i, none⟩ := fun i => World.cell?_of_block (a := ⟨wr.heap.size, i, none⟩) (gk wr.heap.size (by omega) (.inr (Nat.le_refl _)))
          obtain ⟨ao4, cap4, rfl⟩ := owns_slice own4
          have hS4 : w4.cell? ⟨wr.heap.size, 0, none⟩ = some (.string dk.nm) ∧ w4.cell? ⟨wr.heap.size, 1, none⟩ = some (.int .i64 dk.at_) ∧ w4.cell? ⟨wr.heap.size, 2, none⟩ = some (.int .i64 dk.e.op) ∧ w4.cell? ⟨wr.heap.size, 3, none⟩ = some (.string dk.e.nm) ∧ w4.cell? ⟨wr.heap.size, 4, none⟩ = some (.slice aoa' dk.e.kids.len capa') := ⟨(gd 0).trans hS2.1, (gd 1).trans hS2.2.1, (gd 2).trans hS2.2.2.1, (gd 3).trans hS2.2.2.2.1, (gd 4).trans hS2.2.2.2.2⟩
          have gz : ∀ u i, (w4.setCell ⟨w.heap.size + 2, 0, none⟩ u).cell? ⟨wr.heap.size, i, none⟩ = w4.cell? ⟨wr.heap.size, i, none⟩ := fun u i => World.cell?_setCell_other _ _ _ _ (by simp <;> omega)
          refine hK.out _ _ hS4 ?_
          clear hK K
          intro hSw
          refine wpAnyH_take (i := 12) (v := ?v5) rfl (by kernel_rfl) (by kernel_rfl) (by kernel_rfl) (fun _ _ _ h => h) (Or.inl ⟨by rfl, ?hy5⟩) (by assumption) ?_
          case hy5 => (intro w' hS'; (try dsimp only at hS'); go_simp; try with_reducible rfl)
          refine wpAnyH_ready (rs := [13]) (by kernel_rfl) (by simp) ?_
          refine AllReadyH.cons rfl (fun K hK => ?_) AllReadyH.nil
          go_simp
          refine hK.out _ _ ⟨(gz _ 0).trans hS4.1, (gz _ 1).trans hS4.2.1, (gz _ 2).trans hS4.2.2.1, (gz _ 3).trans hS4.2.2.2.1, (gz _ 4).trans hS4.2.2.2.2⟩ ?_
          clear hK K
          intro hSw
          refine wpAnyH_done (by kernel_rfl) ?_ _
          have bt5 : But (w.heap.size + 2) W (w4.setCell ⟨w.heap.size + 2, 0, none⟩ (.slice ao4 (k + 1) cap4)) := bt4.setCell (.inl rfl) _
          have own5 := (owns_setCell (a := ⟨w.heap.size + 2, 0, none⟩) own4 (by show w.heap.size + 2 < w.heap.size + 3; omega) : (w4.setCell ⟨w.heap.size + 2, 0, none⟩ (.slice ao4 (k + 1) cap4)).ownsRow _ _ _ _ _ _)
          have z4' : w2.heap.size + 1 ≤ w4.heap.size := by simpa using z4
          have fc5 : DC (w4.setCell ⟨w.heap.size + 2, 0, none⟩ (.slice ao4 (k + 1) cap4)) (fun q => w.heap.size + 3 ≤ q ∧ (Value.slice ao4 (k + 1) cap4).ownBlock ≠ some q) (xs ++ [.string dk.nm, .int .i64 dk.at_, .int .i64 dk.e.op, .string dk.e.nm, .slice ao2 dk.e.kids.len cap2]) (ds.take k ++ [dk]) := by
            refine DC_step (w1 := w2) (g := w2.heap.size + 1) (x := dk) hfc (hu2.mono fun q o v hq h => ⟨by have : U.heap.size ≤ q := hq; omega, h⟩) (by omega) (by omega) ?_ ?_ (fun q e => (hvl q e).2) (by omega) (by simpa using hat)
            · have kk1 : Kp (fun q => w.heap.size + 3 ≤ q ∧ (Value.slice aov k capv).ownBlock ≠ some q) wr w2 := ⟨by omega, fun q hq _ => (hb2.block q (by show q < U.heap.size; omega)).trans (hUb.block q hq)⟩
              exact Kp.setCell ((kk1.alloc _).grown grow4 (fun q e => .inl fun hs => hs.2 e)) (.inl fun hs => by have := hs.1; simp at this) _
            · exact Kp.setCell (((Kp.refl _ w2).alloc _).grown grow4 (fun q e => .inl fun hs => by have := (hvl q e).2; omega)) (.inl fun hs => by simp at hs <;> omega) _
          have p2 : (w4.setCell ⟨w.heap.size + 2, 0, none⟩ (.slice ao4 (k + 1) cap4)).cell? ⟨w.heap.size + 2, 0, none⟩ = some (.slice ao4 (k + 1) cap4) := World.cell?_setCell_same _ _ _ f42
          have pf : ∀ i, (w4.setCell ⟨w.heap.size + 2, 0, none⟩ (.slice ao4 (k + 1) cap4)).frozen? ⟨w.heap.size + 2, i, none⟩ = false := fun i => by simp [f4f i]
          obtain ⟨Z, hZ⟩ : ∃ Z, Z = w4.setCell ⟨w.heap.size + 2, 0, none⟩ (.slice ao4 (k + 1) cap4) := ⟨_, rfl⟩
          rw [← hZ] at bt5 own5 fc5 p2 pf
          rw [← hZ]
          clear hZ bt4 own4 f42 f4f hS4 hS3 hS2 hSw gz gd gk
          go_wp2_with fail
          go_roundw
          case rel => exact ⟨k + 1, _, _, by omega, by go_num, own5, by rw [HTK.out]; exact fc5, p2, pf, bt5⟩
          case measure => simp [intOf]; omega
    · have hke : k = ds.length := by omega
      rw [List.take_of_length_le (by omega)] at hfc
      have hfv := DsV_owned (T := fun q => w.heap.size + 3 ≤ q) (f := ds) (by rw [← hke]; exact hown) hfc (fun _ h => h.1) (fun _ h => h) (by omega)
      obtain ⟨aov, capv, rfl⟩ := owns_slice hown
      have r0 : wr.cell? ⟨w.heap.size + 1, 0, none⟩ = some (.slice none 0 0) := by rw [hbt.cell (by omega) (by omega)]; exact hWr0
      have rf : ∀ i, wr.frozen? ⟨w.heap.size + 1, i, none⟩ = false := fun i => by rw [hbt.frozen (by omega) (by omega)]; exact hWrf i
      have HKE := hd hke
      clear hke hown hfc
      go_wp2_with fail
      refine bodyPost_ret (v := .agg #[.slice aov k capv]) (by simp [results, Try.results21, go_sem, r0]) rfl ⟨_, rfl, ?_, ?_⟩
      · refine hfv.kp ((Kp.refl _ wr).setCell (.inl ?_) _) (fun q _ h => by omega)
        simp
      · exact bel.setCell (p := ⟨w.heap.size + 1, 0, none⟩) (Nat.le_succ _) _
end Go.Proofs.Ytcanphhmflbdmac

/- Two texts that are the same, with their places: the document's way. -/
namespace Go.Proofs.Ytcanphhmflbdmac
open Go.RowKit
set_option maxRecDepth 100000 in
set_option maxHeartbeats 4000000 in
theorem same_ref_true (ds : List Df) (va vb : Value) (w : World) (hx : DsV w All va ds) (hy : DsV w All vb ds) :
    Calls Try.prog 24 #[.agg #[va], .agg #[vb], .bool true] w fun e w' => e = .returned (.bool true) ∧ Below w.heap.size w w' := by
  obtain ⟨hl, aoa, capa, rfl, hin⟩ := hx
  obtain ⟨hl', aob, capb, rfl, hin'⟩ := hy
  obtain ⟨W, hW⟩ : ∃ W, W = (w.alloc (.cells #[.slice aoa ds.length capa] 42)).alloc (.cells #[.slice aob ds.length capb] 42) := ⟨_, rfl⟩
  have hWz : W.heap.size = w.heap.size + 2 := by rw [hW]; simp
  have hWb : Below w.heap.size w W := by rw [hW]; exact ((Below.refl _ _).alloc (Nat.le_refl _) _).alloc (by simp) _
  have hWc : W.cell? ⟨w.heap.size, 0, none⟩ = some (.slice aoa ds.length capa) ∧ W.cell? ⟨w.heap.size + 1, 0, none⟩ = some (.slice aob ds.length capb) := by rw [hW]; exact ⟨by simp, by simp⟩
  go_enter Try.func24, Try.ntmps24
  go_wp2_with fail
  rw [← hW]
  have HW := hd hW
  clear hW
  go_loopw [7] (fun i wr => ∃ k : Nat, k ≤ ds.length ∧ i = .int .i64 k ∧ Below W.heap.size W wr ∧ True) (fun i _ => ds.length - (intOf i).toNat)
  case atStart => exact ⟨0, Nat.zero_le _, rfl, Below.refl _ _, trivial⟩
  case round =>
    obtain ⟨k, hk, rfl, hb, hall⟩ := hrel
    have hz := hb.size
    have bel : Below w.heap.size w wr := hWb.trans (hb.mono (by omega))
    have s1 : wr.cell? ⟨w.heap.size, 0, none⟩ = some (.slice aoa ds.length capa) := by rw [hb.cell (p := ⟨w.heap.size, 0, none⟩) (by simp; omega)]; exact hWc.1
    have s2 : wr.cell? ⟨w.heap.size + 1, 0, none⟩ = some (.slice aob ds.length capb) := by rw [hb.cell (p := ⟨w.heap.size + 1, 0, none⟩) (by simp; omega)]; exact hWc.2
    by_cases hlt : k < ds.length
    · obtain h0 | ⟨ba, oa, rfl, hia⟩ := hin
      · omega
      obtain h0 | ⟨bb, ob, rfl, hib⟩ := hin'
      · omega
      have hltd := hlt
      have kA : ∀ b o v, All b → w.cell? ⟨b, o, none⟩ = some v → All b ∧ wr.cell? ⟨b, o, none⟩ = some v := keep_cell (fun _ _ h => h) (Kp.of_below bel).block
      obtain ⟨an, aa, ax⟩ := (hia.mono kA).at_ k hltd
      obtain ⟨cn, ca, cx⟩ := (hib.mono kA).at_ k hlt
      obtain ⟨ua, a0, a1, a2, hxa⟩ := ax.xv
      obtain ⟨ub, c0, c1, c2, hxb⟩ := cx.xv
      have hxa' := hxa
      have hxb' := hxb
      obtain ⟨_, e, _, aoa', capa', rfl, _⟩ := hxa'
      simp at e; subst e
      obtain ⟨_, e, _, aob', capb', rfl, _⟩ := hxb'
      simp at e; subst e
      generalize ds[k] = dk at *
      have IHk := rmE_any dk.e dk.e
      rw [decide_eq_true rfl] at IHk
      have lba := lt_of_cell a0
      have lbb := lt_of_cell c0
      have lba' : ba < wr.heap.size + 1 := by omega
      have lbb' : bb < wr.heap.size + 1 := by omega
      have lw : w.heap.size < wr.heap.size := by omega
      have lw' : w.heap.size < wr.heap.size + 1 := by omega
      have lv : w.heap.size + 1 < wr.heap.size := by omega
      have lv' : w.heap.size + 1 < wr.heap.size + 1 := by omega
      go_wp2_with fail
      go_region
      all_goals
        go_wp2_with fail
        refine (IHk _ _ _ (hxa.below (((Below.refl _ _).alloc (Nat.le_refl _) _).alloc (by simp) _).drew) (hxb.below (((Below.refl _ _).alloc (Nat.le_refl _) _).alloc (by simp) _).drew)).mono ?_
        rintro e w2 ⟨rfl, hb2⟩
        go_wp2_with fail
        go_roundw
        case rel => exact ⟨k + 1, by omega, by go_num, (Below.drew ((hb.alloc (by omega) _).alloc (by simp; omega) _)).trans (hb2.mono (by simp; omega)), trivial⟩
        case measure => simp [intOf]; omega
    · go_wp2_with fail
      go_ret
      exact ⟨rfl, bel⟩
end Go.Proofs.Ytcanphhmflbdmac

/- Worlds one behind the other, in a region that draws its order. -/
namespace Go.Proofs.Ytcanphhmflbdmac
open Go.RowKit
theorem DsV.lw {w w' : World} {v : Value} {x : List Df} (h : DsV w All v x) (hb : Below w.heap.size w w') : DsV w' All v x := h.kp (Kp.of_below hb) (fun _ _ h => h)
end Go.Proofs.Ytcanphhmflbdmac

/- What is wrong with a grammar, in the document's way. -/
namespace Go.Proofs.Ytcanphhmflbdmac.G
open Go.RowKit
theorem gFl_no {g : Gm} (h : ¬ (1 ≤ g.vars ∧ g.vars ≤ 64 ∧ 0 ≤ g.terms ∧ g.terms ≤ 16 ∧ 0 ≤ g.start ∧ g.start < g.vars)) : gFl g = (9, -1) := by
  unfold gFl szB; rw [if_neg (by simpa using h)]
theorem gFl_many {g : Gm} (h : 1 ≤ g.vars ∧ g.vars ≤ 64 ∧ 0 ≤ g.terms ∧ g.terms ≤ 16 ∧ 0 ≤ g.start ∧ g.start < g.vars) (h1 : 160 < g.rules.length) : gFl g = (6, -1) := by
  unfold gFl szB; rw [if_pos (by simpa using h), if_pos h1]
theorem gFl_rest {g : Gm} (h : 1 ≤ g.vars ∧ g.vars ≤ 64 ∧ 0 ≤ g.terms ∧ g.terms ≤ 16 ∧ 0 ≤ g.start ∧ g.start < g.vars) (h1 : ¬ 160 < g.rules.length) : gFl g = rsF g (g.rules.drop 0) 0 := by
  unfold gFl szB; rw [if_pos (by simpa using h), if_neg h1]; rfl
theorem ruF_many {g : Gm} {r : Ru} (h : 10 < r.right.length) : ruF g r = 6 := if_pos h
theorem ruF_left {g : Gm} {r : Ru} (h : ¬ 10 < r.right.length) (h1 : ¬ (0 ≤ r.left ∧ r.left < g.vars)) : ruF g r = 9 := by
  unfold ruF; rw [if_neg h, if_neg (fun h => h1 h.1)]
theorem ruF_sym {g : Gm} {r : Ru} (h : ¬ 10 < r.right.length) {j : Nat} (hj : j < r.right.length) (h1 : ¬ (-g.terms ≤ r.right[j] ∧ r.right[j] < g.vars)) : ruF g r = 9 := by
  unfold ruF; rw [if_neg h, if_neg]
  intro ⟨_, h2⟩
  rw [List.all_eq_true] at h2
  have := h2 _ (List.getElem_mem hj)
  simp [syB] at this
  omega
theorem ruF_ok {g : Gm} {r : Ru} (h : ¬ 10 < r.right.length) (h1 : 0 ≤ r.left ∧ r.left < g.vars) (h2 : ∀ j (h : j < r.right.length), -g.terms ≤ r.right[j] ∧ r.right[j] < g.vars) : ruF g r = 0 := by
  unfold ruF; rw [if_neg h, if_pos]
  refine ⟨h1, ?_⟩
  rw [List.all_eq_true]
  intro x hx
  obtain ⟨j, hj, rfl⟩ := List.mem_iff_getElem.1 hx
  simpa [syB] using h2 j hj
set_option maxRecDepth 100000 in
set_option maxHeartbeats 16000000 in
theorem gramFault_any (g : Gm) (va : Value) (w : World) (ha : GV w All va g) :
    Calls Try.prog 10 #[va] w fun e w' => e = .returned (.agg #[.int .i64 (gFl g).1, .int .i64 (gFl g).2]) ∧ Below w.heap.size w w' := by
  obtain ⟨ua, rfl, ra⟩ := ha
  obtain ⟨ao, cap, rfl⟩ := ra.slice
  have hl := ra.1
  obtain ⟨W, hW⟩ : ∃ W, W = (w.alloc (.cells #[.int .i64 g.vars, .int .i64 g.terms, .int .i64 g.start, .slice ao g.rules.length cap] 24)).alloc (.cells #[.int .i64 0, .int .i64 0] 29) := ⟨_, rfl⟩
  have hWz : W.heap.size = w.heap.size + 2 := by rw [hW]; simp
  have hWb : Below w.heap.size w W := by rw [hW]; exact al2 _ _ _
  have hW0 : W.cell? ⟨w.heap.size, 0, none⟩ = some (.int .i64 g.vars) := by rw [hW]; simp
  have hW1 : W.cell? ⟨w.heap.size, 1, none⟩ = some (.int .i64 g.terms) := by rw [hW]; simp
  have hW3 : W.cell? ⟨w.heap.size, 3, none⟩ = some (.slice ao g.rules.length cap) := by rw [hW]; simp
  have hWr : RB W (w.heap.size + 1) := by rw [hW]; exact ⟨by simp, by simp, fun i => by simp [go_sem]⟩
  by_cases hs : 1 ≤ g.vars ∧ g.vars ≤ 64 ∧ 0 ≤ g.terms ∧ g.terms ≤ 16 ∧ 0 ≤ g.start ∧ g.start < g.vars
  rotate_left
  · rw [gFl_no hs]
    have hs' : (g.vars < 1) ∨ (1 ≤ g.vars ∧ 64 < g.vars) ∨ (1 ≤ g.vars ∧ g.vars ≤ 64 ∧ g.terms < 0) ∨ (1 ≤ g.vars ∧ g.vars ≤ 64 ∧ 0 ≤ g.terms ∧ 16 < g.terms) ∨ (1 ≤ g.vars ∧ g.vars ≤ 64 ∧ 0 ≤ g.terms ∧ g.terms ≤ 16 ∧ g.start < 0) ∨ (1 ≤ g.vars ∧ g.vars ≤ 64 ∧ 0 ≤ g.terms ∧ g.terms ≤ 16 ∧ 0 ≤ g.start ∧ g.vars ≤ g.start) := by omega
    clear hs
    rcases hs' with h1 | ⟨h1, h2⟩ | ⟨h1, h2, h3⟩ | ⟨h1, h2, h3, h4⟩ | ⟨h1, h2, h3, h4, h5⟩ | ⟨h1, h2, h3, h4, h5, h6⟩
    all_goals
      go_enter Try.func10, Try.ntmps10
      go_wp2_with fail
      rw [← hW]
      have HW := hd hW
      clear hW
      refine (rF_any _ _ _).mono ?_
      rintro e wf ⟨rfl, hbf⟩
      have rf := hWr.below hbf
      have q0 := rf.c0
      have q1 := rf.c1
      have qf := rf.fz
      have bf : Below w.heap.size w wf := bthen hWb hbf
      go_wp2_with fail
      refine bodyPost_ret (v := .agg #[.int .i64 9, .int .i64 (-1)]) (by simp [results, Try.results10, go_sem, q0, q1]) rfl ⟨rfl, ?_⟩
      exact (bf.setCell (p := ⟨w.heap.size + 1, 0, none⟩) (Nat.le_succ _) _).setCell (p := ⟨w.heap.size + 1, 1, none⟩) (Nat.le_succ _) _
  have HS := hd hs
  obtain ⟨s1, s2, s3, s4, s5, s6⟩ := hs
  by_cases h16 : 160 < g.rules.length
  · rw [gFl_many HS.out h16]
    go_enter Try.func10, Try.ntmps10
    go_wp2_with fail
    rw [← hW]
    have HW := hd hW
    clear hW
    refine (rF_any _ _ _).mono ?_
    rintro e wf ⟨rfl, hbf⟩
    have rf := hWr.below hbf
    have q0 := rf.c0
    have q1 := rf.c1
    have qf := rf.fz
    have bf : Below w.heap.size w wf := bthen hWb hbf
    go_wp2_with fail
    refine bodyPost_ret (v := .agg #[.int .i64 6, .int .i64 (-1)]) (by simp [results, Try.results10, go_sem, q0, q1]) rfl ⟨rfl, ?_⟩
    exact (bf.setCell (p := ⟨w.heap.size + 1, 0, none⟩) (Nat.le_succ _) _).setCell (p := ⟨w.heap.size + 1, 1, none⟩) (Nat.le_succ _) _
  have HR0 := hd (gFl_rest HS.out h16)
  generalize gFl g = R at *
  go_enter Try.func10, Try.ntmps10
  go_wp2_with fail
  rw [← hW]
  have HW := hd hW
  clear hW
  go_loopw [3] (fun i wr => ∃ k : Nat, k ≤ g.rules.length ∧ i = .int .i64 k ∧ Hid (R = rsF g (g.rules.drop k) k) ∧ Below W.heap.size W wr) (fun i _ => g.rules.length - (intOf i).toNat)
  case atStart => exact ⟨0, Nat.zero_le _, rfl, HR0, Below.refl _ _⟩
  case round =>
    obtain ⟨k, hk, rfl, hR, hb⟩ := hrel
    have bel : Below w.heap.size w wr := bthen hWb hb
    have t0 := bkeep hb hW0
    have t1 := bkeep hb hW1
    have t3 := bkeep hb hW3
    have tr := hWr.below hb
    by_cases hlt : k < g.rules.length
    · obtain ⟨b, o, rfl, c0, ar, cr, c1, hc⟩ := (ra.lw bel).at_ hlt
      have HR1 : Hid (R = if ruF g g.rules[k] = 0 then rsF g (g.rules.drop (k + 1)) (k + 1) else (ruF g g.rules[k], (k : Int))) := hd (by rw [hR.out, rsF_at hlt])
      clear hR
      generalize g.rules[k] = x at *
      have hxl := hc.1
      obtain ⟨V, hV⟩ : ∃ V, V = wr.alloc (.cells #[.int .i64 x.left, .slice ar x.right.length cr] 37) := ⟨_, rfl⟩
      have hVb : Below wr.heap.size wr V := by rw [hV]; exact al1 _ _
      have hV0 : V.cell? ⟨wr.heap.size, 0, none⟩ = some (.int .i64 x.left) := by rw [hV]; simp
      have hV1 : V.cell? ⟨wr.heap.size, 1, none⟩ = some (.slice ar x.right.length cr) := by rw [hV]; simp
      have belV : Below w.heap.size w V := bthen bel hVb
      have tV := tr.below hVb
      have a0 := alcell t0 (.cells #[.int .i64 x.left, .slice ar x.right.length cr] 37)
      have u0 := bkeep hVb t0
      have u1 := bkeep hVb t1
      have cV := hc.lw hVb
      by_cases h10 : 10 < x.right.length
      · have hRx : R = (6, (k : Int)) := by rw [HR1.out, ruF_many h10]; rfl
        subst hRx
        go_wp2_with fail
        rw [← hV]
        have HV := hd hV
        clear hV
        refine (rF_any _ _ _).mono ?_
        rintro e wf ⟨rfl, hbf⟩
        have rf := tV.below hbf
        have q0 := rf.c0
        have q1 := rf.c1
        have qf := rf.fz
        have bf : Below w.heap.size w wf := bthen belV hbf
        go_wp2_with fail
        refine bodyPost_ret (v := .agg #[.int .i64 6, .int .i64 k]) (by simp [results, Try.results10, go_sem, q0, q1]) rfl ⟨rfl, ?_⟩
        exact (bf.setCell (p := ⟨w.heap.size + 1, 0, none⟩) (Nat.le_succ _) _).setCell (p := ⟨w.heap.size + 1, 1, none⟩) (Nat.le_succ _) _
      by_cases hL : 0 ≤ x.left ∧ x.left < g.vars
      rotate_left
      · have hRx : R = (9, (k : Int)) := by rw [HR1.out, ruF_left h10 hL]; rfl
        subst hRx
        have hL' : x.left < 0 ∨ (0 ≤ x.left ∧ g.vars ≤ x.left) := by omega
        clear hL
        rcases hL' with hL | ⟨hL, hL1⟩
        all_goals
          go_wp2_with fail
          rw [← hV]
          have HV := hd hV
          clear hV
          refine (rF_any _ _ _).mono ?_
          rintro e wf ⟨rfl, hbf⟩
          have rf := tV.below hbf
          have q0 := rf.c0
          have q1 := rf.c1
          have qf := rf.fz
          have bf : Below w.heap.size w wf := bthen belV hbf
          go_wp2_with fail
          refine bodyPost_ret (v := .agg #[.int .i64 9, .int .i64 k]) (by simp [results, Try.results10, go_sem, q0, q1]) rfl ⟨rfl, ?_⟩
          exact (bf.setCell (p := ⟨w.heap.size + 1, 0, none⟩) (Nat.le_succ _) _).setCell (p := ⟨w.heap.size + 1, 1, none⟩) (Nat.le_succ _) _
      obtain ⟨hL0, hL1⟩ := hL
      go_wp2_with fail
      rw [← hV]
      have HV := hd hV
      clear hV
      go_loopw [5] (fun i wj => ∃ j : Nat, j ≤ x.right.length ∧ i = .int .i64 j ∧ Hid (∀ q (h : q < x.right.length), q < j → -g.terms ≤ x.right[q] ∧ x.right[q] < g.vars) ∧ Below V.heap.size V wj) (fun i _ => x.right.length - (intOf i).toNat)
      case atStart => exact ⟨0, Nat.zero_le _, rfl, hd (fun q _ hq => absurd hq (Nat.not_lt_zero _)), Below.refl _ _⟩
      case round =>
        rename World => wj
        obtain ⟨j, hj, rfl, hall, hbj⟩ := hrel
        have v0 := bkeep hbj u0
        have v1 := bkeep hbj u1
        have y0 := bkeep hbj hV0
        have y1 := bkeep hbj hV1
        by_cases hjl : j < x.right.length
        · obtain ⟨br, or', rfl, z0⟩ := (cV.lw hbj).at_ hjl
          have HN := hd (ruF_sym h10 (g := g) hjl)
          have HY : Hid (-g.terms ≤ x.right[j] ∧ x.right[j] < g.vars → ∀ q (h : q < x.right.length), q < j + 1 → -g.terms ≤ x.right[q] ∧ x.right[q] < g.vars) := hd (fun e q h hq => by
            by_cases eq : q = j
            · subst eq; exact e
            · exact hall.out q h (by omega))
          generalize x.right[j] = s at *
          have r0 := fun z : Wd wj => z.cell v0
          have r1 := fun z : Wd wj => z.cell v1
          have p0 := fun z : Wd wj => z.cell y0
          have p1 := fun z : Wd wj => z.cell y1
          have e0 := fun z : Wd wj => z.cell z0
          have wne : Nonempty (Wd wj) := Wd.ne _
          have HJL := hd hjl
          by_cases hok : -g.terms ≤ s ∧ s < g.vars
          · have HY' := hd (HY.out hok)
            obtain ⟨k1, k2⟩ := hok
            have g1 : decide (s < -g.terms) = false := by simpa using k1
            have g2 : decide (g.vars ≤ s) = false := by simpa using k2
            go_wp2_with fail
            refine region_quiet_lit (C := fun w' => ∃ z : Wd wj, w' = z.u) (by kernel_rfl) (by kernel_rfl) (Wd.drawn _) ?_
            iterate 19 (go_big_quiet_step (fail))
            refine wpQuiet_nil ?_
            intro _ hw'
            obtain ⟨z, hw''⟩ := hw'
            subst hw''
            have bz := bthen hbj z.h
            go_wp2_with fail
            go_roundw
            case rel => exact ⟨j + 1, by omega, by go_num, HY', bz⟩
            case measure => simp [intOf]; omega
          · have hRx : R = (9, (k : Int)) := by rw [HR1.out, HN.out hok]; rfl
            subst hRx
            have hok' : s < -g.terms ∨ (-g.terms ≤ s ∧ g.vars ≤ s) := by omega
            clear hok
            rcases hok' with k1 | ⟨k1, k2⟩
            · have g1 : decide (s < -g.terms) = true := by simpa using k1
              go_wp2_with fail
              refine region_quiet_lit (C := fun w' => ∃ z : Wd wj, w' = z.u) (by kernel_rfl) (by kernel_rfl) (Wd.drawn _) ?_
              iterate 19 (go_big_quiet_step (fail))
              refine wpQuiet_nil ?_
              intro _ hw'
              obtain ⟨z, hw''⟩ := hw'
              subst hw''
              have bz := bthen belV (bthen hbj z.h)
              have tz := (tV.below hbj).below z.h
              go_wp2_with fail
              refine (rF_any _ _ _).mono ?_
              rintro e wf ⟨rfl, hbf⟩
              have rf := tz.below hbf
              have q0 := rf.c0
              have q1 := rf.c1
              have qf := rf.fz
              have bf : Below w.heap.size w wf := bthen bz hbf
              go_wp2_with fail
              refine bodyPost_ret (v := .agg #[.int .i64 9, .int .i64 k]) (by simp [results, Try.results10, go_sem, q0, q1]) rfl ⟨rfl, ?_⟩
              exact (bf.setCell (p := ⟨w.heap.size + 1, 0, none⟩) (Nat.le_succ _) _).setCell (p := ⟨w.heap.size + 1, 1, none⟩) (Nat.le_succ _) _
            · have g1 : decide (s < -g.terms) = false := by simpa using k1
              have g2 : decide (g.vars ≤ s) = true := by simpa using k2
              go_wp2_with fail
              refine region_quiet_lit (C := fun w' => ∃ z : Wd wj, w' = z.u) (by kernel_rfl) (by kernel_rfl) (Wd.drawn _) ?_
              iterate 19 (go_big_quiet_step (fail))
              refine wpQuiet_nil ?_
              intro _ hw'
              obtain ⟨z, hw''⟩ := hw'
              subst hw''
              have bz := bthen belV (bthen hbj z.h)
              have tz := (tV.below hbj).below z.h
              go_wp2_with fail
              refine (rF_any _ _ _).mono ?_
              rintro e wf ⟨rfl, hbf⟩
              have rf := tz.below hbf
              have q0 := rf.c0
              have q1 := rf.c1
              have qf := rf.fz
              have bf : Below w.heap.size w wf := bthen bz hbf
              go_wp2_with fail
              refine bodyPost_ret (v := .agg #[.int .i64 9, .int .i64 k]) (by simp [results, Try.results10, go_sem, q0, q1]) rfl ⟨rfl, ?_⟩
              exact (bf.setCell (p := ⟨w.heap.size + 1, 0, none⟩) (Nat.le_succ _) _).setCell (p := ⟨w.heap.size + 1, 1, none⟩) (Nat.le_succ _) _
        · have HR2 : Hid (R = rsF g (g.rules.drop (k + 1)) (k + 1)) := hd (by rw [HR1.out, if_pos (ruF_ok h10 ⟨hL0, hL1⟩ (fun q h => hall.out q h (by omega)))])
          have bz := bthen hb (bthen hVb hbj)
          go_wp2_with fail
          go_roundw
          case rel => exact ⟨k + 1, by omega, by go_num, HR2, bz⟩
          case measure => simp [intOf]; omega
    · have hRx : R = (0, 0) := by rw [hR.out, rsF_end (by omega)]
      subst hRx
      have q0 := tr.c0
      have q1 := tr.c1
      have qf := tr.fz
      go_wp2_with fail
      refine bodyPost_ret (v := .agg #[.int .i64 0, .int .i64 0]) (by simp [results, Try.results10, go_sem, q0, q1]) rfl ⟨rfl, ?_⟩
      exact (bel.setCell (p := ⟨w.heap.size + 1, 0, none⟩) (Nat.le_succ _) _).setCell (p := ⟨w.heap.size + 1, 1, none⟩) (Nat.le_succ _) _
end Go.Proofs.Ytcanphhmflbdmac.G
