/- The document's own copy of a text. -/
import Derived.Test.YtdikjhfnmkejcabOw
import Derived.Deep.RegionHeldLaw
namespace Go.Proofs.Ytdikjhfnmkejcab
open Go.RowKit
theorem take_next {ds : List Df} {k : Nat} (h : k < ds.length) : ds.take (k + 1) = ds.take k ++ [ds[k]] := by simp
set_option maxRecDepth 100000 in
set_option maxHeartbeats 16000000 in
theorem ownT_any (ds : List Df) (va : Value) (w : World) (hx : DsV w All va ds) (hd60 : ds.length ≤ 60) (hs : ∀ d ∈ ds, d.e.sz ≤ 3000) :
    Calls Try.prog 13 #[.agg #[va]] w fun e w' => ∃ v, e = .returned (.agg #[v]) ∧ DsV w' (fun k => w.heap.size ≤ k) v ds ∧ Below w.heap.size w w' := by
  obtain ⟨i0, hi, iz0, iz1, iz2⟩ := info_parts Try.infoDef
  obtain ⟨hl, ao, cap, rfl, hin⟩ := hx
  obtain ⟨V, hV⟩ : ∃ V, V = (w.alloc (.cells #[.slice ao ds.length cap] 24)).alloc (.cells #[.slice none 0 0] 24) := ⟨_, rfl⟩
  have hVz : V.heap.size = w.heap.size + 2 := by rw [hV]; simp
  obtain ⟨W, hW⟩ : ∃ W, W = V.alloc (.cells #[.slice none 0 0] 24) := ⟨_, rfl⟩
  have hVW : Below V.heap.size V W := by rw [hW]; exact al1 _ _
  have hWz : W.heap.size = w.heap.size + 3 := by rw [hW]; simp; omega
  have hVb : Below w.heap.size w V := by rw [hV]; exact al2 _ _ _
  have hWb : Below w.heap.size w W := hVb.trans (hVW.mono (by omega))
  have hW2 : W.cell? ⟨w.heap.size, 0, none⟩ = some (.slice ao ds.length cap) := bkeep hVW (by rw [hV]; simp)
  have hWr0 : W.cell? ⟨w.heap.size + 1, 0, none⟩ = some (.slice none 0 0) := bkeep hVW (by rw [hV]; simp)
  have hWrf : ∀ i, W.frozen? ⟨w.heap.size + 1, i, none⟩ = false := fun i => by
    rw [World.frozen?_of_block (w := V) (a := ⟨w.heap.size + 1, i, none⟩) (hVW.block (w.heap.size + 1) (by omega)), hV]; simp [go_sem]
  have hWo : W.cell? ⟨w.heap.size + 2, 0, none⟩ = (V.alloc (.cells #[.slice none 0 0] 24)).cell? ⟨V.heap.size, 0, none⟩ := by rw [hW, hVz]
  have hWo0 : W.cell? ⟨w.heap.size + 2, 0, none⟩ = some (.slice none 0 0) := by rw [hWo]; simp
  have hWof : ∀ i, W.frozen? ⟨w.heap.size + 2, i, none⟩ = false := fun i => by rw [hW, ← hVz]; simp [go_sem]
  clear hWo
  go_enter Try.func13, Try.ntmps13
  go_wp2_with fail
  rw [← hV, ← hW]
  have HW := hd hW
  have HV := hd hV
  have HS := hd hs
  clear hW hV hs
  go_loopw [4] (fun i wr => ∃ (k : Nat) (v : Value) (xs : List Value), k ≤ ds.length ∧ i = .int .i64 k ∧ wr.ownsRow (w.heap.size + 3) 50 5 v k xs ∧ DC wr (fun q => w.heap.size + 3 ≤ q ∧ v.ownBlock ≠ some q) xs (ds.take k) ∧
    wr.cell? ⟨w.heap.size + 2, 0, none⟩ = some v ∧ (∀ i, wr.frozen? ⟨w.heap.size + 2, i, none⟩ = false) ∧ But (w.heap.size + 2) W wr) (fun i _ => ds.length - (intOf i).toNat)
  case atStart => exact ⟨0, .slice none 0 0, [], Nat.zero_le _, rfl, World.ownsRow_nil _ _ _ _, trivial, hWo0, hWof, But.refl _ _⟩
  case round =>
    obtain ⟨k, v, xs, hk, rfl, hown, hfc, o2, hof, hbt⟩ := hrel
    have hz := hbt.size
    have bel : Below w.heap.size w wr := hWb.trans (hbt.below (by omega) (by omega))
    have s2 : wr.cell? ⟨w.heap.size, 0, none⟩ = some (.slice ao ds.length cap) := by rw [hbt.cell (by omega) (by omega)]; exact hW2
    by_cases hlt : k < ds.length
    · obtain h0 | ⟨ba, oa, rfl, hia⟩ := hin
      · omega
      have kA : ∀ b o v, All b → w.cell? ⟨b, o, none⟩ = some v → All b ∧ wr.cell? ⟨b, o, none⟩ = some v := keep_cell (fun _ _ h => h) (Kp.of_below bel).block
      obtain ⟨an, aa, ax⟩ := (hia.mono kA).at_ k hlt
      obtain ⟨ua, a0, a1, a2, hxa⟩ := ax.xv
      have hxa' := hxa
      obtain ⟨_, e, _, aoa', capa', rfl, _⟩ := hxa'
      simp at e; subst e
      have hds := HS.out ds[k] (List.getElem_mem hlt)
      have HTK := hd (take_next hlt)
      have HLT := hd hlt
      generalize ds[k] = dk at *
      have IH := fun w hx => ow_any dk.e (.agg #[.int .i64 dk.e.op, .string dk.e.nm, .slice aoa' dk.e.kids.len capa']) w hx hds
      have hvl : ∀ q, v.ownBlock = some q → w.heap.size + 3 ≤ q ∧ q < wr.heap.size := fun q e => hown.lt q e
      obtain ⟨aov, capv, rfl⟩ := owns_slice hown
      obtain ⟨U, hU⟩ : ∃ U, U = wr.alloc (.cells #[.string dk.nm, .int .i64 dk.at_, .int .i64 dk.e.op, .string dk.e.nm, .slice aoa' dk.e.kids.len capa'] 50) := ⟨_, rfl⟩
      have hUb : Below wr.heap.size wr U := by rw [hU]; exact al1 _ _
      have hUz : U.heap.size = wr.heap.size + 1 := by rw [hU]; simp
      have uby : By U wr.heap.size dk aoa' capa' := by rw [hU]; exact By.new _ _ _ _
      have drw : Below U.heap.size U U.drew := ⟨rfl, rfl, rfl, Nat.le_refl _, fun _ _ => rfl⟩
      have IHd := IH U.drew ((hxa.below hUb).below drw)
      have hown0 : U.drew.ownsRow (w.heap.size + 3) 50 5 (.slice aov k capv) k xs := by rw [hU]; exact hown.alloc _
      have bt0 : But (w.heap.size + 2) W U.drew := (hbt.trans (But.of_below hUb)).drew
      have of0 : ∀ i, U.drew.frozen? ⟨w.heap.size + 2, i, none⟩ = false := fun i => by
        exact (World.frozen?_of_block (w := wr) (w' := U) (a := ⟨w.heap.size + 2, i, none⟩) (hUb.block (w.heap.size + 2) (by omega))).trans (hof i)
      have e2 : U.drew.cell? ⟨w.heap.size + 2, 0, none⟩ = some (.slice aov k capv) := bkeep hUb o2
      have c0 : U.drew.cell? ⟨wr.heap.size, 0, none⟩ = some (.string dk.nm) := uby.c0
      have c1 : U.drew.cell? ⟨wr.heap.size, 1, none⟩ = some (.int .i64 dk.at_) := by rw [Lib.cell_of_heap (show U.drew.heap[wr.heap.size]? = _ from uby)]; rfl
      have c2 : U.drew.cell? ⟨wr.heap.size, 2, none⟩ = some (.int .i64 dk.e.op) := uby.c2
      have c3 : U.drew.cell? ⟨wr.heap.size, 3, none⟩ = some (.string dk.e.nm) := uby.c3
      have c4 : U.drew.cell? ⟨wr.heap.size, 4, none⟩ = some (.slice aoa' dk.e.kids.len capa') := uby.c4
      have hS0 := And.intro c0 (And.intro c1 (And.intro c2 (And.intro c3 c4)))
      go_wp2_with fail
      rw [← hU]
      have HU := hd hU
      clear hU
      refine wp_region_held_drew (S := fun w' => w'.cell? ⟨wr.heap.size, 0, none⟩ = some (.string dk.nm) ∧ w'.cell? ⟨wr.heap.size, 1, none⟩ = some (.int .i64 dk.at_) ∧ w'.cell? ⟨wr.heap.size, 2, none⟩ = some (.int .i64 dk.e.op) ∧ w'.cell? ⟨wr.heap.size, 3, none⟩ = some (.string dk.e.nm) ∧ w'.cell? ⟨wr.heap.size, 4, none⟩ = some (.slice aoa' dk.e.kids.len capa')) (by kernel_rfl) hS0 ?_
      intro hSw
      refine wpAnyH_take (i := 0) (v := ?v6) rfl (by kernel_rfl) (by kernel_rfl) (by kernel_rfl) (fun _ _ _ h => h) (Or.inl ⟨by rfl, ?hy6⟩) (by assumption) ?_
      case hy6 => (intro w' hS'; (try dsimp only at hS'); go_simp; try with_reducible rfl)
      refine wpAnyH_take (i := 2) (v := ?v7) rfl (by kernel_rfl) (by kernel_rfl) (by kernel_rfl) (fun _ _ _ h => h) (Or.inl ⟨by rfl, ?hy7⟩) (by assumption) ?_
      case hy7 => (intro w' hS'; (try dsimp only at hS'); go_simp; try with_reducible rfl)
      refine wpAnyH_take (i := 3) (v := ?v8) rfl (by kernel_rfl) (by kernel_rfl) (by kernel_rfl) (fun _ _ _ h => h) (Or.inl ⟨by rfl, ?hy8⟩) (by assumption) ?_
      case hy8 => (intro w' hS'; (try dsimp only at hS'); go_simp; try with_reducible rfl)
      refine wpAnyH_take (i := 4) (v := ?v9) rfl (by kernel_rfl) (by kernel_rfl) (by kernel_rfl) (fun _ _ _ h => h) (Or.inl ⟨by rfl, ?hy9⟩) (by assumption) ?_
      case hy9 => (intro w' hS'; (try dsimp only at hS'); go_simp; try with_reducible rfl)
      refine wpAnyH_take (i := 5) (v := ?v10) rfl (by kernel_rfl) (by kernel_rfl) (by kernel_rfl) (fun _ _ _ h => h) (Or.inl ⟨by rfl, ?hy10⟩) (by assumption) ?_
      case hy10 => (intro w' hS'; (try dsimp only at hS'); go_simp; try with_reducible rfl)
      refine wpAnyH_take (i := 6) (v := ?v11) rfl (by kernel_rfl) (by kernel_rfl) (by kernel_rfl) (fun _ _ _ h => h) (Or.inl ⟨by rfl, ?hy11⟩) (by assumption) ?_
      case hy11 => (intro w' hS'; (try dsimp only at hS'); go_simp; try with_reducible rfl)
      refine wpAnyH_take (i := 7) (v := ?v12) rfl (by kernel_rfl) (by kernel_rfl) (by kernel_rfl) (fun _ _ _ h => h) (Or.inl ⟨by rfl, ?hy12⟩) (by assumption) ?_
      case hy12 => (intro w' hS'; (try dsimp only at hS'); go_simp; try with_reducible rfl)
      refine wpAnyH_ready (rs := [1, 8]) (by kernel_rfl) (by simp) ?_
      refine AllReadyH.cons rfl (fun K hK => ?_) (AllReadyH.cons rfl (fun K hK => ?_) AllReadyH.nil)
      · go_simp
        refine hK.out _ _ hSw ?_
        clear hK K
        intro hSw
        refine wpAnyH_ready (rs := [8]) (by kernel_rfl) (by simp) ?_
        refine AllReadyH.cons rfl (fun K hK => ?_) AllReadyH.nil
        go_simp
        go_at_call 37
        refine IHd.mono ?_
        rintro e w2 ⟨_, rfl, ⟨u2, rfl, hu2⟩, hb2⟩
        obtain ⟨hl2, ao2, cap2, rfl, hin2⟩ := id hu2
        have z2 : wr.heap.size + 1 ≤ w2.heap.size := hUz ▸ hb2.size
        have f2 := bkeep hb2 e2
        have hS2 := And.intro (bkeep hb2 c0) (And.intro (bkeep hb2 c1) (And.intro (bkeep hb2 c2) (And.intro (bkeep hb2 c3) (bkeep hb2 c4))))
        have ff : ∀ i, w2.frozen? ⟨w.heap.size + 2, i, none⟩ = false := fun i => (World.frozen?_of_block (a := ⟨w.heap.size + 2, i, none⟩) (hb2.block (w.heap.size + 2) (lt_of_cell e2))).trans (of0 i)
        have own2 := owns_but hown0 (But.of_below (r := w.heap.size + 2) hb2) (by omega)
        obtain ⟨ob, hob⟩ : ∃ ob : Obj, ob = .cells #[.string dk.nm, .int .i64 dk.at_, .int .i64 dk.e.op, .string dk.e.nm, .slice ao2 dk.e.kids.len cap2] 50 := ⟨_, rfl⟩
        have hbo : Below w2.heap.size w2 (w2.alloc ob) := al1 _ _
        have own3 : (w2.alloc ob).ownsRow (w.heap.size + 3) 50 5 (.slice aov k capv) k xs := own2.alloc _
        have bt3 : But (w.heap.size + 2) W (w2.alloc ob) := (bt0.trans (But.of_below hb2)).alloc _
        have f3 := bkeep hbo f2
        have hS3 := And.intro (bkeep hbo hS2.1) (And.intro (bkeep hbo hS2.2.1) (And.intro (bkeep hbo hS2.2.2.1) (And.intro (bkeep hbo hS2.2.2.2.1) (bkeep hbo hS2.2.2.2.2))))
        subst hob
        refine hK.out _ _ hS2 ?_
        clear hK K
        intro hSw
        refine wpAnyH_take (i := 9) (v := ?v1) rfl (by kernel_rfl) (by kernel_rfl) (by kernel_rfl) (fun _ _ _ h => h) (Or.inl ⟨by rfl, ?hy1⟩) (by assumption) ?_
        case hy1 => (intro w' hS'; (try dsimp only at hS'); go_simp; try with_reducible rfl)
        refine wpAnyH_ready (rs := [10]) (by kernel_rfl) (by simp) ?_
        refine AllReadyH.cons rfl (fun K hK => ?_) AllReadyH.nil
        go_simp
        refine hK.out _ _ hS3 ?_
        clear hK K
        intro hSw
        refine wpAnyH_ready (rs := [11]) (by kernel_rfl) (by simp) ?_
        refine AllReadyH.cons rfl (fun K hK => ?_) AllReadyH.nil
        refine step_own rfl (.tmp 19) (.tmp 28) 22 rfl (w.heap.size + 3) 50 i0 (.agg #[.string ⟨#[]⟩, .int .i64 0, .int .i64 0, .string ⟨#[]⟩, .slice none 0 0]) 5 72 Try.underlying22 hi iz0 iz1 iz2 rfl (by decide) (.slice aov k capv) k xs (by simp [Act.eval]) own3 ⟨w2.heap.size, 0, none⟩ 1 1 [.string dk.nm, .int .i64 dk.at_, .int .i64 dk.e.op, .string dk.e.nm, .slice ao2 dk.e.kids.len cap2] (by simp [Act.eval]) rfl (cell5_new w2 _ _ _ _ _ _) (oneD _ _ _ _ _ _ _) (by unfold maxLen; omega) (by omega) (by simp; omega) ?_
        intro v' w4 own4 grow4 hat
        have bt4 : But (w.heap.size + 2) W w4 := bt3.grown grow4 (fun q e => by have := (hvl q e).1; omega)
        have z4 := grow4.size
        have gk : ∀ q, q < w2.heap.size → (q < w.heap.size + 3 ∨ wr.heap.size ≤ q) → w4.heap[q]? = w2.heap[q]? := fun q h1 h2 => by
          rw [grow4.block q (by simp; omega) (fun e => by have := hvl q e.symm; omega)]; exact (al1 w2 _).block q h1
        have f42 : w4.cell? ⟨w.heap.size + 2, 0, none⟩ = some (.slice aov k capv) := (World.cell?_of_block (a := ⟨w.heap.size + 2, 0, none⟩) (gk (w.heap.size + 2) (lt_of_cell f2) (.inl (by omega)))).trans f2
        have f4f : ∀ i, w4.frozen? ⟨w.heap.size + 2, i, none⟩ = false := fun i => (World.frozen?_of_block (a := ⟨w.heap.size + 2, i, none⟩) (gk (w.heap.size + 2) (lt_of_cell f2) (.inl (by omega)))).trans (ff i)
        have gd : ∀ i, w4.cell? ⟨wr.heap.size, i, none⟩ = w2.cell? ⟨wr.heap.size, i, none⟩ := fun i => World.cell?_of_block (a := ⟨wr.heap.size, i, none⟩) (gk wr.heap.size (by omega) (.inr (Nat.le_refl _)))
        obtain ⟨ao4, cap4, rfl⟩ := owns_slice own4
        have hS4 : w4.cell? ⟨wr.heap.size, 0, none⟩ = some (.string dk.nm) ∧ w4.cell? ⟨wr.heap.size, 1, none⟩ = some (.int .i64 dk.at_) ∧ w4.cell? ⟨wr.heap.size, 2, none⟩ = some (.int .i64 dk.e.op) ∧ w4.cell? ⟨wr.heap.size, 3, none⟩ = some (.string dk.e.nm) ∧ w4.cell? ⟨wr.heap.size, 4, none⟩ = some (.slice aoa' dk.e.kids.len capa') := ⟨(gd 0).trans hS2.1, (gd 1).trans hS2.2.1, (gd 2).trans hS2.2.2.1, (gd 3).trans hS2.2.2.2.1, (gd 4).trans hS2.2.2.2.2⟩
        have gz : ∀ u i, (w4.setCell ⟨w.heap.size + 2, 0, none⟩ u).cell? ⟨wr.heap.size, i, none⟩ = w4.cell? ⟨wr.heap.size, i, none⟩ := fun u i => World.cell?_setCell_other _ _ _ _ (by simp <;> omega)
        refine hK.out _ _ hS4 ?_
        clear hK K
        intro hSw
        refine wpAnyH_take (i := 12) (v := ?v2) rfl (by kernel_rfl) (by kernel_rfl) (by kernel_rfl) (fun _ _ _ h => h) (Or.inl ⟨by rfl, ?hy2⟩) (by assumption) ?_
        case hy2 => (intro w' hS'; (try dsimp only at hS'); go_simp; try with_reducible rfl)
        refine wpAnyH_ready (rs := [13]) (by kernel_rfl) (by simp) ?_
        refine AllReadyH.cons rfl (fun K hK => ?_) AllReadyH.nil
        go_simp
        refine hK.out _ _ ⟨(gz _ 0).trans hS4.1, (gz _ 1).trans hS4.2.1, (gz _ 2).trans hS4.2.2.1, (gz _ 3).trans hS4.2.2.2.1, (gz _ 4).trans hS4.2.2.2.2⟩ ?_
        clear hK K
        intro hSw
        refine wpAnyH_done (by kernel_rfl) ?_ _
        have bt5 : But (w.heap.size + 2) W (w4.setCell ⟨w.heap.size + 2, 0, none⟩ (.slice ao4 (k + 1) cap4)) := bt4.setCell (.inl rfl) _
        have own5 := (owns_setCell (a := ⟨w.heap.size + 2, 0, none⟩) own4 (by show w.heap.size + 2 < w.heap.size + 3; omega) : (w4.setCell ⟨w.heap.size + 2, 0, none⟩ (.slice ao4 (k + 1) cap4)).ownsRow _ _ _ _ _ _)
        have z4' : w2.heap.size + 1 ≤ w4.heap.size := by simpa using z4
        have fc5 : DC (w4.setCell ⟨w.heap.size + 2, 0, none⟩ (.slice ao4 (k + 1) cap4)) (fun q => w.heap.size + 3 ≤ q ∧ (Value.slice ao4 (k + 1) cap4).ownBlock ≠ some q) (xs ++ [.string dk.nm, .int .i64 dk.at_, .int .i64 dk.e.op, .string dk.e.nm, .slice ao2 dk.e.kids.len cap2]) (ds.take k ++ [dk]) := by
          refine DC_step (w1 := w2) (g := w2.heap.size + 1) (x := dk) hfc (hu2.mono fun q o v hq h => ⟨by have : U.heap.size ≤ q := hq; omega, h⟩) (by omega) (by omega) ?_ ?_ (fun q e => (hvl q e).2) (by omega) (by simpa using hat)
          · have kk1 : Kp (fun q => w.heap.size + 3 ≤ q ∧ (Value.slice aov k capv).ownBlock ≠ some q) wr w2 := ⟨by omega, fun q hq _ => (hb2.block q (by show q < U.heap.size; omega)).trans (hUb.block q hq)⟩
            exact Kp.setCell ((kk1.alloc _).grown grow4 (fun q e => .inl fun hs => hs.2 e)) (.inl fun hs => by have := hs.1; simp at this) _
          · exact Kp.setCell (((Kp.refl _ w2).alloc _).grown grow4 (fun q e => .inl fun hs => by have := (hvl q e).2; omega)) (.inl fun hs => by simp at hs <;> omega) _
        have p2 : (w4.setCell ⟨w.heap.size + 2, 0, none⟩ (.slice ao4 (k + 1) cap4)).cell? ⟨w.heap.size + 2, 0, none⟩ = some (.slice ao4 (k + 1) cap4) := World.cell?_setCell_same _ _ _ f42
        have pf : ∀ i, (w4.setCell ⟨w.heap.size + 2, 0, none⟩ (.slice ao4 (k + 1) cap4)).frozen? ⟨w.heap.size + 2, i, none⟩ = false := fun i => by simp [f4f i]
        obtain ⟨Z, hZ⟩ : ∃ Z, Z = w4.setCell ⟨w.heap.size + 2, 0, none⟩ (.slice ao4 (k + 1) cap4) := ⟨_, rfl⟩
        rw [← hZ] at bt5 own5 fc5 p2 pf
        rw [← hZ]
        clear hZ bt4 own4 f42 f4f hS4 hS3 hS2 hSw gz gd gk
        go_wp2_with fail
        go_roundw
        case rel => exact ⟨k + 1, _, _, by omega, by go_num, own5, by rw [HTK.out]; exact fc5, p2, pf, bt5⟩
        case measure => simp [intOf]; omega
      · go_simp
        go_at_call 37
        refine IHd.mono ?_
        rintro e w2 ⟨_, rfl, ⟨u2, rfl, hu2⟩, hb2⟩
        obtain ⟨hl2, ao2, cap2, rfl, hin2⟩ := id hu2
        have z2 : wr.heap.size + 1 ≤ w2.heap.size := hUz ▸ hb2.size
        have f2 := bkeep hb2 e2
        have hS2 := And.intro (bkeep hb2 c0) (And.intro (bkeep hb2 c1) (And.intro (bkeep hb2 c2) (And.intro (bkeep hb2 c3) (bkeep hb2 c4))))
        have ff : ∀ i, w2.frozen? ⟨w.heap.size + 2, i, none⟩ = false := fun i => (World.frozen?_of_block (a := ⟨w.heap.size + 2, i, none⟩) (hb2.block (w.heap.size + 2) (lt_of_cell e2))).trans (of0 i)
        have own2 := owns_but hown0 (But.of_below (r := w.heap.size + 2) hb2) (by omega)
        obtain ⟨ob, hob⟩ : ∃ ob : Obj, ob = .cells #[.string dk.nm, .int .i64 dk.at_, .int .i64 dk.e.op, .string dk.e.nm, .slice ao2 dk.e.kids.len cap2] 50 := ⟨_, rfl⟩
        have hbo : Below w2.heap.size w2 (w2.alloc ob) := al1 _ _
        have own3 : (w2.alloc ob).ownsRow (w.heap.size + 3) 50 5 (.slice aov k capv) k xs := own2.alloc _
        have bt3 : But (w.heap.size + 2) W (w2.alloc ob) := (bt0.trans (But.of_below hb2)).alloc _
        have f3 := bkeep hbo f2
        have hS3 := And.intro (bkeep hbo hS2.1) (And.intro (bkeep hbo hS2.2.1) (And.intro (bkeep hbo hS2.2.2.1) (And.intro (bkeep hbo hS2.2.2.2.1) (bkeep hbo hS2.2.2.2.2))))
        subst hob
        refine hK.out _ _ hS2 ?_
        clear hK K
        intro hSw
        refine wpAnyH_take (i := 9) (v := ?v3) rfl (by kernel_rfl) (by kernel_rfl) (by kernel_rfl) (fun _ _ _ h => h) (Or.inl ⟨by rfl, ?hy3⟩) (by assumption) ?_
        case hy3 => (intro w' hS'; (try dsimp only at hS'); go_simp; try with_reducible rfl)
        refine wpAnyH_ready (rs := [1, 10]) (by kernel_rfl) (by simp) ?_
        refine AllReadyH.cons rfl (fun K hK => ?_) (AllReadyH.cons rfl (fun K hK => ?_) AllReadyH.nil)
        · go_simp
          refine hK.out _ _ hSw ?_
          clear hK K
          intro hSw
          refine wpAnyH_ready (rs := [10]) (by kernel_rfl) (by simp) ?_
          refine AllReadyH.cons rfl (fun K hK => ?_) AllReadyH.nil
          go_simp
          refine hK.out _ _ hS3 ?_
          clear hK K
          intro hSw
          refine wpAnyH_ready (rs := [11]) (by kernel_rfl) (by simp) ?_
          refine AllReadyH.cons rfl (fun K hK => ?_) AllReadyH.nil
          refine step_own rfl (.tmp 19) (.tmp 28) 22 rfl (w.heap.size + 3) 50 i0 (.agg #[.string ⟨#[]⟩, .int .i64 0, .int .i64 0, .string ⟨#[]⟩, .slice none 0 0]) 5 72 Try.underlying22 hi iz0 iz1 iz2 rfl (by decide) (.slice aov k capv) k xs (by simp [Act.eval]) own3 ⟨w2.heap.size, 0, none⟩ 1 1 [.string dk.nm, .int .i64 dk.at_, .int .i64 dk.e.op, .string dk.e.nm, .slice ao2 dk.e.kids.len cap2] (by simp [Act.eval]) rfl (cell5_new w2 _ _ _ _ _ _) (oneD _ _ _ _ _ _ _) (by unfold maxLen; omega) (by omega) (by simp; omega) ?_
          intro v' w4 own4 grow4 hat
          have bt4 : But (w.heap.size + 2) W w4 := bt3.grown grow4 (fun q e => by have := (hvl q e).1; omega)
          have z4 := grow4.size
          have gk : ∀ q, q < w2.heap.size → (q < w.heap.size + 3 ∨ wr.heap.size ≤ q) → w4.heap[q]? = w2.heap[q]? := fun q h1 h2 => by
            rw [grow4.block q (by simp; omega) (fun e => by have := hvl q e.symm; omega)]; exact (al1 w2 _).block q h1
          have f42 : w4.cell? ⟨w.heap.size + 2, 0, none⟩ = some (.slice aov k capv) := (World.cell?_of_block (a := ⟨w.heap.size + 2, 0, none⟩) (gk (w.heap.size + 2) (lt_of_cell f2) (.inl (by omega)))).trans f2
          have f4f : ∀ i, w4.frozen? ⟨w.heap.size + 2, i, none⟩ = false := fun i => (World.frozen?_of_block (a := ⟨w.heap.size + 2, i, none⟩) (gk (w.heap.size + 2) (lt_of_cell f2) (.inl (by omega)))).trans (ff i)
          have gd : ∀ i, w4.cell? ⟨wr.heap.size, i, none⟩ = w2.cell? ⟨wr.heap.size, i, none⟩ := fun i => World.cell?_of_block (a := ⟨wr.heap.size, i, none⟩) (gk wr.heap.size (by omega) (.inr (Nat.le_refl _)))
          obtain ⟨ao4, cap4, rfl⟩ := owns_slice own4
          have hS4 : w4.cell? ⟨wr.heap.size, 0, none⟩ = some (.string dk.nm) ∧ w4.cell? ⟨wr.heap.size, 1, none⟩ = some (.int .i64 dk.at_) ∧ w4.cell? ⟨wr.heap.size, 2, none⟩ = some (.int .i64 dk.e.op) ∧ w4.cell? ⟨wr.heap.size, 3, none⟩ = some (.string dk.e.nm) ∧ w4.cell? ⟨wr.heap.size, 4, none⟩ = some (.slice aoa' dk.e.kids.len capa') := ⟨(gd 0).trans hS2.1, (gd 1).trans hS2.2.1, (gd 2).trans hS2.2.2.1, (gd 3).trans hS2.2.2.2.1, (gd 4).trans hS2.2.2.2.2⟩
          have gz : ∀ u i, (w4.setCell ⟨w.heap.size + 2, 0, none⟩ u).cell? ⟨wr.heap.size, i, none⟩ = w4.cell? ⟨wr.heap.size, i, none⟩ := fun u i => World.cell?_setCell_other _ _ _ _ (by simp <;> omega)
          refine hK.out _ _ hS4 ?_
          clear hK K
          intro hSw
          refine wpAnyH_take (i := 12) (v := ?v4) rfl (by kernel_rfl) (by kernel_rfl) (by kernel_rfl) (fun _ _ _ h => h) (Or.inl ⟨by rfl, ?hy4⟩) (by assumption) ?_
          case hy4 => (intro w' hS'; (try dsimp only at hS'); go_simp; try with_reducible rfl)
          refine wpAnyH_ready (rs := [13]) (by kernel_rfl) (by simp) ?_
          refine AllReadyH.cons rfl (fun K hK => ?_) AllReadyH.nil
          go_simp
          refine hK.out _ _ ⟨(gz _ 0).trans hS4.1, (gz _ 1).trans hS4.2.1, (gz _ 2).trans hS4.2.2.1, (gz _ 3).trans hS4.2.2.2.1, (gz _ 4).trans hS4.2.2.2.2⟩ ?_
          clear hK K
          intro hSw
          refine wpAnyH_done (by kernel_rfl) ?_ _
          have bt5 : But (w.heap.size + 2) W (w4.setCell ⟨w.heap.size + 2, 0, none⟩ (.slice ao4 (k + 1) cap4)) := bt4.setCell (.inl rfl) _
          have own5 := (owns_setCell (a := ⟨w.heap.size + 2, 0, none⟩) own4 (by show w.heap.size + 2 < w.heap.size + 3; omega) : (w4.setCell ⟨w.heap.size + 2, 0, none⟩ (.slice ao4 (k + 1) cap4)).ownsRow _ _ _ _ _ _)
          have z4' : w2.heap.size + 1 ≤ w4.heap.size := by simpa using z4
          have fc5 : DC (w4.setCell ⟨w.heap.size + 2, 0, none⟩ (.slice ao4 (k + 1) cap4)) (fun q => w.heap.size + 3 ≤ q ∧ (Value.slice ao4 (k + 1) cap4).ownBlock ≠ some q) (xs ++ [.string dk.nm, .int .i64 dk.at_, .int .i64 dk.e.op, .string dk.e.nm, .slice ao2 dk.e.kids.len cap2]) (ds.take k ++ [dk]) := by
            refine DC_step (w1 := w2) (g := w2.heap.size + 1) (x := dk) hfc (hu2.mono fun q o v hq h => ⟨by have : U.heap.size ≤ q := hq; omega, h⟩) (by omega) (by omega) ?_ ?_ (fun q e => (hvl q e).2) (by omega) (by simpa using hat)
            · have kk1 : Kp (fun q => w.heap.size + 3 ≤ q ∧ (Value.slice aov k capv).ownBlock ≠ some q) wr w2 := ⟨by omega, fun q hq _ => (hb2.block q (by show q < U.heap.size; omega)).trans (hUb.block q hq)⟩
              exact Kp.setCell ((kk1.alloc _).grown grow4 (fun q e => .inl fun hs => hs.2 e)) (.inl fun hs => by have := hs.1; simp at this) _
            · exact Kp.setCell (((Kp.refl _ w2).alloc _).grown grow4 (fun q e => .inl fun hs => by have := (hvl q e).2; omega)) (.inl fun hs => by simp at hs <;> omega) _
          have p2 : (w4.setCell ⟨w.heap.size + 2, 0, none⟩ (.slice ao4 (k + 1) cap4)).cell? ⟨w.heap.size + 2, 0, none⟩ = some (.slice ao4 (k + 1) cap4) := World.cell?_setCell_same _ _ _ f42
          have pf : ∀ i, (w4.setCell ⟨w.heap.size + 2, 0, none⟩ (.slice ao4 (k + 1) cap4)).frozen? ⟨w.heap.size + 2, i, none⟩ = false := fun i => by simp [f4f i]
          obtain ⟨Z, hZ⟩ : ∃ Z, Z = w4.setCell ⟨w.heap.size + 2, 0, none⟩ (.slice ao4 (k + 1) cap4) := ⟨_, rfl⟩
          rw [← hZ] at bt5 own5 fc5 p2 pf
          rw [← hZ]
          clear hZ bt4 own4 f42 f4f hS4 hS3 hS2 hSw gz gd gk
          go_wp2_with fail
          go_roundw
          case rel => exact ⟨k + 1, _, _, by omega, by go_num, own5, by rw [HTK.out]; exact fc5, p2, pf, bt5⟩
          case measure => simp [intOf]; omega
        · go_simp
          refine hK.out _ _ hS3 ?_
          clear hK K
          intro hSw
          refine wpAnyH_ready (rs := [1]) (by kernel_rfl) (by simp) ?_
          refine AllReadyH.cons rfl (fun K hK => ?_) AllReadyH.nil
          go_simp
          refine hK.out _ _ hSw ?_
          clear hK K
          intro hSw
          refine wpAnyH_ready (rs := [11]) (by kernel_rfl) (by simp) ?_
          refine AllReadyH.cons rfl (fun K hK => ?_) AllReadyH.nil
          refine step_own rfl (.tmp 19) (.tmp 28) 22 rfl (w.heap.size + 3) 50 i0 (.agg #[.string ⟨#[]⟩, .int .i64 0, .int .i64 0, .string ⟨#[]⟩, .slice none 0 0]) 5 72 Try.underlying22 hi iz0 iz1 iz2 rfl (by decide) (.slice aov k capv) k xs (by simp [Act.eval]) own3 ⟨w2.heap.size, 0, none⟩ 1 1 [.string dk.nm, .int .i64 dk.at_, .int .i64 dk.e.op, .string dk.e.nm, .slice ao2 dk.e.kids.len cap2] (by simp [Act.eval]) rfl (cell5_new w2 _ _ _ _ _ _) (oneD _ _ _ _ _ _ _) (by unfold maxLen; omega) (by omega) (by simp; omega) ?_
          intro v' w4 own4 grow4 hat
          have bt4 : But (w.heap.size + 2) W w4 := bt3.grown grow4 (fun q e => by have := (hvl q e).1; omega)
          have z4 := grow4.size
          have gk : ∀ q, q < w2.heap.size → (q < w.heap.size + 3 ∨ wr.heap.size ≤ q) → w4.heap[q]? = w2.heap[q]? := fun q h1 h2 => by
            rw [grow4.block q (by simp; omega) (fun e => by have := hvl q e.symm; omega)]; exact (al1 w2 _).block q h1
          have f42 : w4.cell? ⟨w.heap.size + 2, 0, none⟩ = some (.slice aov k capv) := (World.cell?_of_block (a := ⟨w.heap.size + 2, 0, none⟩) (gk (w.heap.size + 2) (lt_of_cell f2) (.inl (by omega)))).trans f2
          have f4f : ∀ i, w4.frozen? ⟨w.heap.size + 2, i, none⟩ = false := fun i => (World.frozen?_of_block (a := ⟨w.heap.size + 2, i, none⟩) (gk (w.heap.size + 2) (lt_of_cell f2) (.inl (by omega)))).trans (ff i)
          have gd : ∀ i, w4.cell? ⟨wr.heap.size, i, none⟩ = w2.cell? ⟨wr.heap.size, i, none⟩ := fun i => World.cell?_of_block (a := ⟨wr.heap.size, i, none⟩) (gk wr.heap.size (by omega) (.inr (Nat.le_refl _)))
          obtain ⟨ao4, cap4, rfl⟩ := owns_slice own4
          have hS4 : w4.cell? ⟨wr.heap.size, 0, none⟩ = some (.string dk.nm) ∧ w4.cell? ⟨wr.heap.size, 1, none⟩ = some (.int .i64 dk.at_) ∧ w4.cell? ⟨wr.heap.size, 2, none⟩ = some (.int .i64 dk.e.op) ∧ w4.cell? ⟨wr.heap.size, 3, none⟩ = some (.string dk.e.nm) ∧ w4.cell? ⟨wr.heap.size, 4, none⟩ = some (.slice aoa' dk.e.kids.len capa') := ⟨(gd 0).trans hS2.1, (gd 1).trans hS2.2.1, (gd 2).trans hS2.2.2.1, (gd 3).trans hS2.2.2.2.1, (gd 4).trans hS2.2.2.2.2⟩
          have gz : ∀ u i, (w4.setCell ⟨w.heap.size + 2, 0, none⟩ u).cell? ⟨wr.heap.size, i, none⟩ = w4.cell? ⟨wr.heap.size, i, none⟩ := fun u i => World.cell?_setCell_other _ _ _ _ (by simp <;> omega)
          refine hK.out _ _ hS4 ?_
          clear hK K
          intro hSw
          refine wpAnyH_take (i := 12) (v := ?v5) rfl (by kernel_rfl) (by kernel_rfl) (by kernel_rfl) (fun _ _ _ h => h) (Or.inl ⟨by rfl, ?hy5⟩) (by assumption) ?_
          case hy5 => (intro w' hS'; (try dsimp only at hS'); go_simp; try with_reducible rfl)
          refine wpAnyH_ready (rs := [13]) (by kernel_rfl) (by simp) ?_
          refine AllReadyH.cons rfl (fun K hK => ?_) AllReadyH.nil
          go_simp
          refine hK.out _ _ ⟨(gz _ 0).trans hS4.1, (gz _ 1).trans hS4.2.1, (gz _ 2).trans hS4.2.2.1, (gz _ 3).trans hS4.2.2.2.1, (gz _ 4).trans hS4.2.2.2.2⟩ ?_
          clear hK K
          intro hSw
          refine wpAnyH_done (by kernel_rfl) ?_ _
          have bt5 : But (w.heap.size + 2) W (w4.setCell ⟨w.heap.size + 2, 0, none⟩ (.slice ao4 (k + 1) cap4)) := bt4.setCell (.inl rfl) _
          have own5 := (owns_setCell (a := ⟨w.heap.size + 2, 0, none⟩) own4 (by show w.heap.size + 2 < w.heap.size + 3; omega) : (w4.setCell ⟨w.heap.size + 2, 0, none⟩ (.slice ao4 (k + 1) cap4)).ownsRow _ _ _ _ _ _)
          have z4' : w2.heap.size + 1 ≤ w4.heap.size := by simpa using z4
          have fc5 : DC (w4.setCell ⟨w.heap.size + 2, 0, none⟩ (.slice ao4 (k + 1) cap4)) (fun q => w.heap.size + 3 ≤ q ∧ (Value.slice ao4 (k + 1) cap4).ownBlock ≠ some q) (xs ++ [.string dk.nm, .int .i64 dk.at_, .int .i64 dk.e.op, .string dk.e.nm, .slice ao2 dk.e.kids.len cap2]) (ds.take k ++ [dk]) := by
            refine DC_step (w1 := w2) (g := w2.heap.size + 1) (x := dk) hfc (hu2.mono fun q o v hq h => ⟨by have : U.heap.size ≤ q := hq; omega, h⟩) (by omega) (by omega) ?_ ?_ (fun q e => (hvl q e).2) (by omega) (by simpa using hat)
            · have kk1 : Kp (fun q => w.heap.size + 3 ≤ q ∧ (Value.slice aov k capv).ownBlock ≠ some q) wr w2 := ⟨by omega, fun q hq _ => (hb2.block q (by show q < U.heap.size; omega)).trans (hUb.block q hq)⟩
              exact Kp.setCell ((kk1.alloc _).grown grow4 (fun q e => .inl fun hs => hs.2 e)) (.inl fun hs => by have := hs.1; simp at this) _
            · exact Kp.setCell (((Kp.refl _ w2).alloc _).grown grow4 (fun q e => .inl fun hs => by have := (hvl q e).2; omega)) (.inl fun hs => by simp at hs <;> omega) _
          have p2 : (w4.setCell ⟨w.heap.size + 2, 0, none⟩ (.slice ao4 (k + 1) cap4)).cell? ⟨w.heap.size + 2, 0, none⟩ = some (.slice ao4 (k + 1) cap4) := World.cell?_setCell_same _ _ _ f42
          have pf : ∀ i, (w4.setCell ⟨w.heap.size + 2, 0, none⟩ (.slice ao4 (k + 1) cap4)).frozen? ⟨w.heap.size + 2, i, none⟩ = false := fun i => by simp [f4f i]
          obtain ⟨Z, hZ⟩ : ∃ Z, Z = w4.setCell ⟨w.heap.size + 2, 0, none⟩ (.slice ao4 (k + 1) cap4) := ⟨_, rfl⟩
          rw [← hZ] at bt5 own5 fc5 p2 pf
          rw [← hZ]
          clear hZ bt4 own4 f42 f4f hS4 hS3 hS2 hSw gz gd gk
          go_wp2_with fail
          go_roundw
          case rel => exact ⟨k + 1, _, _, by omega, by go_num, own5, by rw [HTK.out]; exact fc5, p2, pf, bt5⟩
          case measure => simp [intOf]; omega
    · have hke : k = ds.length := by omega
      rw [List.take_of_length_le (by omega)] at hfc
      have hfv := DsV_owned (T := fun q => w.heap.size + 3 ≤ q) (f := ds) (by rw [← hke]; exact hown) hfc (fun _ h => h.1) (fun _ h => h) (by omega)
      obtain ⟨aov, capv, rfl⟩ := owns_slice hown
      have r0 : wr.cell? ⟨w.heap.size + 1, 0, none⟩ = some (.slice none 0 0) := by rw [hbt.cell (by omega) (by omega)]; exact hWr0
      have rf : ∀ i, wr.frozen? ⟨w.heap.size + 1, i, none⟩ = false := fun i => by rw [hbt.frozen (by omega) (by omega)]; exact hWrf i
      have HKE := hd hke
      clear hke hown hfc
      go_wp2_with fail
      refine bodyPost_ret (v := .agg #[.slice aov k capv]) (by simp [results, Try.results13, go_sem, r0]) rfl ⟨_, rfl, ?_, ?_⟩
      · refine hfv.kp ((Kp.refl _ wr).setCell (.inl ?_) _) (fun q _ h => by omega)
        simp
      · exact bel.setCell (p := ⟨w.heap.size + 1, 0, none⟩) (Nat.le_succ _) _
end Go.Proofs.Ytdikjhfnmkejcab
