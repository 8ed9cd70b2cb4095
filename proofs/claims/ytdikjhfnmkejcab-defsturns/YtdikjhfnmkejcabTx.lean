/- The document's own text of definitions. -/
import Derived.Test.YtdikjhfnmkejcabRt
import Derived.Test.YtdikjhfnmkejcabPt
namespace Go.Proofs.Ytdikjhfnmkejcab
open Go.RowKit
theorem et_val (x : Xp) (va : Value) (w : World) (hx : XV w All va x) (hb : x.bad = 0) (hl : x.tx.length ≤ 100000) :
    Calls Try.prog 38 #[va] w fun e w' => e = .returned (.string ⟨x.tx.toArray⟩) ∧ Below w.heap.size w w' :=
  (et_any x va w hx hb hl).mono fun _ _ ⟨_, h1, h2, _, h4⟩ => ⟨by rw [h1, bys_eq h2], h4⟩
set_option maxRecDepth 100000 in
set_option maxHeartbeats 8000000 in
theorem textOf_any (ds : List Df) (va : Value) (w : World) (hx : DsV w All va ds) (hc : ∀ d ∈ ds, d.code = 0) (hlen : (tex ds).length ≤ 100000) :
    Calls Try.prog 14 #[.agg #[va]] w fun e w' => e = .returned (.string ⟨(tex ds).toArray⟩) ∧ Below w.heap.size w w' := by
  obtain ⟨hl, ao, cap, rfl, hin⟩ := hx
  obtain ⟨W, hW⟩ : ∃ W, W = w.alloc (.cells #[.slice ao ds.length cap] 24) := ⟨_, rfl⟩
  have hWz : W.heap.size = w.heap.size + 1 := by rw [hW]; simp
  have hWb : Below w.heap.size w W := by rw [hW]; exact (Below.refl _ _).alloc (Nat.le_refl _) _
  have hWc : W.cell? ⟨w.heap.size, 0, none⟩ = some (.slice ao ds.length cap) := by rw [hW]; simp
  obtain ⟨T, hT⟩ : ∃ T, T = tex ds := ⟨_, rfl⟩
  have HT := hd hT
  have HC := hd hc
  rw [← hT] at hlen
  rw [← hT]
  clear hT hc
  go_enter Try.func14, Try.ntmps14
  go_wp2_with fail
  rw [← hW]
  have HW := hd hW
  clear hW
  go_loopw [3, 4] (fun a i wr => ∃ (k : Nat) (o : ByteArray), k ≤ ds.length ∧ i = .int .i64 k ∧ a = .string o ∧ bys o ++ tex (ds.drop k) = T ∧ Below W.heap.size W wr) (fun _ i _ => ds.length - (intOf i).toNat)
  case atStart => exact ⟨0, _, Nat.zero_le _, rfl, rfl, by rw [HT.out]; rfl, Below.refl _ _⟩
  case round =>
    obtain ⟨k, o, hk, rfl, rfl, hm, hb⟩ := hrel
    have hz := hb.size
    have bel : Below w.heap.size w wr := hWb.trans (hb.mono (by omega))
    have s0 := bkeep hb hWc
    by_cases hlt : k < ds.length
    · obtain h0 | ⟨ba, oa, rfl, hia⟩ := hin
      · omega
      have kA : ∀ b o v, All b → w.cell? ⟨b, o, none⟩ = some v → All b ∧ wr.cell? ⟨b, o, none⟩ = some v := keep_cell (fun _ _ h => h) (Kp.of_below bel).block
      obtain ⟨an, aa, ax⟩ := (hia.mono kA).at_ k hlt
      obtain ⟨ua, a0, a1, a2, hxa⟩ := ax.xv
      have hxa' := hxa
      obtain ⟨_, e, _, aoa', capa', rfl, _⟩ := hxa'
      simp at e; subst e
      rw [tex_at hlt] at hm
      have hcd := HC.out ds[k] (List.getElem_mem hlt)
      have HLT := hd hlt
      generalize ds[k] = dk at *
      have hln := congrArg List.length hm
      simp only [List.length_append, List.length_cons, List.length_nil, bys_length] at hln
      have hbd := (Df.code_zero hcd).2.2.2
      have ET := fun z : Wd wr => et_val dk.e (.agg #[.int .i64 dk.e.op, .string dk.e.nm, .slice aoa' dk.e.kids.len capa']) z.u (hxa.below z.h) hbd (by omega)
      have htb : bys (⟨dk.e.tx.toArray⟩ : ByteArray) = dk.e.tx := bys_mk _
      have hts : (⟨dk.e.tx.toArray⟩ : ByteArray).size = dk.e.tx.length := by rw [← bys_length, bys_mk]
      generalize (⟨dk.e.tx.toArray⟩ : ByteArray) = t at *
      have r0 := fun z : Wd wr => z.cell s0
      have q0 := fun z : Wd wr => z.cell an
      have q1 := fun z : Wd wr => z.cell a0
      have q2 := fun z : Wd wr => z.cell a1
      have q3 := fun z : Wd wr => z.cell a2
      have wne : Nonempty (Wd wr) := Wd.ne _
      have g1 : ¬ 9223372036854775807 < dk.nm.size + 3 := by omega
      have g2 : ¬ 9223372036854775807 < dk.nm.size + 3 + t.size := by omega
      have g3 : ¬ 9223372036854775807 < dk.nm.size + 3 + t.size + 2 := by omega
      have g4 : ¬ 9223372036854775807 < o.size + (dk.nm.size + 3 + t.size + 2) := by omega
      go_wp2_with fail
      clear s0 an a0 a1 a2 hxa hbd hcd aa
      refine region_quiet_lit (C := fun w' => ∃ z : Wd wr, w' = z.u) (by kernel_rfl) (by kernel_rfl) (Wd.drawn _) ?_
      iterate 14 (go_big_quiet_step (fail))
      go_big_quiet_step (exact calls_wd (ET _))
      iterate 4 (go_big_quiet_step (fail))
      refine wpQuiet_nil ?_
      intro _ hw'
      obtain ⟨z, hw''⟩ := hw'
      subst hw''
      have bz : Below W.heap.size W z.u := hb.trans (z.h.mono hb.size)
      go_wp2_with fail
      go_roundw
      case rel => exact ⟨k + 1, _, by omega, by go_num, rfl, by rw [← hm]; simp only [bys_app, htb, List.append_assoc]; rfl, bz⟩
      case measure => simp [intOf]; omega
    · rw [List.drop_eq_nil_of_le (by omega)] at hm
      simp only [tex, List.flatMap_nil, List.append_nil] at hm
      go_wp2_with fail
      go_ret
      exact ⟨by rw [bys_eq hm]; rfl, bel⟩
end Go.Proofs.Ytdikjhfnmkejcab
