/- Parse: the reader is run, and its own panic is caught. -/
import Derived.Test.YtkianolbnjineaaText
namespace Go.Proofs.Ytkianolbnjineaa
open Go.RowKit
/-- No fault bears the code 0. -/
structure Erc (l : List Tk) (en : Int) (k : Nat) : Prop where
  item : ∀ n p o c a, item l en k n p o = .err c a → c ≠ 0
  row : ∀ n p o acc c a, rowL l en k n p o acc = .err c a → c ≠ 0
  altL : ∀ n p o acc c a, altL l en k n p o acc = .err c a → c ≠ 0
  alt : ∀ n p o c a, alt l en k n p o = .err c a → c ≠ 0
theorem fm_ne (l : List Tk) (n : Nat) : fm l n ≠ 0 := by unfold fm; split <;> decide
theorem erc (l : List Tk) (en : Int) (k : Nat) : Erc l en k := by
  induction k with
  | zero => exact ⟨fun _ _ _ _ _ h => by simp [Go.Proofs.Ytkianolbnjineaa.item] at h, fun _ _ _ _ _ _ h => by simp [Go.Proofs.Ytkianolbnjineaa.rowL] at h, fun _ _ _ _ _ _ h => by simp [Go.Proofs.Ytkianolbnjineaa.altL] at h, fun _ _ _ _ _ h => by simp [Go.Proofs.Ytkianolbnjineaa.alt] at h⟩
  | succ k ih =>
    refine ⟨?_, ?_, ?_, ?_⟩
    · intro n p o c a h
      rw [Go.Proofs.Ytkianolbnjineaa.item] at h
      split at h
      · split at h
        · cases h; decide
        · cases h
      · split at h
        · split at h
          · cases h; decide
          · cases h
        · split at h
          · split at h
            · cases h; decide
            · split at h
              · cases h; decide
              · split at h
                · split at h
                  · cases h
                  · cases h; exact fm_ne _ _
                · rename_i h2; cases h; exact ih.alt _ _ _ _ _ h2
                · cases h
          · cases h
    · intro n p o acc c a h
      rw [Go.Proofs.Ytkianolbnjineaa.rowL] at h
      split at h
      · cases h
      · exact ih.row _ _ _ _ _ _ h
      · rename_i h1; cases h; exact ih.item _ _ _ _ _ h1
      · cases h
    · intro n p o acc c a h
      rw [Go.Proofs.Ytkianolbnjineaa.altL] at h
      split at h
      · split at h
        · cases h; decide
        · split at h
          · exact ih.altL _ _ _ _ _ _ h
          · rename_i h1; cases h; exact ih.row _ _ _ _ _ _ h1
          · cases h
      · cases h
    · intro n p o c a h
      rw [Go.Proofs.Ytkianolbnjineaa.alt] at h
      split at h
      · exact ih.altL _ _ _ _ _ _ h
      · rename_i h1; cases h; exact ih.row _ _ _ _ _ _ h1
      · cases h
theorem defn_erc {l : List Tk} {en : Int} {n : Nat} {c a : Int} (h : defn l en n = .err c a) : c ≠ 0 := by
  unfold defn at h
  split at h
  · split at h
    · split at h
      · split at h
        · cases h
        · cases h; exact fm_ne _ _
      · rename_i h1; cases h; exact (erc _ _ _).alt _ _ _ _ _ h1
      · cases h
    · cases h; exact fm_ne _ _
  · cases h; exact fm_ne _ _
theorem textL_erc {l : List Tk} {en : Int} {c a : Int} : ∀ (k n : Nat) (acc : List Df), textL l en k n acc = .err c a → c ≠ 0
  | 0, _, _, h => by simp [textL] at h
  | k + 1, n, acc, h => by
    rw [textL] at h
    split at h
    · split at h
      · cases h; decide
      · split at h
        · exact textL_erc _ _ _ h
        · rename_i h1; cases h; exact defn_erc h1
        · cases h
    · cases h
def parse (s : ByteArray) : Res (List Df) := if (scan s).2.1 = 0 then text (scan s).1 s.size else .err (scan s).2.1 (scan s).2.2
set_option maxRecDepth 100000 in
set_option maxHeartbeats 2000000 in
theorem catch_panicking (q ob fb r : Nat) (c a c0 a0 : Int) (v0 : Value) (u : TypeId) (pv : Value) (older : List PanicEntry) (w : World) (hq : w.cell? ⟨q, 0, none⟩ = some (.pointer (some ⟨r, 0, none⟩)))
    (h5 : w.cell? ⟨r, 5, none⟩ = some (.int .i64 c)) (h6 : w.cell? ⟨r, 6, none⟩ = some (.int .i64 a)) (hc : c ≠ 0) (ho : w.cell? ⟨ob, 0, none⟩ = some v0) (hf0 : w.cell? ⟨fb, 0, none⟩ = some (.int .i64 c0)) (hf1 : w.cell? ⟨fb, 1, none⟩ = some (.int .i64 a0))
    (zo : w.frozen? ⟨ob, 0, none⟩ = false) (zf : ∀ i, w.frozen? ⟨fb, i, none⟩ = false) (n1 : ob ≠ r) (n2 : ob ≠ fb) (_n3 : ob ≠ q) (_n4 : fb ≠ r) :
    CallsD Try.prog 39 #[.pointer (some ⟨q, 0, none⟩), .pointer (some ⟨ob, 0, none⟩), .pointer (some ⟨fb, 0, none⟩)] (.panicking ({ v := .iface u pv, recovered := false } :: older)) w fun e u' w' =>
      e = .returned (.tuple #[]) ∧ u' = .panicking ({ v := .iface u pv, recovered := true } :: older) ∧ w' = ((w.setCell ⟨ob, 0, none⟩ (.slice none 0 0)).setCell ⟨fb, 0, none⟩ (.int .i64 c)).setCell ⟨fb, 1, none⟩ (.int .i64 a) := by
  refine callsD_of_wpS Try.func39 rfl fun f₀ cs hu => ?_
  apply wpS_seq
  apply wpS_region
  simp [wpOpsS, go_sem, Try.ntmps39, Exit.thenS, hq, h5, Array.replicate]
  refine wpS_cond (t := true) (by simp [Act.eval, hc]) ?_
  simp only [if_true]
  apply wpS_seq
  apply wpS_region
  simp [wpOpsS, go_sem, recoverD, hu, Exit.thenS]
  have n1' := Ne.symm n1
  have n2' := Ne.symm n2
  refine wpS_of_wp ?_
  go_wp2_with fail
  simp [bodyPostS, results, Try.results39]
theorem catch_idle (q ob fb r : Nat) (w : World) (hq : w.cell? ⟨q, 0, none⟩ = some (.pointer (some ⟨r, 0, none⟩))) (h5 : w.cell? ⟨r, 5, none⟩ = some (.int .i64 0)) :
    CallsD Try.prog 39 #[.pointer (some ⟨q, 0, none⟩), .pointer (some ⟨ob, 0, none⟩), .pointer (some ⟨fb, 0, none⟩)] .returning w fun e u' w' =>
      e = .returned (.tuple #[]) ∧ u' = .returning ∧ w' = w := by
  refine callsD_of_wpS Try.func39 rfl fun f₀ cs hu => ?_
  apply wpS_seq
  apply wpS_region
  simp [wpOpsS, go_sem, Try.ntmps39, Exit.thenS, hq, h5, Array.replicate]
  refine wpS_cond (t := false) (by simp [Act.eval]) ?_
  simp only [Bool.false_eq_true, if_false]
  refine wpS_of_wp (wp_skip ?_)
  cases f₀
  simp_all [bodyPostS, results, Try.results39]
def OutP (w : World) (res : Res (List Df)) (e : Ending) (w' : World) : Prop :=
  match res with
  | .ok ds _ _ => ∃ v, e = .returned (.tuple #[.agg #[v], .agg #[.int .i64 0, .int .i64 0]]) ∧ DsV w' (fun k => w.heap.size ≤ k) v ds ∧ Below w.heap.size w w'
  | .err c a => e = .returned (.tuple #[.agg #[.slice none 0 0], .agg #[.int .i64 c, .int .i64 a]]) ∧ Below w.heap.size w w'
  | .out => False
set_option maxRecDepth 100000 in
set_option maxHeartbeats 4000000 in
theorem parse_any (s : ByteArray) (w : World) (hs : s.size ≤ 281474976710656) (hlen : (scan s).1.length ≤ 6000) :
    Calls Try.prog 18 #[.string s] w (OutP w (parse s)) := by
  have S := fun w => scan_any s w hs
  unfold parse
  generalize scan s = sc at *
  obtain ⟨l, c, a⟩ := sc
  simp only at S hlen ⊢
  have hmf : ∀ (fn : Fn) (first cap : Array Value) (w : World), (Instr.makeFunc fn first cap).run Try.prog w = .ok (.func fn first cap) w := fun _ _ _ _ => rfl
  by_cases hc : c = 0
  · subst hc
    rw [if_pos rfl]
    go_enter_defers Try.func18, Try.ntmps18
    go_wp2_with fail
    refine (S _).mono ?_
    rintro e w1 ⟨v, rfl, hown, hb1⟩
    have z1 := hb1.size
    simp at z1
    have f0 : w1.cell? ⟨w.heap.size + 1, 0, none⟩ = some (.int .i64 0) := by rw [hb1.cell (p := ⟨w.heap.size + 1, 0, none⟩) (by simp)]; simp
    have f1 : w1.cell? ⟨w.heap.size + 1, 1, none⟩ = some (.int .i64 0) := by rw [hb1.cell (p := ⟨w.heap.size + 1, 1, none⟩) (by simp)]; simp
    have ff : ∀ i, w1.frozen? ⟨w.heap.size + 1, i, none⟩ = false := fun i => by rw [hb1.frozen (p := ⟨w.heap.size + 1, i, none⟩) (by simp)]; simp
    obtain ⟨ao, cap, hv⟩ := owns_slice hown
    subst hv
    have o0 : w1.cell? ⟨w.heap.size, 0, none⟩ = some (.slice none 0 0) := by rw [hb1.cell (p := ⟨w.heap.size, 0, none⟩) (by simp; omega)]; simp
    have of_ : ∀ i, w1.frozen? ⟨w.heap.size, i, none⟩ = false := fun i => by rw [hb1.frozen (p := ⟨w.heap.size, i, none⟩) (by simp; omega)]; simp
    obtain ⟨W, hW⟩ : ∃ W, W = ((((w1.setCell ⟨w.heap.size + 1, 0, none⟩ (.int .i64 0)).setCell ⟨w.heap.size + 1, 1, none⟩ (.int .i64 a)).alloc (.cells #[.slice ao l.length cap, .int .i64 0, .int .i64 s.size, .int .i64 0, .int .i64 0, .int .i64 0, .int .i64 0] 56)).alloc (.cells #[.pointer (some ⟨w1.heap.size, 0, none⟩)] 54)) := ⟨_, rfl⟩
    have hWz : W.heap.size = w1.heap.size + 2 := by rw [hW]; simp [World.setCell]
    have hWb : Below w.heap.size w W := by
      rw [hW]
      exact ((((((Below.refl _ _).alloc (Nat.le_refl _) _).alloc (by simp) _).trans (hb1.mono (by simp; omega))).setCell (by simp) _).setCell (by simp) _).alloc (by simp [World.setCell]; omega) _ |>.alloc (by simp [World.setCell]; omega) _
    have hnz1 : ¬ w1.heap.size = w.heap.size + 1 := by omega
    have hbW : Kp (fun q => w.heap.size + 2 ≤ q) w1 W := by
      rw [hW]
      exact ((((Kp.refl _ w1).setCell (.inl (by simp)) _).setCell (.inl (by simp)) _).alloc _).alloc _
    have hR : RdS W w1.heap.size ao cap l s.size 0 0 0 := by
      refine ⟨?_, ?_, ?_, ?_, ?_, ?_, ?_, ?_, by omega, hlen, by omega, by omega, by omega, ?_⟩
      all_goals first | (rw [hW]; simp [go_sem]; done) | skip
      · rcases owns_shape hown with ⟨_, _, e, hz⟩ | ⟨g, cap', e, hg1, hg2, t⟩
        · exact .inl hz
        · cases e
          refine .inr ⟨g, rfl, by omega, by omega, ?_⟩
          have hS : w.heap.size + 2 ≤ g := by simpa using hg1
          have hc : ∀ i, W.cell? ⟨g, i, none⟩ = w1.cell? ⟨g, i, none⟩ := fun i => World.cell?_of_block (w := w1) (a := ⟨g, i, none⟩) (hbW.block g hg2 hS)
          exact ⟨fun k hk => by rw [hc]; exact t.c0 k hk, fun k hk => by rw [hc]; exact t.c1 k hk, fun k hk => by rw [hc]; exact t.c2 k hk⟩
    have hWc : W.cell? ⟨w1.heap.size + 1, 0, none⟩ = some (.pointer (some ⟨w1.heap.size, 0, none⟩)) ∧ W.cell? ⟨w.heap.size, 0, none⟩ = some (.slice none 0 0) ∧ W.cell? ⟨w.heap.size + 1, 0, none⟩ = some (.int .i64 0) ∧ W.cell? ⟨w.heap.size + 1, 1, none⟩ = some (.int .i64 a) ∧ (∀ i, W.frozen? ⟨w.heap.size, i, none⟩ = false) ∧ (∀ i, W.frozen? ⟨w.heap.size + 1, i, none⟩ = false) := by
      have hlt0 : w.heap.size < w1.heap.size := by omega
      have hlt1 : w.heap.size + 1 < w1.heap.size := by omega
      have lt : ∀ b, b < w1.heap.size → ∀ X Y i, ((((w1.setCell ⟨w.heap.size + 1, 0, none⟩ (.int .i64 0)).setCell ⟨w.heap.size + 1, 1, none⟩ (.int .i64 a)).alloc X).alloc Y).cell? ⟨b, i, none⟩ = ((w1.setCell ⟨w.heap.size + 1, 0, none⟩ (.int .i64 0)).setCell ⟨w.heap.size + 1, 1, none⟩ (.int .i64 a)).cell? ⟨b, i, none⟩ := fun b hb X Y i => by
        rw [World.cell?_alloc_lt _ _ _ (by simp [World.setCell]; omega), World.cell?_alloc_lt _ _ _ (by simp [World.setCell]; omega)]
      have lf : ∀ b, b < w1.heap.size → ∀ X Y i, ((((w1.setCell ⟨w.heap.size + 1, 0, none⟩ (.int .i64 0)).setCell ⟨w.heap.size + 1, 1, none⟩ (.int .i64 a)).alloc X).alloc Y).frozen? ⟨b, i, none⟩ = ((w1.setCell ⟨w.heap.size + 1, 0, none⟩ (.int .i64 0)).setCell ⟨w.heap.size + 1, 1, none⟩ (.int .i64 a)).frozen? ⟨b, i, none⟩ := fun b hb X Y i => by
        rw [World.frozen?_alloc_old _ _ _ (by simp [World.setCell]; omega), World.frozen?_alloc_old _ _ _ (by simp [World.setCell]; omega)]
      rw [hW]
      refine ⟨by simp [go_sem], ?_, ?_, ?_, fun i => ?_, fun i => ?_⟩
      · rw [lt _ hlt0]; simp [go_sem, o0]
      · rw [lt _ hlt1]; simp [go_sem, f0]
      · rw [lt _ hlt1]; simp [go_sem, f1]
      · rw [lf _ hlt0]; simp [go_sem, of_]
      · rw [lf _ hlt1]; simp [go_sem, ff]
    have T := text_any hR
    go_wp2_with fail
    rw [← hW]
    cases hA : text l s.size with
    | out =>
      rw [hA] at T
      refine T.mono ?_
      rintro e w2 h2
      exact h2.elim
    | err c b =>
      have hc : c ≠ 0 := textL_erc _ _ _ hA
      rw [hA] at T
      refine T.mono ?_
      rintro e w2 ⟨rfl, k5, k6, hb2⟩
      have z2 := hb2.size
      have g0 : w2.cell? ⟨w.heap.size, 0, none⟩ = some (.slice none 0 0) := by rw [hb2.cell (by omega) (by omega)]; exact hWc.2.1
      have g1 : w2.cell? ⟨w.heap.size + 1, 0, none⟩ = some (.int .i64 0) := by rw [hb2.cell (by omega) (by omega)]; exact hWc.2.2.1
      have g2 : w2.cell? ⟨w.heap.size + 1, 1, none⟩ = some (.int .i64 a) := by rw [hb2.cell (by omega) (by omega)]; exact hWc.2.2.2.1
      have g3 : ∀ i, w2.frozen? ⟨w.heap.size, i, none⟩ = false := fun i => by rw [hb2.frozen (by omega) (by omega)]; exact hWc.2.2.2.2.1 i
      have g4 : ∀ i, w2.frozen? ⟨w.heap.size + 1, i, none⟩ = false := fun i => by rw [hb2.frozen (by omega) (by omega)]; exact hWc.2.2.2.2.2 i
      have g5 : w2.cell? ⟨w1.heap.size + 1, 0, none⟩ = some (.pointer (some ⟨w1.heap.size, 0, none⟩)) := by rw [hb2.cell (by omega) (by omega)]; exact hWc.1
      have bel : Below w.heap.size w w2 := hWb.trans (hb2.below (by omega) (by omega))
      go_wp2_with fail
      refine leaves_cons (f := 39) (args := #[.pointer (some ⟨w1.heap.size + 1, 0, none⟩), .pointer (some ⟨w.heap.size, 0, none⟩), .pointer (some ⟨w.heap.size + 1, 0, none⟩)]) (by simp) (by simp [go_sem]) ?_
      refine (catch_panicking (w1.heap.size + 1) w.heap.size (w.heap.size + 1) w1.heap.size c b 0 a (.slice none 0 0) _ _ [] w2 g5 k5 k6 hc g0 g1 g2 (g3 0) g4 (by omega) (by omega) (by omega) (by omega)).mono ?_
      rintro e u' w3 ⟨rfl, rfl, rfl⟩
      have x1 : ((w2.setCell ⟨w.heap.size, 0, none⟩ (.slice none 0 0)).setCell ⟨w.heap.size + 1, 0, none⟩ (.int .i64 c)).cell? ⟨w.heap.size + 1, 1, none⟩ = some (.int .i64 a) := by simp [go_sem, g2]
      simp only [Leaves, settle, List.dropWhile]
      refine ⟨.tuple #[.agg #[.slice none 0 0], .agg #[.int .i64 c, .int .i64 b]], ?_, ?_⟩
      · simp [results, Try.results18, go_sem, g0, g1, g2]
      · exact ⟨rfl, ((bel.setCell (by simp) _).setCell (by simp) _).setCell (by simp) _⟩
    | ok ds n p =>
      rw [hA] at T
      refine T.mono ?_
      rintro e w2 ⟨v, n', p', rfl, hds, h2, hb2⟩
      obtain ⟨hdl, aod, capd, rfl, hdin⟩ := hds
      have z2 := hb2.size
      have g0 : w2.cell? ⟨w.heap.size, 0, none⟩ = some (.slice none 0 0) := by rw [hb2.cell (by omega) (by omega)]; exact hWc.2.1
      have g1 : w2.cell? ⟨w.heap.size + 1, 0, none⟩ = some (.int .i64 0) := by rw [hb2.cell (by omega) (by omega)]; exact hWc.2.2.1
      have g2 : w2.cell? ⟨w.heap.size + 1, 1, none⟩ = some (.int .i64 a) := by rw [hb2.cell (by omega) (by omega)]; exact hWc.2.2.2.1
      have g3 : ∀ i, w2.frozen? ⟨w.heap.size, i, none⟩ = false := fun i => by rw [hb2.frozen (by omega) (by omega)]; exact hWc.2.2.2.2.1 i
      have g4 : ∀ i, w2.frozen? ⟨w.heap.size + 1, i, none⟩ = false := fun i => by rw [hb2.frozen (by omega) (by omega)]; exact hWc.2.2.2.2.2 i
      have g5 : w2.cell? ⟨w1.heap.size + 1, 0, none⟩ = some (.pointer (some ⟨w1.heap.size, 0, none⟩)) := by rw [hb2.cell (by omega) (by omega)]; exact hWc.1
      have bel : Below w.heap.size w w2 := hWb.trans (hb2.below (by omega) (by omega))
      go_wp2_with fail
      refine leaves_cons (f := 39) (args := #[.pointer (some ⟨w1.heap.size + 1, 0, none⟩), .pointer (some ⟨w.heap.size, 0, none⟩), .pointer (some ⟨w.heap.size + 1, 0, none⟩)]) (by simp) (by simp [go_sem]) ?_
      refine (catch_idle (w1.heap.size + 1) w.heap.size (w.heap.size + 1) w1.heap.size _ ?_ ?_).mono ?_
      · simp [go_sem, g5]
      · have := h2.c5
        simp [go_sem, this]
      rintro e u' w3 ⟨rfl, rfl, rfl⟩
      simp only [Leaves, settle]
      refine ⟨.tuple #[.agg #[.slice aod ds.length capd], .agg #[.int .i64 0, .int .i64 0]], ?_, ?_⟩
      · simp [results, Try.results18, go_sem, g0, g1, g2]
      · rw [hA]
        refine ⟨_, rfl, ?_, ((bel.setCell (by simp) _).setCell (by simp) _).setCell (by simp) _⟩
        exact (show DsV w2 _ _ ds from ⟨hdl, aod, capd, rfl, hdin⟩).kp ((((Kp.refl _ w2).setCell (.inl (by simp; omega)) _).setCell (.inl (by simp; omega)) _).setCell (.inl (by simp; omega)) _) (fun k _ h => by omega)
  · rw [if_neg hc]
    have hcB : (c != 0) = true := by simpa using hc
    go_enter_defers Try.func18, Try.ntmps18
    go_wp2_with fail
    refine (S _).mono ?_
    rintro e w1 ⟨v, rfl, hown, hb1⟩
    have z1 := hb1.size
    simp at z1
    have f0 : w1.cell? ⟨w.heap.size + 1, 0, none⟩ = some (.int .i64 0) := by rw [hb1.cell (p := ⟨w.heap.size + 1, 0, none⟩) (by simp)]; simp
    have f1 : w1.cell? ⟨w.heap.size + 1, 1, none⟩ = some (.int .i64 0) := by rw [hb1.cell (p := ⟨w.heap.size + 1, 1, none⟩) (by simp)]; simp
    have ff : ∀ i, w1.frozen? ⟨w.heap.size + 1, i, none⟩ = false := fun i => by rw [hb1.frozen (p := ⟨w.heap.size + 1, i, none⟩) (by simp)]; simp
    have o0 : w1.cell? ⟨w.heap.size, 0, none⟩ = some (.slice none 0 0) := by rw [hb1.cell (p := ⟨w.heap.size, 0, none⟩) (by simp; omega)]; simp
    have of_ : ∀ i, w1.frozen? ⟨w.heap.size, i, none⟩ = false := fun i => by rw [hb1.frozen (p := ⟨w.heap.size, i, none⟩) (by simp; omega)]; simp
    go_wp2_with fail
    go_region
    go_wp2_with fail
    refine ⟨.tuple #[.agg #[.slice none 0 0], .agg #[.int .i64 c, .int .i64 a]], ?_, rfl, ?_⟩
    · have x1 : ((w1.setCell ⟨w.heap.size + 1, 0, none⟩ (.int .i64 c)).setCell ⟨w.heap.size + 1, 1, none⟩ (.int .i64 a)).cell? ⟨w.heap.size + 1, 1, none⟩ = some (.int .i64 a) := by simp [go_sem, f1]
      have x2 : (((w1.setCell ⟨w.heap.size + 1, 0, none⟩ (.int .i64 c)).setCell ⟨w.heap.size + 1, 1, none⟩ (.int .i64 a)).setCell ⟨w.heap.size, 0, none⟩ (.slice none 0 0)).cell? ⟨w.heap.size + 1, 1, none⟩ = some (.int .i64 a) := by
        rw [World.cell?_of_block (a := ⟨w.heap.size + 1, 1, none⟩) (Below.heap_setCell _ _ _ _ (by simp))]; exact x1
      have x3 : ((((w1.setCell ⟨w.heap.size + 1, 0, none⟩ (.int .i64 c)).setCell ⟨w.heap.size + 1, 1, none⟩ (.int .i64 a)).setCell ⟨w.heap.size, 0, none⟩ (.slice none 0 0)).setCell ⟨w.heap.size + 1, 0, none⟩ (.int .i64 c)).cell? ⟨w.heap.size + 1, 1, none⟩ = some (.int .i64 a) := by
        simp [go_sem, x2]
      have x4 : (((((w1.setCell ⟨w.heap.size + 1, 0, none⟩ (.int .i64 c)).setCell ⟨w.heap.size + 1, 1, none⟩ (.int .i64 a)).setCell ⟨w.heap.size, 0, none⟩ (.slice none 0 0)).setCell ⟨w.heap.size + 1, 0, none⟩ (.int .i64 c)).setCell ⟨w.heap.size + 1, 1, none⟩ (.int .i64 a)).cell? ⟨w.heap.size + 1, 1, none⟩ = some (.int .i64 a) :=
        World.cell?_setCell_same _ _ _ x3
      simp [results, Try.results18, go_sem, o0, f0, x4]
    · exact Below.drew ((((((((Below.refl _ _).alloc (Nat.le_refl _) _).alloc (by simp) _).trans (hb1.mono (by simp; omega))).setCell (by simp) _).setCell (by simp) _).setCell (by simp) _).setCell (by simp) _ |>.setCell (by simp) _)
end Go.Proofs.Ytkianolbnjineaa
