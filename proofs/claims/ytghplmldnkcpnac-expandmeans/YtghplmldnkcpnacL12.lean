/- The program's way from definitions to a grammar: expand.Make. -/
import Derived.Test.YtghplmldnkcpnacL10
import Derived.Test.YtghplmldnkcpnacL11
import Derived.Deep.RegionHeld3
import Derived.RegionTactic
import Derived.Deep.CutRange
namespace Go.Proofs.Ytghplmldnkcpnac
open Go.RowKit G

theorem SsL.here {w w' : World} {v : Value} {l : List ByteArray} (h : SsL w w.heap.size v l) (hb : Below w.heap.size w w') : SsL w' w'.heap.size v l :=
  ⟨h.1.below hb, fun b o n c e => by have := h.2 b o n c e; have := hb.size; omega⟩
theorem SsL_owned {w : World} {base : Nat} {e : TypeId} {v : Value} {l : List ByteArray} (h : w.ownsRow base e 1 v l.length (l.map .string)) (hl : l.length ≤ 9223372036854775807) : SsL w w.heap.size v l :=
  ⟨SsV_owned h hl, fun b o n c e => (h.lt b (by rw [e]; rcases h.2 with ⟨h1, _⟩ | ⟨g, cap, cur, h1, _⟩ <;> rw [e] at h1 <;> simp at h1 <;> simp [Value.ownBlock, h1])).2⟩
theorem SsU_owned {w : World} {base : Nat} {e : TypeId} {v : Value} {l : List ByteArray} {xs : List Value} (h : w.ownsRow base e 1 v l.length xs) : ∀ b o n c, v = .slice (some ⟨b, o, none⟩) n c → base ≤ b :=
  fun b o n c e => (h.lt b (by rw [e]; rcases h.2 with ⟨h1, _⟩ | ⟨g, cap, cur, h1, _⟩ <;> rw [e] at h1 <;> simp at h1 <;> simp [Value.ownBlock, h1])).1
theorem SsV.old {w w' : World} {B : Nat} {v : Value} {l : List ByteArray} (h : SsV w v l) (hB : ∀ b o n c, v = .slice (some ⟨b, o, none⟩) n c → B ≤ b) (hk : ∀ k, k < w.heap.size → B ≤ k → w'.heap[k]? = w.heap[k]?) : SsV w' v l := by
  obtain ⟨h1, ao, cap, h2, h3, h4⟩ := h
  refine ⟨h1, ao, cap, h2, h3, h4.imp id fun ⟨b, o, e, hc⟩ => ⟨b, o, e, fun i hi => ?_⟩⟩
  rw [World.cell?_of_block (w := w) (a := ⟨b, o + i, none⟩) (hk b (lt_of_cell (hc i hi)) (hB b o _ _ (by rw [h2, e])))]; exact hc i hi
/-- The deferred function, where it has given up. -/
theorem mcatch_panicking (p ob fb r : Nat) (c a c0 a0 o0 o1 o2 : Int) (v3 v4 v5 : Value) (u : TypeId) (pv : Value) (older : List PanicEntry) (w : World) (hq : w.cell? ⟨p, 0, none⟩ = some (.pointer (some ⟨r, 0, none⟩)))
    (h5 : w.cell? ⟨r, 5, none⟩ = some (.int .i64 c)) (h6 : w.cell? ⟨r, 6, none⟩ = some (.int .i64 a)) (hc : c ≠ 0)
    (k0 : w.cell? ⟨ob, 0, none⟩ = some (.int .i64 o0)) (k1 : w.cell? ⟨ob, 1, none⟩ = some (.int .i64 o1)) (k2 : w.cell? ⟨ob, 2, none⟩ = some (.int .i64 o2)) (k3 : w.cell? ⟨ob, 3, none⟩ = some v3) (k4 : w.cell? ⟨ob, 4, none⟩ = some v4) (k5 : w.cell? ⟨ob, 5, none⟩ = some v5)
    (hf0 : w.cell? ⟨fb, 0, none⟩ = some (.int .i64 c0)) (hf1 : w.cell? ⟨fb, 1, none⟩ = some (.int .i64 a0))
    (zo : ∀ i, w.frozen? ⟨ob, i, none⟩ = false) (zf : ∀ i, w.frozen? ⟨fb, i, none⟩ = false) (n1 : ob ≠ r) (n2 : ob ≠ fb) (_n4 : fb ≠ r) :
    CallsD Try.prog 63 #[.pointer (some ⟨p, 0, none⟩), .pointer (some ⟨ob, 0, none⟩), .pointer (some ⟨fb, 0, none⟩)] (.panicking ({ v := .iface u pv, recovered := false } :: older)) w fun e u' w' =>
      e = .returned (.tuple #[]) ∧ u' = .panicking ({ v := .iface u pv, recovered := true } :: older) ∧ Below (min ob fb) w w' ∧
        (w'.cell? ⟨ob, 0, none⟩ = some (.int .i64 0) ∧ w'.cell? ⟨ob, 1, none⟩ = some (.int .i64 0) ∧ w'.cell? ⟨ob, 2, none⟩ = some (.int .i64 0) ∧ w'.cell? ⟨ob, 3, none⟩ = some (.slice none 0 0) ∧ w'.cell? ⟨ob, 4, none⟩ = some (.slice none 0 0) ∧ w'.cell? ⟨ob, 5, none⟩ = some (.slice none 0 0)) ∧ w'.cell? ⟨fb, 0, none⟩ = some (.int .i64 c) ∧ w'.cell? ⟨fb, 1, none⟩ = some (.int .i64 a) := by
  refine callsD_of_wpS Try.func63 rfl fun f₀ cs hu => ?_
  apply wpS_seq
  apply wpS_region
  simp [wpOpsS, go_sem, Try.ntmps63, Exit.thenS, hq, h5, Array.replicate]
  refine wpS_cond (t := true) (by simp [Act.eval, hc]) ?_
  simp only [if_true]
  apply wpS_seq
  apply wpS_region
  simp [wpOpsS, go_sem, recoverD, hu, Exit.thenS]
  have n1' := Ne.symm n1
  have n2' := Ne.symm n2
  refine wpS_of_wp ?_
  go_wp2_with fail
  have B : Below (min ob fb) w ((((((((w.setCell ⟨ob, 0, none⟩ (.int .i64 0)).setCell ⟨ob, 1, none⟩ (.int .i64 0)).setCell ⟨ob, 2, none⟩ (.int .i64 0)).setCell ⟨ob, 3, none⟩ (.slice none 0 0)).setCell ⟨ob, 4, none⟩ (.slice none 0 0)).setCell ⟨ob, 5, none⟩ (.slice none 0 0)).setCell ⟨fb, 0, none⟩ (.int .i64 c)).setCell ⟨fb, 1, none⟩ (.int .i64 a)) :=
    ((((((((Below.refl _ _).setCell (p := ⟨ob, 0, none⟩) (Nat.min_le_left _ _) _).setCell (p := ⟨ob, 1, none⟩) (Nat.min_le_left _ _) _).setCell (p := ⟨ob, 2, none⟩) (Nat.min_le_left _ _) _).setCell (p := ⟨ob, 3, none⟩) (Nat.min_le_left _ _) _).setCell (p := ⟨ob, 4, none⟩) (Nat.min_le_left _ _) _).setCell (p := ⟨ob, 5, none⟩) (Nat.min_le_left _ _) _).setCell (p := ⟨fb, 0, none⟩) (Nat.min_le_right _ _) _).setCell (p := ⟨fb, 1, none⟩) (Nat.min_le_right _ _) _
  simp [bodyPostS, results, Try.results63, go_sem, k0, k1, k2, k3, k4, k5, hf0, hf1, B]
set_option maxRecDepth 100000 in
set_option maxHeartbeats 2000000 in
theorem mcatch_idle (p ob fb r : Nat) (w : World) (hq : w.cell? ⟨p, 0, none⟩ = some (.pointer (some ⟨r, 0, none⟩))) (h5 : w.cell? ⟨r, 5, none⟩ = some (.int .i64 0)) :
    CallsD Try.prog 63 #[.pointer (some ⟨p, 0, none⟩), .pointer (some ⟨ob, 0, none⟩), .pointer (some ⟨fb, 0, none⟩)] .returning w fun e u' w' =>
      e = .returned (.tuple #[]) ∧ u' = .returning ∧ w' = w := by
  refine callsD_of_wpS Try.func63 rfl fun f₀ cs hu => ?_
  apply wpS_seq
  apply wpS_region
  simp [wpOpsS, go_sem, Try.ntmps63, Exit.thenS, hq, h5, Array.replicate]
  refine wpS_cond (t := false) (by simp [Act.eval]) ?_
  simp only [Bool.false_eq_true, if_false]
  refine wpS_of_wp (wp_skip ?_)
  cases f₀
  simp_all [bodyPostS, results, Try.results63]
/-- Make tells a fault. -/
def MkF (w : World) (c a : Int) (e : Ending) (w' : World) : Prop :=
  e = .returned (.tuple #[.agg #[.int .i64 0, .int .i64 0, .int .i64 0, .slice none 0 0, .slice none 0 0, .slice none 0 0], .agg #[.int .i64 c, .int .i64 a]]) ∧ Below w.heap.size w w'
/-- Make tells a grammar. -/
def MkG (w : World) (g : Gm) (N T : List ByteArray) (e : Ending) (w' : World) : Prop :=
  ∃ vr vn vt, e = .returned (.tuple #[.agg #[.int .i64 g.vars, .int .i64 g.terms, .int .i64 g.start, vr, vn, vt], .agg #[.int .i64 0, .int .i64 0]]) ∧ RsV w' (fun k => w.heap.size ≤ k) vr g.rules ∧ SsV w' vn N ∧ SsV w' vt T ∧ Below w.heap.size w w'
/-- The blocks of Make's own: the text, and what is told. -/
structure Rb (u : World) (b : Nat) (tv : Value) : Prop where
  t0 : u.cell? ⟨b, 0, none⟩ = some tv
  o0 : u.cell? ⟨b + 1, 0, none⟩ = some (.int .i64 0)
  o1 : u.cell? ⟨b + 1, 1, none⟩ = some (.int .i64 0)
  o2 : u.cell? ⟨b + 1, 2, none⟩ = some (.int .i64 0)
  o3 : u.cell? ⟨b + 1, 3, none⟩ = some (.slice none 0 0)
  o4 : u.cell? ⟨b + 1, 4, none⟩ = some (.slice none 0 0)
  o5 : u.cell? ⟨b + 1, 5, none⟩ = some (.slice none 0 0)
  f0 : u.cell? ⟨b + 2, 0, none⟩ = some (.int .i64 0)
  f1 : u.cell? ⟨b + 2, 1, none⟩ = some (.int .i64 0)
  zo : ∀ i, u.frozen? ⟨b + 1, i, none⟩ = false
  zf : ∀ i, u.frozen? ⟨b + 2, i, none⟩ = false
theorem Rb.of {u u' : World} {b : Nat} {tv : Value} (h : Rb u b tv) (hb : ∀ k, k < b + 3 → u'.heap[k]? = u.heap[k]?) : Rb u' b tv := by
  have hc : ∀ k i v, k < b + 3 → u.cell? ⟨k, i, none⟩ = some v → u'.cell? ⟨k, i, none⟩ = some v := fun k i v hk h => by rw [World.cell?_of_block (w := u) (a := ⟨k, i, none⟩) (hb k hk)]; exact h
  exact ⟨hc _ _ _ (by omega) h.t0, hc _ _ _ (by omega) h.o0, hc _ _ _ (by omega) h.o1, hc _ _ _ (by omega) h.o2, hc _ _ _ (by omega) h.o3, hc _ _ _ (by omega) h.o4, hc _ _ _ (by omega) h.o5, hc _ _ _ (by omega) h.f0, hc _ _ _ (by omega) h.f1,
    fun i => by rw [World.frozen?_of_block (w := u) (a := ⟨b + 1, i, none⟩) (hb (b + 1) (by omega))]; exact h.zo i, fun i => by rw [World.frozen?_of_block (w := u) (a := ⟨b + 2, i, none⟩) (hb (b + 2) (by omega))]; exact h.zf i⟩
set_option maxRecDepth 100000 in
set_option maxHeartbeats 4000000 in
theorem make_wrong (ds : List Df) (va : Value) (w : World) (hx : DsV w All va ds) (h60 : ds.length ≤ 60) (hs : ∀ d ∈ ds, d.e.sz ≤ 3000 ∧ d.sh) (hd0 : (dfl ds).1 ≠ 0) :
    Calls Try.prog 25 #[.agg #[va]] w (MkF w (dfl ds).1 (dfl ds).2) := by
  have CA := fun w' (hb : Below w.heap.size w w') => dcheck_any ds va w' (hx.kp (Kp.of_below hb) (fun _ _ h => h)) h60 hs
  obtain ⟨hl, ao, cap, rfl, hin⟩ := hx
  generalize dfl ds = D at *
  obtain ⟨c, a⟩ := D
  simp only at hd0 CA ⊢
  have hcB : (c != 0) = true := by simpa using hd0
  have hmf : ∀ (fn : Fn) (first cap : Array Value) (w : World), (Instr.makeFunc fn first cap).run Try.prog w = .ok (.func fn first cap) w := fun _ _ _ _ => rfl
  obtain ⟨V, hV⟩ : ∃ V, V = ((w.alloc (.cells #[.slice ao ds.length cap] 42)).alloc (.cells #[.int .i64 0, .int .i64 0, .int .i64 0, .slice none 0 0, .slice none 0 0, .slice none 0 0] 47)).alloc (.cells #[.int .i64 0, .int .i64 0] 29) := ⟨_, rfl⟩
  have hVb : Below w.heap.size w V := by rw [hV]; exact (al2 w _ _).alloc (by simp <;> omega) _
  have hVz : V.heap.size = w.heap.size + 3 := by rw [hV]; simp
  have rbV : Rb V w.heap.size (.slice ao ds.length cap) := by
    rw [hV]
    constructor <;> simp [go_sem]
  go_enter_defers Try.func25, Try.ntmps25
  go_wp2_with fail
  rw [← hV]
  refine (CA _ hVb).mono ?_
  rintro e w1 ⟨rfl, hb1⟩
  have HV := hd hV
  clear hV CA
  obtain ⟨U, hU⟩ : ∃ U, U = w1.alloc (.cells #[.int .i64 c, .int .i64 a] 29) := ⟨_, rfl⟩
  have hVU : Below V.heap.size V U := by rw [hU]; exact bthen hb1 (G.al1 _ _)
  have bU : Below w.heap.size w U := bthen hVb hVU
  obtain ⟨t0, o0, o1, o2, o3, o4, o5, f0, f1, zo, zf⟩ := rbV.of (u' := U) (fun k hk => hVU.block k (by omega))
  have zU : w.heap.size + 3 ≤ U.heap.size := by have := hVU.size; omega
  have g0 : U.cell? ⟨w1.heap.size, 0, none⟩ = some (.int .i64 c) := by rw [hU]; simp
  have g1 : U.cell? ⟨w1.heap.size, 1, none⟩ = some (.int .i64 a) := by rw [hU]; simp
  have z1 := hb1.size
  go_upto_region 3 with fail
  rw [← hU]
  have HU := hd hU
  clear hU
  go_region
  go_wp2_with fail
  obtain ⟨Z, hZ⟩ : ∃ Z, Z = (((((((U.setCell ⟨w.heap.size + 1, 0, none⟩ (.int .i64 0)).setCell ⟨w.heap.size + 1, 1, none⟩ (.int .i64 0)).setCell ⟨w.heap.size + 1, 2, none⟩ (.int .i64 0)).setCell ⟨w.heap.size + 1, 3, none⟩ (.slice none 0 0)).setCell ⟨w.heap.size + 1, 4, none⟩ (.slice none 0 0)).setCell ⟨w.heap.size + 1, 5, none⟩ (.slice none 0 0)).setCell ⟨w.heap.size + 1 + 1, 0, none⟩ (.int .i64 c)).setCell ⟨w.heap.size + 1 + 1, 1, none⟩ (.int .i64 a) := ⟨_, rfl⟩
  have y0 : Z.cell? ⟨w.heap.size + 1, 0, none⟩ = some (.int .i64 0) := by rw [hZ]; simp [go_sem, o0]
  have y1 : Z.cell? ⟨w.heap.size + 1, 1, none⟩ = some (.int .i64 0) := by rw [hZ]; simp [go_sem, o1]
  have y2 : Z.cell? ⟨w.heap.size + 1, 2, none⟩ = some (.int .i64 0) := by rw [hZ]; simp [go_sem, o2]
  have y3 : Z.cell? ⟨w.heap.size + 1, 3, none⟩ = some (.slice none 0 0) := by rw [hZ]; simp [go_sem, o3]
  have y4 : Z.cell? ⟨w.heap.size + 1, 4, none⟩ = some (.slice none 0 0) := by rw [hZ]; simp [go_sem, o4]
  have y5 : Z.cell? ⟨w.heap.size + 1, 5, none⟩ = some (.slice none 0 0) := by rw [hZ]; simp [go_sem, o5]
  have y6 : Z.cell? ⟨w.heap.size + 1 + 1, 0, none⟩ = some (.int .i64 c) := by rw [hZ]; simp [go_sem, f0]
  have y7 : Z.cell? ⟨w.heap.size + 1 + 1, 1, none⟩ = some (.int .i64 a) := by rw [hZ]; simp [go_sem, f1]
  have bZ : Below w.heap.size w Z := by
    rw [hZ]
    exact (((((((bU.setCell (p := ⟨w.heap.size + 1, 0, none⟩) (Nat.le_succ _) _).setCell (p := ⟨w.heap.size + 1, 1, none⟩) (Nat.le_succ _) _).setCell (p := ⟨w.heap.size + 1, 2, none⟩) (Nat.le_succ _) _).setCell (p := ⟨w.heap.size + 1, 3, none⟩) (Nat.le_succ _) _).setCell (p := ⟨w.heap.size + 1, 4, none⟩) (Nat.le_succ _) _).setCell (p := ⟨w.heap.size + 1, 5, none⟩) (Nat.le_succ _) _).setCell (p := ⟨w.heap.size + 1 + 1, 0, none⟩) (Nat.le_add_right _ 2) _).setCell (p := ⟨w.heap.size + 1 + 1, 1, none⟩) (Nat.le_add_right _ 2) _
  rw [← hZ]
  clear hZ
  refine ⟨.tuple #[.agg #[.int .i64 0, .int .i64 0, .int .i64 0, .slice none 0 0, .slice none 0 0, .slice none 0 0], .agg #[.int .i64 c, .int .i64 a]], ?_, rfl, bthen bZ (G.drw1 _)⟩
  simp [results, Try.results25, go_sem, y0, y1, y2, y3, y4, y5, y6, y7]
/-- A new maker. -/
theorem mk_new {y : World} {vn vt : Value} {N T : List ByteArray} {n : Nat} (hn : SsL y y.heap.size vn N) (ht : SsL y y.heap.size vt T) (h64 : n ≤ 64) :
    MkS (y.alloc (.cells #[vn, vt, .int .i64 (n : Int), .slice none 0 0, .int .i64 0, .int .i64 0, .int .i64 0] 97)) y.heap.size vn vt N T ⟨n, [], false⟩ none (fun _ => False) 0 := by
  have hb : Below y.heap.size y (y.alloc (.cells #[vn, vt, .int .i64 (n : Int), .slice none 0 0, .int .i64 0, .int .i64 0, .int .i64 0] 97)) := G.al1 _ _
  refine ⟨⟨by simp, by simp, by simp, ⟨.slice none 0 0, [], by simp, World.ownsRow_nil _ _ _ _, trivial, rfl⟩, by simp [go_sem], by simp, hn.below hb, ht.below hb, by simp, h64, fun _ h => h.elim⟩, by simp, by simp, by simp, rfl⟩
theorem SsL.set {y : World} {r p : Nat} {v : Value} {l : List ByteArray} (h : SsL y r v l) {x u : Value} (hp : y.cell? ⟨p, 0, none⟩ = some x) (hx : ∀ s, x ≠ .string s) : SsL (y.setCell ⟨p, 0, none⟩ u) r v l := by
  obtain ⟨⟨h1, ao, cap, h2, h3, h4⟩, h5⟩ := h
  refine ⟨⟨h1, ao, cap, h2, h3, h4.imp id fun ⟨b, o, e, hc⟩ => ⟨b, o, e, fun i hi => ?_⟩⟩, h5⟩
  have h0 := hc i hi
  rw [World.cell?_setCell_other _ _ _ _ (fun e => by rw [← e, hp] at h0; simp at h0; exact hx _ h0)]
  exact h0
theorem mk_set {y : World} {r p : Nat} {vn vt : Value} {N T : List ByteArray} {n : Nat} {df : Int} {x u : Value} (h : MkS y r vn vt N T ⟨n, [], false⟩ none (fun _ => False) df) (hp : y.cell? ⟨p, 0, none⟩ = some x) (hx : ∀ s, x ≠ .string s) (hpr : p ≠ r) :
    MkS (y.setCell ⟨p, 0, none⟩ u) r vn vt N T ⟨n, [], false⟩ none (fun _ => False) df := by
  have hc : ∀ i v, y.cell? ⟨r, i, none⟩ = some v → (y.setCell ⟨p, 0, none⟩ u).cell? ⟨r, i, none⟩ = some v := fun i v hv => by
    rw [World.cell?_of_block (w := y) (a := ⟨r, i, none⟩) (Below.heap_setCell _ _ _ _ (fun e => hpr e.symm))]; exact hv
  have hfz : ∀ i, (y.setCell ⟨p, 0, none⟩ u).frozen? ⟨r, i, none⟩ = false := fun i => by
    rw [World.frozen?_of_block (w := y) (a := ⟨r, i, none⟩) (Below.heap_setCell _ _ _ _ (fun e => hpr e.symm))]; exact h.st.fz i
  obtain ⟨vr, xs, c3, ho, hrc, e⟩ := h.st.c3
  have hvr : vr = .slice none 0 0 := by
    rcases ho.2 with ⟨h1, _⟩ | ⟨g, cap, cur, h1, _⟩
    · exact h1
    · rw [h1] at e; simp [Value.ownBlock] at e
  have hxs : xs = [] := List.eq_nil_of_length_eq_zero (by rw [ho.1]; rfl)
  subst hvr hxs
  exact ⟨⟨hc _ _ h.st.c0, hc _ _ h.st.c1, hc _ _ h.st.c2, ⟨.slice none 0 0, [], hc _ _ c3, World.ownsRow_nil _ _ _ _, trivial, rfl⟩, hfz, by simpa [World.setCell] using h.st.sz, h.st.nn.set hp hx, h.st.tt.set hp hx, h.st.rl, h.st.vl, fun _ h => h.elim⟩, hc _ _ h.c4, hc _ _ h.c5, hc _ _ h.c6, rfl⟩
theorem owns_old {w w' : World} {base B : Nat} {e : TypeId} {size : Nat} {v : Value} {n : Nat} {xs : List Value} (h : w.ownsRow base e size v n xs) (hk : ∀ k, k < w.heap.size → B ≤ k → w'.heap[k]? = w.heap[k]?) (hB : B ≤ base := by omega) : w'.ownsRow base e size v n xs := by
  obtain ⟨h1, h2⟩ := h
  refine ⟨h1, ?_⟩
  rcases h2 with h2 | ⟨g, cap, cur, hv, hg, hh, rest⟩
  · exact Or.inl h2
  · refine Or.inr ⟨g, cap, cur, hv, hg, ?_, rest⟩
    have hlt : g < w.heap.size := by
      rcases Nat.lt_or_ge g w.heap.size with h' | h'
      · exact h'
      · rw [Array.getElem?_eq_none h'] at hh; cases hh
    rw [hk g hlt (by omega)]; exact hh
theorem MkS.setDef {w : World} {r : Nat} {vn vt : Value} {N T : List ByteArray} {s : Sp} {q : Option Nat} {X : Nat → Prop} {df : Int} (h : MkS w r vn vt N T s q X df) (k : Int) : MkS (w.setCell ⟨r, 4, none⟩ (.int .i64 k)) r vn vt N T s q X k :=
  ⟨h.st.setOther (Nat.le_refl 4) _, World.cell?_setCell_same _ _ _ h.c4, by rw [World.cell?_setCell_other _ _ _ _ (by simp)]; exact h.c5, by rw [World.cell?_setCell_other _ _ _ _ (by simp)]; exact h.c6, h.nb⟩
set_option maxRecDepth 100000 in
set_option maxHeartbeats 16000000 in
theorem make_good (ds : List Df) (va : Value) (w : World) (hx : DsV w All va ds) (h60 : ds.length ≤ 60) (hs : ∀ d ∈ ds, d.e.sz ≤ 3000 ∧ d.sh) (hd0 : (dfl ds).1 = 0) :
    Calls Try.prog 25 #[.agg #[va]] w fun e w' => if (exA ds).1.bad = true then MkF w 6 (exA ds).2 e w' else MkG w ⟨(exA ds).1.vars, (trms ds).length, 0, (exA ds).1.rules⟩ (nms ds) (trms ds) e w' := by
  have CA := fun w' (hb : Below w.heap.size w w') => dcheck_any ds va w' (hx.kp (Kp.of_below hb) (fun _ _ h => h)) h60 hs
  have NA := fun w' (hb : Below w.heap.size w w') => names_any ds va w' (hx.kp (Kp.of_below hb) (fun _ _ h => h)) h60
  have TA := fun w' (hb : Below w.heap.size w w') => terms_any ds va w' (hx.kp (Kp.of_below hb) (fun _ _ h => h)) h60 hs
  obtain ⟨hfine, _, htl, _⟩ := dfl_zero hd0
  have hnl : (nms ds).length ≤ 9223372036854775807 := by rw [nms_len]; omega
  have htl' : (trms ds).length ≤ 9223372036854775807 := by omega
  have hfew := hfine.few
  have hR : exG (nms ds) (trms ds) (ds.drop 0) 0 ⟨ds.length, [], false⟩ = exA ds := rfl
  obtain ⟨hl, ao, cap, rfl, hin⟩ := hx
  generalize exA ds = R at *
  generalize nms ds = N at *
  generalize trms ds = T at *
  rw [hd0] at CA
  generalize (dfl ds).2 = a at *
  obtain ⟨V, hV⟩ : ∃ V, V = ((w.alloc (.cells #[.slice ao ds.length cap] 42)).alloc (.cells #[.int .i64 0, .int .i64 0, .int .i64 0, .slice none 0 0, .slice none 0 0, .slice none 0 0] 47)).alloc (.cells #[.int .i64 0, .int .i64 0] 29) := ⟨_, rfl⟩
  have hVb : Below w.heap.size w V := by rw [hV]; exact (al2 w _ _).alloc (by simp <;> omega) _
  have hVz : V.heap.size = w.heap.size + 3 := by rw [hV]; simp
  have rbV : Rb V w.heap.size (.slice ao ds.length cap) := by
    rw [hV]
    constructor <;> simp [go_sem]
  go_enter_defers Try.func25, Try.ntmps25
  go_wp2_with fail
  rw [← hV]
  refine (CA _ hVb).mono ?_
  rintro e w1 ⟨rfl, hb1⟩
  have HV := hd hV
  clear hV CA
  obtain ⟨U, hU⟩ : ∃ U, U = w1.alloc (.cells #[.int .i64 0, .int .i64 a] 29) := ⟨_, rfl⟩
  have hVU : Below V.heap.size V U := by rw [hU]; exact bthen hb1 (G.al1 _ _)
  have bU : Below w.heap.size w U := bthen hVb hVU
  have rbU := rbV.of (fun k hk => hVU.block k (by omega))
  have zU : w.heap.size + 3 ≤ U.heap.size := by have := hVU.size; omega
  have u0 : w1.cell? ⟨w.heap.size, 0, none⟩ = some (.slice ao ds.length cap) := bkeep hb1 rbV.t0
  have bD : Below U.heap.size U U.drew := G.drw1 U
  have S0 : U.drew.cell? ⟨w.heap.size, 0, none⟩ = some (.slice ao ds.length cap) := bkeep bD rbU.t0
  go_upto_region 4 with fail
  rw [← hU]
  have HU := hd hU
  clear hU
  go_cut [5] from 9 (fun v5 wc => ∃ p r vn vt, v5 = .pointer (some ⟨p, 0, none⟩) ∧ wc.cell? ⟨p, 0, none⟩ = some (.pointer (some ⟨r, 0, none⟩)) ∧ MkS wc r vn vt N T ⟨ds.length, [], false⟩ none (fun _ => False) 0 ∧ Below U.heap.size U wc ∧ U.heap.size ≤ r ∧ U.heap.size ≤ p ∧ p ≠ r ∧ (∀ b o n c, vn = .slice (some ⟨b, o, none⟩) n c → U.heap.size ≤ b) ∧ ∀ b o n c, vt = .slice (some ⟨b, o, none⟩) n c → U.heap.size ≤ b)
  case first =>
    refine wp_region_noPanic ?_
    refine wp_region_held_drew (S := fun w' => w'.cell? ⟨w.heap.size, 0, none⟩ = some (.slice ao ds.length cap)) (by kernel_rfl) S0 ?_
    intro hSw
    obtain ⟨y0, hy0⟩ : ∃ y0, y0 = U.drew := ⟨_, rfl⟩
    rw [← hy0] at hSw bD ⊢
    clear hy0
    refine wpAnyH_take (i := 0) (v := ?v1) rfl (by kernel_rfl) (by kernel_rfl) (by kernel_rfl) (fun _ _ _ h => np_panic h) (Or.inl ⟨by rfl, ?hy1⟩) (by assumption) ?_
    case hy1 => (intro w' hS'; (try dsimp only at hS'); go_simp; try with_reducible rfl)
    simp only [Act.put, List.setIfInBounds_toArray, List.set_cons_zero, List.set_cons_succ, List.getElem_toArray, List.getElem_cons_zero]
    refine wpAnyH_take (i := 2) (v := ?v2) rfl (by kernel_rfl) (by kernel_rfl) (by kernel_rfl) (fun _ _ _ h => np_panic h) (Or.inl ⟨by rfl, ?hy2⟩) (by assumption) ?_
    case hy2 => (intro w' hS'; (try dsimp only at hS'); go_simp; try with_reducible rfl)
    simp only [Act.put, List.setIfInBounds_toArray, List.set_cons_zero, List.set_cons_succ, List.getElem_toArray, List.getElem_cons_succ, List.getElem_cons_zero]
    refine wpAnyH_take (i := 4) (v := ?v3) rfl (by kernel_rfl) (by kernel_rfl) (by kernel_rfl) (fun _ _ _ h => np_panic h) (Or.inl ⟨by rfl, ?hy3⟩) (by assumption) ?_
    case hy3 => (intro w' hS'; (try dsimp only at hS'); go_simp; try with_reducible rfl)
    simp only [Act.put, List.setIfInBounds_toArray, List.set_cons_zero, List.set_cons_succ, List.getElem_toArray, List.getElem_cons_succ, List.getElem_cons_zero]
    refine wpAnyH_take (i := 5) (v := ?v4) rfl (by kernel_rfl) (by kernel_rfl) (by kernel_rfl) (fun _ _ _ h => np_panic h) (Or.inl ⟨by rfl, ?hy4⟩) (by assumption) ?_
    case hy4 => (intro w' hS'; (try dsimp only at hS'); go_simp; try with_reducible rfl)
    simp only [Act.put, List.setIfInBounds_toArray, List.set_cons_zero, List.set_cons_succ, List.getElem_toArray, List.getElem_cons_succ, List.getElem_cons_zero]
    refine wpAnyH_take (i := 6) (v := ?v5) rfl (by kernel_rfl) (by kernel_rfl) (by kernel_rfl) (fun _ _ _ h => np_panic h) (Or.inl ⟨by rfl, ?hy5⟩) (by assumption) ?_
    case hy5 => (intro w' hS'; (try dsimp only at hS'); go_simp; try with_reducible rfl)
    simp only [Act.put, List.setIfInBounds_toArray, List.set_cons_zero, List.set_cons_succ, List.getElem_toArray, List.getElem_cons_succ, List.getElem_cons_zero]
    refine wpAnyH_ready (rs := [1, 9]) (by kernel_rfl) (by simp) ?_
    refine AllReadyH.cons rfl (fun K hK => ?_) (AllReadyH.cons rfl (fun K hK => ?_) AllReadyH.nil)
    · go_simp
      go_at_call 61
      refine (NA _ (bthen bU bD)).mono ?_
      rintro e y1 ⟨v0, rfl, own0, hb0⟩
      have be0 := bthen bD hb0
      have st0 := bkeep hb0 hSw
      have zz0 := be0.size
      have sn0 := SsL_owned own0 hnl
      obtain ⟨aon, capn, rfl⟩ := owns_slice own0
      have un : ∀ b o n c, (Value.slice aon N.length capn) = .slice (some ⟨b, o, none⟩) n c → U.heap.size ≤ b := fun b o n c e => by have h1 := SsU_owned own0 b o n c e; have h2 := Below.size bD; omega
      clear own0
      refine hK.out _ _ st0 ?_
      clear hK K
      intro hSw
      try simp only [Act.put, List.setIfInBounds_toArray, List.set_cons_zero, List.set_cons_succ]
      refine wpAnyH_ready (rs := [3, 9]) (by kernel_rfl) (by simp) ?_
      refine AllReadyH.cons rfl (fun K hK => ?_) (AllReadyH.cons rfl (fun K hK => ?_) AllReadyH.nil)
      · go_simp
        go_at_call 62
        refine (TA _ (bthen bU be0)).mono ?_
        rintro e y2 ⟨v1, rfl, own1, hb1⟩
        have be1 := bthen be0 hb1
        have st1 := bkeep hb1 st0
        have zz1 := be1.size
        have sn1 := sn0.here hb1
        have sm1 := SsL_owned own1 htl'
        obtain ⟨aot, capt, rfl⟩ := owns_slice own1
        have ut : ∀ b o n c, (Value.slice aot T.length capt) = .slice (some ⟨b, o, none⟩) n c → U.heap.size ≤ b := fun b o n c e => by have h1 := SsU_owned own1 b o n c e; have h2 := Below.size be0; omega
        clear own1
        refine hK.out _ _ st1 ?_
        clear hK K
        intro hSw
        try simp only [Act.put, List.setIfInBounds_toArray, List.set_cons_zero, List.set_cons_succ]
        refine wpAnyH_take (i := 7) (v := ?v6) rfl (by kernel_rfl) (by kernel_rfl) (by kernel_rfl) (fun _ _ _ h => np_panic h) (Or.inl ⟨by rfl, ?hy6⟩) (by assumption) ?_
        case hy6 => (intro w' hS'; (try dsimp only at hS'); go_simp; try with_reducible rfl)
        simp only [Act.put, List.setIfInBounds_toArray, List.set_cons_zero, List.set_cons_succ, List.getElem_toArray, List.getElem_cons_succ, List.getElem_cons_zero]
        refine wpAnyH_ready (rs := [8, 9]) (by kernel_rfl) (by simp) ?_
        refine AllReadyH.cons rfl (fun K hK => ?_) (AllReadyH.cons rfl (fun K hK => ?_) AllReadyH.nil)
        · go_simp
          obtain ⟨y3, hy2⟩ : ∃ y3, y3 = World.alloc y2 (.cells #[.slice aon N.length capn, .slice aot T.length capt, .int .i64 (ds.length : Int), .slice none 0 0, .int .i64 0, .int .i64 0, .int .i64 0] 97) := ⟨_, rfl⟩
          have hb2 : Below (World.heap y2).size y2 y3 := by rw [hy2]; exact G.al1 _ _
          have mkN := mk_new (n := ds.length) sn1 sm1 (by omega)
          rw [← hy2] at mkN
          obtain ⟨rr, hrr⟩ : ∃ rr, rr = (World.heap y2).size := ⟨_, rfl⟩
          rw [← hrr] at mkN
          have hr2 : U.heap.size ≤ rr := by have := be1.size; omega
          have be2 := bthen be1 hb2
          have st2 := bkeep hb2 st1
          have zz2 := be2.size
          have sn2 := sn1.here hb2
          have sm2 := sm1.here hb2
          rw [← hy2, ← hrr]
          clear hy2 hrr
          refine hK.out _ _ st2 ?_
          clear hK K
          intro hSw
          try simp only [Act.put, List.setIfInBounds_toArray, List.set_cons_zero, List.set_cons_succ]
          refine wpAnyH_ready (rs := [9]) (by kernel_rfl) (by simp) ?_
          refine AllReadyH.cons rfl (fun K hK => ?_) AllReadyH.nil
          go_simp
          obtain ⟨y4, hy3⟩ : ∃ y4, y4 = World.alloc y3 (.cells #[.pointer none] 95) := ⟨_, rfl⟩
          have hb3 : Below (World.heap y3).size y3 y4 := by rw [hy3]; exact G.al1 _ _
          obtain ⟨pp, hpp⟩ : ∃ pp, pp = (World.heap y3).size := ⟨_, rfl⟩
          have be3 := bthen be2 hb3
          have st3 := bkeep hb3 st2
          have zz3 := be3.size
          have sn3 := sn2.here hb3
          have sm3 := sm2.here hb3
          have mk3 := mkN.lw hb3
          have cp3 : World.cell? y4 ⟨pp, 0, none⟩ = some (.pointer none) := by rw [hy3, hpp]; simp
          have fp3 : ∀ i, World.frozen? y4 ⟨pp, i, none⟩ = false := by rw [hy3, hpp]; intro i; simp [go_sem]
          have hp3 : U.heap.size ≤ pp := by have := be2.size; omega
          have hq3 : pp < (World.heap y4).size := lt_of_cell cp3
          have pr3 : pp ≠ rr := by have := mkN.st.sz; omega
          rw [← hy3, ← hpp]
          clear hy3 hpp
          refine hK.out _ _ st3 ?_
          clear hK K
          intro hSw
          try simp only [Act.put, List.setIfInBounds_toArray, List.set_cons_zero, List.set_cons_succ]
          refine wpAnyH_ready (rs := [10]) (by kernel_rfl) (by simp) ?_
          refine AllReadyH.cons rfl (fun K hK => ?_) AllReadyH.nil
          go_simp
          have mkZ := mk_set (u := .pointer (some ⟨rr, 0, none⟩)) mk3 cp3 (fun s => by simp) pr3
          have cpZ := World.cell?_setCell_same y4 ⟨pp, 0, none⟩ (.pointer (some ⟨rr, 0, none⟩)) cp3
          have beZ := be3.setCell (p := ⟨pp, 0, none⟩) hp3 (.pointer (some ⟨rr, 0, none⟩))
          have stZ : (World.setCell y4 ⟨pp, 0, none⟩ (.pointer (some ⟨rr, 0, none⟩))).cell? ⟨w.heap.size, 0, none⟩ = some (.slice ao ds.length cap) := by rw [beZ.cell (p := ⟨w.heap.size, 0, none⟩) (by show w.heap.size < U.heap.size; omega)]; exact rbU.t0
          refine hK.out _ _ stZ ?_
          clear hK K
          intro hSw
          try simp only [Act.put, List.setIfInBounds_toArray, List.set_cons_zero, List.set_cons_succ]
          refine wpAnyH_done (by kernel_rfl) (NoPanic.normal ?_) _
          go_wp2_with fail
          go_meet
          exact ⟨_, _, _, _, rfl, cpZ, mkZ, beZ, hr2, hp3, pr3, un, ut⟩
        · go_simp
          obtain ⟨y6, hy5⟩ : ∃ y6, y6 = World.alloc y2 (.cells #[.pointer none] 95) := ⟨_, rfl⟩
          have hb5 : Below (World.heap y2).size y2 y6 := by rw [hy5]; exact G.al1 _ _
          obtain ⟨pp, hpp⟩ : ∃ pp, pp = (World.heap y2).size := ⟨_, rfl⟩
          have be5 := bthen be1 hb5
          have st5 := bkeep hb5 st1
          have zz5 := be5.size
          have sn5 := sn1.here hb5
          have sm5 := sm1.here hb5
          have cp5 : World.cell? y6 ⟨pp, 0, none⟩ = some (.pointer none) := by rw [hy5, hpp]; simp
          have fp5 : ∀ i, World.frozen? y6 ⟨pp, i, none⟩ = false := by rw [hy5, hpp]; intro i; simp [go_sem]
          have hp5 : U.heap.size ≤ pp := by have := be1.size; omega
          have hq5 : pp < (World.heap y6).size := lt_of_cell cp5
          rw [← hy5, ← hpp]
          clear hy5 hpp
          refine hK.out _ _ st5 ?_
          clear hK K
          intro hSw
          try simp only [Act.put, List.setIfInBounds_toArray, List.set_cons_zero, List.set_cons_succ]
          refine wpAnyH_ready (rs := [8]) (by kernel_rfl) (by simp) ?_
          refine AllReadyH.cons rfl (fun K hK => ?_) AllReadyH.nil
          go_simp
          obtain ⟨y7, hy6⟩ : ∃ y7, y7 = World.alloc y6 (.cells #[.slice aon N.length capn, .slice aot T.length capt, .int .i64 (ds.length : Int), .slice none 0 0, .int .i64 0, .int .i64 0, .int .i64 0] 97) := ⟨_, rfl⟩
          have hb6 : Below (World.heap y6).size y6 y7 := by rw [hy6]; exact G.al1 _ _
          have mkN := mk_new (n := ds.length) sn5 sm5 (by omega)
          rw [← hy6] at mkN
          obtain ⟨rr, hrr⟩ : ∃ rr, rr = (World.heap y6).size := ⟨_, rfl⟩
          rw [← hrr] at mkN
          have hr6 : U.heap.size ≤ rr := by have := be5.size; omega
          have be6 := bthen be5 hb6
          have st6 := bkeep hb6 st5
          have zz6 := be6.size
          have sn6 := sn5.here hb6
          have sm6 := sm5.here hb6
          have cp6 := bkeep hb6 cp5
          have fp6 : ∀ i, World.frozen? y7 ⟨pp, i, none⟩ = false := fun i => by rw [hb6.frozen (p := ⟨pp, i, none⟩) (lt_of_cell cp5)]; exact fp5 i
          have pr6 : pp ≠ rr := by have := lt_of_cell cp5; omega
          rw [← hy6, ← hrr]
          clear hy6 hrr
          refine hK.out _ _ st6 ?_
          clear hK K
          intro hSw
          try simp only [Act.put, List.setIfInBounds_toArray, List.set_cons_zero, List.set_cons_succ]
          refine wpAnyH_ready (rs := [10]) (by kernel_rfl) (by simp) ?_
          refine AllReadyH.cons rfl (fun K hK => ?_) AllReadyH.nil
          go_simp
          have mkZ := mk_set (u := .pointer (some ⟨rr, 0, none⟩)) mkN cp6 (fun s => by simp) pr6
          have cpZ := World.cell?_setCell_same y7 ⟨pp, 0, none⟩ (.pointer (some ⟨rr, 0, none⟩)) cp6
          have beZ := be6.setCell (p := ⟨pp, 0, none⟩) hp5 (.pointer (some ⟨rr, 0, none⟩))
          have stZ : (World.setCell y7 ⟨pp, 0, none⟩ (.pointer (some ⟨rr, 0, none⟩))).cell? ⟨w.heap.size, 0, none⟩ = some (.slice ao ds.length cap) := by rw [beZ.cell (p := ⟨w.heap.size, 0, none⟩) (by show w.heap.size < U.heap.size; omega)]; exact rbU.t0
          refine hK.out _ _ stZ ?_
          clear hK K
          intro hSw
          try simp only [Act.put, List.setIfInBounds_toArray, List.set_cons_zero, List.set_cons_succ]
          refine wpAnyH_done (by kernel_rfl) (NoPanic.normal ?_) _
          go_wp2_with fail
          go_meet
          exact ⟨_, _, _, _, rfl, cpZ, mkZ, beZ, hr6, hp5, pr6, un, ut⟩
      · go_simp
        obtain ⟨y9, hy8⟩ : ∃ y9, y9 = World.alloc y1 (.cells #[.pointer none] 95) := ⟨_, rfl⟩
        have hb8 : Below (World.heap y1).size y1 y9 := by rw [hy8]; exact G.al1 _ _
        obtain ⟨pp, hpp⟩ : ∃ pp, pp = (World.heap y1).size := ⟨_, rfl⟩
        have be8 := bthen be0 hb8
        have st8 := bkeep hb8 st0
        have zz8 := be8.size
        have sn8 := sn0.here hb8
        have cp8 : World.cell? y9 ⟨pp, 0, none⟩ = some (.pointer none) := by rw [hy8, hpp]; simp
        have fp8 : ∀ i, World.frozen? y9 ⟨pp, i, none⟩ = false := by rw [hy8, hpp]; intro i; simp [go_sem]
        have hp8 : U.heap.size ≤ pp := by have := be0.size; omega
        have hq8 : pp < (World.heap y9).size := lt_of_cell cp8
        rw [← hy8, ← hpp]
        clear hy8 hpp
        refine hK.out _ _ st8 ?_
        clear hK K
        intro hSw
        try simp only [Act.put, List.setIfInBounds_toArray, List.set_cons_zero, List.set_cons_succ]
        refine wpAnyH_ready (rs := [3]) (by kernel_rfl) (by simp) ?_
        refine AllReadyH.cons rfl (fun K hK => ?_) AllReadyH.nil
        go_simp
        go_at_call 62
        refine (TA _ (bthen bU be8)).mono ?_
        rintro e y10 ⟨v9, rfl, own9, hb9⟩
        have be9 := bthen be8 hb9
        have st9 := bkeep hb9 st8
        have zz9 := be9.size
        have sn9 := sn8.here hb9
        have cp9 := bkeep hb9 cp8
        have fp9 : ∀ i, World.frozen? y10 ⟨pp, i, none⟩ = false := fun i => by rw [hb9.frozen (p := ⟨pp, i, none⟩) (lt_of_cell cp8)]; exact fp8 i
        have sm9 := SsL_owned own9 htl'
        obtain ⟨aot, capt, rfl⟩ := owns_slice own9
        have ut : ∀ b o n c, (Value.slice aot T.length capt) = .slice (some ⟨b, o, none⟩) n c → U.heap.size ≤ b := fun b o n c e => by have h1 := SsU_owned own9 b o n c e; have h2 := Below.size be8; omega
        clear own9
        refine hK.out _ _ st9 ?_
        clear hK K
        intro hSw
        try simp only [Act.put, List.setIfInBounds_toArray, List.set_cons_zero, List.set_cons_succ]
        refine wpAnyH_take (i := 7) (v := ?v7) rfl (by kernel_rfl) (by kernel_rfl) (by kernel_rfl) (fun _ _ _ h => np_panic h) (Or.inl ⟨by rfl, ?hy7⟩) (by assumption) ?_
        case hy7 => (intro w' hS'; (try dsimp only at hS'); go_simp; try with_reducible rfl)
        simp only [Act.put, List.setIfInBounds_toArray, List.set_cons_zero, List.set_cons_succ, List.getElem_toArray, List.getElem_cons_succ, List.getElem_cons_zero]
        refine wpAnyH_ready (rs := [8]) (by kernel_rfl) (by simp) ?_
        refine AllReadyH.cons rfl (fun K hK => ?_) AllReadyH.nil
        go_simp
        obtain ⟨y11, hy10⟩ : ∃ y11, y11 = World.alloc y10 (.cells #[.slice aon N.length capn, .slice aot T.length capt, .int .i64 (ds.length : Int), .slice none 0 0, .int .i64 0, .int .i64 0, .int .i64 0] 97) := ⟨_, rfl⟩
        have hb10 : Below (World.heap y10).size y10 y11 := by rw [hy10]; exact G.al1 _ _
        have mkN := mk_new (n := ds.length) sn9 sm9 (by omega)
        rw [← hy10] at mkN
        obtain ⟨rr, hrr⟩ : ∃ rr, rr = (World.heap y10).size := ⟨_, rfl⟩
        rw [← hrr] at mkN
        have hr10 : U.heap.size ≤ rr := by have := be9.size; omega
        have be10 := bthen be9 hb10
        have st10 := bkeep hb10 st9
        have zz10 := be10.size
        have sn10 := sn9.here hb10
        have sm10 := sm9.here hb10
        have cp10 := bkeep hb10 cp9
        have fp10 : ∀ i, World.frozen? y11 ⟨pp, i, none⟩ = false := fun i => by rw [hb10.frozen (p := ⟨pp, i, none⟩) (lt_of_cell cp9)]; exact fp9 i
        have pr10 : pp ≠ rr := by have := lt_of_cell cp9; omega
        rw [← hy10, ← hrr]
        clear hy10 hrr
        refine hK.out _ _ st10 ?_
        clear hK K
        intro hSw
        try simp only [Act.put, List.setIfInBounds_toArray, List.set_cons_zero, List.set_cons_succ]
        refine wpAnyH_ready (rs := [10]) (by kernel_rfl) (by simp) ?_
        refine AllReadyH.cons rfl (fun K hK => ?_) AllReadyH.nil
        go_simp
        have mkZ := mk_set (u := .pointer (some ⟨rr, 0, none⟩)) mkN cp10 (fun s => by simp) pr10
        have cpZ := World.cell?_setCell_same y11 ⟨pp, 0, none⟩ (.pointer (some ⟨rr, 0, none⟩)) cp10
        have beZ := be10.setCell (p := ⟨pp, 0, none⟩) hp8 (.pointer (some ⟨rr, 0, none⟩))
        have stZ : (World.setCell y11 ⟨pp, 0, none⟩ (.pointer (some ⟨rr, 0, none⟩))).cell? ⟨w.heap.size, 0, none⟩ = some (.slice ao ds.length cap) := by rw [beZ.cell (p := ⟨w.heap.size, 0, none⟩) (by show w.heap.size < U.heap.size; omega)]; exact rbU.t0
        refine hK.out _ _ stZ ?_
        clear hK K
        intro hSw
        try simp only [Act.put, List.setIfInBounds_toArray, List.set_cons_zero, List.set_cons_succ]
        refine wpAnyH_done (by kernel_rfl) (NoPanic.normal ?_) _
        go_wp2_with fail
        go_meet
        exact ⟨_, _, _, _, rfl, cpZ, mkZ, beZ, hr10, hp8, pr10, un, ut⟩
    · go_simp
      obtain ⟨y13, hy12⟩ : ∃ y13, y13 = World.alloc y0 (.cells #[.pointer none] 95) := ⟨_, rfl⟩
      have hb12 : Below (World.heap y0).size y0 y13 := by rw [hy12]; exact G.al1 _ _
      obtain ⟨pp, hpp⟩ : ∃ pp, pp = (World.heap y0).size := ⟨_, rfl⟩
      have be12 := bthen bD hb12
      have st12 := bkeep hb12 hSw
      have zz12 := be12.size
      have cp12 : World.cell? y13 ⟨pp, 0, none⟩ = some (.pointer none) := by rw [hy12, hpp]; simp
      have fp12 : ∀ i, World.frozen? y13 ⟨pp, i, none⟩ = false := by rw [hy12, hpp]; intro i; simp [go_sem]
      have hp12 : U.heap.size ≤ pp := by have := bD.size; omega
      have hq12 : pp < (World.heap y13).size := lt_of_cell cp12
      rw [← hy12, ← hpp]
      clear hy12 hpp
      refine hK.out _ _ st12 ?_
      clear hK K
      intro hSw
      try simp only [Act.put, List.setIfInBounds_toArray, List.set_cons_zero, List.set_cons_succ]
      refine wpAnyH_ready (rs := [1]) (by kernel_rfl) (by simp) ?_
      refine AllReadyH.cons rfl (fun K hK => ?_) AllReadyH.nil
      go_simp
      go_at_call 61
      refine (NA _ (bthen bU be12)).mono ?_
      rintro e y14 ⟨v13, rfl, own13, hb13⟩
      have be13 := bthen be12 hb13
      have st13 := bkeep hb13 st12
      have zz13 := be13.size
      have cp13 := bkeep hb13 cp12
      have fp13 : ∀ i, World.frozen? y14 ⟨pp, i, none⟩ = false := fun i => by rw [hb13.frozen (p := ⟨pp, i, none⟩) (lt_of_cell cp12)]; exact fp12 i
      have sn13 := SsL_owned own13 hnl
      obtain ⟨aon, capn, rfl⟩ := owns_slice own13
      have un : ∀ b o n c, (Value.slice aon N.length capn) = .slice (some ⟨b, o, none⟩) n c → U.heap.size ≤ b := fun b o n c e => by have h1 := SsU_owned own13 b o n c e; have h2 := Below.size be12; omega
      clear own13
      refine hK.out _ _ st13 ?_
      clear hK K
      intro hSw
      try simp only [Act.put, List.setIfInBounds_toArray, List.set_cons_zero, List.set_cons_succ]
      refine wpAnyH_ready (rs := [3]) (by kernel_rfl) (by simp) ?_
      refine AllReadyH.cons rfl (fun K hK => ?_) AllReadyH.nil
      go_simp
      go_at_call 62
      refine (TA _ (bthen bU be13)).mono ?_
      rintro e y15 ⟨v14, rfl, own14, hb14⟩
      have be14 := bthen be13 hb14
      have st14 := bkeep hb14 st13
      have zz14 := be14.size
      have sn14 := sn13.here hb14
      have cp14 := bkeep hb14 cp13
      have fp14 : ∀ i, World.frozen? y15 ⟨pp, i, none⟩ = false := fun i => by rw [hb14.frozen (p := ⟨pp, i, none⟩) (lt_of_cell cp13)]; exact fp13 i
      have sm14 := SsL_owned own14 htl'
      obtain ⟨aot, capt, rfl⟩ := owns_slice own14
      have ut : ∀ b o n c, (Value.slice aot T.length capt) = .slice (some ⟨b, o, none⟩) n c → U.heap.size ≤ b := fun b o n c e => by have h1 := SsU_owned own14 b o n c e; have h2 := Below.size be13; omega
      clear own14
      refine hK.out _ _ st14 ?_
      clear hK K
      intro hSw
      try simp only [Act.put, List.setIfInBounds_toArray, List.set_cons_zero, List.set_cons_succ]
      refine wpAnyH_take (i := 7) (v := ?v8) rfl (by kernel_rfl) (by kernel_rfl) (by kernel_rfl) (fun _ _ _ h => np_panic h) (Or.inl ⟨by rfl, ?hy8⟩) (by assumption) ?_
      case hy8 => (intro w' hS'; (try dsimp only at hS'); go_simp; try with_reducible rfl)
      simp only [Act.put, List.setIfInBounds_toArray, List.set_cons_zero, List.set_cons_succ, List.getElem_toArray, List.getElem_cons_succ, List.getElem_cons_zero]
      refine wpAnyH_ready (rs := [8]) (by kernel_rfl) (by simp) ?_
      refine AllReadyH.cons rfl (fun K hK => ?_) AllReadyH.nil
      go_simp
      obtain ⟨y16, hy15⟩ : ∃ y16, y16 = World.alloc y15 (.cells #[.slice aon N.length capn, .slice aot T.length capt, .int .i64 (ds.length : Int), .slice none 0 0, .int .i64 0, .int .i64 0, .int .i64 0] 97) := ⟨_, rfl⟩
      have hb15 : Below (World.heap y15).size y15 y16 := by rw [hy15]; exact G.al1 _ _
      have mkN := mk_new (n := ds.length) sn14 sm14 (by omega)
      rw [← hy15] at mkN
      obtain ⟨rr, hrr⟩ : ∃ rr, rr = (World.heap y15).size := ⟨_, rfl⟩
      rw [← hrr] at mkN
      have hr15 : U.heap.size ≤ rr := by have := be14.size; omega
      have be15 := bthen be14 hb15
      have st15 := bkeep hb15 st14
      have zz15 := be15.size
      have sn15 := sn14.here hb15
      have sm15 := sm14.here hb15
      have cp15 := bkeep hb15 cp14
      have fp15 : ∀ i, World.frozen? y16 ⟨pp, i, none⟩ = false := fun i => by rw [hb15.frozen (p := ⟨pp, i, none⟩) (lt_of_cell cp14)]; exact fp14 i
      have pr15 : pp ≠ rr := by have := lt_of_cell cp14; omega
      rw [← hy15, ← hrr]
      clear hy15 hrr
      refine hK.out _ _ st15 ?_
      clear hK K
      intro hSw
      try simp only [Act.put, List.setIfInBounds_toArray, List.set_cons_zero, List.set_cons_succ]
      refine wpAnyH_ready (rs := [10]) (by kernel_rfl) (by simp) ?_
      refine AllReadyH.cons rfl (fun K hK => ?_) AllReadyH.nil
      go_simp
      have mkZ := mk_set (u := .pointer (some ⟨rr, 0, none⟩)) mkN cp15 (fun s => by simp) pr15
      have cpZ := World.cell?_setCell_same y16 ⟨pp, 0, none⟩ (.pointer (some ⟨rr, 0, none⟩)) cp15
      have beZ := be15.setCell (p := ⟨pp, 0, none⟩) hp12 (.pointer (some ⟨rr, 0, none⟩))
      have stZ : (World.setCell y16 ⟨pp, 0, none⟩ (.pointer (some ⟨rr, 0, none⟩))).cell? ⟨w.heap.size, 0, none⟩ = some (.slice ao ds.length cap) := by rw [beZ.cell (p := ⟨w.heap.size, 0, none⟩) (by show w.heap.size < U.heap.size; omega)]; exact rbU.t0
      refine hK.out _ _ stZ ?_
      clear hK K
      intro hSw
      try simp only [Act.put, List.setIfInBounds_toArray, List.set_cons_zero, List.set_cons_succ]
      refine wpAnyH_done (by kernel_rfl) (NoPanic.normal ?_) _
      go_wp2_with fail
      go_meet
      exact ⟨_, _, _, _, rfl, cpZ, mkZ, beZ, hr15, hp12, pr15, un, ut⟩
  case rest =>
  obtain ⟨p, r, vn, vt, rfl, hp, hm, hbc, hr, hpU, hpr, hun, hut⟩ := hcut
  have bc : Below w.heap.size w wc := bthen bU hbc
  have rbc := rbU.of (u' := wc) (fun k hk => hbc.block k (by omega))
  have t0 := rbc.t0
  have hmf : ∀ (fn : Fn) (first cap : Array Value) (w : World), (Instr.makeFunc fn first cap).run Try.prog w = .ok (.func fn first cap) w := fun _ _ _ _ => rfl
  have HR := hd hR
  have hsz := hm.st.sz
  clear hR NA TA S0 bD rbU rbV u0 HU HV
  go_wp2_with fail
  go_loopw [29] (fun i wr => ∃ (k : Nat) (s1 : Sp) (q1 : Option Nat) (df : Int), k ≤ ds.length ∧ i = .int .i64 k ∧ MkS wr r vn vt N T s1 q1 (fun _ => False) df ∧ Hid (exG N T (ds.drop k) k s1 = R) ∧ Fm r none wc wr ∧ Own wc none q1) (fun i _ => ds.length - (intOf i).toNat)
  case atStart => exact ⟨0, _, none, 0, Nat.zero_le _, rfl, hm, HR, Fm.refl _ _ _, .inl rfl⟩
  case round =>
    obtain ⟨k, s1, q1, df, hk, rfl, hm1, hE, hfr, how⟩ := hrel
    have hz := hfr.size
    have hq1 := hfr.cell hp hpr (by simp)
    have lw : Below w.heap.size w wr := bc.trans (hfr.below (B := w.heap.size) (by omega) (by simp) (by omega))
    have rb1 := rbc.of (u' := wr) (fun j hj => hfr.block j (by omega) (by omega) (by simp))
    by_cases hlt : k < ds.length
    · obtain h0 | ⟨ba, oa, rfl, hia⟩ := hin
      · omega
      have kA : ∀ b o v, All b → w.cell? ⟨b, o, none⟩ = some v → b < r ∧ wr.cell? ⟨b, o, none⟩ = some v := fun b o v _ hc => ⟨by have := lt_of_cell hc; omega, bkeep lw hc⟩
      obtain ⟨an, aa, ax⟩ := (hia.mono kA).at_ k hlt
      obtain ⟨ua, a0, a1, a2, hxa⟩ := ax.xv
      have hcode := (Df.code_zero (hfine.all _ (List.getElem_mem hlt))).2.2.2
      have hsk := (hs _ (List.getElem_mem hlt)).1
      have hE' := hE.out
      rw [exG_at hlt] at hE'
      generalize ds[k] = dk at *
      have hxa' := hxa
      obtain ⟨_, e, _, aoa', capa', rfl, _⟩ := hxa'
      simp at e; subst e
      clear kA ax hE
      obtain ⟨W2, hW2⟩ : ∃ W2, W2 = (wr.setCell ⟨r, 4, none⟩ (.int .i64 k)).alloc (.cells #[.string dk.nm, .int .i64 dk.at_, .int .i64 dk.e.op, .string dk.e.nm, .slice aoa' dk.e.kids.len capa'] 66) := ⟨_, rfl⟩
      have f12 : Fm r none wc W2 := by rw [hW2]; exact (hfr.setCell (.inl rfl) _).thenB (G.al1 _ _)
      have hm2 : MkS W2 r vn vt N T s1 q1 (fun _ => False) k := by rw [hW2]; exact (hm1.setDef _).lw (G.al1 _ _)
      have low2 : Below r wr W2 := by rw [hW2]; exact ((Below.refl r wr).setCell (p := ⟨r, 4, none⟩) (Nat.le_refl r) _).alloc (by have := hm1.st.sz; simp [World.setCell]; omega) _
      have PA := putAll_of (sym_any dk.e).2 hm2 (va := .agg #[.int .i64 dk.e.op, .string dk.e.nm, .slice aoa' dk.e.kids.len capa']) (hxa.mono fun b o v hb hc => ⟨hb, by rw [low2.cell (p := ⟨b, o, none⟩) hb]; exact hc⟩) hcode hsk (k : Int)
      generalize dk.e.put N T k true false s1 = s2 at *
      have c4 := hm1.c4
      have fz := hm1.st.fz
      have hrz := hm1.st.sz
      have hpz := lt_of_cell hq1
      cases hb2 : s2.bad with
      | true =>
        rw [if_pos hb2] at hE'
        subst hE'
        clear hm2 low2 hxa
        go_wp2_with fail
        rw [← hW2]
        refine PA.mono ?_
        rintro e w3 ho
        obtain ⟨rfl, k5, k6, f23⟩ := ho.no hb2
        have f03 : Fm r none wc w3 := f12.trans f23 how
        have rb3 := rbc.of (u' := w3) (fun j hj => f03.block j (by omega) (by omega) (by simp))
        have bel : Below w.heap.size w w3 := bc.trans (f03.below (B := w.heap.size) (by omega) (by simp) (by omega))
        have g5 := f03.cell hp hpr (by simp)
        go_wp2_with fail
        refine leaves_cons (f := 63) (args := #[.pointer (some ⟨p, 0, none⟩), .pointer (some ⟨w.heap.size + 1, 0, none⟩), .pointer (some ⟨w.heap.size + 2, 0, none⟩)]) (by simp) (by simp [go_sem]) ?_
        refine (mcatch_panicking p (w.heap.size + 1) (w.heap.size + 2) r 6 k 0 0 0 0 0 _ _ _ _ _ [] w3 g5 k5 k6 (by decide) rb3.o0 rb3.o1 rb3.o2 rb3.o3 rb3.o4 rb3.o5 rb3.f0 rb3.f1 rb3.zo rb3.zf (by omega) (by omega) (by omega)).mono ?_
        rintro e u' w4 ⟨rfl, rfl, hb4, ⟨y0, y1, y2, y3, y4, y5⟩, y6, y7⟩
        simp only [Leaves, settle, List.dropWhile]
        refine ⟨.tuple #[.agg #[.int .i64 0, .int .i64 0, .int .i64 0, .slice none 0 0, .slice none 0 0, .slice none 0 0], .agg #[.int .i64 6, .int .i64 k]], ?_, ?_⟩
        · simp [results, Try.results25, go_sem, y0, y1, y2, y3, y4, y5, y6, y7]
        · exact ⟨rfl, bel.trans (hb4.mono (by omega))⟩
      | false =>
        rw [if_neg (by simp [hb2])] at hE'
        have HE := hd hE'
        clear hE' hm2 low2 hxa
        go_wp2_with fail
        rw [← hW2]
        refine PA.mono ?_
        rintro e w3 ho
        obtain ⟨u3, q3, rfl, rfl, hm3, f23, ow3⟩ := ho.yes hb2
        go_wp2_with fail
        go_roundw
        case rel => exact ⟨k + 1, s2, q3, k, by omega, by go_num, hm3, HE, f12.trans f23 how, how.trans ow3 f12.size⟩
        case measure => simp [intOf]; omega
    · have hE' := hE.out
      rw [exG_end (by omega)] at hE'
      subst hE'
      clear hE
      obtain ⟨vr, xs, c3, ho, hrc, hoq⟩ := hm1.st.c3
      obtain ⟨aor, capr, rfl⟩ := owns_slice ho
      obtain ⟨aon, capn, rfl⟩ := hm1.st.nn.slice
      obtain ⟨aot, capt, rfl⟩ := hm1.st.tt.slice
      have c0 := hm1.st.c0
      have c1 := hm1.st.c1
      have c2 := hm1.st.c2
      have hrz := hm1.st.sz
      have hpz := lt_of_cell hq1
      have hrl := hm1.st.rl
      have hvl := hm1.st.vl
      have hnb := hm1.nb
      have hRs : RsV wr (fun k => w.heap.size ≤ k) (.slice aor s1.rules.length capr) s1.rules := RsV_owned ho hrc (fun j hj => by have := hj.1; omega) (fun j e => by have := (ho.lt j e).1; omega) (by omega)
      obtain ⟨_, o0, o1, o2, o3, o4, o5, f0, f1, zo, zf⟩ := rb1
      have rb1z : w.heap.size + 3 ≤ wr.heap.size := by omega
      have S0 : wr.drew.cell? ⟨p, 0, none⟩ = some (.pointer (some ⟨r, 0, none⟩)) ∧ wr.drew.cell? ⟨r, 1, none⟩ = some (.slice aot T.length capt) ∧ wr.drew.cell? ⟨r, 2, none⟩ = some (.int .i64 (s1.vars : Int)) ∧ wr.drew.cell? ⟨r, 3, none⟩ = some (.slice aor s1.rules.length capr) := ⟨hq1, c1, c2, c3⟩
      have bD : Below wr.heap.size wr wr.drew := G.drw1 wr
      go_wp2_with fail
      refine wp_region_noPanic ?_
      refine wp_region_held_drew (S := fun w' => World.cell? w' ⟨p, 0, none⟩ = some (.pointer (some ⟨r, 0, none⟩)) ∧ World.cell? w' ⟨r, 1, none⟩ = some (.slice aot T.length capt) ∧ World.cell? w' ⟨r, 2, none⟩ = some (.int .i64 (s1.vars : Int)) ∧ World.cell? w' ⟨r, 3, none⟩ = some (.slice aor s1.rules.length capr)) (by kernel_rfl) S0 ?_
      intro hSw
      obtain ⟨y0, hy0⟩ : ∃ y0, y0 = wr.drew := ⟨_, rfl⟩
      rw [← hy0] at hSw bD ⊢
      clear hy0
      refine wpAnyH_take (i := 0) (v := ?v9) rfl (by kernel_rfl) (by kernel_rfl) (by kernel_rfl) (fun _ _ _ h => np_panic h) (Or.inl ⟨by rfl, ?hy9⟩) (by assumption) ?_
      case hy9 => (intro w' hS'; (try dsimp only at hS'); go_simp; try with_reducible rfl)
      simp only [Act.put, List.setIfInBounds_toArray, List.set_cons_zero, List.set_cons_succ, List.getElem_toArray, List.getElem_cons_zero]
      refine wpAnyH_take (i := 1) (v := ?v10) rfl (by kernel_rfl) (by kernel_rfl) (by kernel_rfl) (fun _ _ _ h => np_panic h) (Or.inl ⟨by rfl, ?hy10⟩) (by assumption) ?_
      case hy10 => (intro w' hS'; (try dsimp only at hS'); go_simp; try with_reducible rfl)
      simp only [Act.put, List.setIfInBounds_toArray, List.set_cons_zero, List.set_cons_succ, List.getElem_toArray, List.getElem_cons_succ, List.getElem_cons_zero]
      refine wpAnyH_take (i := 2) (v := ?v11) rfl (by kernel_rfl) (by kernel_rfl) (by kernel_rfl) (fun _ _ _ h => np_panic h) (Or.inl ⟨by rfl, ?hy11⟩) (by assumption) ?_
      case hy11 => (intro w' hS'; (try dsimp only at hS'); go_simp; try with_reducible rfl)
      simp only [Act.put, List.setIfInBounds_toArray, List.set_cons_zero, List.set_cons_succ, List.getElem_toArray, List.getElem_cons_succ, List.getElem_cons_zero]
      refine wpAnyH_take (i := 3) (v := ?v12) rfl (by kernel_rfl) (by kernel_rfl) (by kernel_rfl) (fun _ _ _ h => np_panic h) (Or.inl ⟨by rfl, ?hy12⟩) (by assumption) ?_
      case hy12 => (intro w' hS'; (try dsimp only at hS'); go_simp; try with_reducible rfl)
      simp only [Act.put, List.setIfInBounds_toArray, List.set_cons_zero, List.set_cons_succ, List.getElem_toArray, List.getElem_cons_succ, List.getElem_cons_zero]
      refine wpAnyH_take (i := 4) (v := ?v13) rfl (by kernel_rfl) (by kernel_rfl) (by kernel_rfl) (fun _ _ _ h => np_panic h) (Or.inl ⟨by rfl, ?hy13⟩) (by assumption) ?_
      case hy13 => (intro w' hS'; (try dsimp only at hS'); go_simp; try with_reducible rfl)
      simp only [Act.put, List.setIfInBounds_toArray, List.set_cons_zero, List.set_cons_succ, List.getElem_toArray, List.getElem_cons_succ, List.getElem_cons_zero]
      refine wpAnyH_take (i := 5) (v := ?v14) rfl (by kernel_rfl) (by kernel_rfl) (by kernel_rfl) (fun _ _ _ h => np_panic h) (Or.inl ⟨by rfl, ?hy14⟩) (by assumption) ?_
      case hy14 => (intro w' hS'; (try dsimp only at hS'); go_simp; try with_reducible rfl)
      simp only [Act.put, List.setIfInBounds_toArray, List.set_cons_zero, List.set_cons_succ, List.getElem_toArray, List.getElem_cons_succ, List.getElem_cons_zero]
      refine wpAnyH_take (i := 6) (v := ?v15) rfl (by kernel_rfl) (by kernel_rfl) (by kernel_rfl) (fun _ _ _ h => np_panic h) (Or.inl ⟨by rfl, ?hy15⟩) (by assumption) ?_
      case hy15 => (intro w' hS'; (try dsimp only at hS'); go_simp; try with_reducible rfl)
      simp only [Act.put, List.setIfInBounds_toArray, List.set_cons_zero, List.set_cons_succ, List.getElem_toArray, List.getElem_cons_succ, List.getElem_cons_zero]
      refine wpAnyH_take (i := 7) (v := ?v16) rfl (by kernel_rfl) (by kernel_rfl) (by kernel_rfl) (fun _ _ _ h => np_panic h) (Or.inl ⟨by rfl, ?hy16⟩) (by assumption) ?_
      case hy16 => (intro w' hS'; (try dsimp only at hS'); go_simp; try with_reducible rfl)
      simp only [Act.put, List.setIfInBounds_toArray, List.set_cons_zero, List.set_cons_succ, List.getElem_toArray, List.getElem_cons_succ, List.getElem_cons_zero]
      refine wpAnyH_take (i := 8) (v := ?v17) rfl (by kernel_rfl) (by kernel_rfl) (by kernel_rfl) (fun _ _ _ h => np_panic h) (Or.inl ⟨by rfl, ?hy17⟩) (by assumption) ?_
      case hy17 => (intro w' hS'; (try dsimp only at hS'); go_simp; try with_reducible rfl)
      simp only [Act.put, List.setIfInBounds_toArray, List.set_cons_zero, List.set_cons_succ, List.getElem_toArray, List.getElem_cons_succ, List.getElem_cons_zero]
      refine wpAnyH_take (i := 9) (v := ?v18) rfl (by kernel_rfl) (by kernel_rfl) (by kernel_rfl) (fun _ _ _ h => np_panic h) (Or.inl ⟨by rfl, ?hy18⟩) (by assumption) ?_
      case hy18 => (intro w' hS'; (try dsimp only at hS'); go_simp; try with_reducible rfl)
      simp only [Act.put, List.setIfInBounds_toArray, List.set_cons_zero, List.set_cons_succ, List.getElem_toArray, List.getElem_cons_succ, List.getElem_cons_zero]
      refine wpAnyH_take (i := 10) (v := ?v19) rfl (by kernel_rfl) (by kernel_rfl) (by kernel_rfl) (fun _ _ _ h => np_panic h) (Or.inl ⟨by rfl, ?hy19⟩) (by assumption) ?_
      case hy19 => (intro w' hS'; (try dsimp only at hS'); go_simp; try with_reducible rfl)
      simp only [Act.put, List.setIfInBounds_toArray, List.set_cons_zero, List.set_cons_succ, List.getElem_toArray, List.getElem_cons_succ, List.getElem_cons_zero]
      refine wpAnyH_take (i := 11) (v := ?v20) rfl (by kernel_rfl) (by kernel_rfl) (by kernel_rfl) (fun _ _ _ h => np_panic h) (Or.inl ⟨by rfl, ?hy20⟩) (by assumption) ?_
      case hy20 => (intro w' hS'; (try dsimp only at hS'); go_simp; try with_reducible rfl)
      simp only [Act.put, List.setIfInBounds_toArray, List.set_cons_zero, List.set_cons_succ, List.getElem_toArray, List.getElem_cons_succ, List.getElem_cons_zero]
      refine wpAnyH_take (i := 12) (v := ?v21) rfl (by kernel_rfl) (by kernel_rfl) (by kernel_rfl) (fun _ _ _ h => np_panic h) (Or.inl ⟨by rfl, ?hy21⟩) (by assumption) ?_
      case hy21 => (intro w' hS'; (try dsimp only at hS'); go_simp; try with_reducible rfl)
      simp only [Act.put, List.setIfInBounds_toArray, List.set_cons_zero, List.set_cons_succ, List.getElem_toArray, List.getElem_cons_succ, List.getElem_cons_zero]
      refine wpAnyH_take (i := 13) (v := ?v22) rfl (by kernel_rfl) (by kernel_rfl) (by kernel_rfl) (fun _ _ _ h => np_panic h) (Or.inl ⟨by rfl, ?hy22⟩) (by assumption) ?_
      case hy22 => (intro w' hS'; (try dsimp only at hS'); go_simp; try with_reducible rfl)
      simp only [Act.put, List.setIfInBounds_toArray, List.set_cons_zero, List.set_cons_succ, List.getElem_toArray, List.getElem_cons_succ, List.getElem_cons_zero]
      refine wpAnyH_ready (rs := [14]) (by kernel_rfl) (by simp) ?_
      refine AllReadyH.cons rfl (fun K hK => ?_) AllReadyH.nil
      go_simp
      obtain ⟨y1, hy1⟩ : ∃ y1, y1 = y0.alloc (.cells #[.int .i64 0, .int .i64 0, .int .i64 0, .slice none 0 0] 24) := ⟨_, rfl⟩
      have b1 : Below wr.heap.size wr y1 := by rw [hy1]; exact bthen bD (G.al1 _ _)
      obtain ⟨gb, hgb⟩ : ∃ gb, gb = y0.heap.size := ⟨_, rfl⟩
      have k0 : y1.cell? ⟨gb, 0, none⟩ = some (.int .i64 0) := by rw [hy1, hgb]; simp
      have k1 : y1.cell? ⟨gb, 1, none⟩ = some (.int .i64 0) := by rw [hy1, hgb]; simp
      have k2 : y1.cell? ⟨gb, 2, none⟩ = some (.int .i64 0) := by rw [hy1, hgb]; simp
      have k3 : y1.cell? ⟨gb, 3, none⟩ = some (.slice none 0 0) := by rw [hy1, hgb]; simp
      have kf : ∀ i, y1.frozen? ⟨gb, i, none⟩ = false := by rw [hy1, hgb]; intro i; simp [go_sem]
      have hgz : wr.heap.size ≤ gb := by have := bD.size; omega
      rw [← hy1, ← hgb]
      clear hy1 hgb
      refine hK.out _ _ ⟨bkeep b1 hq1, bkeep b1 c1, bkeep b1 c2, bkeep b1 c3⟩ ?_
      clear hK K
      intro hSw
      try simp only [Act.put, List.setIfInBounds_toArray, List.set_cons_zero, List.set_cons_succ]
      refine wpAnyH_ready (rs := [15]) (by kernel_rfl) (by simp) ?_
      refine AllReadyH.cons rfl (fun K hK => ?_) AllReadyH.nil
      go_simp
      obtain ⟨y2, hy2⟩ : ∃ y2, y2 = (((y1.setCell ⟨gb, 0, none⟩ (.int .i64 (s1.vars : Int))).setCell ⟨gb, 1, none⟩ (.int .i64 (T.length : Int))).setCell ⟨gb, 2, none⟩ (.int .i64 0)).setCell ⟨gb, 3, none⟩ (.slice aor s1.rules.length capr) := ⟨_, rfl⟩
      have b2 : Below wr.heap.size wr y2 := by
        rw [hy2]
        exact (((b1.setCell (p := ⟨gb, 0, none⟩) hgz _).setCell (p := ⟨gb, 1, none⟩) hgz _).setCell (p := ⟨gb, 2, none⟩) hgz _).setCell (p := ⟨gb, 3, none⟩) hgz _
      have j0 : y2.cell? ⟨gb, 0, none⟩ = some (.int .i64 (s1.vars : Int)) := by rw [hy2]; simp [go_sem, k0]
      have j1 : y2.cell? ⟨gb, 1, none⟩ = some (.int .i64 (T.length : Int)) := by rw [hy2]; simp [go_sem, k1]
      have j2 : y2.cell? ⟨gb, 2, none⟩ = some (.int .i64 0) := by rw [hy2]; simp [go_sem, k2]
      have j3 : y2.cell? ⟨gb, 3, none⟩ = some (.slice aor s1.rules.length capr) := by rw [hy2]; simp [go_sem, k3]
      rw [← hy2]
      clear hy2
      refine hK.out _ _ ⟨bkeep b2 hq1, bkeep b2 c1, bkeep b2 c2, bkeep b2 c3⟩ ?_
      clear hK K
      intro hSw
      try simp only [Act.put, List.setIfInBounds_toArray, List.set_cons_zero, List.set_cons_succ]
      refine wpAnyH_done (by kernel_rfl) (NoPanic.normal ?_) _
      clear k0 k1 k2 k3 kf
      have S2 : World.cell? y2.drew ⟨p, 0, none⟩ = some (.pointer (some ⟨r, 0, none⟩)) ∧ World.cell? y2.drew ⟨r, 0, none⟩ = some (.slice aon N.length capn) ∧ World.cell? y2.drew ⟨r, 1, none⟩ = some (.slice aot T.length capt) ∧ World.cell? y2.drew ⟨gb, 0, none⟩ = some (.int .i64 (s1.vars : Int)) ∧ World.cell? y2.drew ⟨gb, 1, none⟩ = some (.int .i64 (T.length : Int)) ∧ World.cell? y2.drew ⟨gb, 2, none⟩ = some (.int .i64 0) ∧ World.cell? y2.drew ⟨gb, 3, none⟩ = some (.slice aor s1.rules.length capr) := ⟨bkeep b2 hq1, bkeep b2 c0, bkeep b2 c1, j0, j1, j2, j3⟩
      have b3 : Below wr.heap.size wr y2.drew := bthen b2 (G.drw1 _)
      go_wp2_with fail
      refine wp_region_noPanic ?_
      refine wp_region_held_drew (S := fun w' => World.cell? w' ⟨p, 0, none⟩ = some (.pointer (some ⟨r, 0, none⟩)) ∧ World.cell? w' ⟨r, 0, none⟩ = some (.slice aon N.length capn) ∧ World.cell? w' ⟨r, 1, none⟩ = some (.slice aot T.length capt) ∧ World.cell? w' ⟨gb, 0, none⟩ = some (.int .i64 (s1.vars : Int)) ∧ World.cell? w' ⟨gb, 1, none⟩ = some (.int .i64 (T.length : Int)) ∧ World.cell? w' ⟨gb, 2, none⟩ = some (.int .i64 0) ∧ World.cell? w' ⟨gb, 3, none⟩ = some (.slice aor s1.rules.length capr)) (by kernel_rfl) S2 ?_
      intro hSw
      obtain ⟨y3, hy3⟩ : ∃ y3, y3 = y2.drew := ⟨_, rfl⟩
      rw [← hy3] at hSw b3 ⊢
      clear hy3
      refine wpAnyH_take (i := 0) (v := ?v23) rfl (by kernel_rfl) (by kernel_rfl) (by kernel_rfl) (fun _ _ _ h => np_panic h) (Or.inl ⟨by rfl, ?hy23⟩) (by assumption) ?_
      case hy23 => (intro w' hS'; (try dsimp only at hS'); go_simp; try with_reducible rfl)
      simp only [Act.put, List.setIfInBounds_toArray, List.set_cons_zero, List.set_cons_succ, List.getElem_toArray, List.getElem_cons_zero]
      refine wpAnyH_take (i := 1) (v := ?v24) rfl (by kernel_rfl) (by kernel_rfl) (by kernel_rfl) (fun _ _ _ h => np_panic h) (Or.inl ⟨by rfl, ?hy24⟩) (by assumption) ?_
      case hy24 => (intro w' hS'; (try dsimp only at hS'); go_simp; try with_reducible rfl)
      simp only [Act.put, List.setIfInBounds_toArray, List.set_cons_zero, List.set_cons_succ, List.getElem_toArray, List.getElem_cons_succ, List.getElem_cons_zero]
      refine wpAnyH_take (i := 2) (v := ?v25) rfl (by kernel_rfl) (by kernel_rfl) (by kernel_rfl) (fun _ _ _ h => np_panic h) (Or.inl ⟨by rfl, ?hy25⟩) (by assumption) ?_
      case hy25 => (intro w' hS'; (try dsimp only at hS'); go_simp; try with_reducible rfl)
      simp only [Act.put, List.setIfInBounds_toArray, List.set_cons_zero, List.set_cons_succ, List.getElem_toArray, List.getElem_cons_succ, List.getElem_cons_zero]
      refine wpAnyH_take (i := 3) (v := ?v26) rfl (by kernel_rfl) (by kernel_rfl) (by kernel_rfl) (fun _ _ _ h => np_panic h) (Or.inl ⟨by rfl, ?hy26⟩) (by assumption) ?_
      case hy26 => (intro w' hS'; (try dsimp only at hS'); go_simp; try with_reducible rfl)
      simp only [Act.put, List.setIfInBounds_toArray, List.set_cons_zero, List.set_cons_succ, List.getElem_toArray, List.getElem_cons_succ, List.getElem_cons_zero]
      refine wpAnyH_take (i := 4) (v := ?v27) rfl (by kernel_rfl) (by kernel_rfl) (by kernel_rfl) (fun _ _ _ h => np_panic h) (Or.inl ⟨by rfl, ?hy27⟩) (by assumption) ?_
      case hy27 => (intro w' hS'; (try dsimp only at hS'); go_simp; try with_reducible rfl)
      simp only [Act.put, List.setIfInBounds_toArray, List.set_cons_zero, List.set_cons_succ, List.getElem_toArray, List.getElem_cons_succ, List.getElem_cons_zero]
      refine wpAnyH_take (i := 5) (v := ?v28) rfl (by kernel_rfl) (by kernel_rfl) (by kernel_rfl) (fun _ _ _ h => np_panic h) (Or.inl ⟨by rfl, ?hy28⟩) (by assumption) ?_
      case hy28 => (intro w' hS'; (try dsimp only at hS'); go_simp; try with_reducible rfl)
      simp only [Act.put, List.setIfInBounds_toArray, List.set_cons_zero, List.set_cons_succ, List.getElem_toArray, List.getElem_cons_succ, List.getElem_cons_zero]
      refine wpAnyH_take (i := 6) (v := ?v29) rfl (by kernel_rfl) (by kernel_rfl) (by kernel_rfl) (fun _ _ _ h => np_panic h) (Or.inl ⟨by rfl, ?hy29⟩) (by assumption) ?_
      case hy29 => (intro w' hS'; (try dsimp only at hS'); go_simp; try with_reducible rfl)
      simp only [Act.put, List.setIfInBounds_toArray, List.set_cons_zero, List.set_cons_succ, List.getElem_toArray, List.getElem_cons_succ, List.getElem_cons_zero]
      refine wpAnyH_take (i := 7) (v := ?v30) rfl (by kernel_rfl) (by kernel_rfl) (by kernel_rfl) (fun _ _ _ h => np_panic h) (Or.inl ⟨by rfl, ?hy30⟩) (by assumption) ?_
      case hy30 => (intro w' hS'; (try dsimp only at hS'); go_simp; try with_reducible rfl)
      simp only [Act.put, List.setIfInBounds_toArray, List.set_cons_zero, List.set_cons_succ, List.getElem_toArray, List.getElem_cons_succ, List.getElem_cons_zero]
      refine wpAnyH_take (i := 8) (v := ?v31) rfl (by kernel_rfl) (by kernel_rfl) (by kernel_rfl) (fun _ _ _ h => np_panic h) (Or.inl ⟨by rfl, ?hy31⟩) (by assumption) ?_
      case hy31 => (intro w' hS'; (try dsimp only at hS'); go_simp; try with_reducible rfl)
      simp only [Act.put, List.setIfInBounds_toArray, List.set_cons_zero, List.set_cons_succ, List.getElem_toArray, List.getElem_cons_succ, List.getElem_cons_zero]
      refine wpAnyH_take (i := 9) (v := ?v32) rfl (by kernel_rfl) (by kernel_rfl) (by kernel_rfl) (fun _ _ _ h => np_panic h) (Or.inl ⟨by rfl, ?hy32⟩) (by assumption) ?_
      case hy32 => (intro w' hS'; (try dsimp only at hS'); go_simp; try with_reducible rfl)
      simp only [Act.put, List.setIfInBounds_toArray, List.set_cons_zero, List.set_cons_succ, List.getElem_toArray, List.getElem_cons_succ, List.getElem_cons_zero]
      refine wpAnyH_take (i := 10) (v := ?v33) rfl (by kernel_rfl) (by kernel_rfl) (by kernel_rfl) (fun _ _ _ h => np_panic h) (Or.inl ⟨by rfl, ?hy33⟩) (by assumption) ?_
      case hy33 => (intro w' hS'; (try dsimp only at hS'); go_simp; try with_reducible rfl)
      simp only [Act.put, List.setIfInBounds_toArray, List.set_cons_zero, List.set_cons_succ, List.getElem_toArray, List.getElem_cons_succ, List.getElem_cons_zero]
      refine wpAnyH_ready (rs := [11]) (by kernel_rfl) (by simp) ?_
      refine AllReadyH.cons rfl (fun K hK => ?_) AllReadyH.nil
      have hcel : ∀ b i u, b < wr.heap.size → wr.cell? ⟨b, i, none⟩ = some u → y3.cell? ⟨b, i, none⟩ = some u := fun b i u _ h => bkeep b3 h
      have e0 := bkeep b3 o0
      have e1 := bkeep b3 o1
      have e2 := bkeep b3 o2
      have e3 := bkeep b3 o3
      have e4 := bkeep b3 o4
      have e5 := bkeep b3 o5
      have ef : ∀ i, y3.frozen? ⟨w.heap.size + 1, i, none⟩ = false := fun i => by rw [b3.frozen (p := ⟨w.heap.size + 1, i, none⟩) (by show w.heap.size + 1 < wr.heap.size; omega)]; exact zo i
      go_simp
      obtain ⟨y4, hy4⟩ : ∃ y4, y4 = World.setCell (World.setCell (World.setCell (World.setCell (World.setCell (World.setCell (y3) ⟨w.heap.size + 1, 0, none⟩ (.int .i64 (s1.vars : Int))) ⟨w.heap.size + 1, 1, none⟩ (.int .i64 (T.length : Int))) ⟨w.heap.size + 1, 2, none⟩ (.int .i64 0)) ⟨w.heap.size + 1, 3, none⟩ (.slice aor s1.rules.length capr)) ⟨w.heap.size + 1, 4, none⟩ (.slice aon N.length capn)) ⟨w.heap.size + 1, 5, none⟩ (.slice aot T.length capt) := ⟨_, rfl⟩
      have x0 : y4.cell? ⟨w.heap.size + 1, 0, none⟩ = some (.int .i64 (s1.vars : Int)) := by rw [hy4]; simp [go_sem, e0]
      have x1 : y4.cell? ⟨w.heap.size + 1, 1, none⟩ = some (.int .i64 (T.length : Int)) := by rw [hy4]; simp [go_sem, e1]
      have x2 : y4.cell? ⟨w.heap.size + 1, 2, none⟩ = some (.int .i64 0) := by rw [hy4]; simp [go_sem, e2]
      have x3 : y4.cell? ⟨w.heap.size + 1, 3, none⟩ = some (.slice aor s1.rules.length capr) := by rw [hy4]; simp [go_sem, e3]
      have x4 : y4.cell? ⟨w.heap.size + 1, 4, none⟩ = some (.slice aon N.length capn) := by rw [hy4]; simp [go_sem, e4]
      have x5 : y4.cell? ⟨w.heap.size + 1, 5, none⟩ = some (.slice aot T.length capt) := by rw [hy4]; simp [go_sem, e5]
      have kk : ∀ j, j ≠ w.heap.size + 1 → y4.heap[j]? = y3.heap[j]? := fun j h => by rw [hy4, Below.heap_setCell _ _ _ _ (by exact h), Below.heap_setCell _ _ _ _ (by exact h), Below.heap_setCell _ _ _ _ (by exact h), Below.heap_setCell _ _ _ _ (by exact h), Below.heap_setCell _ _ _ _ (by exact h), Below.heap_setCell _ _ _ _ (by exact h)]
      have kc : ∀ b i u, b ≠ w.heap.size + 1 → y3.cell? ⟨b, i, none⟩ = some u → y4.cell? ⟨b, i, none⟩ = some u := fun b i u hb h => by rw [World.cell?_of_block (w := y3) (a := ⟨b, i, none⟩) (kk b hb)]; exact h
      have z4 : y4.heap.size = y3.heap.size := by rw [hy4]; simp [World.setCell]
      have d0 := kc (w.heap.size + 2) 0 _ (by omega) (bkeep b3 f0)
      have d1 := kc (w.heap.size + 2) 1 _ (by omega) (bkeep b3 f1)
      have df' : ∀ i, y4.frozen? ⟨w.heap.size + 2, i, none⟩ = false := fun i => by rw [World.frozen?_of_block (w := y3) (a := ⟨w.heap.size + 2, i, none⟩) (kk (w.heap.size + 2) (by omega)), b3.frozen (p := ⟨w.heap.size + 2, i, none⟩) (by show w.heap.size + 2 < wr.heap.size; omega)]; exact zf i
      have b3' : Below (w.heap.size + 1) wr y3 := b3.mono (by omega)
      have b4 : Below (w.heap.size + 1) wr y4 := by rw [hy4]; exact Below.setCell (p := ⟨w.heap.size + 1, 5, none⟩) (Below.setCell (p := ⟨w.heap.size + 1, 4, none⟩) (Below.setCell (p := ⟨w.heap.size + 1, 3, none⟩) (Below.setCell (p := ⟨w.heap.size + 1, 2, none⟩) (Below.setCell (p := ⟨w.heap.size + 1, 1, none⟩) (Below.setCell (p := ⟨w.heap.size + 1, 0, none⟩) (b3') (Nat.le_refl _) _) (Nat.le_refl _) _) (Nat.le_refl _) _) (Nat.le_refl _) _) (Nat.le_refl _) _) (Nat.le_refl _) _
      rw [← hy4]
      have st4 : World.cell? y4 ⟨p, 0, none⟩ = some (.pointer (some ⟨r, 0, none⟩)) ∧ World.cell? y4 ⟨r, 0, none⟩ = some (.slice aon N.length capn) ∧ World.cell? y4 ⟨r, 1, none⟩ = some (.slice aot T.length capt) ∧ World.cell? y4 ⟨gb, 0, none⟩ = some (.int .i64 (s1.vars : Int)) ∧ World.cell? y4 ⟨gb, 1, none⟩ = some (.int .i64 (T.length : Int)) ∧ World.cell? y4 ⟨gb, 2, none⟩ = some (.int .i64 0) ∧ World.cell? y4 ⟨gb, 3, none⟩ = some (.slice aor s1.rules.length capr) := ⟨kc _ _ _ (by omega) hSw.1, kc _ _ _ (by omega) hSw.2.1, kc _ _ _ (by omega) hSw.2.2.1, kc _ _ _ (by omega) hSw.2.2.2.1, kc _ _ _ (by omega) hSw.2.2.2.2.1, kc _ _ _ (by omega) hSw.2.2.2.2.2.1, kc _ _ _ (by omega) hSw.2.2.2.2.2.2⟩
      clear hy4
      refine hK.out _ _ st4 ?_
      clear hK K
      intro hSw
      try simp only [Act.put, List.setIfInBounds_toArray, List.set_cons_zero, List.set_cons_succ]
      refine wpAnyH_ready (rs := [12]) (by kernel_rfl) (by simp) ?_
      refine AllReadyH.cons rfl (fun K hK => ?_) AllReadyH.nil
      go_simp
      obtain ⟨y5, hy5⟩ : ∃ y5, y5 = (y4.setCell ⟨w.heap.size + 1 + 1, 0, none⟩ (.int .i64 0)).setCell ⟨w.heap.size + 1 + 1, 1, none⟩ (.int .i64 0) := ⟨_, rfl⟩
      have k5 : ∀ j, j ≠ w.heap.size + 1 + 1 → y5.heap[j]? = y4.heap[j]? := fun j h => by rw [hy5, Below.heap_setCell _ _ _ _ (by exact h), Below.heap_setCell _ _ _ _ (by exact h)]
      have c5 : ∀ b i u, b ≠ w.heap.size + 1 + 1 → y4.cell? ⟨b, i, none⟩ = some u → y5.cell? ⟨b, i, none⟩ = some u := fun b i u hb h => by rw [World.cell?_of_block (w := y4) (a := ⟨b, i, none⟩) (k5 b hb)]; exact h
      have x6 : y5.cell? ⟨w.heap.size + 1 + 1, 0, none⟩ = some (.int .i64 0) := by rw [hy5]; simp [go_sem, d0]
      have x7 : y5.cell? ⟨w.heap.size + 1 + 1, 1, none⟩ = some (.int .i64 0) := by rw [hy5]; simp [go_sem, d1]
      have z5 : y5.heap.size = y3.heap.size := by rw [hy5]; simp [World.setCell]; exact z4
      have st5 : World.cell? y5 ⟨p, 0, none⟩ = some (.pointer (some ⟨r, 0, none⟩)) ∧ World.cell? y5 ⟨r, 0, none⟩ = some (.slice aon N.length capn) ∧ World.cell? y5 ⟨r, 1, none⟩ = some (.slice aot T.length capt) ∧ World.cell? y5 ⟨gb, 0, none⟩ = some (.int .i64 (s1.vars : Int)) ∧ World.cell? y5 ⟨gb, 1, none⟩ = some (.int .i64 (T.length : Int)) ∧ World.cell? y5 ⟨gb, 2, none⟩ = some (.int .i64 0) ∧ World.cell? y5 ⟨gb, 3, none⟩ = some (.slice aor s1.rules.length capr) := ⟨c5 _ _ _ (by omega) st4.1, c5 _ _ _ (by omega) st4.2.1, c5 _ _ _ (by omega) st4.2.2.1, c5 _ _ _ (by omega) st4.2.2.2.1, c5 _ _ _ (by omega) st4.2.2.2.2.1, c5 _ _ _ (by omega) st4.2.2.2.2.2.1, c5 _ _ _ (by omega) st4.2.2.2.2.2.2⟩
      have b5 : Below (w.heap.size + 1) wr y5 := by rw [hy5]; exact (b4.setCell (p := ⟨w.heap.size + 1 + 1, 0, none⟩) (Nat.le_succ _) _).setCell (p := ⟨w.heap.size + 1 + 1, 1, none⟩) (Nat.le_succ _) _
      rw [← hy5]
      clear hy5
      refine hK.out _ _ st5 ?_
      clear hK K
      intro hSw
      try simp only [Act.put, List.setIfInBounds_toArray, List.set_cons_zero, List.set_cons_succ]
      have kall : ∀ j, j < wr.heap.size → j ≠ w.heap.size + 1 → j ≠ w.heap.size + 2 → y5.heap[j]? = wr.heap[j]? := fun j h h1 h2 => by rw [k5 j (by omega), kk j h1, b3.block j h]
      have kold : ∀ j, j < wr.heap.size → w.heap.size + 3 ≤ j → y5.heap[j]? = wr.heap[j]? := fun j h1 h2 => kall j h1 (by omega) (by omega)
      have c55 : y5.cell? ⟨r, 5, none⟩ = some (.int .i64 0) := by rw [World.cell?_of_block (w := wr) (a := ⟨r, 5, none⟩) (kold r hrz (by omega))]; exact hm1.c5
      have v0 := c5 _ _ _ (by omega) x0
      have v1 := c5 _ _ _ (by omega) x1
      have v2 := c5 _ _ _ (by omega) x2
      have v3 := c5 _ _ _ (by omega) x3
      have v4 := c5 _ _ _ (by omega) x4
      have v5 := c5 _ _ _ (by omega) x5
      refine wpAnyH_done (by kernel_rfl) (NoPanic.normal ?_) _
      go_wp2_with fail
      have bel : Below w.heap.size w y5 := lw.trans (b5.mono (Nat.le_succ _))
      have rsv : RsV y5 (fun k => w.heap.size ≤ k) (.slice aor s1.rules.length capr) s1.rules := RsV_owned (owns_old ho kold) (hrc.mono fun b o v hs hc => ⟨hs, by rw [World.cell?_of_block (w := wr) (a := ⟨b, o, none⟩) (kold b (lt_of_cell hc) (by have := hs.1; omega))]; exact hc⟩) (fun j hj => by have := hj.1; omega) (fun j e => by have := (ho.lt j e).1; omega) (by omega)
      refine leaves_cons (f := 63) (args := #[.pointer (some ⟨p, 0, none⟩), .pointer (some ⟨w.heap.size + 1, 0, none⟩), .pointer (some ⟨w.heap.size + 2, 0, none⟩)]) (by simp) (by simp [go_sem]) ?_
      refine (mcatch_idle p (w.heap.size + 1) (w.heap.size + 2) r y5 st5.1 c55).mono ?_
      rintro e u' w9 ⟨rfl, rfl, rfl⟩
      simp only [Leaves, settle]
      refine ⟨.tuple #[.agg #[.int .i64 (s1.vars : Int), .int .i64 (T.length : Int), .int .i64 0, .slice aor s1.rules.length capr, .slice aon N.length capn, .slice aot T.length capt], .agg #[.int .i64 0, .int .i64 0]], ?_, ?_⟩
      · simp [results, Try.results25, go_sem, v0, v1, v2, v3, v4, v5, x6, x7]
      · exact ⟨_, _, _, rfl, rsv, hm1.st.nn.1.old (B := w.heap.size + 3) (fun b o n c e => by have := hun b o n c e; omega) kold, hm1.st.tt.1.old (B := w.heap.size + 3) (fun b o n c e => by have := hut b o n c e; omega) kold, bel⟩
end Go.Proofs.Ytghplmldnkcpnac
