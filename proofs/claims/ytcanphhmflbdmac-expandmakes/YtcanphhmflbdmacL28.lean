/- Texts laid together: Ew Db Grt. -/
import Derived.Test.YtcanphhmflbdmacL23
import Derived.Test.YtcanphhmflbdmacL27
import Derived.Test.YtcanphhmflbdmacL24
import Derived.Test.YtcanphhmflbdmacL26
import Derived.Test.YtcanphhmflbdmacL17
/- The document's way from definitions to a grammar: Expanded. -/
namespace Go.Proofs.Ytcanphhmflbdmac
open Go.RowKit G

/-- The blocks of Expanded's own: the text, and what is told. -/
structure Rx (u : World) (b : Nat) (tv : Value) : Prop where
  t0 : u.cell? ⟨b, 0, none⟩ = some tv
  o0 : u.cell? ⟨b + 1, 0, none⟩ = some (.int .i64 0)
  o1 : u.cell? ⟨b + 1, 1, none⟩ = some (.int .i64 0)
  o2 : u.cell? ⟨b + 1, 2, none⟩ = some (.int .i64 0)
  o3 : u.cell? ⟨b + 1, 3, none⟩ = some (.slice none 0 0)
  f0 : u.cell? ⟨b + 2, 0, none⟩ = some (.int .i64 0)
  f1 : u.cell? ⟨b + 2, 1, none⟩ = some (.int .i64 0)
  zo : ∀ i, u.frozen? ⟨b + 1, i, none⟩ = false
  zf : ∀ i, u.frozen? ⟨b + 2, i, none⟩ = false
theorem Rx.of {u u' : World} {b : Nat} {tv : Value} (h : Rx u b tv) (hb : ∀ k, k < b + 3 → u'.heap[k]? = u.heap[k]?) : Rx u' b tv := by
  have hc : ∀ k i v, k < b + 3 → u.cell? ⟨k, i, none⟩ = some v → u'.cell? ⟨k, i, none⟩ = some v := fun k i v hk h => by rw [World.cell?_of_block (w := u) (a := ⟨k, i, none⟩) (hb k hk)]; exact h
  exact ⟨hc _ _ _ (by omega) h.t0, hc _ _ _ (by omega) h.o0, hc _ _ _ (by omega) h.o1, hc _ _ _ (by omega) h.o2, hc _ _ _ (by omega) h.o3, hc _ _ _ (by omega) h.f0, hc _ _ _ (by omega) h.f1,
    fun i => by rw [World.frozen?_of_block (w := u) (a := ⟨b + 1, i, none⟩) (hb (b + 1) (by omega))]; exact h.zo i, fun i => by rw [World.frozen?_of_block (w := u) (a := ⟨b + 2, i, none⟩) (hb (b + 2) (by omega))]; exact h.zf i⟩
/-- What is told, written. -/
theorem Rx.told {u : World} {b : Nat} {tv g0 g1 g2 g3 c a : Value} (h : Rx u b tv) : ∃ Z, Z = (((((u.setCell ⟨b + 1, 0, none⟩ g0).setCell ⟨b + 1, 1, none⟩ g1).setCell ⟨b + 1, 2, none⟩ g2).setCell ⟨b + 1, 3, none⟩ g3).setCell ⟨b + 1 + 1, 0, none⟩ c).setCell ⟨b + 1 + 1, 1, none⟩ a ∧
    (Z.cell? ⟨b + 1, 0, none⟩ = some g0 ∧ Z.cell? ⟨b + 1, 1, none⟩ = some g1 ∧ Z.cell? ⟨b + 1, 2, none⟩ = some g2 ∧ Z.cell? ⟨b + 1, 3, none⟩ = some g3 ∧ Z.cell? ⟨b + 1 + 1, 0, none⟩ = some c ∧ Z.cell? ⟨b + 1 + 1, 1, none⟩ = some a) ∧ (∀ j, j ≠ b + 1 → j ≠ b + 2 → Z.heap[j]? = u.heap[j]?) ∧ Below (b + 1) u Z := by
  obtain ⟨t0, o0, o1, o2, o3, f0, f1, zo, zf⟩ := h
  refine ⟨_, rfl, ⟨?_, ?_, ?_, ?_, ?_, ?_⟩, fun j h1 h2 => ?_, ?_⟩
  · simp [go_sem, o0]
  · simp [go_sem, o1]
  · simp [go_sem, o2]
  · simp [go_sem, o3]
  · simp [go_sem, f0]
  · simp [go_sem, f1]
  · rw [Below.heap_setCell _ _ _ _ (by exact h2), Below.heap_setCell _ _ _ _ (by exact h2), Below.heap_setCell _ _ _ _ (by exact h1), Below.heap_setCell _ _ _ _ (by exact h1), Below.heap_setCell _ _ _ _ (by exact h1), Below.heap_setCell _ _ _ _ (by exact h1)]
  · exact ((((((Below.refl _ _).setCell (p := ⟨b + 1, 0, none⟩) (Nat.le_refl _) _).setCell (p := ⟨b + 1, 1, none⟩) (Nat.le_refl _) _).setCell (p := ⟨b + 1, 2, none⟩) (Nat.le_refl _) _).setCell (p := ⟨b + 1, 3, none⟩) (Nat.le_refl _) _).setCell (p := ⟨b + 1 + 1, 0, none⟩) (Nat.le_succ _) _).setCell (p := ⟨b + 1 + 1, 1, none⟩) (Nat.le_succ _) _
/-- How Expanded ends. -/
def ExD (w : World) (g : Gm) (f : Int × Int) (e : Ending) (w' : World) : Prop :=
  ∃ vr, e = .returned (.tuple #[.agg #[.int .i64 g.vars, .int .i64 g.terms, .int .i64 g.start, vr], .agg #[.int .i64 f.1, .int .i64 f.2]]) ∧ RsV w' (fun k => w.heap.size ≤ k) vr g.rules ∧ Below w.heap.size w w'
set_option maxRecDepth 100000 in
set_option maxHeartbeats 4000000 in
theorem expanded_wrong (ds : List Df) (va : Value) (w : World) (hx : DsV w All va ds) (h60 : ds.length ≤ 60) (hs : ∀ d ∈ ds, d.e.sz ≤ 3000 ∧ d.sh) (hd0 : (dfl ds).1 ≠ 0) :
    Calls Try.prog 23 #[.agg #[va]] w (ExD w ⟨0, 0, 0, []⟩ (dfl ds)) := by
  have CA := fun w' (hb : Below w.heap.size w w') => dfault_any ds va w' (hx.kp (Kp.of_below hb) (fun _ _ h => h)) h60 hs
  obtain ⟨hl, ao, cap, rfl, hin⟩ := hx
  generalize dfl ds = D at *
  obtain ⟨c, a⟩ := D
  simp only at hd0 CA
  have hcB : (c != 0) = true := by simpa using hd0
  obtain ⟨V, hV⟩ : ∃ V, V = ((w.alloc (.cells #[.slice ao ds.length cap] 42)).alloc (.cells #[.int .i64 0, .int .i64 0, .int .i64 0, .slice none 0 0] 24)).alloc (.cells #[.int .i64 0, .int .i64 0] 29) := ⟨_, rfl⟩
  have hVb : Below w.heap.size w V := by rw [hV]; exact (al2 w _ _).alloc (by simp <;> omega) _
  have hVz : V.heap.size = w.heap.size + 3 := by rw [hV]; simp
  have rbV : Rx V w.heap.size (.slice ao ds.length cap) := by
    rw [hV]
    constructor <;> simp [go_sem]
  go_enter Try.func23, Try.ntmps23
  go_wp2_with fail
  rw [← hV]
  refine (CA _ hVb).mono ?_
  rintro e w1 ⟨rfl, hb1⟩
  have HV := hd hV
  clear hV CA
  obtain ⟨U, hU⟩ : ∃ U, U = w1.alloc (.cells #[.int .i64 c, .int .i64 a] 29) := ⟨_, rfl⟩
  have hVU : Below V.heap.size V U := by rw [hU]; exact bthen hb1 (G.al1 _ _)
  have bU : Below w.heap.size w U := bthen hVb hVU
  have rbU := rbV.of (u' := U) (fun k hk => hVU.block k (by omega))
  obtain ⟨Z, hZ, ⟨y0, y1, y2, y3, y6, y7⟩, _, bZ⟩ := rbU.told (g0 := .int .i64 0) (g1 := .int .i64 0) (g2 := .int .i64 0) (g3 := .slice none 0 0) (c := .int .i64 c) (a := .int .i64 a)
  obtain ⟨t0, o0, o1, o2, o3, f0, f1, zo, zf⟩ := rbU
  have zU : w.heap.size + 3 ≤ U.heap.size := by have := hVU.size; omega
  have g0 : U.cell? ⟨w1.heap.size, 0, none⟩ = some (.int .i64 c) := by rw [hU]; simp
  have g1 : U.cell? ⟨w1.heap.size, 1, none⟩ = some (.int .i64 a) := by rw [hU]; simp
  have z1 := hb1.size
  go_upto_region 3 with fail
  rw [← hU]
  have HU := hd hU
  have HZ := hd hZ
  clear hU hZ
  go_region
  go_wp2_with fail
  rw [← HZ.out]
  refine bodyPost_ret (v := .tuple #[.agg #[.int .i64 0, .int .i64 0, .int .i64 0, .slice none 0 0], .agg #[.int .i64 c, .int .i64 a]]) (by simp [results, Try.results23, go_sem, y0, y1, y2, y3, y6, y7]) rfl ⟨_, rfl, RsV_nil _ _, bthen (bU.trans (bZ.mono (Nat.le_succ _))) (G.drw1 _)⟩
/-- A new state. -/
theorem sd_new {y : World} {vn vt : Value} {N T : List ByteArray} {n : Nat} (hn : SsL y y.heap.size vn N) (ht : SsL y y.heap.size vt T) (h64 : n ≤ 64) :
    SdS (y.alloc (.cells #[vn, vt, .int .i64 (n : Int), .slice none 0 0, .bool false] 85)) y.heap.size vn vt N T ⟨n, [], false⟩ none (fun _ => False) := by
  have hb : Below y.heap.size y (y.alloc (.cells #[vn, vt, .int .i64 (n : Int), .slice none 0 0, .bool false] 85)) := G.al1 _ _
  exact ⟨⟨by simp, by simp, by simp, ⟨.slice none 0 0, [], by simp, World.ownsRow_nil _ _ _ _, trivial, rfl⟩, by simp [go_sem], by simp, hn.below hb, ht.below hb, by simp, h64, fun _ h => h.elim⟩, by simp⟩
set_option maxRecDepth 100000 in
set_option maxHeartbeats 16000000 in
theorem expanded_good (ds : List Df) (va : Value) (w : World) (hx : DsV w All va ds) (h60 : ds.length ≤ 60) (hs : ∀ d ∈ ds, d.e.sz ≤ 3000 ∧ d.sh) (hd0 : (dfl ds).1 = 0) :
    Calls Try.prog 23 #[.agg #[va]] w fun e w' => if (exA ds).1.bad = true then ExD w ⟨0, 0, 0, []⟩ (6, (exA ds).2) e w' else ExD w ⟨(exA ds).1.vars, (trms ds).length, 0, (exA ds).1.rules⟩ (0, 0) e w' := by
  have CA := fun w' (hb : Below w.heap.size w w') => dfault_any ds va w' (hx.kp (Kp.of_below hb) (fun _ _ h => h)) h60 hs
  have NA := fun w' (hb : Below w.heap.size w w') => namesOf_any ds va w' (hx.kp (Kp.of_below hb) (fun _ _ h => h)) h60
  have TA := fun w' (hb : Below w.heap.size w w') => termsOf_any ds va w' (hx.kp (Kp.of_below hb) (fun _ _ h => h)) h60 (fun d hd => (hs d hd).1)
  obtain ⟨hfine, _, htl, _⟩ := dfl_zero hd0
  have hnl : (nms ds).length ≤ 9223372036854775807 := by rw [nms_len]; omega
  have htl' : (trms ds).length ≤ 9223372036854775807 := by omega
  have hfew := hfine.few
  have hR : exG (nms ds) (trms ds) (ds.drop 0) 0 ⟨ds.length, [], false⟩ = exA ds := rfl
  obtain ⟨hl, ao, cap, rfl, hin⟩ := hx
  generalize exA ds = R at *
  generalize nms ds = N at *
  generalize trms ds = T at *
  rw [hd0] at CA
  generalize (dfl ds).2 = a at *
  obtain ⟨V, hV⟩ : ∃ V, V = ((w.alloc (.cells #[.slice ao ds.length cap] 42)).alloc (.cells #[.int .i64 0, .int .i64 0, .int .i64 0, .slice none 0 0] 24)).alloc (.cells #[.int .i64 0, .int .i64 0] 29) := ⟨_, rfl⟩
  have hVb : Below w.heap.size w V := by rw [hV]; exact (al2 w _ _).alloc (by simp <;> omega) _
  have hVz : V.heap.size = w.heap.size + 3 := by rw [hV]; simp
  have rbV : Rx V w.heap.size (.slice ao ds.length cap) := by
    rw [hV]
    constructor <;> simp [go_sem]
  go_enter Try.func23, Try.ntmps23
  go_wp2_with fail
  rw [← hV]
  refine (CA _ hVb).mono ?_
  rintro e w1 ⟨rfl, hb1⟩
  have HV := hd hV
  clear hV CA
  obtain ⟨U, hU⟩ : ∃ U, U = w1.alloc (.cells #[.int .i64 0, .int .i64 a] 29) := ⟨_, rfl⟩
  have hVU : Below V.heap.size V U := by rw [hU]; exact bthen hb1 (G.al1 _ _)
  have bU : Below w.heap.size w U := bthen hVb hVU
  have rbU := rbV.of (u' := U) (fun k hk => hVU.block k (by omega))
  have zU : w.heap.size + 3 ≤ U.heap.size := by have := hVU.size; omega
  have u0 : w1.cell? ⟨w.heap.size, 0, none⟩ = some (.slice ao ds.length cap) := bkeep hb1 rbV.t0
  have bD : Below U.heap.size U U.drew := G.drw1 U
  have S0 : U.drew.cell? ⟨w.heap.size, 0, none⟩ = some (.slice ao ds.length cap) := bkeep bD rbU.t0
  go_upto_region 4 with fail
  rw [← hU]
  have HU := hd hU
  clear hU
  refine wp_region_noPanic ?_
  refine wp_region_held_drew (S := fun w' => w'.cell? ⟨w.heap.size, 0, none⟩ = some (.slice ao ds.length cap)) (by kernel_rfl) S0 ?_
  intro hSw
  obtain ⟨y0, hy0⟩ : ∃ y0, y0 = U.drew := ⟨_, rfl⟩
  rw [← hy0] at hSw bD ⊢
  clear hy0
  refine wpAnyH_take (i := 0) (v := ?v1) rfl (by kernel_rfl) (by kernel_rfl) (by kernel_rfl) (fun _ _ _ h => np_panic h) (Or.inl ⟨by rfl, ?hy1⟩) (by assumption) ?_
  case hy1 => (intro w' hS'; (try dsimp only at hS'); go_simp; try with_reducible rfl)
  simp only [Act.put, List.setIfInBounds_toArray, List.set_cons_zero, List.set_cons_succ, List.getElem_toArray, List.getElem_cons_zero]
  refine wpAnyH_take (i := 2) (v := ?v2) rfl (by kernel_rfl) (by kernel_rfl) (by kernel_rfl) (fun _ _ _ h => np_panic h) (Or.inl ⟨by rfl, ?hy2⟩) (by assumption) ?_
  case hy2 => (intro w' hS'; (try dsimp only at hS'); go_simp; try with_reducible rfl)
  simp only [Act.put, List.setIfInBounds_toArray, List.set_cons_zero, List.set_cons_succ, List.getElem_toArray, List.getElem_cons_succ, List.getElem_cons_zero]
  refine wpAnyH_take (i := 4) (v := ?v3) rfl (by kernel_rfl) (by kernel_rfl) (by kernel_rfl) (fun _ _ _ h => np_panic h) (Or.inl ⟨by rfl, ?hy3⟩) (by assumption) ?_
  case hy3 => (intro w' hS'; (try dsimp only at hS'); go_simp; try with_reducible rfl)
  simp only [Act.put, List.setIfInBounds_toArray, List.set_cons_zero, List.set_cons_succ, List.getElem_toArray, List.getElem_cons_succ, List.getElem_cons_zero]
  refine wpAnyH_take (i := 5) (v := ?v4) rfl (by kernel_rfl) (by kernel_rfl) (by kernel_rfl) (fun _ _ _ h => np_panic h) (Or.inl ⟨by rfl, ?hy4⟩) (by assumption) ?_
  case hy4 => (intro w' hS'; (try dsimp only at hS'); go_simp; try with_reducible rfl)
  simp only [Act.put, List.setIfInBounds_toArray, List.set_cons_zero, List.set_cons_succ, List.getElem_toArray, List.getElem_cons_succ, List.getElem_cons_zero]
  refine wpAnyH_take (i := 6) (v := ?v5) rfl (by kernel_rfl) (by kernel_rfl) (by kernel_rfl) (fun _ _ _ h => np_panic h) (Or.inl ⟨by rfl, ?hy5⟩) (by assumption) ?_
  case hy5 => (intro w' hS'; (try dsimp only at hS'); go_simp; try with_reducible rfl)
  simp only [Act.put, List.setIfInBounds_toArray, List.set_cons_zero, List.set_cons_succ, List.getElem_toArray, List.getElem_cons_succ, List.getElem_cons_zero]
  refine wpAnyH_ready (rs := [1]) (by kernel_rfl) (by simp) ?_
  refine AllReadyH.cons rfl (fun K hK => ?_) AllReadyH.nil
  go_simp
  go_at_call 26
  refine (NA _ (bthen bU bD)).mono ?_
  rintro e y1 ⟨v1, rfl, own1, hb1'⟩
  have be1 := bthen bD hb1'
  have st1 := bkeep hb1' hSw
  have sn1 := SsL_owned own1 hnl
  obtain ⟨aon, capn, rfl⟩ := owns_slice own1
  clear own1
  refine hK.out _ _ st1 ?_
  clear hK K
  intro hSw
  try simp only [Act.put, List.setIfInBounds_toArray, List.set_cons_zero, List.set_cons_succ]
  refine wpAnyH_ready (rs := [3]) (by kernel_rfl) (by simp) ?_
  refine AllReadyH.cons rfl (fun K hK => ?_) AllReadyH.nil
  go_simp
  go_at_call 27
  refine (TA _ (bthen bU be1)).mono ?_
  rintro e y2 ⟨v2, rfl, own2, hb2'⟩
  have be2 := bthen be1 hb2'
  have st2 := bkeep hb2' st1
  have sn2 := sn1.here hb2'
  have sm2 := SsL_owned own2 htl'
  obtain ⟨aot, capt, rfl⟩ := owns_slice own2
  clear own2
  refine hK.out _ _ st2 ?_
  clear hK K
  intro hSw
  try simp only [Act.put, List.setIfInBounds_toArray, List.set_cons_zero, List.set_cons_succ]
  refine wpAnyH_take (i := 7) (v := ?v6) rfl (by kernel_rfl) (by kernel_rfl) (by kernel_rfl) (fun _ _ _ h => np_panic h) (Or.inl ⟨by rfl, ?hy6⟩) (by assumption) ?_
  case hy6 => (intro w' hS'; (try dsimp only at hS'); go_simp; try with_reducible rfl)
  simp only [Act.put, List.setIfInBounds_toArray, List.set_cons_zero, List.set_cons_succ, List.getElem_toArray, List.getElem_cons_succ, List.getElem_cons_zero]
  refine wpAnyH_ready (rs := [8]) (by kernel_rfl) (by simp) ?_
  refine AllReadyH.cons rfl (fun K hK => ?_) AllReadyH.nil
  go_simp
  obtain ⟨wc, hwc⟩ : ∃ wc, wc = y2.alloc (.cells #[.slice aon N.length capn, .slice aot T.length capt, .int .i64 (ds.length : Int), .slice none 0 0, .bool false] 85) := ⟨_, rfl⟩
  have hbc : Below y2.heap.size y2 wc := by rw [hwc]; exact G.al1 _ _
  have bc2 := bthen be2 hbc
  have stc := bkeep hbc st2
  have hm := sd_new (n := ds.length) sn2 sm2 (by omega)
  rw [← hwc] at hm
  obtain ⟨r, hrr⟩ : ∃ r, r = y2.heap.size := ⟨_, rfl⟩
  rw [← hrr] at hm
  have hr : U.heap.size ≤ r := by have := be2.size; omega
  obtain ⟨vn, hvn⟩ : ∃ vn, vn = Value.slice aon N.length capn := ⟨_, rfl⟩
  obtain ⟨vt, hvt⟩ : ∃ vt, vt = Value.slice aot T.length capt := ⟨_, rfl⟩
  rw [← hvn, ← hvt] at hm
  rw [← hwc, ← hrr]
  clear hwc hrr
  refine hK.out _ _ stc ?_
  clear hK K
  intro hSw
  try simp only [Act.put, List.setIfInBounds_toArray, List.set_cons_zero, List.set_cons_succ]
  refine wpAnyH_take (i := 9) (v := ?v7) rfl (by kernel_rfl) (by kernel_rfl) (by kernel_rfl) (fun _ _ _ h => np_panic h) (Or.inl ⟨by rfl, ?hy7⟩) (by assumption) ?_
  case hy7 => (intro w' hS'; (try dsimp only at hS'); go_simp; try with_reducible rfl)
  simp only [Act.put, List.setIfInBounds_toArray, List.set_cons_zero, List.set_cons_succ, List.getElem_toArray, List.getElem_cons_succ, List.getElem_cons_zero]
  refine wpAnyH_done (by kernel_rfl) (NoPanic.normal ?_) _
  have t0 := bkeep bc2 rbU.t0
  have rbc := rbU.of (u' := wc) (fun k hk => bc2.block k (by omega))
  have bc : Below w.heap.size w wc := bthen bU bc2
  have HR := hd hR
  have hsz := hm.st.sz
  clear hR NA TA S0 bD rbU rbV u0 HU HV
  go_wp2_with fail
  go_loopw [6] (fun i wr => ∃ (k : Nat) (s1 : Sp) (q1 : Option Nat), k ≤ ds.length ∧ i = .int .i64 k ∧ SdS wr r vn vt N T s1 q1 (fun _ => False) ∧ s1.bad = false ∧ Hid (exG N T (ds.drop k) k s1 = R) ∧ Fm r none wc wr ∧ Own wc none q1) (fun i _ => ds.length - (intOf i).toNat)
  case atStart => exact ⟨0, _, none, Nat.zero_le _, rfl, hm, rfl, HR, Fm.refl _ _ _, .inl rfl⟩
  case round =>
    obtain ⟨k, s1, q1, hk, rfl, hm1, hnb, hE, hfr, how⟩ := hrel
    have hz := hfr.size
    have lw : Below w.heap.size w wr := bc.trans (hfr.below (B := w.heap.size) (by omega) (by simp) (by omega))
    have rb1 := rbc.of (u' := wr) (fun j hj => hfr.block j (by omega) (by omega) (by simp))
    have t1 := rb1.t0
    by_cases hlt : k < ds.length
    · obtain h0 | ⟨ba, oa, rfl, hia⟩ := hin
      · omega
      have kA : ∀ b o v, All b → w.cell? ⟨b, o, none⟩ = some v → b < r ∧ wr.cell? ⟨b, o, none⟩ = some v := fun b o v _ hc => ⟨by have := lt_of_cell hc; omega, bkeep lw hc⟩
      obtain ⟨an, aa, ax⟩ := (hia.mono kA).at_ k hlt
      obtain ⟨ua, a0, a1, a2, hxa⟩ := ax.xv
      have hcode := (Df.code_zero (hfine.all _ (List.getElem_mem hlt))).2.2.2
      have hsk := (hs _ (List.getElem_mem hlt)).1
      have hE' := hE.out
      rw [exG_at hlt] at hE'
      generalize ds[k] = dk at *
      have hxa' := hxa
      obtain ⟨_, e, _, aoa', capa', rfl, _⟩ := hxa'
      simp at e; subst e
      clear kA ax hE
      have PA := rput_tf (rsym_any dk.e).2 hm1 (va := .agg #[.int .i64 dk.e.op, .string dk.e.nm, .slice aoa' dk.e.kids.len capa']) hxa hcode hsk (k : Int)
      generalize dk.e.put N T k true false s1 = s2 at *
      cases hb2 : s2.bad with
      | true =>
        rw [if_pos hb2] at hE'
        subst hE'
        clear hxa
        go_wp2_with fail
        refine PA.mono ?_
        rintro e w3 ⟨rfl, q3, hm3, hf3, ow3⟩
        have f03 : Fm r none wc w3 := hfr.trans hf3 how
        have rb3 := rbc.of (u' := w3) (fun j hj => f03.block j (by omega) (by omega) (by simp))
        have bel : Below w.heap.size w w3 := bc.trans (f03.below (B := w.heap.size) (by omega) (by simp) (by omega))
        have c4 := hm3.c4
        rw [hb2] at c4
        go_wp2_with fail
        refine (rF_any 6 (k : Int) _).mono ?_
        rintro e w4 ⟨rfl, hb4⟩
        have z3 := f03.size
        have rb4 := rb3.of (u' := w4) (fun j hj => hb4.block j (by omega))
        obtain ⟨Z, hZ, ⟨y0, y1, y2, y3, y6, y7⟩, _, bZ⟩ := rb4.told (g0 := .int .i64 0) (g1 := .int .i64 0) (g2 := .int .i64 0) (g3 := .slice none 0 0) (c := .int .i64 6) (a := .int .i64 k)
        obtain ⟨_, o0, o1, o2, o3, f0, f1, zo, zf⟩ := rb4
        have HZ := hd hZ
        clear hZ
        go_wp2_with fail
        rw [← HZ.out]
        refine bodyPost_ret (v := .tuple #[.agg #[.int .i64 0, .int .i64 0, .int .i64 0, .slice none 0 0], .agg #[.int .i64 6, .int .i64 k]]) (by simp [results, Try.results23, go_sem, y0, y1, y2, y3, y6, y7]) rfl ?_
        have bE : Below w.heap.size w Z := (bthen bel hb4).trans (bZ.mono (Nat.le_succ _))
        exact ⟨_, rfl, RsV_nil _ _, bE⟩
      | false =>
        rw [if_neg (by simp [hb2])] at hE'
        have HE := hd hE'
        clear hE' hxa
        go_wp2_with fail
        refine PA.mono ?_
        rintro e w3 ⟨rfl, q3, hm3, hf3, ow3⟩
        have c4 := hm3.c4
        rw [hb2] at c4
        go_wp2_with fail
        go_roundw
        case rel => exact ⟨k + 1, s2, q3, by omega, by go_num, hm3, hb2, HE, hfr.trans hf3 how, how.trans ow3 hz⟩
        case measure => simp [intOf]; omega
    · have hE' := hE.out
      rw [exG_end (by omega)] at hE'
      subst hE'
      clear hE
      obtain ⟨vr, xs, c3, ho, hrc, hoq⟩ := hm1.st.c3
      obtain ⟨aor, capr, rfl⟩ := owns_slice ho
      obtain ⟨aot, capt, rfl⟩ := hm1.st.tt.slice
      have c1 := hm1.st.c1
      have c2 := hm1.st.c2
      have hrz := hm1.st.sz
      have hrl := hm1.st.rl
      have hvl := hm1.st.vl
      have rb1z : w.heap.size + 3 ≤ wr.heap.size := by omega
      have S1 : wr.drew.cell? ⟨r, 1, none⟩ = some (.slice aot T.length capt) ∧ wr.drew.cell? ⟨r, 2, none⟩ = some (.int .i64 (s1.vars : Int)) ∧ wr.drew.cell? ⟨r, 3, none⟩ = some (.slice aor s1.rules.length capr) := ⟨c1, c2, c3⟩
      have bW : Below wr.heap.size wr wr.drew := G.drw1 wr
      have rbD : Rx wr.drew w.heap.size (.slice ao ds.length cap) := rb1.of (fun j hj => bW.block j (by omega))
      go_wp2_with fail
      refine wp_region_noPanic ?_
      refine wp_region_held_drew (S := fun w' => World.cell? w' ⟨r, 1, none⟩ = some (.slice aot T.length capt) ∧ World.cell? w' ⟨r, 2, none⟩ = some (.int .i64 (s1.vars : Int)) ∧ World.cell? w' ⟨r, 3, none⟩ = some (.slice aor s1.rules.length capr)) (by kernel_rfl) S1 ?_
      intro hSw
      obtain ⟨y0, hy0⟩ : ∃ y0, y0 = wr.drew := ⟨_, rfl⟩
      rw [← hy0] at hSw bW rbD ⊢
      clear hy0
      obtain ⟨Z, hZ, ⟨x0, x1, x2, x3, x6, x7⟩, kZ, bZ⟩ := rbD.told (g0 := .int .i64 (s1.vars : Int)) (g1 := .int .i64 (T.length : Int)) (g2 := .int .i64 0) (g3 := .slice aor s1.rules.length capr) (c := .int .i64 0) (a := .int .i64 0)
      obtain ⟨_, o0, o1, o2, o3, f0, f1, zo, zf⟩ := rbD
      refine wpAnyH_take (i := 0) (v := ?v8) rfl (by kernel_rfl) (by kernel_rfl) (by kernel_rfl) (fun _ _ _ h => np_panic h) (Or.inl ⟨by rfl, ?hy8⟩) (by assumption) ?_
      case hy8 => (intro w' hS'; (try dsimp only at hS'); go_simp; try with_reducible rfl)
      simp only [Act.put, List.setIfInBounds_toArray, List.set_cons_zero, List.set_cons_succ, List.getElem_toArray, List.getElem_cons_zero]
      refine wpAnyH_take (i := 1) (v := ?v9) rfl (by kernel_rfl) (by kernel_rfl) (by kernel_rfl) (fun _ _ _ h => np_panic h) (Or.inl ⟨by rfl, ?hy9⟩) (by assumption) ?_
      case hy9 => (intro w' hS'; (try dsimp only at hS'); go_simp; try with_reducible rfl)
      simp only [Act.put, List.setIfInBounds_toArray, List.set_cons_zero, List.set_cons_succ, List.getElem_toArray, List.getElem_cons_succ, List.getElem_cons_zero]
      refine wpAnyH_take (i := 2) (v := ?v10) rfl (by kernel_rfl) (by kernel_rfl) (by kernel_rfl) (fun _ _ _ h => np_panic h) (Or.inl ⟨by rfl, ?hy10⟩) (by assumption) ?_
      case hy10 => (intro w' hS'; (try dsimp only at hS'); go_simp; try with_reducible rfl)
      simp only [Act.put, List.setIfInBounds_toArray, List.set_cons_zero, List.set_cons_succ, List.getElem_toArray, List.getElem_cons_succ, List.getElem_cons_zero]
      refine wpAnyH_take (i := 3) (v := ?v11) rfl (by kernel_rfl) (by kernel_rfl) (by kernel_rfl) (fun _ _ _ h => np_panic h) (Or.inl ⟨by rfl, ?hy11⟩) (by assumption) ?_
      case hy11 => (intro w' hS'; (try dsimp only at hS'); go_simp; try with_reducible rfl)
      simp only [Act.put, List.setIfInBounds_toArray, List.set_cons_zero, List.set_cons_succ, List.getElem_toArray, List.getElem_cons_succ, List.getElem_cons_zero]
      refine wpAnyH_take (i := 4) (v := ?v12) rfl (by kernel_rfl) (by kernel_rfl) (by kernel_rfl) (fun _ _ _ h => np_panic h) (Or.inl ⟨by rfl, ?hy12⟩) (by assumption) ?_
      case hy12 => (intro w' hS'; (try dsimp only at hS'); go_simp; try with_reducible rfl)
      simp only [Act.put, List.setIfInBounds_toArray, List.set_cons_zero, List.set_cons_succ, List.getElem_toArray, List.getElem_cons_succ, List.getElem_cons_zero]
      refine wpAnyH_take (i := 5) (v := ?v13) rfl (by kernel_rfl) (by kernel_rfl) (by kernel_rfl) (fun _ _ _ h => np_panic h) (Or.inl ⟨by rfl, ?hy13⟩) (by assumption) ?_
      case hy13 => (intro w' hS'; (try dsimp only at hS'); go_simp; try with_reducible rfl)
      simp only [Act.put, List.setIfInBounds_toArray, List.set_cons_zero, List.set_cons_succ, List.getElem_toArray, List.getElem_cons_succ, List.getElem_cons_zero]
      refine wpAnyH_take (i := 6) (v := ?v14) rfl (by kernel_rfl) (by kernel_rfl) (by kernel_rfl) (fun _ _ _ h => np_panic h) (Or.inl ⟨by rfl, ?hy14⟩) (by assumption) ?_
      case hy14 => (intro w' hS'; (try dsimp only at hS'); go_simp; try with_reducible rfl)
      simp only [Act.put, List.setIfInBounds_toArray, List.set_cons_zero, List.set_cons_succ, List.getElem_toArray, List.getElem_cons_succ, List.getElem_cons_zero]
      refine wpAnyH_take (i := 7) (v := ?v15) rfl (by kernel_rfl) (by kernel_rfl) (by kernel_rfl) (fun _ _ _ h => np_panic h) (Or.inl ⟨by rfl, ?hy15⟩) (by assumption) ?_
      case hy15 => (intro w' hS'; (try dsimp only at hS'); go_simp; try with_reducible rfl)
      simp only [Act.put, List.setIfInBounds_toArray, List.set_cons_zero, List.set_cons_succ, List.getElem_toArray, List.getElem_cons_succ, List.getElem_cons_zero]
      refine wpAnyH_take (i := 8) (v := ?v16) rfl (by kernel_rfl) (by kernel_rfl) (by kernel_rfl) (fun _ _ _ h => np_panic h) (Or.inl ⟨by rfl, ?hy16⟩) (by assumption) ?_
      case hy16 => (intro w' hS'; (try dsimp only at hS'); go_simp; try with_reducible rfl)
      simp only [Act.put, List.setIfInBounds_toArray, List.set_cons_zero, List.set_cons_succ, List.getElem_toArray, List.getElem_cons_succ, List.getElem_cons_zero]
      refine wpAnyH_take (i := 9) (v := ?v17) rfl (by kernel_rfl) (by kernel_rfl) (by kernel_rfl) (fun _ _ _ h => np_panic h) (Or.inl ⟨by rfl, ?hy17⟩) (by assumption) ?_
      case hy17 => (intro w' hS'; (try dsimp only at hS'); go_simp; try with_reducible rfl)
      simp only [Act.put, List.setIfInBounds_toArray, List.set_cons_zero, List.set_cons_succ, List.getElem_toArray, List.getElem_cons_succ, List.getElem_cons_zero]
      refine wpAnyH_take (i := 10) (v := ?v18) rfl (by kernel_rfl) (by kernel_rfl) (by kernel_rfl) (fun _ _ _ h => np_panic h) (Or.inl ⟨by rfl, ?hy18⟩) (by assumption) ?_
      case hy18 => (intro w' hS'; (try dsimp only at hS'); go_simp; try with_reducible rfl)
      simp only [Act.put, List.setIfInBounds_toArray, List.set_cons_zero, List.set_cons_succ, List.getElem_toArray, List.getElem_cons_succ, List.getElem_cons_zero]
      refine wpAnyH_take (i := 11) (v := ?v19) rfl (by kernel_rfl) (by kernel_rfl) (by kernel_rfl) (fun _ _ _ h => np_panic h) (Or.inl ⟨by rfl, ?hy19⟩) (by assumption) ?_
      case hy19 => (intro w' hS'; (try dsimp only at hS'); go_simp; try with_reducible rfl)
      simp only [Act.put, List.setIfInBounds_toArray, List.set_cons_zero, List.set_cons_succ, List.getElem_toArray, List.getElem_cons_succ, List.getElem_cons_zero]
      refine wpAnyH_take (i := 12) (v := ?v20) rfl (by kernel_rfl) (by kernel_rfl) (by kernel_rfl) (fun _ _ _ h => np_panic h) (Or.inl ⟨by rfl, ?hy20⟩) (by assumption) ?_
      case hy20 => (intro w' hS'; (try dsimp only at hS'); go_simp; try with_reducible rfl)
      simp only [Act.put, List.setIfInBounds_toArray, List.set_cons_zero, List.set_cons_succ, List.getElem_toArray, List.getElem_cons_succ, List.getElem_cons_zero]
      refine wpAnyH_take (i := 13) (v := ?v21) rfl (by kernel_rfl) (by kernel_rfl) (by kernel_rfl) (fun _ _ _ h => np_panic h) (Or.inl ⟨by rfl, ?hy21⟩) (by assumption) ?_
      case hy21 => (intro w' hS'; (try dsimp only at hS'); go_simp; try with_reducible rfl)
      simp only [Act.put, List.setIfInBounds_toArray, List.set_cons_zero, List.set_cons_succ, List.getElem_toArray, List.getElem_cons_succ, List.getElem_cons_zero]
      refine wpAnyH_take (i := 14) (v := ?v22) rfl (by kernel_rfl) (by kernel_rfl) (by kernel_rfl) (fun _ _ _ h => np_panic h) (Or.inl ⟨by rfl, ?hy22⟩) (by assumption) ?_
      case hy22 => (intro w' hS'; (try dsimp only at hS'); go_simp; try with_reducible rfl)
      simp only [Act.put, List.setIfInBounds_toArray, List.set_cons_zero, List.set_cons_succ, List.getElem_toArray, List.getElem_cons_succ, List.getElem_cons_zero]
      refine wpAnyH_ready (rs := [15]) (by kernel_rfl) (by simp) ?_
      refine AllReadyH.cons rfl (fun K hK => ?_) AllReadyH.nil
      go_simp
      obtain ⟨Y, hY⟩ : ∃ Y, Y = (((y0.setCell ⟨w.heap.size + 1, 0, none⟩ (.int .i64 (s1.vars : Int))).setCell ⟨w.heap.size + 1, 1, none⟩ (.int .i64 (T.length : Int))).setCell ⟨w.heap.size + 1, 2, none⟩ (.int .i64 0)).setCell ⟨w.heap.size + 1, 3, none⟩ (.slice aor s1.rules.length capr) := ⟨_, rfl⟩
      have kY : ∀ j, j ≠ w.heap.size + 1 → Y.heap[j]? = y0.heap[j]? := fun j h => by rw [hY, Below.heap_setCell _ _ _ _ (by exact h), Below.heap_setCell _ _ _ _ (by exact h), Below.heap_setCell _ _ _ _ (by exact h), Below.heap_setCell _ _ _ _ (by exact h)]
      have cY : ∀ b i u, b ≠ w.heap.size + 1 → y0.cell? ⟨b, i, none⟩ = some u → Y.cell? ⟨b, i, none⟩ = some u := fun b i u hb h => by rw [World.cell?_of_block (w := y0) (a := ⟨b, i, none⟩) (kY b hb)]; exact h
      have d0 := cY (w.heap.size + 2) 0 _ (by omega) f0
      have d1 := cY (w.heap.size + 2) 1 _ (by omega) f1
      have df : ∀ i, Y.frozen? ⟨w.heap.size + 2, i, none⟩ = false := fun i => by rw [World.frozen?_of_block (w := y0) (a := ⟨w.heap.size + 2, i, none⟩) (kY (w.heap.size + 2) (by omega))]; exact zf i
      have stY : World.cell? Y ⟨r, 1, none⟩ = some (.slice aot T.length capt) ∧ World.cell? Y ⟨r, 2, none⟩ = some (.int .i64 (s1.vars : Int)) ∧ World.cell? Y ⟨r, 3, none⟩ = some (.slice aor s1.rules.length capr) := ⟨cY _ _ _ (by omega) hSw.1, cY _ _ _ (by omega) hSw.2.1, cY _ _ _ (by omega) hSw.2.2⟩
      rw [← hY] at hZ
      rw [← hY]
      clear hY
      refine hK.out _ _ stY ?_
      clear hK K
      intro hSw
      try simp only [Act.put, List.setIfInBounds_toArray, List.set_cons_zero, List.set_cons_succ]
      refine wpAnyH_ready (rs := [16]) (by kernel_rfl) (by simp) ?_
      refine AllReadyH.cons rfl (fun K hK => ?_) AllReadyH.nil
      go_simp
      rw [← hZ]
      have kZ' : ∀ b i u, b ≠ w.heap.size + 1 → b ≠ w.heap.size + 2 → y0.cell? ⟨b, i, none⟩ = some u → Z.cell? ⟨b, i, none⟩ = some u := fun b i u h1 h2 h => by rw [World.cell?_of_block (w := y0) (a := ⟨b, i, none⟩) (kZ b h1 h2)]; exact h
      have stZ : World.cell? Z ⟨r, 1, none⟩ = some (.slice aot T.length capt) ∧ World.cell? Z ⟨r, 2, none⟩ = some (.int .i64 (s1.vars : Int)) ∧ World.cell? Z ⟨r, 3, none⟩ = some (.slice aor s1.rules.length capr) := ⟨kZ' _ _ _ (by omega) (by omega) (bkeep bW c1), kZ' _ _ _ (by omega) (by omega) (bkeep bW c2), kZ' _ _ _ (by omega) (by omega) (bkeep bW c3)⟩
      clear hZ
      refine hK.out _ _ stZ ?_
      clear hK K
      intro hSw
      try simp only [Act.put, List.setIfInBounds_toArray, List.set_cons_zero, List.set_cons_succ]
      refine wpAnyH_done (by kernel_rfl) (NoPanic.normal ?_) _
      have kold : ∀ j, j < wr.heap.size → w.heap.size + 3 ≤ j → Z.heap[j]? = wr.heap[j]? := fun j h1 h2 => (kZ j (by omega) (by omega)).trans (bW.block j h1)
      have rsv : RsV Z (fun k => w.heap.size ≤ k) (.slice aor s1.rules.length capr) s1.rules := RsV_owned (owns_old ho kold) (hrc.mono fun b o v hs hc => ⟨hs, by rw [World.cell?_of_block (w := wr) (a := ⟨b, o, none⟩) (kold b (lt_of_cell hc) (by have := hs.1; omega))]; exact hc⟩) (fun j hj => by have := hj.1; omega) (fun j e => by have := (ho.lt j e).1; omega) (by omega)
      have bE : Below w.heap.size w Z := (bthen lw bW).trans (bZ.mono (Nat.le_succ _))
      go_wp2_with fail
      refine bodyPost_ret (v := .tuple #[.agg #[.int .i64 (s1.vars : Int), .int .i64 (T.length : Int), .int .i64 0, .slice aor s1.rules.length capr], .agg #[.int .i64 0, .int .i64 0]]) (by simp [results, Try.results23, go_sem, x0, x1, x2, x3, x6, x7]) rfl ?_
      exact ⟨_, rfl, rsv, bE⟩
end Go.Proofs.Ytcanphhmflbdmac

/- The laws' own beginning: a small text that is looked at. -/
namespace Go.Proofs.Ytcanphhmflbdmac
open Go.RowKit
def dbD : List Df := [⟨⟨#[83]⟩, 0, ⟨3, ⟨#[]⟩, .cons 1 ⟨#[98]⟩ .nil (.cons 2 ⟨#[83]⟩ .nil (.cons 1 ⟨#[98]⟩ .nil .nil))⟩⟩]
theorem dfl_db : dfl dbD = (0, 0) := by kernel_rfl
theorem trms_db : trms dbD = [⟨#[98]⟩] := by kernel_rfl
theorem nms_db : nms dbD = [⟨#[83]⟩] := by kernel_rfl
theorem ok_db : ∀ d ∈ dbD, d.e.sz ≤ 3000 ∧ d.sh := by
  intro d hd
  simp only [dbD, List.mem_cons, List.not_mem_nil, or_false] at hd
  subst hd
  simp [Df.sh, Xp.sh, Fo.sh, Xp.sz, Fo.sz, ByteArray.size]
theorem SsV_one (w : World) (s : ByteArray) (t : TypeId) : SsV (w.alloc (.cells #[.string s] t)) (.slice (some ⟨w.heap.size, 0, none⟩) 1 1) [s] :=
  ⟨by simp, _, 1, rfl, Nat.le_refl _, .inr ⟨w.heap.size, 0, rfl, fun i hi => by
    obtain rfl : i = 0 := by simpa using hi
    simp⟩⟩
theorem field0 (a b : Int) (w : World) : (Instr.field 29 (.agg #[.int .i64 a, .int .i64 b]) 0).run Try.prog w = .ok (.int .i64 a) w := by kernel_rfl
end Go.Proofs.Ytcanphhmflbdmac

/- Whether a text is great: if it is not, it has few expressions and short names. -/
namespace Go.Proofs.Ytcanphhmflbdmac
open Go.RowKit
def GzOK (x : Xp) : Prop := ∀ (z : Int) (va : Value) (w : World), XV w All va x → 0 ≤ z → z ≤ 3000 →
  Calls Try.prog 38 #[va, .int .i64 z] w fun e w' => ∃ q : Int, e = .returned (.int .i64 q) ∧ -1 ≤ q ∧ q ≤ 3000 ∧ (0 ≤ q → (x.sz : Int) + q ≤ z) ∧ Below w.heap.size w w'
set_option maxRecDepth 100000 in
set_option maxHeartbeats 4000000 in
theorem gz_head (x : Xp) (ih : ∀ i, i < x.kids.len → GzOK (x.kids.at_ i)) : GzOK x := by
  intro z va w hx hz0 hz1
  obtain ⟨u, rfl, hl, ao, cap, rfl, hin⟩ := hx
  obtain ⟨W, hW⟩ : ∃ W, W = w.alloc (.cells #[.int .i64 x.op, .string x.nm, .slice ao x.kids.len cap] 64) := ⟨_, rfl⟩
  have hWz : W.heap.size = w.heap.size + 1 := by rw [hW]; simp
  have hWb : Below w.heap.size w W := by rw [hW]; exact (Below.refl _ _).alloc (Nat.le_refl _) _
  have hWc : W.cell? ⟨w.heap.size, 2, none⟩ = some (.slice ao x.kids.len cap) := by rw [hW]; simp
  have hxs : Hid (x.sz = 1 + x.kids.sz) := hd rfl
  generalize x.sz = XS at *
  go_enter Try.func38, Try.ntmps38
  go_wp2_with fail
  rw [← hW]
  have HW := hd hW
  clear hW
  go_loopw [1, 5] (fun a i wr => ∃ (k : Nat) (q : Int), k ≤ x.kids.len ∧ i = .int .i64 k ∧ a = .int .i64 q ∧ -1 ≤ q ∧ q ≤ 3000 ∧ (0 ≤ q → (XS : Int) + q ≤ z + ((x.kids.drp k).sz : Int)) ∧ Below W.heap.size W wr) (fun _ i _ => x.kids.len - (intOf i).toNat)
  case atStart => exact ⟨0, z - 1, Nat.zero_le _, rfl, rfl, by omega, by omega, by rw [Fo.drp_zero]; have := hxs.out; omega, Below.refl _ _⟩
  case round =>
    obtain ⟨k, q, hk, rfl, rfl, hq0, hq1, hqs, hb⟩ := hrel
    have hz := hb.size
    have bel : Below w.heap.size w wr := hWb.trans (hb.mono (by omega))
    have s1 : wr.cell? ⟨w.heap.size, 2, none⟩ = some (.slice ao x.kids.len cap) := by rw [hb.cell (p := ⟨w.heap.size, 2, none⟩) (by simp; omega)]; exact hWc
    by_cases hlt : k < x.kids.len
    · by_cases hq : 0 ≤ q
      · obtain h0 | ⟨ba, oa, rfl, hia⟩ := hin
        · omega
        have kA : ∀ b o v, All b → w.cell? ⟨b, o, none⟩ = some v → All b ∧ wr.cell? ⟨b, o, none⟩ = some v := keep_cell (fun _ _ h => h) (Kp.of_below bel).block
        obtain ⟨ua, a0, a1, a2, hxa⟩ := ((hia.mono kA).at_ k hlt).xv
        have hxa' := hxa
        obtain ⟨_, e, _, aoa', capa', rfl, _⟩ := hxa'
        simp at e; subst e
        have IH := ih k hlt
        have hsa := Fo.sz_at hlt
        have HLT := hd hlt
        generalize x.kids.at_ k = xk at *
        go_wp2_with fail
        refine (IH _ _ _ hxa hq hq1).mono ?_
        rintro e w2 ⟨q', rfl, h1, h2, h3, hb2⟩
        go_wp2_with fail
        go_roundw
        case rel => exact ⟨k + 1, q', by omega, by go_num, rfl, h1, h2, by omega, hb.trans (hb2.mono hb.size)⟩
        case measure => simp [intOf]; omega
      · go_wp2_with fail
        go_ret
        exact ⟨q, rfl, hq0, hq1, by omega, bel⟩
    · rw [Fo.drp_end (by omega)] at hqs
      simp only [Fo.sz] at hqs
      go_wp2_with fail
      go_ret
      exact ⟨q, rfl, hq0, hq1, by omega, bel⟩
theorem gz_all : ∀ (f : Fo) (i : Nat), i < f.len → GzOK (f.at_ i)
  | .nil, _, h => absurd h (Nat.not_lt_zero _)
  | .cons op nm kids _, 0, _ => gz_head ⟨op, nm, kids⟩ (gz_all kids)
  | .cons _ _ _ rest, i + 1, h => gz_all rest i (by simpa [Fo.len] using h)
theorem gz_any (x : Xp) : GzOK x := gz_head x (gz_all x.kids)
theorem Fo.sh_of : ∀ {f : Fo}, (∀ i, i < f.len → (f.at_ i).sh) → f.sh
  | .nil, _ => trivial
  | .cons _ _ _ r, h => ⟨h 0 (by simp [Fo.len]), Fo.sh_of (f := r) fun i hi => h (i + 1) (by simpa [Fo.len] using hi)⟩
def GnOK (x : Xp) : Prop := ∀ (va : Value) (w : World), XV w All va x →
  Calls Try.prog 58 #[va] w fun e w' => ∃ q : Bool, e = .returned (.bool q) ∧ (q = false → x.sh) ∧ Below w.heap.size w w'
set_option maxRecDepth 100000 in
set_option maxHeartbeats 4000000 in
theorem gn_head (x : Xp) (ih : ∀ i, i < x.kids.len → GnOK (x.kids.at_ i)) : GnOK x := by
  intro va w hx
  obtain ⟨u, rfl, hl, ao, cap, rfl, hin⟩ := hx
  obtain ⟨W, hW⟩ : ∃ W, W = w.alloc (.cells #[.int .i64 x.op, .string x.nm, .slice ao x.kids.len cap] 64) := ⟨_, rfl⟩
  have hWz : W.heap.size = w.heap.size + 1 := by rw [hW]; simp
  have hWb : Below w.heap.size w W := by rw [hW]; exact (Below.refl _ _).alloc (Nat.le_refl _) _
  have hWc : W.cell? ⟨w.heap.size, 2, none⟩ = some (.slice ao x.kids.len cap) := by rw [hW]; simp
  by_cases hnm : (5000 : Int) < (x.nm.size : Int)
  · go_enter Try.func58, Try.ntmps58
    go_wp2_with fail
    go_ret
    exact ⟨true, rfl, (fun h => by cases h), (Below.refl _ _).alloc (Nat.le_refl _) _⟩
  have HNM := hd hnm
  go_enter Try.func58, Try.ntmps58
  go_wp2_with fail
  rw [← hW]
  have HW := hd hW
  clear hW
  go_loopw [3] (fun i wr => ∃ (k : Nat), k ≤ x.kids.len ∧ i = .int .i64 k ∧ Hid (∀ j, j < k → (x.kids.at_ j).sh) ∧ Below W.heap.size W wr) (fun i _ => x.kids.len - (intOf i).toNat)
  case atStart => exact ⟨0, Nat.zero_le _, rfl, hd (fun j hj => absurd hj (Nat.not_lt_zero _)), Below.refl _ _⟩
  case round =>
    obtain ⟨k, hk, rfl, hall, hb⟩ := hrel
    have hz := hb.size
    have bel : Below w.heap.size w wr := hWb.trans (hb.mono (by omega))
    have s1 : wr.cell? ⟨w.heap.size, 2, none⟩ = some (.slice ao x.kids.len cap) := by rw [hb.cell (p := ⟨w.heap.size, 2, none⟩) (by simp; omega)]; exact hWc
    by_cases hlt : k < x.kids.len
    · obtain h0 | ⟨ba, oa, rfl, hia⟩ := hin
      · omega
      have kA : ∀ b o v, All b → w.cell? ⟨b, o, none⟩ = some v → All b ∧ wr.cell? ⟨b, o, none⟩ = some v := keep_cell (fun _ _ h => h) (Kp.of_below bel).block
      obtain ⟨ua, a0, a1, a2, hxa⟩ := ((hia.mono kA).at_ k hlt).xv
      have hxa' := hxa
      obtain ⟨_, e, _, aoa', capa', rfl, _⟩ := hxa'
      simp at e; subst e
      have IH := ih k hlt
      have HX : Hid (∀ y, y = x.kids.at_ k → y.sh → ∀ j, j < k + 1 → (x.kids.at_ j).sh) := hd (fun y hy hs j hj => by
        by_cases e : j = k
        · rw [e, ← hy]; exact hs
        · exact hall.out j (by omega))
      have HE : Hid (x.kids.at_ k = x.kids.at_ k) := hd rfl
      have HLT := hd hlt
      obtain ⟨xk, hxk⟩ : ∃ xk, xk = x.kids.at_ k := ⟨_, rfl⟩
      have HXK := hd hxk
      rw [← hxk] at a0 a1 a2 hxa IH
      clear hxk HE
      go_wp2_with fail
      refine (IH _ _ hxa).mono ?_
      rintro e w2 ⟨q', rfl, hqs, hb2⟩
      cases q' with
      | true =>
        go_wp2_with fail
        go_ret
        exact ⟨true, rfl, (fun h => by cases h), bel.trans (hb2.mono bel.size)⟩
      | false =>
        go_wp2_with fail
        go_roundw
        case rel => exact ⟨k + 1, by omega, by go_num, hd (HX.out xk HXK.out (hqs (by simp))), hb.trans (hb2.mono hb.size)⟩
        case measure => simp [intOf]; omega
    · go_wp2_with fail
      go_ret
      exact ⟨false, rfl, (fun _ => ⟨by have := HNM.out; omega, Fo.sh_of fun j hj => hall.out j (by omega)⟩), bel⟩
theorem gn_all : ∀ (f : Fo) (i : Nat), i < f.len → GnOK (f.at_ i)
  | .nil, _, h => absurd h (Nat.not_lt_zero _)
  | .cons op nm kids _, 0, _ => gn_head ⟨op, nm, kids⟩ (gn_all kids)
  | .cons _ _ _ rest, i + 1, h => gn_all rest i (by simpa [Fo.len] using h)
theorem gn_any (x : Xp) : GnOK x := gn_head x (gn_all x.kids)
set_option maxRecDepth 100000 in
set_option maxHeartbeats 4000000 in
theorem gnames_any (ds : List Df) (va : Value) (w : World) (hx : DsV w All va ds) :
    Calls Try.prog 39 #[.agg #[va]] w fun e w' => ∃ q : Bool, e = .returned (.bool q) ∧ (q = false → ∀ d ∈ ds, d.e.sh) ∧ Below w.heap.size w w' := by
  obtain ⟨hl, ao, cap, rfl, hin⟩ := hx
  obtain ⟨W, hW⟩ : ∃ W, W = w.alloc (.cells #[.slice ao ds.length cap] 42) := ⟨_, rfl⟩
  have hWz : W.heap.size = w.heap.size + 1 := by rw [hW]; simp
  have hWb : Below w.heap.size w W := by rw [hW]; exact (Below.refl _ _).alloc (Nat.le_refl _) _
  have hWc : W.cell? ⟨w.heap.size, 0, none⟩ = some (.slice ao ds.length cap) := by rw [hW]; simp
  go_enter Try.func39, Try.ntmps39
  go_wp2_with fail
  rw [← hW]
  have HW := hd hW
  clear hW
  go_loopw [3] (fun i wr => ∃ (k : Nat), k ≤ ds.length ∧ i = .int .i64 k ∧ Hid (∀ j (hj : j < ds.length), j < k → ds[j].e.sh) ∧ Below W.heap.size W wr) (fun i _ => ds.length - (intOf i).toNat)
  case atStart => exact ⟨0, Nat.zero_le _, rfl, hd (fun j _ hj => absurd hj (Nat.not_lt_zero _)), Below.refl _ _⟩
  case round =>
    obtain ⟨k, hk, rfl, hall, hb⟩ := hrel
    have hz := hb.size
    have bel : Below w.heap.size w wr := hWb.trans (hb.mono (by omega))
    have s1 : wr.cell? ⟨w.heap.size, 0, none⟩ = some (.slice ao ds.length cap) := by rw [hb.cell (p := ⟨w.heap.size, 0, none⟩) (by simp; omega)]; exact hWc
    by_cases hlt : k < ds.length
    · obtain h0 | ⟨ba, oa, rfl, hia⟩ := hin
      · omega
      have kA : ∀ b o v, All b → w.cell? ⟨b, o, none⟩ = some v → All b ∧ wr.cell? ⟨b, o, none⟩ = some v := keep_cell (fun _ _ h => h) (Kp.of_below bel).block
      obtain ⟨an, aa, ax⟩ := (hia.mono kA).at_ k hlt
      obtain ⟨ua, a0, a1, a2, hxa⟩ := ax.xv
      have hxa' := hxa
      obtain ⟨_, e, _, aoa', capa', rfl, _⟩ := hxa'
      simp at e; subst e
      have HX : Hid (ds[k].e.sh → ∀ j (hj : j < ds.length), j < k + 1 → ds[j].e.sh) := hd (fun hs j hj hj' => by
        by_cases e : j = k
        · subst e; exact hs
        · exact hall.out j hj (by omega))
      have HLT := hd hlt
      clear hall
      generalize ds[k] = dk at *
      have IH := gn_any dk.e
      go_wp2_with fail
      refine (IH _ _ hxa).mono ?_
      rintro e w2 ⟨q', rfl, hqs, hb2⟩
      cases q' with
      | true =>
        go_wp2_with fail
        go_ret
        exact ⟨true, rfl, (fun h => by cases h), bel.trans (hb2.mono bel.size)⟩
      | false =>
        go_wp2_with fail
        go_roundw
        case rel => exact ⟨k + 1, by omega, by go_num, hd (HX.out (hqs (by simp))), hb.trans (hb2.mono hb.size)⟩
        case measure => simp [intOf]; omega
    · go_wp2_with fail
      go_ret
      exact ⟨false, rfl, (fun _ d hd' => by
        obtain ⟨j, hj, rfl⟩ := List.mem_iff_getElem.1 hd'
        exact hall.out j hj (by omega)), bel⟩
set_option maxRecDepth 100000 in
set_option maxHeartbeats 4000000 in
theorem grt_all (ds : List Df) (va : Value) (w : World) (hx : DsV w All va ds) :
    Calls Try.prog 20 #[.agg #[va]] w fun e w' => ∃ q : Bool, e = .returned (.bool q) ∧ (q = false → ds.length ≤ 60 ∧ ∀ d ∈ ds, d.e.sz ≤ 3000 ∧ d.sh) ∧ Below w.heap.size w w' := by
  have hx0 := hx
  obtain ⟨hl, ao, cap, rfl, hin⟩ := hx
  obtain ⟨W, hW⟩ : ∃ W, W = w.alloc (.cells #[.slice ao ds.length cap] 42) := ⟨_, rfl⟩
  have hWz : W.heap.size = w.heap.size + 1 := by rw [hW]; simp
  have hWb : Below w.heap.size w W := by rw [hW]; exact (Below.refl _ _).alloc (Nat.le_refl _) _
  have hWc : W.cell? ⟨w.heap.size, 0, none⟩ = some (.slice ao ds.length cap) := by rw [hW]; simp
  by_cases h60 : (60 : Int) < (ds.length : Int)
  · go_enter Try.func20, Try.ntmps20
    go_wp2_with fail
    go_ret
    exact ⟨true, rfl, (fun h => by cases h), (Below.refl _ _).alloc (Nat.le_refl _) _⟩
  have H60 := hd h60
  go_enter Try.func20, Try.ntmps20
  go_wp2_with fail
  rw [← hW]
  have HW := hd hW
  clear hW
  go_loopw [3, 4] (fun a i wr => ∃ (k : Nat) (q : Int), k ≤ ds.length ∧ i = .int .i64 k ∧ a = .int .i64 q ∧ 0 ≤ q ∧ q ≤ 3000 ∧ Hid (∀ j (hj : j < ds.length), j < k → ds[j].e.sz ≤ 3000 ∧ ds[j].nm.size ≤ 5000) ∧ Below W.heap.size W wr) (fun _ i _ => ds.length - (intOf i).toNat)
  case atStart => exact ⟨0, 3000, Nat.zero_le _, rfl, rfl, by omega, by omega, hd (fun j _ hj => absurd hj (Nat.not_lt_zero _)), Below.refl _ _⟩
  case round =>
    obtain ⟨k, q, hk, rfl, rfl, hq0, hq1, hall, hb⟩ := hrel
    have hz := hb.size
    have bel : Below w.heap.size w wr := hWb.trans (hb.mono (by omega))
    have s1 : wr.cell? ⟨w.heap.size, 0, none⟩ = some (.slice ao ds.length cap) := by rw [hb.cell (p := ⟨w.heap.size, 0, none⟩) (by simp; omega)]; exact hWc
    by_cases hlt : k < ds.length
    · obtain h0 | ⟨ba, oa, rfl, hia⟩ := hin
      · omega
      have kA : ∀ b o v, All b → w.cell? ⟨b, o, none⟩ = some v → All b ∧ wr.cell? ⟨b, o, none⟩ = some v := keep_cell (fun _ _ h => h) (Kp.of_below bel).block
      obtain ⟨an, aa, ax⟩ := (hia.mono kA).at_ k hlt
      obtain ⟨ua, a0, a1, a2, hxa⟩ := ax.xv
      have hxa' := hxa
      obtain ⟨_, e, _, aoa', capa', rfl, _⟩ := hxa'
      simp at e; subst e
      have LT := hd hlt
      have HX : Hid (ds[k].e.sz ≤ 3000 → ds[k].nm.size ≤ 5000 → ∀ j (hj : j < ds.length), j < k + 1 → ds[j].e.sz ≤ 3000 ∧ ds[j].nm.size ≤ 5000) := hd (fun hs hn j hj hj' => by
        by_cases e : j = k
        · subst e; exact ⟨hs, hn⟩
        · exact hall.out j hj (by omega))
      clear hall
      generalize ds[k] = dk at *
      have IH := gz_any dk.e
      go_wp2_with fail
      refine (IH _ _ _ hxa hq0 hq1).mono ?_
      rintro e w2 ⟨q', rfl, h1, h2, h3, hb2⟩
      have s1' : w2.cell? ⟨w.heap.size, 0, none⟩ = some (.slice (some ⟨ba, oa, none⟩) ds.length cap) := by rw [hb2.cell (p := ⟨w.heap.size, 0, none⟩) (lt_of_cell s1)]; exact s1
      have an' : w2.cell? ⟨ba, oa + k * 5, none⟩ = some (.string dk.nm) := by rw [hb2.cell (p := ⟨ba, oa + k * 5, none⟩) (lt_of_cell an)]; exact an
      by_cases hq : q' < 0
      · go_wp2_with fail
        go_ret
        exact ⟨true, rfl, (fun h => by cases h), bel.trans (hb2.mono bel.size)⟩
      · by_cases hnm : (5000 : Int) < (dk.nm.size : Int)
        · go_wp2_with fail
          go_ret
          exact ⟨true, rfl, (fun h => by cases h), bel.trans (hb2.mono bel.size)⟩
        · go_wp2_with fail
          go_roundw
          case rel => exact ⟨k + 1, q', by omega, by go_num, rfl, by omega, h2, hd (HX.out (by omega) (by omega)), hb.trans (hb2.mono hb.size)⟩
          case measure => simp [intOf]; omega
    · go_wp2_with fail
      refine (gnames_any ds _ _ (hx0.kp (Kp.of_below bel) (fun _ _ h => h))).mono ?_
      rintro e w2 ⟨q', rfl, hqs, hb2⟩
      go_wp2_with fail
      go_ret
      exact ⟨q', rfl, (fun hq => ⟨by have := H60.out; omega, fun d hd' => by
        have hs := hqs hq d hd'
        obtain ⟨j, hj, rfl⟩ := List.mem_iff_getElem.1 hd'
        have := hall.out j hj (by omega)
        exact ⟨this.1, this.2, hs⟩⟩), bel.trans (hb2.mono bel.size)⟩
theorem grt_any (ds : List Df) (va : Value) (w : World) (hx : DsV w All va ds) :
    Calls Try.prog 20 #[.agg #[va]] w fun e w' => ∃ q : Bool, e = .returned (.bool q) ∧ (q = false → ∀ d ∈ ds, d.e.sz ≤ 3000 ∧ d.sh) ∧ Below w.heap.size w w' :=
  (grt_all ds va w hx).mono fun _ _ ⟨q, h1, h2, h3⟩ => ⟨q, h1, fun h => (h2 h).2, h3⟩
end Go.Proofs.Ytcanphhmflbdmac
