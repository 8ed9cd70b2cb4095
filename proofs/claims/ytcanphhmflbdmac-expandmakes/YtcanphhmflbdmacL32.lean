/- Make and Expanded, whole; the laws' own beginning. -/
import Derived.Test.YtcanphhmflbdmacL28
import Derived.Test.YtcanphhmflbdmacL31
namespace Go.Proofs.Ytcanphhmflbdmac
open Go.RowKit G
def exN (ds : List Df) : List ByteArray := if (exF ds).1 = 0 then nms ds else []
def exT (ds : List Df) : List ByteArray := if (exF ds).1 = 0 then trms ds else []
theorem ex_wrong {ds : List Df} (h : (dfl ds).1 ≠ 0) : exGm ds = ⟨0, 0, 0, []⟩ ∧ exF ds = dfl ds ∧ exN ds = [] ∧ exT ds = [] := by
  have h1 : exF ds = dfl ds := if_pos h
  refine ⟨if_pos h, h1, ?_, ?_⟩
  · unfold exN; rw [h1, if_neg h]
  · unfold exT; rw [h1, if_neg h]
theorem ex_many {ds : List Df} (h : (dfl ds).1 = 0) (hb : (exA ds).1.bad = true) : exGm ds = ⟨0, 0, 0, []⟩ ∧ exF ds = (6, (exA ds).2) ∧ exN ds = [] ∧ exT ds = [] := by
  have h1 : exF ds = (6, (exA ds).2) := by unfold exF; rw [if_neg (by simpa using h), if_pos hb]
  refine ⟨by unfold exGm; rw [if_neg (by simpa using h), if_pos hb], h1, ?_, ?_⟩
  · unfold exN; rw [h1]; rfl
  · unfold exT; rw [h1]; rfl
theorem ex_good {ds : List Df} (h : (dfl ds).1 = 0) (hb : (exA ds).1.bad = false) : exGm ds = ⟨(exA ds).1.vars, (trms ds).length, 0, (exA ds).1.rules⟩ ∧ exF ds = (0, 0) ∧ exN ds = nms ds ∧ exT ds = trms ds := by
  have h1 : exF ds = (0, 0) := by unfold exF; rw [if_neg (by simpa using h), if_neg (by simp [hb])]
  refine ⟨by unfold exGm; rw [if_neg (by simpa using h), if_neg (by simp [hb])], h1, ?_, ?_⟩
  · unfold exN; rw [h1]; rfl
  · unfold exT; rw [h1]; rfl
theorem exF_right {ds : List Df} (h : (exF ds).1 = 0) : (dfl ds).1 = 0 ∧ (exA ds).1.bad = false ∧ (gFl (exGm ds)).1 = 0 := by
  by_cases h0 : (dfl ds).1 = 0
  · cases hb : (exA ds).1.bad with
    | true => rw [(ex_many h0 hb).2.1] at h; cases h
    | false => exact ⟨h0, rfl, exGm_right h0 hb⟩
  · rw [(ex_wrong h0).2.1] at h; exact absurd h h0
theorem exGm_rl (ds : List Df) : (exGm ds).rules.length ≤ 160 := by
  by_cases h0 : (dfl ds).1 = 0
  · cases hb : (exA ds).1.bad with
    | true => rw [(ex_many h0 hb).1]; simp
    | false => rw [(ex_good h0 hb).1]; exact (exA_ok h0).1.rl
  · rw [(ex_wrong h0).1]; simp
theorem make_all (ds : List Df) (va : Value) (w : World) (hx : DsV w All va ds) (h60 : ds.length ≤ 60) (hs : ∀ d ∈ ds, d.e.sz ≤ 3000 ∧ d.sh) :
    Calls Try.prog 22 #[.agg #[va]] w fun e w' => ∃ vr vn vt, e = .returned (.tuple #[.agg #[.int .i64 (exGm ds).vars, .int .i64 (exGm ds).terms, .int .i64 (exGm ds).start, vr, vn, vt], .agg #[.int .i64 (exF ds).1, .int .i64 (exF ds).2]]) ∧ RsV w' (fun k => w.heap.size ≤ k) vr (exGm ds).rules ∧ SsV w' vn (exN ds) ∧ SsV w' vt (exT ds) ∧ Below w.heap.size w w' := by
  by_cases h0 : (dfl ds).1 = 0
  · refine (make_good ds va w hx h60 hs h0).mono fun e w' h => ?_
    cases hb : (exA ds).1.bad with
    | true =>
      rw [if_pos hb] at h
      obtain ⟨rfl, hbel⟩ := h
      obtain ⟨e1, e2, e3, e4⟩ := ex_many h0 hb
      rw [e1, e2, e3, e4]
      exact ⟨_, _, _, rfl, RsV_nil _ _, SsV_nil _, SsV_nil _, hbel⟩
    | false =>
      rw [if_neg (by simp [hb])] at h
      obtain ⟨vr, vn, vt, rfl, h1, h2, h3, h4⟩ := h
      obtain ⟨e1, e2, e3, e4⟩ := ex_good h0 hb
      rw [e1, e2, e3, e4]
      exact ⟨vr, vn, vt, rfl, h1, h2, h3, h4⟩
  · refine (make_wrong ds va w hx h60 hs h0).mono fun e w' ⟨h1, hbel⟩ => ?_
    obtain ⟨e1, e2, e3, e4⟩ := ex_wrong h0
    rw [e1, e2, e3, e4]
    exact ⟨_, _, _, h1, RsV_nil _ _, SsV_nil _, SsV_nil _, hbel⟩
theorem expanded_all (ds : List Df) (va : Value) (w : World) (hx : DsV w All va ds) (h60 : ds.length ≤ 60) (hs : ∀ d ∈ ds, d.e.sz ≤ 3000 ∧ d.sh) :
    Calls Try.prog 23 #[.agg #[va]] w (ExD w (exGm ds) (exF ds)) := by
  by_cases h0 : (dfl ds).1 = 0
  · refine (expanded_good ds va w hx h60 hs h0).mono fun e w' h => ?_
    cases hb : (exA ds).1.bad with
    | true =>
      rw [if_pos hb] at h
      obtain ⟨e1, e2, _, _⟩ := ex_many h0 hb
      rw [e1, e2]; exact h
    | false =>
      rw [if_neg (by simp [hb])] at h
      obtain ⟨e1, e2, _, _⟩ := ex_good h0 hb
      rw [e1, e2]; exact h
  · have h := expanded_wrong ds va w hx h60 hs h0
    obtain ⟨e1, e2, _, _⟩ := ex_wrong h0
    rw [e1, e2]; exact h
/-- The text that is looked at first. -/
def ebD : List Df := [⟨⟨#[83]⟩, 0, ⟨6, ⟨#[]⟩, .cons 1 ⟨#[97]⟩ .nil .nil⟩⟩]
theorem exF_eb : exF ebD = (0, 0) := by kernel_rfl
theorem exGm_eb : exGm ebD = ⟨2, 1, 0, [⟨1, []⟩, ⟨1, [-1, 1]⟩, ⟨0, [1]⟩]⟩ := by kernel_rfl
theorem ok_eb : ∀ d ∈ ebD, d.e.sz ≤ 3000 ∧ d.sh := by
  intro d hd
  simp only [ebD, List.mem_cons, List.not_mem_nil, or_false] at hd
  subst hd
  simp [Df.sh, Xp.sh, Fo.sh, Xp.sz, Fo.sz, ByteArray.size]
set_option maxRecDepth 100000 in
set_option maxHeartbeats 2000000 in
theorem some_any (w : World) : Calls Try.prog 37 #[] w fun e w' => ∃ v, e = .returned (.agg #[v]) ∧ DsV w' All v ebD ∧ Below w.heap.size w w' := by
  obtain ⟨W, hW⟩ : ∃ W, W = ((((w.alloc (.cells #[.slice (some ⟨w.heap.size + 1 + 1 + 1, 0, none⟩) 1 1] 42)).alloc (.cells #[.int .i64 1, .string ⟨#[97]⟩, .slice none 0 0] 64)).alloc (.cells #[.int .i64 1, .string ⟨#[97]⟩, .slice none 0 0] 64)).alloc (.cells #[.string ⟨#[83]⟩, .int .i64 0, .int .i64 6, .string ⟨#[]⟩, .slice (some ⟨w.heap.size + 1 + 1, 0, none⟩) 1 1] 66)) := ⟨_, rfl⟩
  have bW : Below w.heap.size w W := by rw [hW]; exact bthen (al2 w _ _) (al2 _ _ _)
  have t0 : W.cell? ⟨w.heap.size, 0, none⟩ = some (.slice (some ⟨w.heap.size + 1 + 1 + 1, 0, none⟩) 1 1) := by rw [hW]; simp [go_sem]
  have hD : DsV W All (.slice (some ⟨w.heap.size + 1 + 1 + 1, 0, none⟩) 1 1) ebD := by
    refine ⟨by simp [ebD], _, 1, rfl, .inr ⟨_, _, rfl, ?_⟩⟩
    refine ⟨trivial, by rw [hW]; simp [go_sem], by rw [hW]; simp [go_sem], ⟨by rw [hW]; simp [go_sem], by rw [hW]; simp [go_sem], .slice (some ⟨w.heap.size + 1 + 1, 0, none⟩) 1 1, by rw [hW]; simp [go_sem], ?_⟩, trivial⟩
    refine ⟨by simp [Fo.len], _, 1, rfl, .inr ⟨_, _, rfl, ?_⟩⟩
    exact ⟨trivial, by rw [hW]; simp [go_sem], by rw [hW]; simp [go_sem], ⟨by simp [Fo.len], none, 0, by rw [hW]; simp [go_sem, Fo.len], .inl rfl⟩, trivial⟩
  go_enter Try.func37, Try.ntmps37
  go_wp2_with fail
  rw [← hW]
  exact bodyPost_ret (v := .agg #[.slice (some ⟨w.heap.size + 1 + 1 + 1, 0, none⟩) 1 1]) (by simp [results, Try.results37, go_sem, t0]) rfl ⟨_, rfl, hD, bW⟩
theorem IsV_two (w : World) (a b : Int) (t : TypeId) : IsV (w.alloc (.cells #[.int .i64 a, .int .i64 b] t)) G.All (.slice (some ⟨w.heap.size, 0, none⟩) 2 2) [a, b] :=
  ⟨by simp, _, 2, rfl, Nat.le_refl _, (fun h => by cases h), .inr ⟨w.heap.size, 0, rfl, trivial, fun i hi => by
    match i, hi with
    | 0, _ => simp
    | 1, _ => simp
    | n + 2, hi => exact absurd hi (by simp)⟩⟩
set_option maxRecDepth 100000 in
set_option maxHeartbeats 4000000 in
theorem ebegun_any (w : World) : Calls Try.prog 19 #[] w fun e w' => e = .returned (.bool true) ∧ Below w.heap.size w w' := by
  have MA := fun w1 v h => make_all ebD v w1 h (by simp [ebD]) ok_eb
  rw [exGm_eb, exF_eb] at MA
  go_enter Try.func19, Try.ntmps19
  go_wp2_with fail
  refine (some_any w).mono ?_
  rintro e w1 ⟨v1, rfl, hd1, hb1⟩
  go_wp2_with fail
  refine (MA w1 v1 hd1).mono ?_
  rintro e w2 ⟨vr, vn, vt, rfl, rs, sn, st, hb2⟩
  obtain ⟨aor, capr, rfl⟩ := rs.slice
  obtain ⟨aon, capn, rfl⟩ := sn.slice
  obtain ⟨aot, capt, rfl⟩ := st.slice
  generalize (exN ebD).length = n1 at *
  generalize (exT ebD).length = n2 at *
  clear sn st MA
  obtain ⟨b, o, rfl, c0, ar, cr, c1, iv⟩ := rs.at_ (k := 1) (by simp)
  simp only [List.getElem_cons_succ, List.getElem_cons_zero, List.length_cons, List.length_nil, Nat.zero_add, Nat.one_mul, Nat.reduceAdd] at c0 c1 iv
  clear rs
  have hbz := lt_of_cell c0
  obtain ⟨W, hW⟩ : ∃ W, W = (w2.alloc (.cells #[.int .i64 2, .int .i64 1, .int .i64 0, .slice (some ⟨b, o, none⟩) 3 capr, .slice aon n1 capn, .slice aot n2 capt] 47)).alloc (.cells #[.int .i64 0, .int .i64 0] 29) := ⟨_, rfl⟩
  have bW : Below w2.heap.size w2 W := by rw [hW]; exact al2 _ _ _
  have zW : W.heap.size = w2.heap.size + 1 + 1 := by rw [hW]; simp
  have SI := sameInts_any [-1, 1] [-1, 1] _ _ (W.alloc (.cells #[.int .i64 (-1), .int .i64 1] 3)) ((iv.lw (bthen bW (al1 _ _))).all) (IsV_two _ _ _ _)
  rw [zW] at SI
  have bE : Below w.heap.size w (W.alloc (.cells #[.int .i64 (-1), .int .i64 1] 3)) := bthen (bthen hb1 hb2) (bthen bW (al1 _ _))
  go_wp2_with fail
  rw [← hW]
  refine SI.mono ?_
  rintro e w3 ⟨rfl, hb3⟩
  go_wp2_with fail
  go_ret
  exact ⟨rfl, bthen bE hb3⟩
end Go.Proofs.Ytcanphhmflbdmac
