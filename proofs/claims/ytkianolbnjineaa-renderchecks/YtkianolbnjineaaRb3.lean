/- There and back of printed texts, third part: what was printed is read as it was; what was read may be printed. -/
import Derived.Test.YtkianolbnjineaaRb2
import Derived.Test.YtkianolbnjineaaParse
import Derived.Test.YtkianolbnjineaaSt
namespace Go.Proofs.Ytkianolbnjineaa

theorem defn_back {l : List Tk} {en : Int} {n : Nat} {d : Df} {r : List (Int × ByteArray)} (hc : d.code = 0) (hw : Wn l n (kts d.pc) r) :
    ∃ q, defn l en n = .ok ⟨d.nm, at0 l n, d.e⟩ (n + (kts d.pc).length) q := by
  obtain ⟨h1, h2, h3, h4⟩ := Df.code_zero hc
  have e : kts d.pc = (1, d.nm) :: (3, ⟨#[61]⟩) :: (kts d.e.pc ++ [(3, ⟨#[59]⟩)]) := by
    unfold Df.pc; rw [kts_app, kts_app]; rfl
  rw [e] at hw ⊢
  obtain ⟨a1, a2, a3⟩ := hw.get
  obtain ⟨b1, b2, b3⟩ := hw.next.get
  have hw2 := hw.next.next
  obtain ⟨c1, c2, c3⟩ := hw2.right.get
  have A := (px_any l en d.e h4).a (n + 2) 0 0 (fuel l) _ hw2.left ⟨_, _, rfl, by decide, by decide⟩ (by omega) (by omega) (by unfold fuel; omega)
  refine ⟨0 + d.e.pts, ?_⟩
  unfold defn
  rw [if_pos a1, if_pos (by unfold isS; rw [b1, b2]; simp), A]
  simp only
  have hn : n + 2 = n + 1 + 1 := rfl
  rw [hn, if_pos (by unfold isS; rw [c1, c2]; simp), a2]
  simp only [List.length_cons, List.length_append, List.length_nil]
  congr 1; omega
theorem text_back {l : List Tk} {en : Int} : ∀ (ds acc : List Df) (k n : Nat), (∀ d ∈ ds, d.code = 0) → Wn l n (kts (pcs ds)) [] → acc.length + ds.length ≤ 16 → (ds = [] → acc ≠ []) → ds.length + 1 ≤ k →
    ∃ ds' m, textL l en k n acc = .ok (acc ++ ds') m 0 ∧ ds'.map (kk false) = ds.map (kk false)
  | [], acc, k, n, _, hw, _, hne, hk => by
    obtain ⟨k, rfl⟩ : ∃ j, k = j + 1 := ⟨k - 1, by simp at hk; omega⟩
    have hn : ¬ n < l.length := by
      intro h
      have := congrArg List.length hw
      simp [pcs, kts] at this
      omega
    refine ⟨[], n, ?_, rfl⟩
    rw [textL, if_neg (by intro h; rcases h with h | h; exact hn h; exact hne rfl h), List.append_nil]
  | d :: r, acc, k, n, hc, hw, hl, _, hk => by
    obtain ⟨k, rfl⟩ : ∃ j, k = j + 1 := ⟨k - 1, by simp at hk; omega⟩
    have e : kts (pcs (d :: r)) = kts d.pc ++ kts (pcs r) := by simp [pcs, kts_app]
    rw [e] at hw
    obtain ⟨q, hd⟩ := defn_back (en := en) (hc d (by simp)) hw.left
    have hlt : n < l.length := Nat.lt_of_lt_of_le (defn_far hd).1 (defn_far hd).2.1
    simp only [List.length_cons] at hl hk
    obtain ⟨ds', m, h1, h2⟩ := text_back r (acc ++ [⟨d.nm, at0 l n, d.e⟩]) k _ (fun x hx => hc x (by simp [hx])) hw.right (by simp; omega) (fun _ => by simp) (by omega)
    refine ⟨⟨d.nm, at0 l n, d.e⟩ :: ds', m, ?_, ?_⟩
    · rw [textL, if_pos (.inl hlt), if_neg (by omega), hd]
      simp only
      rw [h1]; simp
    · simp only [List.map_cons, h2]; rfl
/-- What was printed is read as it was. -/
theorem Fine.back {ds : List Df} (h : Fine ds) : ∃ ds' x y, parse ⟨(tex ds).toArray⟩ = .ok ds' x y ∧ ds'.map (kk false) = ds.map (kk false) := by
  unfold parse
  rw [h.scan]
  simp only [if_true]
  have hw : Wn (toks 0 (pcs ds)) 0 (kts (pcs ds)) [] := by unfold Wn; rw [List.drop_zero, toks_kt, List.append_nil]
  have hlen : ds.length ≤ (toks 0 (pcs ds)).length := by
    have e : (toks 0 (pcs ds)).length = (kts (pcs ds)).length := by rw [← toks_kt 0, List.length_map]
    rw [e]
    clear hw e h
    induction ds with
    | nil => simp
    | cons d r ih =>
      have e : kts (pcs (d :: r)) = kts d.pc ++ kts (pcs r) := by simp [pcs, kts_app]
      have e2 : kts d.pc = (1, d.nm) :: (3, ⟨#[61]⟩) :: (kts d.e.pc ++ [(3, ⟨#[59]⟩)]) := by unfold Df.pc; rw [kts_app, kts_app]; rfl
      rw [e, e2]; simp; omega
  obtain ⟨ds', m, h1, h2⟩ := text_back (en := ((⟨(tex ds).toArray⟩ : ByteArray).size : Int)) ds [] ((toks 0 (pcs ds)).length + 2) 0 h.all hw (by simpa using h.few) (fun e => by have := h.pos; rw [e] at this; simp at this) (by omega)
  exact ⟨ds', m, 0, by unfold text; rw [h1]; rfl, h2⟩
theorem kk_same {ds es : List Df} (h : ds.map (kk false) = es.map (kk false)) : tex ds = tex es ∧ ds.length = es.length ∧ ((∀ d ∈ ds, d.code = 0) → ∀ d ∈ es, d.code = 0) := by
  induction ds generalizing es with
  | nil =>
    cases es with
    | nil => exact ⟨rfl, rfl, fun h => h⟩
    | cons e es => cases h
  | cons d ds ih =>
    cases es with
    | nil => cases h
    | cons e es =>
      simp only [List.map_cons, List.cons.injEq] at h
      obtain ⟨i1, i2, i3⟩ := ih h.2
      have h1 := h.1
      unfold kk at h1
      simp only [Prod.mk.injEq] at h1
      obtain ⟨e1, _, e2⟩ := h1
      have ht : d.tx = e.tx := by unfold Df.tx; rw [e1, e2]
      have hc : d.code = e.code := by unfold Df.code; rw [e1, e2]
      refine ⟨?_, by simp [i2], ?_⟩
      · have a1 : tex (d :: ds) = d.tx ++ tex ds := by simp [tex]
        have a2 : tex (e :: es) = e.tx ++ tex es := by simp [tex]
        rw [a1, a2, ht, i1]
      · intro hh x hx
        rcases List.mem_cons.1 hx with h' | h'
        · rw [h', ← hc]; exact hh d (by simp)
        · exact i3 (fun y hy => hh y (by simp [hy])) x h'
theorem Fine.same {ds es : List Df} (h : Fine ds) (hk : ds.map (kk false) = es.map (kk false)) : Fine es := by
  obtain ⟨h1, h2, h3⟩ := kk_same hk
  exact ⟨by rw [← h2]; exact h.pos, by rw [← h2]; exact h.few, h3 h.all, by rw [← h1]; exact h.len⟩
/-- Two that may be printed are the same just if their texts are. -/
theorem Fine.apart {ds es : List Df} (h : Fine ds) (h' : Fine es) : decide ((⟨(tex ds).toArray⟩ : ByteArray) = ⟨(tex es).toArray⟩) = smB false ds es := by
  unfold smB
  rw [decide_eq_decide]
  constructor
  · intro e
    obtain ⟨a, x, y, h1, h2⟩ := h.back
    obtain ⟨b, u, v, h3, h4⟩ := h'.back
    rw [e, h3] at h1
    cases h1
    rw [← h2, h4]
  · intro e
    rw [(kk_same e).1]
/-- Lists of expressions that grow. -/
theorem Fo.snoc_pts (p : Int) : ∀ (f : Fo) (x : Xp), (f.snoc x).pts p = f.pts p + (x.pts + rn1 p x.op)
  | .nil, x => by simp [Fo.snoc, Fo.pts, Xp.pts]
  | .cons a b c r, x => by simp only [Fo.snoc, Fo.pts, Fo.snoc_pts p r x]; omega
theorem Fo.snoc_dp (p : Int) : ∀ (f : Fo) (x : Xp), (f.snoc x).dp p = max (f.dp p) (x.dp + br1 p x.op)
  | .nil, x => by simp [Fo.snoc, Fo.dp, Xp.dp]
  | .cons a b c r, x => by simp only [Fo.snoc, Fo.dp, Fo.snoc_dp p r x]; omega
theorem Fo.snoc_bad : ∀ (f : Fo) (x : Xp), f.bad = 0 → x.bad = 0 → (f.snoc x).bad = 0
  | .nil, x, _, h => by
    obtain ⟨h1, h2⟩ := Xp.bad_zero h
    simp [Fo.snoc, Fo.bad, h1, h2]
  | .cons a b c r, x, hf, h => by
    obtain ⟨h1, h2, h3⟩ := Fo.bad_cons hf
    have := Fo.snoc_bad r x h3 h
    simp [Fo.snoc, Fo.bad, h1, h2, this]
theorem rn_le (p c : Int) : rn1 p c ≤ 1 := by unfold rn1; split <;> omega
theorem br_le (p c : Int) : br1 p c ≤ 1 := by unfold br1; split <;> omega
theorem rn_43 (c : Int) : rn1 4 c ≤ rn1 3 c := by
  unfold rn1 rnd
  by_cases h : c = 4
  · subst h; decide
  · simp [h]
theorem br_43 (c : Int) : br1 4 c ≤ br1 3 c := by
  unfold br1 rnd
  by_cases h : c = 4
  · subst h; decide
  · simp [h]
theorem mk_row {acc : Fo} {o : Nat} (hb : acc.bad = 0) (hd : o + acc.dp 3 ≤ 40) : (mk 3 acc).bad = 0 ∧ (mk 3 acc).pts + rn1 4 (mk 3 acc).op ≤ acc.pts 3 ∧ o + (mk 3 acc).dp + br1 4 (mk 3 acc).op ≤ 40 := by
  unfold mk
  split
  · rename_i h1
    cases acc with
    | nil => simp [Fo.len] at h1
    | cons a b c r =>
      have hr : r = .nil := Fo.len_zero (by simp [Fo.len] at h1; omega)
      subst hr
      obtain ⟨h2, h3, _⟩ := Fo.bad_cons hb
      simp only [Fo.at_, Fo.pts, Fo.dp] at *
      have e1 := rn_43 a
      have e2 := br_43 a
      refine ⟨by unfold Xp.bad; simp [h2, h3], ?_, ?_⟩
      · unfold Xp.pts; simp only; omega
      · unfold Xp.dp; simp only; omega
  · rename_i h1
    have e1 : rn1 4 3 = 0 := rfl
    have e2 : br1 4 3 = 0 := rfl
    have hc : code 3 ⟨#[]⟩ acc.len = 0 := by
      simp [code, formB, namB, h1]; rfl
    refine ⟨by unfold Xp.bad; simp [hc, hb], ?_, ?_⟩
    · unfold Xp.pts own; simp [e1]
    · unfold Xp.dp; simp only [e2]; omega
theorem mk_alt {acc : Fo} {o : Nat} (hb : acc.bad = 0) (hl : 1 ≤ acc.len) (hd : o + acc.dp 4 ≤ 40) : (mk 4 acc).bad = 0 ∧ (mk 4 acc).pts + 1 ≤ acc.pts 4 + acc.len ∧ o + (mk 4 acc).dp ≤ 40 := by
  unfold mk
  split
  · rename_i h1
    cases acc with
    | nil => simp [Fo.len] at h1
    | cons a b c r =>
      have hr : r = .nil := Fo.len_zero (by simp [Fo.len] at h1; omega)
      subst hr
      obtain ⟨h2, h3, _⟩ := Fo.bad_cons hb
      simp only [Fo.at_, Fo.pts, Fo.dp, Fo.len] at *
      refine ⟨by unfold Xp.bad; simp [h2, h3], ?_, ?_⟩
      · unfold Xp.pts; simp only; omega
      · unfold Xp.dp; simp only; omega
  · rename_i h1
    have hc : code 4 ⟨#[]⟩ acc.len = 0 := by
      have h2 : 2 ≤ acc.len := by omega
      simp [code, formB, namB, h2]; rfl
    refine ⟨by unfold Xp.bad; simp [hc, hb], ?_, ?_⟩
    · unfold Xp.pts own; simp; omega
    · unfold Xp.dp; simp only; omega
/-- What is read is of the right form, and of no more parts and brackets than were counted. -/
structure Wf (l : List Tk) (en : Int) (k : Nat) : Prop where
  item : ∀ n p o x n' p', o ≤ 40 → item l en k n p o = .ok (some x) n' p' → x.bad = 0 ∧ x.pts + rn1 3 x.op + p ≤ p' ∧ o + x.dp + br1 3 x.op ≤ 40
  row : ∀ n p o acc x n' p', acc.bad = 0 → o + acc.dp 3 ≤ 40 → rowL l en k n p o acc = .ok x n' p' → x.bad = 0 ∧ x.pts + rn1 4 x.op + p ≤ acc.pts 3 + p' ∧ o + x.dp + br1 4 x.op ≤ 40
  altL : ∀ n p o acc x n' p', acc.bad = 0 → 1 ≤ acc.len → o + acc.dp 4 ≤ 40 → altL l en k n p o acc = .ok x n' p' → x.bad = 0 ∧ x.pts + 1 + p ≤ acc.pts 4 + acc.len + p' ∧ o + x.dp ≤ 40
  alt : ∀ n p o x n' p', o ≤ 40 → alt l en k n p o = .ok x n' p' → x.bad = 0 ∧ x.pts + p ≤ p' ∧ o + x.dp ≤ 40
theorem wrap_ok {op : Int} {y : Xp} {o : Nat} (hop : op = 0 ∨ op = 5 ∨ op = 6 ∨ op = 7) (hb : y.bad = 0) (hd : o + 1 + y.dp ≤ 40) : (wrap op y).bad = 0 ∧ (wrap op y).pts + rn1 3 (wrap op y).op ≤ y.pts + 1 ∧ o + (wrap op y).dp + br1 3 (wrap op y).op ≤ 40 := by
  unfold wrap
  split
  · have := rn_le 3 y.op
    have := br_le 3 y.op
    exact ⟨hb, by omega, by omega⟩
  · rename_i h0
    have hop : op = 5 ∨ op = 6 ∨ op = 7 := by omega
    obtain ⟨hc, hk⟩ := Xp.bad_zero hb
    have hrn : rnd op y.op = false := by unfold rnd; rcases hop with h | h | h <;> subst h <;> simp
    have e1 : rn1 3 op = 0 := by rcases hop with h | h | h <;> subst h <;> rfl
    have e2 : br1 3 op = 0 := by rcases hop with h | h | h <;> subst h <;> rfl
    have hcode : code op ⟨#[]⟩ (Fo.nil.snoc y).len = 0 := by rcases hop with h | h | h <;> subst h <;> simp [code, formB, namB, Fo.snoc, Fo.len] <;> rfl
    have hs := Fo.snoc_bad .nil y rfl hb
    have hp := Fo.snoc_pts op .nil y
    have hdp := Fo.snoc_dp op .nil y
    have := br_le op y.op
    refine ⟨by unfold Xp.bad; simp [hcode, hs], ?_, ?_⟩
    · unfold Xp.pts
      simp only [hp, e1]
      have : own op (Fo.nil.snoc y).len = 1 := by rcases hop with h | h | h <;> subst h <;> rfl
      have h2 : rn1 op y.op = 0 := by simp [rn1, hrn]
      simp only [Fo.pts, this, h2, Xp.pts]; omega
    · unfold Xp.dp at *
      simp only [hdp, e2, Fo.dp]; omega
theorem brk_op (s : ByteArray) : (brk s).1 = 0 ∨ (brk s).1 = 5 ∨ (brk s).1 = 6 ∨ (brk s).1 = 7 := by
  unfold brk; (repeat' split) <;> simp
theorem wf {l : List Tk} (en : Int) (hl : ∀ x ∈ l, Okk x.k (bys x.t)) (k : Nat) : Wf l en k := by
  have tok : ∀ n c, knd l n = c → c ≠ 0 → Okk c (bys (txt l n)) := by
    intro n c h hc
    have hn := lt_of_knd h hc
    rw [knd_lt hn] at h
    rw [txt_lt hn, ← h]
    exact hl _ (List.getElem_mem hn)
  induction k with
  | zero => exact ⟨fun _ _ _ _ _ _ _ h => by simp [Go.Proofs.Ytkianolbnjineaa.item] at h, fun _ _ _ _ _ _ _ _ _ h => by simp [Go.Proofs.Ytkianolbnjineaa.rowL] at h, fun _ _ _ _ _ _ _ _ _ _ h => by simp [Go.Proofs.Ytkianolbnjineaa.altL] at h, fun _ _ _ _ _ _ _ h => by simp [Go.Proofs.Ytkianolbnjineaa.alt] at h⟩
  | succ k ih =>
    refine ⟨?_, ?_, ?_, ?_⟩
    · intro n p o x n' p' ho h
      rw [Go.Proofs.Ytkianolbnjineaa.item] at h
      split at h
      · rename_i h1
        split at h
        · cases h
        · cases h
          have hn : isNameB (txt l n) = true := (isName_iff _).2 (tok n 1 h1 (by decide))
          refine ⟨by unfold Xp.bad; simp [code, formB, namB, Fo.len, Fo.bad, hn], ?_, ?_⟩
          · simp [Xp.pts, own, Fo.pts, rn1, rnd]; omega
          · simp [Xp.dp, Fo.dp, br1, rnd]; omega
      · split at h
        · rename_i h1
          split at h
          · cases h
          · cases h
            have hn : isTermB (txt l n) = true := (isTerm_iff _).2 (tok n 2 h1 (by decide))
            refine ⟨by unfold Xp.bad; simp [code, formB, namB, Fo.len, Fo.bad, hn], ?_, ?_⟩
            · simp [Xp.pts, own, Fo.pts, rn1, rnd]; omega
            · simp [Xp.dp, Fo.dp, br1, rnd]; omega
        · split at h
          · split at h
            · cases h
            · split at h
              · cases h
              · split at h
                · rename_i h2
                  split at h
                  · cases h
                    obtain ⟨a1, a2, a3⟩ := ih.alt _ _ _ _ _ _ (by omega) h2
                    obtain ⟨w1, w2, w3⟩ := wrap_ok (o := o) (brk_op (txt l n)) a1 (by omega)
                    exact ⟨w1, by omega, w3⟩
                  · cases h
                · cases h
                · cases h
          · cases h
    · intro n p o acc x n' p' hb hd h
      rw [Go.Proofs.Ytkianolbnjineaa.rowL] at h
      split at h
      · rename_i h1
        cases h
        obtain ⟨m1, m2, m3⟩ := mk_row hb hd
        have hpp : n' = n ∧ p' = p := by
          cases k with
          | zero => simp [Go.Proofs.Ytkianolbnjineaa.item] at h1
          | succ k =>
            rw [Go.Proofs.Ytkianolbnjineaa.item] at h1
            split at h1
            · split at h1 <;> cases h1
            · split at h1
              · split at h1 <;> cases h1
              · split at h1
                · split at h1
                  · cases h1
                  · split at h1
                    · cases h1
                    · split at h1
                      · split at h1 <;> cases h1
                      · cases h1
                      · cases h1
                · cases h1; exact ⟨rfl, rfl⟩
        obtain ⟨_, rfl⟩ := hpp
        exact ⟨m1, by omega, m3⟩
      · rename_i y n1 p1 h1
        obtain ⟨i1, i2, i3⟩ := ih.item _ _ _ _ _ _ (by omega) h1
        have := Fo.snoc_pts 3 acc y
        have := Fo.snoc_dp 3 acc y
        obtain ⟨r1, r2, r3⟩ := ih.row _ _ _ _ _ _ _ (Fo.snoc_bad acc y hb i1) (by omega) h
        exact ⟨r1, by omega, r3⟩
      · cases h
      · cases h
    · intro n p o acc x n' p' hb hlen hd h
      rw [Go.Proofs.Ytkianolbnjineaa.altL] at h
      split at h
      · split at h
        · cases h
        · split at h
          · rename_i y n1 p1 h1
            obtain ⟨i1, i2, i3⟩ := ih.row _ _ _ _ _ _ _ rfl (by simp [Fo.dp]; omega) h1
            have := Fo.snoc_pts 4 acc y
            have := Fo.snoc_dp 4 acc y
            have := Fo.len_snoc acc y
            simp only [Fo.pts] at i2
            obtain ⟨r1, r2, r3⟩ := ih.altL _ _ _ _ _ _ _ (Fo.snoc_bad acc y hb i1) (by omega) (by omega) h
            exact ⟨r1, by omega, r3⟩
          · cases h
          · cases h
      · cases h
        obtain ⟨m1, m2, m3⟩ := mk_alt hb hlen hd
        exact ⟨m1, by omega, m3⟩
    · intro n p o x n' p' ho h
      rw [Go.Proofs.Ytkianolbnjineaa.alt] at h
      split at h
      · rename_i y n1 p1 h1
        obtain ⟨i1, i2, i3⟩ := ih.row _ _ _ _ _ _ _ rfl (by simp [Fo.dp]; omega) h1
        have := Fo.snoc_pts 4 .nil y
        have := Fo.snoc_dp 4 .nil y
        have := Fo.len_snoc .nil y
        simp only [Fo.pts, Fo.dp, Fo.len] at *
        obtain ⟨r1, r2, r3⟩ := ih.altL _ _ _ _ _ _ _ (Fo.snoc_bad .nil y rfl i1) (by omega) (by omega) h
        exact ⟨r1, by omega, r3⟩
      · cases h
      · cases h
theorem defn_wf {l : List Tk} {en : Int} {n n' p' : Nat} {d : Df} (hl : ∀ x ∈ l, Okk x.k (bys x.t)) (h : defn l en n = .ok d n' p') : d.code = 0 := by
  unfold defn at h
  split at h
  · rename_i h0
    split at h
    · rename_i hs
      split at h
      · rename_i x m q h1
        split at h
        · cases h
          obtain ⟨a1, a2, a3⟩ := (wf en hl _).alt _ _ _ _ _ _ (by omega) h1
          have hf := (far l en _).alt _ _ _ _ _ _ (by omega) (by have := lt_of_isS hs; omega) h1
          have hn := lt_of_knd h0 (by decide)
          have hnm : isNameB (txt l n) = true := (isName_iff _).2 (by
            rw [knd_lt hn] at h0
            rw [txt_lt hn, ← h0]
            exact hl _ (List.getElem_mem hn))
          unfold Df.code
          rw [if_pos hnm, if_neg (by simp only; omega), if_neg (by simp only; omega)]
          exact a1
        · cases h
      · cases h
      · cases h
    · cases h
  · cases h
theorem textL_wf {l : List Tk} {en : Int} (hl : ∀ x ∈ l, Okk x.k (bys x.t)) : ∀ (k n : Nat) (acc ds : List Df) (x y : Nat), (∀ d ∈ acc, d.code = 0) → acc.length ≤ 16 → textL l en k n acc = .ok ds x y → (∀ d ∈ ds, d.code = 0) ∧ 0 < ds.length ∧ ds.length ≤ 16
  | 0, _, _, _, _, _, _, _, h => by simp [textL] at h
  | k + 1, n, acc, ds, x, y, ha, hb, h => by
    rw [textL] at h
    split at h
    · split at h
      · cases h
      · split at h
        · rename_i d n' q hd
          have hc := defn_wf hl hd
          exact textL_wf hl k n' (acc ++ [d]) ds x y (fun e he => by
            rcases List.mem_append.1 he with h' | h'
            · exact ha e h'
            · rw [List.mem_singleton.1 h']; exact hc) (by simp; omega) h
        · cases h
        · cases h
    · rename_i h0
      cases h
      exact ⟨ha, by
        rcases Nat.eq_zero_or_pos acc.length with h' | h'
        · exact absurd (.inr (List.eq_nil_of_length_eq_zero h')) h0
        · exact h', hb⟩
/-- What was read may be printed, if its text is not too long. -/
theorem parse_wf {s : ByteArray} {ds : List Df} {x y : Nat} (h : parse s = .ok ds x y) : (∀ d ∈ ds, d.code = 0) ∧ 0 < ds.length ∧ ds.length ≤ 16 := by
  unfold parse at h
  split at h
  · unfold text at h
    exact textL_wf (scan_ok s).ok _ _ _ _ _ _ (by simp) (by simp) h
  · cases h
theorem parse_flt {s : ByteArray} {ds : List Df} {x y : Nat} (h : parse s = .ok ds x y) : Fine ds ∧ rflt ds = (0, 0) ∨ rflt ds = (6, -1) := by
  obtain ⟨h1, h2, h3⟩ := parse_wf h
  have hc : cflt ds = (0, 0) := by unfold cflt; rw [if_neg (by omega), if_neg (by omega), dflt_of h1]
  by_cases h6 : 6000 < (tex ds).length
  · right; unfold rflt; rw [hc, if_neg (by simp), if_pos h6]
  · left
    have hf : Fine ds := ⟨h2, h3, h1, by omega⟩
    exact ⟨hf, rflt_of hf⟩
end Go.Proofs.Ytkianolbnjineaa
