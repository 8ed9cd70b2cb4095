/- There and back of printed texts, first part: the tokens of a text that was printed. -/
import Derived.Test.YtkianolbnjineaaRm
namespace Go.Proofs.Ytkianolbnjineaa

theorem wh_whole (p : Int → Bool) (l : List UInt8) : wh p l = l.length ↔ ∀ d ∈ l, p d.toNat = true := by
  induction l with
  | nil => simp [wh_nil]
  | cons c l ih =>
    rw [wh_cons]
    have hl := wh_le p l
    split
    · rename_i h
      simp only [List.length_cons, List.mem_cons, forall_eq_or_imp, h, true_and]
      rw [← ih]; omega
    · rename_i h
      simp only [List.length_cons, List.mem_cons, forall_eq_or_imp]
      constructor
      · intro h'; omega
      · intro h'; exact absurd h'.1 h
theorem over_whole (p : Int → Bool) (s : ByteArray) : over p s 0 = s.size ↔ ∀ d ∈ bys s, p d.toNat = true := by
  unfold over
  rw [List.drop_zero, Nat.zero_add, ← bys_length]
  exact wh_whole p (bys s)
theorem isName_iff (s : ByteArray) : isNameB s = true ↔ Okk 1 (bys s) := by
  unfold isNameB fitsB Okk
  simp only [Bool.and_eq_true, decide_eq_true_eq, beq_iff_eq]
  rw [over_whole, ← bys_length]
  have hb : ∀ c r, bys s = c :: r → bt s 0 = c.toNat := fun c r h => bt_drop (by rw [List.drop_zero]; exact h)
  generalize bys s = l at *
  cases l with
  | nil => simp
  | cons c r =>
    have := hb c r rfl
    rw [this]
    simp
    constructor
    · rintro ⟨⟨h1, h2⟩, h3, h4⟩; exact ⟨h2, ⟨h3, h4⟩, h1⟩
    · rintro ⟨h1, ⟨h2, h3⟩, h4⟩; exact ⟨⟨h4, h1⟩, h2, h3⟩
theorem isTerm_iff (s : ByteArray) : isTermB s = true ↔ Okk 2 (bys s) := by
  unfold isTermB fitsB Okk
  simp only [Bool.and_eq_true, decide_eq_true_eq, beq_iff_eq]
  rw [over_whole, ← bys_length]
  simp [and_assoc]
theorem wh_nb (p : Int → Bool) (l r : List UInt8) (h : ∀ d ∈ l, p d.toNat = true) (hr : ∀ c q, r = c :: q → p c.toNat = false) : wh p (l ++ r) = l.length := by
  cases r with
  | nil => rw [List.append_nil]; exact (wh_whole p l).2 h
  | cons c q => exact wh_all p l c q h (hr c q rfl)
/-- A piece of a text: a token, or a blank. -/
inductive Pc where
  | tk (k : Int) (t : ByteArray)
  | bl (c : UInt8)
def Pc.enc : Pc → List UInt8
  | .tk k t => if k = 2 then 34 :: (bys t ++ [34]) else bys t
  | .bl c => [c]
theorem Pc.enc_tk (k : Int) (t : ByteArray) : Pc.enc (.tk k t) = if k = 2 then 34 :: (bys t ++ [34]) else bys t := rfl
def flat (ps : List Pc) : List UInt8 := ps.flatMap Pc.enc
theorem flat_app (a b : List Pc) : flat (a ++ b) = flat a ++ flat b := by simp [flat]
theorem flat_cons (a : Pc) (b : List Pc) : flat (a :: b) = a.enc ++ flat b := by simp [flat]
theorem flat_nil : flat [] = [] := rfl
def toks : Nat → List Pc → List Tk
  | _, [] => []
  | a, .tk k t :: r => ⟨k, a, t⟩ :: toks (a + (Pc.enc (.tk k t)).length) r
  | a, .bl _ :: r => toks (a + 1) r
def kts : List Pc → List (Int × ByteArray)
  | [] => []
  | .tk k t :: r => (k, t) :: kts r
  | .bl _ :: r => kts r
theorem kts_app (a b : List Pc) : kts (a ++ b) = kts a ++ kts b := by
  induction a with
  | nil => rfl
  | cons x a ih => cases x <;> simp [kts, ih]
theorem toks_kt (a : Nat) (ps : List Pc) : (toks a ps).map (fun x => (x.k, x.t)) = kts ps := by
  induction ps generalizing a with
  | nil => rfl
  | cons x r ih => cases x <;> simp [kts, toks, ih]
def Nb (l : List UInt8) : Prop := ∀ c r, l = c :: r → nameB c.toNat = false
def Gd : List Pc → List UInt8 → Prop
  | [], _ => True
  | .tk k t :: r, e => Okk k (bys t) ∧ (k = 1 → Nb (flat r ++ e)) ∧ Gd r e
  | .bl c :: r, e => blankB c.toNat = true ∧ Gd r e
theorem Gd.app {a b : List Pc} {e : List UInt8} (h1 : Gd a (flat b ++ e)) (h2 : Gd b e) : Gd (a ++ b) e := by
  induction a with
  | nil => exact h2
  | cons x a ih =>
    cases x with
    | tk k t => exact ⟨h1.1, fun hk => by show Nb (flat (a ++ b) ++ e); rw [flat_app, List.append_assoc]; exact h1.2.1 hk, ih h1.2.2⟩
    | bl c => exact ⟨h1.1, ih h1.2⟩
theorem rd_pc {s : ByteArray} {p : Nat} {k : Int} {t : ByteArray} {r : List UInt8} (hx : Okk k (bys t)) (hn : k = 1 → Nb r) (h : (bys s).drop p = Pc.enc (.tk k t) ++ r) :
    rd s p = (⟨k, p, t⟩, ((p + (Pc.enc (.tk k t)).length : Nat) : Int), 0) := by
  rcases hx with ⟨hk, ⟨c, q, hl, hc⟩, hall, hlen⟩ | ⟨hk, h1, h12, hall⟩ | ⟨hk, c, hl, hc⟩
  · have e : Pc.enc (.tk k t) = bys t := by rw [Pc.enc_tk, if_neg (by omega)]
    rw [e] at h ⊢
    have h2 : (bys s).drop p = c :: (q ++ r) := by rw [h, hl]; rfl
    have hov : over nameB s p = p + (bys t).length := by
      unfold over; rw [show s.data.toList = bys s from rfl, h, wh_nb _ _ _ hall (hn hk)]
    have ht : s.extract p (p + (bys t).length) = t := by
      apply bys_inj; rw [bys_extract, h]; simp
    unfold rd rdName
    rw [bt_drop h2, if_pos hc, hov, if_pos (by omega), ht, hk]
  · have e : Pc.enc (.tk k t) = 34 :: (bys t ++ [34]) := by rw [Pc.enc_tk, if_pos hk]
    rw [e] at h ⊢
    have h2 : (bys s).drop p = 34 :: (bys t ++ 34 :: r) := by rw [h]; simp
    have h3 : (bys s).drop (p + 1) = bys t ++ 34 :: r := by
      have := drop_more (a := [34]) (r := bys t ++ 34 :: r) (by rw [h2]; rfl)
      simpa using this
    have h4 : (bys s).drop (p + 1 + (bys t).length) = 34 :: r := drop_more h3
    have hov : over termB s (p + 1) = p + 1 + (bys t).length := by
      unfold over; rw [show s.data.toList = bys s from rfl, h3]
      rw [wh_all _ _ _ _ hall (by decide)]
    have ht : s.extract (p + 1) (p + 1 + (bys t).length) = t := by
      apply bys_inj; rw [bys_extract, h3]; simp
    have hb := bt_drop h2
    have hok : termOk s p (p + 1 + (bys t).length) = true := by
      simp only [termOk, bt_drop h4]; simp; omega
    unfold rd rdTerm
    rw [hb, if_neg (by decide), if_pos (by decide), hov, hok, if_pos rfl, ht, hk]
    simp; omega
  · have e : Pc.enc (.tk k t) = [c] := by rw [Pc.enc_tk, if_neg (by omega), hl]
    rw [e] at h ⊢
    have h2 : (bys s).drop p = c :: r := by rw [h]; rfl
    have ht : s.extract p (p + 1) = t := by
      apply bys_inj; rw [bys_extract, h2, hl]; simp
    obtain ⟨hs1, hs2⟩ := sign_let hc
    unfold rd
    rw [bt_drop h2, hs1, if_neg (by simp), hs2, if_neg (by simp), hc, if_pos rfl, ht, hk]
    rfl
/-- A token's first byte is nothing that is skipped. -/
theorem tk_head {k : Int} {t : ByteArray} (hx : Okk k (bys t)) : ∃ c r, Pc.enc (.tk k t) = c :: r ∧ blankB c.toNat = false ∧ ((c.toNat : Int) == 35) = false := by
  rcases hx with ⟨hk, ⟨c, q, hl, hc⟩, _⟩ | ⟨hk, _⟩ | ⟨hk, c, hl, hc⟩
  · refine ⟨c, q, ?_, ?_⟩
    · rw [Pc.enc_tk, if_neg (by omega), hl]
    · simp only [letB, Bool.or_eq_true, Bool.and_eq_true, decide_eq_true_eq, beq_iff_eq] at hc
      simp only [blankB, Bool.or_eq_false_iff, beq_eq_false_iff_ne, ne_eq]; omega
  · refine ⟨34, bys t ++ [34], ?_, by decide, by decide⟩
    rw [Pc.enc_tk, if_pos hk]
  · refine ⟨c, [], ?_, ?_⟩
    · rw [Pc.enc_tk, if_neg (by omega), hl]
    · simp only [signB, Bool.or_eq_true, beq_iff_eq] at hc
      simp only [blankB, Bool.or_eq_false_iff, beq_eq_false_iff_ne, ne_eq]; omega
theorem sc_pc (s : ByteArray) : ∀ (ps : List Pc) (a k : Nat) (acc : List Tk), (bys s).drop a = flat ps → a ≤ s.size → Gd ps [] → st s k = (acc, skip s a) → ∃ m, st s (k + m) = (acc ++ toks a ps, s.size)
  | [], a, k, acc, hd, ha, _, hs => by
    have : a = s.size := by
      have := congrArg List.length hd
      simp only [List.length_drop, bys_length, flat_nil, List.length_nil] at this
      omega
    subst this
    exact ⟨0, by rw [Nat.add_zero, hs, skip_end (Nat.le_refl _)]; simp [toks]⟩
  | .bl c :: r, a, k, acc, hd, ha, hg, hs => by
    rw [flat_cons] at hd
    have hlt := lt_of_drop (c := c) (r := flat r) hd
    have hc := bt_drop (c := c) (r := flat r) hd
    have hd' : (bys s).drop (a + 1) = flat r := drop_more (a := [c]) hd
    have hk : skip s (a + 1) = skip s a := skip_blank hlt (by rw [bt_lt hlt] at hc; rw [hc]; exact hg.1)
    exact sc_pc s r (a + 1) k acc hd' hlt hg.2 (by rw [hs, hk])
  | .tk kd t :: r, a, k, acc, hd, ha, hg, hs => by
    rw [flat_cons] at hd
    obtain ⟨c, q, he, hb, hh⟩ := tk_head hg.1
    have hd2 : (bys s).drop a = c :: (q ++ flat r) := by rw [hd, he]; rfl
    have hlt := lt_of_drop hd2
    have hc := bt_drop hd2
    rw [bt_lt hlt] at hc
    have hk : skip s a = a := skip_stop hlt (by rw [hc]; exact hb) (by rw [hc]; exact hh)
    have hr := rd_pc hg.1 (fun h => by have := hg.2.1 h; rwa [List.append_nil] at this) hd
    have hd' : (bys s).drop (a + (Pc.enc (.tk kd t)).length) = flat r := drop_more hd
    have hle : a + (Pc.enc (.tk kd t)).length ≤ s.size := by
      have := congrArg List.length hd
      simp only [List.length_drop, bys_length, List.length_append] at this
      omega
    have hst : st s (k + 1) = (acc ++ [⟨kd, a, t⟩], skip s (a + (Pc.enc (.tk kd t)).length)) := by
      show stp s (st s k) = _
      rw [hs, hk]
      unfold stp
      rw [hr, if_pos ⟨hlt, rfl⟩]
      rfl
    obtain ⟨m, hm⟩ := sc_pc s r _ (k + 1) _ hd' hle hg.2.2 hst
    exact ⟨m + 1, by rw [show k + (m + 1) = k + 1 + m by omega, hm]; simp [toks]⟩
theorem scan_pc {ps : List Pc} {s : ByteArray} (hs : bys s = flat ps) (hg : Gd ps []) (h6 : s.size ≤ 6000) : scan s = (toks 0 ps, 0, 0) := by
  obtain ⟨m, hm⟩ := sc_pc s ps 0 0 [] (by rw [List.drop_zero]; exact hs) (Nat.zero_le _) hg rfl
  rw [Nat.zero_add, List.nil_append] at hm
  have stuck : ∀ k, (st s k).2 = s.size → stp s (st s k) = st s k := fun k hk => by unfold stp; rw [if_neg (by rw [hk]; omega)]
  have hfin : st s s.size = (toks 0 ps, s.size) := by
    rcases Nat.le_or_ge m s.size with h | h
    · rw [st_fin (stuck m (by rw [hm])) h, hm]
    · have hz : stp s (st s s.size) = st s s.size := by
        rcases st_grow s s.size with h' | h'
        · exact stuck _ (by have := st_le s s.size; omega)
        · exact h'
      have := st_stuck hz (m - s.size)
      rw [Nat.add_sub_cancel' h] at this
      rw [← this, hm]
  unfold scan
  rw [if_neg (by omega), hfin]
  unfold fin
  rw [if_neg (by simp)]
/-- The pieces of an expression. -/
def sg (c : UInt8) : Pc := .tk 3 ⟨#[c]⟩
def opP (op : Int) (nm : ByteArray) : List Pc := if op = 1 then [.tk 2 nm] else if op = 2 then [.tk 1 nm] else if op = 5 then [sg 91] else if op = 6 then [sg 123] else if op = 7 then [sg 60] else []
def clP (op : Int) : List Pc := if op = 5 then [sg 93] else if op = 6 then [sg 125] else if op = 7 then [sg 62] else []
def btP (p : Int) : List Pc := if p = 3 then [.bl 32] else if p = 4 then [.bl 32, sg 124, .bl 32] else []
def lpP (p c : Int) : List Pc := if rnd p c = true then [sg 40] else []
def rpP (p c : Int) : List Pc := if rnd p c = true then [sg 41] else []
def Fo.pc (p : Int) (first : Bool) : Fo → List Pc
  | .nil => []
  | .cons op nm kids rest => (if first = true then [] else btP p) ++ (lpP p op ++ (opP op nm ++ kids.pc op true ++ clP op) ++ rpP p op) ++ rest.pc p false
def Xp.pc (x : Xp) : List Pc := opP x.op x.nm ++ x.kids.pc x.op true ++ clP x.op
theorem flat_sg (c : UInt8) : flat [sg c] = [c] := by simp [flat, sg, Pc.enc, bys]
theorem flat_btP (p : Int) : flat (btP p) = btw p := by unfold btP btw; (repeat' split) <;> simp [flat, sg, Pc.enc, bys]
theorem flat_lpP (p c : Int) : flat (lpP p c) = lp p c := by unfold lpP lp; split <;> simp [flat, sg, Pc.enc, bys]
theorem flat_rpP (p c : Int) : flat (rpP p c) = rp p c := by unfold rpP rp; split <;> simp [flat, sg, Pc.enc, bys]
theorem flat_pc : ∀ (p : Int) (first : Bool) (f : Fo), f.bad = 0 → flat (f.pc p first) = f.tx p first
  | _, _, .nil, _ => rfl
  | p, first, .cons op nm kids rest, hb => by
    obtain ⟨hc, hk, hr⟩ := Fo.bad_cons hb
    obtain ⟨hf, _⟩ := code_zero hc
    have i1 := flat_pc op true kids hk
    have i2 := flat_pc p false rest hr
    have hfi : flat (if first = true then [] else btP p) = if first = true then [] else btw p := by split; rfl; exact flat_btP p
    have hown : flat (opP op nm ++ kids.pc op true ++ clP op) = bef op ++ bys nm ++ kids.tx op true ++ beh op := by
      rw [flat_app, flat_app, i1]
      rcases form_kinds hf with ⟨h, h0⟩ | ⟨h, h0, h1⟩ | ⟨h, h0, h1⟩ | ⟨h, h0, h1⟩
      · have := Fo.len_zero h0
        subst this
        rcases h with h | h <;> subst h <;> simp [opP, clP, bef, beh, flat, Pc.enc, Fo.tx]
      · subst h; subst h0; simp [opP, clP, bef, beh, flat, bys]
      · subst h; subst h0; simp [opP, clP, bef, beh, flat, bys]
      · subst h0; rcases h with h | h | h <;> subst h <;> simp [opP, clP, bef, beh, flat, Pc.enc, sg, bys]
    simp only [Fo.pc, Fo.tx]
    rw [flat_app, flat_app, flat_app, flat_app, hfi, hown, i2, flat_lpP, flat_rpP]
theorem Xp.flat_pc {x : Xp} (h : x.bad = 0) : flat x.pc = x.tx := by
  obtain ⟨hc, hk⟩ := Xp.bad_zero h
  have := Go.Proofs.Ytkianolbnjineaa.flat_pc 5 true (.cons x.op x.nm x.kids .nil) (by unfold Fo.bad; simp [hc, hk, Fo.bad])
  have hrn : rnd 5 x.op = false := by unfold rnd; simp
  simpa [Fo.pc, Fo.tx, lpP, rpP, lp, rp, hrn, Xp.pc, Xp.tx] using this
theorem Nb.cons {c : UInt8} {r : List UInt8} (h : nameB c.toNat = false) : Nb (c :: r) := fun d q e => by injection e with e1 _; subst e1; exact h
theorem Gd_sg {c : UInt8} {e : List UInt8} (h : signB c.toNat = true) : Gd [sg c] e := ⟨.inr (.inr ⟨rfl, c, rfl, h⟩), (fun h => by cases h), trivial⟩
theorem Gd_pc : ∀ (p : Int) (first : Bool) (f : Fo) (e : List UInt8), f.bad = 0 → (p = 3 ∨ p = 4 ∨ f.len ≤ 1) → Nb e → Gd (f.pc p first) e
  | _, _, .nil, _, _, _, _ => trivial
  | p, first, .cons op nm kids rest, e, hb, hp, he => by
    obtain ⟨hc, hk, hr⟩ := Fo.bad_cons hb
    obtain ⟨hf, hn⟩ := code_zero hc
    have hpr : p = 3 ∨ p = 4 ∨ rest.len ≤ 1 := by rcases hp with h | h | h; exact .inl h; exact .inr (.inl h); exact .inr (.inr (by simp [Fo.len] at h; omega))
    have i2 := Gd_pc p false rest e hr hpr he
    have n2 : Nb (flat (rest.pc p false) ++ e) := by
      cases rest with
      | nil => exact he
      | cons a b c d =>
        rw [flat_pc p false _ hr, Fo.tx]
        simp only [Bool.false_eq_true, if_false]
        rcases hp with h | h | h
        · subst h; exact Nb.cons (by decide)
        · subst h; exact Nb.cons (by decide)
        · simp [Fo.len] at h
    have n3 : Nb (flat (rpP p op) ++ (flat (rest.pc p false) ++ e)) := by
      unfold rpP; split
      · rw [flat_sg]; exact Nb.cons (by decide)
      · exact n2
    have i3 : Gd (rpP p op) (flat (rest.pc p false) ++ e) := by
      unfold rpP; split
      · exact Gd_sg (by decide)
      · trivial
    have i4 : ∀ e', Gd (lpP p op) e' := fun e' => by
      unfold lpP; split
      · exact Gd_sg (by decide)
      · trivial
    have i5 : ∀ e', Gd (if first = true then [] else btP p) e' := fun e' => by
      split
      · trivial
      · unfold btP; split
        · exact ⟨by decide, trivial⟩
        · split
          · exact ⟨by decide, (Gd_sg (c := 124) (e := []) (by decide)).1, (fun h => by cases h), by decide, trivial⟩
          · trivial
    have hkl : op = 3 ∨ op = 4 ∨ kids.len ≤ 1 := by rcases form_kinds hf with h | h | h | h <;> omega
    have own_ok : ∀ e', Nb e' → Gd (opP op nm ++ kids.pc op true ++ clP op) e' := by
      intro e' he'
      have c1 : Gd (clP op) e' := by
        unfold clP; split
        · exact Gd_sg (by decide)
        · split
          · exact Gd_sg (by decide)
          · split
            · exact Gd_sg (by decide)
            · trivial
      have c2 : Nb (flat (clP op) ++ e') := by
        unfold clP; split
        · rw [flat_sg]; exact Nb.cons (by decide)
        · split
          · rw [flat_sg]; exact Nb.cons (by decide)
          · split
            · rw [flat_sg]; exact Nb.cons (by decide)
            · exact he'
      have c3 := Gd_pc op true kids (flat (clP op) ++ e') hk hkl c2
      refine Gd.app (Gd.app ?_ c3) c1
      rcases form_kinds hf with ⟨h, h0⟩ | ⟨h, h0, h1⟩ | ⟨h, h0, h1⟩ | ⟨h, h0, h1⟩
      · have := Fo.len_zero h0
        subst this
        rcases h with h | h <;> subst h
        · exact ⟨(isTerm_iff nm).1 hn, (fun h => by cases h), trivial⟩
        · exact ⟨(isName_iff nm).1 hn, fun _ => c2, trivial⟩
      · subst h; trivial
      · subst h; trivial
      · rcases h with h | h | h <;> subst h <;> exact Gd_sg (by decide)
    unfold Fo.pc
    refine Gd.app (Gd.app (i5 _) (Gd.app (Gd.app (i4 _) ?_) ?_)) i2
    · exact own_ok _ n3
    · exact i3
theorem Xp.Gd_pc {x : Xp} {e : List UInt8} (h : x.bad = 0) (he : Nb e) : Gd x.pc e := by
  obtain ⟨hc, hk⟩ := Xp.bad_zero h
  have := Go.Proofs.Ytkianolbnjineaa.Gd_pc 5 true (.cons x.op x.nm x.kids .nil) e (by unfold Fo.bad; simp [hc, hk, Fo.bad]) (.inr (.inr (by simp [Fo.len]))) he
  have hrn : rnd 5 x.op = false := by unfold rnd; simp
  simpa [Fo.pc, lpP, rpP, hrn, Xp.pc] using this
def Df.pc (d : Df) : List Pc := [.tk 1 d.nm, .bl 32, sg 61, .bl 32] ++ d.e.pc ++ [sg 59, .bl 10]
def pcs (ds : List Df) : List Pc := ds.flatMap Df.pc
theorem Df.flat_pc {d : Df} (h : d.code = 0) : flat d.pc = d.tx := by
  obtain ⟨_, _, _, h4⟩ := Df.code_zero h
  unfold Df.pc Df.tx
  rw [flat_app, flat_app, Xp.flat_pc h4]
  simp [flat, Pc.enc, sg, bys]
theorem Df.Gd_pc {d : Df} {e : List UInt8} (h : d.code = 0) : Gd d.pc e := by
  obtain ⟨h1, _, _, h4⟩ := Df.code_zero h
  unfold Df.pc
  refine Gd.app (Gd.app ?_ (Xp.Gd_pc h4 ?_)) ?_
  · exact ⟨(isName_iff _).1 h1, fun _ => Nb.cons (by decide), by decide, (Gd_sg (c := 61) (e := []) (by decide)).1, (fun h => by cases h), by decide, trivial⟩
  · exact Nb.cons (by decide)
  · exact ⟨(Gd_sg (c := 59) (e := []) (by decide)).1, (fun h => by cases h), by decide, trivial⟩
theorem pcs_ok {ds : List Df} (h : ∀ d ∈ ds, d.code = 0) : flat (pcs ds) = tex ds ∧ Gd (pcs ds) [] := by
  induction ds with
  | nil => exact ⟨rfl, trivial⟩
  | cons d r ih =>
    obtain ⟨i1, i2⟩ := ih fun e he => h e (by simp [he])
    have hd := h d (by simp)
    have e1 : pcs (d :: r) = d.pc ++ pcs r := by simp [pcs]
    have e2 : tex (d :: r) = d.tx ++ tex r := by simp [tex]
    rw [e1, e2, flat_app, i1, Df.flat_pc hd]
    exact ⟨rfl, Gd.app (Df.Gd_pc hd) i2⟩
theorem Fine.scan {ds : List Df} (h : Fine ds) : Go.Proofs.Ytkianolbnjineaa.scan ⟨(tex ds).toArray⟩ = (toks 0 (pcs ds), 0, 0) := by
  obtain ⟨h1, h2⟩ := pcs_ok h.all
  refine scan_pc (ps := pcs ds) ?_ h2 ?_
  · rw [bys_mk, h1]
  · have := h.len; rw [← bys_length, bys_mk]; omega
end Go.Proofs.Ytkianolbnjineaa
