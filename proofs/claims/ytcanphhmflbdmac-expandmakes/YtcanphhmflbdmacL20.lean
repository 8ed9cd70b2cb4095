/- Texts laid together: Ec Er Eu. -/
import Derived.Test.YtcanphhmflbdmacL13
import Derived.Test.YtcanphhmflbdmacL19
import Derived.Deep.CutRange
/- The program's maker: the ways of an expression, and the rules of a nonterminal. -/
namespace Go.Proofs.Ytcanphhmflbdmac
open Go.RowKit G

/-- Numbers that lie in memory, behind a slice of one's own. -/
theorem wpList_append_ints {P : Program} (w : World) {ops : Array Oper} {rest : List Oper} {o : Oper} {a : Act} {Q : Exit → Act → World → Prop} (hgd : o.guard = none) (s x : Operand) (t : TypeId)
    (ho : o.op = .call { callee := .builtin .append, args := #[s, x], argTypes := #[t, t] })
    (base : Nat) (e : TypeId) (i : TypeInfo) (ht : P.underlying t = some (.slice e)) (hi : P.info? e = some i) (hz : i.zero = some (.int .i64 0)) (hsize : i.size = 1) (hby : i.bytes = 8)
    (v : Value) (n : Nat) (xs : List Value) (hs : a.eval s = v) (hown : w.ownsRow base e 1 v n xs)
    (S : Nat → Prop) (u : Value) (l : List Int) (hx : a.eval x = u) (hu : IsV w S u l) (b1 : n + l.length ≤ 1000000) (hbase : base ≤ w.heap.size)
    (h : ∀ v' w', w'.ownsRow base e 1 v' (n + l.length) (xs ++ ints l) → w.grownBy w' v.ownBlock → (v'.ownBlock = v.ownBlock ∨ v'.ownBlock = some w.heap.size) → wpList P ops Q rest (a.put o.dst v') w') : wpList P ops Q (o :: rest) a w := by
  obtain ⟨ao, cap, rfl⟩ := hu.slice
  cases ao with
  | some ad => exact wpList_append_own_at w hgd s x t ho base e i (.int .i64 0) 1 8 ht hi hz hsize hby rfl (by decide) v n xs hs hown ad l.length cap (ints l) hx (by rw [ints_len]; omega) hu.cells (oneInts l) (by unfold maxLen; omega) (by omega) hbase (fun v' w' q1 q2 _ q4 => h v' w' q1 q2 q4)
  | none =>
    obtain ⟨_, ao', cap', e', _, h0, hl⟩ := hu
    simp at e'
    obtain ⟨rfl, rfl⟩ := e'
    have hc := h0 rfl
    subst hc
    have hl0 : l = [] := by
      rcases hl with hl | ⟨b, o, e, _⟩
      · exact List.eq_nil_of_length_eq_zero hl
      · cases e
    subst hl0
    refine wpList_append_own_none hgd s x t ho base e i 1 ht hi v n xs hs hown hx (h v w ?_ ⟨rfl, rfl, rfl, Nat.le_refl _, fun _ _ _ => rfl⟩ (.inl rfl))
    simpa [ints] using hown
theorem IsV_one (w : World) (v : Int) (t : TypeId) : IsV (w.alloc (.cells #[.int .i64 v] t)) G.All (.slice (some ⟨w.heap.size, 0, none⟩) 1 1) [v] :=
  ⟨by simp, _, 1, rfl, Nat.le_refl _, (fun h => by cases h), .inr ⟨w.heap.size, 0, rfl, trivial, fun i hi => by
    obtain rfl : i = 0 := by simpa using hi
    simp⟩⟩
theorem owns_one (w : World) (v : Int) (base : Nat) (hb : base ≤ w.heap.size) : (w.alloc (.cells #[.int .i64 v] 3)).ownsRow base 3 1 (.slice (some ⟨w.heap.size, 0, none⟩) 1 1) 1 (ints [v]) :=
  ⟨rfl, .inr ⟨w.heap.size, 1, #[.int .i64 v], rfl, hb, by show (w.heap.push _)[w.heap.size]? = _; simp, Nat.le_refl _, by decide, rfl, rfl⟩⟩
theorem Fo.bad_in : ∀ {f : Fo} {i : Nat}, f.bad = 0 → i < f.len → (f.at_ i).bad = 0
  | .nil, _, _, h => absurd h (Nat.not_lt_zero _)
  | .cons op nm kids rest, 0, hb, _ => by
    obtain ⟨h1, h2, _⟩ := Fo.bad_cons hb
    show Xp.bad ⟨op, nm, kids⟩ = 0
    unfold Xp.bad
    rw [if_neg (by simpa using h1)]; exact h2
  | .cons _ _ _ r, i + 1, hb, h => Fo.bad_in (f := r) (i := i) (Fo.bad_cons hb).2.2 (by simpa [Fo.len] using h)
theorem Xp.ways_ok {x : Xp} (hb : x.bad = 0) (hs : x.sz ≤ 3000) : ∀ i, i < x.ways.len → (x.ways.at_ i).bad = 0 ∧ (x.ways.at_ i).sz ≤ 3000 := by
  intro i hi
  unfold Xp.ways at hi ⊢
  split at hi
  · rename_i h4
    rw [if_pos h4]
    have := Fo.sz_le hi
    exact ⟨Fo.bad_in (Xp.bad_zero hb).2 hi, by unfold Xp.sz at hs; omega⟩
  · rename_i h4
    rw [if_neg h4]
    obtain rfl : i = 0 := by simpa [Fo.len] using hi
    exact ⟨hb, hs⟩
set_option maxRecDepth 100000 in
set_option maxHeartbeats 4000000 in
theorem ways_any (x : Xp) (va : Value) (w : World) (r : Nat) (S : Nat → Prop) (hx : XV w (fun k => k < r) va x) (h1 : ∀ k, k < r → S k) (h2 : ∀ k, w.heap.size ≤ k → S k) :
    Calls Try.prog 64 #[va] w fun e w' => ∃ v, e = .returned v ∧ WyV w' r S v x.ways ∧ Below w.heap.size w w' := by
  obtain ⟨u, rfl, hf⟩ := hx
  have hf' := hf
  obtain ⟨hl, ao, cap, rfl, hin⟩ := hf'
  clear hin
  unfold Xp.ways
  by_cases h4 : x.op = 4
  · rw [if_pos h4, h4]
    go_enter Try.func64, Try.ntmps64
    go_wp2_with fail
    go_ret
    exact ⟨_, rfl, WyV_fov (hf.mono fun _ _ _ hs h => ⟨hs, bkeep (G.al1 _ _) h⟩) h1, G.al1 _ _⟩
  · rw [if_neg h4]
    have h4' : (x.op == 4) = false := by simpa using h4
    have hz := h2 (w.heap.size + 1) (Nat.le_succ _)
    go_enter Try.func64, Try.ntmps64
    go_wp2_with fail
    go_ret
    refine ⟨_, rfl, ⟨by simp [Fo.len], _, 1, rfl, .inr ⟨_, 0, rfl, hz, fun i hi => ?_⟩⟩, G.al2 _ _ _⟩
    obtain rfl : i = 0 := by simpa [Fo.len] using hi
    exact ⟨by simp [Fo.at_, go_sem], by simp [Fo.at_, go_sem], .slice ao x.kids.len cap, by simp [go_sem], hf.mono fun _ _ _ hs h => ⟨hs, bkeep (G.al2 _ _ _) h⟩⟩
def SymOK (N T : List ByteArray) (x : Xp) : Prop := ∀ (r : Nat) (vn vt : Value) (s : Sp) (q : Option Nat) (X : Nat → Prop) (df : Int) (va : Value) (w : World), MkS w r vn vt N T s q X df → XV w (fun k => k < r) va x → x.bad = 0 → x.sz ≤ 3000 →
  Calls Try.prog 66 #[.pointer (some ⟨r, 0, none⟩), va] w (OutM r vn vt N T q df (x.sy N T s).2 (op1 X) w fun v w' => w'.ownsRow w.heap.size 3 1 v (x.sy N T s).1.length (ints (x.sy N T s).1))
section
variable {w w' : World} {r : Nat} {vn vt : Value} {N T : List ByteArray} {s : Sp} {q : Option Nat} {X : Nat → Prop} {df : Int}
theorem wy_cls (h : MkS w r vn vt N T s q X df) : (∀ k, k < r → k ≠ r ∧ q ≠ some k) ∧ ∀ k, w.heap.size ≤ k → k ≠ r ∧ q ≠ some k := by
  have hsz := h.st.sz
  exact ⟨fun k hk => ⟨by omega, fun e => by have := (h.st.own k e).1; omega⟩, fun k hk => ⟨by omega, fun e => by have := (h.st.own k e).2; omega⟩⟩
theorem WyV.cells {f : Fo} {S : Nat → Prop} {ao : Option Addr} {n cap : Nat} (h : WyV w r S (.slice ao n cap) f) {k : Nat} (hk : k < f.len) : ∃ b o ak ck, ao = some ⟨b, o, none⟩ ∧ w.cell? ⟨b, o + k * 3, none⟩ = some (.int .i64 (f.at_ k).op) ∧ w.cell? ⟨b, o + k * 3 + 1, none⟩ = some (.string (f.at_ k).nm) ∧ w.cell? ⟨b, o + k * 3 + 2, none⟩ = some (.slice ak (f.at_ k).kids.len ck) ∧ FoV w (fun k => k < r) (.slice ak (f.at_ k).kids.len ck) (f.at_ k).kids := by
  obtain ⟨_, ao', cap', e, h3⟩ := h
  simp at e
  obtain ⟨rfl, rfl, rfl⟩ := e
  rcases h3 with h3 | ⟨b, o, rfl, _, h4⟩
  · omega
  · obtain ⟨a0, a1, u, a2, hu⟩ := h4 k hk
    have hu' := hu
    obtain ⟨_, ak, ck, rfl, _⟩ := hu'
    exact ⟨b, o, ak, ck, rfl, a0, a1, a2, hu⟩
set_option maxRecDepth 100000 in
set_option maxHeartbeats 8000000 in
theorem putAll_of {x : Xp} (hw : ∀ i, i < x.ways.len → SymOK N T (x.ways.at_ i)) (h : MkS w r vn vt N T s q X df) {va : Value} (hx : XV w (fun k => k < r) va x) (hb : x.bad = 0) (hs : x.sz ≤ 3000) (v : Int) :
    Calls Try.prog 45 #[.pointer (some ⟨r, 0, none⟩), .int .i64 v, va] w (OutM r vn vt N T q df (x.put N T v true false s) (fun _ => X) w fun u _ => u = .tuple #[]) := by
  have hxx := hx
  obtain ⟨u, rfl, hf⟩ := hxx
  obtain ⟨hl, ao, cap, rfl, _⟩ := hf
  obtain ⟨V, hV⟩ : ∃ V, V = w.alloc (.cells #[.int .i64 x.op, .string x.nm, .slice ao x.kids.len cap] 64) := ⟨_, rfl⟩
  have hVb : Below w.heap.size w V := by rw [hV]; exact G.al1 _ _
  have hV0 := h.lw hVb
  have cls := wy_cls hV0
  have WA := ways_any x _ V r (fun k => k ≠ r ∧ q ≠ some k) (hx.mono fun _ _ _ hs h => ⟨hs, bkeep hVb h⟩) cls.1 cls.2
  have hok := Xp.ways_ok hb hs
  have hR : ((x.ways.drp 0).go N T (.ways v true false) s).2 = x.put N T v true false s := by rw [Fo.drp_zero]; rfl
  generalize x.put N T v true false s = R at *
  generalize x.ways = F at *
  go_enter Try.func45, Try.ntmps45
  go_wp2_with fail
  rw [← hV]
  have HV := hd hV
  clear hV
  refine WA.mono ?_
  rintro e w1 ⟨v1, rfl, wy1, hb1⟩
  have b1 : Below w.heap.size w w1 := bthen hVb hb1
  have h1 := h.lw b1
  obtain ⟨hFl, aoF, capF, rfl, _⟩ := id wy1
  have HR := hd hR
  clear WA hR hV0 cls
  go_wp2_with fail
  go_loopw [11] (fun i wr => ∃ (k : Nat) (s1 : Sp) (q1 : Option Nat), k ≤ F.len ∧ i = .int .i64 k ∧ MkS wr r vn vt N T s1 q1 X df ∧ Hid (((F.drp k).go N T (.ways v true false) s1).2 = R) ∧ WyV wr r (fun k => k ≠ r ∧ q1 ≠ some k) (.slice aoF F.len capF) F ∧ Fm r q w wr ∧ Own w q q1) (fun i _ => F.len - (intOf i).toNat)
  case atStart => exact ⟨0, s, q, Nat.zero_le _, rfl, h1, HR, wy1, Fm.of_below b1, .inl rfl⟩
  case round =>
    obtain ⟨k, s1, q1, hk, rfl, hm, hE, wy, hfr, how⟩ := hrel
    clear HR
    by_cases hlt : k < F.len
    · obtain ⟨b, o, ak, ck, rfl, a0, a1, a2, hfk⟩ := wy.cells hlt
      have hz := hfr.size
      have IH := fun w' hb => hw k hlt r vn vt s1 q1 X df (.agg #[.int .i64 (F.at_ k).op, .string (F.at_ k).nm, .slice ak (F.at_ k).kids.len ck]) w' (hm.lw hb) ⟨_, rfl, hfk.mono fun _ _ _ hs h => ⟨hs, bkeep hb h⟩⟩ (hok k hlt).1 (hok k hlt).2
      have hE' := hE.out
      rw [Fo.ways_at hlt hm.nb] at hE'
      have hlen := Xp.sy_len (N := N) (T := T) (F.at_ k) s1
      have hl3 := (hok k hlt).2
      have hkl := hfk.1
      generalize (F.at_ k).sy N T s1 = y at *
      obtain ⟨L, s2⟩ := y
      generalize F.at_ k = xk at *
      simp only at IH hlen
      clear hE
      cases hs2 : s2.bad with
      | true =>
        rw [wayR_bad hs2, Fo.go_bad hs2] at hE'
        simp only at hE'
        subst hE'
        go_wp2_with fail
        refine (IH _ (G.al1 _ _)).mono ?_
        rintro e w2 h2
        obtain ⟨rfl, g1, g2, g3⟩ := (h2.no hs2).pre (hfr.thenB (G.al1 _ _)) how
        go_wp2_with fail
        exact ⟨rfl, OutM_no hs2 ⟨rfl, g1, g2, g3⟩⟩
      | false =>
        have HE := hd hE'
        clear hE'
        go_wp2_with fail
        refine (IH _ (G.al1 _ _)).mono ?_
        rintro e w2 h2
        obtain ⟨v2, q2, rfl, own2, hm2, hf2, ow2⟩ := h2.yes hs2
        have hf12 : Fm r q1 wr w2 := (Fm.of_below (q := q1) (G.al1 wr _)).trans hf2 (.inl rfl)
        have ow12 : Own wr q1 q2 := (Own.refl wr q1).trans ow2 (G.al1 wr _).size
        have wy2 := wy.fr hf12 (hm.st.low hf12) ow12
        have hL : L.length ≤ 9223372036854775807 := by omega
        have iv2 : IsV w2 G.All v2 L := IsV_owned own2 hL (fun _ _ => trivial)
        have hm2' : MkS w2 r vn vt N T s2 q2 X df := hm2.weak (fun _ h => .inl h)
        by_cases hn : 160 ≤ s2.rules.length ∨ 10 < L.length
        · have hR : R = s2.gone := by
            rw [← HE.out]
            unfold wayR wayP wayA
            simp only [if_true, Bool.false_eq_true, if_false]
            rw [rule_no hn, Fo.go_bad rfl]
          have PN := mput_no hm2' (v := v) iv2 hn
          clear HE own2 iv2 hm2 hm2'
          go_wp2_with fail
          refine PN.mono ?_
          rintro e w3 h3
          obtain ⟨rfl, g1, g2, g3⟩ := h3.pre (hfr.trans hf12 how) (how.trans ow12 hz)
          go_wp2_with fail
          exact ⟨rfl, OutM_no (by rw [hR]; rfl) ⟨rfl, g1, g2, g3⟩⟩
        · have PY := mput_yes hm2' (v := v) iv2 (fun h => hn (.inl h)) (fun h => hn (.inr h))
          have HE' : Hid (((F.drp (k + 1)).go N T (.ways v true false) (s2.rule v L)).2 = R) := HE
          have hlow := fun w3 (hf : Fm r q2 w2 w3) => hm2'.st.low hf
          clear HE own2 iv2 hm2 hm2'
          go_wp2_with fail
          refine PY.mono ?_
          rintro e w3 ⟨rfl, q3, hm3, hf3, ow3⟩
          have wy3 := wy2.fr hf3 (hlow _ hf3) ow3
          go_wp2_with fail
          go_roundw
          case rel => exact ⟨k + 1, _, q3, by omega, by go_num, hm3, HE', wy3, hfr.trans (hf12.trans hf3 ow12) how, (how.trans ow12 hz).trans ow3 (by have := hf12.size; omega)⟩
          case measure => simp [intOf]; omega
    · have hE' := hE.out
      rw [Fo.ways_end (by omega)] at hE'
      simp only at hE'
      subst hE'
      clear hE
      go_wp2_with fail
      go_end0
      exact OutM_yes rfl hm hfr how
end
end Go.Proofs.Ytcanphhmflbdmac

/- The document's way from definitions to a grammar: one rule more. -/
namespace Go.Proofs.Ytcanphhmflbdmac
open Go.RowKit G

/-- What is spread: the state, and whether there was too much. -/
structure SdS (w : World) (r : Nat) (vn vt : Value) (N T : List ByteArray) (s : Sp) (q : Option Nat) (X : Nat → Prop) : Prop where
  st : StB w r vn vt N T s q X
  c4 : w.cell? ⟨r, 4, none⟩ = some (.bool s.bad)
section
variable {w w' : World} {r : Nat} {vn vt : Value} {N T : List ByteArray} {s : Sp} {q : Option Nat} {X : Nat → Prop}
theorem SdS.lw (h : SdS w r vn vt N T s q X) (hb : Below w.heap.size w w') : SdS w' r vn vt N T s q X := ⟨h.st.lw hb, bkeep hb h.c4⟩
theorem SdS.weak {Y : Nat → Prop} (h : SdS w r vn vt N T s q X) (hY : ∀ k, Y k → X k) : SdS w r vn vt N T s q Y := ⟨h.st.weak hY, h.c4⟩
theorem SdS.grow {v v' : Value} (h : SdS w r vn vt N T s q (op1 X v)) (hg : w.grownBy w' v.ownBlock) (hat : v'.ownBlock = v.ownBlock ∨ v'.ownBlock = some w.heap.size) (hv' : ∀ k, v'.ownBlock = some k → k < w'.heap.size) : SdS w' r vn vt N T s q (op1 X v') := by
  refine ⟨h.st.grow hg hat hv', ?_⟩
  rw [World.cell?_of_block (w := w) (a := ⟨r, 4, none⟩) (hg.block r h.st.sz (fun e => by have := (h.st.xo r (.inr e.symm)).1; omega))]; exact h.c4
theorem SdS.open_ {v : Value} (h : SdS w r vn vt N T s q X) (hb : Below w.heap.size w w') (hv : ∀ k, v.ownBlock = some k → w.heap.size ≤ k ∧ k < w'.heap.size) : SdS w' r vn vt N T s q (op1 X v) := ⟨h.st.open_ hb hv, bkeep hb h.c4⟩
theorem SdS.gone (h : SdS w r vn vt N T s q X) : SdS (w.setCell ⟨r, 4, none⟩ (.bool true)) r vn vt N T s.gone q X := ⟨(h.st.setOther (Nat.le_refl 4) _).of_bad, World.cell?_setCell_same _ _ _ h.c4⟩
set_option maxRecDepth 100000 in
set_option maxHeartbeats 8000000 in
theorem rrule_any (h : SdS w r vn vt N T s q X) {v : Int} {u : Value} {l : List Int} (hu : IsV w (Rg1 r q X) u l) :
    Calls Try.prog 69 #[.pointer (some ⟨r, 0, none⟩), .int .i64 v, u] w fun e w' => e = .returned (.tuple #[]) ∧ ∃ q', SdS w' r vn vt N T (s.rule v l) q' X ∧ Fm r q w w' ∧ Own w q q' := by
  obtain ⟨i0, hi, iz0, iz1, iz2⟩ := info_parts Try.infoRule
  have H := h
  obtain ⟨vr, xs, c3, ho, hc, he⟩ := h.st.c3
  have hul := hu.1
  obtain ⟨ao, cap, rfl⟩ := hu.slice
  obtain ⟨aor, capr, rfl⟩ := owns_slice ho
  have c4 := h.c4
  have fz := h.st.fz
  have hrl := h.st.rl
  have hsz := h.st.sz
  have hOwn := h.st.own
  have HE := hd he
  clear h he
  by_cases h160 : 160 ≤ s.rules.length
  · have hb160 : (160 : Int) ≤ (s.rules.length : Int) := by omega
    rw [rule_no (.inl h160)]
    have G1 := H.gone
    go_enter Try.func69, Try.ntmps69
    go_wp2_with fail
    go_end0
    exact ⟨rfl, q, G1, (Fm.refl r q w).setCell (.inl rfl) _, .inl rfl⟩
  by_cases h10 : 10 < l.length
  · have n160 : ¬ ((160 : Int) ≤ (s.rules.length : Int)) := by omega
    have hb10 : (10 : Int) < (l.length : Int) := by omega
    rw [rule_no (.inr h10)]
    have G1 := H.gone
    go_enter Try.func69, Try.ntmps69
    go_wp2_with fail
    go_end0
    exact ⟨rfl, q, G1, (Fm.refl r q w).setCell (.inl rfl) _, .inl rfl⟩
  have n160 : ¬ ((160 : Int) ≤ (s.rules.length : Int)) := by omega
  have n10 : ¬ ((10 : Int) < (l.length : Int)) := by omega
  cases hb : s.bad with
  | true =>
    rw [rule_bad hb]
    rw [hb] at c4
    go_enter Try.func69, Try.ntmps69
    go_wp2_with fail
    go_end0
    exact ⟨rfl, q, H, Fm.refl r q w, .inl rfl⟩
  | false =>
    rw [rule_yes hb h160 h10]
    rw [hb] at c4
    obtain ⟨W, hW⟩ : ∃ W, W = w.alloc (.cells #[.int .i64 v, .slice ao l.length cap] 37) := ⟨_, rfl⟩
    have hWb : Below w.heap.size w W := by rw [hW]; exact G.al1 _ _
    have oW := G.owns_below ho hWb
    have hWz : W.heap.size = w.heap.size + 1 := by rw [hW]; simp
    have n6 : ∀ j u, [Value.int .i64 v, .slice ao l.length cap][j]? = some u → W.cell? ((⟨w.heap.size, 0, none⟩ : Addr).add j) = some u := by rw [hW]; exact cell2_new _ _ _ _ rfl
    rw [hW] at oW n6
    go_enter Try.func69, Try.ntmps69
    go_wp2_with (first | (at_builtin; go_must (refine wpList_append_own_at _ rfl _ _ 22 rfl (r + 1) 37 i0 (.agg #[.int .i64 0, .slice none 0 0]) 2 32 Try.underlying22 hi iz0 iz1 iz2 rfl (by decide) _ _ _ rfl oW ⟨w.heap.size, 0, none⟩ 1 1 [.int .i64 v, .slice ao l.length cap] rfl rfl n6 (oneRule _ _ _ _) (by unfold maxLen; omega) (by omega) (by simp; omega) ?_)))
    intro v7 w7 own7 grow7 _ hat7
    rw [← hW] at grow7
    have hat7' : v7.ownBlock = (Value.slice aor s.rules.length capr).ownBlock ∨ v7.ownBlock = some W.heap.size := by rw [hWz]; simpa using hat7
    obtain ⟨q', st', fr', ow'⟩ := H.st.put (v := v) (l := l) hWb c3 ho hc HE.out (hu.mono fun b o x hs hx => ⟨hs, bkeep hWb hx⟩) own7 grow7 hat7' (by omega)
    have nr : w7.heap[r]? = W.heap[r]? := grow7.block r (by omega) (fun e => by have := (hOwn r (HE.out ▸ e.symm)).1; omega)
    have m7 : ∀ i, w7.cell? ⟨r, i, none⟩ = w.cell? ⟨r, i, none⟩ := fun i => (World.cell?_of_block (a := ⟨r, i, none⟩) nr).trans (hWb.cell (p := ⟨r, i, none⟩) hsz)
    have p7 := (m7 3).trans c3
    have f7 : ∀ i, w7.frozen? ⟨r, i, none⟩ = false := fun i => ((World.frozen?_of_block (a := ⟨r, i, none⟩) nr).trans (hWb.frozen (p := ⟨r, i, none⟩) hsz)).trans (fz i)
    have H' : SdS (w7.setCell ⟨r, 3, none⟩ v7) r vn vt N T { s with rules := s.rules ++ [⟨v, l⟩] } q' X := ⟨st', by rw [World.cell?_setCell_other _ _ _ _ (by simp), m7]; exact H.c4⟩
    clear hW
    obtain ⟨ao7, cap7, rfl⟩ := owns_slice own7
    go_wp2_with fail
    go_end0
    exact ⟨rfl, q', H', fr', ow'⟩
end
end Go.Proofs.Ytcanphhmflbdmac

/- The document's way from definitions to a grammar: the rules of a nonterminal. -/
namespace Go.Proofs.Ytcanphhmflbdmac
open Go.RowKit G

def RSymOK (N T : List ByteArray) (x : Xp) : Prop := ∀ (r : Nat) (vn vt : Value) (s : Sp) (q : Option Nat) (X : Nat → Prop) (va : Value) (w : World), SdS w r vn vt N T s q X → XV w (fun k => k < r) va x → x.bad = 0 → x.sz ≤ 3000 →
  Calls Try.prog 68 #[.pointer (some ⟨r, 0, none⟩), va] w fun e w' => ∃ v q', e = .returned v ∧ w'.ownsRow w.heap.size 3 1 v (x.sy N T s).1.length (ints (x.sy N T s).1) ∧ SdS w' r vn vt N T (x.sy N T s).2 q' (op1 X v) ∧ Fm r q w w' ∧ Own w q q'
section
variable {w w' : World} {r : Nat} {vn vt : Value} {N T : List ByteArray} {s : Sp} {q : Option Nat} {X : Nat → Prop}
theorem swy_cls (h : SdS w r vn vt N T s q X) : (∀ k, k < r → k ≠ r ∧ q ≠ some k) ∧ ∀ k, w.heap.size ≤ k → k ≠ r ∧ q ≠ some k := by
  have hsz := h.st.sz
  exact ⟨fun k hk => ⟨by omega, fun e => by have := (h.st.own k e).1; omega⟩, fun k hk => ⟨by omega, fun e => by have := (h.st.own k e).2; omega⟩⟩
theorem IsV_open {v : Value} {l : List Int} {B : Nat} (h : SdS w r vn vt N T s q (op1 X v)) (own : w.ownsRow B 3 1 v l.length (ints l)) (hl : l.length ≤ 9223372036854775807) (hX : ∀ k, X k → k < B) : IsV w (Rg1 r q X) v l :=
  IsV_owned own hl fun k e => ⟨(h.st.xo k (.inr e)).1, (h.st.xo k (.inr e)).2.2, fun hx => by have := hX k hx; have := (own.lt k e).1; omega⟩
set_option maxRecDepth 100000 in
set_option maxHeartbeats 16000000 in
theorem rput_tf {x : Xp} (hw : ∀ i, i < x.ways.len → RSymOK N T (x.ways.at_ i)) (h : SdS w r vn vt N T s q X) {va : Value} (hx : XV w (fun k => k < r) va x) (hb : x.bad = 0) (hs : x.sz ≤ 3000) (v : Int) :
    Calls Try.prog 47 #[.pointer (some ⟨r, 0, none⟩), .int .i64 v, va, .bool true, .bool false] w fun e w' => e = .returned (.tuple #[]) ∧ ∃ q', SdS w' r vn vt N T (x.put N T v true false s) q' X ∧ Fm r q w w' ∧ Own w q q' := by
  obtain ⟨j0, hj, jz0, jz1, jz2⟩ := info_parts Try.infoInt
  obtain ⟨u, rfl, hf⟩ := hx
  have hf' := hf
  obtain ⟨hl, ao, cap, rfl, _⟩ := hf'
  have cls := swy_cls h
  obtain ⟨V, hV⟩ : ∃ V, V = (w.alloc (.cells #[.int .i64 x.op, .string x.nm, .slice ao x.kids.len cap] 64)).alloc (.cells #[.int .i64 x.op, .string x.nm, .slice ao x.kids.len cap] 64) := ⟨_, rfl⟩
  have hVb : Below w.heap.size w V := by rw [hV]; exact G.al2 _ _ _
  have hm0 := h.lw hVb
  have hok := Xp.ways_ok hb hs
  have hR : ((x.ways.drp 0).go N T (.ways v true false) s).2 = x.put N T v true false s := by rw [Fo.drp_zero]; rfl
  have hX : ∀ k, X k → k < w.heap.size := fun k hk => (h.st.xo k hk).2.1
  obtain ⟨vF, hvF⟩ : ∃ vF, vF = if x.op = 4 then Value.slice ao x.kids.len cap else .slice (some ⟨w.heap.size + 1, 0, none⟩) 1 1 := ⟨_, rfl⟩
  have wyV : WyV V r (fun k => k ≠ r ∧ q ≠ some k) vF x.ways := by
    rw [hvF]
    unfold Xp.ways
    by_cases h4 : x.op = 4
    · rw [if_pos h4, if_pos h4]
      exact WyV_fov (hf.mono fun _ _ _ hs h => ⟨hs, bkeep hVb h⟩) cls.1
    · rw [if_neg h4, if_neg h4]
      refine ⟨by simp [Fo.len], _, 1, rfl, .inr ⟨_, 0, rfl, cls.2 _ (Nat.le_succ _), fun i hi => ?_⟩⟩
      obtain rfl : i = 0 := by simpa [Fo.len] using hi
      exact ⟨by rw [hV]; simp [Fo.at_, go_sem], by rw [hV]; simp [Fo.at_, go_sem], .slice ao x.kids.len cap, by rw [hV]; simp [go_sem], hf.mono fun _ _ _ hs h => ⟨hs, bkeep hVb h⟩⟩
  generalize x.put N T v true false s = R at *
  go_enter Try.func47, Try.ntmps47
  go_upto_if 18 with fail
  rw [← hV]
  go_cut [10] from 14 (fun v10 wc => v10 = vF ∧ wc = V)
  case first =>
    have v0 : V.cell? ⟨w.heap.size, 2, none⟩ = some (.slice ao x.kids.len cap) := by rw [hV]; simp [go_sem]
    clear hV
    by_cases h4 : x.op = 4
    · rw [if_pos h4] at hvF
      have h4' : (x.op == 4) = true := by simpa using h4
      go_wp2_with fail
      go_meet
      exact ⟨hvF.symm, rfl⟩
    · rw [if_neg h4] at hvF
      have h4' : (x.op == 4) = false := by simpa using h4
      go_wp2_with fail
      go_meet
      exact ⟨hvF.symm, rfl⟩
  case rest =>
  obtain ⟨rfl, rfl⟩ := hcut
  have HV := hd hV
  have HR := hd hR
  clear hV hR hvF
  generalize x.ways = F at *
  obtain ⟨hFl, aoF, capF, rfl, _⟩ := id wyV
  go_wp2_with fail
  go_loopw [11] (fun i wr => ∃ (k : Nat) (s1 : Sp) (q1 : Option Nat), k ≤ F.len ∧ i = .int .i64 k ∧ SdS wr r vn vt N T s1 q1 X ∧ Hid (((F.drp k).go N T (.ways v true false) s1).2 = R) ∧ WyV wr r (fun k => k ≠ r ∧ q1 ≠ some k) (.slice aoF F.len capF) F ∧ Fm r q w wr ∧ Own w q q1) (fun i _ => F.len - (intOf i).toNat)
  case atStart => exact ⟨0, s, q, Nat.zero_le _, rfl, hm0, HR, wyV, Fm.of_below hVb, .inl rfl⟩
  case round =>
    obtain ⟨k, s1, q1, hk, rfl, hm, hE, wy, hfr, how⟩ := hrel
    clear HR
    have c4 := hm.c4
    have hE' := hE.out
    by_cases hlt : k < F.len
    · cases hsb : s1.bad with
      | true =>
        rw [hsb] at c4
        rw [Fo.go_bad hsb] at hE'
        simp only at hE'
        subst hE'
        clear hE
        go_wp2_with fail
        go_end0
        exact ⟨rfl, q1, hm, hfr, how⟩
      | false =>
      rw [hsb] at c4
      obtain ⟨b, o, ak, ck, rfl, a0, a1, a2, hfk⟩ := wy.cells hlt
      have hz := hfr.size
      have IH := hw k hlt r vn vt s1 q1 X (.agg #[.int .i64 (F.at_ k).op, .string (F.at_ k).nm, .slice ak (F.at_ k).kids.len ck]) wr hm ⟨_, rfl, hfk⟩ (hok k hlt).1 (hok k hlt).2
      rw [Fo.ways_at hlt hsb] at hE'
      have hlen := Xp.sy_len (N := N) (T := T) (F.at_ k) s1
      have hl3 := (hok k hlt).2
      have hkl := hfk.1
      generalize (F.at_ k).sy N T s1 = y at *
      obtain ⟨L, s2⟩ := y
      generalize F.at_ k = xk at *
      simp only at IH hlen
      clear hE
      have hL : L.length ≤ 3000 := by omega
      go_wp2_with fail
      refine IH.mono ?_
      rintro e w2 ⟨v2, q2, rfl, own2, hm2, hf2, ow2⟩
      have z2 := hf2.size
      have hxo := fun k (e : v2.ownBlock = some k) => hm2.st.xo k (.inr e)
      have hm2' : SdS w2 r vn vt N T s2 q2 X := hm2.weak (fun _ h => .inl h)
      have f02 : Fm r q w w2 := hfr.trans hf2 how
      have ow02 : Own w q q2 := how.trans ow2 hz
      have wy2 := wy.fr hf2 (hm.st.low hf2) ow2
      have RU := rrule_any hm2' (v := v) (IsV_open hm2 own2 (by omega) (fun k hk => by have := hX k hk; omega))
      have hlow := fun w3 (hf : Fm r q2 w2 w3) => hm2'.st.low hf
      obtain ⟨ao2, cap2, rfl⟩ := owns_slice own2
      clear hm2 hm2' IH
      go_wp2_with fail
      refine RU.mono ?_
      rintro e w3 ⟨rfl, q3, hm3, hf3, ow3⟩
      have wy3 := wy2.fr hf3 (hlow _ hf3) ow3
      have f03 : Fm r q w w3 := f02.trans hf3 ow02
      have ow03 : Own w q q3 := ow02.trans ow3 f02.size
      have HE : Hid (((F.drp (k + 1)).go N T (.ways v true false) (s2.rule v L)).2 = R) := hd hE'
      clear hE'
      go_wp2_with fail
      go_roundw
      case rel => exact ⟨k + 1, _, q3, by omega, by go_num, hm3, HE, wy3, f03, ow03⟩
      case measure => simp [intOf]; omega
    · rw [Fo.ways_end (by omega)] at hE'
      simp only at hE'
      subst hE'
      clear hE
      go_wp2_with fail
      go_end0
      exact ⟨rfl, q1, hm, hfr, how⟩
set_option maxRecDepth 100000 in
set_option maxHeartbeats 16000000 in
theorem rput_ft {x : Xp} (hw : ∀ i, i < x.ways.len → RSymOK N T (x.ways.at_ i)) (h : SdS w r vn vt N T s q X) {va : Value} (hx : XV w (fun k => k < r) va x) (hb : x.bad = 0) (hs : x.sz ≤ 3000) (v : Int) :
    Calls Try.prog 47 #[.pointer (some ⟨r, 0, none⟩), .int .i64 v, va, .bool false, .bool true] w fun e w' => e = .returned (.tuple #[]) ∧ ∃ q', SdS w' r vn vt N T (x.put N T v false true s) q' X ∧ Fm r q w w' ∧ Own w q q' := by
  obtain ⟨j0, hj, jz0, jz1, jz2⟩ := info_parts Try.infoInt
  obtain ⟨u, rfl, hf⟩ := hx
  have hf' := hf
  obtain ⟨hl, ao, cap, rfl, _⟩ := hf'
  have cls := swy_cls h
  obtain ⟨V, hV⟩ : ∃ V, V = (w.alloc (.cells #[.int .i64 x.op, .string x.nm, .slice ao x.kids.len cap] 64)).alloc (.cells #[.int .i64 x.op, .string x.nm, .slice ao x.kids.len cap] 64) := ⟨_, rfl⟩
  have hVb : Below w.heap.size w V := by rw [hV]; exact G.al2 _ _ _
  have hm0 := h.lw hVb
  have hok := Xp.ways_ok hb hs
  have hR : ((x.ways.drp 0).go N T (.ways v false true) s).2 = x.put N T v false true s := by rw [Fo.drp_zero]; rfl
  have hX : ∀ k, X k → k < w.heap.size := fun k hk => (h.st.xo k hk).2.1
  obtain ⟨vF, hvF⟩ : ∃ vF, vF = if x.op = 4 then Value.slice ao x.kids.len cap else .slice (some ⟨w.heap.size + 1, 0, none⟩) 1 1 := ⟨_, rfl⟩
  have wyV : WyV V r (fun k => k ≠ r ∧ q ≠ some k) vF x.ways := by
    rw [hvF]
    unfold Xp.ways
    by_cases h4 : x.op = 4
    · rw [if_pos h4, if_pos h4]
      exact WyV_fov (hf.mono fun _ _ _ hs h => ⟨hs, bkeep hVb h⟩) cls.1
    · rw [if_neg h4, if_neg h4]
      refine ⟨by simp [Fo.len], _, 1, rfl, .inr ⟨_, 0, rfl, cls.2 _ (Nat.le_succ _), fun i hi => ?_⟩⟩
      obtain rfl : i = 0 := by simpa [Fo.len] using hi
      exact ⟨by rw [hV]; simp [Fo.at_, go_sem], by rw [hV]; simp [Fo.at_, go_sem], .slice ao x.kids.len cap, by rw [hV]; simp [go_sem], hf.mono fun _ _ _ hs h => ⟨hs, bkeep hVb h⟩⟩
  generalize x.put N T v false true s = R at *
  go_enter Try.func47, Try.ntmps47
  go_upto_if 18 with fail
  rw [← hV]
  go_cut [10] from 14 (fun v10 wc => v10 = vF ∧ wc = V)
  case first =>
    have v0 : V.cell? ⟨w.heap.size, 2, none⟩ = some (.slice ao x.kids.len cap) := by rw [hV]; simp [go_sem]
    clear hV
    by_cases h4 : x.op = 4
    · rw [if_pos h4] at hvF
      have h4' : (x.op == 4) = true := by simpa using h4
      go_wp2_with fail
      go_meet
      exact ⟨hvF.symm, rfl⟩
    · rw [if_neg h4] at hvF
      have h4' : (x.op == 4) = false := by simpa using h4
      go_wp2_with fail
      go_meet
      exact ⟨hvF.symm, rfl⟩
  case rest =>
  obtain ⟨rfl, rfl⟩ := hcut
  have HV := hd hV
  have HR := hd hR
  clear hV hR hvF
  generalize x.ways = F at *
  obtain ⟨hFl, aoF, capF, rfl, _⟩ := id wyV
  go_wp2_with fail
  go_loopw [11] (fun i wr => ∃ (k : Nat) (s1 : Sp) (q1 : Option Nat), k ≤ F.len ∧ i = .int .i64 k ∧ SdS wr r vn vt N T s1 q1 X ∧ Hid (((F.drp k).go N T (.ways v false true) s1).2 = R) ∧ WyV wr r (fun k => k ≠ r ∧ q1 ≠ some k) (.slice aoF F.len capF) F ∧ Fm r q w wr ∧ Own w q q1) (fun i _ => F.len - (intOf i).toNat)
  case atStart => exact ⟨0, s, q, Nat.zero_le _, rfl, hm0, HR, wyV, Fm.of_below hVb, .inl rfl⟩
  case round =>
    obtain ⟨k, s1, q1, hk, rfl, hm, hE, wy, hfr, how⟩ := hrel
    clear HR
    have c4 := hm.c4
    have hE' := hE.out
    by_cases hlt : k < F.len
    · cases hsb : s1.bad with
      | true =>
        rw [hsb] at c4
        rw [Fo.go_bad hsb] at hE'
        simp only at hE'
        subst hE'
        clear hE
        go_wp2_with fail
        go_end0
        exact ⟨rfl, q1, hm, hfr, how⟩
      | false =>
      rw [hsb] at c4
      obtain ⟨b, o, ak, ck, rfl, a0, a1, a2, hfk⟩ := wy.cells hlt
      have hz := hfr.size
      have IH := hw k hlt r vn vt s1 q1 X (.agg #[.int .i64 (F.at_ k).op, .string (F.at_ k).nm, .slice ak (F.at_ k).kids.len ck]) wr hm ⟨_, rfl, hfk⟩ (hok k hlt).1 (hok k hlt).2
      rw [Fo.ways_at hlt hsb] at hE'
      have hlen := Xp.sy_len (N := N) (T := T) (F.at_ k) s1
      have hl3 := (hok k hlt).2
      have hkl := hfk.1
      generalize (F.at_ k).sy N T s1 = y at *
      obtain ⟨L, s2⟩ := y
      generalize F.at_ k = xk at *
      simp only at IH hlen
      clear hE
      have hL : L.length ≤ 3000 := by omega
      go_wp2_with fail
      refine IH.mono ?_
      rintro e w2 ⟨v2, q2, rfl, own2, hm2, hf2, ow2⟩
      have z2 := hf2.size
      have hxo := fun k (e : v2.ownBlock = some k) => hm2.st.xo k (.inr e)
      have hm2' : SdS w2 r vn vt N T s2 q2 X := hm2.weak (fun _ h => .inl h)
      have f02 : Fm r q w w2 := hfr.trans hf2 how
      have ow02 : Own w q q2 := how.trans ow2 hz
      have wy3 := wy.fr hf2 (hm.st.low hf2) ow2
      obtain ⟨ao2, cap2, rfl⟩ := owns_slice own2
      obtain ⟨w3, hw3⟩ : ∃ w3, w3 = w2 := ⟨_, rfl⟩
      obtain ⟨q3, hq3⟩ : ∃ q3, q3 = q2 := ⟨_, rfl⟩
      have hm3 : SdS w3 r vn vt N T s2 q3 X := by rw [hw3, hq3]; exact hm2'
      have own3 : w3.ownsRow wr.heap.size 3 1 (.slice ao2 L.length cap2) L.length (ints L) := by rw [hw3]; exact own2
      have f03 : Fm r q w w3 := by rw [hw3]; exact f02
      have ow03 : Own w q q3 := by rw [hq3]; exact ow02
      rw [← hw3, ← hq3] at wy3
      have HE : Hid (((F.drp (k + 1)).go N T (.ways v false true) (s2.rule v (L ++ [v]))).2 = R) := hd hE'
      rw [← hw3]
      clear hm2 hm2' IH hw3 hq3 hE'
      obtain ⟨s3, hs3⟩ : ∃ s3, s3 = s2 := ⟨_, rfl⟩
      rw [← hs3] at hm3 HE
      have iv3 : IsV w3 G.All (.slice ao2 L.length cap2) L := IsV_owned own3 (by omega) (fun _ _ => trivial)
      go_wp2_with (first | (at_builtin; go_must (refine wpList_append_ints _ rfl _ _ 33 rfl w3.heap.size 3 j0 Try.underlying33 hj jz0 jz1 jz2 _ _ _ rfl (World.ownsRow_nil _ _ _ _) G.All _ L rfl iv3 (by omega) (Nat.le_refl _) ?_)))
      intro v5 w5 own5 grow5 _
      have b5 : Below w3.heap.size w3 w5 := G.grown_below grow5
      have own5' : w5.ownsRow w3.heap.size 3 1 v5 L.length (ints L) := by simpa using own5
      obtain ⟨ao5, cap5, rfl⟩ := owns_slice own5'
      have z5 := b5.size
      clear own5
      go_wp2_with (first | (at_builtin; go_must (refine wpList_append_ints _ rfl _ _ 33 rfl w3.heap.size 3 j0 Try.underlying33 hj jz0 jz1 jz2 _ _ _ rfl (own5'.alloc _) G.All _ [v] rfl (IsV_one _ _ _) (by simp; omega) (by simp; omega) ?_)))
      intro v6 w6 own6 grow6 _
      have b6 : Below w3.heap.size w3 w6 := (bthen b5 (G.al1 w5 _)).grown grow6 (bthen b5 (G.al1 w5 _)).size (fun j hj => (own5'.lt j hj).1)
      have hm6 := hm3.lw b6
      have f06 : Fm r q w w6 := f03.thenB b6
      have iv6 : IsV w6 (Rg1 r q3 X) v6 (L ++ [v]) := IsV_owned (by rw [ints_app, List.length_append]; exact own6) (by simp; omega) fun k e => by
        have h1 := (own6.lt k e).1
        have h2 := hm3.st.sz
        exact ⟨by omega, fun e' => by have := (hm3.st.own k e').2; omega, fun hx => by have := (hm3.st.xo k hx).2.1; omega⟩
      have RA := rrule_any hm6 (v := v) iv6
      have wy6 := wy3.fr (Fm.of_below (q := q3) b6) (hm3.st.low (Fm.of_below b6)) (.inl rfl)
      have hlow6 := fun w7 (hf : Fm r q3 w6 w7) => hm6.st.low hf
      obtain ⟨ao6, cap6, rfl⟩ : ∃ ao6 cap6, v6 = .slice ao6 (L.length + 1) cap6 := owns_slice own6
      clear iv6 own6 hm6 iv3 own5'
      go_wp2_with fail
      refine RA.mono ?_
      rintro e w7 ⟨rfl, q7, hm7, hf7, ow7⟩
      have wy7 := wy6.fr hf7 (hlow6 _ hf7) ow7
      go_wp2_with fail
      go_roundw
      case rel => exact ⟨k + 1, _, q7, by omega, by go_num, hm7, HE, wy7, f06.trans hf7 ow03, ow03.trans ow7 f06.size⟩
      case measure => simp [intOf]; omega
    · rw [Fo.ways_end (by omega)] at hE'
      simp only at hE'
      subst hE'
      clear hE
      go_wp2_with fail
      go_end0
      exact ⟨rfl, q1, hm, hfr, how⟩
set_option maxRecDepth 100000 in
set_option maxHeartbeats 16000000 in
theorem rput_tt {x : Xp} (hw : ∀ i, i < x.ways.len → RSymOK N T (x.ways.at_ i)) (h : SdS w r vn vt N T s q X) {va : Value} (hx : XV w (fun k => k < r) va x) (hb : x.bad = 0) (hs : x.sz ≤ 3000) (v : Int) :
    Calls Try.prog 47 #[.pointer (some ⟨r, 0, none⟩), .int .i64 v, va, .bool true, .bool true] w fun e w' => e = .returned (.tuple #[]) ∧ ∃ q', SdS w' r vn vt N T (x.put N T v true true s) q' X ∧ Fm r q w w' ∧ Own w q q' := by
  obtain ⟨j0, hj, jz0, jz1, jz2⟩ := info_parts Try.infoInt
  obtain ⟨u, rfl, hf⟩ := hx
  have hf' := hf
  obtain ⟨hl, ao, cap, rfl, _⟩ := hf'
  have cls := swy_cls h
  obtain ⟨V, hV⟩ : ∃ V, V = (w.alloc (.cells #[.int .i64 x.op, .string x.nm, .slice ao x.kids.len cap] 64)).alloc (.cells #[.int .i64 x.op, .string x.nm, .slice ao x.kids.len cap] 64) := ⟨_, rfl⟩
  have hVb : Below w.heap.size w V := by rw [hV]; exact G.al2 _ _ _
  have hm0 := h.lw hVb
  have hok := Xp.ways_ok hb hs
  have hR : ((x.ways.drp 0).go N T (.ways v true true) s).2 = x.put N T v true true s := by rw [Fo.drp_zero]; rfl
  have hX : ∀ k, X k → k < w.heap.size := fun k hk => (h.st.xo k hk).2.1
  obtain ⟨vF, hvF⟩ : ∃ vF, vF = if x.op = 4 then Value.slice ao x.kids.len cap else .slice (some ⟨w.heap.size + 1, 0, none⟩) 1 1 := ⟨_, rfl⟩
  have wyV : WyV V r (fun k => k ≠ r ∧ q ≠ some k) vF x.ways := by
    rw [hvF]
    unfold Xp.ways
    by_cases h4 : x.op = 4
    · rw [if_pos h4, if_pos h4]
      exact WyV_fov (hf.mono fun _ _ _ hs h => ⟨hs, bkeep hVb h⟩) cls.1
    · rw [if_neg h4, if_neg h4]
      refine ⟨by simp [Fo.len], _, 1, rfl, .inr ⟨_, 0, rfl, cls.2 _ (Nat.le_succ _), fun i hi => ?_⟩⟩
      obtain rfl : i = 0 := by simpa [Fo.len] using hi
      exact ⟨by rw [hV]; simp [Fo.at_, go_sem], by rw [hV]; simp [Fo.at_, go_sem], .slice ao x.kids.len cap, by rw [hV]; simp [go_sem], hf.mono fun _ _ _ hs h => ⟨hs, bkeep hVb h⟩⟩
  generalize x.put N T v true true s = R at *
  go_enter Try.func47, Try.ntmps47
  go_upto_if 18 with fail
  rw [← hV]
  go_cut [10] from 14 (fun v10 wc => v10 = vF ∧ wc = V)
  case first =>
    have v0 : V.cell? ⟨w.heap.size, 2, none⟩ = some (.slice ao x.kids.len cap) := by rw [hV]; simp [go_sem]
    clear hV
    by_cases h4 : x.op = 4
    · rw [if_pos h4] at hvF
      have h4' : (x.op == 4) = true := by simpa using h4
      go_wp2_with fail
      go_meet
      exact ⟨hvF.symm, rfl⟩
    · rw [if_neg h4] at hvF
      have h4' : (x.op == 4) = false := by simpa using h4
      go_wp2_with fail
      go_meet
      exact ⟨hvF.symm, rfl⟩
  case rest =>
  obtain ⟨rfl, rfl⟩ := hcut
  have HV := hd hV
  have HR := hd hR
  clear hV hR hvF
  generalize x.ways = F at *
  obtain ⟨hFl, aoF, capF, rfl, _⟩ := id wyV
  go_wp2_with fail
  go_loopw [11] (fun i wr => ∃ (k : Nat) (s1 : Sp) (q1 : Option Nat), k ≤ F.len ∧ i = .int .i64 k ∧ SdS wr r vn vt N T s1 q1 X ∧ Hid (((F.drp k).go N T (.ways v true true) s1).2 = R) ∧ WyV wr r (fun k => k ≠ r ∧ q1 ≠ some k) (.slice aoF F.len capF) F ∧ Fm r q w wr ∧ Own w q q1) (fun i _ => F.len - (intOf i).toNat)
  case atStart => exact ⟨0, s, q, Nat.zero_le _, rfl, hm0, HR, wyV, Fm.of_below hVb, .inl rfl⟩
  case round =>
    obtain ⟨k, s1, q1, hk, rfl, hm, hE, wy, hfr, how⟩ := hrel
    clear HR
    have c4 := hm.c4
    have hE' := hE.out
    by_cases hlt : k < F.len
    · cases hsb : s1.bad with
      | true =>
        rw [hsb] at c4
        rw [Fo.go_bad hsb] at hE'
        simp only at hE'
        subst hE'
        clear hE
        go_wp2_with fail
        go_end0
        exact ⟨rfl, q1, hm, hfr, how⟩
      | false =>
      rw [hsb] at c4
      obtain ⟨b, o, ak, ck, rfl, a0, a1, a2, hfk⟩ := wy.cells hlt
      have hz := hfr.size
      have IH := hw k hlt r vn vt s1 q1 X (.agg #[.int .i64 (F.at_ k).op, .string (F.at_ k).nm, .slice ak (F.at_ k).kids.len ck]) wr hm ⟨_, rfl, hfk⟩ (hok k hlt).1 (hok k hlt).2
      rw [Fo.ways_at hlt hsb] at hE'
      have hlen := Xp.sy_len (N := N) (T := T) (F.at_ k) s1
      have hl3 := (hok k hlt).2
      have hkl := hfk.1
      generalize (F.at_ k).sy N T s1 = y at *
      obtain ⟨L, s2⟩ := y
      generalize F.at_ k = xk at *
      simp only at IH hlen
      clear hE
      have hL : L.length ≤ 3000 := by omega
      go_wp2_with fail
      refine IH.mono ?_
      rintro e w2 ⟨v2, q2, rfl, own2, hm2, hf2, ow2⟩
      have z2 := hf2.size
      have hxo := fun k (e : v2.ownBlock = some k) => hm2.st.xo k (.inr e)
      have hm2' : SdS w2 r vn vt N T s2 q2 X := hm2.weak (fun _ h => .inl h)
      have f02 : Fm r q w w2 := hfr.trans hf2 how
      have ow02 : Own w q q2 := how.trans ow2 hz
      have wy2 := wy.fr hf2 (hm.st.low hf2) ow2
      have RU := rrule_any hm2' (v := v) (IsV_open hm2 own2 (by omega) (fun k hk => by have := hX k hk; omega))
      have hlow := fun w3 (hf : Fm r q2 w2 w3) => hm2'.st.low hf
      obtain ⟨ao2, cap2, rfl⟩ := owns_slice own2
      clear hm2 hm2' IH
      go_wp2_with fail
      refine RU.mono ?_
      rintro e w3 ⟨rfl, q3, hm3, hf3, ow3⟩
      have wy3 := wy2.fr hf3 (hlow _ hf3) ow3
      have f03 : Fm r q w w3 := f02.trans hf3 ow02
      have ow03 : Own w q q3 := ow02.trans ow3 f02.size
      have own3 := owns_fr own2 hf3 (fun k e => ⟨by have := (hxo k e).1; omega, (hxo k e).2.2⟩)
      have HE : Hid (((F.drp (k + 1)).go N T (.ways v true true) ((s2.rule v L).rule v (L ++ [v]))).2 = R) := hd hE'
      clear hE'
      generalize s2.rule v L = s3 at *
      have iv3 : IsV w3 G.All (.slice ao2 L.length cap2) L := IsV_owned own3 (by omega) (fun _ _ => trivial)
      go_wp2_with (first | (at_builtin; go_must (refine wpList_append_ints _ rfl _ _ 33 rfl w3.heap.size 3 j0 Try.underlying33 hj jz0 jz1 jz2 _ _ _ rfl (World.ownsRow_nil _ _ _ _) G.All _ L rfl iv3 (by omega) (Nat.le_refl _) ?_)))
      intro v5 w5 own5 grow5 _
      have b5 : Below w3.heap.size w3 w5 := G.grown_below grow5
      have own5' : w5.ownsRow w3.heap.size 3 1 v5 L.length (ints L) := by simpa using own5
      obtain ⟨ao5, cap5, rfl⟩ := owns_slice own5'
      have z5 := b5.size
      clear own5
      go_wp2_with (first | (at_builtin; go_must (refine wpList_append_ints _ rfl _ _ 33 rfl w3.heap.size 3 j0 Try.underlying33 hj jz0 jz1 jz2 _ _ _ rfl (own5'.alloc _) G.All _ [v] rfl (IsV_one _ _ _) (by simp; omega) (by simp; omega) ?_)))
      intro v6 w6 own6 grow6 _
      have b6 : Below w3.heap.size w3 w6 := (bthen b5 (G.al1 w5 _)).grown grow6 (bthen b5 (G.al1 w5 _)).size (fun j hj => (own5'.lt j hj).1)
      have hm6 := hm3.lw b6
      have f06 : Fm r q w w6 := f03.thenB b6
      have iv6 : IsV w6 (Rg1 r q3 X) v6 (L ++ [v]) := IsV_owned (by rw [ints_app, List.length_append]; exact own6) (by simp; omega) fun k e => by
        have h1 := (own6.lt k e).1
        have h2 := hm3.st.sz
        exact ⟨by omega, fun e' => by have := (hm3.st.own k e').2; omega, fun hx => by have := (hm3.st.xo k hx).2.1; omega⟩
      have RA := rrule_any hm6 (v := v) iv6
      have wy6 := wy3.fr (Fm.of_below (q := q3) b6) (hm3.st.low (Fm.of_below b6)) (.inl rfl)
      have hlow6 := fun w7 (hf : Fm r q3 w6 w7) => hm6.st.low hf
      obtain ⟨ao6, cap6, rfl⟩ : ∃ ao6 cap6, v6 = .slice ao6 (L.length + 1) cap6 := owns_slice own6
      clear iv6 own6 hm6 iv3 own5'
      go_wp2_with fail
      refine RA.mono ?_
      rintro e w7 ⟨rfl, q7, hm7, hf7, ow7⟩
      have wy7 := wy6.fr hf7 (hlow6 _ hf7) ow7
      go_wp2_with fail
      go_roundw
      case rel => exact ⟨k + 1, _, q7, by omega, by go_num, hm7, HE, wy7, f06.trans hf7 ow03, ow03.trans ow7 f06.size⟩
      case measure => simp [intOf]; omega
    · rw [Fo.ways_end (by omega)] at hE'
      simp only at hE'
      subst hE'
      clear hE
      go_wp2_with fail
      go_end0
      exact ⟨rfl, q1, hm, hfr, how⟩
end
end Go.Proofs.Ytcanphhmflbdmac
