/- Texts laid together: Zw Ag Zx. -/
import Derived.Test.YtlhdppkllmnmkadL16
import Derived.Test.YtlhdppkllmnmkadL17
import Derived.Test.YtlhdppkllmnmkadL18
import Derived.Test.YtlhdppkllmnmkadL01
import Derived.Test.YtlhdppkllmnmkadL03
/- A new chart. -/
namespace Go.Proofs.Ytlhdppkllmnmkad.G
open Go.RowKit Go.Maps
/-- Numbers that lie in memory, behind a slice of one's own. -/
theorem wpList_ints {P : Program} (w : World) {ops : Array Oper} {rest : List Oper} {o : Oper} {a : Act} {Q : Exit → Act → World → Prop}
    (hg : o.guard = none) (s x : Operand) (t : TypeId) (hop : o.op = Op.call { callee := Callee.builtin Builtin.append, args := #[s, x], argTypes := #[t, t] })
    (base : Nat) (e : TypeId) (i : TypeInfo) (h1 : P.underlying t = some (.slice e)) (h2 : P.info? e = some i) (h3 : i.zero = some (.int .i64 0)) (h4 : i.size = 1) (h5 : i.bytes = 8)
    (v : Value) (n : Nat) (xs : List Value) (hs : a.eval s = v) (hown : w.ownsRow base e 1 v n xs)
    (S : Nat → Prop) (u : Value) (l : List Int) (hx : a.eval x = u) (hu : IsV w S u l) (b1 : n + l.length ≤ 1000000) (hbase : base ≤ w.heap.size)
    (hK : ∀ v' w', w'.ownsRow base e 1 v' (n + l.length) (xs ++ ints l) → w.grownBy w' v.ownBlock → (v'.ownBlock = v.ownBlock ∨ v'.ownBlock = some w.heap.size) → wpList P ops Q rest (a.put o.dst v') w') :
    wpList P ops Q (o :: rest) a w := by
  refine wpList_plain hg fun K' hK' => ?_
  obtain ⟨ao, cap, rfl⟩ := hu.slice
  cases ao with
  | some ad =>
    obtain ⟨v', w', hrun, r1, r2, _, r4⟩ := run_append_own_at (P := P) w base t o.type e i (.int .i64 0) 1 8 h1 h2 h3 h4 h5 rfl (by decide) v n xs hown ad l.length cap (ints l) (by rw [ints_len]; omega) hu.cells (oneInts l) (by unfold maxLen; omega) (by omega) hbase
    unfold Oper.wp
    simp [execOp, hop, resolve, invoke, builtin, hs, hx, hrun, Result.andThen]
    exact hK' _ _ (hK v' w' r1 r2 r4)
  | none =>
    obtain ⟨_, ao', cap', e', _, h0, hl⟩ := hu
    simp at e'
    obtain ⟨rfl, rfl⟩ := e'
    have hc := h0 rfl
    subst hc
    have hl0 : l = [] := by
      rcases hl with hl | ⟨b, o, e, _⟩
      · exact List.eq_nil_of_length_eq_zero hl
      · cases e
    subst hl0
    have hrun := run_append_owned_none (P := P) (w := w) base t o.type e i 1 h1 h2 v n xs hown
    have hx' : a.eval x = .slice none 0 0 := hx
    unfold Oper.wp
    simp [execOp, hop, resolve, invoke, builtin, hs, hx', hrun, Result.andThen]
    exact hK' _ _ (hK v w (by simpa [ints] using hown) ⟨rfl, rfl, rfl, Nat.le_refl _, fun _ _ _ => rfl⟩ (.inl rfl))
/-- How New ends. -/
def NewR (g : Gm) (W : List Int) (w : World) (e : Ending) (w' : World) : Prop :=
  Below w.heap.size w w' ∧ (((chFl g W).1 ≠ 0 ∧ e = .returned (.tuple #[.pointer none, .agg #[.int .i64 (chFl g W).1, .int .i64 (chFl g W).2]])) ∨
    ∃ cb tb rb V E vR vW, (chFl g W).1 = 0 ∧ (chFl g W).2 = 0 ∧ e = .returned (.tuple #[.pointer (some ⟨cb, 0, none⟩), .agg #[.int .i64 0, .int .i64 0]]) ∧ CkG g W V ∧ (∀ v : Int, hasB E v = true ↔ Nul g.rules v) ∧ ChS w' cb tb rb g W V E vR vW ∧ w.heap.size ≤ tb ∧ w.heap.size ≤ rb ∧ w.heap.size ≤ cb)
/-- A chart that is being made. -/
structure ChQ (B : Nat) (w : World) (cb tb rb : Nat) (g : Gm) (W : List Int) (V : Nat) (E : BitVec 64) (vR vW : Value) : Prop where
  c0 : w.cell? ⟨cb, 0, none⟩ = some (.int .i64 g.vars)
  c1 : w.cell? ⟨cb, 1, none⟩ = some (.int .i64 g.terms)
  c2 : w.cell? ⟨cb, 2, none⟩ = some (.int .i64 g.start)
  c3 : w.cell? ⟨cb, 3, none⟩ = some vR
  c4 : w.cell? ⟨cb, 4, none⟩ = some vW
  c5 : w.cell? ⟨cb, 5, none⟩ = some (.int .u64 (U E))
  c6 : w.cell? ⟨cb, 6, none⟩ = some (.map (some tb))
  c7 : w.cell? ⟨cb, 7, none⟩ = some (.map (some rb))
  r : RsV w (fun k => B ≤ k ∧ k ≠ cb) vR g.rules
  x : IsV w (fun k => B ≤ k ∧ k ≠ cb) vW W
  t : Memo Try.prog 127 3 w tb (GT g W V)
  o : Memo Try.prog 153 3 w rb (GR g W V)
  ne : tb ≠ rb ∧ tb ≠ cb ∧ rb ≠ cb ∧ B ≤ tb ∧ B ≤ rb ∧ B ≤ cb
  fz : ∀ i, w.frozen? ⟨cb, i, none⟩ = false
section
variable {B cb tb rb : Nat} {w : World} {g : Gm} {W : List Int} {V : Nat} {E E' : BitVec 64} {vR vW : Value}
theorem set_keep {p o : Nat} {u : Value} {S : Nat → Prop} (hS : ∀ k, S k → k ≠ p) : ∀ b i v, S b → w.cell? ⟨b, i, none⟩ = some v → S b ∧ (w.setCell ⟨p, o, none⟩ u).cell? ⟨b, i, none⟩ = some v := fun b i v hs hc =>
  ⟨hs, by rw [World.cell?_of_block (w := w) (a := ⟨b, i, none⟩) (Below.heap_setCell _ _ _ _ (hS b hs))]; exact hc⟩
theorem ChQ.setE (h : ChQ B w cb tb rb g W V E vR vW) : ChQ B (w.setCell ⟨cb, 5, none⟩ (.int .u64 (U E'))) cb tb rb g W V E' vR vW := by
  have hc : ∀ i v, i ≠ 5 → w.cell? ⟨cb, i, none⟩ = some v → (w.setCell ⟨cb, 5, none⟩ (.int .u64 (U E'))).cell? ⟨cb, i, none⟩ = some v := fun i v hi h => by
    rw [World.cell?_setCell_other _ _ _ _ (fun e => by injection e with e1 e2; omega)]; exact h
  exact ⟨hc _ _ (by omega) h.c0, hc _ _ (by omega) h.c1, hc _ _ (by omega) h.c2, hc _ _ (by omega) h.c3, hc _ _ (by omega) h.c4, World.cell?_setCell_same _ _ _ h.c5, hc _ _ (by omega) h.c6, hc _ _ (by omega) h.c7,
    h.r.mono (set_keep fun _ h => h.2), h.x.mono (set_keep fun _ h => h.2), h.t.of (Below.heap_setCell _ _ _ _ h.ne.2.1), h.o.of (Below.heap_setCell _ _ _ _ h.ne.2.2.1), h.ne, fun i => by simp [go_sem, h.fz i]⟩
theorem ChQ.done (h : ChQ B w cb tb rb g W V E vR vW) {p : Nat} {o : Nat} {u : Value} (hp : p < B) : ChQ B (w.setCell ⟨p, o, none⟩ u) cb tb rb g W V E vR vW := by
  obtain ⟨n1, n2, n3, n4, n5, n6⟩ := h.ne
  have hc : ∀ i v, w.cell? ⟨cb, i, none⟩ = some v → (w.setCell ⟨p, o, none⟩ u).cell? ⟨cb, i, none⟩ = some v := fun i v h => by
    rw [World.cell?_of_block (w := w) (a := ⟨cb, i, none⟩) (Below.heap_setCell _ _ _ _ (show cb ≠ p by omega))]; exact h
  exact ⟨hc _ _ h.c0, hc _ _ h.c1, hc _ _ h.c2, hc _ _ h.c3, hc _ _ h.c4, hc _ _ h.c5, hc _ _ h.c6, hc _ _ h.c7,
    h.r.mono (set_keep fun k h => by have := h.1; omega), h.x.mono (set_keep fun k h => by have := h.1; omega), h.t.of (Below.heap_setCell _ _ _ _ (show tb ≠ p by omega)), h.o.of (Below.heap_setCell _ _ _ _ (show rb ≠ p by omega)), h.ne, fun i => by simp [go_sem, h.fz i]⟩
theorem ChQ.lw {w' : World} (h : ChQ B w cb tb rb g W V E vR vW) (hb : Below w.heap.size w w') : ChQ B w' cb tb rb g W V E vR vW :=
  ⟨bkeep hb h.c0, bkeep hb h.c1, bkeep hb h.c2, bkeep hb h.c3, bkeep hb h.c4, bkeep hb h.c5, bkeep hb h.c6, bkeep hb h.c7, h.r.lw hb, h.x.lw hb, h.t.lw hb, h.o.lw hb, h.ne, fun i => (World.frozen?_of_block (a := ⟨cb, i, none⟩) (hb.block cb (lt_of_cell h.c0))).trans (h.fz i)⟩
theorem ChQ.toS (h : ChQ B w cb tb rb g W V E vR vW) : ChS w cb tb rb g W V E vR vW := ⟨h.c0, h.c1, h.c2, h.c3, h.c4, h.c5, h.c6, h.c7, h.r.all, h.x.all, h.t, h.o, h.ne.1⟩
end
theorem gfl_of {g : Gm} {W : List Int} (h : (chFl g W).1 = 0) : gFl g = (0, 0) := by
  unfold chFl at h
  split at h
  · rename_i h1; exact absurd h h1
  · rename_i h1; exact (rgt_of (by omega)).1
theorem with_take {s : BitVec 64} {l : List Int} {k : Nat} (hk : k < l.length) (h64 : 0 ≤ l[k] ∧ l[k] < 64) (h : ∀ x, hasB s x = true ↔ x ∈ l.take k) : ∀ x, hasB (withB s l[k]) x = true ↔ x ∈ l.take (k + 1) := fun x => by
  rw [has_with, h x, ← List.take_append_getElem hk, List.mem_append, List.mem_singleton]
  constructor
  · rintro (h | ⟨h, _⟩)
    · exact .inl h
    · exact .inr h
  · rintro (h | h)
    · exact .inl h
    · exact .inr ⟨h, h64⟩
set_option maxRecDepth 100000 in
set_option maxHeartbeats 4000000 in
theorem chnew_any (g : Gm) (W : List Int) (va vw : Value) (w : World) (hg : GV w All va g) (hw : IsV w All vw W) : Calls Try.prog 41 #[va, vw] w (NewR g W w) := by
  obtain ⟨i0, hi, iz0, iz1, iz2⟩ := info_parts Try.infoInt
  have hmm := @run_makeMap Try.prog
  have CK := fun w' (hb : Below w.heap.size w w') => ccheck_any g W va vw w' (hg.lw hb) (hw.lw hb)
  have OW := fun w' (hb : Below w.heap.size w w') hs => own_any g va w' (hg.lw hb) hs
  have NU := fun w' (hb : Below w.heap.size w w') => nullableF_any g va w' (hg.lw hb)
  have hckg := fun h => ckg_of (g := g) (W := W) h
  obtain ⟨D1, D2, hD⟩ : ∃ a b, chFl g W = (a, b) := ⟨_, _, rfl⟩
  unfold LstR at NU
  have hgf := fun h => gfl_of (g := g) (W := W) h
  have HNR : ∀ e w', Below w.heap.size w w' → ((D1 ≠ 0 ∧ e = .returned (.tuple #[.pointer none, .agg #[.int .i64 D1, .int .i64 D2]])) ∨
      ∃ cb tb rb V E vR vW, D1 = 0 ∧ D2 = 0 ∧ e = .returned (.tuple #[.pointer (some ⟨cb, 0, none⟩), .agg #[.int .i64 0, .int .i64 0]]) ∧ CkG g W V ∧ (∀ v : Int, hasB E v = true ↔ Nul g.rules v) ∧ ChS w' cb tb rb g W V E vR vW ∧ w.heap.size ≤ tb ∧ w.heap.size ≤ rb ∧ w.heap.size ≤ cb) → NewR g W w e w' := fun e w' h1 h2 => by
    unfold NewR; rw [hD]; exact ⟨h1, h2⟩
  rw [hD] at CK hckg hgf
  simp only at CK hckg hgf
  have HNR := hd HNR
  have HGF := hd hgf
  obtain ⟨ua, rfl, ra⟩ := hg
  obtain ⟨ao, cap, rfl⟩ := ra.slice
  have hw0 := hw
  obtain ⟨aw, cw, rfl⟩ := hw.slice
  obtain ⟨Z, hZ⟩ : ∃ Z, Z = (w.alloc (.cells #[.int .i64 g.vars, .int .i64 g.terms, .int .i64 g.start, .slice ao g.rules.length cap] 24)).alloc (.cells #[.int .i64 0, .int .i64 0] 33) := ⟨_, rfl⟩
  have hZb : Below w.heap.size w Z := by rw [hZ]; exact al2 _ _ _
  have x0 : Z.cell? ⟨w.heap.size, 0, none⟩ = some (.int .i64 g.vars) := by rw [hZ]; simp
  have x1 : Z.cell? ⟨w.heap.size, 1, none⟩ = some (.int .i64 g.terms) := by rw [hZ]; simp
  have x2 : Z.cell? ⟨w.heap.size, 2, none⟩ = some (.int .i64 g.start) := by rw [hZ]; simp
  have x3 : Z.cell? ⟨w.heap.size, 3, none⟩ = some (.slice ao g.rules.length cap) := by rw [hZ]; simp
  have hZr : RB Z (w.heap.size + 1) := by rw [hZ]; exact ⟨by simp, by simp, fun i => by simp [go_sem]⟩
  have CW := CK Z hZb
  have HCKG := hd hckg
  have HOW := hd OW
  have HNU := hd NU
  clear hckg CK OW NU hgf hD
  go_enter Try.func41, Try.ntmps41
  go_wp2_with fail
  rw [← hZ]
  have HZ := hd hZ
  clear hZ
  refine CW.mono ?_
  rintro e w1 ⟨rfl, hb1⟩
  obtain ⟨V1, hV1⟩ : ∃ V1, V1 = w1.alloc (.cells #[.int .i64 D1, .int .i64 D2] 33) := ⟨_, rfl⟩
  have hVb : Below w1.heap.size w1 V1 := by rw [hV1]; exact al1 _ _
  have bZ := bthen hb1 hVb
  have bV := bthen hZb bZ
  have tr := hZr.below hb1
  by_cases hc : D1 = 0
  rotate_left
  · have hcb : (D1 != 0) = true := by simpa using hc
    have HC := hd hc
    clear hc HCKG HOW HNU
    have y0 : V1.cell? ⟨w1.heap.size, 0, none⟩ = some (.int .i64 D1) := by rw [hV1]; simp
    have y1 : V1.cell? ⟨w1.heap.size, 1, none⟩ = some (.int .i64 D2) := by rw [hV1]; simp
    have tV := tr.below hVb
    go_wp2_with fail
    rw [← hV1]
    have HV1 := hd hV1
    clear hV1
    have q0 := tV.c0
    have q1 := tV.c1
    have qf := tV.fz
    have d0 : V1.drew.cell? ⟨w1.heap.size, 0, none⟩ = _ := y0
    have d1 : V1.drew.cell? ⟨w1.heap.size, 1, none⟩ = _ := y1
    go_region
    all_goals
      go_wp2_with fail
      refine bodyPost_ret (v := .tuple #[.pointer none, .agg #[.int .i64 D1, .int .i64 D2]]) (by simp [results, Try.results41, go_sem, q0, q1]) rfl ?_
      exact HNR.out _ _ (((bthen bV (drw1 _)).setCell (p := ⟨w.heap.size + 1, 0, none⟩) (Nat.le_succ _) _).setCell (p := ⟨w.heap.size + 1, 1, none⟩) (Nat.le_succ _) _) (.inl ⟨HC.out, rfl⟩)
  subst hc
  obtain ⟨hD2, V, hG⟩ := HCKG.out rfl
  obtain rfl : D2 = 0 := by simpa using hD2
  have hgf := HGF.out rfl
  rw [hgf] at HNU
  have hW12 := hG.wl
  have hsm := hG.small
  have p0 := alcell (bkeep hb1 x0) (.cells #[.int .i64 0, .int .i64 0] 33)
  have p1 := alcell (bkeep hb1 x1) (.cells #[.int .i64 0, .int .i64 0] 33)
  have p2 := alcell (bkeep hb1 x2) (.cells #[.int .i64 0, .int .i64 0] 33)
  have p3 := alcell (bkeep hb1 x3) (.cells #[.int .i64 0, .int .i64 0] 33)
  clear hD2 HCKG HGF hgf CW
  go_wp2_with fail
  rw [← hV1]
  have HV1 := hd hV1
  clear hV1
  refine (HOW.out V1 bV hsm).mono ?_
  rintro e w2 ⟨vo, rfl, ⟨u2, rfl, r2⟩, hb2⟩
  have b2 := bthen bV hb2
  obtain ⟨a2, c2, rfl⟩ := r2.slice
  go_wp2_with (first | (at_builtin; go_must (refine wpList_ints _ rfl _ _ 35 rfl w2.heap.size 3 i0 Try.underlying35 hi iz0 iz1 iz2 (.slice none 0 0) 0 [] rfl (World.ownsRow_nil _ _ _ _) All _ W rfl (hw0.lw b2) (by simp; omega) (Nat.le_refl _) ?_)))
  intro v3 w3 own3 grow3 _
  obtain ⟨a3, c3, rfl⟩ := owns_slice own3
  try simp only [Nat.zero_add, List.nil_append] at own3
  have hb3 : Below w2.heap.size w2 w3 := grown_below grow3
  obtain ⟨Y, hY⟩ : ∃ Y, Y = ((w3.alloc (.map #[] 0)).alloc (.map #[] 0)).alloc (.cells #[.int .i64 g.vars, .int .i64 g.terms, .int .i64 g.start, .slice a2 g.rules.length c2, .slice a3 W.length c3, .int .u64 0, .map (some w3.heap.size), .map (some (w3.heap.size + 1))] 114) := ⟨_, rfl⟩
  have hb4 : Below w3.heap.size w3 Y := by rw [hY]; exact (al2 w3 _ _).trans ((al1 _ _).mono (al2 w3 _ _).size)
  have b23 := bthen hb2 hb3
  have bY := bthen (bthen bV b23) hb4
  have z1 := bV.size
  have z2 := hb2.size
  have z3 := hb3.size
  have zV : w.heap.size + 2 ≤ V1.heap.size := by have := lt_of_cell (tr.below hVb).c0; omega
  have hq : ChQ (w.heap.size + 2) Y (w3.heap.size + 1 + 1) w3.heap.size (w3.heap.size + 1) g W V 0#64 (.slice a2 g.rules.length c2) (.slice a3 W.length c3) := by
    have kp : ∀ b o v, (fun k => V1.heap.size ≤ k) b → w2.cell? ⟨b, o, none⟩ = some v → (fun k => w.heap.size + 2 ≤ k ∧ k ≠ w3.heap.size + 1 + 1) b ∧ Y.cell? ⟨b, o, none⟩ = some v := fun b o v hs hc => ⟨⟨by have : V1.heap.size ≤ b := hs; omega, by have := lt_of_cell hc; omega⟩, bkeep (bthen hb3 hb4) hc⟩
    have i3 : IsV w3 (fun k => w2.heap.size ≤ k) (.slice a3 W.length c3) W := IsV_owned own3 (by omega) (fun k e => (own3.lt k e).1)
    have kx : ∀ b o v, (fun k => w2.heap.size ≤ k) b → w3.cell? ⟨b, o, none⟩ = some v → (fun k => w.heap.size + 2 ≤ k ∧ k ≠ w3.heap.size + 1 + 1) b ∧ Y.cell? ⟨b, o, none⟩ = some v := fun b o v hs hc => ⟨⟨by have : w2.heap.size ≤ b := hs; omega, by have := lt_of_cell hc; omega⟩, bkeep hb4 hc⟩
    have mt : Memo Try.prog 127 3 Y w3.heap.size (GT g W V) := by
      have m0 : Memo Try.prog 127 3 (w3.alloc (.map #[] 0)) w3.heap.size (GT g W V) := Memo.made w3
      rw [hY]; exact m0.lw (al2 _ _ _)
    have mo : Memo Try.prog 153 3 Y (w3.heap.size + 1) (GR g W V) := by
      have m0 : Memo Try.prog 153 3 ((w3.alloc (.map #[] 0)).alloc (.map #[] 0)) (w3.alloc (.map #[] 0)).heap.size (GR g W V) := Memo.made _
      rw [show (w3.alloc (.map #[] 0)).heap.size = w3.heap.size + 1 by simp] at m0
      rw [hY]; exact m0.lw (al1 _ _)
    refine ⟨by rw [hY]; simp [go_sem], by rw [hY]; simp [go_sem], by rw [hY]; simp [go_sem], by rw [hY]; simp [go_sem], by rw [hY]; simp [go_sem], by rw [hY]; simp [go_sem]; rfl, by rw [hY]; simp [go_sem], by rw [hY]; simp [go_sem], r2.mono kp, i3.mono kx, mt, mo, by omega, fun i => by rw [hY]; simp [go_sem]⟩
  have NU := HNU.out Y bY
  have bVY := bthen b23 hb4
  have s0 := bkeep (bthen bZ bVY) x0
  have s1 := bkeep (bthen bZ bVY) x1
  have s2 := bkeep (bthen bZ bVY) x2
  have s3 := bkeep (bthen bZ bVY) x3
  have tY := (tr.below hVb).below bVY
  have l0 := s0
  have l1 := s1
  have l2 := s2
  have l3 := s3
  rw [hY] at l0 l1 l2 l3
  clear HNU HOW own3 r2 p0 p1 p2 p3
  go_wp2_with fail
  rw [← hY]
  have HY := hd hY
  clear hY l0 l1 l2 l3
  refine NU.mono ?_
  rintro e w5 ⟨v5, l, rfl, own5, hl64, _, hl5, hb5⟩
  have HL := hd (hl5 trivial)
  obtain ⟨a5, c5, rfl⟩ := owns_slice own5
  obtain ⟨w6, hw6⟩ : ∃ w6, w6 = w5.alloc (.cells #[.int .i64 0, .int .i64 0] 33) := ⟨_, rfl⟩
  have hb6 : Below w5.heap.size w5 w6 := by rw [hw6]; exact al1 _ _
  have b56 := bthen hb5 hb6
  have hq6 := hq.lw b56
  have z4 := hb4.size
  have z5 := lt_of_cell hq.c0
  have i5 : IsV w6 (fun k => k ≠ w3.heap.size + 1 + 1) (.slice a5 l.length c5) l := (IsV_owned (S := fun k => k ≠ w3.heap.size + 1 + 1) own5 (by omega) (fun k e => by have := (own5.lt k e).1; omega)).lw hb6
  have t6 := tY.below b56
  have b6 := bthen bY b56
  clear hl5 own5 NU s0 s1 s2 s3
  go_wp2_with fail
  rw [← hw6]
  have HW6 := hd hw6
  clear hw6
  generalize w3.heap.size + 1 + 1 = cb at *
  go_loopw [34] (fun i wr => ∃ (k : Nat) (s : BitVec 64), k ≤ l.length ∧ i = .int .i64 k ∧ Hid (∀ x, hasB s x = true ↔ x ∈ l.take k) ∧ ChQ (w.heap.size + 2) wr cb w3.heap.size (w3.heap.size + 1) g W V s (.slice a2 g.rules.length c2) (.slice a3 W.length c3) ∧ But cb w6 wr) (fun i _ => l.length - (intOf i).toNat)
  case atStart => exact ⟨0, 0#64, Nat.zero_le _, rfl, hd (fun x => by rw [has_zero]; simp), hq6, But.refl _ _⟩
  case round =>
    obtain ⟨k, s, hk, rfl, hs, hQ, hbt⟩ := hrel
    have zw := hbt.size
    have i5' : IsV wr (fun k => k ≠ cb) (.slice a5 l.length c5) l := i5.mono (fun b o v hb hc => ⟨hb, (hbt.cell (lt_of_cell hc) hb).trans hc⟩)
    by_cases hlt : k < l.length
    · obtain ⟨b, o, rfl, c0⟩ := i5'.at_ hlt
      have hb64 : 0 ≤ l[k] ∧ l[k] < 64 := by
        obtain ⟨r, hr, _⟩ := HL.out
        have hm : l[k] ∈ listB r := hr ▸ List.getElem_mem hlt
        exact has_in (mem_listB.1 hm)
      have HS := hd (with_take hlt hb64 hs.out)
      have WA := with_any s l[k] wr
      have e5 := hQ.c5
      have f5 := hQ.fz 5
      clear hb64 hs
      generalize l[k] = x at *
      obtain ⟨S2, hS2⟩ : ∃ S2, S2 = withB s x := ⟨_, rfl⟩
      rw [← hS2] at WA HS
      clear hS2
      have hQ2 := hQ.setE (E' := S2)
      have hbt2 : But cb w6 (wr.setCell ⟨cb, 5, none⟩ (.int .u64 (U S2))) := hbt.setCell (.inl rfl) _
      generalize U s = us at *
      generalize U S2 = us2 at *
      go_wp2_with fail
      refine WA.mono ?_
      rintro e wx ⟨rfl, hwx⟩
      obtain rfl := hwx.symm
      go_wp2_with fail
      go_roundw
      case rel => exact ⟨k + 1, S2, by omega, by go_num, HS, hQ2, hbt2⟩
      case measure => simp [intOf]; omega
    · have he : l.take k = l := List.take_of_length_le (by omega)
      have hE : ∀ v : Int, hasB s v = true ↔ Nul g.rules v := fun v => by
        obtain ⟨r, hr, hr2⟩ := HL.out
        rw [hs.out v, he, hr, mem_listB, hr2]
      have hne : w.heap.size + 1 ≠ cb := by have := hQ.ne.2.2.2.2.2; omega
      have hlt6 := lt_of_cell t6.c0
      have q0 : wr.cell? ⟨w.heap.size + 1, 0, none⟩ = some (.int .i64 0) := (hbt.cell hlt6 hne).trans t6.c0
      have q1 : wr.cell? ⟨w.heap.size + 1, 1, none⟩ = some (.int .i64 0) := (hbt.cell hlt6 hne).trans t6.c1
      have qf : ∀ i, wr.frozen? ⟨w.heap.size + 1, i, none⟩ = false := fun i => (hbt.frozen hlt6 hne).trans (t6.fz i)
      have hbw : Below w.heap.size w wr := b6.trans (hbt.below (by have := hQ.ne.2.2.2.2.2; omega) b6.size)
      have HE := hd hE
      clear hE hs he HL
      go_wp2_with fail
      refine bodyPost_ret (v := .tuple #[.pointer (some ⟨cb, 0, none⟩), .agg #[.int .i64 0, .int .i64 0]]) (by simp [results, Try.results41, go_sem, q0, q1]) rfl ?_
      have hz1 : w.heap.size + 1 < w.heap.size + 2 := Nat.lt_succ_self _
      have hn := hQ.ne
      exact HNR.out _ _ ((hbw.setCell (p := ⟨w.heap.size + 1, 0, none⟩) (Nat.le_succ _) _).setCell (p := ⟨w.heap.size + 1, 1, none⟩) (Nat.le_succ _) _) (.inr ⟨cb, _, _, V, s, _, _, trivial, trivial, rfl, hG, HE.out, ((hQ.done hz1).done hz1).toS, by omega, by omega, by omega⟩)
end Go.Proofs.Ytlhdppkllmnmkad.G

/- A grammar that is written out. -/
namespace Go.Proofs.Ytlhdppkllmnmkad.G
open Go.RowKit
def gA : Gm := ⟨1, 2, 0, [⟨0, [0, -1]⟩, ⟨0, [-2]⟩]⟩
theorem RsV_lit2 {w : World} {S : Nat → Prop} {b : Nat} {r r' : Ru} {u u' : Value} (hS : S b) (c0 : w.cell? ⟨b, 0, none⟩ = some (.int .i64 r.left)) (c1 : w.cell? ⟨b, 1, none⟩ = some u) (hu : IsV w S u r.right)
    (c2 : w.cell? ⟨b, 2, none⟩ = some (.int .i64 r'.left)) (c3 : w.cell? ⟨b, 3, none⟩ = some u') (hu' : IsV w S u' r'.right) : RsV w S (.slice (some ⟨b, 0, none⟩) 2 2) [r, r'] :=
  ⟨by simp, _, _, rfl, Nat.le_refl _, (fun h => by cases h), .inr ⟨b, 0, rfl, hS, fun i hi => by
    match i, hi with
    | 0, _ => exact ⟨c0, u, c1, hu⟩
    | 1, _ => exact ⟨c2, u', c3, hu'⟩⟩⟩
theorem IsV_lits {w : World} {S : Nat → Prop} {b : Nat} {l : List Int} (hl : l.length ≤ 9223372036854775807) (hS : S b) (h : ∀ i (hi : i < l.length), w.cell? ⟨b, i, none⟩ = some (.int .i64 l[i])) : IsV w S (.slice (some ⟨b, 0, none⟩) l.length l.length) l :=
  ⟨hl, _, _, rfl, Nat.le_refl _, (fun h => by cases h), .inr ⟨b, 0, rfl, hS, fun i hi => by rw [Nat.zero_add]; exact h i hi⟩⟩
set_option maxRecDepth 100000 in
set_option maxHeartbeats 4000000 in
theorem again_any (w : World) : Calls Try.prog 52 #[] w fun e w' => ∃ v, e = .returned v ∧ GV w' All v gA ∧ Below w.heap.size w w' := by
  obtain ⟨V1, hV1⟩ : ∃ V1, V1 = w.alloc (.cells #[.int .i64 1, .int .i64 2, .int .i64 0, .slice (some ⟨w.heap.size + 1 + 1 + 1, 0, none⟩) 2 2] 24) := ⟨_, rfl⟩
  obtain ⟨V2, hV2⟩ : ∃ V2, V2 = V1.alloc (.cells #[.int .i64 0, .int .i64 (-1)] 3) := ⟨_, rfl⟩
  obtain ⟨V3, hV3⟩ : ∃ V3, V3 = V2.alloc (.cells #[.int .i64 (-2)] 3) := ⟨_, rfl⟩
  obtain ⟨W, hW⟩ : ∃ W, W = V3.alloc (.cells #[.int .i64 0, .slice (some ⟨w.heap.size + 1, 0, none⟩) 2 2, .int .i64 0, .slice (some ⟨w.heap.size + 1 + 1, 0, none⟩) 1 1] 77) := ⟨_, rfl⟩
  have z1 : V1.heap.size = w.heap.size + 1 := by rw [hV1]; simp
  have z2 : V2.heap.size = w.heap.size + 1 + 1 := by rw [hV2]; simp; omega
  have z3 : V3.heap.size = w.heap.size + 1 + 1 + 1 := by rw [hV3]; simp; omega
  have k1 : Below w.heap.size w V1 := by rw [hV1]; exact al1 _ _
  have k2 : Below V1.heap.size V1 V2 := by rw [hV2]; exact al1 _ _
  have k3 : Below V2.heap.size V2 V3 := by rw [hV3]; exact al1 _ _
  have k4 : Below V3.heap.size V3 W := by rw [hW]; exact al1 _ _
  have j3 := k4
  have j2 := bthen k3 j3
  have j1 := bthen k2 j2
  have j0 := bthen k1 j1
  have a0 : W.cell? ⟨w.heap.size, 0, none⟩ = some (.int .i64 1) := bkeep j1 (by rw [hV1]; simp)
  have a1 : W.cell? ⟨w.heap.size, 1, none⟩ = some (.int .i64 2) := bkeep j1 (by rw [hV1]; simp)
  have a2 : W.cell? ⟨w.heap.size, 2, none⟩ = some (.int .i64 0) := bkeep j1 (by rw [hV1]; simp)
  have a3 : W.cell? ⟨w.heap.size, 3, none⟩ = some (.slice (some ⟨w.heap.size + 1 + 1 + 1, 0, none⟩) 2 2) := bkeep j1 (by rw [hV1]; simp)
  have b0 : W.cell? ⟨w.heap.size + 1, 0, none⟩ = some (.int .i64 0) := by rw [← z1]; exact bkeep j2 (by rw [hV2]; simp)
  have b1 : W.cell? ⟨w.heap.size + 1, 1, none⟩ = some (.int .i64 (-1)) := by rw [← z1]; exact bkeep j2 (by rw [hV2]; simp)
  have c0 : W.cell? ⟨w.heap.size + 1 + 1, 0, none⟩ = some (.int .i64 (-2)) := by rw [← z2]; exact bkeep j3 (by rw [hV3]; simp)
  have d0 : W.cell? ⟨w.heap.size + 1 + 1 + 1, 0, none⟩ = some (.int .i64 0) := by rw [← z3, hW]; simp
  have d1 : W.cell? ⟨w.heap.size + 1 + 1 + 1, 1, none⟩ = some (.slice (some ⟨w.heap.size + 1, 0, none⟩) 2 2) := by rw [← z3, hW]; simp
  have d2 : W.cell? ⟨w.heap.size + 1 + 1 + 1, 2, none⟩ = some (.int .i64 0) := by rw [← z3, hW]; simp
  have d3 : W.cell? ⟨w.heap.size + 1 + 1 + 1, 3, none⟩ = some (.slice (some ⟨w.heap.size + 1 + 1, 0, none⟩) 1 1) := by rw [← z3, hW]; simp
  have ib : IsV W All (.slice (some ⟨w.heap.size + 1, 0, none⟩) 2 2) [0, -1] := IsV_lits (l := [0, -1]) (by simp) trivial fun i hi => by
    match i, hi with
    | 0, _ => exact b0
    | 1, _ => exact b1
  have ic : IsV W All (.slice (some ⟨w.heap.size + 1 + 1, 0, none⟩) 1 1) [-2] := IsV_lits (l := [-2]) (by simp) trivial fun i hi => by
    match i, hi with
    | 0, _ => exact c0
  have hr : RsV W All (.slice (some ⟨w.heap.size + 1 + 1 + 1, 0, none⟩) 2 2) [⟨0, [0, -1]⟩, ⟨0, [-2]⟩] := RsV_lit2 (r := ⟨0, [0, -1]⟩) (r' := ⟨0, [-2]⟩) trivial d0 d1 ib d2 d3 ic
  go_enter Try.func52, Try.ntmps52
  go_wp2_with fail
  rw [← hV1, ← hV2, ← hV3, ← hW]
  exact bodyPost_ret (v := .agg #[.int .i64 1, .int .i64 2, .int .i64 0, .slice (some ⟨w.heap.size + 1 + 1 + 1, 0, none⟩) 2 2]) (by simp [results, Try.results52, go_sem, a0, a1, a2, a3]) rfl ⟨_, rfl, ⟨_, rfl, hr⟩, j0⟩
end Go.Proofs.Ytlhdppkllmnmkad.G

/- What is begun, of charts. -/
namespace Go.Proofs.Ytlhdppkllmnmkad.G
open Go.RowKit Go.Maps
def wA : List Int := [1, 0, 0]
theorem gFl_gA : gFl gA = (0, 0) := by decide
theorem nul_gA (v : Int) (h : v < 0) : ¬ Nul gA.rules v := by
  intro hn
  have hl : ∀ u, Gen false gA.rules u → u = 0 := fun u hu => by
    cases hu with
    | mk r hr _ =>
      simp only [gA, List.mem_cons, List.not_mem_nil, or_false] at hr
      rcases hr with rfl | rfl <;> rfl
  have := hl v hn
  omega
theorem acy_gA : Acy gA.rules 1 := by
  intro v _ hL
  have step : ∀ a b, ¬ Lds false (Nul gA.rules) gA.rules a b := by
    rintro a b ⟨h0, r, hr, rfl, k, hk, h1, h2, h3⟩
    simp only [gA, List.mem_cons, List.not_mem_nil, or_false] at hr
    rcases hr with rfl | rfl
    · match k, hk with
      | 0, _ =>
        rcases h3 with h3 | h3
        · cases h3
        · exact nul_gA (-1) (by omega) (h3 (-1) (by simp))
      | 1, _ =>
        have : (-1 : Int) = b := h1
        omega
    · match k, hk with
      | 0, _ =>
        have : (-2 : Int) = b := h1
        omega
  cases hL with
  | one h => exact step _ _ h
  | more _ h => exact step _ _ h
theorem chFl_gA : chFl gA wA = (0, 0) := by
  unfold chFl
  rw [gFl_gA, if_neg (by simp), if_neg (by decide)]
  have : pB (Acy gA.rules gA.vars.toNat) = true := pB_iff.2 acy_gA
  rw [this]
  decide
theorem nN_gA : nN gA.rules wA 1 0 0 3 = 1 ∧ nN gA.rules wA 1 0 0 1 = 1 ∧ chN (nN gA.rules wA 1) wA [0, -1] 0 2 = 1 ∧ vlN (nN gA.rules wA 1) wA 0 0 1 * chN (nN gA.rules wA 1) wA [-1] 1 2 = 1 := by decide +kernel
theorem cA1 : ofZ gA wA 1 gA.start 0 ((wA.length : Nat) : Int) = 1 := by
  unfold ofZ; rw [if_neg (by decide)]
  show cM (nN gA.rules wA 1 0 0 3) = 1
  rw [nN_gA.1, cM_one]
theorem cA2 : ofZ gA wA 1 0 0 1 = 1 := by
  unfold ofZ; rw [if_neg (by decide)]
  show cM (nN gA.rules wA 1 0 0 1) = 1
  rw [nN_gA.2.1, cM_one]
theorem cA3 : ruZ gA wA 1 0 0 2 = 1 := by
  unfold ruZ; rw [if_neg (by decide)]
  show cM (chN (nN gA.rules wA 1) wA [0, -1] 0 2) = 1
  rw [nN_gA.2.2.1, cM_one]
theorem cA4 : splZ gA wA 1 0 0 0 1 2 = 1 := by
  unfold splZ; rw [if_neg (by decide)]
  show cM (vlN (nN gA.rules wA 1) wA 0 0 1 * chN (nN gA.rules wA 1) wA [-1] 1 2) = 1
  rw [nN_gA.2.2.2, cM_one]
set_option maxRecDepth 100000 in
set_option maxHeartbeats 4000000 in
theorem chartBegun_any (w : World) : Calls Try.prog 38 #[] w fun e w' => e = .returned (.bool true) ∧ Below w.heap.size w w' := by
  go_enter Try.func38, Try.ntmps38
  go_wp2_with fail
  refine (again_any _).mono ?_
  rintro e w1 ⟨va, rfl, hga, hb1⟩
  obtain ⟨Y, hY⟩ : ∃ Y, Y = w1.alloc (.cells #[.int .i64 1, .int .i64 0, .int .i64 0] 3) := ⟨_, rfl⟩
  have hYb : Below w1.heap.size w1 Y := by rw [hY]; exact al1 _ _
  have hwA : IsV Y All (.slice (some ⟨w1.heap.size, 0, none⟩) 3 3) wA := IsV_lits (l := wA) (by simp [wA]) trivial fun i hi => by
    match i, hi with
    | 0, _ => rw [hY]; simp [wA]
    | 1, _ => rw [hY]; simp [wA]
    | 2, _ => rw [hY]; simp [wA]
  have NW := chnew_any gA wA va _ Y (hga.lw hYb) hwA
  go_wp2_with fail
  rw [← hY]
  have HY := hd hY
  clear hY
  refine NW.mono ?_
  rintro e w2 ⟨hb2, hn⟩
  rw [chFl_gA] at hn
  rcases hn with ⟨h, _⟩ | ⟨cb, tb, rb, V, E, vR, vW, _, _, rfl, hG, hE, hs, h1, h2, h3⟩
  · exact absurd rfl h
  have hV : (1 : Int) = V := hG.rg.gv
  obtain rfl : V = 1 := by omega
  clear hV
  have hzY := hYb.size
  have hz1 := hb1.size
  obtain ⟨w3, hw3⟩ : ∃ w3, w3 = w2.alloc (.cells #[.int .i64 0, .int .i64 0] 33) := ⟨_, rfl⟩
  have hb3 : Below w2.heap.size w2 w3 := by rw [hw3]; exact al1 _ _
  have hs3 := hs.lw hb3
  have b3 : Below w.heap.size w w3 := bthen hb1 (bthen hYb (bthen hb2 hb3))
  have C1 := Count_any hG hE w3 hs3
  rw [cA1] at C1
  go_wp2_with fail
  rw [← hw3]
  have HW3 := hd hw3
  clear hw3
  refine C1.mono ?_
  rintro e w4 ⟨rfl, hs4, kt4⟩
  have C2 := Of_any hG hE 0 0 1 w4 hs4
  rw [cA2] at C2
  go_wp2_with fail
  refine C2.mono ?_
  rintro e w5 ⟨rfl, hs5, kt5⟩
  have C3 := Rule_any hG hE 0 0 2 w5 hs5
  rw [cA3] at C3
  go_wp2_with fail
  refine C3.mono ?_
  rintro e w6 ⟨rfl, hs6, kt6⟩
  have C4 := Split_any hG hE 0 0 0 1 2 w6 hs6
  rw [cA4] at C4
  go_wp2_with fail
  refine C4.mono ?_
  rintro e w7 ⟨rfl, hs7, kt7⟩
  have P1 := plus_in (a := 4611686018427387904) (b := 1) w7 (by omega) (by omega) (by omega) (by omega)
  have hp : smI 4611686018427387904 1 4611686018427387904 = 4611686018427387904 := by unfold smI; rw [if_pos (by omega)]
  rw [hp] at P1
  clear hp
  go_wp2_with fail
  refine P1.mono ?_
  rintro e wx ⟨rfl, hwx⟩
  obtain rfl := hwx.symm
  go_wp2_with fail
  go_ret
  exact ⟨rfl, b3.trans ((((kt4.trans kt5).trans kt6).trans kt7).below (by omega) (by omega) b3.size)⟩
end Go.Proofs.Ytlhdppkllmnmkad.G
