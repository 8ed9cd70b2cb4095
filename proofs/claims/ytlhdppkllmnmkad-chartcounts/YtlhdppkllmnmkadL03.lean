/- Texts laid together: Gk Gx Ta Ge Gq Gf. -/
import Derived.Test.YtlhdppkllmnmkadL02
import Derived.ChangeArms
import Derived.DataReads
import Derived.WideShapes
import Derived.OpenShut
/- What stays as it was; numbers behind a slice of one's own. -/
namespace Go.Proofs.Ytlhdppkllmnmkad.G
open Go.RowKit
theorem Try.infoRule : (Try.prog.info? 77).map (fun i => (i.zero, i.size, i.bytes)) = some (some (.agg #[.int .i64 0, .slice none 0 0]), 2, 32) := by kernel_rfl
/-- All blocks but one are as they were. -/
structure But (r : Nat) (w w' : World) : Prop where
  os : w'.os = w.os
  tape : w'.tape = w.tape
  output : w'.output = w.output
  size : w.heap.size ≤ w'.heap.size
  block : ∀ k, k < w.heap.size → k ≠ r → w'.heap[k]? = w.heap[k]?
theorem But.refl (r : Nat) (w : World) : But r w w := ⟨rfl, rfl, rfl, Nat.le_refl _, fun _ _ _ => rfl⟩
theorem But.trans {r : Nat} {a b c : World} (h : But r a b) (k : But r b c) : But r a c :=
  ⟨k.os.trans h.os, k.tape.trans h.tape, k.output.trans h.output, Nat.le_trans h.size k.size, fun i hi hr => (k.block i (Nat.lt_of_lt_of_le hi h.size) hr).trans (h.block i hi hr)⟩
theorem But.of_below {r : Nat} {w w' : World} (h : Below w.heap.size w w') : But r w w' := ⟨h.os, h.tape, h.output, h.size, fun k hk _ => h.block k hk⟩
theorem But.below {r B : Nat} {w w' : World} (h : But r w w') (hr : B ≤ r) (hB : B ≤ w.heap.size) : Below B w w' := ⟨h.os, h.tape, h.output, h.size, fun k hk => h.block k (by omega) (by omega)⟩
theorem But.setCell {r : Nat} {a w : World} (h : But r a w) {p : Addr} (hp : p.block = r ∨ a.heap.size ≤ p.block) (u : Value) : But r a (w.setCell p u) :=
  ⟨h.os, h.tape, h.output, by simpa [World.setCell] using h.size, fun k hk hr => by rw [Below.heap_setCell _ _ _ _ (by omega)]; exact h.block k hk hr⟩
theorem But.grown {r : Nat} {a w w' : World} {row : Option Nat} (h : But r a w) (hg : w.grownBy w' row) (hr : ∀ k, row = some k → a.heap.size ≤ k) : But r a w' :=
  ⟨hg.os.trans h.os, hg.tape.trans h.tape, hg.output.trans h.output, Nat.le_trans h.size hg.size, fun k hk hk' => by rw [hg.block k (Nat.lt_of_lt_of_le hk h.size) (fun e => by have := hr k e.symm; omega)]; exact h.block k hk hk'⟩
theorem But.cell {r : Nat} {w w' : World} (h : But r w w') {b o : Nat} (hb : b < w.heap.size) (hr : b ≠ r) : w'.cell? ⟨b, o, none⟩ = w.cell? ⟨b, o, none⟩ :=
  World.cell?_of_block (w := w) (a := ⟨b, o, none⟩) (h.block b hb hr)
theorem But.frozen {r : Nat} {w w' : World} (h : But r w w') {b o : Nat} (hb : b < w.heap.size) (hr : b ≠ r) : w'.frozen? ⟨b, o, none⟩ = w.frozen? ⟨b, o, none⟩ :=
  World.frozen?_of_block (w := w) (a := ⟨b, o, none⟩) (h.block b hb hr)
/-- All blocks of a class are as they were. -/
structure Kp (S : Nat → Prop) (w w' : World) : Prop where
  size : w.heap.size ≤ w'.heap.size
  block : ∀ k, k < w.heap.size → S k → w'.heap[k]? = w.heap[k]?
theorem Kp.refl (S : Nat → Prop) (w : World) : Kp S w w := ⟨Nat.le_refl _, fun _ _ _ => rfl⟩
theorem Kp.trans {S : Nat → Prop} {a b c : World} (h : Kp S a b) (k : Kp S b c) : Kp S a c := ⟨Nat.le_trans h.size k.size, fun i hi hs => (k.block i (Nat.lt_of_lt_of_le hi h.size) hs).trans (h.block i hi hs)⟩
theorem Kp.of_below {S : Nat → Prop} {a b : World} (h : Below a.heap.size a b) : Kp S a b := ⟨h.size, fun k hk _ => h.block k hk⟩
theorem Kp.alloc {S : Nat → Prop} {a w : World} (h : Kp S a w) (o : Obj) : Kp S a (w.alloc o) := h.trans (Kp.of_below (al1 _ _))
theorem Kp.setCell {S : Nat → Prop} {a w : World} (h : Kp S a w) {p : Addr} (hp : ¬ S p.block ∨ a.heap.size ≤ p.block) (u : Value) : Kp S a (w.setCell p u) :=
  ⟨by simpa [World.setCell] using h.size, fun k hk hs => by rw [Below.heap_setCell _ _ _ _ (fun e => by subst e; rcases hp with hp | hp; exact hp hs; omega)]; exact h.block k hk hs⟩
theorem Kp.grown {S : Nat → Prop} {a w w' : World} {row : Option Nat} (h : Kp S a w) (hg : w.grownBy w' row) (hr : ∀ k, row = some k → ¬ S k ∨ a.heap.size ≤ k) : Kp S a w' :=
  ⟨Nat.le_trans h.size hg.size, fun k hk hs => by rw [hg.block k (Nat.lt_of_lt_of_le hk h.size) (fun e => by rcases hr k e.symm with hp | hp; exact hp hs; omega)]; exact h.block k hk hs⟩
theorem IsV.kp {w w' : World} {S T : Nat → Prop} {v : Value} {x : List Int} (h : IsV w S v x) (hk : Kp S w w') (hT : ∀ k, k < w.heap.size → S k → T k) : IsV w' T v x := h.mono (keep_cell hT hk.block)
theorem RsV.kp {w w' : World} {S T : Nat → Prop} {v : Value} {x : List Ru} (h : RsV w S v x) (hk : Kp S w w') (hT : ∀ k, k < w.heap.size → S k → T k) : RsV w' T v x := h.mono (keep_cell hT hk.block)
theorem RC.kp {w w' : World} {S T : Nat → Prop} {v : List Value} {x : List Ru} (h : RC w S v x) (hk : Kp S w w') (hT : ∀ k, k < w.heap.size → S k → T k) : RC w' T v x := h.mono (keep_cell hT hk.block)
theorem grown_below {w w' : World} (h : w.grownBy w' none) : Below w.heap.size w w' := ⟨h.os, h.tape, h.output, h.size, fun k hk => h.block k hk (by simp)⟩
/-- One step of a region that draws its order: numbers that lie in memory, behind a slice of one's own. -/
theorem step_ints {P : Program} {ops : Array Oper} {o : Oper} {a : Act} {w : World} {K : Act → World → Prop} {Q : Exit → Act → World → Prop} {E : Prop}
    (hg : o.guard = none) (s x : Operand) (t : TypeId) (hop : o.op = Op.call { callee := Callee.builtin Builtin.append, args := #[s, x], argTypes := #[t, t] })
    (base : Nat) (e : TypeId) (i : TypeInfo) (h1 : P.underlying t = some (.slice e)) (h2 : P.info? e = some i) (h3 : i.zero = some (.int .i64 0)) (h4 : i.size = 1) (h5 : i.bytes = 8)
    (v : Value) (n : Nat) (xs : List Value) (hs : a.eval s = v) (hown : w.ownsRow base e 1 v n xs)
    (S : Nat → Prop) (u : Value) (l : List Int) (hx : a.eval x = u) (hu : IsV w S u l) (b1 : n + l.length ≤ 1000000) (hbase : base ≤ w.heap.size)
    (hK : ∀ v' w', w'.ownsRow base e 1 v' (n + l.length) (xs ++ ints l) → w.grownBy w' v.ownBlock → (v'.ownBlock = v.ownBlock ∨ v'.ownBlock = some w.heap.size) → K (a.put o.dst v') w') :
    if Region.wanted o (yielded ops a.tmps) = true then Oper.wp P o a w K Q else E := by
  obtain ⟨ao, cap, rfl⟩ := hu.slice
  cases ao with
  | some ad => exact step_own hg s x t hop base e i (.int .i64 0) 1 8 h1 h2 h3 h4 h5 rfl (by decide) v n xs hs hown ad l.length cap (ints l) hx (by rw [ints_len]; omega) hu.cells (oneInts l) (by unfold maxLen; omega) (by omega) hbase hK
  | none =>
    obtain ⟨_, ao', cap', e', _, h0, hl⟩ := hu
    simp at e'
    obtain ⟨rfl, rfl⟩ := e'
    have hc := h0 rfl
    subst hc
    have hl0 : l = [] := by
      rcases hl with hl | ⟨b, o, e, _⟩
      · exact List.eq_nil_of_length_eq_zero hl
      · cases e
    subst hl0
    have hw : Region.wanted o (yielded ops a.tmps) = true := by simp [Region.wanted, hg]
    rw [if_pos hw]
    have hrun := run_append_owned_none (P := P) (w := w) base t o.type e i 1 h1 h2 v n xs hown
    have hx' : a.eval x = .slice none 0 0 := hx
    unfold Oper.wp
    simp [execOp, hop, resolve, invoke, builtin, hs, hx', hrun, Result.andThen]
    exact hK v w (by simpa [ints] using hown) ⟨rfl, rfl, rfl, Nat.le_refl _, fun _ _ _ => rfl⟩ (.inl rfl)
/-- One rule more at the end of a row that the call owns. -/
theorem RC_step {wr w1 w3 : World} {base g : Nat} {v v' : Value} {xs : List Value} {acc : List Ru} {x : Ru} {u : Value}
    (hc : RC wr (fun q => base ≤ q ∧ v.ownBlock ≠ some q) xs acc) (hu : IsV w1 (fun k => wr.heap.size ≤ k) u x.right) (hbase : base ≤ wr.heap.size) (hz : w1.heap.size ≤ g)
    (k1 : Kp (fun q => base ≤ q ∧ v.ownBlock ≠ some q) wr w3) (k2 : Kp (fun k => wr.heap.size ≤ k) w1 w3) (hv : ∀ q, v.ownBlock = some q → q < wr.heap.size) (hzz : wr.heap.size ≤ w1.heap.size)
    (hat : v'.ownBlock = v.ownBlock ∨ v'.ownBlock = some g) : RC w3 (fun q => base ≤ q ∧ v'.ownBlock ≠ some q) (xs ++ [.int .i64 x.left, u]) (acc ++ [x]) := by
  refine RC.snoc ?_ ?_
  · refine hu.kp k2 fun q hq hs => ⟨by omega, fun e => ?_⟩
    rcases hat with h | h
    · have := hv q (h ▸ e); omega
    · rw [h] at e; cases e; omega
  · refine hc.kp k1 fun q hq hs => ⟨hs.1, fun e => ?_⟩
    rcases hat with h | h
    · exact hs.2 (h ▸ e)
    · rw [h] at e; cases e; omega
theorem oneRule (a : Int) (ao : Option Addr) (n c : Nat) : ∀ u ∈ [Value.int .i64 a, Value.slice ao n c], u.oneCell' = true := by
  intro u hu; simp at hu; rcases hu with rfl | rfl <;> rfl
theorem cell2_new (w : World) (v0 v1 : Value) (t : TypeId) {n : Nat} (hn : n = w.heap.size) : ∀ j u, [v0, v1][j]? = some u → (w.alloc (.cells #[v0, v1] t)).cell? ((⟨n, 0, none⟩ : Addr).add j) = some u := by
  subst hn
  intro j u hj
  match j, hj with
  | 0, hj => simp at hj; subst hj; simp [Addr.add]
  | 1, hj => simp at hj; subst hj; simp [Addr.add]
  | n + 2, hj => simp at hj
theorem set2_take {xs : List Value} {k : Nat} {a b : Value} (h : k * 2 + 1 < xs.length) : ((xs.set (k * 2) a).set (k * 2 + 1) b).take ((k + 1) * 2) = xs.take (k * 2) ++ [a, b] := by
  apply List.ext_getElem?
  intro i
  rw [show (k + 1) * 2 = k * 2 + 2 by omega]
  rw [List.getElem?_take, List.getElem?_append, List.length_take]
  by_cases h1 : i < k * 2
  · rw [if_pos (by omega), if_pos (by omega), List.getElem?_take, if_pos h1, List.getElem?_set_ne (by omega), List.getElem?_set_ne (by omega)]
  · rw [if_neg (show ¬ i < min (k * 2) xs.length by omega), show min (k * 2) xs.length = k * 2 by omega]
    by_cases h2 : i = k * 2
    · subst h2
      rw [if_pos (by omega), List.getElem?_set_ne (by omega), List.getElem?_set_self (by omega)]
      simp
    · by_cases h3 : i = k * 2 + 1
      · subst h3
        rw [if_pos (by omega), List.getElem?_set_self (by simp; omega)]
        simp [show k * 2 + 1 - k * 2 = 1 by omega]
      · rw [if_neg (by omega)]
        rw [List.getElem?_eq_none]
        simp; omega
end Go.Proofs.Ytlhdppkllmnmkad.G

/- A grammar that comes in: what its reading says of its cells. -/
namespace Go.Proofs.Ytlhdppkllmnmkad.G
open Go.RowKit Go.WideShapes
theorem pick_lt {α : Type} [Inhabited α] {n : Nat} {p : Nat → α → Prop} (h : ∀ i, i < n → ∃ x, p i x) : ∃ f : Nat → α, ∀ i, i < n → p i (f i) := by
  classical
  refine ⟨fun i => if hi : i < n then Classical.choose (h i hi) else default, fun i hi => ?_⟩
  simp only [dif_pos hi]
  exact Classical.choose_spec (h i hi)
section
variable {H : Type} {enc : TypeId × Value → H} {w : World} {base : Nat} {spare : Nat → Bool} {held : Bool}
theorem cellsInt : Try.prog.cellsOf 3 = 1 := by kernel_rfl
theorem cellsInts : Try.prog.cellsOf 35 = 1 := by kernel_rfl
theorem cellsRule : Try.prog.cellsOf 77 = 2 := by kernel_rfl
theorem cellsRules : Try.prog.cellsOf 22 = 1 := by kernel_rfl
theorem cellsGram : Try.prog.cellsOf 24 = 4 := by kernel_rfl
/-- An address of a cell that is there. -/
theorem plain_addr {a : Addr} {v : Value} (h : w.cell? (a.add 0) = some v) : ∃ b o, a = ⟨b, o, none⟩ := by
  obtain ⟨b, o, s⟩ := a
  have hs : s = none := by simpa [Addr.add] using World.cell?_spot h
  exact ⟨b, o, by rw [hs]⟩
set_option maxRecDepth 100000 in
theorem open_ints {fuel : Nat} {u : Value} {x : DataW H × List MemPlace} (h : DataW.trod enc Try.prog w base spare held fuel 35 [u] = some x) : ∃ l : List Int, IsV w All u l := by
  rcases DataW.trod_slice Try.underlying35 h with ⟨e2, _⟩ | ⟨ad, len, cap, elems, rest, m, rfl, e2, _, hb, hlc, hcm, hel, hall, _, _⟩
  · have e3 : u = .slice none 0 0 := by simpa using e2
    subst e3
    exact ⟨[], IsV_nil _ _⟩
  · have e3 : u = .slice (some ad) len cap := by simpa using e2
    subst e3
    rw [cellsInt] at hall
    have one : ∀ i, i < len → ∃ y : Int, w.cell? (ad.add (i * 1)) = some (.int .i64 y) := by
      intro i hi
      have h1 := hall i hi
      rw [List.getElem?_eq_getElem (by omega)] at h1
      obtain ⟨cs', h2, h3⟩ := Option.bind_eq_some_iff.1 h1
      obtain ⟨y, e0, _, _⟩ := DataW.trod_int Try.underlying3 h3
      obtain ⟨_, _, hc⟩ := World.cells?_some h2
      have c0 := hc 0 (by omega)
      subst e0
      refine ⟨y, ?_⟩
      have : (ad.add (i * 1)).add 0 = ad.add (i * 1) := by unfold Addr.add; simp
      rw [← this]; exact c0
    obtain ⟨f, hff⟩ := pick_lt one
    have hmx : cap ≤ 9223372036854775807 := by unfold maxLen at hcm; omega
    refine ⟨(List.range len).map f, by simp; omega, some ad, cap, by simp, by simpa using hlc, (fun h => by cases h), ?_⟩
    by_cases h0 : len = 0
    · exact .inl (by simpa using h0)
    · right
      have g0 := hff 0 (by omega)
      obtain ⟨b', o', rfl⟩ := plain_addr (w := w) (a := ad) (by simpa using g0)
      refine ⟨b', o', rfl, trivial, fun i hi => ?_⟩
      have g1 := hff i (by simpa using hi)
      rw [addr_add, Nat.mul_one] at g1
      simpa using g1
set_option maxRecDepth 100000 in
theorem open_rule {fuel : Nat} {cs : List Value} {x : DataW H × List MemPlace} (h : DataW.trod enc Try.prog w base spare held fuel 77 cs = some x) : ∃ (y : Ru) (u : Value), cs = [.int .i64 y.left, u] ∧ IsV w All u y.right := by
  obtain ⟨xs, n, rfl, rfl, hl, hlen, hf⟩ := DataW.trod_struct Try.underlying77 h
  rw [cellsRule] at hl
  match cs, hl with
  | [a, b], _ =>
  match xs, hlen with
  | [y0, y1], _ =>
  have f0 : DataW.trod enc Try.prog w base spare held n 3 (([a, b].drop 0).take (Try.prog.cellsOf 3)) = some y0 := hf 0 _ rfl
  have f1 : DataW.trod enc Try.prog w base spare held n 35 (([a, b].drop 1).take (Try.prog.cellsOf 35)) = some y1 := hf 1 _ rfl
  rw [cellsInt] at f0
  rw [cellsInts] at f1
  obtain ⟨op, e0, _, _⟩ := DataW.trod_int Try.underlying3 f0
  obtain ⟨l, hl⟩ := open_ints f1
  simp at e0
  subst e0
  exact ⟨⟨op, l⟩, b, rfl, hl⟩
set_option maxRecDepth 100000 in
theorem open_rules {fuel : Nat} {u : Value} {x : DataW H × List MemPlace} (h : DataW.trod enc Try.prog w base spare held fuel 22 [u] = some x) : ∃ l : List Ru, RsV w All u l := by
  rcases DataW.trod_slice Try.underlying22 h with ⟨e2, _⟩ | ⟨ad, len, cap, elems, rest, m, rfl, e2, _, hb, hlc, hcm, hel, hall, _, _⟩
  · have e3 : u = .slice none 0 0 := by simpa using e2
    subst e3
    exact ⟨[], RsV_nil _ _⟩
  · have e3 : u = .slice (some ad) len cap := by simpa using e2
    subst e3
    rw [cellsRule] at hall
    have one : ∀ i, i < len → ∃ y : Ru, ∃ u, w.cell? (ad.add (i * 2)) = some (.int .i64 y.left) ∧ w.cell? ((ad.add (i * 2)).add 1) = some u ∧ IsV w All u y.right := by
      intro i hi
      have h1 := hall i hi
      rw [List.getElem?_eq_getElem (by omega)] at h1
      obtain ⟨cs', h2, h3⟩ := Option.bind_eq_some_iff.1 h1
      obtain ⟨y, u, rfl, hy⟩ := open_rule h3
      obtain ⟨_, _, hc⟩ := World.cells?_some h2
      have c0 := hc 0 (by omega)
      refine ⟨y, u, ?_, hc 1 (by omega), hy⟩
      have : (ad.add (i * 2)).add 0 = ad.add (i * 2) := by unfold Addr.add; simp
      rw [← this]; exact c0
    obtain ⟨f, hff⟩ := pick_lt one
    have hmx : cap ≤ 9223372036854775807 := by unfold maxLen at hcm; omega
    refine ⟨(List.range len).map f, by simp; omega, some ad, cap, by simp, by simpa using hlc, (fun h => by cases h), ?_⟩
    by_cases h0 : len = 0
    · exact .inl (by simpa using h0)
    · right
      obtain ⟨u, g0, _⟩ := hff 0 (by omega)
      obtain ⟨b', o', rfl⟩ := plain_addr (w := w) (a := ad) (by simpa using g0)
      refine ⟨b', o', rfl, trivial, fun i hi => ?_⟩
      obtain ⟨u, g0, g1, g2⟩ := hff i (by simpa using hi)
      rw [addr_add] at g0 g1
      rw [addr_add] at g1
      have he : ((List.range len).map f)[i] = f i := by simp
      rw [he]
      exact ⟨g0, u, g1, g2⟩
set_option maxRecDepth 100000 in
theorem open_gram {v : Value} {d : DataW H} {ps : List MemPlace} {b2 : Nat} (hv : Value.okWide Try.prog w .any b2 24 v) (h : DataW.Trod enc Try.prog w base spare held 24 v d ps) : ∃ g : Gm, GV w All v g := by
  obtain ⟨vs, rfl, hvs⟩ := okWide_struct Try.underlying24 hv
  obtain ⟨fuel, h⟩ := h
  rw [cellsGram] at hvs
  obtain ⟨xs, n, rfl, hd, hl, hlen, hf⟩ := DataW.trod_struct Try.underlying24 h
  obtain ⟨a, b, c, u, rfl⟩ : ∃ a b c u, vs = #[a, b, c, u] := by
    obtain ⟨l⟩ := vs
    match l, hvs with
    | [a, b, c, u], _ => exact ⟨a, b, c, u, rfl⟩
  match xs, hlen with
  | [y0, y1, y2, y3], _ =>
  have f0 : DataW.trod enc Try.prog w base spare held n 3 (([a, b, c, u].drop 0).take (Try.prog.cellsOf 3)) = some y0 := hf 0 _ rfl
  have f1 : DataW.trod enc Try.prog w base spare held n 3 (([a, b, c, u].drop 1).take (Try.prog.cellsOf 3)) = some y1 := hf 1 _ rfl
  have f2 : DataW.trod enc Try.prog w base spare held n 3 (([a, b, c, u].drop 2).take (Try.prog.cellsOf 3)) = some y2 := hf 2 _ rfl
  have f3 : DataW.trod enc Try.prog w base spare held n 22 (([a, b, c, u].drop 3).take (Try.prog.cellsOf 22)) = some y3 := hf 3 _ rfl
  rw [cellsInt] at f0 f1 f2
  rw [cellsRules] at f3
  obtain ⟨n0, e0, _, _⟩ := DataW.trod_int Try.underlying3 f0
  obtain ⟨n1, e1, _, _⟩ := DataW.trod_int Try.underlying3 f1
  obtain ⟨n2, e2, _, _⟩ := DataW.trod_int Try.underlying3 f2
  obtain ⟨l, hrs⟩ := open_rules f3
  simp at e0 e1 e2
  subst e0 e1 e2
  exact ⟨⟨n0, n1, n2, l⟩, u, rfl, hrs⟩
end
end Go.Proofs.Ytlhdppkllmnmkad.G

/- Trees: as plain data, and as they lie in memory. -/
namespace Go.Proofs.Ytlhdppkllmnmkad.G
open Go.RowKit Go.WideShapes

/-- A row of trees: the first one's rule and trees below it; the others. -/
inductive Tf where
  | nil
  | cons (rule : Int) (kids rest : Tf)
  deriving DecidableEq
structure Tr where
  rule : Int
  kids : Tf
  deriving DecidableEq
instance : Inhabited Tr := ⟨⟨0, .nil⟩⟩
def Tf.len : Tf → Nat
  | .nil => 0
  | .cons _ _ r => r.len + 1
def Tf.snoc : Tf → Tr → Tf
  | .nil, x => .cons x.rule x.kids .nil
  | .cons a c r, x => .cons a c (r.snoc x)
def Tf.at_ : Tf → Nat → Tr
  | .nil, _ => ⟨0, .nil⟩
  | .cons a c _, 0 => ⟨a, c⟩
  | .cons _ _ r, i + 1 => r.at_ i
/-- A row of trees lies in a block from a place on; all blocks that it goes through are of the class S. -/
def Tf.In (w : World) (S : Nat → Prop) : Tf → Nat → Nat → Prop
  | .nil, _, _ => True
  | .cons rule kids rest, b, o => S b ∧ w.cell? ⟨b, o, none⟩ = some (.int .i64 rule) ∧
      (kids.len ≤ 9223372036854775807 ∧ ∃ ao cap, w.cell? ⟨b, o + 1, none⟩ = some (.slice ao kids.len cap) ∧ kids.len ≤ cap ∧ (ao = none → cap = 0) ∧ (kids.len = 0 ∨ ∃ b' o', ao = some ⟨b', o', none⟩ ∧ kids.In w S b' o')) ∧ rest.In w S b (o + 2)
/-- A slice's value. -/
def TfV (w : World) (S : Nat → Prop) (v : Value) (f : Tf) : Prop :=
  f.len ≤ 9223372036854775807 ∧ ∃ ao cap, v = .slice ao f.len cap ∧ f.len ≤ cap ∧ (ao = none → cap = 0) ∧ (f.len = 0 ∨ ∃ b o, ao = some ⟨b, o, none⟩ ∧ f.In w S b o)
/-- A tree's value. -/
def TrV (w : World) (S : Nat → Prop) (v : Value) (t : Tr) : Prop := ∃ u, v = .agg #[.int .i64 t.rule, u] ∧ TfV w S u t.kids
/-- A tree's cells. -/
def TrIn (w : World) (S : Nat → Prop) (t : Tr) (b o : Nat) : Prop :=
  w.cell? ⟨b, o, none⟩ = some (.int .i64 t.rule) ∧ ∃ u, w.cell? ⟨b, o + 1, none⟩ = some u ∧ TfV w S u t.kids
theorem Tf.In.at_ {w : World} {S : Nat → Prop} : ∀ {f : Tf} {b o : Nat}, f.In w S b o → ∀ i, i < f.len → TrIn w S (f.at_ i) b (o + i * 2)
  | .nil, _, _, _, i, hi => by simp [Tf.len] at hi
  | .cons rule kids rest, b, o, h, 0, _ => by
    obtain ⟨h0, h1, ⟨h3, ao, cap, h4, h5⟩, _⟩ := h
    exact ⟨by simpa [Tf.at_] using h1, _, by simpa [Tf.at_] using h4, h3, ao, cap, rfl, h5⟩
  | .cons rule kids rest, b, o, h, i + 1, hi => by
    have := Tf.In.at_ (f := rest) h.2.2.2 i (by simpa [Tf.len] using hi)
    rwa [show o + 2 + i * 2 = o + (i + 1) * 2 by omega] at this
theorem Tf.In.mono {w w' : World} {S T : Nat → Prop} (hc : ∀ b o v, S b → w.cell? ⟨b, o, none⟩ = some v → T b ∧ w'.cell? ⟨b, o, none⟩ = some v) :
    ∀ {f : Tf} {b o : Nat}, f.In w S b o → f.In w' T b o
  | .nil, _, _, _ => trivial
  | .cons _ _ _, _, _, ⟨h0, h1, ⟨h3, ao, cap, h4, h7, h8, h5⟩, h6⟩ =>
    ⟨(hc _ _ _ h0 h1).1, (hc _ _ _ h0 h1).2, ⟨h3, ao, cap, (hc _ _ _ h0 h4).2, h7, h8, h5.imp id fun ⟨b', o', e, h⟩ => ⟨b', o', e, Tf.In.mono hc h⟩⟩, Tf.In.mono hc h6⟩
theorem TfV.mono {w w' : World} {S T : Nat → Prop} (hc : ∀ b o v, S b → w.cell? ⟨b, o, none⟩ = some v → T b ∧ w'.cell? ⟨b, o, none⟩ = some v) {v : Value} {f : Tf} (h : TfV w S v f) : TfV w' T v f :=
  let ⟨h1, ao, cap, h2, h7, h8, h3⟩ := h
  ⟨h1, ao, cap, h2, h7, h8, h3.imp id fun ⟨b, o, e, h⟩ => ⟨b, o, e, Tf.In.mono hc h⟩⟩
theorem TrV.mono {w w' : World} {S T : Nat → Prop} (hc : ∀ b o v, S b → w.cell? ⟨b, o, none⟩ = some v → T b ∧ w'.cell? ⟨b, o, none⟩ = some v) {v : Value} {x : Tr} (h : TrV w S v x) : TrV w' T v x :=
  let ⟨u, h1, h2⟩ := h
  ⟨u, h1, TfV.mono hc h2⟩
theorem TfV.lw {w w' : World} {S : Nat → Prop} {v : Value} {f : Tf} (h : TfV w S v f) (hb : Below w.heap.size w w') : TfV w' S v f := h.mono (keep_all hb fun _ h => h)
theorem TrV.lw {w w' : World} {S : Nat → Prop} {v : Value} {t : Tr} (h : TrV w S v t) (hb : Below w.heap.size w w') : TrV w' S v t := h.mono (keep_all hb fun _ h => h)
theorem TfV.all {w : World} {S : Nat → Prop} {v : Value} {f : Tf} (h : TfV w S v f) : TfV w All v f := h.mono (keep_all (Below.refl _ _) fun _ _ => trivial)
theorem TrV.all {w : World} {S : Nat → Prop} {v : Value} {t : Tr} (h : TrV w S v t) : TrV w All v t := h.mono (keep_all (Below.refl _ _) fun _ _ => trivial)
theorem TfV.kp {w w' : World} {S T : Nat → Prop} {v : Value} {x : Tf} (h : TfV w S v x) (hk : Kp S w w') (hT : ∀ k, k < w.heap.size → S k → T k) : TfV w' T v x := h.mono (keep_cell hT hk.block)
theorem TrV.kp {w w' : World} {S T : Nat → Prop} {v : Value} {x : Tr} (h : TrV w S v x) (hk : Kp S w w') (hT : ∀ k, k < w.heap.size → S k → T k) : TrV w' T v x := h.mono (keep_cell hT hk.block)
theorem TfV.slice {w : World} {S : Nat → Prop} {v : Value} {f : Tf} (h : TfV w S v f) : ∃ ao cap, v = .slice ao f.len cap ∧ f.len ≤ cap := let ⟨_, ao, cap, e, hc, _⟩ := h; ⟨ao, cap, e, hc⟩
theorem Tf.In.cls {w : World} {S : Nat → Prop} {f : Tf} {b o : Nat} (h : f.In w S b o) (h0 : f.len ≠ 0) : S b := by
  cases f with
  | nil => simp [Tf.len] at h0
  | cons => exact h.1
theorem TfV.at_ {w : World} {S : Nat → Prop} {ao : Option Addr} {n cap : Nat} {f : Tf} (h : TfV w S (.slice ao n cap) f) {k : Nat} (hk : k < f.len) :
    ∃ b o, ao = some ⟨b, o, none⟩ ∧ S b ∧ w.cell? ⟨b, o + k * 2, none⟩ = some (.int .i64 (f.at_ k).rule) ∧ ∃ aq cq, w.cell? ⟨b, o + k * 2 + 1, none⟩ = some (.slice aq (f.at_ k).kids.len cq) ∧ TfV w S (.slice aq (f.at_ k).kids.len cq) (f.at_ k).kids := by
  obtain ⟨_, ao', cap', e, _, _, h5⟩ := h
  simp at e
  obtain ⟨rfl, rfl, rfl⟩ := e
  rcases h5 with h5 | ⟨b, o, rfl, hin⟩
  · omega
  · obtain ⟨g1, u, g3, g4⟩ := hin.at_ k hk
    have hS : S b := hin.cls (by omega)
    have g4' := g4
    obtain ⟨aq, cq, rfl, _⟩ := g4'.slice
    exact ⟨b, o, rfl, hS, g1, aq, cq, g3, g4⟩
/-- The cells of a row of trees. -/
def TC (w : World) (S : Nat → Prop) : List Value → Tf → Prop
  | [], .nil => True
  | a :: c :: xs, .cons rule kids rest => a = .int .i64 rule ∧ TfV w S c kids ∧ TC w S xs rest
  | _, _ => False
theorem TC.mono {w w' : World} {S T : Nat → Prop} (hc : ∀ b o v, S b → w.cell? ⟨b, o, none⟩ = some v → T b ∧ w'.cell? ⟨b, o, none⟩ = some v) :
    ∀ {xs : List Value} {f : Tf}, TC w S xs f → TC w' T xs f
  | [], .nil, _ => trivial
  | _ :: _ :: _, .cons .., ⟨h1, h3, h4⟩ => ⟨h1, TfV.mono hc h3, TC.mono hc h4⟩
  | [], .cons .., h => by simp [TC] at h
  | [_], _, h => by simp [TC] at h
  | _ :: _ :: _, .nil, h => by simp [TC] at h
theorem TC.kp {w w' : World} {S T : Nat → Prop} {v : List Value} {x : Tf} (h : TC w S v x) (hk : Kp S w w') (hT : ∀ k, k < w.heap.size → S k → T k) : TC w' T v x := h.mono (keep_cell hT hk.block)
theorem TC.snoc {w : World} {S : Nat → Prop} {x : Tr} {u : Value} (hu : TfV w S u x.kids) :
    ∀ {xs : List Value} {f : Tf}, TC w S xs f → TC w S (xs ++ [.int .i64 x.rule, u]) (f.snoc x)
  | [], .nil, _ => ⟨rfl, hu, trivial⟩
  | _ :: _ :: _, .cons .., ⟨h1, h3, h4⟩ => ⟨h1, h3, TC.snoc hu h4⟩
  | [], .cons .., h => by simp [TC] at h
  | [_], _, h => by simp [TC] at h
  | _ :: _ :: _, .nil, h => by simp [TC] at h
/-! Trees that come in. -/
def Tf.of (f : Nat → Tr) : Nat → Nat → Tf
  | _, 0 => .nil
  | s, n + 1 => .cons (f s).rule (f s).kids (Tf.of f (s + 1) n)
section
variable {H : Type} {enc : TypeId × Value → H} {w : World} {base : Nat} {spare : Nat → Bool} {held : Bool}
end
end Go.Proofs.Ytlhdppkllmnmkad.G

/- Grammars, in the document's way: two that are the same; what is wrong with one. -/
namespace Go.Proofs.Ytlhdppkllmnmkad.G
open Go.RowKit

theorem rs_ne {l m : List Ru} {k : Nat} (h1 : k < l.length) (h2 : k < m.length) (h : ¬ (l[k].left = m[k].left ∧ l[k].right = m[k].right)) : ¬ l = m := fun e => h (by subst e; exact ⟨rfl, rfl⟩)
theorem rs_eq {l m : List Ru} {k : Nat} (h1 : k < l.length) (h2 : k < m.length) (h : l[k].left = m[k].left ∧ l[k].right = m[k].right) : l[k]? = m[k]? := by
  rw [List.getElem?_eq_getElem h1, List.getElem?_eq_getElem h2]
  generalize l[k] = a at *
  generalize m[k] = b at *
  obtain ⟨x, y⟩ := a
  obtain ⟨x', y'⟩ := b
  simp_all
set_option maxRecDepth 100000 in
set_option maxHeartbeats 8000000 in
theorem sameGram_any (g h : Gm) (va vb : Value) (w : World) (ha : GV w All va g) (hb : GV w All vb h) :
    Calls Try.prog 51 #[va, vb] w fun e w' => e = .returned (.bool (decide (g = h))) ∧ Below w.heap.size w w' := by
  obtain ⟨ua, rfl, ra⟩ := ha
  obtain ⟨ub, rfl, rb⟩ := hb
  obtain ⟨ao, cap, rfl⟩ := ra.slice
  obtain ⟨ao', cap', rfl⟩ := rb.slice
  have hl := ra.1
  have hm := rb.1
  obtain ⟨W, hW⟩ : ∃ W, W = (w.alloc (.cells #[.int .i64 g.vars, .int .i64 g.terms, .int .i64 g.start, .slice ao g.rules.length cap] 24)).alloc (.cells #[.int .i64 h.vars, .int .i64 h.terms, .int .i64 h.start, .slice ao' h.rules.length cap'] 24) := ⟨_, rfl⟩
  have hWb : Below w.heap.size w W := by rw [hW]; exact al2 _ _ _
  have hW3 : W.cell? ⟨w.heap.size, 3, none⟩ = some (.slice ao g.rules.length cap) := by rw [hW]; simp
  have hW4 : W.cell? ⟨w.heap.size + 1, 3, none⟩ = some (.slice ao' h.rules.length cap') := by rw [hW]; simp
  by_cases h1 : g.vars = h.vars
  rotate_left
  · have hne : Hid (¬ g = h) := hd (fun e => h1 (by rw [e]))
    have hb' : (g.vars != h.vars) = true := by simpa using h1
    go_enter Try.func51, Try.ntmps51
    go_wp2_with fail
    go_ret
    exact ⟨ret_bool (by simpa using hne.out), al2 _ _ _⟩
  by_cases h2 : g.terms = h.terms
  rotate_left
  · have hne : Hid (¬ g = h) := hd (fun e => h2 (by rw [e]))
    have hb1 : (g.vars != h.vars) = false := by simpa using h1
    have hb' : (g.terms != h.terms) = true := by simpa using h2
    clear h1 h2
    go_enter Try.func51, Try.ntmps51
    go_wp2_with fail
    go_ret
    exact ⟨ret_bool (by simpa using hne.out), al2 _ _ _⟩
  by_cases h3 : g.start = h.start
  rotate_left
  · have hne : Hid (¬ g = h) := hd (fun e => h3 (by rw [e]))
    have hb1 : (g.vars != h.vars) = false := by simpa using h1
    have hb2 : (g.terms != h.terms) = false := by simpa using h2
    have hb' : (g.start != h.start) = true := by simpa using h3
    clear h1 h2 h3
    go_enter Try.func51, Try.ntmps51
    go_wp2_with fail
    go_ret
    exact ⟨ret_bool (by simpa using hne.out), al2 _ _ _⟩
  by_cases h4 : g.rules.length = h.rules.length
  rotate_left
  · have hne : Hid (¬ g = h) := hd (fun e => h4 (by rw [e]))
    have hb1 : (g.vars != h.vars) = false := by simpa using h1
    have hb2 : (g.terms != h.terms) = false := by simpa using h2
    have hb3 : (g.start != h.start) = false := by simpa using h3
    have hb' : ((g.rules.length : Int) != (h.rules.length : Int)) = true := by simp; omega
    clear h1 h2 h3 h4
    go_enter Try.func51, Try.ntmps51
    go_wp2_with fail
    go_ret
    exact ⟨ret_bool (by simpa using hne.out), al2 _ _ _⟩
  have HGH : Hid (g = h ↔ g.rules = h.rules) := hd ⟨fun e => by rw [e], fun e => by
    obtain ⟨a, b, c, d⟩ := g
    obtain ⟨a', b', c', d'⟩ := h
    simp_all⟩
  have hb1 : (g.vars != h.vars) = false := by simpa using h1
  have hb2 : (g.terms != h.terms) = false := by simpa using h2
  have hb3 : (g.start != h.start) = false := by simpa using h3
  have hb4 : ((g.rules.length : Int) != (h.rules.length : Int)) = false := by simp; omega
  have HL := hd h4
  clear h1 h2 h3 h4
  go_enter Try.func51, Try.ntmps51
  go_wp2_with fail
  rw [← hW]
  have HW := hd hW
  clear hW hb1 hb2 hb3 hb4
  go_loopw [5] (fun i wr => ∃ k : Nat, k ≤ g.rules.length ∧ i = .int .i64 k ∧ Hid (∀ j, j < k → g.rules[j]? = h.rules[j]?) ∧ Below W.heap.size W wr) (fun i _ => g.rules.length - (intOf i).toNat)
  case atStart => exact ⟨0, Nat.zero_le _, rfl, hd (fun j hj => absurd hj (Nat.not_lt_zero _)), Below.refl _ _⟩
  case round =>
    obtain ⟨k, hk, rfl, hall, hb⟩ := hrel
    have bel : Below w.heap.size w wr := bthen hWb hb
    have s3 := bkeep hb hW3
    have s4 := bkeep hb hW4
    by_cases hlt : k < g.rules.length
    · have hlt' : k < h.rules.length := by have := HL.out; omega
      obtain ⟨b, o, rfl, c0, ar, cr, c1, hc⟩ := (ra.lw bel).at_ hlt
      obtain ⟨b', o', rfl, d0, ar', cr', d1, hc'⟩ := (rb.lw bel).at_ hlt'
      have HN := hd (rs_ne hlt hlt')
      have HE := hd (rs_eq hlt hlt')
      have SI := fun z : Wd wr => sameInts_any g.rules[k].right h.rules[k].right (.slice ar g.rules[k].right.length cr) (.slice ar' h.rules[k].right.length cr') z.u (hc.lw z.h) (hc'.lw z.h)
      have r3 := fun z : Wd wr => z.cell s3
      have r4 := fun z : Wd wr => z.cell s4
      have e0 := fun z : Wd wr => z.cell c0
      have e1 := fun z : Wd wr => z.cell c1
      have f0 := fun z : Wd wr => z.cell d0
      have f1 := fun z : Wd wr => z.cell d1
      have wne : Nonempty (Wd wr) := Wd.ne _
      clear c0 c1 d0 d1 hc hc'
      generalize g.rules[k] = x at *
      generalize h.rules[k] = y at *
      have HLT' := hd hlt'
      by_cases hx : x.left = y.left
      · have hxb : (x.left != y.left) = false := by simpa using hx
        by_cases hy : x.right = y.right
        · have HE' := hd (HE.out ⟨hx, hy⟩)
          have hyb : decide (x.right = y.right) = true := by simpa using hy
          rw [hyb] at SI
          clear hx hy
          go_wp2_with fail
          refine region_quiet_lit (C := fun w' => ∃ z : Wd wr, w' = z.u) (by kernel_rfl) (by kernel_rfl) (Wd.drawn _) ?_
          iterate 26 (go_big_quiet_step (fail))
          go_big_quiet_step (exact calls_wd (SI _))
          iterate 2 (go_big_quiet_step (fail))
          refine wpQuiet_nil ?_
          intro _ hw'
          obtain ⟨z, hw''⟩ := hw'
          subst hw''
          have bz := bthen hb z.h
          go_wp2_with fail
          go_roundw
          case rel => exact ⟨k + 1, by omega, by go_num, hd (fun j hj => by
            by_cases e : j = k
            · subst e; exact HE'.out
            · exact hall.out j (by omega)), bz⟩
          case measure => simp [intOf]; omega
        · have HN' : Hid (¬ g = h) := hd (fun e => HN.out (fun e => hy e.2) (HGH.out.1 e))
          have hyb : decide (x.right = y.right) = false := by simpa using hy
          rw [hyb] at SI
          clear hx hy
          go_wp2_with fail
          refine region_quiet_lit (C := fun w' => ∃ z : Wd wr, w' = z.u) (by kernel_rfl) (by kernel_rfl) (Wd.drawn _) ?_
          iterate 26 (go_big_quiet_step (fail))
          go_big_quiet_step (exact calls_wd (SI _))
          iterate 2 (go_big_quiet_step (fail))
          refine wpQuiet_nil ?_
          intro _ hw'
          obtain ⟨z, hw''⟩ := hw'
          subst hw''
          have bz := bthen bel z.h
          go_wp2_with fail
          go_ret
          exact ⟨ret_bool (by simpa using HN'.out), bz⟩
      · have HN' : Hid (¬ g = h) := hd (fun e => HN.out (fun e => hx e.1) (HGH.out.1 e))
        have hxb : (x.left != y.left) = true := by simpa using hx
        clear hx
        go_wp2_with fail
        refine region_quiet_lit (C := fun w' => ∃ z : Wd wr, w' = z.u) (by kernel_rfl) (by kernel_rfl) (Wd.drawn _) ?_
        iterate 29 (go_big_quiet_step (fail))
        refine wpQuiet_nil ?_
        intro _ hw'
        obtain ⟨z, hw''⟩ := hw'
        subst hw''
        have bz := bthen bel z.h
        go_wp2_with fail
        go_ret
        exact ⟨ret_bool (by simpa using HN'.out), bz⟩
    · have he : Hid (g = h) := hd (HGH.out.2 (eq_of_at HL.out fun j hj => hall.out j (by omega)))
      go_wp2_with fail
      go_ret
      exact ⟨ret_bool (by simpa using he.out), bel⟩

/-- Vars, Terms and Start are as they should be. -/
def szB (g : Gm) : Bool := decide (1 ≤ g.vars ∧ g.vars ≤ 64 ∧ 0 ≤ g.terms ∧ g.terms ≤ 16 ∧ 0 ≤ g.start ∧ g.start < g.vars)
/-- A symbol. -/
def syB (g : Gm) (s : Int) : Bool := decide (-g.terms ≤ s ∧ s < g.vars)
def ruF (g : Gm) (r : Ru) : Int := if 10 < r.right.length then 6 else if (0 ≤ r.left ∧ r.left < g.vars) ∧ r.right.all (syB g) = true then 0 else 9
def rsF (g : Gm) : List Ru → Nat → Int × Int
  | [], _ => (0, 0)
  | r :: l, k => if ruF g r = 0 then rsF g l (k + 1) else (ruF g r, (k : Int))
/-- What is wrong with a grammar. -/
def gFl (g : Gm) : Int × Int := if szB g then if 160 < g.rules.length then (6, -1) else rsF g g.rules 0 else (9, -1)
theorem rsF_at {g : Gm} {l : List Ru} {k : Nat} (h : k < l.length) : rsF g (l.drop k) k = if ruF g l[k] = 0 then rsF g (l.drop (k + 1)) (k + 1) else (ruF g l[k], (k : Int)) := by
  rw [List.drop_eq_getElem_cons h]; rfl
theorem rsF_end {g : Gm} {l : List Ru} {k : Nat} (h : l.length ≤ k) : rsF g (l.drop k) k = (0, 0) := by
  rw [List.drop_of_length_le h]; rfl
set_option maxRecDepth 100000 in
set_option maxHeartbeats 4000000 in
theorem rF_any (a b : Int) (w : World) :
    Calls Try.prog 55 #[.int .i64 a, .int .i64 b] w fun e w' => e = .returned (.agg #[.int .i64 a, .int .i64 b]) ∧ Below w.heap.size w w' := by
  go_enter Try.func55, Try.ntmps55
  go_wp2_with fail
  refine bodyPost_ret (v := .agg #[.int .i64 a, .int .i64 b]) (by simp [results, Try.results55, go_sem]) rfl ⟨rfl, al1 _ _⟩
end Go.Proofs.Ytlhdppkllmnmkad.G

/- Grammars, the program's way: two that are the same; kids; the rules of a nonterminal. -/
namespace Go.Proofs.Ytlhdppkllmnmkad.G
open Go.RowKit
set_option maxRecDepth 100000 in
set_option maxHeartbeats 4000000 in
theorem by_any (g : Gm) (v : Int) (va : Value) (w : World) (ha : GV w All va g) (h6 : g.rules.length ≤ 1000000) :
    Calls Try.prog 97 #[va, .int .i64 v] w fun e w' => ∃ u, e = .returned u ∧ w'.ownsRow w.heap.size 3 1 u (byL v g.rules 0).length (ints (byL v g.rules 0)) ∧ Below w.heap.size w w' := by
  obtain ⟨i0, hi, iz0, iz1, iz2⟩ := info_parts Try.infoInt
  obtain ⟨u, rfl, hr⟩ := ha
  obtain ⟨ao, cap, rfl⟩ := hr.slice
  have hl := hr.1
  obtain ⟨W, hW⟩ : ∃ W, W = w.alloc (.cells #[.int .i64 g.vars, .int .i64 g.terms, .int .i64 g.start, .slice ao g.rules.length cap] 24) := ⟨_, rfl⟩
  have hWz : W.heap.size = w.heap.size + 1 := by rw [hW]; simp
  have hWb : Below w.heap.size w W := by rw [hW]; exact al1 _ _
  go_enter Try.func97, Try.ntmps97
  go_wp2_with fail
  rw [← hW]
  have HW := hd hW
  clear hW
  go_loopw [5, 11] (fun u i wr => ∃ (k : Nat) (acc : List Int), k ≤ g.rules.length ∧ i = .int .i64 k ∧ Hid (acc = byL v (g.rules.take k) 0) ∧ acc.length ≤ k ∧ wr.ownsRow (w.heap.size + 1) 3 1 u acc.length (ints acc) ∧ Below W.heap.size W wr) (fun _ i _ => g.rules.length - (intOf i).toNat)
  case atStart => exact ⟨0, [], Nat.zero_le _, rfl, hd (by simp [byL]), Nat.le_refl _, World.ownsRow_nil _ _ _ _, Below.refl _ _⟩
  case round =>
    obtain ⟨k, acc, hk, rfl, hacc, hal, hown, hb⟩ := hrel
    have hz := hb.size
    have bel : Below w.heap.size w wr := bthen hWb hb
    by_cases hlt : k < g.rules.length
    · obtain ⟨b, o, rfl, c0, ar, cr, c1, _⟩ := (hr.lw bel).at_ hlt
      have HY : Hid (g.rules[k].left = v → acc ++ [(k : Int)] = byL v (g.rules.take (k + 1)) 0) := hd (fun e => by rw [hacc.out, byL_yes hlt e])
      have HN : Hid (¬ g.rules[k].left = v → acc = byL v (g.rules.take (k + 1)) 0) := hd (fun e => by rw [hacc.out, byL_no hlt e])
      clear hacc
      generalize g.rules[k] = y at *
      obtain ⟨aov, capv, rfl⟩ := owns_slice hown
      have hown' := hown.alloc (.cells #[.int .i64 y.left, .slice ar y.right.length cr] 77)
      have hb' := hb.alloc hz (.cells #[.int .i64 y.left, .slice ar y.right.length cr] 77)
      generalize y.left = x at *
      by_cases hx : x = v
      · have HY' := hd (HY.out hx)
        subst hx
        go_wp2_with (first | (at_builtin; go_must (refine wpList_append_own _ rfl _ _ 35 rfl (w.heap.size + 1) 3 i0 (.int .i64 0) 1 8 Try.underlying35 hi iz0 iz1 iz2 rfl (by decide) _ _ _ rfl (hown'.alloc _) ⟨wr.heap.size + 1, 0, none⟩ 1 1 [.int .i64 k] rfl rfl (cell_one_at _ _ _ (by simp)) (oneInts [(k : Int)]) (by unfold maxLen; omega) (by omega) (by simp <;> omega) ?_)))
        intro v1 W1 own1 grow1 _
        go_wp2_with fail
        go_roundw
        case rel => exact ⟨k + 1, acc ++ [(k : Int)], by omega, by go_num, HY', by simp; omega, by simpa [ints] using own1, (hb'.alloc (by simp; omega) _).grown grow1 (by simp <;> omega) (fun j hj => by have := (hown.lt j hj).1; omega)⟩
        case measure => simp [intOf]; omega
      · have HN' := hd (HN.out hx)
        have hxb : (x == v) = false := by simpa using hx
        clear hx
        go_wp2_with fail
        go_roundw
        case rel => exact ⟨k + 1, acc, by omega, by go_num, HN', by omega, hown', hb'⟩
        case measure => simp [intOf]; omega
    · have he : acc = byL v g.rules 0 := by rw [hacc.out, List.take_of_length_le (by omega)]
      rw [he] at hown
      clear hacc hal
      go_wp2_with fail
      go_ret
      exact ⟨_, rfl, owns_mono hown (by omega), bel⟩
end Go.Proofs.Ytlhdppkllmnmkad.G

/- What is wrong with a grammar, in the document's way. -/
namespace Go.Proofs.Ytlhdppkllmnmkad.G
open Go.RowKit
theorem gFl_no {g : Gm} (h : ¬ (1 ≤ g.vars ∧ g.vars ≤ 64 ∧ 0 ≤ g.terms ∧ g.terms ≤ 16 ∧ 0 ≤ g.start ∧ g.start < g.vars)) : gFl g = (9, -1) := by
  unfold gFl szB; rw [if_neg (by simpa using h)]
theorem gFl_many {g : Gm} (h : 1 ≤ g.vars ∧ g.vars ≤ 64 ∧ 0 ≤ g.terms ∧ g.terms ≤ 16 ∧ 0 ≤ g.start ∧ g.start < g.vars) (h1 : 160 < g.rules.length) : gFl g = (6, -1) := by
  unfold gFl szB; rw [if_pos (by simpa using h), if_pos h1]
theorem gFl_rest {g : Gm} (h : 1 ≤ g.vars ∧ g.vars ≤ 64 ∧ 0 ≤ g.terms ∧ g.terms ≤ 16 ∧ 0 ≤ g.start ∧ g.start < g.vars) (h1 : ¬ 160 < g.rules.length) : gFl g = rsF g (g.rules.drop 0) 0 := by
  unfold gFl szB; rw [if_pos (by simpa using h), if_neg h1]; rfl
theorem ruF_many {g : Gm} {r : Ru} (h : 10 < r.right.length) : ruF g r = 6 := if_pos h
theorem ruF_left {g : Gm} {r : Ru} (h : ¬ 10 < r.right.length) (h1 : ¬ (0 ≤ r.left ∧ r.left < g.vars)) : ruF g r = 9 := by
  unfold ruF; rw [if_neg h, if_neg (fun h => h1 h.1)]
theorem ruF_sym {g : Gm} {r : Ru} (h : ¬ 10 < r.right.length) {j : Nat} (hj : j < r.right.length) (h1 : ¬ (-g.terms ≤ r.right[j] ∧ r.right[j] < g.vars)) : ruF g r = 9 := by
  unfold ruF; rw [if_neg h, if_neg]
  intro ⟨_, h2⟩
  rw [List.all_eq_true] at h2
  have := h2 _ (List.getElem_mem hj)
  simp [syB] at this
  omega
theorem ruF_ok {g : Gm} {r : Ru} (h : ¬ 10 < r.right.length) (h1 : 0 ≤ r.left ∧ r.left < g.vars) (h2 : ∀ j (h : j < r.right.length), -g.terms ≤ r.right[j] ∧ r.right[j] < g.vars) : ruF g r = 0 := by
  unfold ruF; rw [if_neg h, if_pos]
  refine ⟨h1, ?_⟩
  rw [List.all_eq_true]
  intro x hx
  obtain ⟨j, hj, rfl⟩ := List.mem_iff_getElem.1 hx
  simpa [syB] using h2 j hj
set_option maxRecDepth 100000 in
set_option maxHeartbeats 16000000 in
theorem gramFault_any (g : Gm) (va : Value) (w : World) (ha : GV w All va g) :
    Calls Try.prog 54 #[va] w fun e w' => e = .returned (.agg #[.int .i64 (gFl g).1, .int .i64 (gFl g).2]) ∧ Below w.heap.size w w' := by
  obtain ⟨ua, rfl, ra⟩ := ha
  obtain ⟨ao, cap, rfl⟩ := ra.slice
  have hl := ra.1
  obtain ⟨W, hW⟩ : ∃ W, W = (w.alloc (.cells #[.int .i64 g.vars, .int .i64 g.terms, .int .i64 g.start, .slice ao g.rules.length cap] 24)).alloc (.cells #[.int .i64 0, .int .i64 0] 33) := ⟨_, rfl⟩
  have hWz : W.heap.size = w.heap.size + 2 := by rw [hW]; simp
  have hWb : Below w.heap.size w W := by rw [hW]; exact al2 _ _ _
  have hW0 : W.cell? ⟨w.heap.size, 0, none⟩ = some (.int .i64 g.vars) := by rw [hW]; simp
  have hW1 : W.cell? ⟨w.heap.size, 1, none⟩ = some (.int .i64 g.terms) := by rw [hW]; simp
  have hW3 : W.cell? ⟨w.heap.size, 3, none⟩ = some (.slice ao g.rules.length cap) := by rw [hW]; simp
  have hWr : RB W (w.heap.size + 1) := by rw [hW]; exact ⟨by simp, by simp, fun i => by simp [go_sem]⟩
  by_cases hs : 1 ≤ g.vars ∧ g.vars ≤ 64 ∧ 0 ≤ g.terms ∧ g.terms ≤ 16 ∧ 0 ≤ g.start ∧ g.start < g.vars
  rotate_left
  · rw [gFl_no hs]
    have hs' : (g.vars < 1) ∨ (1 ≤ g.vars ∧ 64 < g.vars) ∨ (1 ≤ g.vars ∧ g.vars ≤ 64 ∧ g.terms < 0) ∨ (1 ≤ g.vars ∧ g.vars ≤ 64 ∧ 0 ≤ g.terms ∧ 16 < g.terms) ∨ (1 ≤ g.vars ∧ g.vars ≤ 64 ∧ 0 ≤ g.terms ∧ g.terms ≤ 16 ∧ g.start < 0) ∨ (1 ≤ g.vars ∧ g.vars ≤ 64 ∧ 0 ≤ g.terms ∧ g.terms ≤ 16 ∧ 0 ≤ g.start ∧ g.vars ≤ g.start) := by omega
    clear hs
    rcases hs' with h1 | ⟨h1, h2⟩ | ⟨h1, h2, h3⟩ | ⟨h1, h2, h3, h4⟩ | ⟨h1, h2, h3, h4, h5⟩ | ⟨h1, h2, h3, h4, h5, h6⟩
    all_goals
      go_enter Try.func54, Try.ntmps54
      go_wp2_with fail
      rw [← hW]
      have HW := hd hW
      clear hW
      refine (rF_any _ _ _).mono ?_
      rintro e wf ⟨rfl, hbf⟩
      have rf := hWr.below hbf
      have q0 := rf.c0
      have q1 := rf.c1
      have qf := rf.fz
      have bf : Below w.heap.size w wf := bthen hWb hbf
      go_wp2_with fail
      refine bodyPost_ret (v := .agg #[.int .i64 9, .int .i64 (-1)]) (by simp [results, Try.results54, go_sem, q0, q1]) rfl ⟨rfl, ?_⟩
      exact (bf.setCell (p := ⟨w.heap.size + 1, 0, none⟩) (Nat.le_succ _) _).setCell (p := ⟨w.heap.size + 1, 1, none⟩) (Nat.le_succ _) _
  have HS := hd hs
  obtain ⟨s1, s2, s3, s4, s5, s6⟩ := hs
  by_cases h16 : 160 < g.rules.length
  · rw [gFl_many HS.out h16]
    go_enter Try.func54, Try.ntmps54
    go_wp2_with fail
    rw [← hW]
    have HW := hd hW
    clear hW
    refine (rF_any _ _ _).mono ?_
    rintro e wf ⟨rfl, hbf⟩
    have rf := hWr.below hbf
    have q0 := rf.c0
    have q1 := rf.c1
    have qf := rf.fz
    have bf : Below w.heap.size w wf := bthen hWb hbf
    go_wp2_with fail
    refine bodyPost_ret (v := .agg #[.int .i64 6, .int .i64 (-1)]) (by simp [results, Try.results54, go_sem, q0, q1]) rfl ⟨rfl, ?_⟩
    exact (bf.setCell (p := ⟨w.heap.size + 1, 0, none⟩) (Nat.le_succ _) _).setCell (p := ⟨w.heap.size + 1, 1, none⟩) (Nat.le_succ _) _
  have HR0 := hd (gFl_rest HS.out h16)
  generalize gFl g = R at *
  go_enter Try.func54, Try.ntmps54
  go_wp2_with fail
  rw [← hW]
  have HW := hd hW
  clear hW
  go_loopw [3] (fun i wr => ∃ k : Nat, k ≤ g.rules.length ∧ i = .int .i64 k ∧ Hid (R = rsF g (g.rules.drop k) k) ∧ Below W.heap.size W wr) (fun i _ => g.rules.length - (intOf i).toNat)
  case atStart => exact ⟨0, Nat.zero_le _, rfl, HR0, Below.refl _ _⟩
  case round =>
    obtain ⟨k, hk, rfl, hR, hb⟩ := hrel
    have bel : Below w.heap.size w wr := bthen hWb hb
    have t0 := bkeep hb hW0
    have t1 := bkeep hb hW1
    have t3 := bkeep hb hW3
    have tr := hWr.below hb
    by_cases hlt : k < g.rules.length
    · obtain ⟨b, o, rfl, c0, ar, cr, c1, hc⟩ := (ra.lw bel).at_ hlt
      have HR1 : Hid (R = if ruF g g.rules[k] = 0 then rsF g (g.rules.drop (k + 1)) (k + 1) else (ruF g g.rules[k], (k : Int))) := hd (by rw [hR.out, rsF_at hlt])
      clear hR
      generalize g.rules[k] = x at *
      have hxl := hc.1
      obtain ⟨V, hV⟩ : ∃ V, V = wr.alloc (.cells #[.int .i64 x.left, .slice ar x.right.length cr] 77) := ⟨_, rfl⟩
      have hVb : Below wr.heap.size wr V := by rw [hV]; exact al1 _ _
      have hV0 : V.cell? ⟨wr.heap.size, 0, none⟩ = some (.int .i64 x.left) := by rw [hV]; simp
      have hV1 : V.cell? ⟨wr.heap.size, 1, none⟩ = some (.slice ar x.right.length cr) := by rw [hV]; simp
      have belV : Below w.heap.size w V := bthen bel hVb
      have tV := tr.below hVb
      have a0 := alcell t0 (.cells #[.int .i64 x.left, .slice ar x.right.length cr] 77)
      have u0 := bkeep hVb t0
      have u1 := bkeep hVb t1
      have cV := hc.lw hVb
      by_cases h10 : 10 < x.right.length
      · have hRx : R = (6, (k : Int)) := by rw [HR1.out, ruF_many h10]; rfl
        subst hRx
        go_wp2_with fail
        rw [← hV]
        have HV := hd hV
        clear hV
        refine (rF_any _ _ _).mono ?_
        rintro e wf ⟨rfl, hbf⟩
        have rf := tV.below hbf
        have q0 := rf.c0
        have q1 := rf.c1
        have qf := rf.fz
        have bf : Below w.heap.size w wf := bthen belV hbf
        go_wp2_with fail
        refine bodyPost_ret (v := .agg #[.int .i64 6, .int .i64 k]) (by simp [results, Try.results54, go_sem, q0, q1]) rfl ⟨rfl, ?_⟩
        exact (bf.setCell (p := ⟨w.heap.size + 1, 0, none⟩) (Nat.le_succ _) _).setCell (p := ⟨w.heap.size + 1, 1, none⟩) (Nat.le_succ _) _
      by_cases hL : 0 ≤ x.left ∧ x.left < g.vars
      rotate_left
      · have hRx : R = (9, (k : Int)) := by rw [HR1.out, ruF_left h10 hL]; rfl
        subst hRx
        have hL' : x.left < 0 ∨ (0 ≤ x.left ∧ g.vars ≤ x.left) := by omega
        clear hL
        rcases hL' with hL | ⟨hL, hL1⟩
        all_goals
          go_wp2_with fail
          rw [← hV]
          have HV := hd hV
          clear hV
          refine (rF_any _ _ _).mono ?_
          rintro e wf ⟨rfl, hbf⟩
          have rf := tV.below hbf
          have q0 := rf.c0
          have q1 := rf.c1
          have qf := rf.fz
          have bf : Below w.heap.size w wf := bthen belV hbf
          go_wp2_with fail
          refine bodyPost_ret (v := .agg #[.int .i64 9, .int .i64 k]) (by simp [results, Try.results54, go_sem, q0, q1]) rfl ⟨rfl, ?_⟩
          exact (bf.setCell (p := ⟨w.heap.size + 1, 0, none⟩) (Nat.le_succ _) _).setCell (p := ⟨w.heap.size + 1, 1, none⟩) (Nat.le_succ _) _
      obtain ⟨hL0, hL1⟩ := hL
      go_wp2_with fail
      rw [← hV]
      have HV := hd hV
      clear hV
      go_loopw [5] (fun i wj => ∃ j : Nat, j ≤ x.right.length ∧ i = .int .i64 j ∧ Hid (∀ q (h : q < x.right.length), q < j → -g.terms ≤ x.right[q] ∧ x.right[q] < g.vars) ∧ Below V.heap.size V wj) (fun i _ => x.right.length - (intOf i).toNat)
      case atStart => exact ⟨0, Nat.zero_le _, rfl, hd (fun q _ hq => absurd hq (Nat.not_lt_zero _)), Below.refl _ _⟩
      case round =>
        rename World => wj
        obtain ⟨j, hj, rfl, hall, hbj⟩ := hrel
        have v0 := bkeep hbj u0
        have v1 := bkeep hbj u1
        have y0 := bkeep hbj hV0
        have y1 := bkeep hbj hV1
        by_cases hjl : j < x.right.length
        · obtain ⟨br, or', rfl, z0⟩ := (cV.lw hbj).at_ hjl
          have HN := hd (ruF_sym h10 (g := g) hjl)
          have HY : Hid (-g.terms ≤ x.right[j] ∧ x.right[j] < g.vars → ∀ q (h : q < x.right.length), q < j + 1 → -g.terms ≤ x.right[q] ∧ x.right[q] < g.vars) := hd (fun e q h hq => by
            by_cases eq : q = j
            · subst eq; exact e
            · exact hall.out q h (by omega))
          generalize x.right[j] = s at *
          have r0 := fun z : Wd wj => z.cell v0
          have r1 := fun z : Wd wj => z.cell v1
          have p0 := fun z : Wd wj => z.cell y0
          have p1 := fun z : Wd wj => z.cell y1
          have e0 := fun z : Wd wj => z.cell z0
          have wne : Nonempty (Wd wj) := Wd.ne _
          have HJL := hd hjl
          by_cases hok : -g.terms ≤ s ∧ s < g.vars
          · have HY' := hd (HY.out hok)
            obtain ⟨k1, k2⟩ := hok
            have g1 : decide (s < -g.terms) = false := by simpa using k1
            have g2 : decide (g.vars ≤ s) = false := by simpa using k2
            go_wp2_with fail
            refine region_quiet_lit (C := fun w' => ∃ z : Wd wj, w' = z.u) (by kernel_rfl) (by kernel_rfl) (Wd.drawn _) ?_
            iterate 19 (go_big_quiet_step (fail))
            refine wpQuiet_nil ?_
            intro _ hw'
            obtain ⟨z, hw''⟩ := hw'
            subst hw''
            have bz := bthen hbj z.h
            go_wp2_with fail
            go_roundw
            case rel => exact ⟨j + 1, by omega, by go_num, HY', bz⟩
            case measure => simp [intOf]; omega
          · have hRx : R = (9, (k : Int)) := by rw [HR1.out, HN.out hok]; rfl
            subst hRx
            have hok' : s < -g.terms ∨ (-g.terms ≤ s ∧ g.vars ≤ s) := by omega
            clear hok
            rcases hok' with k1 | ⟨k1, k2⟩
            · have g1 : decide (s < -g.terms) = true := by simpa using k1
              go_wp2_with fail
              refine region_quiet_lit (C := fun w' => ∃ z : Wd wj, w' = z.u) (by kernel_rfl) (by kernel_rfl) (Wd.drawn _) ?_
              iterate 19 (go_big_quiet_step (fail))
              refine wpQuiet_nil ?_
              intro _ hw'
              obtain ⟨z, hw''⟩ := hw'
              subst hw''
              have bz := bthen belV (bthen hbj z.h)
              have tz := (tV.below hbj).below z.h
              go_wp2_with fail
              refine (rF_any _ _ _).mono ?_
              rintro e wf ⟨rfl, hbf⟩
              have rf := tz.below hbf
              have q0 := rf.c0
              have q1 := rf.c1
              have qf := rf.fz
              have bf : Below w.heap.size w wf := bthen bz hbf
              go_wp2_with fail
              refine bodyPost_ret (v := .agg #[.int .i64 9, .int .i64 k]) (by simp [results, Try.results54, go_sem, q0, q1]) rfl ⟨rfl, ?_⟩
              exact (bf.setCell (p := ⟨w.heap.size + 1, 0, none⟩) (Nat.le_succ _) _).setCell (p := ⟨w.heap.size + 1, 1, none⟩) (Nat.le_succ _) _
            · have g1 : decide (s < -g.terms) = false := by simpa using k1
              have g2 : decide (g.vars ≤ s) = true := by simpa using k2
              go_wp2_with fail
              refine region_quiet_lit (C := fun w' => ∃ z : Wd wj, w' = z.u) (by kernel_rfl) (by kernel_rfl) (Wd.drawn _) ?_
              iterate 19 (go_big_quiet_step (fail))
              refine wpQuiet_nil ?_
              intro _ hw'
              obtain ⟨z, hw''⟩ := hw'
              subst hw''
              have bz := bthen belV (bthen hbj z.h)
              have tz := (tV.below hbj).below z.h
              go_wp2_with fail
              refine (rF_any _ _ _).mono ?_
              rintro e wf ⟨rfl, hbf⟩
              have rf := tz.below hbf
              have q0 := rf.c0
              have q1 := rf.c1
              have qf := rf.fz
              have bf : Below w.heap.size w wf := bthen bz hbf
              go_wp2_with fail
              refine bodyPost_ret (v := .agg #[.int .i64 9, .int .i64 k]) (by simp [results, Try.results54, go_sem, q0, q1]) rfl ⟨rfl, ?_⟩
              exact (bf.setCell (p := ⟨w.heap.size + 1, 0, none⟩) (Nat.le_succ _) _).setCell (p := ⟨w.heap.size + 1, 1, none⟩) (Nat.le_succ _) _
        · have HR2 : Hid (R = rsF g (g.rules.drop (k + 1)) (k + 1)) := hd (by rw [HR1.out, if_pos (ruF_ok h10 ⟨hL0, hL1⟩ (fun q h => hall.out q h (by omega)))])
          have bz := bthen hb (bthen hVb hbj)
          go_wp2_with fail
          go_roundw
          case rel => exact ⟨k + 1, by omega, by go_num, HR2, bz⟩
          case measure => simp [intOf]; omega
    · have hRx : R = (0, 0) := by rw [hR.out, rsF_end (by omega)]
      subst hRx
      have q0 := tr.c0
      have q1 := tr.c1
      have qf := tr.fz
      go_wp2_with fail
      refine bodyPost_ret (v := .agg #[.int .i64 0, .int .i64 0]) (by simp [results, Try.results54, go_sem, q0, q1]) rfl ⟨rfl, ?_⟩
      exact (bel.setCell (p := ⟨w.heap.size + 1, 0, none⟩) (Nat.le_succ _) _).setCell (p := ⟨w.heap.size + 1, 1, none⟩) (Nat.le_succ _) _
end Go.Proofs.Ytlhdppkllmnmkad.G
