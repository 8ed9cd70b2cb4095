/- Texts laid together: Open Tn Ot StT Dl. -/
import Derived.Test.YtcanphhmflbdmacL29
import Derived.ChangeArms
import Derived.DataReads
import Derived.WideShapes
import Derived.OpenShut
import Derived.Test.YtcanphhmflbdmacL28
import Derived.Test.YtcanphhmflbdmacL19
import Derived.Deep.RegionHeldLaw
import Derived.Test.YtcanphhmflbdmacL17
/- A text that comes in: what its reading says of its cells. -/
namespace Go.Proofs.Ytcanphhmflbdmac
open Go.RowKit Go.WideShapes
def Fo.of (f : Nat → Xp) : Nat → Nat → Fo
  | _, 0 => .nil
  | s, n + 1 => .cons (f s).op (f s).nm (f s).kids (Fo.of f (s + 1) n)
theorem Fo.of_len (f : Nat → Xp) : ∀ s n, (Fo.of f s n).len = n
  | _, 0 => rfl
  | s, n + 1 => by simp [Fo.of, Fo.len, Fo.of_len f (s + 1) n]
theorem Fo.of_in {w : World} {f : Nat → Xp} {b o : Nat} : ∀ s n, (∀ i, s ≤ i → i < s + n → XIn w Go.Proofs.Ytcanphhmflbdmac.All (f i) b (o + i * 3)) → (Fo.of f s n).In w Go.Proofs.Ytcanphhmflbdmac.All b (o + s * 3)
  | _, 0, _ => trivial
  | s, n + 1, h => by
    obtain ⟨h1, h2, u, h3, hl, ao, cap, rfl, hin⟩ := h s (Nat.le_refl _) (by omega)
    refine ⟨trivial, h1, h2, ⟨hl, ao, cap, h3, hin⟩, ?_⟩
    have := Fo.of_in (w := w) (f := f) (b := b) (o := o) (s + 1) n fun i h1 h2 => h i (by omega) (by omega)
    rwa [show o + (s + 1) * 3 = o + s * 3 + 3 by omega] at this
def dsOf (f : Nat → Df) : Nat → Nat → List Df
  | _, 0 => []
  | s, n + 1 => f s :: dsOf f (s + 1) n
theorem dsOf_len (f : Nat → Df) : ∀ s n, (dsOf f s n).length = n
  | _, 0 => rfl
  | s, n + 1 => by simp [dsOf, dsOf_len f (s + 1) n]
theorem dsOf_in {w : World} {f : Nat → Df} {b o : Nat} : ∀ s n, (∀ i, s ≤ i → i < s + n → w.cell? ⟨b, o + i * 5, none⟩ = some (.string (f i).nm) ∧ w.cell? ⟨b, o + i * 5 + 1, none⟩ = some (.int .i64 (f i).at_) ∧ XIn w All (f i).e b (o + i * 5 + 2)) → DsIn w All (dsOf f s n) b (o + s * 5)
  | _, 0, _ => trivial
  | s, n + 1, h => by
    obtain ⟨h1, h2, h3⟩ := h s (Nat.le_refl _) (by omega)
    refine ⟨trivial, h1, h2, h3, ?_⟩
    have := dsOf_in (w := w) (f := f) (b := b) (o := o) (s + 1) n fun i h1 h2 => h i (by omega) (by omega)
    rwa [show o + (s + 1) * 5 = o + s * 5 + 5 by omega] at this
theorem pick_lt {α : Type} [Inhabited α] {n : Nat} {p : Nat → α → Prop} (h : ∀ i, i < n → ∃ x, p i x) : ∃ f : Nat → α, ∀ i, i < n → p i (f i) := by
  classical
  refine ⟨fun i => if hi : i < n then Classical.choose (h i hi) else default, fun i hi => ?_⟩
  simp only [dif_pos hi]
  exact Classical.choose_spec (h i hi)
section
variable {H : Type} {enc : TypeId × Value → H} {w : World} {base : Nat} {spare : Nat → Bool} {held : Bool}
theorem cellsExpr : Try.prog.cellsOf 64 = 3 := by kernel_rfl
theorem cellsDef : Try.prog.cellsOf 66 = 5 := by kernel_rfl
theorem cellsText : Try.prog.cellsOf 42 = 1 := by kernel_rfl
theorem cellsInt : Try.prog.cellsOf 3 = 1 := by kernel_rfl
theorem cellsStr : Try.prog.cellsOf 9 = 1 := by kernel_rfl
theorem cellsExprs : Try.prog.cellsOf 62 = 1 := by kernel_rfl
theorem cellsDefs : Try.prog.cellsOf 40 = 1 := by kernel_rfl
/-- An address of a cell that is there. -/
theorem plain_addr {a : Addr} {v : Value} (h : w.cell? (a.add 0) = some v) : ∃ b o, a = ⟨b, o, none⟩ := by
  obtain ⟨b, o, s⟩ := a
  have hs : s = none := by simpa [Addr.add] using World.cell?_spot h
  exact ⟨b, o, by rw [hs]⟩
theorem addr_add (b o i : Nat) : (⟨b, o, none⟩ : Addr).add i = ⟨b, o + i, none⟩ := by
  unfold Addr.add
  by_cases h : i = 0 <;> simp [h]
set_option maxRecDepth 100000 in
theorem open_expr : ∀ (fuel : Nat) (cs : List Value) (x : DataW H × List MemPlace), DataW.trod enc Try.prog w base spare held fuel 64 cs = some x → ∃ (y : Xp) (u : Value), cs = [.int .i64 y.op, .string y.nm, u] ∧ FoV w All u y.kids := by
  intro fuel
  induction fuel using Nat.strongRecOn with
  | _ fuel ih =>
    intro cs x h
    obtain ⟨xs, n, rfl, rfl, hl, hlen, hf⟩ := DataW.trod_struct Try.underlying64 h
    rw [cellsExpr] at hl
    match cs, hl with
    | [a, b, c], _ =>
    match xs, hlen with
    | [y0, y1, y2], _ =>
    have f0 : DataW.trod enc Try.prog w base spare held n 3 (([a, b, c].drop 0).take (Try.prog.cellsOf 3)) = some y0 := hf 0 _ rfl
    have f1 : DataW.trod enc Try.prog w base spare held n 9 (([a, b, c].drop 1).take (Try.prog.cellsOf 9)) = some y1 := hf 1 _ rfl
    have f2 : DataW.trod enc Try.prog w base spare held n 62 (([a, b, c].drop 2).take (Try.prog.cellsOf 62)) = some y2 := hf 2 _ rfl
    rw [cellsInt] at f0
    rw [cellsStr] at f1
    rw [cellsExprs] at f2
    obtain ⟨op, e0, _, _⟩ := DataW.trod_int Try.underlying3 f0
    obtain ⟨nm, e1, _, _⟩ := DataW.trod_string Try.underlying9 f1
    simp at e0 e1
    subst e0 e1
    rcases DataW.trod_slice Try.underlying62 f2 with ⟨e2, _⟩ | ⟨ad, len, cap, elems, rest, m, rfl, e2, _, hb, hlc, hcm, hel, hall, _, _⟩
    · simp at e2
      subst e2
      exact ⟨⟨op, nm, .nil⟩, _, rfl, FoV_nil _ _⟩
    · simp at e2
      subst e2
      rw [cellsExpr] at hall
      have one : ∀ i, i < len → ∃ y : Xp, ∃ u, w.cell? (ad.add (i * 3)) = some (.int .i64 y.op) ∧ w.cell? ((ad.add (i * 3)).add 1) = some (.string y.nm) ∧ w.cell? ((ad.add (i * 3)).add 2) = some u ∧ FoV w All u y.kids := by
        intro i hi
        have h1 := hall i hi
        rw [List.getElem?_eq_getElem (by omega)] at h1
        obtain ⟨cs', h2, h3⟩ := Option.bind_eq_some_iff.1 h1
        obtain ⟨y, u, rfl, hy⟩ := ih m (by omega) cs' _ h3
        obtain ⟨_, _, hc⟩ := World.cells?_some h2
        have c0 := hc 0 (by omega)
        have c1 := hc 1 (by omega)
        have c2 := hc 2 (by omega)
        refine ⟨y, u, ?_, c1, c2, hy⟩
        have : (ad.add (i * 3)).add 0 = ad.add (i * 3) := by unfold Addr.add; simp
        rw [← this]; exact c0
      have hin : Inhabited Xp := ⟨⟨0, ⟨#[]⟩, .nil⟩⟩
      obtain ⟨f, hff⟩ := pick_lt one
      have hmx : cap ≤ 9223372036854775807 := by unfold maxLen at hcm; omega
      refine ⟨⟨op, nm, Fo.of f 0 len⟩, _, rfl, by rw [Fo.of_len]; omega, some ad, cap, by rw [Fo.of_len], ?_⟩
      rw [Fo.of_len]
      by_cases h0 : len = 0
      · exact .inl h0
      · right
        obtain ⟨u, g0, _⟩ := hff 0 (by omega)
        obtain ⟨b', o', rfl⟩ := plain_addr (w := w) (a := ad) (by simpa using g0)
        refine ⟨b', o', rfl, ?_⟩
        have := Fo.of_in (w := w) (f := f) (b := b') (o := o') 0 len fun i _ hi => by
          obtain ⟨u, g0, g1, g2, g3⟩ := hff i (by omega)
          rw [addr_add] at g0 g1 g2
          rw [addr_add] at g1 g2
          exact ⟨g0, g1, u, g2, g3⟩
        simpa using this
set_option maxRecDepth 100000 in
theorem open_def {fuel : Nat} {cs : List Value} {x : DataW H × List MemPlace} (h : DataW.trod enc Try.prog w base spare held fuel 66 cs = some x) : ∃ (y : Df) (u : Value), cs = [.string y.nm, .int .i64 y.at_, .int .i64 y.e.op, .string y.e.nm, u] ∧ FoV w All u y.e.kids := by
  obtain ⟨xs, n, rfl, rfl, hl, hlen, hf⟩ := DataW.trod_struct Try.underlying66 h
  rw [cellsDef] at hl
  match cs, hl with
  | [a, b, c, d, e], _ =>
  match xs, hlen with
  | [y0, y1, y2], _ =>
  have f0 : DataW.trod enc Try.prog w base spare held n 9 (([a, b, c, d, e].drop 0).take (Try.prog.cellsOf 9)) = some y0 := hf 0 _ rfl
  have f1 : DataW.trod enc Try.prog w base spare held n 3 (([a, b, c, d, e].drop 1).take (Try.prog.cellsOf 3)) = some y1 := hf 1 _ rfl
  have f2 : DataW.trod enc Try.prog w base spare held n 64 (([a, b, c, d, e].drop 2).take (Try.prog.cellsOf 64)) = some y2 := hf 2 _ rfl
  rw [cellsInt] at f1
  rw [cellsStr] at f0
  rw [cellsExpr] at f2
  obtain ⟨nm, e0, _, _⟩ := DataW.trod_string Try.underlying9 f0
  obtain ⟨at_, e1, _, _⟩ := DataW.trod_int Try.underlying3 f1
  obtain ⟨y, u, e2, hy⟩ := open_expr _ _ _ f2
  simp at e0 e1 e2
  obtain ⟨rfl, rfl, rfl⟩ := e2
  subst e0 e1
  exact ⟨⟨nm, at_, y⟩, _, rfl, hy⟩
set_option maxRecDepth 100000 in
theorem open_text {v : Value} {d : DataW H} {ps : List MemPlace} {b2 : Nat} (hv : Value.okWide Try.prog w .any b2 42 v) (h : DataW.Trod enc Try.prog w base spare held 42 v d ps) : ∃ (ds : List Df) (u : Value), v = .agg #[u] ∧ DsV w All u ds := by
  obtain ⟨vs, rfl, hvs⟩ := okWide_struct Try.underlying42 hv
  obtain ⟨fuel, h⟩ := h
  rw [cellsText] at hvs
  obtain ⟨xs, n, rfl, hd, hl, hlen, hf⟩ := DataW.trod_struct Try.underlying42 h
  rw [cellsText] at hl
  obtain ⟨u, rfl⟩ : ∃ u, vs = #[u] := by
    obtain ⟨l⟩ := vs
    match l, hvs with
    | [u], _ => exact ⟨u, rfl⟩
  match xs, hlen with
  | [y0], _ =>
  have f0 : DataW.trod enc Try.prog w base spare held n 40 (([u].drop 0).take (Try.prog.cellsOf 40)) = some y0 := hf 0 _ rfl
  rw [cellsDefs] at f0
  rcases DataW.trod_slice Try.underlying40 f0 with ⟨e2, _⟩ | ⟨ad, len, cap, elems, rest, m, rfl, e2, _, hb, hlc, hcm, hel, hall, _, _⟩
  · have e3 : u = .slice none 0 0 := by simpa using e2
    subst e3
    exact ⟨[], _, rfl, by simp, none, 0, rfl, .inl rfl⟩
  · have e3 : u = .slice (some ad) len cap := by simpa using e2
    subst e3
    rw [cellsDef] at hall
    have one : ∀ i, i < len → ∃ y : Df, ∃ u, w.cell? (ad.add (i * 5)) = some (.string y.nm) ∧ w.cell? ((ad.add (i * 5)).add 1) = some (.int .i64 y.at_) ∧ w.cell? ((ad.add (i * 5)).add 2) = some (.int .i64 y.e.op) ∧ w.cell? ((ad.add (i * 5)).add 3) = some (.string y.e.nm) ∧ w.cell? ((ad.add (i * 5)).add 4) = some u ∧ FoV w All u y.e.kids := by
      intro i hi
      have h1 := hall i hi
      rw [List.getElem?_eq_getElem (by omega)] at h1
      obtain ⟨cs', h2, h3⟩ := Option.bind_eq_some_iff.1 h1
      obtain ⟨y, u, rfl, hy⟩ := open_def h3
      obtain ⟨_, _, hc⟩ := World.cells?_some h2
      have c0 := hc 0 (by omega)
      refine ⟨y, u, ?_, hc 1 (by omega), hc 2 (by omega), hc 3 (by omega), hc 4 (by omega), hy⟩
      have : (ad.add (i * 5)).add 0 = ad.add (i * 5) := by unfold Addr.add; simp
      rw [← this]; exact c0
    have hin : Inhabited Df := ⟨⟨⟨#[]⟩, 0, ⟨0, ⟨#[]⟩, .nil⟩⟩⟩
    obtain ⟨f, hff⟩ := pick_lt one
    have hmx : cap ≤ 9223372036854775807 := by unfold maxLen at hcm; omega
    refine ⟨dsOf f 0 len, _, rfl, by rw [dsOf_len]; omega, some ad, cap, by rw [dsOf_len], ?_⟩
    rw [dsOf_len]
    by_cases h0 : len = 0
    · exact .inl h0
    · right
      obtain ⟨u, g0, _⟩ := hff 0 (by omega)
      obtain ⟨b', o', rfl⟩ := plain_addr (w := w) (a := ad) (by simpa using g0)
      refine ⟨b', o', rfl, ?_⟩
      have := dsOf_in (w := w) (f := f) (b := b') (o := o') 0 len fun i _ hi => by
        obtain ⟨u, g0, g1, g2, g3, g4, g5⟩ := hff i (by omega)
        rw [addr_add] at g0 g1 g2 g3 g4
        rw [addr_add] at g1 g2 g3 g4
        exact ⟨g0, g1, g2, g3, u, g4, g5⟩
      simpa using this
end
end Go.Proofs.Ytcanphhmflbdmac

/- Definitions turned round, in memory. -/
namespace Go.Proofs.Ytcanphhmflbdmac
open Go.RowKit
/-- A step: what was there is as it was. -/
structure Stp (a b : World) : Prop where
  h : Below a.heap.size a b
theorem stk {W a b : World} {p q : Nat} {u v : Value} (st : Stp a b) (h : Below W.heap.size W a ∧ a.cell? ⟨p, 0, none⟩ = some u ∧ a.cell? ⟨q, 0, none⟩ = some v) :
    Below W.heap.size W b ∧ b.cell? ⟨p, 0, none⟩ = some u ∧ b.cell? ⟨q, 0, none⟩ = some v := ⟨h.1.trans (st.h.mono h.1.size), bkeep st.h h.2.1, bkeep st.h h.2.2⟩
theorem DsIn.drop {w : World} {S : Nat → Prop} {b : Nat} : ∀ {ds : List Df} {o : Nat} (k : Nat), DsIn w S ds b o → DsIn w S (ds.drop k) b (o + k * 5)
  | _, _, 0, h => h
  | [], _, _ + 1, _ => trivial
  | _ :: l, o, k + 1, ⟨_, _, _, _, h⟩ => by
    have := DsIn.drop (ds := l) k h
    rw [show o + 5 + k * 5 = o + (k + 1) * 5 by omega] at this
    exact this
theorem DsIn.take {w : World} {S : Nat → Prop} {b : Nat} : ∀ {ds : List Df} {o : Nat} (k : Nat), DsIn w S ds b o → DsIn w S (ds.take k) b o
  | [], _, 0, _ => trivial
  | _ :: _, _, 0, _ => trivial
  | [], _, _ + 1, _ => trivial
  | _ :: l, _, k + 1, ⟨h1, h2, h3, h4, h⟩ => ⟨h1, h2, h3, h4, DsIn.take (ds := l) k h⟩
/-- The cells of what lies in memory. -/
theorem DsIn.cells {w : World} {S : Nat → Prop} {b : Nat} : ∀ {ds : List Df} {o : Nat}, DsIn w S ds b o → ∃ xs : List Value, xs.length = ds.length * 5 ∧ DC w S xs ds ∧ (∀ u ∈ xs, u.oneCell' = true) ∧ ∀ j u, xs[j]? = some u → w.cell? ⟨b, o + j, none⟩ = some u
  | [], _, _ => ⟨[], rfl, trivial, by simp, fun j u h => by simp at h⟩
  | d :: l, o, ⟨_, h2, h3, ⟨h4, h5, u, h6, h7⟩, h8⟩ => by
    obtain ⟨xs, e1, e2, e3, e4⟩ := DsIn.cells h8
    have h7' := h7
    obtain ⟨_, ao, cap, rfl, _⟩ := h7'
    refine ⟨.string d.nm :: .int .i64 d.at_ :: .int .i64 d.e.op :: .string d.e.nm :: .slice ao d.e.kids.len cap :: xs, by simp [e1]; omega, ⟨rfl, rfl, rfl, rfl, h7, e2⟩, ?_, ?_⟩
    · intro u hu
      simp only [List.mem_cons] at hu
      rcases hu with rfl | rfl | rfl | rfl | rfl | hu
      iterate 5 rfl
      exact e3 u hu
    · intro j v hj
      match j, hj with
      | 0, hj => simp at hj; subst hj; simpa using h2
      | 1, hj => simp at hj; subst hj; simpa using h3
      | 2, hj => simp at hj; subst hj; simpa using h4
      | 3, hj => simp at hj; subst hj; simpa using h5
      | 4, hj => simp at hj; subst hj; simpa using h6
      | j + 5, hj =>
        have := e4 j v (by simpa using hj)
        rwa [show o + 5 + j = o + (j + 5) by omega] at this
theorem DC.app {w : World} {S : Nat → Prop} : ∀ {xs ys : List Value} {ds es : List Df}, DC w S xs ds → DC w S ys es → DC w S (xs ++ ys) (ds ++ es)
  | [], _, [], _, _, h => h
  | a :: b :: c :: d :: e :: xs, _, x :: l, _, ⟨h1, h2, h3, h4, h5, h6⟩, h => ⟨h1, h2, h3, h4, h5, DC.app h6 h⟩
  | [], _, _ :: _, _, h, _ => by simp [DC] at h
  | [_], _, _, _, h, _ => by simp [DC] at h
  | [_, _], _, _, _, h, _ => by simp [DC] at h
  | [_, _, _], _, _, _, h, _ => by simp [DC] at h
  | [_, _, _, _], _, _, _, h, _ => by simp [DC] at h
  | _ :: _ :: _ :: _ :: _ :: _, _, [], _, h, _ => by simp [DC] at h
theorem turn_perm (ds : List Df) (k : Nat) : ds.Perm (ds.drop k ++ ds.take k) := by
  have h : (ds.take k ++ ds.drop k).Perm (ds.drop k ++ ds.take k) := List.perm_append_comm
  rwa [List.take_append_drop] at h
section
variable {H : Type} {enc : TypeId × Value → H} {w : World} {base : Nat} {spare : Nat → Bool} {held : Bool}
set_option maxRecDepth 100000 in
theorem open_cap {ao : Option Addr} {n cap : Nat} {d : DataW H} {ps : List MemPlace} (h : DataW.Trod enc Try.prog w base spare held 42 (.agg #[.slice ao n cap]) d ps) : n ≤ cap ∧ cap ≤ 9223372036854775807 := by
  obtain ⟨fuel, h⟩ := h
  obtain ⟨xs, m, rfl, hd, hl, hlen, hf⟩ := DataW.trod_struct Try.underlying42 h
  match xs, hlen with
  | [y0], _ =>
  have f0 : DataW.trod enc Try.prog w base spare held m 40 (([Value.slice ao n cap].drop 0).take (Try.prog.cellsOf 40)) = some y0 := hf 0 _ rfl
  rw [cellsDefs] at f0
  rcases DataW.trod_slice Try.underlying40 f0 with ⟨e2, _⟩ | ⟨ad, len, cap', elems, rest, m, rfl, e2, _, hb, hlc, hcm, _⟩
  · have e3 : Value.slice ao n cap = .slice none 0 0 := by simpa using e2
    simp at e3
    omega
  · have e3 : Value.slice ao n cap = .slice (some ad) len cap' := by simpa using e2
    simp at e3
    unfold maxLen at hcm
    omega
end
theorem turn_num (n : Int) {m : Nat} (h : ¬ m = 0) (h60 : m ≤ 60) : ∃ k : Nat, k < m ∧ wrap64 ((IntKind.u64.wrap n).tmod m) = (k : Int) := by
  have h1 : 0 ≤ IntKind.u64.wrap n := by
    have e : IntKind.u64.wrap n = n % 2 ^ 64 := rfl
    rw [e]; omega
  have h2 := Int.tmod_nonneg (m : Int) h1
  have h3 : (IntKind.u64.wrap n).tmod (m : Int) < m := Int.tmod_lt_of_pos _ (by omega)
  generalize (IntKind.u64.wrap n).tmod (m : Int) = x at *
  refine ⟨x.toNat, by omega, ?_⟩
  unfold wrap64
  omega
theorem grown_below {w w' : World} (h : w.grownBy w' none) : Below w.heap.size w w' := ⟨h.os, h.tape, h.output, h.size, fun k hk => h.block k hk (by simp)⟩
section
variable {W x z : World} {p p' q r : Nat} {u v : Value} {F1 F2 : Int}
theorem two_set (hr : RB x p) (hS : Below W.heap.size W x ∧ x.cell? ⟨q, 0, none⟩ = some u ∧ x.cell? ⟨r, 0, none⟩ = some v) (hl : W.heap.size ≤ p) (hq : q < W.heap.size) (hr' : r < W.heap.size)
    (hz : z = (x.setCell ⟨p, 0, none⟩ (.int .i64 F1)).setCell ⟨p, 1, none⟩ (.int .i64 F2)) :
    (Below W.heap.size W z ∧ z.cell? ⟨q, 0, none⟩ = some u ∧ z.cell? ⟨r, 0, none⟩ = some v) ∧ z.cell? ⟨p, 0, none⟩ = some (.int .i64 F1) ∧ z.cell? ⟨p, 1, none⟩ = some (.int .i64 F2) := by
  subst hz
  have far : ∀ b, b < W.heap.size → ((x.setCell ⟨p, 0, none⟩ (.int .i64 F1)).setCell ⟨p, 1, none⟩ (.int .i64 F2)).cell? ⟨b, 0, none⟩ = x.cell? ⟨b, 0, none⟩ := fun b hb => by
    rw [World.cell?_setCell_other _ _ _ _ (by simp <;> omega), World.cell?_setCell_other _ _ _ _ (by simp <;> omega)]
  refine ⟨⟨(hS.1.setCell (p := ⟨p, 0, none⟩) hl _).setCell (p := ⟨p, 1, none⟩) hl _, (far q hq).trans hS.2.1, (far r hr').trans hS.2.2⟩, ?_, ?_⟩
  · rw [World.cell?_setCell_other _ _ _ _ (by simp)]
    exact World.cell?_setCell_same _ _ _ hr.c0
  · exact World.cell?_setCell_same _ _ _ ((World.cell?_setCell_other _ _ _ _ (by simp)).trans hr.c1)
theorem two_set_other (hr : RB x p') (hne : p' ≠ p) (hz : z = (x.setCell ⟨p, 0, none⟩ (.int .i64 F1)).setCell ⟨p, 1, none⟩ (.int .i64 F2)) : RB z p' := by
  have hb : z.heap[p']? = x.heap[p']? := by
    rw [hz, Below.heap_setCell _ _ _ _ (by exact hne), Below.heap_setCell _ _ _ _ (by exact hne)]
  exact ⟨(World.cell?_of_block (a := ⟨p', 0, none⟩) hb).trans hr.c0, (World.cell?_of_block (a := ⟨p', 1, none⟩) hb).trans hr.c1, fun i => (World.frozen?_of_block (a := ⟨p', i, none⟩) hb).trans (hr.fz i)⟩
theorem two_set_keep {a b : Value} (h : x.cell? ⟨p', 0, none⟩ = some a ∧ x.cell? ⟨p', 1, none⟩ = some b) (hne : p' ≠ p) (hz : z = (x.setCell ⟨p, 0, none⟩ (.int .i64 F1)).setCell ⟨p, 1, none⟩ (.int .i64 F2)) : z.cell? ⟨p', 0, none⟩ = some a ∧ z.cell? ⟨p', 1, none⟩ = some b := by
  have hb : z.heap[p']? = x.heap[p']? := by
    rw [hz, Below.heap_setCell _ _ _ _ (by exact hne), Below.heap_setCell _ _ _ _ (by exact hne)]
  exact ⟨(World.cell?_of_block (a := ⟨p', 0, none⟩) hb).trans h.1, (World.cell?_of_block (a := ⟨p', 1, none⟩) hb).trans h.2⟩
end
/-- Behind a region: nothing but its normal end. -/
def CutQ (R : Act → World → Prop) : Exit → Act → World → Prop
  | .normal, a, w => R a w
  | _, _, _ => False
theorem region_cut {P : Program} {c : Code} {Q : Exit → Act → World → Prop} {a : Act} {w : World} (R : Act → Act → World → Prop) (h1 : c.wp P (CutQ (R a)) a w) (h2 : ∀ a' w', R a a' w' → Q .normal a' w') : c.wp P Q a w :=
  Code.wp_mono (fun e a' w' hr => by
    cases e
    case normal => exact h2 a' w' hr
    all_goals exact (hr : False).elim) h1
end Go.Proofs.Ytcanphhmflbdmac

/- The document's own copy of a text. -/
namespace Go.Proofs.Ytcanphhmflbdmac
open Go.RowKit
theorem take_next {ds : List Df} {k : Nat} (h : k < ds.length) : ds.take (k + 1) = ds.take k ++ [ds[k]] := by simp
set_option maxRecDepth 100000 in
set_option maxHeartbeats 16000000 in
theorem ownT_any (ds : List Df) (va : Value) (w : World) (hx : DsV w All va ds) (hd60 : ds.length ≤ 60) (hs : ∀ d ∈ ds, d.e.sz ≤ 3000) :
    Calls Try.prog 21 #[.agg #[va]] w fun e w' => ∃ v, e = .returned (.agg #[v]) ∧ DsV w' (fun k => w.heap.size ≤ k) v ds ∧ Below w.heap.size w w' := by
  obtain ⟨i0, hi, iz0, iz1, iz2⟩ := info_parts Try.infoDef
  obtain ⟨hl, ao, cap, rfl, hin⟩ := hx
  obtain ⟨V, hV⟩ : ∃ V, V = (w.alloc (.cells #[.slice ao ds.length cap] 42)).alloc (.cells #[.slice none 0 0] 42) := ⟨_, rfl⟩
  have hVz : V.heap.size = w.heap.size + 2 := by rw [hV]; simp
  obtain ⟨W, hW⟩ : ∃ W, W = V.alloc (.cells #[.slice none 0 0] 42) := ⟨_, rfl⟩
  have hVW : Below V.heap.size V W := by rw [hW]; exact al1 _ _
  have hWz : W.heap.size = w.heap.size + 3 := by rw [hW]; simp; omega
  have hVb : Below w.heap.size w V := by rw [hV]; exact al2 _ _ _
  have hWb : Below w.heap.size w W := hVb.trans (hVW.mono (by omega))
  have hW2 : W.cell? ⟨w.heap.size, 0, none⟩ = some (.slice ao ds.length cap) := bkeep hVW (by rw [hV]; simp)
  have hWr0 : W.cell? ⟨w.heap.size + 1, 0, none⟩ = some (.slice none 0 0) := bkeep hVW (by rw [hV]; simp)
  have hWrf : ∀ i, W.frozen? ⟨w.heap.size + 1, i, none⟩ = false := fun i => by
    rw [World.frozen?_of_block (w := V) (a := ⟨w.heap.size + 1, i, none⟩) (hVW.block (w.heap.size + 1) (by omega)), hV]; simp [go_sem]
  have hWo : W.cell? ⟨w.heap.size + 2, 0, none⟩ = (V.alloc (.cells #[.slice none 0 0] 42)).cell? ⟨V.heap.size, 0, none⟩ := by rw [hW, hVz]
  have hWo0 : W.cell? ⟨w.heap.size + 2, 0, none⟩ = some (.slice none 0 0) := by rw [hWo]; simp
  have hWof : ∀ i, W.frozen? ⟨w.heap.size + 2, i, none⟩ = false := fun i => by rw [hW, ← hVz]; simp [go_sem]
  clear hWo
  go_enter Try.func21, Try.ntmps21
  go_wp2_with fail
  rw [← hV, ← hW]
  have HW := hd hW
  have HV := hd hV
  have HS := hd hs
  clear hW hV hs
  go_loopw [4] (fun i wr => ∃ (k : Nat) (v : Value) (xs : List Value), k ≤ ds.length ∧ i = .int .i64 k ∧ wr.ownsRow (w.heap.size + 3) 66 5 v k xs ∧ DC wr (fun q => w.heap.size + 3 ≤ q ∧ v.ownBlock ≠ some q) xs (ds.take k) ∧
    wr.cell? ⟨w.heap.size + 2, 0, none⟩ = some v ∧ (∀ i, wr.frozen? ⟨w.heap.size + 2, i, none⟩ = false) ∧ But (w.heap.size + 2) W wr) (fun i _ => ds.length - (intOf i).toNat)
  case atStart => exact ⟨0, .slice none 0 0, [], Nat.zero_le _, rfl, World.ownsRow_nil _ _ _ _, trivial, hWo0, hWof, But.refl _ _⟩
  case round =>
    obtain ⟨k, v, xs, hk, rfl, hown, hfc, o2, hof, hbt⟩ := hrel
    have hz := hbt.size
    have bel : Below w.heap.size w wr := hWb.trans (hbt.below (by omega) (by omega))
    have s2 : wr.cell? ⟨w.heap.size, 0, none⟩ = some (.slice ao ds.length cap) := by rw [hbt.cell (by omega) (by omega)]; exact hW2
    by_cases hlt : k < ds.length
    · obtain h0 | ⟨ba, oa, rfl, hia⟩ := hin
      · omega
      have kA : ∀ b o v, All b → w.cell? ⟨b, o, none⟩ = some v → All b ∧ wr.cell? ⟨b, o, none⟩ = some v := keep_cell (fun _ _ h => h) (Kp.of_below bel).block
      obtain ⟨an, aa, ax⟩ := (hia.mono kA).at_ k hlt
      obtain ⟨ua, a0, a1, a2, hxa⟩ := ax.xv
      have hxa' := hxa
      obtain ⟨_, e, _, aoa', capa', rfl, _⟩ := hxa'
      simp at e; subst e
      have hds := HS.out ds[k] (List.getElem_mem hlt)
      have HTK := hd (take_next hlt)
      have HLT := hd hlt
      generalize ds[k] = dk at *
      have IH := fun w hx => ow_any dk.e (.agg #[.int .i64 dk.e.op, .string dk.e.nm, .slice aoa' dk.e.kids.len capa']) w hx hds
      have hvl : ∀ q, v.ownBlock = some q → w.heap.size + 3 ≤ q ∧ q < wr.heap.size := fun q e => hown.lt q e
      obtain ⟨aov, capv, rfl⟩ := owns_slice hown
      obtain ⟨U, hU⟩ : ∃ U, U = wr.alloc (.cells #[.string dk.nm, .int .i64 dk.at_, .int .i64 dk.e.op, .string dk.e.nm, .slice aoa' dk.e.kids.len capa'] 66) := ⟨_, rfl⟩
      have hUb : Below wr.heap.size wr U := by rw [hU]; exact al1 _ _
      have hUz : U.heap.size = wr.heap.size + 1 := by rw [hU]; simp
      have uby : By U wr.heap.size dk aoa' capa' := by rw [hU]; exact By.new _ _ _ _
      have drw : Below U.heap.size U U.drew := ⟨rfl, rfl, rfl, Nat.le_refl _, fun _ _ => rfl⟩
      have IHd := IH U.drew ((hxa.below hUb).below drw)
      have hown0 : U.drew.ownsRow (w.heap.size + 3) 66 5 (.slice aov k capv) k xs := by rw [hU]; exact hown.alloc _
      have bt0 : But (w.heap.size + 2) W U.drew := (hbt.trans (But.of_below hUb)).drew
      have of0 : ∀ i, U.drew.frozen? ⟨w.heap.size + 2, i, none⟩ = false := fun i => by
        exact (World.frozen?_of_block (w := wr) (w' := U) (a := ⟨w.heap.size + 2, i, none⟩) (hUb.block (w.heap.size + 2) (by omega))).trans (hof i)
      have e2 : U.drew.cell? ⟨w.heap.size + 2, 0, none⟩ = some (.slice aov k capv) := bkeep hUb o2
      have c0 : U.drew.cell? ⟨wr.heap.size, 0, none⟩ = some (.string dk.nm) := uby.c0
      have c1 : U.drew.cell? ⟨wr.heap.size, 1, none⟩ = some (.int .i64 dk.at_) := by rw [Lib.cell_of_heap (show U.drew.heap[wr.heap.size]? = _ from uby)]; rfl
      have c2 : U.drew.cell? ⟨wr.heap.size, 2, none⟩ = some (.int .i64 dk.e.op) := uby.c2
      have c3 : U.drew.cell? ⟨wr.heap.size, 3, none⟩ = some (.string dk.e.nm) := uby.c3
      have c4 : U.drew.cell? ⟨wr.heap.size, 4, none⟩ = some (.slice aoa' dk.e.kids.len capa') := uby.c4
      have hS0 := And.intro c0 (And.intro c1 (And.intro c2 (And.intro c3 c4)))
      go_wp2_with fail
      rw [← hU]
      have HU := hd hU
      clear hU
      refine wp_region_held_drew (S := fun w' => w'.cell? ⟨wr.heap.size, 0, none⟩ = some (.string dk.nm) ∧ w'.cell? ⟨wr.heap.size, 1, none⟩ = some (.int .i64 dk.at_) ∧ w'.cell? ⟨wr.heap.size, 2, none⟩ = some (.int .i64 dk.e.op) ∧ w'.cell? ⟨wr.heap.size, 3, none⟩ = some (.string dk.e.nm) ∧ w'.cell? ⟨wr.heap.size, 4, none⟩ = some (.slice aoa' dk.e.kids.len capa')) (by kernel_rfl) hS0 ?_
      intro hSw
      refine wpAnyH_take (i := 0) (v := ?v6) rfl (by kernel_rfl) (by kernel_rfl) (by kernel_rfl) (fun _ _ _ h => h) (Or.inl ⟨by rfl, ?hy6⟩) (by assumption) ?_
      case hy6 => (intro w' hS'; (try dsimp only at hS'); go_simp; try with_reducible rfl)
      refine wpAnyH_take (i := 2) (v := ?v7) rfl (by kernel_rfl) (by kernel_rfl) (by kernel_rfl) (fun _ _ _ h => h) (Or.inl ⟨by rfl, ?hy7⟩) (by assumption) ?_
      case hy7 => (intro w' hS'; (try dsimp only at hS'); go_simp; try with_reducible rfl)
      refine wpAnyH_take (i := 3) (v := ?v8) rfl (by kernel_rfl) (by kernel_rfl) (by kernel_rfl) (fun _ _ _ h => h) (Or.inl ⟨by rfl, ?hy8⟩) (by assumption) ?_
      case hy8 => (intro w' hS'; (try dsimp only at hS'); go_simp; try with_reducible rfl)
      refine wpAnyH_take (i := 4) (v := ?v9) rfl (by kernel_rfl) (by kernel_rfl) (by kernel_rfl) (fun _ _ _ h => h) (Or.inl ⟨by rfl, ?hy9⟩) (by assumption) ?_
      case hy9 => (intro w' hS'; (try dsimp only at hS'); go_simp; try with_reducible rfl)
      refine wpAnyH_take (i := 5) (v := ?v10) rfl (by kernel_rfl) (by kernel_rfl) (by kernel_rfl) (fun _ _ _ h => h) (Or.inl ⟨by rfl, ?hy10⟩) (by assumption) ?_
      case hy10 => (intro w' hS'; (try dsimp only at hS'); go_simp; try with_reducible rfl)
      refine wpAnyH_take (i := 6) (v := ?v11) rfl (by kernel_rfl) (by kernel_rfl) (by kernel_rfl) (fun _ _ _ h => h) (Or.inl ⟨by rfl, ?hy11⟩) (by assumption) ?_
      case hy11 => (intro w' hS'; (try dsimp only at hS'); go_simp; try with_reducible rfl)
      refine wpAnyH_take (i := 7) (v := ?v12) rfl (by kernel_rfl) (by kernel_rfl) (by kernel_rfl) (fun _ _ _ h => h) (Or.inl ⟨by rfl, ?hy12⟩) (by assumption) ?_
      case hy12 => (intro w' hS'; (try dsimp only at hS'); go_simp; try with_reducible rfl)
      refine wpAnyH_ready (rs := [1, 8]) (by kernel_rfl) (by simp) ?_
      refine AllReadyH.cons rfl (fun K hK => ?_) (AllReadyH.cons rfl (fun K hK => ?_) AllReadyH.nil)
      · go_simp
        refine hK.out _ _ hSw ?_
        clear hK K
        intro hSw
        refine wpAnyH_ready (rs := [8]) (by kernel_rfl) (by simp) ?_
        refine AllReadyH.cons rfl (fun K hK => ?_) AllReadyH.nil
        go_simp
        go_at_call 40
        refine IHd.mono ?_
        rintro e w2 ⟨_, rfl, ⟨u2, rfl, hu2⟩, hb2⟩
        obtain ⟨hl2, ao2, cap2, rfl, hin2⟩ := id hu2
        have z2 : wr.heap.size + 1 ≤ w2.heap.size := hUz ▸ hb2.size
        have f2 := bkeep hb2 e2
        have hS2 := And.intro (bkeep hb2 c0) (And.intro (bkeep hb2 c1) (And.intro (bkeep hb2 c2) (And.intro (bkeep hb2 c3) (bkeep hb2 c4))))
        have ff : ∀ i, w2.frozen? ⟨w.heap.size + 2, i, none⟩ = false := fun i => (World.frozen?_of_block (a := ⟨w.heap.size + 2, i, none⟩) (hb2.block (w.heap.size + 2) (lt_of_cell e2))).trans (of0 i)
        have own2 := owns_but hown0 (But.of_below (r := w.heap.size + 2) hb2) (by omega)
        obtain ⟨ob, hob⟩ : ∃ ob : Obj, ob = .cells #[.string dk.nm, .int .i64 dk.at_, .int .i64 dk.e.op, .string dk.e.nm, .slice ao2 dk.e.kids.len cap2] 66 := ⟨_, rfl⟩
        have hbo : Below w2.heap.size w2 (w2.alloc ob) := al1 _ _
        have own3 : (w2.alloc ob).ownsRow (w.heap.size + 3) 66 5 (.slice aov k capv) k xs := own2.alloc _
        have bt3 : But (w.heap.size + 2) W (w2.alloc ob) := (bt0.trans (But.of_below hb2)).alloc _
        have f3 := bkeep hbo f2
        have hS3 := And.intro (bkeep hbo hS2.1) (And.intro (bkeep hbo hS2.2.1) (And.intro (bkeep hbo hS2.2.2.1) (And.intro (bkeep hbo hS2.2.2.2.1) (bkeep hbo hS2.2.2.2.2))))
        subst hob
        refine hK.out _ _ hS2 ?_
        clear hK K
        intro hSw
        refine wpAnyH_take (i := 9) (v := ?v1) rfl (by kernel_rfl) (by kernel_rfl) (by kernel_rfl) (fun _ _ _ h => h) (Or.inl ⟨by rfl, ?hy1⟩) (by assumption) ?_
        case hy1 => (intro w' hS'; (try dsimp only at hS'); go_simp; try with_reducible rfl)
        refine wpAnyH_ready (rs := [10]) (by kernel_rfl) (by simp) ?_
        refine AllReadyH.cons rfl (fun K hK => ?_) AllReadyH.nil
        go_simp
        refine hK.out _ _ hS3 ?_
        clear hK K
        intro hSw
        refine wpAnyH_ready (rs := [11]) (by kernel_rfl) (by simp) ?_
        refine AllReadyH.cons rfl (fun K hK => ?_) AllReadyH.nil
        refine step_own rfl (.tmp 19) (.tmp 28) 40 rfl (w.heap.size + 3) 66 i0 (.agg #[.string ⟨#[]⟩, .int .i64 0, .int .i64 0, .string ⟨#[]⟩, .slice none 0 0]) 5 72 Try.underlying40 hi iz0 iz1 iz2 rfl (by decide) (.slice aov k capv) k xs (by simp [Act.eval]) own3 ⟨w2.heap.size, 0, none⟩ 1 1 [.string dk.nm, .int .i64 dk.at_, .int .i64 dk.e.op, .string dk.e.nm, .slice ao2 dk.e.kids.len cap2] (by simp [Act.eval]) rfl (cell5_new w2 _ _ _ _ _ _) (oneD _ _ _ _ _ _ _) (by unfold maxLen; omega) (by omega) (by simp; omega) ?_
        intro v' w4 own4 grow4 hat
        have bt4 : But (w.heap.size + 2) W w4 := bt3.grown grow4 (fun q e => by have := (hvl q e).1; omega)
        have z4 := grow4.size
        have gk : ∀ q, q < w2.heap.size → (q < w.heap.size + 3 ∨ wr.heap.size ≤ q) → w4.heap[q]? = w2.heap[q]? := fun q h1 h2 => by
          rw [grow4.block q (by simp; omega) (fun e => by have := hvl q e.symm; omega)]; exact (al1 w2 _).block q h1
        have f42 : w4.cell? ⟨w.heap.size + 2, 0, none⟩ = some (.slice aov k capv) := (World.cell?_of_block (a := ⟨w.heap.size + 2, 0, none⟩) (gk (w.heap.size + 2) (lt_of_cell f2) (.inl (by omega)))).trans f2
        have f4f : ∀ i, w4.frozen? ⟨w.heap.size + 2, i, none⟩ = false := fun i => (World.frozen?_of_block (a := ⟨w.heap.size + 2, i, none⟩) (gk (w.heap.size + 2) (lt_of_cell f2) (.inl (by omega)))).trans (ff i)
        have gd : ∀ i, w4.cell? ⟨wr.heap.size, i, none⟩ = w2.cell? ⟨wr.heap.size, i, none⟩ := fun i => World.cell?_of_block (a := ⟨wr.heap.size, i, none⟩) (gk wr.heap.size (by omega) (.inr (Nat.le_refl _)))
        obtain ⟨ao4, cap4, rfl⟩ := owns_slice own4
        have hS4 : w4.cell? ⟨wr.heap.size, 0, none⟩ = some (.string dk.nm) ∧ w4.cell? ⟨wr.heap.size, 1, none⟩ = some (.int .i64 dk.at_) ∧ w4.cell? ⟨wr.heap.size, 2, none⟩ = some (.int .i64 dk.e.op) ∧ w4.cell? ⟨wr.heap.size, 3, none⟩ = some (.string dk.e.nm) ∧ w4.cell? ⟨wr.heap.size, 4, none⟩ = some (.slice aoa' dk.e.kids.len capa') := ⟨(gd 0).trans hS2.1, (gd 1).trans hS2.2.1, (gd 2).trans hS2.2.2.1, (gd 3).trans hS2.2.2.2.1, (gd 4).trans hS2.2.2.2.2⟩
        have gz : ∀ u i, (w4.setCell ⟨w.heap.size + 2, 0, none⟩ u).cell? ⟨wr.heap.size, i, none⟩ = w4.cell? ⟨wr.heap.size, i, none⟩ := fun u i => World.cell?_setCell_other _ _ _ _ (by simp <;> omega)
        refine hK.out _ _ hS4 ?_
        clear hK K
        intro hSw
        refine wpAnyH_take (i := 12) (v := ?v2) rfl (by kernel_rfl) (by kernel_rfl) (by kernel_rfl) (fun _ _ _ h => h) (Or.inl ⟨by rfl, ?hy2⟩) (by assumption) ?_
        case hy2 => (intro w' hS'; (try dsimp only at hS'); go_simp; try with_reducible rfl)
        refine wpAnyH_ready (rs := [13]) (by kernel_rfl) (by simp) ?_
        refine AllReadyH.cons rfl (fun K hK => ?_) AllReadyH.nil
        go_simp
        refine hK.out _ _ ⟨(gz _ 0).trans hS4.1, (gz _ 1).trans hS4.2.1, (gz _ 2).trans hS4.2.2.1, (gz _ 3).trans hS4.2.2.2.1, (gz _ 4).trans hS4.2.2.2.2⟩ ?_
        clear hK K
        intro hSw
        refine wpAnyH_done (by kernel_rfl) ?_ _
        have bt5 : But (w.heap.size + 2) W (w4.setCell ⟨w.heap.size + 2, 0, none⟩ (.slice ao4 (k + 1) cap4)) := bt4.setCell (.inl rfl) _
        have own5 := (owns_setCell (a := ⟨w.heap.size + 2, 0, none⟩) own4 (by show w.heap.size + 2 < w.heap.size + 3; omega) : (w4.setCell ⟨w.heap.size + 2, 0, none⟩ (.slice ao4 (k + 1) cap4)).ownsRow _ _ _ _ _ _)
        have z4' : w2.heap.size + 1 ≤ w4.heap.size := by simpa using z4
        have fc5 : DC (w4.setCell ⟨w.heap.size + 2, 0, none⟩ (.slice ao4 (k + 1) cap4)) (fun q => w.heap.size + 3 ≤ q ∧ (Value.slice ao4 (k + 1) cap4).ownBlock ≠ some q) (xs ++ [.string dk.nm, .int .i64 dk.at_, .int .i64 dk.e.op, .string dk.e.nm, .slice ao2 dk.e.kids.len cap2]) (ds.take k ++ [dk]) := by
          refine DC_step (w1 := w2) (g := w2.heap.size + 1) (x := dk) hfc (hu2.mono fun q o v hq h => ⟨by have : U.heap.size ≤ q := hq; omega, h⟩) (by omega) (by omega) ?_ ?_ (fun q e => (hvl q e).2) (by omega) (by simpa using hat)
          · have kk1 : Kp (fun q => w.heap.size + 3 ≤ q ∧ (Value.slice aov k capv).ownBlock ≠ some q) wr w2 := ⟨by omega, fun q hq _ => (hb2.block q (by show q < U.heap.size; omega)).trans (hUb.block q hq)⟩
            exact Kp.setCell ((kk1.alloc _).grown grow4 (fun q e => .inl fun hs => hs.2 e)) (.inl fun hs => by have := hs.1; simp at this) _
          · exact Kp.setCell (((Kp.refl _ w2).alloc _).grown grow4 (fun q e => .inl fun hs => by have := (hvl q e).2; omega)) (.inl fun hs => by simp at hs <;> omega) _
        have p2 : (w4.setCell ⟨w.heap.size + 2, 0, none⟩ (.slice ao4 (k + 1) cap4)).cell? ⟨w.heap.size + 2, 0, none⟩ = some (.slice ao4 (k + 1) cap4) := World.cell?_setCell_same _ _ _ f42
        have pf : ∀ i, (w4.setCell ⟨w.heap.size + 2, 0, none⟩ (.slice ao4 (k + 1) cap4)).frozen? ⟨w.heap.size + 2, i, none⟩ = false := fun i => by simp [f4f i]
        obtain ⟨Z, hZ⟩ : ∃ Z, Z = w4.setCell ⟨w.heap.size + 2, 0, none⟩ (.slice ao4 (k + 1) cap4) := ⟨_, rfl⟩
        rw [← hZ] at bt5 own5 fc5 p2 pf
        rw [← hZ]
        clear hZ bt4 own4 f42 f4f hS4 hS3 hS2 hSw gz gd gk
        go_wp2_with fail
        go_roundw
        case rel => exact ⟨k + 1, _, _, by omega, by go_num, own5, by rw [HTK.out]; exact fc5, p2, pf, bt5⟩
        case measure => simp [intOf]; omega
      · go_simp
        go_at_call 40
        refine IHd.mono ?_
        rintro e w2 ⟨_, rfl, ⟨u2, rfl, hu2⟩, hb2⟩
        obtain ⟨hl2, ao2, cap2, rfl, hin2⟩ := id hu2
        have z2 : wr.heap.size + 1 ≤ w2.heap.size := hUz ▸ hb2.size
        have f2 := bkeep hb2 e2
        have hS2 := And.intro (bkeep hb2 c0) (And.intro (bkeep hb2 c1) (And.intro (bkeep hb2 c2) (And.intro (bkeep hb2 c3) (bkeep hb2 c4))))
        have ff : ∀ i, w2.frozen? ⟨w.heap.size + 2, i, none⟩ = false := fun i => (World.frozen?_of_block (a := ⟨w.heap.size + 2, i, none⟩) (hb2.block (w.heap.size + 2) (lt_of_cell e2))).trans (of0 i)
        have own2 := owns_but hown0 (But.of_below (r := w.heap.size + 2) hb2) (by omega)
        obtain ⟨ob, hob⟩ : ∃ ob : Obj, ob = .cells #[.string dk.nm, .int .i64 dk.at_, .int .i64 dk.e.op, .string dk.e.nm, .slice ao2 dk.e.kids.len cap2] 66 := ⟨_, rfl⟩
        have hbo : Below w2.heap.size w2 (w2.alloc ob) := al1 _ _
        have own3 : (w2.alloc ob).ownsRow (w.heap.size + 3) 66 5 (.slice aov k capv) k xs := own2.alloc _
        have bt3 : But (w.heap.size + 2) W (w2.alloc ob) := (bt0.trans (But.of_below hb2)).alloc _
        have f3 := bkeep hbo f2
        have hS3 := And.intro (bkeep hbo hS2.1) (And.intro (bkeep hbo hS2.2.1) (And.intro (bkeep hbo hS2.2.2.1) (And.intro (bkeep hbo hS2.2.2.2.1) (bkeep hbo hS2.2.2.2.2))))
        subst hob
        refine hK.out _ _ hS2 ?_
        clear hK K
        intro hSw
        refine wpAnyH_take (i := 9) (v := ?v3) rfl (by kernel_rfl) (by kernel_rfl) (by kernel_rfl) (fun _ _ _ h => h) (Or.inl ⟨by rfl, ?hy3⟩) (by assumption) ?_
        case hy3 => (intro w' hS'; (try dsimp only at hS'); go_simp; try with_reducible rfl)
        refine wpAnyH_ready (rs := [1, 10]) (by kernel_rfl) (by simp) ?_
        refine AllReadyH.cons rfl (fun K hK => ?_) (AllReadyH.cons rfl (fun K hK => ?_) AllReadyH.nil)
        · go_simp
          refine hK.out _ _ hSw ?_
          clear hK K
          intro hSw
          refine wpAnyH_ready (rs := [10]) (by kernel_rfl) (by simp) ?_
          refine AllReadyH.cons rfl (fun K hK => ?_) AllReadyH.nil
          go_simp
          refine hK.out _ _ hS3 ?_
          clear hK K
          intro hSw
          refine wpAnyH_ready (rs := [11]) (by kernel_rfl) (by simp) ?_
          refine AllReadyH.cons rfl (fun K hK => ?_) AllReadyH.nil
          refine step_own rfl (.tmp 19) (.tmp 28) 40 rfl (w.heap.size + 3) 66 i0 (.agg #[.string ⟨#[]⟩, .int .i64 0, .int .i64 0, .string ⟨#[]⟩, .slice none 0 0]) 5 72 Try.underlying40 hi iz0 iz1 iz2 rfl (by decide) (.slice aov k capv) k xs (by simp [Act.eval]) own3 ⟨w2.heap.size, 0, none⟩ 1 1 [.string dk.nm, .int .i64 dk.at_, .int .i64 dk.e.op, .string dk.e.nm, .slice ao2 dk.e.kids.len cap2] (by simp [Act.eval]) rfl (cell5_new w2 _ _ _ _ _ _) (oneD _ _ _ _ _ _ _) (by unfold maxLen; omega) (by omega) (by simp; omega) ?_
          intro v' w4 own4 grow4 hat
          have bt4 : But (w.heap.size + 2) W w4 := bt3.grown grow4 (fun q e => by have := (hvl q e).1; omega)
          have z4 := grow4.size
          have gk : ∀ q, q < w2.heap.size → (q < w.heap.size + 3 ∨ wr.heap.size ≤ q) → w4.heap[q]? = w2.heap[q]? := fun q h1 h2 => by
            rw [grow4.block q (by simp; omega) (fun e => by have := hvl q e.symm; omega)]; exact (al1 w2 _).block q h1
          have f42 : w4.cell? ⟨w.heap.size + 2, 0, none⟩ = some (.slice aov k capv) := (World.cell?_of_block (a := ⟨w.heap.size + 2, 0, none⟩) (gk (w.heap.size + 2) (lt_of_cell f2) (.inl (by omega)))).trans f2
          have f4f : ∀ i, w4.frozen? ⟨w.heap.size + 2, i, none⟩ = false := fun i => (World.frozen?_of_block (a := ⟨w.heap.size + 2, i, none⟩) (gk (w.heap.size + 2) (lt_of_cell f2) (.inl (by omega)))).trans (ff i)
          have gd : ∀ i, w4.cell? ⟨wr.heap.size, i, none⟩ = w2.cell? ⟨wr.heap.size, i, none⟩ := fun i => World.cell?_of_block (a := ⟨wr.heap.size, i, none⟩) (gk wr.heap.size (by omega) (.inr (Nat.le_refl _)))
          obtain ⟨ao4, cap4, rfl⟩ := owns_slice own4
          have hS4 : w4.cell? ⟨wr.heap.size, 0, none⟩ = some (.string dk.nm) ∧ w4.cell? ⟨wr.heap.size, 1, none⟩ = some (.int .i64 dk.at_) ∧ w4.cell? ⟨wr.heap.size, 2, none⟩ = some (.int .i64 dk.e.op) ∧ w4.cell? ⟨wr.heap.size, 3, none⟩ = some (.string dk.e.nm) ∧ w4.cell? ⟨wr.heap.size, 4, none⟩ = some (.slice aoa' dk.e.kids.len capa') := ⟨(gd 0).trans hS2.1, (gd 1).trans hS2.2.1, (gd 2).trans hS2.2.2.1, (gd 3).trans hS2.2.2.2.1, (gd 4).trans hS2.2.2.2.2⟩
          have gz : ∀ u i, (w4.setCell ⟨w.heap.size + 2, 0, none⟩ u).cell? ⟨wr.heap.size, i, none⟩ = w4.cell? ⟨wr.heap.size, i, none⟩ := fun u i => World.cell?_setCell_other _ _ _ _ (by simp <;> omega)
          refine hK.out _ _ hS4 ?_
          clear hK K
          intro hSw
          refine wpAnyH_take (i := 12) (v := ?v4) rfl (by kernel_rfl) (by kernel_rfl) (by kernel_rfl) (fun _ _ _ h => h) (Or.inl ⟨by rfl, ?hy4⟩) (by assumption) ?_
          case hy4 => (intro w' hS'; (try dsimp only at hS'); go_simp; try with_reducible rfl)
          refine wpAnyH_ready (rs := [13]) (by kernel_rfl) (by simp) ?_
          refine AllReadyH.cons rfl (fun K hK => ?_) AllReadyH.nil
          go_simp
          refine hK.out _ _ ⟨(gz _ 0).trans hS4.1, (gz _ 1).trans hS4.2.1, (gz _ 2).trans hS4.2.2.1, (gz _ 3).trans hS4.2.2.2.1, (gz _ 4).trans hS4.2.2.2.2⟩ ?_
          clear hK K
          intro hSw
          refine wpAnyH_done (by kernel_rfl) ?_ _
          have bt5 : But (w.heap.size + 2) W (w4.setCell ⟨w.heap.size + 2, 0, none⟩ (.slice ao4 (k + 1) cap4)) := bt4.setCell (.inl rfl) _
          have own5 := (owns_setCell (a := ⟨w.heap.size + 2, 0, none⟩) own4 (by show w.heap.size + 2 < w.heap.size + 3; omega) : (w4.setCell ⟨w.heap.size + 2, 0, none⟩ (.slice ao4 (k + 1) cap4)).ownsRow _ _ _ _ _ _)
          have z4' : w2.heap.size + 1 ≤ w4.heap.size := by simpa using z4
          have fc5 : DC (w4.setCell ⟨w.heap.size + 2, 0, none⟩ (.slice ao4 (k + 1) cap4)) (fun q => w.heap.size + 3 ≤ q ∧ (Value.slice ao4 (k + 1) cap4).ownBlock ≠ some q) (xs ++ [.string dk.nm, .int .i64 dk.at_, .int .i64 dk.e.op, .string dk.e.nm, .slice ao2 dk.e.kids.len cap2]) (ds.take k ++ [dk]) := by
            refine DC_step (w1 := w2) (g := w2.heap.size + 1) (x := dk) hfc (hu2.mono fun q o v hq h => ⟨by have : U.heap.size ≤ q := hq; omega, h⟩) (by omega) (by omega) ?_ ?_ (fun q e => (hvl q e).2) (by omega) (by simpa using hat)
            · have kk1 : Kp (fun q => w.heap.size + 3 ≤ q ∧ (Value.slice aov k capv).ownBlock ≠ some q) wr w2 := ⟨by omega, fun q hq _ => (hb2.block q (by show q < U.heap.size; omega)).trans (hUb.block q hq)⟩
              exact Kp.setCell ((kk1.alloc _).grown grow4 (fun q e => .inl fun hs => hs.2 e)) (.inl fun hs => by have := hs.1; simp at this) _
            · exact Kp.setCell (((Kp.refl _ w2).alloc _).grown grow4 (fun q e => .inl fun hs => by have := (hvl q e).2; omega)) (.inl fun hs => by simp at hs <;> omega) _
          have p2 : (w4.setCell ⟨w.heap.size + 2, 0, none⟩ (.slice ao4 (k + 1) cap4)).cell? ⟨w.heap.size + 2, 0, none⟩ = some (.slice ao4 (k + 1) cap4) := World.cell?_setCell_same _ _ _ f42
          have pf : ∀ i, (w4.setCell ⟨w.heap.size + 2, 0, none⟩ (.slice ao4 (k + 1) cap4)).frozen? ⟨w.heap.size + 2, i, none⟩ = false := fun i => by simp [f4f i]
          obtain ⟨Z, hZ⟩ : ∃ Z, Z = w4.setCell ⟨w.heap.size + 2, 0, none⟩ (.slice ao4 (k + 1) cap4) := ⟨_, rfl⟩
          rw [← hZ] at bt5 own5 fc5 p2 pf
          rw [← hZ]
          clear hZ bt4 own4 f42 f4f hS4 hS3 hS2 hSw gz gd gk
          go_wp2_with fail
          go_roundw
          case rel => exact ⟨k + 1, _, _, by omega, by go_num, own5, by rw [HTK.out]; exact fc5, p2, pf, bt5⟩
          case measure => simp [intOf]; omega
        · go_simp
          refine hK.out _ _ hS3 ?_
          clear hK K
          intro hSw
          refine wpAnyH_ready (rs := [1]) (by kernel_rfl) (by simp) ?_
          refine AllReadyH.cons rfl (fun K hK => ?_) AllReadyH.nil
          go_simp
          refine hK.out _ _ hSw ?_
          clear hK K
          intro hSw
          refine wpAnyH_ready (rs := [11]) (by kernel_rfl) (by simp) ?_
          refine AllReadyH.cons rfl (fun K hK => ?_) AllReadyH.nil
          refine step_own rfl (.tmp 19) (.tmp 28) 40 rfl (w.heap.size + 3) 66 i0 (.agg #[.string ⟨#[]⟩, .int .i64 0, .int .i64 0, .string ⟨#[]⟩, .slice none 0 0]) 5 72 Try.underlying40 hi iz0 iz1 iz2 rfl (by decide) (.slice aov k capv) k xs (by simp [Act.eval]) own3 ⟨w2.heap.size, 0, none⟩ 1 1 [.string dk.nm, .int .i64 dk.at_, .int .i64 dk.e.op, .string dk.e.nm, .slice ao2 dk.e.kids.len cap2] (by simp [Act.eval]) rfl (cell5_new w2 _ _ _ _ _ _) (oneD _ _ _ _ _ _ _) (by unfold maxLen; omega) (by omega) (by simp; omega) ?_
          intro v' w4 own4 grow4 hat
          have bt4 : But (w.heap.size + 2) W w4 := bt3.grown grow4 (fun q e => by have := (hvl q e).1; omega)
          have z4 := grow4.size
          have gk : ∀ q, q < w2.heap.size → (q < w.heap.size + 3 ∨ wr.heap.size ≤ q) → w4.heap[q]? = w2.heap[q]? := fun q h1 h2 => by
            rw [grow4.block q (by simp; omega) (fun e => by have := hvl q e.symm; omega)]; exact (al1 w2 _).block q h1
          have f42 : w4.cell? ⟨w.heap.size + 2, 0, none⟩ = some (.slice aov k capv) := (World.cell?_of_block (a := ⟨w.heap.size + 2, 0, none⟩) (gk (w.heap.size + 2) (lt_of_cell f2) (.inl (by omega)))).trans f2
          have f4f : ∀ i, w4.frozen? ⟨w.heap.size + 2, i, none⟩ = false := fun i => (World.frozen?_of_block (a := ⟨w.heap.size + 2, i, none⟩) (gk (w.heap.size + 2) (lt_of_cell f2) (.inl (by omega)))).trans (ff i)
          have gd : ∀ i, w4.cell? ⟨wr.heap.size, i, none⟩ = w2.cell? ⟨wr.heap.size, i, none⟩ := fun i => World.cell?_of_block (a := ⟨wr.heap.size, i, none⟩) (gk wr.heap.size (by omega) (.inr (Nat.le_refl _)))
          obtain ⟨ao4, cap4, rfl⟩ := owns_slice own4
          have hS4 : w4.cell? ⟨wr.heap.size, 0, none⟩ = some (.string dk.nm) ∧ w4.cell? ⟨wr.heap.size, 1, none⟩ = some (.int .i64 dk.at_) ∧ w4.cell? ⟨wr.heap.size, 2, none⟩ = some (.int .i64 dk.e.op) ∧ w4.cell? ⟨wr.heap.size, 3, none⟩ = some (.string dk.e.nm) ∧ w4.cell? ⟨wr.heap.size, 4, none⟩ = some (.slice aoa' dk.e.kids.len capa') := ⟨(gd 0).trans hS2.1, (gd 1).trans hS2.2.1, (gd 2).trans hS2.2.2.1, (gd 3).trans hS2.2.2.2.1, (gd 4).trans hS2.2.2.2.2⟩
          have gz : ∀ u i, (w4.setCell ⟨w.heap.size + 2, 0, none⟩ u).cell? ⟨wr.heap.size, i, none⟩ = w4.cell? ⟨wr.heap.size, i, none⟩ := fun u i => World.cell?_setCell_other _ _ _ _ (by simp <;> omega)
          refine hK.out _ _ hS4 ?_
          clear hK K
          intro hSw
          refine wpAnyH_take (i := 12) (v := ?v5) rfl (by kernel_rfl) (by kernel_rfl) (by kernel_rfl) (fun _ _ _ h => h) (Or.inl ⟨by rfl, ?hy5⟩) (by assumption) ?_
          case hy5 => (intro w' hS'; (try dsimp only at hS'); go_simp; try with_reducible rfl)
          refine wpAnyH_ready (rs := [13]) (by kernel_rfl) (by simp) ?_
          refine AllReadyH.cons rfl (fun K hK => ?_) AllReadyH.nil
          go_simp
          refine hK.out _ _ ⟨(gz _ 0).trans hS4.1, (gz _ 1).trans hS4.2.1, (gz _ 2).trans hS4.2.2.1, (gz _ 3).trans hS4.2.2.2.1, (gz _ 4).trans hS4.2.2.2.2⟩ ?_
          clear hK K
          intro hSw
          refine wpAnyH_done (by kernel_rfl) ?_ _
          have bt5 : But (w.heap.size + 2) W (w4.setCell ⟨w.heap.size + 2, 0, none⟩ (.slice ao4 (k + 1) cap4)) := bt4.setCell (.inl rfl) _
          have own5 := (owns_setCell (a := ⟨w.heap.size + 2, 0, none⟩) own4 (by show w.heap.size + 2 < w.heap.size + 3; omega) : (w4.setCell ⟨w.heap.size + 2, 0, none⟩ (.slice ao4 (k + 1) cap4)).ownsRow _ _ _ _ _ _)
          have z4' : w2.heap.size + 1 ≤ w4.heap.size := by simpa using z4
          have fc5 : DC (w4.setCell ⟨w.heap.size + 2, 0, none⟩ (.slice ao4 (k + 1) cap4)) (fun q => w.heap.size + 3 ≤ q ∧ (Value.slice ao4 (k + 1) cap4).ownBlock ≠ some q) (xs ++ [.string dk.nm, .int .i64 dk.at_, .int .i64 dk.e.op, .string dk.e.nm, .slice ao2 dk.e.kids.len cap2]) (ds.take k ++ [dk]) := by
            refine DC_step (w1 := w2) (g := w2.heap.size + 1) (x := dk) hfc (hu2.mono fun q o v hq h => ⟨by have : U.heap.size ≤ q := hq; omega, h⟩) (by omega) (by omega) ?_ ?_ (fun q e => (hvl q e).2) (by omega) (by simpa using hat)
            · have kk1 : Kp (fun q => w.heap.size + 3 ≤ q ∧ (Value.slice aov k capv).ownBlock ≠ some q) wr w2 := ⟨by omega, fun q hq _ => (hb2.block q (by show q < U.heap.size; omega)).trans (hUb.block q hq)⟩
              exact Kp.setCell ((kk1.alloc _).grown grow4 (fun q e => .inl fun hs => hs.2 e)) (.inl fun hs => by have := hs.1; simp at this) _
            · exact Kp.setCell (((Kp.refl _ w2).alloc _).grown grow4 (fun q e => .inl fun hs => by have := (hvl q e).2; omega)) (.inl fun hs => by simp at hs <;> omega) _
          have p2 : (w4.setCell ⟨w.heap.size + 2, 0, none⟩ (.slice ao4 (k + 1) cap4)).cell? ⟨w.heap.size + 2, 0, none⟩ = some (.slice ao4 (k + 1) cap4) := World.cell?_setCell_same _ _ _ f42
          have pf : ∀ i, (w4.setCell ⟨w.heap.size + 2, 0, none⟩ (.slice ao4 (k + 1) cap4)).frozen? ⟨w.heap.size + 2, i, none⟩ = false := fun i => by simp [f4f i]
          obtain ⟨Z, hZ⟩ : ∃ Z, Z = w4.setCell ⟨w.heap.size + 2, 0, none⟩ (.slice ao4 (k + 1) cap4) := ⟨_, rfl⟩
          rw [← hZ] at bt5 own5 fc5 p2 pf
          rw [← hZ]
          clear hZ bt4 own4 f42 f4f hS4 hS3 hS2 hSw gz gd gk
          go_wp2_with fail
          go_roundw
          case rel => exact ⟨k + 1, _, _, by omega, by go_num, own5, by rw [HTK.out]; exact fc5, p2, pf, bt5⟩
          case measure => simp [intOf]; omega
    · have hke : k = ds.length := by omega
      rw [List.take_of_length_le (by omega)] at hfc
      have hfv := DsV_owned (T := fun q => w.heap.size + 3 ≤ q) (f := ds) (by rw [← hke]; exact hown) hfc (fun _ h => h.1) (fun _ h => h) (by omega)
      obtain ⟨aov, capv, rfl⟩ := owns_slice hown
      have r0 : wr.cell? ⟨w.heap.size + 1, 0, none⟩ = some (.slice none 0 0) := by rw [hbt.cell (by omega) (by omega)]; exact hWr0
      have rf : ∀ i, wr.frozen? ⟨w.heap.size + 1, i, none⟩ = false := fun i => by rw [hbt.frozen (by omega) (by omega)]; exact hWrf i
      have HKE := hd hke
      clear hke hown hfc
      go_wp2_with fail
      refine bodyPost_ret (v := .agg #[.slice aov k capv]) (by simp [results, Try.results21, go_sem, r0]) rfl ⟨_, rfl, ?_, ?_⟩
      · refine hfv.kp ((Kp.refl _ wr).setCell (.inl ?_) _) (fun q _ h => by omega)
        simp
      · exact bel.setCell (p := ⟨w.heap.size + 1, 0, none⟩) (Nat.le_succ _) _
end Go.Proofs.Ytcanphhmflbdmac

/- Two texts that are the same, with their places: the document's way. -/
namespace Go.Proofs.Ytcanphhmflbdmac
open Go.RowKit
set_option maxRecDepth 100000 in
set_option maxHeartbeats 4000000 in
theorem same_ref_true (ds : List Df) (va vb : Value) (w : World) (hx : DsV w All va ds) (hy : DsV w All vb ds) :
    Calls Try.prog 24 #[.agg #[va], .agg #[vb], .bool true] w fun e w' => e = .returned (.bool true) ∧ Below w.heap.size w w' := by
  obtain ⟨hl, aoa, capa, rfl, hin⟩ := hx
  obtain ⟨hl', aob, capb, rfl, hin'⟩ := hy
  obtain ⟨W, hW⟩ : ∃ W, W = (w.alloc (.cells #[.slice aoa ds.length capa] 42)).alloc (.cells #[.slice aob ds.length capb] 42) := ⟨_, rfl⟩
  have hWz : W.heap.size = w.heap.size + 2 := by rw [hW]; simp
  have hWb : Below w.heap.size w W := by rw [hW]; exact ((Below.refl _ _).alloc (Nat.le_refl _) _).alloc (by simp) _
  have hWc : W.cell? ⟨w.heap.size, 0, none⟩ = some (.slice aoa ds.length capa) ∧ W.cell? ⟨w.heap.size + 1, 0, none⟩ = some (.slice aob ds.length capb) := by rw [hW]; exact ⟨by simp, by simp⟩
  go_enter Try.func24, Try.ntmps24
  go_wp2_with fail
  rw [← hW]
  have HW := hd hW
  clear hW
  go_loopw [7] (fun i wr => ∃ k : Nat, k ≤ ds.length ∧ i = .int .i64 k ∧ Below W.heap.size W wr ∧ True) (fun i _ => ds.length - (intOf i).toNat)
  case atStart => exact ⟨0, Nat.zero_le _, rfl, Below.refl _ _, trivial⟩
  case round =>
    obtain ⟨k, hk, rfl, hb, hall⟩ := hrel
    have hz := hb.size
    have bel : Below w.heap.size w wr := hWb.trans (hb.mono (by omega))
    have s1 : wr.cell? ⟨w.heap.size, 0, none⟩ = some (.slice aoa ds.length capa) := by rw [hb.cell (p := ⟨w.heap.size, 0, none⟩) (by simp; omega)]; exact hWc.1
    have s2 : wr.cell? ⟨w.heap.size + 1, 0, none⟩ = some (.slice aob ds.length capb) := by rw [hb.cell (p := ⟨w.heap.size + 1, 0, none⟩) (by simp; omega)]; exact hWc.2
    by_cases hlt : k < ds.length
    · obtain h0 | ⟨ba, oa, rfl, hia⟩ := hin
      · omega
      obtain h0 | ⟨bb, ob, rfl, hib⟩ := hin'
      · omega
      have hltd := hlt
      have kA : ∀ b o v, All b → w.cell? ⟨b, o, none⟩ = some v → All b ∧ wr.cell? ⟨b, o, none⟩ = some v := keep_cell (fun _ _ h => h) (Kp.of_below bel).block
      obtain ⟨an, aa, ax⟩ := (hia.mono kA).at_ k hltd
      obtain ⟨cn, ca, cx⟩ := (hib.mono kA).at_ k hlt
      obtain ⟨ua, a0, a1, a2, hxa⟩ := ax.xv
      obtain ⟨ub, c0, c1, c2, hxb⟩ := cx.xv
      have hxa' := hxa
      have hxb' := hxb
      obtain ⟨_, e, _, aoa', capa', rfl, _⟩ := hxa'
      simp at e; subst e
      obtain ⟨_, e, _, aob', capb', rfl, _⟩ := hxb'
      simp at e; subst e
      generalize ds[k] = dk at *
      have IHk := rmE_any dk.e dk.e
      rw [decide_eq_true rfl] at IHk
      have lba := lt_of_cell a0
      have lbb := lt_of_cell c0
      have lba' : ba < wr.heap.size + 1 := by omega
      have lbb' : bb < wr.heap.size + 1 := by omega
      have lw : w.heap.size < wr.heap.size := by omega
      have lw' : w.heap.size < wr.heap.size + 1 := by omega
      have lv : w.heap.size + 1 < wr.heap.size := by omega
      have lv' : w.heap.size + 1 < wr.heap.size + 1 := by omega
      go_wp2_with fail
      go_region
      all_goals
        go_wp2_with fail
        refine (IHk _ _ _ (hxa.below (((Below.refl _ _).alloc (Nat.le_refl _) _).alloc (by simp) _).drew) (hxb.below (((Below.refl _ _).alloc (Nat.le_refl _) _).alloc (by simp) _).drew)).mono ?_
        rintro e w2 ⟨rfl, hb2⟩
        go_wp2_with fail
        go_roundw
        case rel => exact ⟨k + 1, by omega, by go_num, (Below.drew ((hb.alloc (by omega) _).alloc (by simp; omega) _)).trans (hb2.mono (by simp; omega)), trivial⟩
        case measure => simp [intOf]; omega
    · go_wp2_with fail
      go_ret
      exact ⟨rfl, bel⟩
end Go.Proofs.Ytcanphhmflbdmac

/- Worlds one behind the other, in a region that draws its order. -/
namespace Go.Proofs.Ytcanphhmflbdmac
open Go.RowKit
theorem DsV.lw {w w' : World} {v : Value} {x : List Df} (h : DsV w All v x) (hb : Below w.heap.size w w') : DsV w' All v x := h.kp (Kp.of_below hb) (fun _ _ h => h)
end Go.Proofs.Ytcanphhmflbdmac
