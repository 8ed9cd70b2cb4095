/- A text that comes in: what its reading says of its cells. -/
import Derived.Test.YtcanphhmflbdmacL29
import Derived.ChangeArms
import Derived.DataReads
import Derived.WideShapes
import Derived.OpenShut
namespace Go.Proofs.Ytcanphhmflbdmac
open Go.RowKit Go.WideShapes
def Fo.of (f : Nat → Xp) : Nat → Nat → Fo
  | _, 0 => .nil
  | s, n + 1 => .cons (f s).op (f s).nm (f s).kids (Fo.of f (s + 1) n)
theorem Fo.of_len (f : Nat → Xp) : ∀ s n, (Fo.of f s n).len = n
  | _, 0 => rfl
  | s, n + 1 => by simp [Fo.of, Fo.len, Fo.of_len f (s + 1) n]
theorem Fo.of_in {w : World} {f : Nat → Xp} {b o : Nat} : ∀ s n, (∀ i, s ≤ i → i < s + n → XIn w All (f i) b (o + i * 3)) → (Fo.of f s n).In w All b (o + s * 3)
  | _, 0, _ => trivial
  | s, n + 1, h => by
    obtain ⟨h1, h2, u, h3, hl, ao, cap, rfl, hin⟩ := h s (Nat.le_refl _) (by omega)
    refine ⟨trivial, h1, h2, ⟨hl, ao, cap, h3, hin⟩, ?_⟩
    have := Fo.of_in (w := w) (f := f) (b := b) (o := o) (s + 1) n fun i h1 h2 => h i (by omega) (by omega)
    rwa [show o + (s + 1) * 3 = o + s * 3 + 3 by omega] at this
def dsOf (f : Nat → Df) : Nat → Nat → List Df
  | _, 0 => []
  | s, n + 1 => f s :: dsOf f (s + 1) n
theorem dsOf_len (f : Nat → Df) : ∀ s n, (dsOf f s n).length = n
  | _, 0 => rfl
  | s, n + 1 => by simp [dsOf, dsOf_len f (s + 1) n]
theorem dsOf_in {w : World} {f : Nat → Df} {b o : Nat} : ∀ s n, (∀ i, s ≤ i → i < s + n → w.cell? ⟨b, o + i * 5, none⟩ = some (.string (f i).nm) ∧ w.cell? ⟨b, o + i * 5 + 1, none⟩ = some (.int .i64 (f i).at_) ∧ XIn w All (f i).e b (o + i * 5 + 2)) → DsIn w All (dsOf f s n) b (o + s * 5)
  | _, 0, _ => trivial
  | s, n + 1, h => by
    obtain ⟨h1, h2, h3⟩ := h s (Nat.le_refl _) (by omega)
    refine ⟨trivial, h1, h2, h3, ?_⟩
    have := dsOf_in (w := w) (f := f) (b := b) (o := o) (s + 1) n fun i h1 h2 => h i (by omega) (by omega)
    rwa [show o + (s + 1) * 5 = o + s * 5 + 5 by omega] at this
theorem pick_lt {α : Type} [Inhabited α] {n : Nat} {p : Nat → α → Prop} (h : ∀ i, i < n → ∃ x, p i x) : ∃ f : Nat → α, ∀ i, i < n → p i (f i) := by
  classical
  refine ⟨fun i => if hi : i < n then Classical.choose (h i hi) else default, fun i hi => ?_⟩
  simp only [dif_pos hi]
  exact Classical.choose_spec (h i hi)
section
variable {H : Type} {enc : TypeId × Value → H} {w : World} {base : Nat} {spare : Nat → Bool} {held : Bool}
theorem cellsExpr : Try.prog.cellsOf 64 = 3 := by kernel_rfl
theorem cellsDef : Try.prog.cellsOf 66 = 5 := by kernel_rfl
theorem cellsText : Try.prog.cellsOf 42 = 1 := by kernel_rfl
theorem cellsInt : Try.prog.cellsOf 3 = 1 := by kernel_rfl
theorem cellsStr : Try.prog.cellsOf 9 = 1 := by kernel_rfl
theorem cellsExprs : Try.prog.cellsOf 62 = 1 := by kernel_rfl
theorem cellsDefs : Try.prog.cellsOf 40 = 1 := by kernel_rfl
/-- An address of a cell that is there. -/
theorem plain_addr {a : Addr} {v : Value} (h : w.cell? (a.add 0) = some v) : ∃ b o, a = ⟨b, o, none⟩ := by
  obtain ⟨b, o, s⟩ := a
  have hs : s = none := by simpa [Addr.add] using World.cell?_spot h
  exact ⟨b, o, by rw [hs]⟩
theorem addr_add (b o i : Nat) : (⟨b, o, none⟩ : Addr).add i = ⟨b, o + i, none⟩ := by
  unfold Addr.add
  by_cases h : i = 0 <;> simp [h]
set_option maxRecDepth 100000 in
theorem open_expr : ∀ (fuel : Nat) (cs : List Value) (x : DataW H × List MemPlace), DataW.trod enc Try.prog w base spare held fuel 64 cs = some x → ∃ (y : Xp) (u : Value), cs = [.int .i64 y.op, .string y.nm, u] ∧ FoV w All u y.kids := by
  intro fuel
  induction fuel using Nat.strongRecOn with
  | _ fuel ih =>
    intro cs x h
    obtain ⟨xs, n, rfl, rfl, hl, hlen, hf⟩ := DataW.trod_struct Try.underlying64 h
    rw [cellsExpr] at hl
    match cs, hl with
    | [a, b, c], _ =>
    match xs, hlen with
    | [y0, y1, y2], _ =>
    have f0 : DataW.trod enc Try.prog w base spare held n 3 (([a, b, c].drop 0).take (Try.prog.cellsOf 3)) = some y0 := hf 0 _ rfl
    have f1 : DataW.trod enc Try.prog w base spare held n 9 (([a, b, c].drop 1).take (Try.prog.cellsOf 9)) = some y1 := hf 1 _ rfl
    have f2 : DataW.trod enc Try.prog w base spare held n 62 (([a, b, c].drop 2).take (Try.prog.cellsOf 62)) = some y2 := hf 2 _ rfl
    rw [cellsInt] at f0
    rw [cellsStr] at f1
    rw [cellsExprs] at f2
    obtain ⟨op, e0, _, _⟩ := DataW.trod_int Try.underlying3 f0
    obtain ⟨nm, e1, _, _⟩ := DataW.trod_string Try.underlying9 f1
    simp at e0 e1
    subst e0 e1
    rcases DataW.trod_slice Try.underlying62 f2 with ⟨e2, _⟩ | ⟨ad, len, cap, elems, rest, m, rfl, e2, _, hb, hlc, hcm, hel, hall, _, _⟩
    · simp at e2
      subst e2
      exact ⟨⟨op, nm, .nil⟩, _, rfl, FoV_nil _ _⟩
    · simp at e2
      subst e2
      rw [cellsExpr] at hall
      have one : ∀ i, i < len → ∃ y : Xp, ∃ u, w.cell? (ad.add (i * 3)) = some (.int .i64 y.op) ∧ w.cell? ((ad.add (i * 3)).add 1) = some (.string y.nm) ∧ w.cell? ((ad.add (i * 3)).add 2) = some u ∧ FoV w All u y.kids := by
        intro i hi
        have h1 := hall i hi
        rw [List.getElem?_eq_getElem (by omega)] at h1
        obtain ⟨cs', h2, h3⟩ := Option.bind_eq_some_iff.1 h1
        obtain ⟨y, u, rfl, hy⟩ := ih m (by omega) cs' _ h3
        obtain ⟨_, _, hc⟩ := World.cells?_some h2
        have c0 := hc 0 (by omega)
        have c1 := hc 1 (by omega)
        have c2 := hc 2 (by omega)
        refine ⟨y, u, ?_, c1, c2, hy⟩
        have : (ad.add (i * 3)).add 0 = ad.add (i * 3) := by unfold Addr.add; simp
        rw [← this]; exact c0
      have hin : Inhabited Xp := ⟨⟨0, ⟨#[]⟩, .nil⟩⟩
      obtain ⟨f, hff⟩ := pick_lt one
      have hmx : cap ≤ 9223372036854775807 := by unfold maxLen at hcm; omega
      refine ⟨⟨op, nm, Fo.of f 0 len⟩, _, rfl, by rw [Fo.of_len]; omega, some ad, cap, by rw [Fo.of_len], ?_⟩
      rw [Fo.of_len]
      by_cases h0 : len = 0
      · exact .inl h0
      · right
        obtain ⟨u, g0, _⟩ := hff 0 (by omega)
        obtain ⟨b', o', rfl⟩ := plain_addr (w := w) (a := ad) (by simpa using g0)
        refine ⟨b', o', rfl, ?_⟩
        have := Fo.of_in (w := w) (f := f) (b := b') (o := o') 0 len fun i _ hi => by
          obtain ⟨u, g0, g1, g2, g3⟩ := hff i (by omega)
          rw [addr_add] at g0 g1 g2
          rw [addr_add] at g1 g2
          exact ⟨g0, g1, u, g2, g3⟩
        simpa using this
set_option maxRecDepth 100000 in
theorem open_def {fuel : Nat} {cs : List Value} {x : DataW H × List MemPlace} (h : DataW.trod enc Try.prog w base spare held fuel 66 cs = some x) : ∃ (y : Df) (u : Value), cs = [.string y.nm, .int .i64 y.at_, .int .i64 y.e.op, .string y.e.nm, u] ∧ FoV w All u y.e.kids := by
  obtain ⟨xs, n, rfl, rfl, hl, hlen, hf⟩ := DataW.trod_struct Try.underlying66 h
  rw [cellsDef] at hl
  match cs, hl with
  | [a, b, c, d, e], _ =>
  match xs, hlen with
  | [y0, y1, y2], _ =>
  have f0 : DataW.trod enc Try.prog w base spare held n 9 (([a, b, c, d, e].drop 0).take (Try.prog.cellsOf 9)) = some y0 := hf 0 _ rfl
  have f1 : DataW.trod enc Try.prog w base spare held n 3 (([a, b, c, d, e].drop 1).take (Try.prog.cellsOf 3)) = some y1 := hf 1 _ rfl
  have f2 : DataW.trod enc Try.prog w base spare held n 64 (([a, b, c, d, e].drop 2).take (Try.prog.cellsOf 64)) = some y2 := hf 2 _ rfl
  rw [cellsInt] at f1
  rw [cellsStr] at f0
  rw [cellsExpr] at f2
  obtain ⟨nm, e0, _, _⟩ := DataW.trod_string Try.underlying9 f0
  obtain ⟨at_, e1, _, _⟩ := DataW.trod_int Try.underlying3 f1
  obtain ⟨y, u, e2, hy⟩ := open_expr _ _ _ f2
  simp at e0 e1 e2
  obtain ⟨rfl, rfl, rfl⟩ := e2
  subst e0 e1
  exact ⟨⟨nm, at_, y⟩, _, rfl, hy⟩
set_option maxRecDepth 100000 in
theorem open_text {v : Value} {d : DataW H} {ps : List MemPlace} {b2 : Nat} (hv : Value.okWide Try.prog w .any b2 42 v) (h : DataW.Trod enc Try.prog w base spare held 42 v d ps) : ∃ (ds : List Df) (u : Value), v = .agg #[u] ∧ DsV w All u ds := by
  obtain ⟨vs, rfl, hvs⟩ := okWide_struct Try.underlying42 hv
  obtain ⟨fuel, h⟩ := h
  rw [cellsText] at hvs
  obtain ⟨xs, n, rfl, hd, hl, hlen, hf⟩ := DataW.trod_struct Try.underlying42 h
  rw [cellsText] at hl
  obtain ⟨u, rfl⟩ : ∃ u, vs = #[u] := by
    obtain ⟨l⟩ := vs
    match l, hvs with
    | [u], _ => exact ⟨u, rfl⟩
  match xs, hlen with
  | [y0], _ =>
  have f0 : DataW.trod enc Try.prog w base spare held n 40 (([u].drop 0).take (Try.prog.cellsOf 40)) = some y0 := hf 0 _ rfl
  rw [cellsDefs] at f0
  rcases DataW.trod_slice Try.underlying40 f0 with ⟨e2, _⟩ | ⟨ad, len, cap, elems, rest, m, rfl, e2, _, hb, hlc, hcm, hel, hall, _, _⟩
  · have e3 : u = .slice none 0 0 := by simpa using e2
    subst e3
    exact ⟨[], _, rfl, by simp, none, 0, rfl, .inl rfl⟩
  · have e3 : u = .slice (some ad) len cap := by simpa using e2
    subst e3
    rw [cellsDef] at hall
    have one : ∀ i, i < len → ∃ y : Df, ∃ u, w.cell? (ad.add (i * 5)) = some (.string y.nm) ∧ w.cell? ((ad.add (i * 5)).add 1) = some (.int .i64 y.at_) ∧ w.cell? ((ad.add (i * 5)).add 2) = some (.int .i64 y.e.op) ∧ w.cell? ((ad.add (i * 5)).add 3) = some (.string y.e.nm) ∧ w.cell? ((ad.add (i * 5)).add 4) = some u ∧ FoV w All u y.e.kids := by
      intro i hi
      have h1 := hall i hi
      rw [List.getElem?_eq_getElem (by omega)] at h1
      obtain ⟨cs', h2, h3⟩ := Option.bind_eq_some_iff.1 h1
      obtain ⟨y, u, rfl, hy⟩ := open_def h3
      obtain ⟨_, _, hc⟩ := World.cells?_some h2
      have c0 := hc 0 (by omega)
      refine ⟨y, u, ?_, hc 1 (by omega), hc 2 (by omega), hc 3 (by omega), hc 4 (by omega), hy⟩
      have : (ad.add (i * 5)).add 0 = ad.add (i * 5) := by unfold Addr.add; simp
      rw [← this]; exact c0
    have hin : Inhabited Df := ⟨⟨⟨#[]⟩, 0, ⟨0, ⟨#[]⟩, .nil⟩⟩⟩
    obtain ⟨f, hff⟩ := pick_lt one
    have hmx : cap ≤ 9223372036854775807 := by unfold maxLen at hcm; omega
    refine ⟨dsOf f 0 len, _, rfl, by rw [dsOf_len]; omega, some ad, cap, by rw [dsOf_len], ?_⟩
    rw [dsOf_len]
    by_cases h0 : len = 0
    · exact .inl h0
    · right
      obtain ⟨u, g0, _⟩ := hff 0 (by omega)
      obtain ⟨b', o', rfl⟩ := plain_addr (w := w) (a := ad) (by simpa using g0)
      refine ⟨b', o', rfl, ?_⟩
      have := dsOf_in (w := w) (f := f) (b := b') (o := o') 0 len fun i _ hi => by
        obtain ⟨u, g0, g1, g2, g3, g4, g5⟩ := hff i (by omega)
        rw [addr_add] at g0 g1 g2 g3 g4
        rw [addr_add] at g1 g2 g3 g4
        exact ⟨g0, g1, g2, g3, u, g4, g5⟩
      simpa using this
end
end Go.Proofs.Ytcanphhmflbdmac
