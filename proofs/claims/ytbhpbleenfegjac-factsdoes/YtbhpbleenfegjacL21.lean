/- A grammar that comes in: what its reading says of its cells. -/
import Derived.Test.YtbhpbleenfegjacL03
import Derived.ChangeArms
import Derived.DataReads
import Derived.WideShapes
import Derived.OpenShut
namespace Go.Proofs.Ytbhpbleenfegjac.G
open Go.RowKit Go.WideShapes
theorem pick_lt {α : Type} [Inhabited α] {n : Nat} {p : Nat → α → Prop} (h : ∀ i, i < n → ∃ x, p i x) : ∃ f : Nat → α, ∀ i, i < n → p i (f i) := by
  classical
  refine ⟨fun i => if hi : i < n then Classical.choose (h i hi) else default, fun i hi => ?_⟩
  simp only [dif_pos hi]
  exact Classical.choose_spec (h i hi)
section
variable {H : Type} {enc : TypeId × Value → H} {w : World} {base : Nat} {spare : Nat → Bool} {held : Bool}
theorem cellsInt : Try.prog.cellsOf 3 = 1 := by kernel_rfl
theorem cellsInts : Try.prog.cellsOf 33 = 1 := by kernel_rfl
theorem cellsRule : Try.prog.cellsOf 37 = 2 := by kernel_rfl
theorem cellsRules : Try.prog.cellsOf 22 = 1 := by kernel_rfl
theorem cellsGram : Try.prog.cellsOf 24 = 4 := by kernel_rfl
/-- An address of a cell that is there. -/
theorem plain_addr {a : Addr} {v : Value} (h : w.cell? (a.add 0) = some v) : ∃ b o, a = ⟨b, o, none⟩ := by
  obtain ⟨b, o, s⟩ := a
  have hs : s = none := by simpa [Addr.add] using World.cell?_spot h
  exact ⟨b, o, by rw [hs]⟩
set_option maxRecDepth 100000 in
theorem open_ints {fuel : Nat} {u : Value} {x : DataW H × List MemPlace} (h : DataW.trod enc Try.prog w base spare held fuel 33 [u] = some x) : ∃ l : List Int, IsV w All u l := by
  rcases DataW.trod_slice Try.underlying33 h with ⟨e2, _⟩ | ⟨ad, len, cap, elems, rest, m, rfl, e2, _, hb, hlc, hcm, hel, hall, _, _⟩
  · have e3 : u = .slice none 0 0 := by simpa using e2
    subst e3
    exact ⟨[], IsV_nil _ _⟩
  · have e3 : u = .slice (some ad) len cap := by simpa using e2
    subst e3
    rw [cellsInt] at hall
    have one : ∀ i, i < len → ∃ y : Int, w.cell? (ad.add (i * 1)) = some (.int .i64 y) := by
      intro i hi
      have h1 := hall i hi
      rw [List.getElem?_eq_getElem (by omega)] at h1
      obtain ⟨cs', h2, h3⟩ := Option.bind_eq_some_iff.1 h1
      obtain ⟨y, e0, _, _⟩ := DataW.trod_int Try.underlying3 h3
      obtain ⟨_, _, hc⟩ := World.cells?_some h2
      have c0 := hc 0 (by omega)
      subst e0
      refine ⟨y, ?_⟩
      have : (ad.add (i * 1)).add 0 = ad.add (i * 1) := by unfold Addr.add; simp
      rw [← this]; exact c0
    obtain ⟨f, hff⟩ := pick_lt one
    have hmx : cap ≤ 9223372036854775807 := by unfold maxLen at hcm; omega
    refine ⟨(List.range len).map f, by simp; omega, some ad, cap, by simp, by simpa using hlc, (fun h => by cases h), ?_⟩
    by_cases h0 : len = 0
    · exact .inl (by simpa using h0)
    · right
      have g0 := hff 0 (by omega)
      obtain ⟨b', o', rfl⟩ := plain_addr (w := w) (a := ad) (by simpa using g0)
      refine ⟨b', o', rfl, trivial, fun i hi => ?_⟩
      have g1 := hff i (by simpa using hi)
      rw [addr_add, Nat.mul_one] at g1
      simpa using g1
set_option maxRecDepth 100000 in
theorem open_rule {fuel : Nat} {cs : List Value} {x : DataW H × List MemPlace} (h : DataW.trod enc Try.prog w base spare held fuel 37 cs = some x) : ∃ (y : Ru) (u : Value), cs = [.int .i64 y.left, u] ∧ IsV w All u y.right := by
  obtain ⟨xs, n, rfl, rfl, hl, hlen, hf⟩ := DataW.trod_struct Try.underlying37 h
  rw [cellsRule] at hl
  match cs, hl with
  | [a, b], _ =>
  match xs, hlen with
  | [y0, y1], _ =>
  have f0 : DataW.trod enc Try.prog w base spare held n 3 (([a, b].drop 0).take (Try.prog.cellsOf 3)) = some y0 := hf 0 _ rfl
  have f1 : DataW.trod enc Try.prog w base spare held n 33 (([a, b].drop 1).take (Try.prog.cellsOf 33)) = some y1 := hf 1 _ rfl
  rw [cellsInt] at f0
  rw [cellsInts] at f1
  obtain ⟨op, e0, _, _⟩ := DataW.trod_int Try.underlying3 f0
  obtain ⟨l, hl⟩ := open_ints f1
  simp at e0
  subst e0
  exact ⟨⟨op, l⟩, b, rfl, hl⟩
set_option maxRecDepth 100000 in
theorem open_rules {fuel : Nat} {u : Value} {x : DataW H × List MemPlace} (h : DataW.trod enc Try.prog w base spare held fuel 22 [u] = some x) : ∃ l : List Ru, RsV w All u l := by
  rcases DataW.trod_slice Try.underlying22 h with ⟨e2, _⟩ | ⟨ad, len, cap, elems, rest, m, rfl, e2, _, hb, hlc, hcm, hel, hall, _, _⟩
  · have e3 : u = .slice none 0 0 := by simpa using e2
    subst e3
    exact ⟨[], RsV_nil _ _⟩
  · have e3 : u = .slice (some ad) len cap := by simpa using e2
    subst e3
    rw [cellsRule] at hall
    have one : ∀ i, i < len → ∃ y : Ru, ∃ u, w.cell? (ad.add (i * 2)) = some (.int .i64 y.left) ∧ w.cell? ((ad.add (i * 2)).add 1) = some u ∧ IsV w All u y.right := by
      intro i hi
      have h1 := hall i hi
      rw [List.getElem?_eq_getElem (by omega)] at h1
      obtain ⟨cs', h2, h3⟩ := Option.bind_eq_some_iff.1 h1
      obtain ⟨y, u, rfl, hy⟩ := open_rule h3
      obtain ⟨_, _, hc⟩ := World.cells?_some h2
      have c0 := hc 0 (by omega)
      refine ⟨y, u, ?_, hc 1 (by omega), hy⟩
      have : (ad.add (i * 2)).add 0 = ad.add (i * 2) := by unfold Addr.add; simp
      rw [← this]; exact c0
    obtain ⟨f, hff⟩ := pick_lt one
    have hmx : cap ≤ 9223372036854775807 := by unfold maxLen at hcm; omega
    refine ⟨(List.range len).map f, by simp; omega, some ad, cap, by simp, by simpa using hlc, (fun h => by cases h), ?_⟩
    by_cases h0 : len = 0
    · exact .inl (by simpa using h0)
    · right
      obtain ⟨u, g0, _⟩ := hff 0 (by omega)
      obtain ⟨b', o', rfl⟩ := plain_addr (w := w) (a := ad) (by simpa using g0)
      refine ⟨b', o', rfl, trivial, fun i hi => ?_⟩
      obtain ⟨u, g0, g1, g2⟩ := hff i (by simpa using hi)
      rw [addr_add] at g0 g1
      rw [addr_add] at g1
      have he : ((List.range len).map f)[i] = f i := by simp
      rw [he]
      exact ⟨g0, u, g1, g2⟩
set_option maxRecDepth 100000 in
theorem open_gram {v : Value} {d : DataW H} {ps : List MemPlace} {b2 : Nat} (hv : Value.okWide Try.prog w .any b2 24 v) (h : DataW.Trod enc Try.prog w base spare held 24 v d ps) : ∃ g : Gm, GV w All v g := by
  obtain ⟨vs, rfl, hvs⟩ := okWide_struct Try.underlying24 hv
  obtain ⟨fuel, h⟩ := h
  rw [cellsGram] at hvs
  obtain ⟨xs, n, rfl, hd, hl, hlen, hf⟩ := DataW.trod_struct Try.underlying24 h
  obtain ⟨a, b, c, u, rfl⟩ : ∃ a b c u, vs = #[a, b, c, u] := by
    obtain ⟨l⟩ := vs
    match l, hvs with
    | [a, b, c, u], _ => exact ⟨a, b, c, u, rfl⟩
  match xs, hlen with
  | [y0, y1, y2, y3], _ =>
  have f0 : DataW.trod enc Try.prog w base spare held n 3 (([a, b, c, u].drop 0).take (Try.prog.cellsOf 3)) = some y0 := hf 0 _ rfl
  have f1 : DataW.trod enc Try.prog w base spare held n 3 (([a, b, c, u].drop 1).take (Try.prog.cellsOf 3)) = some y1 := hf 1 _ rfl
  have f2 : DataW.trod enc Try.prog w base spare held n 3 (([a, b, c, u].drop 2).take (Try.prog.cellsOf 3)) = some y2 := hf 2 _ rfl
  have f3 : DataW.trod enc Try.prog w base spare held n 22 (([a, b, c, u].drop 3).take (Try.prog.cellsOf 22)) = some y3 := hf 3 _ rfl
  rw [cellsInt] at f0 f1 f2
  rw [cellsRules] at f3
  obtain ⟨n0, e0, _, _⟩ := DataW.trod_int Try.underlying3 f0
  obtain ⟨n1, e1, _, _⟩ := DataW.trod_int Try.underlying3 f1
  obtain ⟨n2, e2, _, _⟩ := DataW.trod_int Try.underlying3 f2
  obtain ⟨l, hrs⟩ := open_rules f3
  simp at e0 e1 e2
  subst e0 e1 e2
  exact ⟨⟨n0, n1, n2, l⟩, u, rfl, hrs⟩
end
end Go.Proofs.Ytbhpbleenfegjac.G
