/- Worlds that have more in them; expressions in them. -/
import Derived.Test.YtdikjhfnmkejcabEx
import Derived.Deep.Quiet
namespace Go.Proofs.Ytdikjhfnmkejcab
open Go.RowKit
/-- A region that draws its order, whose operations read and whose calls make memory of their own alone. -/
theorem region_quiet_lit {P : Program} {id : Nat} {Q : Exit → Act → World → Prop} {a : Act} {w : World} {l : List Oper} {C : World → Prop} (hm : P.follows .mixedOrders = true) (hB : Region.lexB .any l.toArray = true) (hC : C { w with drawn := w.drawn + 1 })
    (h : wpQuiet P l.toArray C (fun a' => ∀ w', C w' → Q .normal a' w') l a) : (Code.region id l.toArray true).wp P Q a w :=
  wp_region_quiet hm hB hC (by simpa using h)
/-- A world in which all is as it was, and some is new. -/
structure Wd (w : World) where
  u : World
  h : Below w.heap.size w u
theorem Wd.drawn (w : World) : ∃ z : Wd w, { w with drawn := w.drawn + 1 } = z.u := ⟨⟨{ w with drawn := w.drawn + 1 }, ⟨rfl, rfl, rfl, Nat.le_refl _, fun _ _ => rfl⟩⟩, rfl⟩
theorem Wd.ne (w : World) : Nonempty (Wd w) := ⟨⟨w, Below.refl _ _⟩⟩
theorem Wd.cell {w : World} (x : Wd w) {b o : Nat} {v : Value} (h : w.cell? ⟨b, o, none⟩ = some v) : x.u.cell? ⟨b, o, none⟩ = some v := by
  rw [x.h.cell (p := ⟨b, o, none⟩) (lt_of_cell h)]; exact h
theorem calls_wd {P : Program} {f : FuncId} {args : Array Value} {w : World} {x : Wd w} {v : Value} (h : Calls P f args x.u fun e w' => e = .returned v ∧ Below x.u.heap.size x.u w') :
    Calls P f args x.u fun e w'' => e = .returned v ∧ ∃ y : Wd w, w'' = y.u :=
  h.mono fun _ _ ⟨he, hb⟩ => ⟨he, ⟨_, x.h.trans (hb.mono x.h.size)⟩, rfl⟩
abbrev All : Nat → Prop := fun _ => True
theorem XV.below {w w' : World} {S : Nat → Prop} {v : Value} {x : Xp} (h : XV w S v x) (hb : Below w.heap.size w w') : XV w' S v x := h.kp (Kp.of_below hb) (fun _ _ h => h)
theorem FoV.below {w w' : World} {S : Nat → Prop} {v : Value} {x : Fo} (h : FoV w S v x) (hb : Below w.heap.size w w') : FoV w' S v x := h.kp (Kp.of_below hb) (fun _ _ h => h)
theorem XIn.xv {w : World} {S : Nat → Prop} {x : Xp} {b o : Nat} (h : XIn w S x b o) : ∃ u, w.cell? ⟨b, o, none⟩ = some (.int .i64 x.op) ∧ w.cell? ⟨b, o + 1, none⟩ = some (.string x.nm) ∧ w.cell? ⟨b, o + 2, none⟩ = some u ∧ XV w S (.agg #[.int .i64 x.op, .string x.nm, u]) x :=
  let ⟨h1, h2, u, h3, h4⟩ := h
  ⟨u, h1, h2, h3, u, rfl, h4⟩
end Go.Proofs.Ytdikjhfnmkejcab
