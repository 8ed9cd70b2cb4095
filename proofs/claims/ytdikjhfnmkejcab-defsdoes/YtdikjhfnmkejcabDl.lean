/- Worlds one behind the other, in a region that draws its order. -/
import Derived.Test.YtdikjhfnmkejcabDb
import Derived.Test.YtdikjhfnmkejcabOt
import Derived.Test.YtdikjhfnmkejcabStT
import Derived.Test.YtdikjhfnmkejcabGrt
namespace Go.Proofs.Ytdikjhfnmkejcab
open Go.RowKit
/-- A step: what was there is as it was. -/
structure Stp (a b : World) : Prop where
  h : Below a.heap.size a b
theorem stk {W a b : World} {p q : Nat} {u v : Value} (st : Stp a b) (h : Below W.heap.size W a ∧ a.cell? ⟨p, 0, none⟩ = some u ∧ a.cell? ⟨q, 0, none⟩ = some v) :
    Below W.heap.size W b ∧ b.cell? ⟨p, 0, none⟩ = some u ∧ b.cell? ⟨q, 0, none⟩ = some v := ⟨h.1.trans (st.h.mono h.1.size), bkeep st.h h.2.1, bkeep st.h h.2.2⟩
theorem DsV.lw {w w' : World} {v : Value} {x : List Df} (h : DsV w All v x) (hb : Below w.heap.size w w') : DsV w' All v x := h.kp (Kp.of_below hb) (fun _ _ h => h)
end Go.Proofs.Ytdikjhfnmkejcab
