/- The document's own scan comes to what 'scan' reckons. -/
import Derived.Test.YtdikjhfnmkejcabRMath
namespace Go.Proofs.Ytdikjhfnmkejcab
open Go.RowKit

theorem one3 (a b : Int) (t : ByteArray) : ∀ u ∈ [Value.int .i64 a, Value.int .i64 b, Value.string t], u.oneCell' = true := by
  intro u hu; simp at hu; rcases hu with rfl | rfl | rfl <;> rfl
end Go.Proofs.Ytdikjhfnmkejcab
