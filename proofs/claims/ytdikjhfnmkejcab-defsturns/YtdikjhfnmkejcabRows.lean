/-
  NARROWER THAN 'FOR EVERY INPUT', by the rows' own cells (each row's printed sentence says how): RenderPrints: loops · RenderBack: loops · RenderApart: loops · DefsDoes: loops · DefsTurns: loops.
  DERIVED. THE GIVEN ROWS OF THIS SEAT. 6 by the template 'for every input the law returns true; each argument reads behind the call as it read before'; 0 by the template 'total and deterministic' (their statements: YtdikjhfnmkejcabTotals.lean).
  GIVEN WITH THE SEED: the statements are not yours to turn. If you find one false, say at which input.
  Laid BY PROGRAM, IN A SANDBOX (cutbox-rows.mjs): the forced cells as the released guide's own fill.sh prints them over the translation 42ec40458d9228fb… (all of the seat's roots in one cut). By AI agents, Wed Nov 11 2026. No macro, syntax, notation, axiom, sorry.
-/
import Derived.Test.YtdikjhfnmkejcabChecked
import GoSem.Claim
import GoSem.ClaimJoined
import GoSem.ClaimMapViews
import Derived.JoinedTies
import Derived.KernelRfl
namespace Go.Proofs.Ytdikjhfnmkejcab
/- THE CELL 'sum', in the pinned program and in every row, IS THE sha256 OF THE DUMP (.gsa) THAT YtdikjhfnmkejcabProg.lean LOADS. Nothing in Lean hashes anything: it is a label: what it is worth is what the hold of that sum in a sandbox is worth. -/
noncomputable def Try.pinned : Pinned := { name := "ytdikjhfnmkejcab", sum := "42ec40458d9228fb34d735a745d544bcc405095b9363c39dfea62bcdba1e30e0", checked := Try.checked }
namespace Rows
def none {H : Type} : Left H := { results := [], args := [] }

/-- 'graftworklaw.RenderPrints': WHATEVER THE INPUT: true; the input reads as it did. -/
def renderPrintsSpec : ChangeSpec := { name := "renderPrints", fn := fun _ => fun
  | [d] => { results := [.lit (.bool true)], args := [d] }
  | _ => none }
def renderPrintsRow : OpenClaim := { program := "ytdikjhfnmkejcab", sum := "42ec40458d9228fb34d735a745d544bcc405095b9363c39dfea62bcdba1e30e0", func := "graftwork/graftworklaw.RenderPrints", spec := "renderPrints", inPlace := ["internal/bytealg.IndexByteString", "internal/abi.NoEscape"], unfollowed := true, recurses := true, loops := true, apart := false }
def RenderPrintsSaid : Prop := renderPrintsRow.holds Try.pinned (OpenSpec.ofChange renderPrintsSpec)

/-- ITS FALSE NEIGHBOUR: 'it returns false'. Refute it at one input. -/
def renderPrintsWrong : ChangeSpec := { name := "renderPrints", fn := fun _ => fun
  | [d] => { results := [.lit (.bool false)], args := [d] }
  | _ => none }
def RenderPrintsWrongFalsely : Prop := renderPrintsRow.holds Try.pinned (OpenSpec.ofChange renderPrintsWrong)

/-- 'graftworklaw.RenderBack': WHATEVER THE INPUT: true; the input reads as it did. -/
def renderBackSpec : ChangeSpec := { name := "renderBack", fn := fun _ => fun
  | [d] => { results := [.lit (.bool true)], args := [d] }
  | _ => none }
def renderBackRow : OpenClaim := { program := "ytdikjhfnmkejcab", sum := "42ec40458d9228fb34d735a745d544bcc405095b9363c39dfea62bcdba1e30e0", func := "graftwork/graftworklaw.RenderBack", spec := "renderBack", inPlace := ["internal/bytealg.IndexByteString", "internal/abi.NoEscape"], unfollowed := true, recurses := true, loops := true, apart := false }
def RenderBackSaid : Prop := renderBackRow.holds Try.pinned (OpenSpec.ofChange renderBackSpec)

/-- ITS FALSE NEIGHBOUR: 'it returns false'. Refute it at one input. -/
def renderBackWrong : ChangeSpec := { name := "renderBack", fn := fun _ => fun
  | [d] => { results := [.lit (.bool false)], args := [d] }
  | _ => none }
def RenderBackWrongFalsely : Prop := renderBackRow.holds Try.pinned (OpenSpec.ofChange renderBackWrong)

/-- 'graftworklaw.RenderApart': WHATEVER THE INPUT: true; the input reads as it did. -/
def renderApartSpec : ChangeSpec := { name := "renderApart", fn := fun _ => fun
  | [d1, d2] => { results := [.lit (.bool true)], args := [d1, d2] }
  | _ => none }
def renderApartRow : OpenClaim := { program := "ytdikjhfnmkejcab", sum := "42ec40458d9228fb34d735a745d544bcc405095b9363c39dfea62bcdba1e30e0", func := "graftwork/graftworklaw.RenderApart", spec := "renderApart", inPlace := ["internal/bytealg.IndexByteString", "internal/abi.NoEscape"], unfollowed := true, recurses := true, loops := true, apart := false }
def RenderApartSaid : Prop := renderApartRow.holds Try.pinned (OpenSpec.ofChange renderApartSpec)

/-- ITS FALSE NEIGHBOUR: 'it returns false'. Refute it at one input. -/
def renderApartWrong : ChangeSpec := { name := "renderApart", fn := fun _ => fun
  | [d1, d2] => { results := [.lit (.bool false)], args := [d1, d2] }
  | _ => none }
def RenderApartWrongFalsely : Prop := renderApartRow.holds Try.pinned (OpenSpec.ofChange renderApartWrong)

/-- 'graftworklaw.RenderForth': WHATEVER THE INPUT: true; the input reads as it did. -/
def renderForthSpec : ChangeSpec := { name := "renderForth", fn := fun _ => fun
  | [d] => { results := [.lit (.bool true)], args := [d] }
  | _ => none }
def renderForthRow : OpenClaim := { program := "ytdikjhfnmkejcab", sum := "42ec40458d9228fb34d735a745d544bcc405095b9363c39dfea62bcdba1e30e0", func := "graftwork/graftworklaw.RenderForth", spec := "renderForth", inPlace := ["internal/bytealg.IndexByteString", "internal/abi.NoEscape"], unfollowed := true, recurses := true, apart := false }
def RenderForthSaid : Prop := renderForthRow.holds Try.pinned (OpenSpec.ofChange renderForthSpec)

/-- ITS FALSE NEIGHBOUR: 'it returns false'. Refute it at one input. -/
def renderForthWrong : ChangeSpec := { name := "renderForth", fn := fun _ => fun
  | [d] => { results := [.lit (.bool false)], args := [d] }
  | _ => none }
def RenderForthWrongFalsely : Prop := renderForthRow.holds Try.pinned (OpenSpec.ofChange renderForthWrong)

/-- 'graftworklaw.DefsDoes': WHATEVER THE INPUT: true; the input reads as it did. -/
def defsDoesSpec : ChangeSpec := { name := "defsDoes", fn := fun _ => fun
  | [d] => { results := [.lit (.bool true)], args := [d] }
  | _ => none }
def defsDoesRow : OpenClaim := { program := "ytdikjhfnmkejcab", sum := "42ec40458d9228fb34d735a745d544bcc405095b9363c39dfea62bcdba1e30e0", func := "graftwork/graftworklaw.DefsDoes", spec := "defsDoes", inPlace := ["internal/abi.NoEscape"], unfollowed := true, recurses := true, loops := true, apart := false }
def DefsDoesSaid : Prop := defsDoesRow.holds Try.pinned (OpenSpec.ofChange defsDoesSpec)

/-- ITS FALSE NEIGHBOUR: 'it returns false'. Refute it at one input. -/
def defsDoesWrong : ChangeSpec := { name := "defsDoes", fn := fun _ => fun
  | [d] => { results := [.lit (.bool false)], args := [d] }
  | _ => none }
def DefsDoesWrongFalsely : Prop := defsDoesRow.holds Try.pinned (OpenSpec.ofChange defsDoesWrong)

/-- 'graftworklaw.DefsTurns': WHATEVER THE INPUT: true; the input reads as it did. -/
def defsTurnsSpec : ChangeSpec := { name := "defsTurns", fn := fun _ => fun
  | [d1, d2] => { results := [.lit (.bool true)], args := [d1, d2] }
  | _ => none }
def defsTurnsRow : OpenClaim := { program := "ytdikjhfnmkejcab", sum := "42ec40458d9228fb34d735a745d544bcc405095b9363c39dfea62bcdba1e30e0", func := "graftwork/graftworklaw.DefsTurns", spec := "defsTurns", inPlace := ["internal/abi.NoEscape"], unfollowed := true, recurses := true, loops := true, apart := false }
def DefsTurnsSaid : Prop := defsTurnsRow.holds Try.pinned (OpenSpec.ofChange defsTurnsSpec)

/-- ITS FALSE NEIGHBOUR: 'it returns false'. Refute it at one input. -/
def defsTurnsWrong : ChangeSpec := { name := "defsTurns", fn := fun _ => fun
  | [d1, d2] => { results := [.lit (.bool false)], args := [d1, d2] }
  | _ => none }
def DefsTurnsWrongFalsely : Prop := defsTurnsRow.holds Try.pinned (OpenSpec.ofChange defsTurnsWrong)

/- THE SECOND FORM. 'bulk': how many values and letters a reading holds, each counted each time it is reached (what is shared counts as often as it is met; a slice's spare places count too). A statement '..UptoSaid' is the law's where the arguments, and the package variables that the reading takes, are together of bulk at most 1048576: NARROWER than '..Said'. Prove '..Said' where nothing that the law and all that it calls make is longer than what came in: it says more and counts as full. Else prove '..UptoSaid'. A law counts once. -/
mutual
def uptoBulk {H : Type} : DataW H → Nat
  | .lit (.string bytes) => bytes.length + 1
  | .lit _ => 1
  | .nil => 1
  | .ptr d => uptoBulk d + 1
  | .slice elems spare => uptoBulkAll elems + uptoBulkAll spare + 1
  | .agg parts => uptoBulkAll parts + 1
  | .iface _ d => uptoBulk d + 1
  | .map entries => uptoBulkEntries entries + 1
  | .held _ => 1
def uptoBulkAll {H : Type} : List (DataW H) → Nat
  | [] => 0
  | d :: r => uptoBulk d + uptoBulkAll r
def uptoBulkEntries {H : Type} : List (Lit × DataW H) → Nat
  | [] => 0
  | x :: r => uptoBulkEntry x + uptoBulkEntries r
def uptoBulkEntry {H : Type} : Lit × DataW H → Nat
  | (.string bytes, d) => bytes.length + uptoBulk d + 1
  | (_, d) => uptoBulk d + 1
 end
def uptoSmall : (H : Type) → List (DataW H) → Bool := fun _ ds => decide (uptoBulkAll ds ≤ 1048576)
def OpenSpec.upto (s : _root_.Go.ChangeSpec) : _root_.Go.OpenSpec := { _root_.Go.OpenSpec.ofChange s with cond := some uptoSmall }

/-- 'graftworklaw.RenderPrints', WHERE WHAT IT READS IS OF BULK AT MOST 1048576: true; the input reads as it did. -/
def renderPrintsUptoRow : OpenClaim := { program := "ytdikjhfnmkejcab", sum := "42ec40458d9228fb34d735a745d544bcc405095b9363c39dfea62bcdba1e30e0", func := "graftwork/graftworklaw.RenderPrints", spec := "renderPrints", inPlace := ["internal/bytealg.IndexByteString", "internal/abi.NoEscape"], unfollowed := true, recurses := true, loops := true, apart := false, narrowed := true }
def RenderPrintsUptoSaid : Prop := renderPrintsUptoRow.holds Try.pinned (OpenSpec.upto renderPrintsSpec)

/-- 'graftworklaw.RenderBack', WHERE WHAT IT READS IS OF BULK AT MOST 1048576: true; the input reads as it did. -/
def renderBackUptoRow : OpenClaim := { program := "ytdikjhfnmkejcab", sum := "42ec40458d9228fb34d735a745d544bcc405095b9363c39dfea62bcdba1e30e0", func := "graftwork/graftworklaw.RenderBack", spec := "renderBack", inPlace := ["internal/bytealg.IndexByteString", "internal/abi.NoEscape"], unfollowed := true, recurses := true, loops := true, apart := false, narrowed := true }
def RenderBackUptoSaid : Prop := renderBackUptoRow.holds Try.pinned (OpenSpec.upto renderBackSpec)

/-- 'graftworklaw.RenderApart', WHERE WHAT IT READS IS OF BULK AT MOST 1048576: true; the input reads as it did. -/
def renderApartUptoRow : OpenClaim := { program := "ytdikjhfnmkejcab", sum := "42ec40458d9228fb34d735a745d544bcc405095b9363c39dfea62bcdba1e30e0", func := "graftwork/graftworklaw.RenderApart", spec := "renderApart", inPlace := ["internal/bytealg.IndexByteString", "internal/abi.NoEscape"], unfollowed := true, recurses := true, loops := true, apart := false, narrowed := true }
def RenderApartUptoSaid : Prop := renderApartUptoRow.holds Try.pinned (OpenSpec.upto renderApartSpec)

/-- 'graftworklaw.RenderForth', WHERE WHAT IT READS IS OF BULK AT MOST 1048576: true; the input reads as it did. -/
def renderForthUptoRow : OpenClaim := { program := "ytdikjhfnmkejcab", sum := "42ec40458d9228fb34d735a745d544bcc405095b9363c39dfea62bcdba1e30e0", func := "graftwork/graftworklaw.RenderForth", spec := "renderForth", inPlace := ["internal/bytealg.IndexByteString", "internal/abi.NoEscape"], unfollowed := true, recurses := true, apart := false, narrowed := true }
def RenderForthUptoSaid : Prop := renderForthUptoRow.holds Try.pinned (OpenSpec.upto renderForthSpec)

/-- 'graftworklaw.DefsDoes', WHERE WHAT IT READS IS OF BULK AT MOST 1048576: true; the input reads as it did. -/
def defsDoesUptoRow : OpenClaim := { program := "ytdikjhfnmkejcab", sum := "42ec40458d9228fb34d735a745d544bcc405095b9363c39dfea62bcdba1e30e0", func := "graftwork/graftworklaw.DefsDoes", spec := "defsDoes", inPlace := ["internal/abi.NoEscape"], unfollowed := true, recurses := true, loops := true, apart := false, narrowed := true }
def DefsDoesUptoSaid : Prop := defsDoesUptoRow.holds Try.pinned (OpenSpec.upto defsDoesSpec)

/-- 'graftworklaw.DefsTurns', WHERE WHAT IT READS IS OF BULK AT MOST 1048576: true; the input reads as it did. -/
def defsTurnsUptoRow : OpenClaim := { program := "ytdikjhfnmkejcab", sum := "42ec40458d9228fb34d735a745d544bcc405095b9363c39dfea62bcdba1e30e0", func := "graftwork/graftworklaw.DefsTurns", spec := "defsTurns", inPlace := ["internal/abi.NoEscape"], unfollowed := true, recurses := true, loops := true, apart := false, narrowed := true }
def DefsTurnsUptoSaid : Prop := defsTurnsUptoRow.holds Try.pinned (OpenSpec.upto defsTurnsSpec)

end Rows
end Go.Proofs.Ytdikjhfnmkejcab
