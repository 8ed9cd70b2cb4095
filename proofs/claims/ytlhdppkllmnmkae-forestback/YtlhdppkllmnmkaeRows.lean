/-
  No cell of these rows narrows 'for every input' (looked for: loops, veiled, ifaces, maps, wideKeys, modest, calm, conditions, laid).
  DERIVED. THE GIVEN ROWS OF THIS SEAT. 4 by the template 'for every input the law returns true; each argument reads behind the call as it read before'; 0 by the template 'total and deterministic' (their statements: YtlhdppkllmnmkaeTotals.lean).
  GIVEN WITH THE SEED: the statements are not yours to turn. If you find one false, say at which input.
  Laid BY PROGRAM, IN A SANDBOX (cutbox-rows.mjs): the forced cells as the released guide's own fill.sh prints them over the translation 67489e7a38efe979… (all of the seat's roots in one cut). By AI agents, Wed Nov 11 2026. No macro, syntax, notation, axiom, sorry.
-/
import Derived.Test.YtlhdppkllmnmkaeChecked
import GoSem.Claim
import GoSem.ClaimJoined
import GoSem.ClaimMapViews
import Derived.JoinedTies
import Derived.KernelRfl
namespace Go.Proofs.Ytlhdppkllmnmkae
/- THE CELL 'sum', in the pinned program and in every row, IS THE sha256 OF THE DUMP (.gsa) THAT YtlhdppkllmnmkaeProg.lean LOADS. Nothing in Lean hashes anything: it is a label: what it is worth is what the hold of that sum in a sandbox is worth. -/
noncomputable def Try.pinned : Pinned := { name := "ytlhdppkllmnmkae", sum := "67489e7a38efe979a9ddefc6b9c35fae9b9b4cdef5a8ef86df3e5ab6dc51cd91", checked := Try.checked }
namespace Rows
def none {H : Type} : Left H := { results := [], args := [] }

/-- 'graftworklaw.ChartParts': WHATEVER THE INPUT: true; the input reads as it did. -/
def chartPartsSpec : ChangeSpec := { name := "chartParts", fn := fun _ => fun
  | [d1, d2, d3, d4] => { results := [.lit (.bool true)], args := [d1, d2, d3, d4] }
  | _ => none }
def chartPartsRow : OpenClaim := { program := "ytlhdppkllmnmkae", sum := "67489e7a38efe979a9ddefc6b9c35fae9b9b4cdef5a8ef86df3e5ab6dc51cd91", func := "graftwork/graftworklaw.ChartParts", spec := "chartParts", unfollowed := true, recurses := true, plainKeys := false, apart := false }
def ChartPartsSaid : Prop := chartPartsRow.holds Try.pinned (OpenSpec.ofChange chartPartsSpec)

/-- ITS FALSE NEIGHBOUR: 'it returns false'. Refute it at one input. -/
def chartPartsWrong : ChangeSpec := { name := "chartParts", fn := fun _ => fun
  | [d1, d2, d3, d4] => { results := [.lit (.bool false)], args := [d1, d2, d3, d4] }
  | _ => none }
def ChartPartsWrongFalsely : Prop := chartPartsRow.holds Try.pinned (OpenSpec.ofChange chartPartsWrong)

/-- 'graftworklaw.ChartSums': WHATEVER THE INPUT: true; the input reads as it did. -/
def chartSumsSpec : ChangeSpec := { name := "chartSums", fn := fun _ => fun
  | [d1, d2] => { results := [.lit (.bool true)], args := [d1, d2] }
  | _ => none }
def chartSumsRow : OpenClaim := { program := "ytlhdppkllmnmkae", sum := "67489e7a38efe979a9ddefc6b9c35fae9b9b4cdef5a8ef86df3e5ab6dc51cd91", func := "graftwork/graftworklaw.ChartSums", spec := "chartSums", unfollowed := true, recurses := true, plainKeys := false, apart := false }
def ChartSumsSaid : Prop := chartSumsRow.holds Try.pinned (OpenSpec.ofChange chartSumsSpec)

/-- ITS FALSE NEIGHBOUR: 'it returns false'. Refute it at one input. -/
def chartSumsWrong : ChangeSpec := { name := "chartSums", fn := fun _ => fun
  | [d1, d2] => { results := [.lit (.bool false)], args := [d1, d2] }
  | _ => none }
def ChartSumsWrongFalsely : Prop := chartSumsRow.holds Try.pinned (OpenSpec.ofChange chartSumsWrong)

/-- 'graftworklaw.ForestBack': WHATEVER THE INPUT: true; the input reads as it did. -/
def forestBackSpec : ChangeSpec := { name := "forestBack", fn := fun _ => fun
  | [d1, d2, d3] => { results := [.lit (.bool true)], args := [d1, d2, d3] }
  | _ => none }
def forestBackRow : OpenClaim := { program := "ytlhdppkllmnmkae", sum := "67489e7a38efe979a9ddefc6b9c35fae9b9b4cdef5a8ef86df3e5ab6dc51cd91", func := "graftwork/graftworklaw.ForestBack", spec := "forestBack", unfollowed := true, recurses := true, plainKeys := false, apart := false }
def ForestBackSaid : Prop := forestBackRow.holds Try.pinned (OpenSpec.ofChange forestBackSpec)

/-- ITS FALSE NEIGHBOUR: 'it returns false'. Refute it at one input. -/
def forestBackWrong : ChangeSpec := { name := "forestBack", fn := fun _ => fun
  | [d1, d2, d3] => { results := [.lit (.bool false)], args := [d1, d2, d3] }
  | _ => none }
def ForestBackWrongFalsely : Prop := forestBackRow.holds Try.pinned (OpenSpec.ofChange forestBackWrong)

/-- 'graftworklaw.ForestWhole': WHATEVER THE INPUT: true; the input reads as it did. -/
def forestWholeSpec : ChangeSpec := { name := "forestWhole", fn := fun _ => fun
  | [d1, d2] => { results := [.lit (.bool true)], args := [d1, d2] }
  | _ => none }
def forestWholeRow : OpenClaim := { program := "ytlhdppkllmnmkae", sum := "67489e7a38efe979a9ddefc6b9c35fae9b9b4cdef5a8ef86df3e5ab6dc51cd91", func := "graftwork/graftworklaw.ForestWhole", spec := "forestWhole", unfollowed := true, recurses := true, plainKeys := false, apart := false }
def ForestWholeSaid : Prop := forestWholeRow.holds Try.pinned (OpenSpec.ofChange forestWholeSpec)

/-- ITS FALSE NEIGHBOUR: 'it returns false'. Refute it at one input. -/
def forestWholeWrong : ChangeSpec := { name := "forestWhole", fn := fun _ => fun
  | [d1, d2] => { results := [.lit (.bool false)], args := [d1, d2] }
  | _ => none }
def ForestWholeWrongFalsely : Prop := forestWholeRow.holds Try.pinned (OpenSpec.ofChange forestWholeWrong)

/- THE SECOND FORM. 'bulk': how many values and letters a reading holds, each counted each time it is reached (what is shared counts as often as it is met; a slice's spare places count too). A statement '..UptoSaid' is the law's where the arguments, and the package variables that the reading takes, are together of bulk at most 1048576: NARROWER than '..Said'. Prove '..Said' where nothing that the law and all that it calls make is longer than what came in: it says more and counts as full. Else prove '..UptoSaid'. A law counts once. -/
mutual
def uptoBulk {H : Type} : DataW H → Nat
  | .lit (.string bytes) => bytes.length + 1
  | .lit _ => 1
  | .nil => 1
  | .ptr d => uptoBulk d + 1
  | .slice elems spare => uptoBulkAll elems + uptoBulkAll spare + 1
  | .agg parts => uptoBulkAll parts + 1
  | .iface _ d => uptoBulk d + 1
  | .map entries => uptoBulkEntries entries + 1
  | .held _ => 1
def uptoBulkAll {H : Type} : List (DataW H) → Nat
  | [] => 0
  | d :: r => uptoBulk d + uptoBulkAll r
def uptoBulkEntries {H : Type} : List (Lit × DataW H) → Nat
  | [] => 0
  | x :: r => uptoBulkEntry x + uptoBulkEntries r
def uptoBulkEntry {H : Type} : Lit × DataW H → Nat
  | (.string bytes, d) => bytes.length + uptoBulk d + 1
  | (_, d) => uptoBulk d + 1
 end
def uptoSmall : (H : Type) → List (DataW H) → Bool := fun _ ds => decide (uptoBulkAll ds ≤ 1048576)
def OpenSpec.upto (s : _root_.Go.ChangeSpec) : _root_.Go.OpenSpec := { _root_.Go.OpenSpec.ofChange s with cond := some uptoSmall }

/-- 'graftworklaw.ChartParts', WHERE WHAT IT READS IS OF BULK AT MOST 1048576: true; the input reads as it did. -/
def chartPartsUptoRow : OpenClaim := { program := "ytlhdppkllmnmkae", sum := "67489e7a38efe979a9ddefc6b9c35fae9b9b4cdef5a8ef86df3e5ab6dc51cd91", func := "graftwork/graftworklaw.ChartParts", spec := "chartParts", unfollowed := true, recurses := true, plainKeys := false, apart := false, narrowed := true }
def ChartPartsUptoSaid : Prop := chartPartsUptoRow.holds Try.pinned (OpenSpec.upto chartPartsSpec)

/-- 'graftworklaw.ChartSums', WHERE WHAT IT READS IS OF BULK AT MOST 1048576: true; the input reads as it did. -/
def chartSumsUptoRow : OpenClaim := { program := "ytlhdppkllmnmkae", sum := "67489e7a38efe979a9ddefc6b9c35fae9b9b4cdef5a8ef86df3e5ab6dc51cd91", func := "graftwork/graftworklaw.ChartSums", spec := "chartSums", unfollowed := true, recurses := true, plainKeys := false, apart := false, narrowed := true }
def ChartSumsUptoSaid : Prop := chartSumsUptoRow.holds Try.pinned (OpenSpec.upto chartSumsSpec)

/-- 'graftworklaw.ForestBack', WHERE WHAT IT READS IS OF BULK AT MOST 1048576: true; the input reads as it did. -/
def forestBackUptoRow : OpenClaim := { program := "ytlhdppkllmnmkae", sum := "67489e7a38efe979a9ddefc6b9c35fae9b9b4cdef5a8ef86df3e5ab6dc51cd91", func := "graftwork/graftworklaw.ForestBack", spec := "forestBack", unfollowed := true, recurses := true, plainKeys := false, apart := false, narrowed := true }
def ForestBackUptoSaid : Prop := forestBackUptoRow.holds Try.pinned (OpenSpec.upto forestBackSpec)

/-- 'graftworklaw.ForestWhole', WHERE WHAT IT READS IS OF BULK AT MOST 1048576: true; the input reads as it did. -/
def forestWholeUptoRow : OpenClaim := { program := "ytlhdppkllmnmkae", sum := "67489e7a38efe979a9ddefc6b9c35fae9b9b4cdef5a8ef86df3e5ab6dc51cd91", func := "graftwork/graftworklaw.ForestWhole", spec := "forestWhole", unfollowed := true, recurses := true, plainKeys := false, apart := false, narrowed := true }
def ForestWholeUptoSaid : Prop := forestWholeUptoRow.holds Try.pinned (OpenSpec.upto forestWholeSpec)

end Rows
end Go.Proofs.Ytlhdppkllmnmkae
