/-
  NARROWER THAN 'FOR EVERY INPUT', by the rows' own cells (each row's printed sentence says how): ExpandMakes: loops · ExpandMeans: loops.
  DERIVED. THE GIVEN ROWS OF THIS SEAT. 6 by the template 'for every input the law returns true; each argument reads behind the call as it read before'; 0 by the template 'total and deterministic' (their statements: YtghplmldnkcpnacTotals.lean).
  GIVEN WITH THE SEED: the statements are not yours to turn. If you find one false, say at which input.
  Laid BY PROGRAM, IN A SANDBOX (cutbox-rows.mjs): the forced cells as the released guide's own fill.sh prints them over the translation 9d6fd9e3d0045fa1… (all of the seat's roots in one cut). By AI agents, Wed Nov 11 2026. No macro, syntax, notation, axiom, sorry.
-/
import Derived.Test.YtghplmldnkcpnacChecked
import GoSem.Claim
import GoSem.ClaimJoined
import GoSem.ClaimMapViews
import Derived.JoinedTies
import Derived.KernelRfl
namespace Go.Proofs.Ytghplmldnkcpnac
/- THE CELL 'sum', in the pinned program and in every row, IS THE sha256 OF THE DUMP (.gsa) THAT YtghplmldnkcpnacProg.lean LOADS. Nothing in Lean hashes anything: it is a label: what it is worth is what the hold of that sum in a sandbox is worth. -/
noncomputable def Try.pinned : Pinned := { name := "ytghplmldnkcpnac", sum := "9d6fd9e3d0045fa1295c7309fe059550af20401ff259be6e22fb776c4d5f90ac", checked := Try.checked }
namespace Rows
def none {H : Type} : Left H := { results := [], args := [] }

/-- 'graftworklaw.GramDoes': WHATEVER THE INPUT: true; the input reads as it did. -/
def gramDoesSpec : ChangeSpec := { name := "gramDoes", fn := fun _ => fun
  | [d1, d2, d3] => { results := [.lit (.bool true)], args := [d1, d2, d3] }
  | _ => none }
def gramDoesRow : OpenClaim := { program := "ytghplmldnkcpnac", sum := "9d6fd9e3d0045fa1295c7309fe059550af20401ff259be6e22fb776c4d5f90ac", func := "graftwork/graftworklaw.GramDoes", spec := "gramDoes", unfollowed := true, recurses := true, apart := false }
def GramDoesSaid : Prop := gramDoesRow.holds Try.pinned (OpenSpec.ofChange gramDoesSpec)

/-- ITS FALSE NEIGHBOUR: 'it returns false'. Refute it at one input. -/
def gramDoesWrong : ChangeSpec := { name := "gramDoes", fn := fun _ => fun
  | [d1, d2, d3] => { results := [.lit (.bool false)], args := [d1, d2, d3] }
  | _ => none }
def GramDoesWrongFalsely : Prop := gramDoesRow.holds Try.pinned (OpenSpec.ofChange gramDoesWrong)

/-- 'graftworklaw.ExpandMakes': WHATEVER THE INPUT: true; the input reads as it did. -/
def expandMakesSpec : ChangeSpec := { name := "expandMakes", fn := fun _ => fun
  | [d] => { results := [.lit (.bool true)], args := [d] }
  | _ => none }
def expandMakesRow : OpenClaim := { program := "ytghplmldnkcpnac", sum := "9d6fd9e3d0045fa1295c7309fe059550af20401ff259be6e22fb776c4d5f90ac", func := "graftwork/graftworklaw.ExpandMakes", spec := "expandMakes", inPlace := ["internal/abi.NoEscape"], unfollowed := true, recurses := true, loops := true, apart := false }
def ExpandMakesSaid : Prop := expandMakesRow.holds Try.pinned (OpenSpec.ofChange expandMakesSpec)

/-- ITS FALSE NEIGHBOUR: 'it returns false'. Refute it at one input. -/
def expandMakesWrong : ChangeSpec := { name := "expandMakes", fn := fun _ => fun
  | [d] => { results := [.lit (.bool false)], args := [d] }
  | _ => none }
def ExpandMakesWrongFalsely : Prop := expandMakesRow.holds Try.pinned (OpenSpec.ofChange expandMakesWrong)

/-- 'graftworklaw.ExpandMeans': WHATEVER THE INPUT: true; the input reads as it did. -/
def expandMeansSpec : ChangeSpec := { name := "expandMeans", fn := fun _ => fun
  | [d1, d2] => { results := [.lit (.bool true)], args := [d1, d2] }
  | _ => none }
def expandMeansRow : OpenClaim := { program := "ytghplmldnkcpnac", sum := "9d6fd9e3d0045fa1295c7309fe059550af20401ff259be6e22fb776c4d5f90ac", func := "graftwork/graftworklaw.ExpandMeans", spec := "expandMeans", inPlace := ["internal/abi.NoEscape"], unfollowed := true, recurses := true, loops := true, apart := false }
def ExpandMeansSaid : Prop := expandMeansRow.holds Try.pinned (OpenSpec.ofChange expandMeansSpec)

/-- ITS FALSE NEIGHBOUR: 'it returns false'. Refute it at one input. -/
def expandMeansWrong : ChangeSpec := { name := "expandMeans", fn := fun _ => fun
  | [d1, d2] => { results := [.lit (.bool false)], args := [d1, d2] }
  | _ => none }
def ExpandMeansWrongFalsely : Prop := expandMeansRow.holds Try.pinned (OpenSpec.ofChange expandMeansWrong)

/-- 'graftworklaw.FactsDoes': WHATEVER THE INPUT: true; the input reads as it did. -/
def factsDoesSpec : ChangeSpec := { name := "factsDoes", fn := fun _ => fun
  | [d] => { results := [.lit (.bool true)], args := [d] }
  | _ => none }
def factsDoesRow : OpenClaim := { program := "ytghplmldnkcpnac", sum := "9d6fd9e3d0045fa1295c7309fe059550af20401ff259be6e22fb776c4d5f90ac", func := "graftwork/graftworklaw.FactsDoes", spec := "factsDoes", unfollowed := true, recurses := true, apart := false }
def FactsDoesSaid : Prop := factsDoesRow.holds Try.pinned (OpenSpec.ofChange factsDoesSpec)

/-- ITS FALSE NEIGHBOUR: 'it returns false'. Refute it at one input. -/
def factsDoesWrong : ChangeSpec := { name := "factsDoes", fn := fun _ => fun
  | [d] => { results := [.lit (.bool false)], args := [d] }
  | _ => none }
def FactsDoesWrongFalsely : Prop := factsDoesRow.holds Try.pinned (OpenSpec.ofChange factsDoesWrong)

/-- 'graftworklaw.FactsSets': WHATEVER THE INPUT: true; the input reads as it did. -/
def factsSetsSpec : ChangeSpec := { name := "factsSets", fn := fun _ => fun
  | [d1, d2, d3] => { results := [.lit (.bool true)], args := [d1, d2, d3] }
  | _ => none }
def factsSetsRow : OpenClaim := { program := "ytghplmldnkcpnac", sum := "9d6fd9e3d0045fa1295c7309fe059550af20401ff259be6e22fb776c4d5f90ac", func := "graftwork/graftworklaw.FactsSets", spec := "factsSets", unfollowed := true, recurses := true, apart := false }
def FactsSetsSaid : Prop := factsSetsRow.holds Try.pinned (OpenSpec.ofChange factsSetsSpec)

/-- ITS FALSE NEIGHBOUR: 'it returns false'. Refute it at one input. -/
def factsSetsWrong : ChangeSpec := { name := "factsSets", fn := fun _ => fun
  | [d1, d2, d3] => { results := [.lit (.bool false)], args := [d1, d2, d3] }
  | _ => none }
def FactsSetsWrongFalsely : Prop := factsSetsRow.holds Try.pinned (OpenSpec.ofChange factsSetsWrong)

/-- 'graftworklaw.FactsMore': WHATEVER THE INPUT: true; the input reads as it did. -/
def factsMoreSpec : ChangeSpec := { name := "factsMore", fn := fun _ => fun
  | [d1, d2] => { results := [.lit (.bool true)], args := [d1, d2] }
  | _ => none }
def factsMoreRow : OpenClaim := { program := "ytghplmldnkcpnac", sum := "9d6fd9e3d0045fa1295c7309fe059550af20401ff259be6e22fb776c4d5f90ac", func := "graftwork/graftworklaw.FactsMore", spec := "factsMore", unfollowed := true, recurses := true, apart := false }
def FactsMoreSaid : Prop := factsMoreRow.holds Try.pinned (OpenSpec.ofChange factsMoreSpec)

/-- ITS FALSE NEIGHBOUR: 'it returns false'. Refute it at one input. -/
def factsMoreWrong : ChangeSpec := { name := "factsMore", fn := fun _ => fun
  | [d1, d2] => { results := [.lit (.bool false)], args := [d1, d2] }
  | _ => none }
def FactsMoreWrongFalsely : Prop := factsMoreRow.holds Try.pinned (OpenSpec.ofChange factsMoreWrong)

/- THE SECOND FORM. 'bulk': how many values and letters a reading holds, each counted each time it is reached (what is shared counts as often as it is met; a slice's spare places count too). A statement '..UptoSaid' is the law's where the arguments, and the package variables that the reading takes, are together of bulk at most 1048576: NARROWER than '..Said'. Prove '..Said' where nothing that the law and all that it calls make is longer than what came in: it says more and counts as full. Else prove '..UptoSaid'. A law counts once. -/
mutual
def uptoBulk {H : Type} : DataW H → Nat
  | .lit (.string bytes) => bytes.length + 1
  | .lit _ => 1
  | .nil => 1
  | .ptr d => uptoBulk d + 1
  | .slice elems spare => uptoBulkAll elems + uptoBulkAll spare + 1
  | .agg parts => uptoBulkAll parts + 1
  | .iface _ d => uptoBulk d + 1
  | .map entries => uptoBulkEntries entries + 1
  | .held _ => 1
def uptoBulkAll {H : Type} : List (DataW H) → Nat
  | [] => 0
  | d :: r => uptoBulk d + uptoBulkAll r
def uptoBulkEntries {H : Type} : List (Lit × DataW H) → Nat
  | [] => 0
  | x :: r => uptoBulkEntry x + uptoBulkEntries r
def uptoBulkEntry {H : Type} : Lit × DataW H → Nat
  | (.string bytes, d) => bytes.length + uptoBulk d + 1
  | (_, d) => uptoBulk d + 1
 end
def uptoSmall : (H : Type) → List (DataW H) → Bool := fun _ ds => decide (uptoBulkAll ds ≤ 1048576)
def OpenSpec.upto (s : _root_.Go.ChangeSpec) : _root_.Go.OpenSpec := { _root_.Go.OpenSpec.ofChange s with cond := some uptoSmall }

/-- 'graftworklaw.GramDoes', WHERE WHAT IT READS IS OF BULK AT MOST 1048576: true; the input reads as it did. -/
def gramDoesUptoRow : OpenClaim := { program := "ytghplmldnkcpnac", sum := "9d6fd9e3d0045fa1295c7309fe059550af20401ff259be6e22fb776c4d5f90ac", func := "graftwork/graftworklaw.GramDoes", spec := "gramDoes", unfollowed := true, recurses := true, apart := false, narrowed := true }
def GramDoesUptoSaid : Prop := gramDoesUptoRow.holds Try.pinned (OpenSpec.upto gramDoesSpec)

/-- 'graftworklaw.ExpandMakes', WHERE WHAT IT READS IS OF BULK AT MOST 1048576: true; the input reads as it did. -/
def expandMakesUptoRow : OpenClaim := { program := "ytghplmldnkcpnac", sum := "9d6fd9e3d0045fa1295c7309fe059550af20401ff259be6e22fb776c4d5f90ac", func := "graftwork/graftworklaw.ExpandMakes", spec := "expandMakes", inPlace := ["internal/abi.NoEscape"], unfollowed := true, recurses := true, loops := true, apart := false, narrowed := true }
def ExpandMakesUptoSaid : Prop := expandMakesUptoRow.holds Try.pinned (OpenSpec.upto expandMakesSpec)

/-- 'graftworklaw.ExpandMeans', WHERE WHAT IT READS IS OF BULK AT MOST 1048576: true; the input reads as it did. -/
def expandMeansUptoRow : OpenClaim := { program := "ytghplmldnkcpnac", sum := "9d6fd9e3d0045fa1295c7309fe059550af20401ff259be6e22fb776c4d5f90ac", func := "graftwork/graftworklaw.ExpandMeans", spec := "expandMeans", inPlace := ["internal/abi.NoEscape"], unfollowed := true, recurses := true, loops := true, apart := false, narrowed := true }
def ExpandMeansUptoSaid : Prop := expandMeansUptoRow.holds Try.pinned (OpenSpec.upto expandMeansSpec)

/-- 'graftworklaw.FactsDoes', WHERE WHAT IT READS IS OF BULK AT MOST 1048576: true; the input reads as it did. -/
def factsDoesUptoRow : OpenClaim := { program := "ytghplmldnkcpnac", sum := "9d6fd9e3d0045fa1295c7309fe059550af20401ff259be6e22fb776c4d5f90ac", func := "graftwork/graftworklaw.FactsDoes", spec := "factsDoes", unfollowed := true, recurses := true, apart := false, narrowed := true }
def FactsDoesUptoSaid : Prop := factsDoesUptoRow.holds Try.pinned (OpenSpec.upto factsDoesSpec)

/-- 'graftworklaw.FactsSets', WHERE WHAT IT READS IS OF BULK AT MOST 1048576: true; the input reads as it did. -/
def factsSetsUptoRow : OpenClaim := { program := "ytghplmldnkcpnac", sum := "9d6fd9e3d0045fa1295c7309fe059550af20401ff259be6e22fb776c4d5f90ac", func := "graftwork/graftworklaw.FactsSets", spec := "factsSets", unfollowed := true, recurses := true, apart := false, narrowed := true }
def FactsSetsUptoSaid : Prop := factsSetsUptoRow.holds Try.pinned (OpenSpec.upto factsSetsSpec)

/-- 'graftworklaw.FactsMore', WHERE WHAT IT READS IS OF BULK AT MOST 1048576: true; the input reads as it did. -/
def factsMoreUptoRow : OpenClaim := { program := "ytghplmldnkcpnac", sum := "9d6fd9e3d0045fa1295c7309fe059550af20401ff259be6e22fb776c4d5f90ac", func := "graftwork/graftworklaw.FactsMore", spec := "factsMore", unfollowed := true, recurses := true, apart := false, narrowed := true }
def FactsMoreUptoSaid : Prop := factsMoreUptoRow.holds Try.pinned (OpenSpec.upto factsMoreSpec)

end Rows
end Go.Proofs.Ytghplmldnkcpnac
