/-
  NARROWER THAN 'FOR EVERY INPUT', by the rows' own cells (each row's printed sentence says how): TreeDoes: loops · TreeOrders: loops · FragChecks: loops · FragBacks: loops · FragPlugs: loops.
  DERIVED. THE GIVEN ROWS OF THIS SEAT. 6 by the template 'for every input the law returns true; each argument reads behind the call as it read before'; 0 by the template 'total and deterministic' (their statements: YtlhdppkllmnmkadTotals.lean).
  GIVEN WITH THE SEED: the statements are not yours to turn. If you find one false, say at which input.
  Laid BY PROGRAM, IN A SANDBOX (cutbox-rows.mjs): the forced cells as the released guide's own fill.sh prints them over the translation bd2ed62e2a8b813b… (all of the seat's roots in one cut). By AI agents, Wed Nov 11 2026. No macro, syntax, notation, axiom, sorry.
-/
import Derived.Test.YtlhdppkllmnmkadChecked
import GoSem.Claim
import GoSem.ClaimJoined
import GoSem.ClaimMapViews
import Derived.JoinedTies
import Derived.KernelRfl
namespace Go.Proofs.Ytlhdppkllmnmkad
/- THE CELL 'sum', in the pinned program and in every row, IS THE sha256 OF THE DUMP (.gsa) THAT YtlhdppkllmnmkadProg.lean LOADS. Nothing in Lean hashes anything: it is a label: what it is worth is what the hold of that sum in a sandbox is worth. -/
noncomputable def Try.pinned : Pinned := { name := "ytlhdppkllmnmkad", sum := "bd2ed62e2a8b813b18144d27757cdd537c272b42d87bee3494786c451c48295f", checked := Try.checked }
namespace Rows
def none {H : Type} : Left H := { results := [], args := [] }

/-- 'graftworklaw.TreeDoes': WHATEVER THE INPUT: true; the input reads as it did. -/
def treeDoesSpec : ChangeSpec := { name := "treeDoes", fn := fun _ => fun
  | [d1, d2, d3, d4] => { results := [.lit (.bool true)], args := [d1, d2, d3, d4] }
  | _ => none }
def treeDoesRow : OpenClaim := { program := "ytlhdppkllmnmkad", sum := "bd2ed62e2a8b813b18144d27757cdd537c272b42d87bee3494786c451c48295f", func := "graftwork/graftworklaw.TreeDoes", spec := "treeDoes", unfollowed := true, recurses := true, loops := true, plainKeys := false, apart := false }
def TreeDoesSaid : Prop := treeDoesRow.holds Try.pinned (OpenSpec.ofChange treeDoesSpec)

/-- ITS FALSE NEIGHBOUR: 'it returns false'. Refute it at one input. -/
def treeDoesWrong : ChangeSpec := { name := "treeDoes", fn := fun _ => fun
  | [d1, d2, d3, d4] => { results := [.lit (.bool false)], args := [d1, d2, d3, d4] }
  | _ => none }
def TreeDoesWrongFalsely : Prop := treeDoesRow.holds Try.pinned (OpenSpec.ofChange treeDoesWrong)

/-- 'graftworklaw.TreeOrders': WHATEVER THE INPUT: true; the input reads as it did. -/
def treeOrdersSpec : ChangeSpec := { name := "treeOrders", fn := fun _ => fun
  | [d1, d2, d3] => { results := [.lit (.bool true)], args := [d1, d2, d3] }
  | _ => none }
def treeOrdersRow : OpenClaim := { program := "ytlhdppkllmnmkad", sum := "bd2ed62e2a8b813b18144d27757cdd537c272b42d87bee3494786c451c48295f", func := "graftwork/graftworklaw.TreeOrders", spec := "treeOrders", unfollowed := true, recurses := true, loops := true, plainKeys := false, apart := false }
def TreeOrdersSaid : Prop := treeOrdersRow.holds Try.pinned (OpenSpec.ofChange treeOrdersSpec)

/-- ITS FALSE NEIGHBOUR: 'it returns false'. Refute it at one input. -/
def treeOrdersWrong : ChangeSpec := { name := "treeOrders", fn := fun _ => fun
  | [d1, d2, d3] => { results := [.lit (.bool false)], args := [d1, d2, d3] }
  | _ => none }
def TreeOrdersWrongFalsely : Prop := treeOrdersRow.holds Try.pinned (OpenSpec.ofChange treeOrdersWrong)

/-- 'graftworklaw.FragChecks': WHATEVER THE INPUT: true; the input reads as it did. -/
def fragChecksSpec : ChangeSpec := { name := "fragChecks", fn := fun _ => fun
  | [d1, d2] => { results := [.lit (.bool true)], args := [d1, d2] }
  | _ => none }
def fragChecksRow : OpenClaim := { program := "ytlhdppkllmnmkad", sum := "bd2ed62e2a8b813b18144d27757cdd537c272b42d87bee3494786c451c48295f", func := "graftwork/graftworklaw.FragChecks", spec := "fragChecks", unfollowed := true, recurses := true, loops := true, plainKeys := false, apart := false }
def FragChecksSaid : Prop := fragChecksRow.holds Try.pinned (OpenSpec.ofChange fragChecksSpec)

/-- ITS FALSE NEIGHBOUR: 'it returns false'. Refute it at one input. -/
def fragChecksWrong : ChangeSpec := { name := "fragChecks", fn := fun _ => fun
  | [d1, d2] => { results := [.lit (.bool false)], args := [d1, d2] }
  | _ => none }
def FragChecksWrongFalsely : Prop := fragChecksRow.holds Try.pinned (OpenSpec.ofChange fragChecksWrong)

/-- 'graftworklaw.FragBacks': WHATEVER THE INPUT: true; the input reads as it did. -/
def fragBacksSpec : ChangeSpec := { name := "fragBacks", fn := fun _ => fun
  | [d1, d2, d3] => { results := [.lit (.bool true)], args := [d1, d2, d3] }
  | _ => none }
def fragBacksRow : OpenClaim := { program := "ytlhdppkllmnmkad", sum := "bd2ed62e2a8b813b18144d27757cdd537c272b42d87bee3494786c451c48295f", func := "graftwork/graftworklaw.FragBacks", spec := "fragBacks", unfollowed := true, recurses := true, loops := true, plainKeys := false, apart := false }
def FragBacksSaid : Prop := fragBacksRow.holds Try.pinned (OpenSpec.ofChange fragBacksSpec)

/-- ITS FALSE NEIGHBOUR: 'it returns false'. Refute it at one input. -/
def fragBacksWrong : ChangeSpec := { name := "fragBacks", fn := fun _ => fun
  | [d1, d2, d3] => { results := [.lit (.bool false)], args := [d1, d2, d3] }
  | _ => none }
def FragBacksWrongFalsely : Prop := fragBacksRow.holds Try.pinned (OpenSpec.ofChange fragBacksWrong)

/-- 'graftworklaw.FragPlugs': WHATEVER THE INPUT: true; the input reads as it did. -/
def fragPlugsSpec : ChangeSpec := { name := "fragPlugs", fn := fun _ => fun
  | [d1, d2, d3, d4] => { results := [.lit (.bool true)], args := [d1, d2, d3, d4] }
  | _ => none }
def fragPlugsRow : OpenClaim := { program := "ytlhdppkllmnmkad", sum := "bd2ed62e2a8b813b18144d27757cdd537c272b42d87bee3494786c451c48295f", func := "graftwork/graftworklaw.FragPlugs", spec := "fragPlugs", unfollowed := true, recurses := true, loops := true, plainKeys := false, apart := false }
def FragPlugsSaid : Prop := fragPlugsRow.holds Try.pinned (OpenSpec.ofChange fragPlugsSpec)

/-- ITS FALSE NEIGHBOUR: 'it returns false'. Refute it at one input. -/
def fragPlugsWrong : ChangeSpec := { name := "fragPlugs", fn := fun _ => fun
  | [d1, d2, d3, d4] => { results := [.lit (.bool false)], args := [d1, d2, d3, d4] }
  | _ => none }
def FragPlugsWrongFalsely : Prop := fragPlugsRow.holds Try.pinned (OpenSpec.ofChange fragPlugsWrong)

/-- 'graftworklaw.ChartCounts': WHATEVER THE INPUT: true; the input reads as it did. -/
def chartCountsSpec : ChangeSpec := { name := "chartCounts", fn := fun _ => fun
  | [d1, d2, d3, d4, d5, d6, d7] => { results := [.lit (.bool true)], args := [d1, d2, d3, d4, d5, d6, d7] }
  | _ => none }
def chartCountsRow : OpenClaim := { program := "ytlhdppkllmnmkad", sum := "bd2ed62e2a8b813b18144d27757cdd537c272b42d87bee3494786c451c48295f", func := "graftwork/graftworklaw.ChartCounts", spec := "chartCounts", unfollowed := true, recurses := true, plainKeys := false, apart := false }
def ChartCountsSaid : Prop := chartCountsRow.holds Try.pinned (OpenSpec.ofChange chartCountsSpec)

/-- ITS FALSE NEIGHBOUR: 'it returns false'. Refute it at one input. -/
def chartCountsWrong : ChangeSpec := { name := "chartCounts", fn := fun _ => fun
  | [d1, d2, d3, d4, d5, d6, d7] => { results := [.lit (.bool false)], args := [d1, d2, d3, d4, d5, d6, d7] }
  | _ => none }
def ChartCountsWrongFalsely : Prop := chartCountsRow.holds Try.pinned (OpenSpec.ofChange chartCountsWrong)

/- THE SECOND FORM. 'bulk': how many values and letters a reading holds, each counted each time it is reached (what is shared counts as often as it is met; a slice's spare places count too). A statement '..UptoSaid' is the law's where the arguments, and the package variables that the reading takes, are together of bulk at most 1048576: NARROWER than '..Said'. Prove '..Said' where nothing that the law and all that it calls make is longer than what came in: it says more and counts as full. Else prove '..UptoSaid'. A law counts once. -/
mutual
def uptoBulk {H : Type} : DataW H → Nat
  | .lit (.string bytes) => bytes.length + 1
  | .lit _ => 1
  | .nil => 1
  | .ptr d => uptoBulk d + 1
  | .slice elems spare => uptoBulkAll elems + uptoBulkAll spare + 1
  | .agg parts => uptoBulkAll parts + 1
  | .iface _ d => uptoBulk d + 1
  | .map entries => uptoBulkEntries entries + 1
  | .held _ => 1
def uptoBulkAll {H : Type} : List (DataW H) → Nat
  | [] => 0
  | d :: r => uptoBulk d + uptoBulkAll r
def uptoBulkEntries {H : Type} : List (Lit × DataW H) → Nat
  | [] => 0
  | x :: r => uptoBulkEntry x + uptoBulkEntries r
def uptoBulkEntry {H : Type} : Lit × DataW H → Nat
  | (.string bytes, d) => bytes.length + uptoBulk d + 1
  | (_, d) => uptoBulk d + 1
 end
def uptoSmall : (H : Type) → List (DataW H) → Bool := fun _ ds => decide (uptoBulkAll ds ≤ 1048576)
def OpenSpec.upto (s : _root_.Go.ChangeSpec) : _root_.Go.OpenSpec := { _root_.Go.OpenSpec.ofChange s with cond := some uptoSmall }

/-- 'graftworklaw.TreeDoes', WHERE WHAT IT READS IS OF BULK AT MOST 1048576: true; the input reads as it did. -/
def treeDoesUptoRow : OpenClaim := { program := "ytlhdppkllmnmkad", sum := "bd2ed62e2a8b813b18144d27757cdd537c272b42d87bee3494786c451c48295f", func := "graftwork/graftworklaw.TreeDoes", spec := "treeDoes", unfollowed := true, recurses := true, loops := true, plainKeys := false, apart := false, narrowed := true }
def TreeDoesUptoSaid : Prop := treeDoesUptoRow.holds Try.pinned (OpenSpec.upto treeDoesSpec)

/-- 'graftworklaw.TreeOrders', WHERE WHAT IT READS IS OF BULK AT MOST 1048576: true; the input reads as it did. -/
def treeOrdersUptoRow : OpenClaim := { program := "ytlhdppkllmnmkad", sum := "bd2ed62e2a8b813b18144d27757cdd537c272b42d87bee3494786c451c48295f", func := "graftwork/graftworklaw.TreeOrders", spec := "treeOrders", unfollowed := true, recurses := true, loops := true, plainKeys := false, apart := false, narrowed := true }
def TreeOrdersUptoSaid : Prop := treeOrdersUptoRow.holds Try.pinned (OpenSpec.upto treeOrdersSpec)

/-- 'graftworklaw.FragChecks', WHERE WHAT IT READS IS OF BULK AT MOST 1048576: true; the input reads as it did. -/
def fragChecksUptoRow : OpenClaim := { program := "ytlhdppkllmnmkad", sum := "bd2ed62e2a8b813b18144d27757cdd537c272b42d87bee3494786c451c48295f", func := "graftwork/graftworklaw.FragChecks", spec := "fragChecks", unfollowed := true, recurses := true, loops := true, plainKeys := false, apart := false, narrowed := true }
def FragChecksUptoSaid : Prop := fragChecksUptoRow.holds Try.pinned (OpenSpec.upto fragChecksSpec)

/-- 'graftworklaw.FragBacks', WHERE WHAT IT READS IS OF BULK AT MOST 1048576: true; the input reads as it did. -/
def fragBacksUptoRow : OpenClaim := { program := "ytlhdppkllmnmkad", sum := "bd2ed62e2a8b813b18144d27757cdd537c272b42d87bee3494786c451c48295f", func := "graftwork/graftworklaw.FragBacks", spec := "fragBacks", unfollowed := true, recurses := true, loops := true, plainKeys := false, apart := false, narrowed := true }
def FragBacksUptoSaid : Prop := fragBacksUptoRow.holds Try.pinned (OpenSpec.upto fragBacksSpec)

/-- 'graftworklaw.FragPlugs', WHERE WHAT IT READS IS OF BULK AT MOST 1048576: true; the input reads as it did. -/
def fragPlugsUptoRow : OpenClaim := { program := "ytlhdppkllmnmkad", sum := "bd2ed62e2a8b813b18144d27757cdd537c272b42d87bee3494786c451c48295f", func := "graftwork/graftworklaw.FragPlugs", spec := "fragPlugs", unfollowed := true, recurses := true, loops := true, plainKeys := false, apart := false, narrowed := true }
def FragPlugsUptoSaid : Prop := fragPlugsUptoRow.holds Try.pinned (OpenSpec.upto fragPlugsSpec)

/-- 'graftworklaw.ChartCounts', WHERE WHAT IT READS IS OF BULK AT MOST 1048576: true; the input reads as it did. -/
def chartCountsUptoRow : OpenClaim := { program := "ytlhdppkllmnmkad", sum := "bd2ed62e2a8b813b18144d27757cdd537c272b42d87bee3494786c451c48295f", func := "graftwork/graftworklaw.ChartCounts", spec := "chartCounts", unfollowed := true, recurses := true, plainKeys := false, apart := false, narrowed := true }
def ChartCountsUptoSaid : Prop := chartCountsUptoRow.holds Try.pinned (OpenSpec.upto chartCountsSpec)

end Rows
end Go.Proofs.Ytlhdppkllmnmkad
