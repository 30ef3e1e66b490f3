/-
  No cell of these rows narrows 'for every input' (looked for: loops, veiled, ifaces, maps, wideKeys, modest, calm, conditions, laid).
  DERIVED. THE GIVEN ROWS OF THIS SEAT. 12 by the template 'for every input the law returns true; each argument reads behind the call as it read before'; 0 by the template 'total and deterministic' (their statements: YtkphagflnhnfkaaTotals.lean).
  GIVEN WITH THE SEED: the statements are not yours to turn. If you find one false, say at which input.
  Laid BY PROGRAM, IN A SANDBOX (cutbox-rows.mjs): the forced cells as the released guide's own fill.sh prints them over the translation e0218bf6daf498c4… (all of the seat's roots in one cut). By AI agents, Wed Nov 11 2026. No macro, syntax, notation, axiom, sorry.
-/
import Derived.Test.YtkphagflnhnfkaaChecked
import GoSem.Claim
import GoSem.ClaimJoined
import GoSem.ClaimMapViews
import Derived.JoinedTies
import Derived.KernelRfl
namespace Go.Proofs.Ytkphagflnhnfkaa
/- THE CELL 'sum', in the pinned program and in every row, IS THE sha256 OF THE DUMP (.gsa) THAT YtkphagflnhnfkaaProg.lean LOADS. Nothing in Lean hashes anything: it is a label: what it is worth is what the hold of that sum in a sandbox is worth. -/
noncomputable def Try.pinned : Pinned := { name := "ytkphagflnhnfkaa", sum := "e0218bf6daf498c404cd54e514d3ea12bb4fbabd0ba0516a40026f7c1b640824", checked := Try.checked }
namespace Rows
def none {H : Type} : Left H := { results := [], args := [] }

/-- 'formelaw18.MarginsMatchesReference': WHATEVER THE INPUT: true; the input reads as it did. -/
def marginsMatchesReferenceSpec : ChangeSpec := { name := "marginsMatchesReference", fn := fun _ => fun
  | [d1, d2] => { results := [.lit (.bool true)], args := [d1, d2] }
  | _ => none }
def marginsMatchesReferenceRow : OpenClaim := { program := "ytkphagflnhnfkaa", sum := "e0218bf6daf498c404cd54e514d3ea12bb4fbabd0ba0516a40026f7c1b640824", func := "forme/formelaw18.MarginsMatchesReference", spec := "marginsMatchesReference", unfollowed := true, recurses := true, apart := false }
def MarginsMatchesReferenceSaid : Prop := marginsMatchesReferenceRow.holds Try.pinned (OpenSpec.ofChange marginsMatchesReferenceSpec)

/-- ITS FALSE NEIGHBOUR: 'it returns false'. Refute it at one input. -/
def marginsMatchesReferenceWrong : ChangeSpec := { name := "marginsMatchesReference", fn := fun _ => fun
  | [d1, d2] => { results := [.lit (.bool false)], args := [d1, d2] }
  | _ => none }
def MarginsMatchesReferenceWrongFalsely : Prop := marginsMatchesReferenceRow.holds Try.pinned (OpenSpec.ofChange marginsMatchesReferenceWrong)

/-- 'formelaw18.MarginsOrder': WHATEVER THE INPUT: true; the input reads as it did. -/
def marginsOrderSpec : ChangeSpec := { name := "marginsOrder", fn := fun _ => fun
  | [d1, d2] => { results := [.lit (.bool true)], args := [d1, d2] }
  | _ => none }
def marginsOrderRow : OpenClaim := { program := "ytkphagflnhnfkaa", sum := "e0218bf6daf498c404cd54e514d3ea12bb4fbabd0ba0516a40026f7c1b640824", func := "forme/formelaw18.MarginsOrder", spec := "marginsOrder", unfollowed := true, recurses := true, apart := false }
def MarginsOrderSaid : Prop := marginsOrderRow.holds Try.pinned (OpenSpec.ofChange marginsOrderSpec)

/-- ITS FALSE NEIGHBOUR: 'it returns false'. Refute it at one input. -/
def marginsOrderWrong : ChangeSpec := { name := "marginsOrder", fn := fun _ => fun
  | [d1, d2] => { results := [.lit (.bool false)], args := [d1, d2] }
  | _ => none }
def MarginsOrderWrongFalsely : Prop := marginsOrderRow.holds Try.pinned (OpenSpec.ofChange marginsOrderWrong)

/-- 'formelaw18.MarginsSigns': WHATEVER THE INPUT: true; the input reads as it did. -/
def marginsSignsSpec : ChangeSpec := { name := "marginsSigns", fn := fun _ => fun
  | [d] => { results := [.lit (.bool true)], args := [d] }
  | _ => none }
def marginsSignsRow : OpenClaim := { program := "ytkphagflnhnfkaa", sum := "e0218bf6daf498c404cd54e514d3ea12bb4fbabd0ba0516a40026f7c1b640824", func := "forme/formelaw18.MarginsSigns", spec := "marginsSigns", unfollowed := true, recurses := true, apart := false }
def MarginsSignsSaid : Prop := marginsSignsRow.holds Try.pinned (OpenSpec.ofChange marginsSignsSpec)

/-- ITS FALSE NEIGHBOUR: 'it returns false'. Refute it at one input. -/
def marginsSignsWrong : ChangeSpec := { name := "marginsSigns", fn := fun _ => fun
  | [d] => { results := [.lit (.bool false)], args := [d] }
  | _ => none }
def MarginsSignsWrongFalsely : Prop := marginsSignsRow.holds Try.pinned (OpenSpec.ofChange marginsSignsWrong)

/-- 'formelaw18.MarginsGrow': WHATEVER THE INPUT: true; the input reads as it did. -/
def marginsGrowSpec : ChangeSpec := { name := "marginsGrow", fn := fun _ => fun
  | [d1, d2, d3] => { results := [.lit (.bool true)], args := [d1, d2, d3] }
  | _ => none }
def marginsGrowRow : OpenClaim := { program := "ytkphagflnhnfkaa", sum := "e0218bf6daf498c404cd54e514d3ea12bb4fbabd0ba0516a40026f7c1b640824", func := "forme/formelaw18.MarginsGrow", spec := "marginsGrow", unfollowed := true, recurses := true, apart := false }
def MarginsGrowSaid : Prop := marginsGrowRow.holds Try.pinned (OpenSpec.ofChange marginsGrowSpec)

/-- ITS FALSE NEIGHBOUR: 'it returns false'. Refute it at one input. -/
def marginsGrowWrong : ChangeSpec := { name := "marginsGrow", fn := fun _ => fun
  | [d1, d2, d3] => { results := [.lit (.bool false)], args := [d1, d2, d3] }
  | _ => none }
def MarginsGrowWrongFalsely : Prop := marginsGrowRow.holds Try.pinned (OpenSpec.ofChange marginsGrowWrong)

/-- 'formelaw18.MarginsTurned': WHATEVER THE INPUT: true; the input reads as it did. -/
def marginsTurnedSpec : ChangeSpec := { name := "marginsTurned", fn := fun _ => fun
  | [d1, d2] => { results := [.lit (.bool true)], args := [d1, d2] }
  | _ => none }
def marginsTurnedRow : OpenClaim := { program := "ytkphagflnhnfkaa", sum := "e0218bf6daf498c404cd54e514d3ea12bb4fbabd0ba0516a40026f7c1b640824", func := "forme/formelaw18.MarginsTurned", spec := "marginsTurned", unfollowed := true, recurses := true, apart := false }
def MarginsTurnedSaid : Prop := marginsTurnedRow.holds Try.pinned (OpenSpec.ofChange marginsTurnedSpec)

/-- ITS FALSE NEIGHBOUR: 'it returns false'. Refute it at one input. -/
def marginsTurnedWrong : ChangeSpec := { name := "marginsTurned", fn := fun _ => fun
  | [d1, d2] => { results := [.lit (.bool false)], args := [d1, d2] }
  | _ => none }
def MarginsTurnedWrongFalsely : Prop := marginsTurnedRow.holds Try.pinned (OpenSpec.ofChange marginsTurnedWrong)

/-- 'formelaw18.MarginsParts': WHATEVER THE INPUT: true; the input reads as it did. -/
def marginsPartsSpec : ChangeSpec := { name := "marginsParts", fn := fun _ => fun
  | [d1, d2, d3] => { results := [.lit (.bool true)], args := [d1, d2, d3] }
  | _ => none }
def marginsPartsRow : OpenClaim := { program := "ytkphagflnhnfkaa", sum := "e0218bf6daf498c404cd54e514d3ea12bb4fbabd0ba0516a40026f7c1b640824", func := "forme/formelaw18.MarginsParts", spec := "marginsParts", unfollowed := true, recurses := true, apart := false }
def MarginsPartsSaid : Prop := marginsPartsRow.holds Try.pinned (OpenSpec.ofChange marginsPartsSpec)

/-- ITS FALSE NEIGHBOUR: 'it returns false'. Refute it at one input. -/
def marginsPartsWrong : ChangeSpec := { name := "marginsParts", fn := fun _ => fun
  | [d1, d2, d3] => { results := [.lit (.bool false)], args := [d1, d2, d3] }
  | _ => none }
def MarginsPartsWrongFalsely : Prop := marginsPartsRow.holds Try.pinned (OpenSpec.ofChange marginsPartsWrong)

/-- 'formelaw42.ImposeMatchesReference': WHATEVER THE INPUT: true; the input reads as it did. -/
def imposeMatchesReferenceSpec : ChangeSpec := { name := "imposeMatchesReference", fn := fun _ => fun
  | [d1, d2, d3] => { results := [.lit (.bool true)], args := [d1, d2, d3] }
  | _ => none }
def imposeMatchesReferenceRow : OpenClaim := { program := "ytkphagflnhnfkaa", sum := "e0218bf6daf498c404cd54e514d3ea12bb4fbabd0ba0516a40026f7c1b640824", func := "forme/formelaw42.ImposeMatchesReference", spec := "imposeMatchesReference", unfollowed := true, recurses := true, apart := false }
def ImposeMatchesReferenceSaid : Prop := imposeMatchesReferenceRow.holds Try.pinned (OpenSpec.ofChange imposeMatchesReferenceSpec)

/-- ITS FALSE NEIGHBOUR: 'it returns false'. Refute it at one input. -/
def imposeMatchesReferenceWrong : ChangeSpec := { name := "imposeMatchesReference", fn := fun _ => fun
  | [d1, d2, d3] => { results := [.lit (.bool false)], args := [d1, d2, d3] }
  | _ => none }
def ImposeMatchesReferenceWrongFalsely : Prop := imposeMatchesReferenceRow.holds Try.pinned (OpenSpec.ofChange imposeMatchesReferenceWrong)

/-- 'formelaw42.ImposeOnce': WHATEVER THE INPUT: true; the input reads as it did. -/
def imposeOnceSpec : ChangeSpec := { name := "imposeOnce", fn := fun _ => fun
  | [d] => { results := [.lit (.bool true)], args := [d] }
  | _ => none }
def imposeOnceRow : OpenClaim := { program := "ytkphagflnhnfkaa", sum := "e0218bf6daf498c404cd54e514d3ea12bb4fbabd0ba0516a40026f7c1b640824", func := "forme/formelaw42.ImposeOnce", spec := "imposeOnce", unfollowed := true, recurses := true, apart := false }
def ImposeOnceSaid : Prop := imposeOnceRow.holds Try.pinned (OpenSpec.ofChange imposeOnceSpec)

/-- ITS FALSE NEIGHBOUR: 'it returns false'. Refute it at one input. -/
def imposeOnceWrong : ChangeSpec := { name := "imposeOnce", fn := fun _ => fun
  | [d] => { results := [.lit (.bool false)], args := [d] }
  | _ => none }
def ImposeOnceWrongFalsely : Prop := imposeOnceRow.holds Try.pinned (OpenSpec.ofChange imposeOnceWrong)

/-- 'formelaw42.ImposeReads': WHATEVER THE INPUT: true; the input reads as it did. -/
def imposeReadsSpec : ChangeSpec := { name := "imposeReads", fn := fun _ => fun
  | [d] => { results := [.lit (.bool true)], args := [d] }
  | _ => none }
def imposeReadsRow : OpenClaim := { program := "ytkphagflnhnfkaa", sum := "e0218bf6daf498c404cd54e514d3ea12bb4fbabd0ba0516a40026f7c1b640824", func := "forme/formelaw42.ImposeReads", spec := "imposeReads", unfollowed := true, recurses := true, apart := false }
def ImposeReadsSaid : Prop := imposeReadsRow.holds Try.pinned (OpenSpec.ofChange imposeReadsSpec)

/-- ITS FALSE NEIGHBOUR: 'it returns false'. Refute it at one input. -/
def imposeReadsWrong : ChangeSpec := { name := "imposeReads", fn := fun _ => fun
  | [d] => { results := [.lit (.bool false)], args := [d] }
  | _ => none }
def ImposeReadsWrongFalsely : Prop := imposeReadsRow.holds Try.pinned (OpenSpec.ofChange imposeReadsWrong)

/-- 'formelaw42.ImposeLeaves': WHATEVER THE INPUT: true; the input reads as it did. -/
def imposeLeavesSpec : ChangeSpec := { name := "imposeLeaves", fn := fun _ => fun
  | [d1, d2] => { results := [.lit (.bool true)], args := [d1, d2] }
  | _ => none }
def imposeLeavesRow : OpenClaim := { program := "ytkphagflnhnfkaa", sum := "e0218bf6daf498c404cd54e514d3ea12bb4fbabd0ba0516a40026f7c1b640824", func := "forme/formelaw42.ImposeLeaves", spec := "imposeLeaves", unfollowed := true, recurses := true, apart := false }
def ImposeLeavesSaid : Prop := imposeLeavesRow.holds Try.pinned (OpenSpec.ofChange imposeLeavesSpec)

/-- ITS FALSE NEIGHBOUR: 'it returns false'. Refute it at one input. -/
def imposeLeavesWrong : ChangeSpec := { name := "imposeLeaves", fn := fun _ => fun
  | [d1, d2] => { results := [.lit (.bool false)], args := [d1, d2] }
  | _ => none }
def ImposeLeavesWrongFalsely : Prop := imposeLeavesRow.holds Try.pinned (OpenSpec.ofChange imposeLeavesWrong)

/-- 'formelaw42.ImposeSides': WHATEVER THE INPUT: true; the input reads as it did. -/
def imposeSidesSpec : ChangeSpec := { name := "imposeSides", fn := fun _ => fun
  | [d] => { results := [.lit (.bool true)], args := [d] }
  | _ => none }
def imposeSidesRow : OpenClaim := { program := "ytkphagflnhnfkaa", sum := "e0218bf6daf498c404cd54e514d3ea12bb4fbabd0ba0516a40026f7c1b640824", func := "forme/formelaw42.ImposeSides", spec := "imposeSides", unfollowed := true, recurses := true, apart := false }
def ImposeSidesSaid : Prop := imposeSidesRow.holds Try.pinned (OpenSpec.ofChange imposeSidesSpec)

/-- ITS FALSE NEIGHBOUR: 'it returns false'. Refute it at one input. -/
def imposeSidesWrong : ChangeSpec := { name := "imposeSides", fn := fun _ => fun
  | [d] => { results := [.lit (.bool false)], args := [d] }
  | _ => none }
def ImposeSidesWrongFalsely : Prop := imposeSidesRow.holds Try.pinned (OpenSpec.ofChange imposeSidesWrong)

/-- 'formelaw42.ImposeWhere': WHATEVER THE INPUT: true; the input reads as it did. -/
def imposeWhereSpec : ChangeSpec := { name := "imposeWhere", fn := fun _ => fun
  | [d1, d2] => { results := [.lit (.bool true)], args := [d1, d2] }
  | _ => none }
def imposeWhereRow : OpenClaim := { program := "ytkphagflnhnfkaa", sum := "e0218bf6daf498c404cd54e514d3ea12bb4fbabd0ba0516a40026f7c1b640824", func := "forme/formelaw42.ImposeWhere", spec := "imposeWhere", unfollowed := true, recurses := true, apart := false }
def ImposeWhereSaid : Prop := imposeWhereRow.holds Try.pinned (OpenSpec.ofChange imposeWhereSpec)

/-- ITS FALSE NEIGHBOUR: 'it returns false'. Refute it at one input. -/
def imposeWhereWrong : ChangeSpec := { name := "imposeWhere", fn := fun _ => fun
  | [d1, d2] => { results := [.lit (.bool false)], args := [d1, d2] }
  | _ => none }
def ImposeWhereWrongFalsely : Prop := imposeWhereRow.holds Try.pinned (OpenSpec.ofChange imposeWhereWrong)

/- THE SECOND FORM. 'bulk': how many values and letters a reading holds, each counted each time it is reached (what is shared counts as often as it is met; a slice's spare places count too). A statement '..UptoSaid' is the law's where the arguments, and the package variables that the reading takes, are together of bulk at most 1048576: NARROWER than '..Said'. Prove '..Said' where nothing that the law and all that it calls make is longer than what came in: it says more and counts as full. Else prove '..UptoSaid'. A law counts once. -/
mutual
def uptoBulk {H : Type} : DataW H → Nat
  | .lit (.string bytes) => bytes.length + 1
  | .lit _ => 1
  | .nil => 1
  | .ptr d => uptoBulk d + 1
  | .slice elems spare => uptoBulkAll elems + uptoBulkAll spare + 1
  | .agg parts => uptoBulkAll parts + 1
  | .iface _ d => uptoBulk d + 1
  | .map entries => uptoBulkEntries entries + 1
  | .held _ => 1
def uptoBulkAll {H : Type} : List (DataW H) → Nat
  | [] => 0
  | d :: r => uptoBulk d + uptoBulkAll r
def uptoBulkEntries {H : Type} : List (Lit × DataW H) → Nat
  | [] => 0
  | x :: r => uptoBulkEntry x + uptoBulkEntries r
def uptoBulkEntry {H : Type} : Lit × DataW H → Nat
  | (.string bytes, d) => bytes.length + uptoBulk d + 1
  | (_, d) => uptoBulk d + 1
 end
def uptoSmall : (H : Type) → List (DataW H) → Bool := fun _ ds => decide (uptoBulkAll ds ≤ 1048576)
def OpenSpec.upto (s : _root_.Go.ChangeSpec) : _root_.Go.OpenSpec := { _root_.Go.OpenSpec.ofChange s with cond := some uptoSmall }

/-- 'formelaw18.MarginsMatchesReference', WHERE WHAT IT READS IS OF BULK AT MOST 1048576: true; the input reads as it did. -/
def marginsMatchesReferenceUptoRow : OpenClaim := { program := "ytkphagflnhnfkaa", sum := "e0218bf6daf498c404cd54e514d3ea12bb4fbabd0ba0516a40026f7c1b640824", func := "forme/formelaw18.MarginsMatchesReference", spec := "marginsMatchesReference", unfollowed := true, recurses := true, apart := false, narrowed := true }
def MarginsMatchesReferenceUptoSaid : Prop := marginsMatchesReferenceUptoRow.holds Try.pinned (OpenSpec.upto marginsMatchesReferenceSpec)

/-- 'formelaw18.MarginsOrder', WHERE WHAT IT READS IS OF BULK AT MOST 1048576: true; the input reads as it did. -/
def marginsOrderUptoRow : OpenClaim := { program := "ytkphagflnhnfkaa", sum := "e0218bf6daf498c404cd54e514d3ea12bb4fbabd0ba0516a40026f7c1b640824", func := "forme/formelaw18.MarginsOrder", spec := "marginsOrder", unfollowed := true, recurses := true, apart := false, narrowed := true }
def MarginsOrderUptoSaid : Prop := marginsOrderUptoRow.holds Try.pinned (OpenSpec.upto marginsOrderSpec)

/-- 'formelaw18.MarginsSigns', WHERE WHAT IT READS IS OF BULK AT MOST 1048576: true; the input reads as it did. -/
def marginsSignsUptoRow : OpenClaim := { program := "ytkphagflnhnfkaa", sum := "e0218bf6daf498c404cd54e514d3ea12bb4fbabd0ba0516a40026f7c1b640824", func := "forme/formelaw18.MarginsSigns", spec := "marginsSigns", unfollowed := true, recurses := true, apart := false, narrowed := true }
def MarginsSignsUptoSaid : Prop := marginsSignsUptoRow.holds Try.pinned (OpenSpec.upto marginsSignsSpec)

/-- 'formelaw18.MarginsGrow', WHERE WHAT IT READS IS OF BULK AT MOST 1048576: true; the input reads as it did. -/
def marginsGrowUptoRow : OpenClaim := { program := "ytkphagflnhnfkaa", sum := "e0218bf6daf498c404cd54e514d3ea12bb4fbabd0ba0516a40026f7c1b640824", func := "forme/formelaw18.MarginsGrow", spec := "marginsGrow", unfollowed := true, recurses := true, apart := false, narrowed := true }
def MarginsGrowUptoSaid : Prop := marginsGrowUptoRow.holds Try.pinned (OpenSpec.upto marginsGrowSpec)

/-- 'formelaw18.MarginsTurned', WHERE WHAT IT READS IS OF BULK AT MOST 1048576: true; the input reads as it did. -/
def marginsTurnedUptoRow : OpenClaim := { program := "ytkphagflnhnfkaa", sum := "e0218bf6daf498c404cd54e514d3ea12bb4fbabd0ba0516a40026f7c1b640824", func := "forme/formelaw18.MarginsTurned", spec := "marginsTurned", unfollowed := true, recurses := true, apart := false, narrowed := true }
def MarginsTurnedUptoSaid : Prop := marginsTurnedUptoRow.holds Try.pinned (OpenSpec.upto marginsTurnedSpec)

/-- 'formelaw18.MarginsParts', WHERE WHAT IT READS IS OF BULK AT MOST 1048576: true; the input reads as it did. -/
def marginsPartsUptoRow : OpenClaim := { program := "ytkphagflnhnfkaa", sum := "e0218bf6daf498c404cd54e514d3ea12bb4fbabd0ba0516a40026f7c1b640824", func := "forme/formelaw18.MarginsParts", spec := "marginsParts", unfollowed := true, recurses := true, apart := false, narrowed := true }
def MarginsPartsUptoSaid : Prop := marginsPartsUptoRow.holds Try.pinned (OpenSpec.upto marginsPartsSpec)

/-- 'formelaw42.ImposeMatchesReference', WHERE WHAT IT READS IS OF BULK AT MOST 1048576: true; the input reads as it did. -/
def imposeMatchesReferenceUptoRow : OpenClaim := { program := "ytkphagflnhnfkaa", sum := "e0218bf6daf498c404cd54e514d3ea12bb4fbabd0ba0516a40026f7c1b640824", func := "forme/formelaw42.ImposeMatchesReference", spec := "imposeMatchesReference", unfollowed := true, recurses := true, apart := false, narrowed := true }
def ImposeMatchesReferenceUptoSaid : Prop := imposeMatchesReferenceUptoRow.holds Try.pinned (OpenSpec.upto imposeMatchesReferenceSpec)

/-- 'formelaw42.ImposeOnce', WHERE WHAT IT READS IS OF BULK AT MOST 1048576: true; the input reads as it did. -/
def imposeOnceUptoRow : OpenClaim := { program := "ytkphagflnhnfkaa", sum := "e0218bf6daf498c404cd54e514d3ea12bb4fbabd0ba0516a40026f7c1b640824", func := "forme/formelaw42.ImposeOnce", spec := "imposeOnce", unfollowed := true, recurses := true, apart := false, narrowed := true }
def ImposeOnceUptoSaid : Prop := imposeOnceUptoRow.holds Try.pinned (OpenSpec.upto imposeOnceSpec)

/-- 'formelaw42.ImposeReads', WHERE WHAT IT READS IS OF BULK AT MOST 1048576: true; the input reads as it did. -/
def imposeReadsUptoRow : OpenClaim := { program := "ytkphagflnhnfkaa", sum := "e0218bf6daf498c404cd54e514d3ea12bb4fbabd0ba0516a40026f7c1b640824", func := "forme/formelaw42.ImposeReads", spec := "imposeReads", unfollowed := true, recurses := true, apart := false, narrowed := true }
def ImposeReadsUptoSaid : Prop := imposeReadsUptoRow.holds Try.pinned (OpenSpec.upto imposeReadsSpec)

/-- 'formelaw42.ImposeLeaves', WHERE WHAT IT READS IS OF BULK AT MOST 1048576: true; the input reads as it did. -/
def imposeLeavesUptoRow : OpenClaim := { program := "ytkphagflnhnfkaa", sum := "e0218bf6daf498c404cd54e514d3ea12bb4fbabd0ba0516a40026f7c1b640824", func := "forme/formelaw42.ImposeLeaves", spec := "imposeLeaves", unfollowed := true, recurses := true, apart := false, narrowed := true }
def ImposeLeavesUptoSaid : Prop := imposeLeavesUptoRow.holds Try.pinned (OpenSpec.upto imposeLeavesSpec)

/-- 'formelaw42.ImposeSides', WHERE WHAT IT READS IS OF BULK AT MOST 1048576: true; the input reads as it did. -/
def imposeSidesUptoRow : OpenClaim := { program := "ytkphagflnhnfkaa", sum := "e0218bf6daf498c404cd54e514d3ea12bb4fbabd0ba0516a40026f7c1b640824", func := "forme/formelaw42.ImposeSides", spec := "imposeSides", unfollowed := true, recurses := true, apart := false, narrowed := true }
def ImposeSidesUptoSaid : Prop := imposeSidesUptoRow.holds Try.pinned (OpenSpec.upto imposeSidesSpec)

/-- 'formelaw42.ImposeWhere', WHERE WHAT IT READS IS OF BULK AT MOST 1048576: true; the input reads as it did. -/
def imposeWhereUptoRow : OpenClaim := { program := "ytkphagflnhnfkaa", sum := "e0218bf6daf498c404cd54e514d3ea12bb4fbabd0ba0516a40026f7c1b640824", func := "forme/formelaw42.ImposeWhere", spec := "imposeWhere", unfollowed := true, recurses := true, apart := false, narrowed := true }
def ImposeWhereUptoSaid : Prop := imposeWhereUptoRow.holds Try.pinned (OpenSpec.upto imposeWhereSpec)

end Rows
end Go.Proofs.Ytkphagflnhnfkaa
