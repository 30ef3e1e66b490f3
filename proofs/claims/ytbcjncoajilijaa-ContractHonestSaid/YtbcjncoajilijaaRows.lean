/-
  No cell of these rows narrows 'for every input' (looked for: loops, veiled, ifaces, maps, wideKeys, modest, calm, conditions, laid).
  DERIVED. THE GIVEN ROWS OF THIS SEAT. 7 by the template 'for every input the law returns true; each argument reads behind the call as it read before'; 0 by the template 'total and deterministic' (their statements: YtbcjncoajilijaaTotals.lean).
  GIVEN WITH THE SEED: the statements are not yours to turn. If you find one false, say at which input.
  Laid BY PROGRAM, IN A SANDBOX (cutbox-rows.mjs): the forced cells as the released guide's own fill.sh prints them over the translation e0635c69fe0d82f8… (all of the seat's roots in one cut). By AI agents, Wed Nov 11 2026. No macro, syntax, notation, axiom, sorry.
-/
import Derived.Test.YtbcjncoajilijaaChecked
import GoSem.Claim
import GoSem.ClaimJoined
import GoSem.ClaimMapViews
import Derived.JoinedTies
import Derived.KernelRfl
namespace Go.Proofs.Ytbcjncoajilijaa
/- THE CELL 'sum', in the pinned program and in every row, IS THE sha256 OF THE DUMP (.gsa) THAT YtbcjncoajilijaaProg.lean LOADS. Nothing in Lean hashes anything: it is a label: what it is worth is what the hold of that sum in a sandbox is worth. -/
noncomputable def Try.pinned : Pinned := { name := "ytbcjncoajilijaa", sum := "e0635c69fe0d82f8772ab2b79e77f84db9c6848d4ad9587d4e39c0e80c10fbe5", checked := Try.checked }
namespace Rows
def none {H : Type} : Left H := { results := [], args := [] }

/-- 'formelaw38.ContractMatchesReference': WHATEVER THE INPUT: true; the input reads as it did. -/
def contractMatchesReferenceSpec : ChangeSpec := { name := "contractMatchesReference", fn := fun _ => fun
  | [d1, d2, d3, d4] => { results := [.lit (.bool true)], args := [d1, d2, d3, d4] }
  | _ => none }
def contractMatchesReferenceRow : OpenClaim := { program := "ytbcjncoajilijaa", sum := "e0635c69fe0d82f8772ab2b79e77f84db9c6848d4ad9587d4e39c0e80c10fbe5", func := "forme/formelaw38.ContractMatchesReference", spec := "contractMatchesReference", unfollowed := true, recurses := true, apart := false }
def ContractMatchesReferenceSaid : Prop := contractMatchesReferenceRow.holds Try.pinned (OpenSpec.ofChange contractMatchesReferenceSpec)

/-- ITS FALSE NEIGHBOUR: 'it returns false'. Refute it at one input. -/
def contractMatchesReferenceWrong : ChangeSpec := { name := "contractMatchesReference", fn := fun _ => fun
  | [d1, d2, d3, d4] => { results := [.lit (.bool false)], args := [d1, d2, d3, d4] }
  | _ => none }
def ContractMatchesReferenceWrongFalsely : Prop := contractMatchesReferenceRow.holds Try.pinned (OpenSpec.ofChange contractMatchesReferenceWrong)

/-- 'formelaw38.ContractHeights': WHATEVER THE INPUT: true; the input reads as it did. -/
def contractHeightsSpec : ChangeSpec := { name := "contractHeights", fn := fun _ => fun
  | [d1, d2, d3] => { results := [.lit (.bool true)], args := [d1, d2, d3] }
  | _ => none }
def contractHeightsRow : OpenClaim := { program := "ytbcjncoajilijaa", sum := "e0635c69fe0d82f8772ab2b79e77f84db9c6848d4ad9587d4e39c0e80c10fbe5", func := "forme/formelaw38.ContractHeights", spec := "contractHeights", unfollowed := true, recurses := true, apart := false }
def ContractHeightsSaid : Prop := contractHeightsRow.holds Try.pinned (OpenSpec.ofChange contractHeightsSpec)

/-- ITS FALSE NEIGHBOUR: 'it returns false'. Refute it at one input. -/
def contractHeightsWrong : ChangeSpec := { name := "contractHeights", fn := fun _ => fun
  | [d1, d2, d3] => { results := [.lit (.bool false)], args := [d1, d2, d3] }
  | _ => none }
def ContractHeightsWrongFalsely : Prop := contractHeightsRow.holds Try.pinned (OpenSpec.ofChange contractHeightsWrong)

/-- 'formelaw38.ContractHonest': WHATEVER THE INPUT: true; the input reads as it did. -/
def contractHonestSpec : ChangeSpec := { name := "contractHonest", fn := fun _ => fun
  | [d1, d2, d3] => { results := [.lit (.bool true)], args := [d1, d2, d3] }
  | _ => none }
def contractHonestRow : OpenClaim := { program := "ytbcjncoajilijaa", sum := "e0635c69fe0d82f8772ab2b79e77f84db9c6848d4ad9587d4e39c0e80c10fbe5", func := "forme/formelaw38.ContractHonest", spec := "contractHonest", unfollowed := true, recurses := true, apart := false }
def ContractHonestSaid : Prop := contractHonestRow.holds Try.pinned (OpenSpec.ofChange contractHonestSpec)

/-- ITS FALSE NEIGHBOUR: 'it returns false'. Refute it at one input. -/
def contractHonestWrong : ChangeSpec := { name := "contractHonest", fn := fun _ => fun
  | [d1, d2, d3] => { results := [.lit (.bool false)], args := [d1, d2, d3] }
  | _ => none }
def ContractHonestWrongFalsely : Prop := contractHonestRow.holds Try.pinned (OpenSpec.ofChange contractHonestWrong)

/-- 'formelaw38.ContractCharges': WHATEVER THE INPUT: true; the input reads as it did. -/
def contractChargesSpec : ChangeSpec := { name := "contractCharges", fn := fun _ => fun
  | [d1, d2] => { results := [.lit (.bool true)], args := [d1, d2] }
  | _ => none }
def contractChargesRow : OpenClaim := { program := "ytbcjncoajilijaa", sum := "e0635c69fe0d82f8772ab2b79e77f84db9c6848d4ad9587d4e39c0e80c10fbe5", func := "forme/formelaw38.ContractCharges", spec := "contractCharges", unfollowed := true, recurses := true, apart := false }
def ContractChargesSaid : Prop := contractChargesRow.holds Try.pinned (OpenSpec.ofChange contractChargesSpec)

/-- ITS FALSE NEIGHBOUR: 'it returns false'. Refute it at one input. -/
def contractChargesWrong : ChangeSpec := { name := "contractCharges", fn := fun _ => fun
  | [d1, d2] => { results := [.lit (.bool false)], args := [d1, d2] }
  | _ => none }
def ContractChargesWrongFalsely : Prop := contractChargesRow.holds Try.pinned (OpenSpec.ofChange contractChargesWrong)

/-- 'formelaw38.ContractFrozen': WHATEVER THE INPUT: true; the input reads as it did. -/
def contractFrozenSpec : ChangeSpec := { name := "contractFrozen", fn := fun _ => fun
  | [d1, d2, d3] => { results := [.lit (.bool true)], args := [d1, d2, d3] }
  | _ => none }
def contractFrozenRow : OpenClaim := { program := "ytbcjncoajilijaa", sum := "e0635c69fe0d82f8772ab2b79e77f84db9c6848d4ad9587d4e39c0e80c10fbe5", func := "forme/formelaw38.ContractFrozen", spec := "contractFrozen", unfollowed := true, recurses := true, apart := false }
def ContractFrozenSaid : Prop := contractFrozenRow.holds Try.pinned (OpenSpec.ofChange contractFrozenSpec)

/-- ITS FALSE NEIGHBOUR: 'it returns false'. Refute it at one input. -/
def contractFrozenWrong : ChangeSpec := { name := "contractFrozen", fn := fun _ => fun
  | [d1, d2, d3] => { results := [.lit (.bool false)], args := [d1, d2, d3] }
  | _ => none }
def ContractFrozenWrongFalsely : Prop := contractFrozenRow.holds Try.pinned (OpenSpec.ofChange contractFrozenWrong)

/-- 'formelaw38.ContractWidths': WHATEVER THE INPUT: true; the input reads as it did. -/
def contractWidthsSpec : ChangeSpec := { name := "contractWidths", fn := fun _ => fun
  | [d1, d2] => { results := [.lit (.bool true)], args := [d1, d2] }
  | _ => none }
def contractWidthsRow : OpenClaim := { program := "ytbcjncoajilijaa", sum := "e0635c69fe0d82f8772ab2b79e77f84db9c6848d4ad9587d4e39c0e80c10fbe5", func := "forme/formelaw38.ContractWidths", spec := "contractWidths", unfollowed := true, recurses := true, apart := false }
def ContractWidthsSaid : Prop := contractWidthsRow.holds Try.pinned (OpenSpec.ofChange contractWidthsSpec)

/-- ITS FALSE NEIGHBOUR: 'it returns false'. Refute it at one input. -/
def contractWidthsWrong : ChangeSpec := { name := "contractWidths", fn := fun _ => fun
  | [d1, d2] => { results := [.lit (.bool false)], args := [d1, d2] }
  | _ => none }
def ContractWidthsWrongFalsely : Prop := contractWidthsRow.holds Try.pinned (OpenSpec.ofChange contractWidthsWrong)

/-- 'formelaw38.ContractCourses': WHATEVER THE INPUT: true; the input reads as it did. -/
def contractCoursesSpec : ChangeSpec := { name := "contractCourses", fn := fun _ => fun
  | [d1, d2] => { results := [.lit (.bool true)], args := [d1, d2] }
  | _ => none }
def contractCoursesRow : OpenClaim := { program := "ytbcjncoajilijaa", sum := "e0635c69fe0d82f8772ab2b79e77f84db9c6848d4ad9587d4e39c0e80c10fbe5", func := "forme/formelaw38.ContractCourses", spec := "contractCourses", unfollowed := true, recurses := true, apart := false }
def ContractCoursesSaid : Prop := contractCoursesRow.holds Try.pinned (OpenSpec.ofChange contractCoursesSpec)

/-- ITS FALSE NEIGHBOUR: 'it returns false'. Refute it at one input. -/
def contractCoursesWrong : ChangeSpec := { name := "contractCourses", fn := fun _ => fun
  | [d1, d2] => { results := [.lit (.bool false)], args := [d1, d2] }
  | _ => none }
def ContractCoursesWrongFalsely : Prop := contractCoursesRow.holds Try.pinned (OpenSpec.ofChange contractCoursesWrong)

/- THE SECOND FORM. 'bulk': how many values and letters a reading holds, each counted each time it is reached (what is shared counts as often as it is met; a slice's spare places count too). A statement '..UptoSaid' is the law's where the arguments, and the package variables that the reading takes, are together of bulk at most 1048576: NARROWER than '..Said'. Prove '..Said' where nothing that the law and all that it calls make is longer than what came in: it says more and counts as full. Else prove '..UptoSaid'. A law counts once. -/
mutual
def uptoBulk {H : Type} : DataW H → Nat
  | .lit (.string bytes) => bytes.length + 1
  | .lit _ => 1
  | .nil => 1
  | .ptr d => uptoBulk d + 1
  | .slice elems spare => uptoBulkAll elems + uptoBulkAll spare + 1
  | .agg parts => uptoBulkAll parts + 1
  | .iface _ d => uptoBulk d + 1
  | .map entries => uptoBulkEntries entries + 1
  | .held _ => 1
def uptoBulkAll {H : Type} : List (DataW H) → Nat
  | [] => 0
  | d :: r => uptoBulk d + uptoBulkAll r
def uptoBulkEntries {H : Type} : List (Lit × DataW H) → Nat
  | [] => 0
  | x :: r => uptoBulkEntry x + uptoBulkEntries r
def uptoBulkEntry {H : Type} : Lit × DataW H → Nat
  | (.string bytes, d) => bytes.length + uptoBulk d + 1
  | (_, d) => uptoBulk d + 1
 end
def uptoSmall : (H : Type) → List (DataW H) → Bool := fun _ ds => decide (uptoBulkAll ds ≤ 1048576)
def OpenSpec.upto (s : _root_.Go.ChangeSpec) : _root_.Go.OpenSpec := { _root_.Go.OpenSpec.ofChange s with cond := some uptoSmall }

/-- 'formelaw38.ContractMatchesReference', WHERE WHAT IT READS IS OF BULK AT MOST 1048576: true; the input reads as it did. -/
def contractMatchesReferenceUptoRow : OpenClaim := { program := "ytbcjncoajilijaa", sum := "e0635c69fe0d82f8772ab2b79e77f84db9c6848d4ad9587d4e39c0e80c10fbe5", func := "forme/formelaw38.ContractMatchesReference", spec := "contractMatchesReference", unfollowed := true, recurses := true, apart := false, narrowed := true }
def ContractMatchesReferenceUptoSaid : Prop := contractMatchesReferenceUptoRow.holds Try.pinned (OpenSpec.upto contractMatchesReferenceSpec)

/-- 'formelaw38.ContractHeights', WHERE WHAT IT READS IS OF BULK AT MOST 1048576: true; the input reads as it did. -/
def contractHeightsUptoRow : OpenClaim := { program := "ytbcjncoajilijaa", sum := "e0635c69fe0d82f8772ab2b79e77f84db9c6848d4ad9587d4e39c0e80c10fbe5", func := "forme/formelaw38.ContractHeights", spec := "contractHeights", unfollowed := true, recurses := true, apart := false, narrowed := true }
def ContractHeightsUptoSaid : Prop := contractHeightsUptoRow.holds Try.pinned (OpenSpec.upto contractHeightsSpec)

/-- 'formelaw38.ContractHonest', WHERE WHAT IT READS IS OF BULK AT MOST 1048576: true; the input reads as it did. -/
def contractHonestUptoRow : OpenClaim := { program := "ytbcjncoajilijaa", sum := "e0635c69fe0d82f8772ab2b79e77f84db9c6848d4ad9587d4e39c0e80c10fbe5", func := "forme/formelaw38.ContractHonest", spec := "contractHonest", unfollowed := true, recurses := true, apart := false, narrowed := true }
def ContractHonestUptoSaid : Prop := contractHonestUptoRow.holds Try.pinned (OpenSpec.upto contractHonestSpec)

/-- 'formelaw38.ContractCharges', WHERE WHAT IT READS IS OF BULK AT MOST 1048576: true; the input reads as it did. -/
def contractChargesUptoRow : OpenClaim := { program := "ytbcjncoajilijaa", sum := "e0635c69fe0d82f8772ab2b79e77f84db9c6848d4ad9587d4e39c0e80c10fbe5", func := "forme/formelaw38.ContractCharges", spec := "contractCharges", unfollowed := true, recurses := true, apart := false, narrowed := true }
def ContractChargesUptoSaid : Prop := contractChargesUptoRow.holds Try.pinned (OpenSpec.upto contractChargesSpec)

/-- 'formelaw38.ContractFrozen', WHERE WHAT IT READS IS OF BULK AT MOST 1048576: true; the input reads as it did. -/
def contractFrozenUptoRow : OpenClaim := { program := "ytbcjncoajilijaa", sum := "e0635c69fe0d82f8772ab2b79e77f84db9c6848d4ad9587d4e39c0e80c10fbe5", func := "forme/formelaw38.ContractFrozen", spec := "contractFrozen", unfollowed := true, recurses := true, apart := false, narrowed := true }
def ContractFrozenUptoSaid : Prop := contractFrozenUptoRow.holds Try.pinned (OpenSpec.upto contractFrozenSpec)

/-- 'formelaw38.ContractWidths', WHERE WHAT IT READS IS OF BULK AT MOST 1048576: true; the input reads as it did. -/
def contractWidthsUptoRow : OpenClaim := { program := "ytbcjncoajilijaa", sum := "e0635c69fe0d82f8772ab2b79e77f84db9c6848d4ad9587d4e39c0e80c10fbe5", func := "forme/formelaw38.ContractWidths", spec := "contractWidths", unfollowed := true, recurses := true, apart := false, narrowed := true }
def ContractWidthsUptoSaid : Prop := contractWidthsUptoRow.holds Try.pinned (OpenSpec.upto contractWidthsSpec)

/-- 'formelaw38.ContractCourses', WHERE WHAT IT READS IS OF BULK AT MOST 1048576: true; the input reads as it did. -/
def contractCoursesUptoRow : OpenClaim := { program := "ytbcjncoajilijaa", sum := "e0635c69fe0d82f8772ab2b79e77f84db9c6848d4ad9587d4e39c0e80c10fbe5", func := "forme/formelaw38.ContractCourses", spec := "contractCourses", unfollowed := true, recurses := true, apart := false, narrowed := true }
def ContractCoursesUptoSaid : Prop := contractCoursesUptoRow.holds Try.pinned (OpenSpec.upto contractCoursesSpec)

end Rows
end Go.Proofs.Ytbcjncoajilijaa
