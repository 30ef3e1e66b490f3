/-
  No cell of these rows narrows 'for every input' (looked for: loops, veiled, ifaces, maps, wideKeys, modest, calm, conditions, laid).
  DERIVED. THE GIVEN ROWS OF THIS SEAT. 5 by the template 'for every input the law returns true; each argument reads behind the call as it read before'; 0 by the template 'total and deterministic' (their statements: YtckdkhdkcihpjabTotals.lean).
  GIVEN WITH THE SEED: the statements are not yours to turn. If you find one false, say at which input.
  Laid BY PROGRAM, IN A SANDBOX (cutbox-rows.mjs): the forced cells as the released guide's own fill.sh prints them over the translation 702e0cff2027cf69… (all of the seat's roots in one cut). By AI agents, Wed Nov 11 2026. No macro, syntax, notation, axiom, sorry.
-/
import Derived.Test.YtckdkhdkcihpjabChecked
import GoSem.Claim
import GoSem.ClaimJoined
import GoSem.ClaimMapViews
import Derived.JoinedTies
import Derived.KernelRfl
namespace Go.Proofs.Ytckdkhdkcihpjab
/- THE CELL 'sum', in the pinned program and in every row, IS THE sha256 OF THE DUMP (.gsa) THAT YtckdkhdkcihpjabProg.lean LOADS. Nothing in Lean hashes anything: it is a label: what it is worth is what the hold of that sum in a sandbox is worth. -/
noncomputable def Try.pinned : Pinned := { name := "ytckdkhdkcihpjab", sum := "702e0cff2027cf69a28d3ce245e1be0d8252a23999b860d5809a89cc38608996", checked := Try.checked }
namespace Rows
def none {H : Type} : Left H := { results := [], args := [] }

/-- 'formelaw26.TableRows': WHATEVER THE INPUT: true; the input reads as it did. -/
def tableRowsSpec : ChangeSpec := { name := "tableRows", fn := fun _ => fun
  | [d1, d2, d3, d4] => { results := [.lit (.bool true)], args := [d1, d2, d3, d4] }
  | _ => none }
def tableRowsRow : OpenClaim := { program := "ytckdkhdkcihpjab", sum := "702e0cff2027cf69a28d3ce245e1be0d8252a23999b860d5809a89cc38608996", func := "forme/formelaw26.TableRows", spec := "tableRows", unfollowed := true, recurses := true, plainKeys := false, apart := false }
def TableRowsSaid : Prop := tableRowsRow.holds Try.pinned (OpenSpec.ofChange tableRowsSpec)

/-- ITS FALSE NEIGHBOUR: 'it returns false'. Refute it at one input. -/
def tableRowsWrong : ChangeSpec := { name := "tableRows", fn := fun _ => fun
  | [d1, d2, d3, d4] => { results := [.lit (.bool false)], args := [d1, d2, d3, d4] }
  | _ => none }
def TableRowsWrongFalsely : Prop := tableRowsRow.holds Try.pinned (OpenSpec.ofChange tableRowsWrong)

/-- 'formelaw26.TableMatchesReference': WHATEVER THE INPUT: true; the input reads as it did. -/
def tableMatchesReferenceSpec : ChangeSpec := { name := "tableMatchesReference", fn := fun _ => fun
  | [d1, d2, d3, d4, d5, d6] => { results := [.lit (.bool true)], args := [d1, d2, d3, d4, d5, d6] }
  | _ => none }
def tableMatchesReferenceRow : OpenClaim := { program := "ytckdkhdkcihpjab", sum := "702e0cff2027cf69a28d3ce245e1be0d8252a23999b860d5809a89cc38608996", func := "forme/formelaw26.TableMatchesReference", spec := "tableMatchesReference", unfollowed := true, recurses := true, plainKeys := false, apart := false }
def TableMatchesReferenceSaid : Prop := tableMatchesReferenceRow.holds Try.pinned (OpenSpec.ofChange tableMatchesReferenceSpec)

/-- ITS FALSE NEIGHBOUR: 'it returns false'. Refute it at one input. -/
def tableMatchesReferenceWrong : ChangeSpec := { name := "tableMatchesReference", fn := fun _ => fun
  | [d1, d2, d3, d4, d5, d6] => { results := [.lit (.bool false)], args := [d1, d2, d3, d4, d5, d6] }
  | _ => none }
def TableMatchesReferenceWrongFalsely : Prop := tableMatchesReferenceRow.holds Try.pinned (OpenSpec.ofChange tableMatchesReferenceWrong)

/-- 'formelaw11.SelectorWeights': WHATEVER THE INPUT: true; the input reads as it did. -/
def selectorWeightsSpec : ChangeSpec := { name := "selectorWeights", fn := fun _ => fun
  | [d1, d2] => { results := [.lit (.bool true)], args := [d1, d2] }
  | _ => none }
def selectorWeightsRow : OpenClaim := { program := "ytckdkhdkcihpjab", sum := "702e0cff2027cf69a28d3ce245e1be0d8252a23999b860d5809a89cc38608996", func := "forme/formelaw11.SelectorWeights", spec := "selectorWeights", unfollowed := true, recurses := true, plainKeys := false, apart := false }
def SelectorWeightsSaid : Prop := selectorWeightsRow.holds Try.pinned (OpenSpec.ofChange selectorWeightsSpec)

/-- ITS FALSE NEIGHBOUR: 'it returns false'. Refute it at one input. -/
def selectorWeightsWrong : ChangeSpec := { name := "selectorWeights", fn := fun _ => fun
  | [d1, d2] => { results := [.lit (.bool false)], args := [d1, d2] }
  | _ => none }
def SelectorWeightsWrongFalsely : Prop := selectorWeightsRow.holds Try.pinned (OpenSpec.ofChange selectorWeightsWrong)

/-- 'formelaw20.FloatsFurther': WHATEVER THE INPUT: true; the input reads as it did. -/
def floatsFurtherSpec : ChangeSpec := { name := "floatsFurther", fn := fun _ => fun
  | [d1, d2, d3, d4, d5] => { results := [.lit (.bool true)], args := [d1, d2, d3, d4, d5] }
  | _ => none }
def floatsFurtherRow : OpenClaim := { program := "ytckdkhdkcihpjab", sum := "702e0cff2027cf69a28d3ce245e1be0d8252a23999b860d5809a89cc38608996", func := "forme/formelaw20.FloatsFurther", spec := "floatsFurther", unfollowed := true, recurses := true, plainKeys := false, apart := false }
def FloatsFurtherSaid : Prop := floatsFurtherRow.holds Try.pinned (OpenSpec.ofChange floatsFurtherSpec)

/-- ITS FALSE NEIGHBOUR: 'it returns false'. Refute it at one input. -/
def floatsFurtherWrong : ChangeSpec := { name := "floatsFurther", fn := fun _ => fun
  | [d1, d2, d3, d4, d5] => { results := [.lit (.bool false)], args := [d1, d2, d3, d4, d5] }
  | _ => none }
def FloatsFurtherWrongFalsely : Prop := floatsFurtherRow.holds Try.pinned (OpenSpec.ofChange floatsFurtherWrong)

/-- 'formelaw05.CodecTexts': WHATEVER THE INPUT: true; the input reads as it did. -/
def codecTextsSpec : ChangeSpec := { name := "codecTexts", fn := fun _ => fun
  | [d1, d2] => { results := [.lit (.bool true)], args := [d1, d2] }
  | _ => none }
def codecTextsRow : OpenClaim := { program := "ytckdkhdkcihpjab", sum := "702e0cff2027cf69a28d3ce245e1be0d8252a23999b860d5809a89cc38608996", func := "forme/formelaw05.CodecTexts", spec := "codecTexts", unfollowed := true, recurses := true, plainKeys := false, apart := false }
def CodecTextsSaid : Prop := codecTextsRow.holds Try.pinned (OpenSpec.ofChange codecTextsSpec)

/-- ITS FALSE NEIGHBOUR: 'it returns false'. Refute it at one input. -/
def codecTextsWrong : ChangeSpec := { name := "codecTexts", fn := fun _ => fun
  | [d1, d2] => { results := [.lit (.bool false)], args := [d1, d2] }
  | _ => none }
def CodecTextsWrongFalsely : Prop := codecTextsRow.holds Try.pinned (OpenSpec.ofChange codecTextsWrong)

/- THE SECOND FORM. 'bulk': how many values and letters a reading holds, each counted each time it is reached (what is shared counts as often as it is met; a slice's spare places count too). A statement '..UptoSaid' is the law's where the arguments, and the package variables that the reading takes, are together of bulk at most 1048576: NARROWER than '..Said'. Prove '..Said' where nothing that the law and all that it calls make is longer than what came in: it says more and counts as full. Else prove '..UptoSaid'. A law counts once. -/
mutual
def uptoBulk {H : Type} : DataW H → Nat
  | .lit (.string bytes) => bytes.length + 1
  | .lit _ => 1
  | .nil => 1
  | .ptr d => uptoBulk d + 1
  | .slice elems spare => uptoBulkAll elems + uptoBulkAll spare + 1
  | .agg parts => uptoBulkAll parts + 1
  | .iface _ d => uptoBulk d + 1
  | .map entries => uptoBulkEntries entries + 1
  | .held _ => 1
def uptoBulkAll {H : Type} : List (DataW H) → Nat
  | [] => 0
  | d :: r => uptoBulk d + uptoBulkAll r
def uptoBulkEntries {H : Type} : List (Lit × DataW H) → Nat
  | [] => 0
  | x :: r => uptoBulkEntry x + uptoBulkEntries r
def uptoBulkEntry {H : Type} : Lit × DataW H → Nat
  | (.string bytes, d) => bytes.length + uptoBulk d + 1
  | (_, d) => uptoBulk d + 1
 end
def uptoSmall : (H : Type) → List (DataW H) → Bool := fun _ ds => decide (uptoBulkAll ds ≤ 1048576)
def OpenSpec.upto (s : _root_.Go.ChangeSpec) : _root_.Go.OpenSpec := { _root_.Go.OpenSpec.ofChange s with cond := some uptoSmall }

/-- 'formelaw26.TableRows', WHERE WHAT IT READS IS OF BULK AT MOST 1048576: true; the input reads as it did. -/
def tableRowsUptoRow : OpenClaim := { program := "ytckdkhdkcihpjab", sum := "702e0cff2027cf69a28d3ce245e1be0d8252a23999b860d5809a89cc38608996", func := "forme/formelaw26.TableRows", spec := "tableRows", unfollowed := true, recurses := true, plainKeys := false, apart := false, narrowed := true }
def TableRowsUptoSaid : Prop := tableRowsUptoRow.holds Try.pinned (OpenSpec.upto tableRowsSpec)

/-- 'formelaw26.TableMatchesReference', WHERE WHAT IT READS IS OF BULK AT MOST 1048576: true; the input reads as it did. -/
def tableMatchesReferenceUptoRow : OpenClaim := { program := "ytckdkhdkcihpjab", sum := "702e0cff2027cf69a28d3ce245e1be0d8252a23999b860d5809a89cc38608996", func := "forme/formelaw26.TableMatchesReference", spec := "tableMatchesReference", unfollowed := true, recurses := true, plainKeys := false, apart := false, narrowed := true }
def TableMatchesReferenceUptoSaid : Prop := tableMatchesReferenceUptoRow.holds Try.pinned (OpenSpec.upto tableMatchesReferenceSpec)

/-- 'formelaw11.SelectorWeights', WHERE WHAT IT READS IS OF BULK AT MOST 1048576: true; the input reads as it did. -/
def selectorWeightsUptoRow : OpenClaim := { program := "ytckdkhdkcihpjab", sum := "702e0cff2027cf69a28d3ce245e1be0d8252a23999b860d5809a89cc38608996", func := "forme/formelaw11.SelectorWeights", spec := "selectorWeights", unfollowed := true, recurses := true, plainKeys := false, apart := false, narrowed := true }
def SelectorWeightsUptoSaid : Prop := selectorWeightsUptoRow.holds Try.pinned (OpenSpec.upto selectorWeightsSpec)

/-- 'formelaw20.FloatsFurther', WHERE WHAT IT READS IS OF BULK AT MOST 1048576: true; the input reads as it did. -/
def floatsFurtherUptoRow : OpenClaim := { program := "ytckdkhdkcihpjab", sum := "702e0cff2027cf69a28d3ce245e1be0d8252a23999b860d5809a89cc38608996", func := "forme/formelaw20.FloatsFurther", spec := "floatsFurther", unfollowed := true, recurses := true, plainKeys := false, apart := false, narrowed := true }
def FloatsFurtherUptoSaid : Prop := floatsFurtherUptoRow.holds Try.pinned (OpenSpec.upto floatsFurtherSpec)

/-- 'formelaw05.CodecTexts', WHERE WHAT IT READS IS OF BULK AT MOST 1048576: true; the input reads as it did. -/
def codecTextsUptoRow : OpenClaim := { program := "ytckdkhdkcihpjab", sum := "702e0cff2027cf69a28d3ce245e1be0d8252a23999b860d5809a89cc38608996", func := "forme/formelaw05.CodecTexts", spec := "codecTexts", unfollowed := true, recurses := true, plainKeys := false, apart := false, narrowed := true }
def CodecTextsUptoSaid : Prop := codecTextsUptoRow.holds Try.pinned (OpenSpec.upto codecTextsSpec)

end Rows
end Go.Proofs.Ytckdkhdkcihpjab
