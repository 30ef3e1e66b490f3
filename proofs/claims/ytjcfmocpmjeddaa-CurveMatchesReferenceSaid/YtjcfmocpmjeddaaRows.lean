/-
  No cell of these rows narrows 'for every input' (looked for: loops, veiled, ifaces, maps, wideKeys, modest, calm, conditions, laid).
  DERIVED. THE GIVEN ROWS OF THIS SEAT. 7 by the template 'for every input the law returns true; each argument reads behind the call as it read before'; 0 by the template 'total and deterministic' (their statements: YtjcfmocpmjeddaaTotals.lean).
  GIVEN WITH THE SEED: the statements are not yours to turn. If you find one false, say at which input.
  Laid BY PROGRAM, IN A SANDBOX (cutbox-rows.mjs): the forced cells as the released guide's own fill.sh prints them over the translation 601cf0ffab115167… (all of the seat's roots in one cut). By AI agents, Wed Nov 11 2026. No macro, syntax, notation, axiom, sorry.
-/
import Derived.Test.YtjcfmocpmjeddaaChecked
import GoSem.Claim
import GoSem.ClaimJoined
import GoSem.ClaimMapViews
import Derived.JoinedTies
import Derived.KernelRfl
namespace Go.Proofs.Ytjcfmocpmjeddaa
/- THE CELL 'sum', in the pinned program and in every row, IS THE sha256 OF THE DUMP (.gsa) THAT YtjcfmocpmjeddaaProg.lean LOADS. Nothing in Lean hashes anything: it is a label: what it is worth is what the hold of that sum in a sandbox is worth. -/
noncomputable def Try.pinned : Pinned := { name := "ytjcfmocpmjeddaa", sum := "601cf0ffab1151670395f2b9fdcb39d835e9de04bae3c8e12494885a7e29008f", checked := Try.checked }
namespace Rows
def none {H : Type} : Left H := { results := [], args := [] }

/-- 'formelaw02.CurveMatchesReference': WHATEVER THE INPUT: true; the input reads as it did. -/
def curveMatchesReferenceSpec : ChangeSpec := { name := "curveMatchesReference", fn := fun _ => fun
  | [d1, d2, d3, d4, d5] => { results := [.lit (.bool true)], args := [d1, d2, d3, d4, d5] }
  | _ => none }
def curveMatchesReferenceRow : OpenClaim := { program := "ytjcfmocpmjeddaa", sum := "601cf0ffab1151670395f2b9fdcb39d835e9de04bae3c8e12494885a7e29008f", func := "forme/formelaw02.CurveMatchesReference", spec := "curveMatchesReference", unfollowed := true, recurses := true, apart := false }
def CurveMatchesReferenceSaid : Prop := curveMatchesReferenceRow.holds Try.pinned (OpenSpec.ofChange curveMatchesReferenceSpec)

/-- ITS FALSE NEIGHBOUR: 'it returns false'. Refute it at one input. -/
def curveMatchesReferenceWrong : ChangeSpec := { name := "curveMatchesReference", fn := fun _ => fun
  | [d1, d2, d3, d4, d5] => { results := [.lit (.bool false)], args := [d1, d2, d3, d4, d5] }
  | _ => none }
def CurveMatchesReferenceWrongFalsely : Prop := curveMatchesReferenceRow.holds Try.pinned (OpenSpec.ofChange curveMatchesReferenceWrong)

/-- 'formelaw02.CurveValues': WHATEVER THE INPUT: true; the input reads as it did. -/
def curveValuesSpec : ChangeSpec := { name := "curveValues", fn := fun _ => fun
  | [d1, d2] => { results := [.lit (.bool true)], args := [d1, d2] }
  | _ => none }
def curveValuesRow : OpenClaim := { program := "ytjcfmocpmjeddaa", sum := "601cf0ffab1151670395f2b9fdcb39d835e9de04bae3c8e12494885a7e29008f", func := "forme/formelaw02.CurveValues", spec := "curveValues", unfollowed := true, recurses := true, apart := false }
def CurveValuesSaid : Prop := curveValuesRow.holds Try.pinned (OpenSpec.ofChange curveValuesSpec)

/-- ITS FALSE NEIGHBOUR: 'it returns false'. Refute it at one input. -/
def curveValuesWrong : ChangeSpec := { name := "curveValues", fn := fun _ => fun
  | [d1, d2] => { results := [.lit (.bool false)], args := [d1, d2] }
  | _ => none }
def CurveValuesWrongFalsely : Prop := curveValuesRow.holds Try.pinned (OpenSpec.ofChange curveValuesWrong)

/-- 'formelaw02.CurveOne': WHATEVER THE INPUT: true; the input reads as it did. -/
def curveOneSpec : ChangeSpec := { name := "curveOne", fn := fun _ => fun
  | [d] => { results := [.lit (.bool true)], args := [d] }
  | _ => none }
def curveOneRow : OpenClaim := { program := "ytjcfmocpmjeddaa", sum := "601cf0ffab1151670395f2b9fdcb39d835e9de04bae3c8e12494885a7e29008f", func := "forme/formelaw02.CurveOne", spec := "curveOne", unfollowed := true, recurses := true, apart := false }
def CurveOneSaid : Prop := curveOneRow.holds Try.pinned (OpenSpec.ofChange curveOneSpec)

/-- ITS FALSE NEIGHBOUR: 'it returns false'. Refute it at one input. -/
def curveOneWrong : ChangeSpec := { name := "curveOne", fn := fun _ => fun
  | [d] => { results := [.lit (.bool false)], args := [d] }
  | _ => none }
def CurveOneWrongFalsely : Prop := curveOneRow.holds Try.pinned (OpenSpec.ofChange curveOneWrong)

/-- 'formelaw02.CurveLong': WHATEVER THE INPUT: true; the input reads as it did. -/
def curveLongSpec : ChangeSpec := { name := "curveLong", fn := fun _ => fun
  | [d1, d2] => { results := [.lit (.bool true)], args := [d1, d2] }
  | _ => none }
def curveLongRow : OpenClaim := { program := "ytjcfmocpmjeddaa", sum := "601cf0ffab1151670395f2b9fdcb39d835e9de04bae3c8e12494885a7e29008f", func := "forme/formelaw02.CurveLong", spec := "curveLong", unfollowed := true, recurses := true, apart := false }
def CurveLongSaid : Prop := curveLongRow.holds Try.pinned (OpenSpec.ofChange curveLongSpec)

/-- ITS FALSE NEIGHBOUR: 'it returns false'. Refute it at one input. -/
def curveLongWrong : ChangeSpec := { name := "curveLong", fn := fun _ => fun
  | [d1, d2] => { results := [.lit (.bool false)], args := [d1, d2] }
  | _ => none }
def CurveLongWrongFalsely : Prop := curveLongRow.holds Try.pinned (OpenSpec.ofChange curveLongWrong)

/-- 'formelaw02.CurveSums': WHATEVER THE INPUT: true; the input reads as it did. -/
def curveSumsSpec : ChangeSpec := { name := "curveSums", fn := fun _ => fun
  | [d1, d2, d3] => { results := [.lit (.bool true)], args := [d1, d2, d3] }
  | _ => none }
def curveSumsRow : OpenClaim := { program := "ytjcfmocpmjeddaa", sum := "601cf0ffab1151670395f2b9fdcb39d835e9de04bae3c8e12494885a7e29008f", func := "forme/formelaw02.CurveSums", spec := "curveSums", unfollowed := true, recurses := true, apart := false }
def CurveSumsSaid : Prop := curveSumsRow.holds Try.pinned (OpenSpec.ofChange curveSumsSpec)

/-- ITS FALSE NEIGHBOUR: 'it returns false'. Refute it at one input. -/
def curveSumsWrong : ChangeSpec := { name := "curveSums", fn := fun _ => fun
  | [d1, d2, d3] => { results := [.lit (.bool false)], args := [d1, d2, d3] }
  | _ => none }
def CurveSumsWrongFalsely : Prop := curveSumsRow.holds Try.pinned (OpenSpec.ofChange curveSumsWrong)

/-- 'formelaw02.CurveMoves': WHATEVER THE INPUT: true; the input reads as it did. -/
def curveMovesSpec : ChangeSpec := { name := "curveMoves", fn := fun _ => fun
  | [d1, d2, d3] => { results := [.lit (.bool true)], args := [d1, d2, d3] }
  | _ => none }
def curveMovesRow : OpenClaim := { program := "ytjcfmocpmjeddaa", sum := "601cf0ffab1151670395f2b9fdcb39d835e9de04bae3c8e12494885a7e29008f", func := "forme/formelaw02.CurveMoves", spec := "curveMoves", unfollowed := true, recurses := true, apart := false }
def CurveMovesSaid : Prop := curveMovesRow.holds Try.pinned (OpenSpec.ofChange curveMovesSpec)

/-- ITS FALSE NEIGHBOUR: 'it returns false'. Refute it at one input. -/
def curveMovesWrong : ChangeSpec := { name := "curveMoves", fn := fun _ => fun
  | [d1, d2, d3] => { results := [.lit (.bool false)], args := [d1, d2, d3] }
  | _ => none }
def CurveMovesWrongFalsely : Prop := curveMovesRow.holds Try.pinned (OpenSpec.ofChange curveMovesWrong)

/-- 'formelaw02.CurveBegins': WHATEVER THE INPUT: true; the input reads as it did. -/
def curveBeginsSpec : ChangeSpec := { name := "curveBegins", fn := fun _ => fun
  | [d1, d2, d3] => { results := [.lit (.bool true)], args := [d1, d2, d3] }
  | _ => none }
def curveBeginsRow : OpenClaim := { program := "ytjcfmocpmjeddaa", sum := "601cf0ffab1151670395f2b9fdcb39d835e9de04bae3c8e12494885a7e29008f", func := "forme/formelaw02.CurveBegins", spec := "curveBegins", unfollowed := true, recurses := true, apart := false }
def CurveBeginsSaid : Prop := curveBeginsRow.holds Try.pinned (OpenSpec.ofChange curveBeginsSpec)

/-- ITS FALSE NEIGHBOUR: 'it returns false'. Refute it at one input. -/
def curveBeginsWrong : ChangeSpec := { name := "curveBegins", fn := fun _ => fun
  | [d1, d2, d3] => { results := [.lit (.bool false)], args := [d1, d2, d3] }
  | _ => none }
def CurveBeginsWrongFalsely : Prop := curveBeginsRow.holds Try.pinned (OpenSpec.ofChange curveBeginsWrong)

/- THE SECOND FORM. 'bulk': how many values and letters a reading holds, each counted each time it is reached (what is shared counts as often as it is met; a slice's spare places count too). A statement '..UptoSaid' is the law's where the arguments, and the package variables that the reading takes, are together of bulk at most 1048576: NARROWER than '..Said'. Prove '..Said' where nothing that the law and all that it calls make is longer than what came in: it says more and counts as full. Else prove '..UptoSaid'. A law counts once. -/
mutual
def uptoBulk {H : Type} : DataW H → Nat
  | .lit (.string bytes) => bytes.length + 1
  | .lit _ => 1
  | .nil => 1
  | .ptr d => uptoBulk d + 1
  | .slice elems spare => uptoBulkAll elems + uptoBulkAll spare + 1
  | .agg parts => uptoBulkAll parts + 1
  | .iface _ d => uptoBulk d + 1
  | .map entries => uptoBulkEntries entries + 1
  | .held _ => 1
def uptoBulkAll {H : Type} : List (DataW H) → Nat
  | [] => 0
  | d :: r => uptoBulk d + uptoBulkAll r
def uptoBulkEntries {H : Type} : List (Lit × DataW H) → Nat
  | [] => 0
  | x :: r => uptoBulkEntry x + uptoBulkEntries r
def uptoBulkEntry {H : Type} : Lit × DataW H → Nat
  | (.string bytes, d) => bytes.length + uptoBulk d + 1
  | (_, d) => uptoBulk d + 1
 end
def uptoSmall : (H : Type) → List (DataW H) → Bool := fun _ ds => decide (uptoBulkAll ds ≤ 1048576)
def OpenSpec.upto (s : _root_.Go.ChangeSpec) : _root_.Go.OpenSpec := { _root_.Go.OpenSpec.ofChange s with cond := some uptoSmall }

/-- 'formelaw02.CurveMatchesReference', WHERE WHAT IT READS IS OF BULK AT MOST 1048576: true; the input reads as it did. -/
def curveMatchesReferenceUptoRow : OpenClaim := { program := "ytjcfmocpmjeddaa", sum := "601cf0ffab1151670395f2b9fdcb39d835e9de04bae3c8e12494885a7e29008f", func := "forme/formelaw02.CurveMatchesReference", spec := "curveMatchesReference", unfollowed := true, recurses := true, apart := false, narrowed := true }
def CurveMatchesReferenceUptoSaid : Prop := curveMatchesReferenceUptoRow.holds Try.pinned (OpenSpec.upto curveMatchesReferenceSpec)

/-- 'formelaw02.CurveValues', WHERE WHAT IT READS IS OF BULK AT MOST 1048576: true; the input reads as it did. -/
def curveValuesUptoRow : OpenClaim := { program := "ytjcfmocpmjeddaa", sum := "601cf0ffab1151670395f2b9fdcb39d835e9de04bae3c8e12494885a7e29008f", func := "forme/formelaw02.CurveValues", spec := "curveValues", unfollowed := true, recurses := true, apart := false, narrowed := true }
def CurveValuesUptoSaid : Prop := curveValuesUptoRow.holds Try.pinned (OpenSpec.upto curveValuesSpec)

/-- 'formelaw02.CurveOne', WHERE WHAT IT READS IS OF BULK AT MOST 1048576: true; the input reads as it did. -/
def curveOneUptoRow : OpenClaim := { program := "ytjcfmocpmjeddaa", sum := "601cf0ffab1151670395f2b9fdcb39d835e9de04bae3c8e12494885a7e29008f", func := "forme/formelaw02.CurveOne", spec := "curveOne", unfollowed := true, recurses := true, apart := false, narrowed := true }
def CurveOneUptoSaid : Prop := curveOneUptoRow.holds Try.pinned (OpenSpec.upto curveOneSpec)

/-- 'formelaw02.CurveLong', WHERE WHAT IT READS IS OF BULK AT MOST 1048576: true; the input reads as it did. -/
def curveLongUptoRow : OpenClaim := { program := "ytjcfmocpmjeddaa", sum := "601cf0ffab1151670395f2b9fdcb39d835e9de04bae3c8e12494885a7e29008f", func := "forme/formelaw02.CurveLong", spec := "curveLong", unfollowed := true, recurses := true, apart := false, narrowed := true }
def CurveLongUptoSaid : Prop := curveLongUptoRow.holds Try.pinned (OpenSpec.upto curveLongSpec)

/-- 'formelaw02.CurveSums', WHERE WHAT IT READS IS OF BULK AT MOST 1048576: true; the input reads as it did. -/
def curveSumsUptoRow : OpenClaim := { program := "ytjcfmocpmjeddaa", sum := "601cf0ffab1151670395f2b9fdcb39d835e9de04bae3c8e12494885a7e29008f", func := "forme/formelaw02.CurveSums", spec := "curveSums", unfollowed := true, recurses := true, apart := false, narrowed := true }
def CurveSumsUptoSaid : Prop := curveSumsUptoRow.holds Try.pinned (OpenSpec.upto curveSumsSpec)

/-- 'formelaw02.CurveMoves', WHERE WHAT IT READS IS OF BULK AT MOST 1048576: true; the input reads as it did. -/
def curveMovesUptoRow : OpenClaim := { program := "ytjcfmocpmjeddaa", sum := "601cf0ffab1151670395f2b9fdcb39d835e9de04bae3c8e12494885a7e29008f", func := "forme/formelaw02.CurveMoves", spec := "curveMoves", unfollowed := true, recurses := true, apart := false, narrowed := true }
def CurveMovesUptoSaid : Prop := curveMovesUptoRow.holds Try.pinned (OpenSpec.upto curveMovesSpec)

/-- 'formelaw02.CurveBegins', WHERE WHAT IT READS IS OF BULK AT MOST 1048576: true; the input reads as it did. -/
def curveBeginsUptoRow : OpenClaim := { program := "ytjcfmocpmjeddaa", sum := "601cf0ffab1151670395f2b9fdcb39d835e9de04bae3c8e12494885a7e29008f", func := "forme/formelaw02.CurveBegins", spec := "curveBegins", unfollowed := true, recurses := true, apart := false, narrowed := true }
def CurveBeginsUptoSaid : Prop := curveBeginsUptoRow.holds Try.pinned (OpenSpec.upto curveBeginsSpec)

end Rows
end Go.Proofs.Ytjcfmocpmjeddaa
