/-
  No cell of these rows narrows 'for every input' (looked for: loops, veiled, ifaces, maps, wideKeys, modest, calm, conditions, laid).
  DERIVED. THE GIVEN ROWS OF THIS SEAT. 4 by the template 'for every input the law returns true; each argument reads behind the call as it read before'; 0 by the template 'total and deterministic' (their statements: YtpodfpoaplnheaaTotals.lean).
  GIVEN WITH THE SEED: the statements are not yours to turn. If you find one false, say at which input.
  Laid BY PROGRAM, IN A SANDBOX (cutbox-rows.mjs): the forced cells as the released guide's own fill.sh prints them over the translation 3b353cae9aa482a7… (all of the seat's roots in one cut). By AI agents, Wed Nov 11 2026. No macro, syntax, notation, axiom, sorry.
-/
import Derived.Test.YtpodfpoaplnheaaChecked
import GoSem.Claim
import GoSem.ClaimJoined
import GoSem.ClaimMapViews
import Derived.JoinedTies
import Derived.KernelRfl
namespace Go.Proofs.Ytpodfpoaplnheaa
/- THE CELL 'sum', in the pinned program and in every row, IS THE sha256 OF THE DUMP (.gsa) THAT YtpodfpoaplnheaaProg.lean LOADS. Nothing in Lean hashes anything: it is a label: what it is worth is what the hold of that sum in a sandbox is worth. -/
noncomputable def Try.pinned : Pinned := { name := "ytpodfpoaplnheaa", sum := "3b353cae9aa482a74fec390d8b91c9afae08c03910ecdc1d3de05507ac880041", checked := Try.checked }
namespace Rows
def none {H : Type} : Left H := { results := [], args := [] }

/-- 'formelaw01.QuotMatchesReference': WHATEVER THE INPUT: true; the input reads as it did. -/
def quotMatchesReferenceSpec : ChangeSpec := { name := "quotMatchesReference", fn := fun _ => fun
  | [d1, d2, d3, d4, d5] => { results := [.lit (.bool true)], args := [d1, d2, d3, d4, d5] }
  | _ => none }
def quotMatchesReferenceRow : OpenClaim := { program := "ytpodfpoaplnheaa", sum := "3b353cae9aa482a74fec390d8b91c9afae08c03910ecdc1d3de05507ac880041", func := "forme/formelaw01.QuotMatchesReference", spec := "quotMatchesReference", unfollowed := true, recurses := true, apart := false }
def QuotMatchesReferenceSaid : Prop := quotMatchesReferenceRow.holds Try.pinned (OpenSpec.ofChange quotMatchesReferenceSpec)

/-- ITS FALSE NEIGHBOUR: 'it returns false'. Refute it at one input. -/
def quotMatchesReferenceWrong : ChangeSpec := { name := "quotMatchesReference", fn := fun _ => fun
  | [d1, d2, d3, d4, d5] => { results := [.lit (.bool false)], args := [d1, d2, d3, d4, d5] }
  | _ => none }
def QuotMatchesReferenceWrongFalsely : Prop := quotMatchesReferenceRow.holds Try.pinned (OpenSpec.ofChange quotMatchesReferenceWrong)

/-- 'formelaw01.QuotFits': WHATEVER THE INPUT: true; the input reads as it did. -/
def quotFitsSpec : ChangeSpec := { name := "quotFits", fn := fun _ => fun
  | [d1, d2, d3, d4] => { results := [.lit (.bool true)], args := [d1, d2, d3, d4] }
  | _ => none }
def quotFitsRow : OpenClaim := { program := "ytpodfpoaplnheaa", sum := "3b353cae9aa482a74fec390d8b91c9afae08c03910ecdc1d3de05507ac880041", func := "forme/formelaw01.QuotFits", spec := "quotFits", unfollowed := true, recurses := true, apart := false }
def QuotFitsSaid : Prop := quotFitsRow.holds Try.pinned (OpenSpec.ofChange quotFitsSpec)

/-- ITS FALSE NEIGHBOUR: 'it returns false'. Refute it at one input. -/
def quotFitsWrong : ChangeSpec := { name := "quotFits", fn := fun _ => fun
  | [d1, d2, d3, d4] => { results := [.lit (.bool false)], args := [d1, d2, d3, d4] }
  | _ => none }
def QuotFitsWrongFalsely : Prop := quotFitsRow.holds Try.pinned (OpenSpec.ofChange quotFitsWrong)

/-- 'formelaw01.QuotBeginnings': WHATEVER THE INPUT: true; the input reads as it did. -/
def quotBeginningsSpec : ChangeSpec := { name := "quotBeginnings", fn := fun _ => fun
  | [d1, d2, d3] => { results := [.lit (.bool true)], args := [d1, d2, d3] }
  | _ => none }
def quotBeginningsRow : OpenClaim := { program := "ytpodfpoaplnheaa", sum := "3b353cae9aa482a74fec390d8b91c9afae08c03910ecdc1d3de05507ac880041", func := "forme/formelaw01.QuotBeginnings", spec := "quotBeginnings", unfollowed := true, recurses := true, apart := false }
def QuotBeginningsSaid : Prop := quotBeginningsRow.holds Try.pinned (OpenSpec.ofChange quotBeginningsSpec)

/-- ITS FALSE NEIGHBOUR: 'it returns false'. Refute it at one input. -/
def quotBeginningsWrong : ChangeSpec := { name := "quotBeginnings", fn := fun _ => fun
  | [d1, d2, d3] => { results := [.lit (.bool false)], args := [d1, d2, d3] }
  | _ => none }
def QuotBeginningsWrongFalsely : Prop := quotBeginningsRow.holds Try.pinned (OpenSpec.ofChange quotBeginningsWrong)

/-- 'formelaw01.QuotMoves': WHATEVER THE INPUT: true; the input reads as it did. -/
def quotMovesSpec : ChangeSpec := { name := "quotMoves", fn := fun _ => fun
  | [d1, d2] => { results := [.lit (.bool true)], args := [d1, d2] }
  | _ => none }
def quotMovesRow : OpenClaim := { program := "ytpodfpoaplnheaa", sum := "3b353cae9aa482a74fec390d8b91c9afae08c03910ecdc1d3de05507ac880041", func := "forme/formelaw01.QuotMoves", spec := "quotMoves", unfollowed := true, recurses := true, apart := false }
def QuotMovesSaid : Prop := quotMovesRow.holds Try.pinned (OpenSpec.ofChange quotMovesSpec)

/-- ITS FALSE NEIGHBOUR: 'it returns false'. Refute it at one input. -/
def quotMovesWrong : ChangeSpec := { name := "quotMoves", fn := fun _ => fun
  | [d1, d2] => { results := [.lit (.bool false)], args := [d1, d2] }
  | _ => none }
def QuotMovesWrongFalsely : Prop := quotMovesRow.holds Try.pinned (OpenSpec.ofChange quotMovesWrong)

/- THE SECOND FORM. 'bulk': how many values and letters a reading holds, each counted each time it is reached (what is shared counts as often as it is met; a slice's spare places count too). A statement '..UptoSaid' is the law's where the arguments, and the package variables that the reading takes, are together of bulk at most 1048576: NARROWER than '..Said'. Prove '..Said' where nothing that the law and all that it calls make is longer than what came in: it says more and counts as full. Else prove '..UptoSaid'. A law counts once. -/
mutual
def uptoBulk {H : Type} : DataW H → Nat
  | .lit (.string bytes) => bytes.length + 1
  | .lit _ => 1
  | .nil => 1
  | .ptr d => uptoBulk d + 1
  | .slice elems spare => uptoBulkAll elems + uptoBulkAll spare + 1
  | .agg parts => uptoBulkAll parts + 1
  | .iface _ d => uptoBulk d + 1
  | .map entries => uptoBulkEntries entries + 1
  | .held _ => 1
def uptoBulkAll {H : Type} : List (DataW H) → Nat
  | [] => 0
  | d :: r => uptoBulk d + uptoBulkAll r
def uptoBulkEntries {H : Type} : List (Lit × DataW H) → Nat
  | [] => 0
  | x :: r => uptoBulkEntry x + uptoBulkEntries r
def uptoBulkEntry {H : Type} : Lit × DataW H → Nat
  | (.string bytes, d) => bytes.length + uptoBulk d + 1
  | (_, d) => uptoBulk d + 1
 end
def uptoSmall : (H : Type) → List (DataW H) → Bool := fun _ ds => decide (uptoBulkAll ds ≤ 1048576)
def OpenSpec.upto (s : _root_.Go.ChangeSpec) : _root_.Go.OpenSpec := { _root_.Go.OpenSpec.ofChange s with cond := some uptoSmall }

/-- 'formelaw01.QuotMatchesReference', WHERE WHAT IT READS IS OF BULK AT MOST 1048576: true; the input reads as it did. -/
def quotMatchesReferenceUptoRow : OpenClaim := { program := "ytpodfpoaplnheaa", sum := "3b353cae9aa482a74fec390d8b91c9afae08c03910ecdc1d3de05507ac880041", func := "forme/formelaw01.QuotMatchesReference", spec := "quotMatchesReference", unfollowed := true, recurses := true, apart := false, narrowed := true }
def QuotMatchesReferenceUptoSaid : Prop := quotMatchesReferenceUptoRow.holds Try.pinned (OpenSpec.upto quotMatchesReferenceSpec)

/-- 'formelaw01.QuotFits', WHERE WHAT IT READS IS OF BULK AT MOST 1048576: true; the input reads as it did. -/
def quotFitsUptoRow : OpenClaim := { program := "ytpodfpoaplnheaa", sum := "3b353cae9aa482a74fec390d8b91c9afae08c03910ecdc1d3de05507ac880041", func := "forme/formelaw01.QuotFits", spec := "quotFits", unfollowed := true, recurses := true, apart := false, narrowed := true }
def QuotFitsUptoSaid : Prop := quotFitsUptoRow.holds Try.pinned (OpenSpec.upto quotFitsSpec)

/-- 'formelaw01.QuotBeginnings', WHERE WHAT IT READS IS OF BULK AT MOST 1048576: true; the input reads as it did. -/
def quotBeginningsUptoRow : OpenClaim := { program := "ytpodfpoaplnheaa", sum := "3b353cae9aa482a74fec390d8b91c9afae08c03910ecdc1d3de05507ac880041", func := "forme/formelaw01.QuotBeginnings", spec := "quotBeginnings", unfollowed := true, recurses := true, apart := false, narrowed := true }
def QuotBeginningsUptoSaid : Prop := quotBeginningsUptoRow.holds Try.pinned (OpenSpec.upto quotBeginningsSpec)

/-- 'formelaw01.QuotMoves', WHERE WHAT IT READS IS OF BULK AT MOST 1048576: true; the input reads as it did. -/
def quotMovesUptoRow : OpenClaim := { program := "ytpodfpoaplnheaa", sum := "3b353cae9aa482a74fec390d8b91c9afae08c03910ecdc1d3de05507ac880041", func := "forme/formelaw01.QuotMoves", spec := "quotMoves", unfollowed := true, recurses := true, apart := false, narrowed := true }
def QuotMovesUptoSaid : Prop := quotMovesUptoRow.holds Try.pinned (OpenSpec.upto quotMovesSpec)

end Rows
end Go.Proofs.Ytpodfpoaplnheaa
