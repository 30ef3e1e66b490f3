/-
  No cell of these rows narrows 'for every input' (looked for: loops, veiled, ifaces, maps, wideKeys, modest, calm, conditions, laid).
  DERIVED. THE GIVEN ROWS OF THIS SEAT. 6 by the template 'for every input the law returns true; each argument reads behind the call as it read before'; 0 by the template 'total and deterministic' (their statements: YtbjidlekfoabaaaTotals.lean).
  GIVEN WITH THE SEED: the statements are not yours to turn. If you find one false, say at which input.
  Laid BY PROGRAM, IN A SANDBOX (cutbox-rows.mjs): the forced cells as the released guide's own fill.sh prints them over the translation c201822d94f63a0a… (all of the seat's roots in one cut). By AI agents, Wed Nov 11 2026. No macro, syntax, notation, axiom, sorry.
-/
import Derived.Test.YtbjidlekfoabaaaChecked
import GoSem.Claim
import GoSem.ClaimJoined
import GoSem.ClaimMapViews
import Derived.JoinedTies
import Derived.KernelRfl
namespace Go.Proofs.Ytbjidlekfoabaaa
/- THE CELL 'sum', in the pinned program and in every row, IS THE sha256 OF THE DUMP (.gsa) THAT YtbjidlekfoabaaaProg.lean LOADS. Nothing in Lean hashes anything: it is a label: what it is worth is what the hold of that sum in a sandbox is worth. -/
noncomputable def Try.pinned : Pinned := { name := "ytbjidlekfoabaaa", sum := "c201822d94f63a0ac2b95a5477ee9c6e252660e388bfc6a44896c8451562500f", checked := Try.checked }
namespace Rows
def none {H : Type} : Left H := { results := [], args := [] }

/-- 'formelaw08.BreaksMatchesReference': WHATEVER THE INPUT: true; the input reads as it did. -/
def breaksMatchesReferenceSpec : ChangeSpec := { name := "breaksMatchesReference", fn := fun _ => fun
  | [d1, d2] => { results := [.lit (.bool true)], args := [d1, d2] }
  | _ => none }
def breaksMatchesReferenceRow : OpenClaim := { program := "ytbjidlekfoabaaa", sum := "c201822d94f63a0ac2b95a5477ee9c6e252660e388bfc6a44896c8451562500f", func := "forme/formelaw08.BreaksMatchesReference", spec := "breaksMatchesReference", unfollowed := true, recurses := true, apart := false }
def BreaksMatchesReferenceSaid : Prop := breaksMatchesReferenceRow.holds Try.pinned (OpenSpec.ofChange breaksMatchesReferenceSpec)

/-- ITS FALSE NEIGHBOUR: 'it returns false'. Refute it at one input. -/
def breaksMatchesReferenceWrong : ChangeSpec := { name := "breaksMatchesReference", fn := fun _ => fun
  | [d1, d2] => { results := [.lit (.bool false)], args := [d1, d2] }
  | _ => none }
def BreaksMatchesReferenceWrongFalsely : Prop := breaksMatchesReferenceRow.holds Try.pinned (OpenSpec.ofChange breaksMatchesReferenceWrong)

/-- 'formelaw08.BreaksPlaces': WHATEVER THE INPUT: true; the input reads as it did. -/
def breaksPlacesSpec : ChangeSpec := { name := "breaksPlaces", fn := fun _ => fun
  | [d1, d2] => { results := [.lit (.bool true)], args := [d1, d2] }
  | _ => none }
def breaksPlacesRow : OpenClaim := { program := "ytbjidlekfoabaaa", sum := "c201822d94f63a0ac2b95a5477ee9c6e252660e388bfc6a44896c8451562500f", func := "forme/formelaw08.BreaksPlaces", spec := "breaksPlaces", unfollowed := true, recurses := true, apart := false }
def BreaksPlacesSaid : Prop := breaksPlacesRow.holds Try.pinned (OpenSpec.ofChange breaksPlacesSpec)

/-- ITS FALSE NEIGHBOUR: 'it returns false'. Refute it at one input. -/
def breaksPlacesWrong : ChangeSpec := { name := "breaksPlaces", fn := fun _ => fun
  | [d1, d2] => { results := [.lit (.bool false)], args := [d1, d2] }
  | _ => none }
def BreaksPlacesWrongFalsely : Prop := breaksPlacesRow.holds Try.pinned (OpenSpec.ofChange breaksPlacesWrong)

/-- 'formelaw08.BreaksKeeps': WHATEVER THE INPUT: true; the input reads as it did. -/
def breaksKeepsSpec : ChangeSpec := { name := "breaksKeeps", fn := fun _ => fun
  | [d1, d2] => { results := [.lit (.bool true)], args := [d1, d2] }
  | _ => none }
def breaksKeepsRow : OpenClaim := { program := "ytbjidlekfoabaaa", sum := "c201822d94f63a0ac2b95a5477ee9c6e252660e388bfc6a44896c8451562500f", func := "forme/formelaw08.BreaksKeeps", spec := "breaksKeeps", unfollowed := true, recurses := true, apart := false }
def BreaksKeepsSaid : Prop := breaksKeepsRow.holds Try.pinned (OpenSpec.ofChange breaksKeepsSpec)

/-- ITS FALSE NEIGHBOUR: 'it returns false'. Refute it at one input. -/
def breaksKeepsWrong : ChangeSpec := { name := "breaksKeeps", fn := fun _ => fun
  | [d1, d2] => { results := [.lit (.bool false)], args := [d1, d2] }
  | _ => none }
def BreaksKeepsWrongFalsely : Prop := breaksKeepsRow.holds Try.pinned (OpenSpec.ofChange breaksKeepsWrong)

/-- 'formelaw08.BreaksWords': WHATEVER THE INPUT: true; the input reads as it did. -/
def breaksWordsSpec : ChangeSpec := { name := "breaksWords", fn := fun _ => fun
  | [d1, d2] => { results := [.lit (.bool true)], args := [d1, d2] }
  | _ => none }
def breaksWordsRow : OpenClaim := { program := "ytbjidlekfoabaaa", sum := "c201822d94f63a0ac2b95a5477ee9c6e252660e388bfc6a44896c8451562500f", func := "forme/formelaw08.BreaksWords", spec := "breaksWords", unfollowed := true, recurses := true, apart := false }
def BreaksWordsSaid : Prop := breaksWordsRow.holds Try.pinned (OpenSpec.ofChange breaksWordsSpec)

/-- ITS FALSE NEIGHBOUR: 'it returns false'. Refute it at one input. -/
def breaksWordsWrong : ChangeSpec := { name := "breaksWords", fn := fun _ => fun
  | [d1, d2] => { results := [.lit (.bool false)], args := [d1, d2] }
  | _ => none }
def BreaksWordsWrongFalsely : Prop := breaksWordsRow.holds Try.pinned (OpenSpec.ofChange breaksWordsWrong)

/-- 'formelaw08.BreaksStricter': WHATEVER THE INPUT: true; the input reads as it did. -/
def breaksStricterSpec : ChangeSpec := { name := "breaksStricter", fn := fun _ => fun
  | [d1, d2, d3, d4, d5] => { results := [.lit (.bool true)], args := [d1, d2, d3, d4, d5] }
  | _ => none }
def breaksStricterRow : OpenClaim := { program := "ytbjidlekfoabaaa", sum := "c201822d94f63a0ac2b95a5477ee9c6e252660e388bfc6a44896c8451562500f", func := "forme/formelaw08.BreaksStricter", spec := "breaksStricter", unfollowed := true, recurses := true, apart := false }
def BreaksStricterSaid : Prop := breaksStricterRow.holds Try.pinned (OpenSpec.ofChange breaksStricterSpec)

/-- ITS FALSE NEIGHBOUR: 'it returns false'. Refute it at one input. -/
def breaksStricterWrong : ChangeSpec := { name := "breaksStricter", fn := fun _ => fun
  | [d1, d2, d3, d4, d5] => { results := [.lit (.bool false)], args := [d1, d2, d3, d4, d5] }
  | _ => none }
def BreaksStricterWrongFalsely : Prop := breaksStricterRow.holds Try.pinned (OpenSpec.ofChange breaksStricterWrong)

/-- 'formelaw08.BreaksJoins': WHATEVER THE INPUT: true; the input reads as it did. -/
def breaksJoinsSpec : ChangeSpec := { name := "breaksJoins", fn := fun _ => fun
  | [d1, d2, d3] => { results := [.lit (.bool true)], args := [d1, d2, d3] }
  | _ => none }
def breaksJoinsRow : OpenClaim := { program := "ytbjidlekfoabaaa", sum := "c201822d94f63a0ac2b95a5477ee9c6e252660e388bfc6a44896c8451562500f", func := "forme/formelaw08.BreaksJoins", spec := "breaksJoins", unfollowed := true, recurses := true, apart := false }
def BreaksJoinsSaid : Prop := breaksJoinsRow.holds Try.pinned (OpenSpec.ofChange breaksJoinsSpec)

/-- ITS FALSE NEIGHBOUR: 'it returns false'. Refute it at one input. -/
def breaksJoinsWrong : ChangeSpec := { name := "breaksJoins", fn := fun _ => fun
  | [d1, d2, d3] => { results := [.lit (.bool false)], args := [d1, d2, d3] }
  | _ => none }
def BreaksJoinsWrongFalsely : Prop := breaksJoinsRow.holds Try.pinned (OpenSpec.ofChange breaksJoinsWrong)

/- THE SECOND FORM. 'bulk': how many values and letters a reading holds, each counted each time it is reached (what is shared counts as often as it is met; a slice's spare places count too). A statement '..UptoSaid' is the law's where the arguments, and the package variables that the reading takes, are together of bulk at most 1048576: NARROWER than '..Said'. Prove '..Said' where nothing that the law and all that it calls make is longer than what came in: it says more and counts as full. Else prove '..UptoSaid'. A law counts once. -/
mutual
def uptoBulk {H : Type} : DataW H → Nat
  | .lit (.string bytes) => bytes.length + 1
  | .lit _ => 1
  | .nil => 1
  | .ptr d => uptoBulk d + 1
  | .slice elems spare => uptoBulkAll elems + uptoBulkAll spare + 1
  | .agg parts => uptoBulkAll parts + 1
  | .iface _ d => uptoBulk d + 1
  | .map entries => uptoBulkEntries entries + 1
  | .held _ => 1
def uptoBulkAll {H : Type} : List (DataW H) → Nat
  | [] => 0
  | d :: r => uptoBulk d + uptoBulkAll r
def uptoBulkEntries {H : Type} : List (Lit × DataW H) → Nat
  | [] => 0
  | x :: r => uptoBulkEntry x + uptoBulkEntries r
def uptoBulkEntry {H : Type} : Lit × DataW H → Nat
  | (.string bytes, d) => bytes.length + uptoBulk d + 1
  | (_, d) => uptoBulk d + 1
 end
def uptoSmall : (H : Type) → List (DataW H) → Bool := fun _ ds => decide (uptoBulkAll ds ≤ 1048576)
def OpenSpec.upto (s : _root_.Go.ChangeSpec) : _root_.Go.OpenSpec := { _root_.Go.OpenSpec.ofChange s with cond := some uptoSmall }

/-- 'formelaw08.BreaksMatchesReference', WHERE WHAT IT READS IS OF BULK AT MOST 1048576: true; the input reads as it did. -/
def breaksMatchesReferenceUptoRow : OpenClaim := { program := "ytbjidlekfoabaaa", sum := "c201822d94f63a0ac2b95a5477ee9c6e252660e388bfc6a44896c8451562500f", func := "forme/formelaw08.BreaksMatchesReference", spec := "breaksMatchesReference", unfollowed := true, recurses := true, apart := false, narrowed := true }
def BreaksMatchesReferenceUptoSaid : Prop := breaksMatchesReferenceUptoRow.holds Try.pinned (OpenSpec.upto breaksMatchesReferenceSpec)

/-- 'formelaw08.BreaksPlaces', WHERE WHAT IT READS IS OF BULK AT MOST 1048576: true; the input reads as it did. -/
def breaksPlacesUptoRow : OpenClaim := { program := "ytbjidlekfoabaaa", sum := "c201822d94f63a0ac2b95a5477ee9c6e252660e388bfc6a44896c8451562500f", func := "forme/formelaw08.BreaksPlaces", spec := "breaksPlaces", unfollowed := true, recurses := true, apart := false, narrowed := true }
def BreaksPlacesUptoSaid : Prop := breaksPlacesUptoRow.holds Try.pinned (OpenSpec.upto breaksPlacesSpec)

/-- 'formelaw08.BreaksKeeps', WHERE WHAT IT READS IS OF BULK AT MOST 1048576: true; the input reads as it did. -/
def breaksKeepsUptoRow : OpenClaim := { program := "ytbjidlekfoabaaa", sum := "c201822d94f63a0ac2b95a5477ee9c6e252660e388bfc6a44896c8451562500f", func := "forme/formelaw08.BreaksKeeps", spec := "breaksKeeps", unfollowed := true, recurses := true, apart := false, narrowed := true }
def BreaksKeepsUptoSaid : Prop := breaksKeepsUptoRow.holds Try.pinned (OpenSpec.upto breaksKeepsSpec)

/-- 'formelaw08.BreaksWords', WHERE WHAT IT READS IS OF BULK AT MOST 1048576: true; the input reads as it did. -/
def breaksWordsUptoRow : OpenClaim := { program := "ytbjidlekfoabaaa", sum := "c201822d94f63a0ac2b95a5477ee9c6e252660e388bfc6a44896c8451562500f", func := "forme/formelaw08.BreaksWords", spec := "breaksWords", unfollowed := true, recurses := true, apart := false, narrowed := true }
def BreaksWordsUptoSaid : Prop := breaksWordsUptoRow.holds Try.pinned (OpenSpec.upto breaksWordsSpec)

/-- 'formelaw08.BreaksStricter', WHERE WHAT IT READS IS OF BULK AT MOST 1048576: true; the input reads as it did. -/
def breaksStricterUptoRow : OpenClaim := { program := "ytbjidlekfoabaaa", sum := "c201822d94f63a0ac2b95a5477ee9c6e252660e388bfc6a44896c8451562500f", func := "forme/formelaw08.BreaksStricter", spec := "breaksStricter", unfollowed := true, recurses := true, apart := false, narrowed := true }
def BreaksStricterUptoSaid : Prop := breaksStricterUptoRow.holds Try.pinned (OpenSpec.upto breaksStricterSpec)

/-- 'formelaw08.BreaksJoins', WHERE WHAT IT READS IS OF BULK AT MOST 1048576: true; the input reads as it did. -/
def breaksJoinsUptoRow : OpenClaim := { program := "ytbjidlekfoabaaa", sum := "c201822d94f63a0ac2b95a5477ee9c6e252660e388bfc6a44896c8451562500f", func := "forme/formelaw08.BreaksJoins", spec := "breaksJoins", unfollowed := true, recurses := true, apart := false, narrowed := true }
def BreaksJoinsUptoSaid : Prop := breaksJoinsUptoRow.holds Try.pinned (OpenSpec.upto breaksJoinsSpec)

end Rows
end Go.Proofs.Ytbjidlekfoabaaa
