/-
  No cell of these rows narrows 'for every input' (looked for: loops, veiled, ifaces, maps, wideKeys, modest, calm, conditions, laid).
  DERIVED. THE GIVEN ROWS OF THIS SEAT. 6 by the template 'for every input the law returns true; each argument reads behind the call as it read before'; 0 by the template 'total and deterministic' (their statements: YtgcopjcmaenneaaTotals.lean).
  GIVEN WITH THE SEED: the statements are not yours to turn. If you find one false, say at which input.
  Laid BY PROGRAM, IN A SANDBOX (cutbox-rows.mjs): the forced cells as the released guide's own fill.sh prints them over the translation 8b177922977a9c2d… (all of the seat's roots in one cut). By AI agents, Wed Nov 11 2026. No macro, syntax, notation, axiom, sorry.
-/
import Derived.Test.YtgcopjcmaenneaaChecked
import GoSem.Claim
import GoSem.ClaimJoined
import GoSem.ClaimMapViews
import Derived.JoinedTies
import Derived.KernelRfl
namespace Go.Proofs.Ytgcopjcmaenneaa
/- THE CELL 'sum', in the pinned program and in every row, IS THE sha256 OF THE DUMP (.gsa) THAT YtgcopjcmaenneaaProg.lean LOADS. Nothing in Lean hashes anything: it is a label: what it is worth is what the hold of that sum in a sandbox is worth. -/
noncomputable def Try.pinned : Pinned := { name := "ytgcopjcmaenneaa", sum := "8b177922977a9c2d19c8d9facaf6dacaae1214653617509b593954ae22a965a1", checked := Try.checked }
namespace Rows
def none {H : Type} : Left H := { results := [], args := [] }

/-- 'formelaw06.TextMatchesReference': WHATEVER THE INPUT: true; the input reads as it did. -/
def textMatchesReferenceSpec : ChangeSpec := { name := "textMatchesReference", fn := fun _ => fun
  | [d1, d2] => { results := [.lit (.bool true)], args := [d1, d2] }
  | _ => none }
def textMatchesReferenceRow : OpenClaim := { program := "ytgcopjcmaenneaa", sum := "8b177922977a9c2d19c8d9facaf6dacaae1214653617509b593954ae22a965a1", func := "forme/formelaw06.TextMatchesReference", spec := "textMatchesReference", unfollowed := true, recurses := true, apart := false }
def TextMatchesReferenceSaid : Prop := textMatchesReferenceRow.holds Try.pinned (OpenSpec.ofChange textMatchesReferenceSpec)

/-- ITS FALSE NEIGHBOUR: 'it returns false'. Refute it at one input. -/
def textMatchesReferenceWrong : ChangeSpec := { name := "textMatchesReference", fn := fun _ => fun
  | [d1, d2] => { results := [.lit (.bool false)], args := [d1, d2] }
  | _ => none }
def TextMatchesReferenceWrongFalsely : Prop := textMatchesReferenceRow.holds Try.pinned (OpenSpec.ofChange textMatchesReferenceWrong)

/-- 'formelaw06.TextShown': WHATEVER THE INPUT: true; the input reads as it did. -/
def textShownSpec : ChangeSpec := { name := "textShown", fn := fun _ => fun
  | [d] => { results := [.lit (.bool true)], args := [d] }
  | _ => none }
def textShownRow : OpenClaim := { program := "ytgcopjcmaenneaa", sum := "8b177922977a9c2d19c8d9facaf6dacaae1214653617509b593954ae22a965a1", func := "forme/formelaw06.TextShown", spec := "textShown", inPlace := ["internal/bytealg.IndexByteString", "internal/bytealg.IndexString", "internal/bytealg.CountString"], unfollowed := true, recurses := true, named := ["internal/bytealg.MaxLen"], apart := false }
def TextShownSaid : Prop := textShownRow.holds Try.pinned (OpenSpec.ofChange textShownSpec)

/-- ITS FALSE NEIGHBOUR: 'it returns false'. Refute it at one input. -/
def textShownWrong : ChangeSpec := { name := "textShown", fn := fun _ => fun
  | [d] => { results := [.lit (.bool false)], args := [d] }
  | _ => none }
def TextShownWrongFalsely : Prop := textShownRow.holds Try.pinned (OpenSpec.ofChange textShownWrong)

/-- 'formelaw06.TextWords': WHATEVER THE INPUT: true; the input reads as it did. -/
def textWordsSpec : ChangeSpec := { name := "textWords", fn := fun _ => fun
  | [d] => { results := [.lit (.bool true)], args := [d] }
  | _ => none }
def textWordsRow : OpenClaim := { program := "ytgcopjcmaenneaa", sum := "8b177922977a9c2d19c8d9facaf6dacaae1214653617509b593954ae22a965a1", func := "forme/formelaw06.TextWords", spec := "textWords", inPlace := ["internal/bytealg.CountString", "internal/bytealg.IndexByteString", "internal/bytealg.IndexString"], unfollowed := true, recurses := true, named := ["internal/bytealg.MaxLen"], apart := false }
def TextWordsSaid : Prop := textWordsRow.holds Try.pinned (OpenSpec.ofChange textWordsSpec)

/-- ITS FALSE NEIGHBOUR: 'it returns false'. Refute it at one input. -/
def textWordsWrong : ChangeSpec := { name := "textWords", fn := fun _ => fun
  | [d] => { results := [.lit (.bool false)], args := [d] }
  | _ => none }
def TextWordsWrongFalsely : Prop := textWordsRow.holds Try.pinned (OpenSpec.ofChange textWordsWrong)

/-- 'formelaw06.TextParts': WHATEVER THE INPUT: true; the input reads as it did. -/
def textPartsSpec : ChangeSpec := { name := "textParts", fn := fun _ => fun
  | [d1, d2] => { results := [.lit (.bool true)], args := [d1, d2] }
  | _ => none }
def textPartsRow : OpenClaim := { program := "ytgcopjcmaenneaa", sum := "8b177922977a9c2d19c8d9facaf6dacaae1214653617509b593954ae22a965a1", func := "forme/formelaw06.TextParts", spec := "textParts", unfollowed := true, recurses := true, apart := false }
def TextPartsSaid : Prop := textPartsRow.holds Try.pinned (OpenSpec.ofChange textPartsSpec)

/-- ITS FALSE NEIGHBOUR: 'it returns false'. Refute it at one input. -/
def textPartsWrong : ChangeSpec := { name := "textParts", fn := fun _ => fun
  | [d1, d2] => { results := [.lit (.bool false)], args := [d1, d2] }
  | _ => none }
def TextPartsWrongFalsely : Prop := textPartsRow.holds Try.pinned (OpenSpec.ofChange textPartsWrong)

/-- 'formelaw06.TextTrims': WHATEVER THE INPUT: true; the input reads as it did. -/
def textTrimsSpec : ChangeSpec := { name := "textTrims", fn := fun _ => fun
  | [d] => { results := [.lit (.bool true)], args := [d] }
  | _ => none }
def textTrimsRow : OpenClaim := { program := "ytgcopjcmaenneaa", sum := "8b177922977a9c2d19c8d9facaf6dacaae1214653617509b593954ae22a965a1", func := "forme/formelaw06.TextTrims", spec := "textTrims", inPlace := ["internal/bytealg.IndexByteString", "internal/bytealg.IndexString", "internal/bytealg.CountString"], unfollowed := true, recurses := true, named := ["internal/bytealg.MaxLen"], apart := false }
def TextTrimsSaid : Prop := textTrimsRow.holds Try.pinned (OpenSpec.ofChange textTrimsSpec)

/-- ITS FALSE NEIGHBOUR: 'it returns false'. Refute it at one input. -/
def textTrimsWrong : ChangeSpec := { name := "textTrims", fn := fun _ => fun
  | [d] => { results := [.lit (.bool false)], args := [d] }
  | _ => none }
def TextTrimsWrongFalsely : Prop := textTrimsRow.holds Try.pinned (OpenSpec.ofChange textTrimsWrong)

/-- 'formelaw06.TextClasses': WHATEVER THE INPUT: true; the input reads as it did. -/
def textClassesSpec : ChangeSpec := { name := "textClasses", fn := fun _ => fun
  | [d] => { results := [.lit (.bool true)], args := [d] }
  | _ => none }
def textClassesRow : OpenClaim := { program := "ytgcopjcmaenneaa", sum := "8b177922977a9c2d19c8d9facaf6dacaae1214653617509b593954ae22a965a1", func := "forme/formelaw06.TextClasses", spec := "textClasses", unfollowed := true, recurses := true, apart := false }
def TextClassesSaid : Prop := textClassesRow.holds Try.pinned (OpenSpec.ofChange textClassesSpec)

/-- ITS FALSE NEIGHBOUR: 'it returns false'. Refute it at one input. -/
def textClassesWrong : ChangeSpec := { name := "textClasses", fn := fun _ => fun
  | [d] => { results := [.lit (.bool false)], args := [d] }
  | _ => none }
def TextClassesWrongFalsely : Prop := textClassesRow.holds Try.pinned (OpenSpec.ofChange textClassesWrong)

/- THE SECOND FORM. 'bulk': how many values and letters a reading holds, each counted each time it is reached (what is shared counts as often as it is met; a slice's spare places count too). A statement '..UptoSaid' is the law's where the arguments, and the package variables that the reading takes, are together of bulk at most 1048576: NARROWER than '..Said'. Prove '..Said' where nothing that the law and all that it calls make is longer than what came in: it says more and counts as full. Else prove '..UptoSaid'. A law counts once. -/
mutual
def uptoBulk {H : Type} : DataW H → Nat
  | .lit (.string bytes) => bytes.length + 1
  | .lit _ => 1
  | .nil => 1
  | .ptr d => uptoBulk d + 1
  | .slice elems spare => uptoBulkAll elems + uptoBulkAll spare + 1
  | .agg parts => uptoBulkAll parts + 1
  | .iface _ d => uptoBulk d + 1
  | .map entries => uptoBulkEntries entries + 1
  | .held _ => 1
def uptoBulkAll {H : Type} : List (DataW H) → Nat
  | [] => 0
  | d :: r => uptoBulk d + uptoBulkAll r
def uptoBulkEntries {H : Type} : List (Lit × DataW H) → Nat
  | [] => 0
  | x :: r => uptoBulkEntry x + uptoBulkEntries r
def uptoBulkEntry {H : Type} : Lit × DataW H → Nat
  | (.string bytes, d) => bytes.length + uptoBulk d + 1
  | (_, d) => uptoBulk d + 1
 end
def uptoSmall : (H : Type) → List (DataW H) → Bool := fun _ ds => decide (uptoBulkAll ds ≤ 1048576)
def OpenSpec.upto (s : _root_.Go.ChangeSpec) : _root_.Go.OpenSpec := { _root_.Go.OpenSpec.ofChange s with cond := some uptoSmall }

/-- 'formelaw06.TextMatchesReference', WHERE WHAT IT READS IS OF BULK AT MOST 1048576: true; the input reads as it did. -/
def textMatchesReferenceUptoRow : OpenClaim := { program := "ytgcopjcmaenneaa", sum := "8b177922977a9c2d19c8d9facaf6dacaae1214653617509b593954ae22a965a1", func := "forme/formelaw06.TextMatchesReference", spec := "textMatchesReference", unfollowed := true, recurses := true, apart := false, narrowed := true }
def TextMatchesReferenceUptoSaid : Prop := textMatchesReferenceUptoRow.holds Try.pinned (OpenSpec.upto textMatchesReferenceSpec)

/-- 'formelaw06.TextShown', WHERE WHAT IT READS IS OF BULK AT MOST 1048576: true; the input reads as it did. -/
def textShownUptoRow : OpenClaim := { program := "ytgcopjcmaenneaa", sum := "8b177922977a9c2d19c8d9facaf6dacaae1214653617509b593954ae22a965a1", func := "forme/formelaw06.TextShown", spec := "textShown", inPlace := ["internal/bytealg.IndexByteString", "internal/bytealg.IndexString", "internal/bytealg.CountString"], unfollowed := true, recurses := true, named := ["internal/bytealg.MaxLen"], apart := false, narrowed := true }
def TextShownUptoSaid : Prop := textShownUptoRow.holds Try.pinned (OpenSpec.upto textShownSpec)

/-- 'formelaw06.TextWords', WHERE WHAT IT READS IS OF BULK AT MOST 1048576: true; the input reads as it did. -/
def textWordsUptoRow : OpenClaim := { program := "ytgcopjcmaenneaa", sum := "8b177922977a9c2d19c8d9facaf6dacaae1214653617509b593954ae22a965a1", func := "forme/formelaw06.TextWords", spec := "textWords", inPlace := ["internal/bytealg.CountString", "internal/bytealg.IndexByteString", "internal/bytealg.IndexString"], unfollowed := true, recurses := true, named := ["internal/bytealg.MaxLen"], apart := false, narrowed := true }
def TextWordsUptoSaid : Prop := textWordsUptoRow.holds Try.pinned (OpenSpec.upto textWordsSpec)

/-- 'formelaw06.TextParts', WHERE WHAT IT READS IS OF BULK AT MOST 1048576: true; the input reads as it did. -/
def textPartsUptoRow : OpenClaim := { program := "ytgcopjcmaenneaa", sum := "8b177922977a9c2d19c8d9facaf6dacaae1214653617509b593954ae22a965a1", func := "forme/formelaw06.TextParts", spec := "textParts", unfollowed := true, recurses := true, apart := false, narrowed := true }
def TextPartsUptoSaid : Prop := textPartsUptoRow.holds Try.pinned (OpenSpec.upto textPartsSpec)

/-- 'formelaw06.TextTrims', WHERE WHAT IT READS IS OF BULK AT MOST 1048576: true; the input reads as it did. -/
def textTrimsUptoRow : OpenClaim := { program := "ytgcopjcmaenneaa", sum := "8b177922977a9c2d19c8d9facaf6dacaae1214653617509b593954ae22a965a1", func := "forme/formelaw06.TextTrims", spec := "textTrims", inPlace := ["internal/bytealg.IndexByteString", "internal/bytealg.IndexString", "internal/bytealg.CountString"], unfollowed := true, recurses := true, named := ["internal/bytealg.MaxLen"], apart := false, narrowed := true }
def TextTrimsUptoSaid : Prop := textTrimsUptoRow.holds Try.pinned (OpenSpec.upto textTrimsSpec)

/-- 'formelaw06.TextClasses', WHERE WHAT IT READS IS OF BULK AT MOST 1048576: true; the input reads as it did. -/
def textClassesUptoRow : OpenClaim := { program := "ytgcopjcmaenneaa", sum := "8b177922977a9c2d19c8d9facaf6dacaae1214653617509b593954ae22a965a1", func := "forme/formelaw06.TextClasses", spec := "textClasses", unfollowed := true, recurses := true, apart := false, narrowed := true }
def TextClassesUptoSaid : Prop := textClassesUptoRow.holds Try.pinned (OpenSpec.upto textClassesSpec)

end Rows
end Go.Proofs.Ytgcopjcmaenneaa
