/-
  The test that the laws begin with answers 'true' in every world. No conditions.
-/
import Derived.KernelRfl
import Derived.Test.YtmdobpjkcheneaaProg
import Derived.Test.YtmdobpjkcheneaaVmFast3
open Go Go.Vm Go.Proofs
open Go.RowKit
namespace Go.Proofs.Ytmdobpjkcheneaa.Head
theorem head (w : World) : Calls Try.prog 10 #[] w fun e w' => e = .returned (.bool true) ∧ Below w.heap.size w w' :=
  Go.Vm.head_fast (by kernel_rfl) (by kernel_rfl) (n := 1000000) (by kernel_rfl) w
end Go.Proofs.Ytmdobpjkcheneaa.Head
