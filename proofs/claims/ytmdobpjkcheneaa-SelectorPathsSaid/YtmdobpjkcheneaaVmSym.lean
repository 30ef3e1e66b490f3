/-
  Part of the proof that the small machine's runs stand for the program's (VmSym). No conditions beyond those that its theorems name.
-/
import Derived.Test.YtmdobpjkcheneaaVmTop
namespace Go.Vm
/-! ### runs on numbers that are not known: all ways that their comparisons part -/
inductive DT where
  | leaf
  | dead
  | node (eq : Bool) (a b : SI) (t e : DT)
noncomputable def runT (P : Program) (T : List FuncId) (n : Nat) (fid : FuncId) (args : List AV) (C : List Fact) : Bool :=
  match @evF ⟨C, T, true⟩ P n fid args ⟨0, [], 0⟩ with
  | some (.bool true, _) => true
  | _ => false
noncomputable def checkT (P : Program) (K : List FuncId) (n : Nat) (fid : FuncId) (args : List AV) : List Fact → DT → Bool
  | C, .leaf => runT P K n fid args C
  | _, .dead => true
  | C, .node eq a b t e => checkT P K n fid args (⟨eq, a, b, true⟩ :: C) t && checkT P K n fid args (⟨eq, a, b, false⟩ :: C) e
/-- the ways that are never gone -/
def Deads (σ : Nat → Int) : DT → Prop
  | .leaf => True
  | .dead => False
  | .node eq a b t e => (Fact.holds σ ⟨eq, a, b, true⟩ → Deads σ t) ∧ (Fact.holds σ ⟨eq, a, b, false⟩ → Deads σ e)
theorem tree_run {P : Program} (hp : (P.funcs.all fun f => !(f.name == "runtime.NumGoroutine")) = true) (hm : P.follows .mixedOrders = true) {K : List FuncId} (hK : ∀ f ∈ K, ∀ w, Calls P f #[] w fun e w' => e = .returned (.bool true) ∧ Go.RowKit.Below w.heap.size w w') {n : Nat} {fid : FuncId} {args : List AV} (σ : Nat → Int) {cargs : List Value} (ha : @convs ⟨σ⟩ (fun _ => none) args = some cargs) (w : World) :
    ∀ (T : DT) (C : List Fact), checkT P K n fid args C T = true → (∀ f ∈ C, f.holds σ) → Deads σ T → Calls P fid cargs.toArray w fun e w' => e = .returned (.bool true) ∧ Go.RowKit.Below w.heap.size w w'
  | .leaf, C, h, hC, _ => by
    unfold checkT runT at h
    split at h
    · rename_i os he
      letI : Facts := ⟨C, K, true⟩
      letI : Val := ⟨σ⟩
      haveI : Sound := ⟨hC⟩
      haveI : Trues P := ⟨hK⟩
      refine (closed_run (plain_of hp) hm he rfl ha w).mono fun e w' q => ?_
      obtain ⟨x, h1, h2, h3⟩ := q
      simp [conv] at h1; subst h1; exact ⟨h2, h3⟩
    · cases h
  | .dead, C, h, hC, hd => hd.elim
  | .node eq a b t e, C, h, hC, hd => by
    simp only [checkT, Bool.and_eq_true] at h
    have hor : Fact.holds σ ⟨eq, a, b, true⟩ ∨ Fact.holds σ ⟨eq, a, b, false⟩ := by
      unfold Fact.holds
      cases eq
      · simp only [Bool.false_eq_true, if_false]
        cases decide (a.val σ < b.val σ) <;> simp
      · simp only [if_true]
        cases (a.val σ == b.val σ) <;> simp
    rcases hor with h1 | h1
    · exact tree_run hp hm hK σ ha w t _ h.1 (fun f hf => by rcases List.mem_cons.1 hf with e' | e'; exact e' ▸ h1; exact hC f e') (hd.1 h1)
    · exact tree_run hp hm hK σ ha w e _ h.2 (fun f hf => by rcases List.mem_cons.1 hf with e' | e'; exact e' ▸ h1; exact hC f e') (hd.2 h1)
/-- a closed test that answers 'true', by the machine alone -/
theorem head_run {P : Program} (hp : (P.funcs.all fun f => !(f.name == "runtime.NumGoroutine")) = true) (hm : P.follows .mixedOrders = true) {n : Nat} {fid : FuncId} (h : runT P [] n fid [] [] = true) (w : World) :
    Calls P fid #[] w fun e w' => e = .returned (.bool true) ∧ Go.RowKit.Below w.heap.size w w' :=
  tree_run hp hm (K := []) (fun f hf => by cases hf) (n := n) (args := []) (fun _ => 0) (cargs := []) rfl w .leaf [] h (fun f hf => by cases hf) trivial
theorem deads_lt {σ : Nat → Int} {a b : SI} {t e : DT} : Deads σ (.node false a b t e) ↔ (a.val σ < b.val σ → Deads σ t) ∧ (¬ a.val σ < b.val σ → Deads σ e) := by
  simp only [Deads, Fact.holds, Bool.false_eq_true, if_false, decide_eq_true_eq, decide_eq_false_iff_not]
theorem deads_eq {σ : Nat → Int} {a b : SI} {t e : DT} : Deads σ (.node true a b t e) ↔ (a.val σ = b.val σ → Deads σ t) ∧ (¬ a.val σ = b.val σ → Deads σ e) := by
  simp only [Deads, Fact.holds, if_true, beq_iff_eq, beq_eq_false_iff_ne, ne_eq]
theorem deads_leaf {σ : Nat → Int} : Deads σ .leaf ↔ True := Iff.rfl
theorem deads_dead {σ : Nat → Int} : Deads σ .dead ↔ False := Iff.rfl
end Go.Vm
