/-
  Part of the proof that the small machine's runs stand for the program's (VmFast2). No conditions beyond those that its theorems name.
-/
import Derived.Test.YtmdobpjkcheneaaVmFast
/-! What the fast evaluator answers, the other one answers too. -/
namespace Go.Vm.Q
noncomputable section
set_option linter.unusedSectionVars false
set_option linter.unusedSimpArgs false
variable [Facts]
variable {P : Program}
theorem forced_eq (s : St) : forced s = s := by
  cases s with
  | mk n h d => cases n <;> cases d <;> rfl
theorem lenIs_eq {α : Type} : ∀ (l : List α) (n : Nat), lenIs l n = true → l.length = n
  | [], n, h => (Nat.eq_of_beq_eq_true (show Nat.beq n 0 = true from h)).symm
  | _ :: l, 0, h => by cases (show false = true from h)
  | _ :: l, n + 1, h => by rw [List.length_cons, lenIs_eq l n h]
def wf (f : Fr) : Prop := ∀ i, f.nt ≤ i → lookD f.t i = aundef
def old (f : Fr) : Vm.Fr := ⟨toL f, f.d⟩
theorem lookD_cons (k : Nat) (v : AV) (r : En) (i : Nat) : lookD (.cons k v r) i = if k = i then v else lookD r i := by
  show Bool.rec (motive := fun _ => AV) (lookD r i) v (Nat.beq k i) = _
  by_cases h : k = i
  · subst h; rw [Nat.beq_refl, if_pos rfl]
  · have : Nat.beq k i = false := by
      cases e : Nat.beq k i with
      | false => rfl
      | true => exact absurd (Nat.eq_of_beq_eq_true e) h
    rw [this, if_neg h]
theorem toL_get (f : Fr) (i : Nat) : (toL f)[i]? = if i < f.nt then some (lookD f.t i) else none := by
  unfold toL
  rw [List.getElem?_map]
  by_cases h : i < f.nt
  · rw [List.getElem?_range h, if_pos h]; rfl
  · rw [if_neg h, List.getElem?_eq_none (by simpa using h)]; rfl
theorem toL_len (f : Fr) : (toL f).length = f.nt := by unfold toL; simp
theorem toL_getD {f : Fr} (h : wf f) (i : Nat) : ((toL f)[i]?).getD aundef = lookD f.t i := by
  rw [toL_get]
  split
  · rfl
  · rw [h i (by omega)]; rfl
section
variable {f : Fr} (hw : wf f)
include hw
theorem aEval_eq (x : Operand) : aEval f.t x = Vm.aEval (toL f) x := by
  cases x with
  | tmp i =>
    show some (lookD f.t i) = some ((getF (toL f) i).getD aundef)
    rw [getF_eq, toL_getD hw]
  | _ => rfl
theorem aEvals_eq : ∀ l : List Operand, aEvals f.t l = Vm.aEvals (toL f) l
  | [] => rfl
  | x :: xs => by
    have ih := aEvals_eq xs
    show Option.rec (motive := fun _ => Option (List AV)) none (fun a => Option.rec (motive := fun _ => Option (List AV)) none (fun as => some (a :: as)) (aEvals f.t xs)) (aEval f.t x) = _
    rw [ih, aEval_eq hw x, Vm.aEvals]
    cases Vm.aEval (toL f) x with
    | none => rfl
    | some a => cases Vm.aEvals (toL f) xs <;> rfl
theorem partsA_eq : ∀ l : List (Nat × Operand), partsA f.t l = Vm.partsA (toL f) l
  | [] => rfl
  | (i, x) :: l => by
    rw [partsA, Vm.partsA, partsA_eq l, aEval_eq hw x]
    cases Vm.aEval (toL f) x with
    | none => rfl
    | some a => cases Vm.partsA (toL f) l <;> rfl
theorem optA_eq (x : Option Operand) : optA f.t x = Vm.optA (toL f) x := by
  cases x with
  | none => rfl
  | some x => show (aEval f.t x).map some = (Vm.aEval (toL f) x).map some; rw [aEval_eq hw x]
theorem prim_eq (s : St) (op : Op) : prim P f.t s op = Vm.prim P (toL f) s op := by
  unfold prim Vm.prim
  cases op with
  | makeFunc g a b => cases g <;> simp only [aEvals_eq hw] <;> rfl
  | makeMap t x => cases x <;> simp only [aEval_eq hw] <;> rfl
  | _ =>
    first
    | rfl
    | (simp only [prim_pick, prim_alloc, prim_box, prim_build, prim_buildSlice, prim_load, prim_store, prim_nilCheck, prim_binOp, prim_unOp, prim_convert, prim_makeSlice, prim_slice, prim_fieldAddr, prim_field, prim_indexAddr, prim_index, prim_lookup, prim_mapUpdate, prim_insert, prim_range, prim_next, prim_extract, prim_call, aEval_eq hw, aEvals_eq hw, partsA_eq hw, optA_eq hw] <;> rfl)
theorem seqA_eq (s : St) (op : Op) : seqA P f.t s op = Vm.seqA P (toL f) s op := by
  unfold seqA Vm.seqA
  simp only [aEvals_eq hw]
  rfl
theorem wanted_eq (all : List Oper) (o : Oper) : wantedA all f.t o = Vm.wantedA all (toL f) o := by
  unfold wantedA Vm.wantedA
  cases o.guard with
  | none => rfl
  | some p =>
    obtain ⟨j, want⟩ := p
    show wantedG all f.t j want = _
    unfold wantedG
    cases hj : getF all j with
    | none => simp only [hj]
    | some q =>
      simp only [hj]
      cases hd : q.dst with
      | none => simp only [hd]
      | some i =>
        simp only [hd, getF_eq, toL_get]
        by_cases hi : i < f.nt
        · simp only [hi, if_true]
          cases lookD f.t i <;> rfl
        · simp only [hi, if_false]
          rw [hw i (Nat.le_of_not_lt hi)]
          rfl
theorem put_wf (dst : Option Tmp) (v : AV) : wf (f.put dst v) ∧ (f.put dst v).nt = f.nt := by
  cases dst with
  | none => exact ⟨hw, rfl⟩
  | some i =>
    cases f with
    | mk nt t d =>
      show wf (Bool.rec (motive := fun _ => Fr) ⟨nt, t, d⟩ ⟨nt, .cons i v t, d⟩ (Nat.ble (Nat.succ i) nt)) ∧ (Bool.rec (motive := fun _ => Fr) (⟨nt, t, d⟩ : Fr) ⟨nt, .cons i v t, d⟩ (Nat.ble (Nat.succ i) nt) : Fr).nt = nt
      cases e : Nat.ble (Nat.succ i) nt with
      | false => exact ⟨hw, rfl⟩
      | true =>
        have := Nat.le_of_ble_eq_true e
        refine ⟨fun k hk => ?_, rfl⟩
        show lookD (.cons i v t) k = aundef
        have hk' : nt ≤ k := hk
        rw [lookD_cons, if_neg (by omega)]
        exact hw k hk'
theorem put_eq (dst : Option Tmp) (v : AV) : old (f.put dst v) = (old f).put dst v := by
  cases dst with
  | none => rfl
  | some i =>
    cases f with
    | mk nt t d =>
      show old (Bool.rec (motive := fun _ => Fr) ⟨nt, t, d⟩ ⟨nt, .cons i v t, d⟩ (Nat.ble (Nat.succ i) nt)) = (⟨setF (toL ⟨nt, t, d⟩) i v, d⟩ : Vm.Fr)
      rw [setF_eq]
      have key : ∀ F : Fr, F.d = d → F.nt = nt → (∀ k, k < nt → lookD F.t k = if i = k then v else lookD t k) → old F = (⟨(toL ⟨nt, t, d⟩).set i v, d⟩ : Vm.Fr) := by
        intro F h1 h2 h3
        unfold old
        rw [h1]
        congr 1
        apply List.ext_getElem?
        intro k
        rw [toL_get, h2, List.getElem?_set, toL_len, toL_get]
        by_cases hk : k < nt
        · rw [if_pos hk, if_pos hk, h3 k hk]
          by_cases e : i = k
          · subst e; rw [if_pos rfl, if_pos rfl, if_pos hk]
          · rw [if_neg e, if_neg e]
        · rw [if_neg hk, if_neg hk]
          by_cases e : i = k
          · subst e; rw [if_pos rfl, if_neg hk]
          · rw [if_neg e]
      cases e : Nat.ble (Nat.succ i) nt with
      | false =>
        refine key _ rfl rfl fun k hk => ?_
        rw [if_neg]
        intro e'; subst e'
        rw [Nat.ble_eq_true_of_le hk] at e; cases e
      | true => exact key _ rfl rfl fun k _ => lookD_cons i v t k
theorem resultsA_eq (s : St) : ∀ l : List ResultVar, resultsA P s f.t l = Vm.resultsA P s (toL f) l
  | [] => rfl
  | .tmp i :: rs => by
    rw [resultsA, Vm.resultsA, resultsA_eq s rs]
    rw [List.getD_eq_getElem?_getD, toL_getD hw]
    rfl
  | .cell i ty :: rs => by
    rw [resultsA, Vm.resultsA, resultsA_eq s rs]
    rw [List.getD_eq_getElem?_getD, toL_getD hw]
    rfl
end
theorem getT_eq (f : Fr) (i : Nat) : getT f i = (old f).t[i]? := (toL_get f i).symm
theorem freeB_eq (all : List Oper) (f : Fr) (s : St) (Bs : List (Nat × Nat)) (j : Nat) (q : Oper) : freeB all f s Bs j q = Vm.freeB all (old f) s Bs j q := by
  unfold freeB Vm.freeB
  simp only [getT_eq]
  rfl
theorem softB_eq (all : List Oper) (f : Fr) (s : St) (i : Nat) (o : Oper) : softB all f s i o = Vm.softB all (old f) s i o := by
  unfold softB Vm.softB
  simp only [getT_eq]
  rfl
theorem softBs_eq (all : List Oper) (f : Fr) (s : St) : ∀ l : List Nat, softBs all f s l = Vm.softBs all (old f) s l
  | [] => rfl
  | i :: is => by
    rw [softBs, Vm.softBs]
    simp only [softB_eq, softBs_eq all f s is]
    rfl
theorem drawOk2_eq (all : List Oper) (f : Fr) (s : St) (eff : List Nat) : drawOk2 all f s eff = Vm.drawOk2 all (old f) s eff := by
  unfold drawOk2 Vm.drawOk2
  simp only [softBs_eq, freeB_eq]
  rfl
theorem numA_look : ∀ (l : List AV) (k i : Nat), lookD (numA k l) i = if i < k then aundef else (l[i - k]?).getD aundef
  | [], k, i => by
    show aundef = _
    split
    · rfl
    · simp
  | a :: l, k, i => by
    rw [numA, lookD_cons, numA_look l (k + 1) i]
    by_cases e : k = i
    · subst e; rw [if_pos rfl, if_neg (by omega)]; simp
    · rw [if_neg e]
      by_cases h : i < k
      · rw [if_pos (by omega), if_pos h]
      · rw [if_neg (by omega), if_neg h]
        have : i - k = (i - (k + 1)) + 1 := by omega
        rw [this, List.getElem?_cons_succ]
theorem ofArgs (l : List AV) (m : Nat) (d : List Nat) (h : l.length ≤ m) : wf ⟨m, numA 0 l, d⟩ ∧ old ⟨m, numA 0 l, d⟩ = ⟨l ++ List.replicate (m - l.length) aundef, d⟩ := by
  refine ⟨fun i hi => ?_, ?_⟩
  · show lookD (numA 0 l) i = aundef
    rw [numA_look, if_neg (Nat.not_lt_zero _), List.getElem?_eq_none (by have : m ≤ i := hi; omega)]; rfl
  · unfold old
    congr 1
    apply List.ext_getElem?
    intro i
    rw [toL_get]
    show (if i < m then some (lookD (numA 0 l) i) else none) = _
    rw [numA_look, if_neg (Nat.not_lt_zero _)]
    by_cases h1 : i < l.length
    · rw [if_pos (by omega), List.getElem?_append_left h1]
      simp [h1]
    · rw [List.getElem?_append_right (by omega), List.getElem?_replicate]
      by_cases h2 : i < m
      · rw [if_pos h2, if_pos (by omega), List.getElem?_eq_none (by simp; omega)]; rfl
      · rw [if_neg h2, if_neg (by omega)]
end
end Go.Vm.Q
