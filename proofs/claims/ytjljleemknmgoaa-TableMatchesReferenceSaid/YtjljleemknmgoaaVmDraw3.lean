/-
 Part of the proof that a machine over named lists stands for the program's runs (VmDraw3). No conditions beyond those that its theorems name.
-/
import Derived.Test.YtjljleemknmgoaaVmDraw2
namespace Go.Vm
set_option linter.unusedSectionVars false
variable [Facts] [Val] [Sound]
variable {P : Program} {base : Nat}
def res (ρ : Rho) (n : Nat) : Rho := fun b => if b < n then ρ b else none
def cut (g : Look) (n : Nat) : Look := fun b => if b < n then g b else none
theorem res_fresh (ρ : Rho) (n : Nat) : Fresh n (res ρ n) := fun b hb => by unfold res; rw [if_neg (by omega)]
theorem res_le (ρ : Rho) (n : Nat) : (res ρ n).le ρ := fun b x h => by unfold res at h; split at h; exact h; cases h
theorem res_mono {ρ ρ' : Rho} (h : ρ.le ρ') {n n' : Nat} (hn : n ≤ n') : (res ρ n).le (res ρ' n') := fun b x e => by
 unfold res at *
 split at e
 ·rw [if_pos (by omega)]; exact h b x e
 ·cases e
theorem res_all {ρ : Rho} {n : Nat} (h : ∀ b, n ≤ b → ρ b = none) : res ρ n = ρ := by
 funext b; unfold res; split
 ·rfl
 ·exact (h b (by omega)).symm
def light (r : Run) (k : Nat) : Prop := (r.S k).n ≤ (r.S (k + 1)).n ∧ (r.S (k + 1)).dirty = (r.S k).dirty ∧ ∀ b, b < (r.S k).n → (r.S (k + 1)).get b = (r.S k).get b
theorem ok_next {bs : List Nat} {n : Nat} {all : List Oper} {eff : List Nat} {r : Run} {k : Nat} (h : StepAt P bs n all eff r k) (hk : (r.S k).ok) : (r.S (k + 1)).ok := by
 obtain ⟨o, _, _, h⟩ := h
 rcases h with ⟨_, _, e, _⟩ | ⟨_, m, os, _, _, ⟨_, e, _⟩ | ⟨s1, _, h1, h2, _, _, e, _⟩ | ⟨s1, _, h1, _, e, _⟩⟩
 ·rw [e]; exact hk
 ·rw [e]; exact hk
 ·rw [e]; unfold St.ok at *; have := h2.1; simp; omega
 ·rw [e]; exact h1
theorem n_next {bs : List Nat} {n : Nat} {all : List Oper} {eff : List Nat} {r : Run} {k : Nat} (h : StepAt P bs n all eff r k) : (r.S k).n ≤ (r.S (k + 1)).n := by
 obtain ⟨o, _, _, h⟩ := h
 rcases h with ⟨_, _, e, _⟩ | ⟨_, m, os, _, _, ⟨_, e, _⟩ | ⟨s1, _, h1, h2, _, _, e, _⟩ | ⟨s1, _, h1, h2, e, _⟩⟩ <;> rw [e] <;> first | exact Nat.le_refl _ | exact h2.1
def freeL (ops : Array Oper) (r : Run) (j : Nat) : Prop :=
 ∃ (o : Oper) (ty : TypeId) (x : Operand) (b off : Nat), ops.toList[j]? = some o ∧ o.op = .load ty x ∧ aEval (r.F j).t x = some (.ptr b off) ∧ b < (r.S 0).n ∧ (r.V j).older (r.S 0).n = true ∧ ∀ k, k ≤ ops.toList.length → (r.S k).get b = (r.S 0).get b
def freeN (ops : Array Oper) (r : Run) (j : Nat) : Prop :=
 ∃ (o : Oper) (t : Tmp) (v : AV), ops.toList[j]? = some o ∧ lenArg o = some t ∧ aEval (r.F j).t (.tmp t) = some v ∧ lenFree (some v) = true
def freeI (ops : Array Oper) (r : Run) (j : Nat) : Prop := ∃ o, ops.toList[j]? = some o ∧ wantedA ops.toList (r.F j).t o = false
def free (ops : Array Oper) (r : Run) (j : Nat) : Prop := freeL ops r j ∨ freeN ops r j ∨ freeI ops r j
theorem lenArg_spec {o : Oper} {t : Tmp} (h : lenArg o = some t) : ∃ c, o.op = .call c ∧ c.callee = .builtin .len ∧ c.args.toList = [.tmp t] := by
 unfold lenArg at h
 split at h
 ·rename_i c hc
  split at h
  ·rename_i t' h1 h2
   cases h
   exact ⟨c, hc, h1, h2⟩
  ·cases h
 ·cases h
theorem evP_len {m : Nat} {o : Oper} {f : Fr} {s : St} {v : AV} {os : Option St} {t : Tmp} (ho : lenArg o = some t) (h : evP P m o f s = some (v, os)) : os = none ∧ ∃ c a, o.op = .call c ∧ c.callee = .builtin .len ∧ c.args.toList = [.tmp t] ∧ aEval f.t (.tmp t) = some a ∧ lenA P s c.argTypes.toList a = some v := by
 obtain ⟨c, h1, h2, h3⟩ := lenArg_spec ho
 cases m with
 | zero => simp [evP] at h
 | succ m =>
  simp only [evP, h1, h2, prim, h3, aEvals] at h
  cases ha : aEval f.t (.tmp t) with
  | none => rw [ha] at h; simp at h
  | some a =>
   rw [ha] at h
   simp only [builtinA] at h
   cases hl : lenA P s c.argTypes.toList a with
   | none => rw [hl] at h; simp [stay] at h
   | some u =>
    rw [hl] at h
    simp [stay] at h
    exact ⟨h.2.symm, c, a, h1, h2, h3, rfl, by rw [← h.1]; exact hl⟩
def loud (ops : Array Oper) (r : Run) (j : Nat) (q : Oper) : Prop := blind q = false ∧ ¬ free ops r j
theorem evP_load {m : Nat} {o : Oper} {f : Fr} {s : St} {v : AV} {os : Option St} {ty : TypeId} {x : Operand} (ho : o.op = .load ty x) (h : evP P m o f s = some (v, os)) : os = none ∧ ∃ a, aEval f.t x = some a ∧ loadA P s ty a = some v := by
 cases m with
 | zero => simp [evP] at h
 | succ m =>
  simp only [evP, ho, prim] at h
  split at h
  ·rename_i a ha
   cases hl : loadA P s ty a with
   | none => rw [hl] at h; simp [stay] at h
   | some u => rw [hl] at h; simp [stay] at h; exact ⟨h.2.symm, a, ha, by rw [h.1] at hl; exact hl⟩
  ·simp at h
structure Ctx (P : Program) (n : Nat) (ops : Array Oper) (eff : List Nat) (r : Run) (s : St) (f : Fr) : Prop where
 step : ∀ k, k < ops.toList.length → StepAt P (befores [] ops.toList) n ops.toList eff r k
 s0 : r.S 0 = s
 f0 : r.F 0 = f
 m0 : r.M 0 = []
 edges : edgesOk ops.toList = true
 dist : distinct (ops.toList.map (·.dst)) = true
 reads : readsOk ops.toList (befores [] ops.toList) = true
 effs : ∀ i ∈ eff, ∀ (j : Nat) (q : Oper), ops.toList[j]? = some q → loud ops r j q → (j < i → tied (befores [] ops.toList) j i = true) ∧ (i < j → tied (befores [] ops.toList) i j = true)
 ok : s.ok
section
variable {n : Nat} {ops : Array Oper} {eff : List Nat} {r : Run} {s : St} {f : Fr}
theorem Ctx.sok (c : Ctx P n ops eff r s f) : ∀ k, k ≤ ops.toList.length → (r.S k).ok
 | 0, _ => by rw [c.s0]; exact c.ok
 | k + 1, h => ok_next (c.step k (by omega)) (c.sok k (by omega))
theorem Ctx.nle (c : Ctx P n ops eff r s f) : ∀ (j k : Nat), j ≤ k → k ≤ ops.toList.length → (r.S j).n ≤ (r.S k).n := by
 intro j k hjk
 induction k with
 | zero => intro _; have : j = 0 := by omega
           subst this; exact Nat.le_refl _
 | succ k ih =>
  intro hk
  by_cases e : j = k + 1
  ·subst e; exact Nat.le_refl _
  ·exact Nat.le_trans (ih (by omega) (by omega)) (n_next (c.step k (by omega)))
theorem Ctx.light_or (c : Ctx P n ops eff r s f) {k : Nat} (hk : k < ops.toList.length) : light r k ∨ k ∈ eff := by
 obtain ⟨o, _, _, h⟩ := c.step k hk
 rcases h with ⟨_, _, e, _⟩ | ⟨_, m, os, _, _, ⟨_, e, _⟩ | ⟨s1, _, h1, h2, _, _, e, _⟩ | ⟨s1, _, h1, h2, e, _, h3⟩⟩
 ·left; rw [light, e]; exact ⟨Nat.le_refl _, rfl, fun _ _ => rfl⟩
 ·left; rw [light, e]; exact ⟨Nat.le_refl _, rfl, fun _ _ => rfl⟩
 ·left; rw [light, e]; exact ⟨h2.1, rfl, fun b hb => by rw [grown_get (c.sok k (by omega)) h1 h2.1, if_pos hb]⟩
 ·exact .inr h3
theorem Ctx.lights (c : Ctx P n ops eff r s f) {m : Nat} : ∀ (i : Nat), m ≤ i → i ≤ ops.toList.length → (∀ k, m ≤ k → k < i → light r k) → ∀ b, b < (r.S m).n → (r.S i).get b = (r.S m).get b := by
 intro i
 induction i with
 | zero => intro h _ _ b _; have : m = 0 := by omega
           subst this; rfl
 | succ i ih =>
  intro h1 h2 h3 b hb
  by_cases e : m = i + 1
  ·subst e; rfl
  ·have := (h3 i (by omega) (by omega)).2.2 b (Nat.lt_of_lt_of_le hb (c.nle m i (by omega) (by omega)))
   rw [this]; exact ih (by omega) (by omega) (fun k hk1 hk2 => h3 k hk1 (by omega)) b hb
theorem Ctx.free_next (c : Ctx P n ops eff r s f) {k : Nat} (hf : free ops r k) : r.S (k + 1) = r.S k := by
 rcases hf with ⟨o, ty, x, b, off, g1, g2, _⟩ | ⟨o, t, v, g1, g2, _⟩ | ⟨o, g1, g2⟩
 ·obtain ⟨o', ho, _, h⟩ := c.step k (List.getElem?_eq_some_iff.1 g1).1
  rw [g1] at ho; cases ho
  rcases h with ⟨_, _, e, _⟩ | ⟨_, m, os, _, hev, ⟨_, e, _⟩ | ⟨s1, hos, _⟩ | ⟨s1, hos, _⟩⟩
  ·exact e
  ·exact e
  ·have := (evP_load g2 hev).1; rw [hos] at this; cases this
  ·have := (evP_load g2 hev).1; rw [hos] at this; cases this
 ·obtain ⟨o', ho, _, h⟩ := c.step k (List.getElem?_eq_some_iff.1 g1).1
  rw [g1] at ho; cases ho
  rcases h with ⟨_, _, e, _⟩ | ⟨_, m, os, _, hev, ⟨_, e, _⟩ | ⟨s1, hos, _⟩ | ⟨s1, hos, _⟩⟩
  ·exact e
  ·exact e
  ·have := (evP_len g2 hev).1; rw [hos] at this; cases this
  ·have := (evP_len g2 hev).1; rw [hos] at this; cases this
 ·obtain ⟨o', ho, _, h⟩ := c.step k (List.getElem?_eq_some_iff.1 g1).1
  rw [g1] at ho; cases ho
  rcases h with ⟨_, _, e, _⟩ | ⟨hwt, _⟩
  ·exact e
  ·rw [g2] at hwt; cases hwt
theorem Ctx.made (c : Ctx P n ops eff r s f) : ∀ (i : Nat), i ≤ ops.toList.length → ∀ e ∈ r.M i, e.1 < i ∧ e.2.1 = (r.S e.1).n ∧ e.2.2 = (r.S (e.1 + 1)).n ∧ (∃ o, ops.toList[e.1]? = some o ∧ loud ops r e.1 o)
 | 0, _, e, he => by rw [c.m0] at he; simp at he
 | i + 1, hi, e, he => by
  have st := c.step i (by omega)
  obtain ⟨o, ho, _, h⟩ := st
  have old : e ∈ r.M i → e.1 < i + 1 ∧ e.2.1 = (r.S e.1).n ∧ e.2.2 = (r.S (e.1 + 1)).n ∧ (∃ o, ops.toList[e.1]? = some o ∧ loud ops r e.1 o) := fun h => by
   obtain ⟨h1, h2⟩ := c.made i (by omega) e h; exact ⟨by omega, h2⟩
  rcases h with ⟨_, _, _, e1⟩ | ⟨hwt, m, os, hm, hev, ⟨_, _, e1⟩ | ⟨s1, hos, h1, h2, h3, h4, e2, e1⟩ | ⟨s1, _, h1, _, _, e1, _⟩⟩
  ·exact old (e1 ▸ he)
  ·exact old (e1 ▸ he)
  ·rw [e1] at he
   rcases List.mem_cons.1 he with e3 | e3
   ·subst e3
    refine ⟨by simp, rfl, by simp only; rw [e2], o, ho, h2.2, ?_⟩
    rintro (⟨o', ty, x, b, off, g1, g2, _⟩ | ⟨o', t', v', g1, g2, _⟩ | ⟨o', g1, g2⟩)
    ·rw [ho] at g1; cases g1
     have := (evP_load g2 hev).1
     rw [hos] at this; cases this
    ·rw [ho] at g1; cases g1
     have := (evP_len g2 hev).1
     rw [hos] at this; cases this
    ·rw [ho] at g1; cases g1
     rw [hwt] at g2; cases g2
   ·exact old e3
  ·exact old (e1 ▸ he)
end
end Go.Vm
