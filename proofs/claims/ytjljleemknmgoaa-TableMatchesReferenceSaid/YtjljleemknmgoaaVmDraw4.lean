/-
 Part of the proof that a machine over named lists stands for the program's runs (VmDraw4). No conditions beyond those that its theorems name.
-/
import Derived.Test.YtjljleemknmgoaaVmDraw3
namespace Go.Vm
set_option linter.unusedSectionVars false
variable [Facts] [Val] [Sound]
variable {P : Program} {base : Nat}
structure Inv (ops : Array Oper) (r : Run) (base : Nat) (ρ0 : Rho) (s0 : St) (f0 : Fr) (a0 : Act) (w0 : World) (m : Nat) (X : Nat → Prop) (a : Act) (w : World) (ρ : Rho) (g : Look) : Prop where
 hm : m ≤ ops.toList.length
 low : ∀ i, i < m → ∀ o, ops.toList[i]? = some o → X i ∨ ¬ loud ops r i o
 high : ∀ i, m ≤ i → i < ops.toList.length → X i → light r i
 closed : ∀ i j, i < ops.toList.length → X i → tied (befores [] ops.toList) j i = true → X j
 g1 : ∀ b, b < (r.S m).n → g b = (r.S m).look b
 g2 : ∀ j, m ≤ j → j < ops.toList.length → X j → ∀ b, (r.S j).n ≤ b → b < (r.S (j + 1)).n → g b = (r.S (j + 1)).look b
 g3 : ∀ j, m ≤ j → j < ops.toList.length → ¬ X j → ∀ b, (r.S j).n ≤ b → b < (r.S (j + 1)).n → g b = none ∧ ρ b = none
 g4 : ∀ b, (r.S ops.toList.length).n ≤ b → g b = none ∧ ρ b = none
 rel : ∀ i, m ≤ i → i ≤ ops.toList.length → Rel base (res ρ (r.S i).n) (cut g (r.S i).n) w
 kinds : ∀ j, m ≤ j → j < ops.toList.length → X j → ∀ b o, (r.S j).n ≤ b → b < (r.S (j + 1)).n → g b = some o → (r.S j).n ≤ o.kinOf b
 fram : Fram ρ0 s0.look w0 ρ g w
 ext : Ext s0.n ρ0 ρ
 tie : ∀ j i o q, j < m → m ≤ i → ops.toList[j]? = some o → ops.toList[i]? = some q → loud ops r j o → loud ops r i q → tied (befores [] ops.toList) j i = true
 size : a.tmps.size = f0.t.length
 marks : a.defers = a0.defers
 tm0 : ∀ t, t < f0.t.length → (∀ j, j < ops.toList.length → X j → ∀ o, ops.toList[j]? = some o → o.dst ≠ some t) → conv (res ρ s0.n) (f0.t.getD t aundef) = some (a.tmps.getD t undef)
 tm1 : ∀ j, j < ops.toList.length → X j → ∀ o, ops.toList[j]? = some o → ∀ t, o.dst = some t → t < f0.t.length → conv (res ρ (r.S (j + 1)).n) (r.V j) = some (a.tmps.getD t undef)
 keep : ∀ j, j < ops.toList.length → X j → KeepA (r.S j) (r.S (j + 1))
theorem light.keepA {r : Run} {k : Nat} (h : light r k) : KeepA (r.S k) (r.S (k + 1)) := ⟨Nat.le_of_eq h.2.1, fun b _ hb => h.2.2 b hb⟩
theorem distinct_spec : ∀ {l : List (Option Nat)}, distinct l = true → ∀ (i j : Nat) (t : Nat), l[i]? = some (some t) → l[j]? = some (some t) → i = j
 | [], _, i, j, t, h, _ => by simp at h
 | none :: l, hd, i, j, t, hi, hj => by
  cases i with
  | zero => simp at hi
  | succ i => cases j with
   | zero => simp at hj
   | succ j => have := distinct_spec (l := l) hd i j t (by simpa using hi) (by simpa using hj); omega
 | some x :: l, hd, i, j, t, hi, hj => by
  simp only [distinct, Bool.and_eq_true, Bool.not_eq_true', List.contains_eq_mem, decide_eq_false_iff_not] at hd
  cases i with
  | zero =>
   simp at hi; subst hi
   cases j with
   | zero => rfl
   | succ j => exact absurd (List.mem_iff_getElem?.2 ⟨j, by simpa using hj⟩) hd.1
  | succ i => cases j with
   | zero => simp at hj; subst hj; exact absurd (List.mem_iff_getElem?.2 ⟨i, by simpa using hi⟩) hd.1
   | succ j => have := distinct_spec hd.2 i j t (by simpa using hi) (by simpa using hj); omega
section
variable {n : Nat} {ops : Array Oper} {eff : List Nat} {r : Run} {s : St} {f : Fr}
theorem Ctx.dst_uniq (c : Ctx P n ops eff r s f) {i j : Nat} {o q : Oper} {t : Tmp} (hi : ops.toList[i]? = some o) (hj : ops.toList[j]? = some q) (h1 : o.dst = some t) (h2 : q.dst = some t) : i = j :=
 distinct_spec c.dist i j t (by simp [hi, h1]) (by simp [hj, h2])
theorem put_length (f : Fr) (dst : Option Tmp) (v : AV) : (f.put dst v).t.length = f.t.length := by cases dst <;> simp [setF_eq, Fr.put]
theorem Ctx.flen (c : Ctx P n ops eff r s f) : ∀ k, k ≤ ops.toList.length → (r.F k).t.length = f.t.length ∧ (r.F k).d = f.d
 | 0, _ => by rw [c.f0]; exact ⟨rfl, rfl⟩
 | k + 1, h => by
  obtain ⟨o, _, e, _⟩ := c.step k (by omega)
  obtain ⟨h1, h2⟩ := c.flen k (by omega)
  rw [e]
  exact ⟨by rw [put_length]; exact h1, by cases o.dst <;> simpa [Fr.put, setF_eq] using h2⟩
theorem put_getD (f : Fr) (dst : Option Tmp) (v : AV) (t : Nat) (h : dst ≠ some t) : (f.put dst v).t.getD t aundef = f.t.getD t aundef := by
 cases dst with
 | none => rfl
 | some d =>
  have : d ≠ t := fun e => h (by rw [e])
  simp [Fr.put, setF_eq, List.getD_eq_getElem?_getD, List.getElem?_set_ne this]
theorem Ctx.lex0 (c : Ctx P n ops eff r s f) (t : Nat) : ∀ k, k ≤ ops.toList.length → (∀ j, j < k → ∀ o, ops.toList[j]? = some o → o.dst ≠ some t) → (r.F k).t.getD t aundef = f.t.getD t aundef
 | 0, _, _ => by rw [c.f0]
 | k + 1, h, hn => by
  obtain ⟨o, ho, e, _⟩ := c.step k (by omega)
  rw [e, put_getD _ _ _ _ (hn k (by omega) o ho)]
  exact c.lex0 t k (by omega) (fun j hj => hn j (by omega))
theorem Ctx.lex1 (c : Ctx P n ops eff r s f) {j : Nat} {o : Oper} {t : Nat} (ho : ops.toList[j]? = some o) (hd : o.dst = some t) (ht : t < f.t.length) : ∀ k, j < k → k ≤ ops.toList.length → (r.F k).t.getD t aundef = r.V j
 | 0, h, _ => by omega
 | k + 1, h, hk => by
  obtain ⟨q, hq, e, _⟩ := c.step k (by omega)
  rw [e]
  by_cases ej : j = k
  ·subst ej
   rw [ho] at hq; cases hq
   rw [hd]
   have := (c.flen j (by omega)).1
   simp [Fr.put, setF_eq, List.getD_eq_getElem?_getD, this, ht]
  ·rw [put_getD _ _ _ _ (fun e => ej (c.dst_uniq ho hq hd e))]
   exact c.lex1 ho hd ht k (by omega) (by omega)
theorem Ctx.readsOk (c : Ctx P n ops eff r s f) {i j : Nat} {o q : Oper} {t : Tmp} (hi : ops.toList[i]? = some o) (hj : ops.toList[j]? = some q) (ht : t ∈ tmpsOf ops.toList o) (hd : q.dst = some t) :
  (j < i → tied (befores [] ops.toList) j i = true) ∧ (i < j → tied (befores [] ops.toList) i j = true) := by
 have h := c.reads
 unfold Vm.readsOk at h
 rw [List.all_eq_true] at h
 have h1 := h (o, i) (by rw [List.mem_zipIdx_iff_getElem?]; simpa using hi)
 simp only [List.all_eq_true] at h1
 have h2 := h1 t ht (q, j) (by rw [List.mem_zipIdx_iff_getElem?]; simpa using hj)
 simp only [hd, beq_self_eq_true, if_true] at h2
 constructor
 ·intro e; rw [if_pos e] at h2; exact h2
 ·intro e; rw [if_neg (by omega), if_pos e] at h2; exact h2
theorem Ctx.effOk (c : Ctx P n ops eff r s f) {i j : Nat} {q : Oper} (hi : i ∈ eff) (hj : ops.toList[j]? = some q) (hb : loud ops r j q) :
  (j < i → tied (befores [] ops.toList) j i = true) ∧ (i < j → tied (befores [] ops.toList) i j = true) := c.effs i hi j q hj hb
end
def maskL {α : Type} (keep : Nat → Bool) (u : α) (l : List α) : List α := l.zipIdx.map fun (x, i) => if keep i then x else u
theorem maskL_get {α : Type} (keep : Nat → Bool) (u : α) (l : List α) (i : Nat) : (maskL keep u l)[i]? = (l[i]?).map fun x => if keep i then x else u := by
 simp only [maskL, List.getElem?_map, List.getElem?_zipIdx, Nat.zero_add]
 cases l[i]? <;> rfl
theorem maskL_getD {α : Type} (keep : Nat → Bool) (u : α) (l : List α) (i : Nat) (h : keep i = true) : (maskL keep u l).getD i u = l.getD i u := by
 rw [List.getD_eq_getElem?_getD, List.getD_eq_getElem?_getD, maskL_get]
 cases l[i]? <;> simp [h]
theorem maskL_length {α : Type} (keep : Nat → Bool) (u : α) (l : List α) : (maskL keep u l).length = l.length := by simp [maskL]
section
variable {n : Nat} {ops : Array Oper} {eff : List Nat} {r : Run} {s : St} {f : Fr} {ρ0 : Rho} {a0 : Act} {w0 : World} {m : Nat} {X : Nat → Prop} {a : Act} {w : World} {ρ : Rho} {g : Look}
def vf (all : List Oper) (o : Oper) (f : Fr) : Fr := { t := maskL (fun i => (tmpsOf all o).contains i) aundef f.t, d := [] }
def va (all : List Oper) (o : Oper) (a : Act) : Act := { tmps := (maskL (fun i => (tmpsOf all o).contains i) undef a.tmps.toList).toArray, defers := [] }
theorem virt (c : Ctx P n ops eff r s f) (hI : Inv ops r base ρ0 s f a0 w0 m X a w ρ g) {i : Nat} {o : Oper} (ho : ops.toList[i]? = some o) (hX : ¬ X i) (hen : ∀ j, tied (befores [] ops.toList) j i = true → X j) :
  InF (res ρ (r.S i).n) (vf ops.toList o (r.F i)) (va ops.toList o a) := by
 have hi : i < ops.toList.length := (List.getElem?_eq_some_iff.1 ho).1
 refine ⟨?_, rfl⟩
 have hlen := (c.flen i (by omega)).1
 refine convs_of_get (by simp [vf, va, maskL_length, hlen, hI.size]) (fun t v hv => ?_)
 simp only [vf, maskL_get] at hv
 simp only [va, maskL_get]
 have ht : t < f.t.length := by
  cases hq : (r.F i).t[t]? with
  | none => rw [hq] at hv; simp at hv
  | some _ => have := (List.getElem?_eq_some_iff.1 hq).1; omega
 have e1 : (r.F i).t[t]? = some ((r.F i).t.getD t aundef) := by rw [List.getD_eq_getElem?_getD, List.getElem?_eq_getElem (by omega)]; rfl
 have e2 : a.tmps.toList[t]? = some (a.tmps.getD t undef) := by
  have : t < a.tmps.toList.length := by simp [hI.size, ht]
  rw [List.getElem?_eq_getElem this]; simp [hI.size, ht]
 rw [e1] at hv
 simp only [Option.map_some, Option.some.injEq] at hv
 rw [e2]
 by_cases hk : (tmpsOf ops.toList o).contains t = true
 ·rw [if_pos hk] at hv
  subst hv
  refine ⟨a.tmps.getD t undef, ?_, by simp only [Option.map_some]; rw [if_pos hk]⟩
  have hmem : t ∈ tmpsOf ops.toList o := by simpa using hk
  by_cases hw : ∃ j q, ops.toList[j]? = some q ∧ q.dst = some t ∧ j < i
  ·obtain ⟨j, q, hq, hd, hji⟩ := hw
   have htie := (c.readsOk ho hq hmem hd).1 hji
   have hXj := hen j htie
   rw [c.lex1 hq hd ht i hji (by omega)]
   exact conv_mono (res_mono (Rho.le.refl ρ) (c.nle (j + 1) i (by omega) (by omega))) _ _ (hI.tm1 j (by omega) hXj q hq t hd ht)
  ·rw [c.lex0 t i (by omega) (fun j hj q hq hd => hw ⟨j, q, hq, hd, hj⟩)]
   refine conv_mono (res_mono (Rho.le.refl ρ) (by have := c.nle 0 i (by omega) (by omega); rw [c.s0] at this; exact this)) _ _ (hI.tm0 t ht (fun j hj hXj q hq hd => ?_))
   by_cases e : j = i
   ·subst e; exact hX hXj
   ·rcases Nat.lt_or_ge j i with h | h
    ·exact hw ⟨j, q, hq, hd, h⟩
    ·exact hX (hI.closed j i hj hXj ((c.readsOk ho hq hmem hd).2 (by omega)))
 ·rw [if_neg hk] at hv
  subst hv
  exact ⟨undef, rfl, by simp only [Option.map_some]; rw [if_neg hk]⟩
theorem vf_agree (all : List Oper) (o : Oper) (f : Fr) : ∀ i ∈ tmpsOf all o, (vf all o f).t.getD i aundef = f.t.getD i aundef := fun i hi => maskL_getD _ _ _ _ (by simpa using hi)
theorem va_agree (all : List Oper) (o : Oper) (a : Act) : ∀ i ∈ tmpsOf all o, (va all o a).tmps.getD i undef = a.tmps.getD i undef := fun i hi => by
 have := maskL_getD (fun i => (tmpsOf all o).contains i) undef a.tmps.toList i (by simpa using hi)
 rw [List.getD_eq_getElem?_getD, List.getD_eq_getElem?_getD] at this
 simp only [va, Array.getD_eq_getD_getElem?, List.getElem?_toArray]
 rw [this]; simp
theorem va_eval (all : List Oper) (o : Oper) (a : Act) : ∀ x ∈ o.op.operands, a.eval x = (va all o a).eval x := by
 intro x hx
 cases x with
 | tmp i => simp only [Act.eval]; exact (va_agree all o a i (mem_tmpsOf hx)).symm
 | _ => rfl
theorem va_wanted (o : Oper) (a : Act) : Region.wanted o (yielded ops a.tmps) = Region.wanted o (yielded ops (va ops.toList o a).tmps) := by
 unfold Region.wanted
 cases hg : o.guard with
 | none => rfl
 | some p =>
  obtain ⟨j, want⟩ := p
  simp only [yielded]
  have e1 : ops[j]? = ops.toList[j]? := by simp
  rw [e1]
  cases hj : ops.toList[j]? with
  | none => rfl
  | some q =>
   simp only [Option.bind_some]
   cases hd : q.dst with
   | none => rfl
   | some i =>
    simp only [Option.bind_some]
    have hi : i ∈ tmpsOf ops.toList o := by
     unfold tmpsOf
     refine List.mem_append_right _ ?_
     simp [hg, hj, hd]
    have h1 := va_agree ops.toList o a i hi
    simp only [Array.getD_eq_getD_getElem?] at h1
    have hs : (va ops.toList o a).tmps.size = a.tmps.size := by simp [va, maskL_length]
    rcases Nat.lt_or_ge i a.tmps.size with hlt | hge
    ·rw [Array.getElem?_eq_getElem hlt, Array.getElem?_eq_getElem (by omega)] at h1 ⊢
     simp only [Option.getD_some] at h1
     rw [h1]
    ·rw [Array.getElem?_eq_none hge, Array.getElem?_eq_none (by omega)]
end
end Go.Vm
