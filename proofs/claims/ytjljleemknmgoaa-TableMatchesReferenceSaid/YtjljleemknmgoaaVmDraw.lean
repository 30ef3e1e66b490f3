/-
 Part of the proof that a machine over named lists stands for the program's runs (VmDraw). No conditions beyond those that its theorems name.
-/
import Derived.Test.YtjljleemknmgoaaVmMach3
namespace Go.Vm
set_option linter.unusedSectionVars false
variable [Facts] [Val] [Sound]
variable {P : Program} {base : Nat}
theorem aEvals_congr {t t' : List AV} : ∀ {xs : List Operand}, (∀ x ∈ xs, aEval t x = aEval t' x) → aEvals t xs = aEvals t' xs
 | [], _ => rfl
 | x :: xs, h => by simp only [aEvals]; rw [h x (by simp), aEvals_congr (fun y hy => h y (by simp [hy]))]
theorem partsA_congr {t t' : List AV} : ∀ {ps : List (Nat × Operand)}, (∀ x ∈ ps.map (·.2), aEval t x = aEval t' x) → partsA t ps = partsA t' ps
 | [], _ => rfl
 | (i, x) :: ps, h => by simp only [partsA]; rw [h x (by simp), partsA_congr (fun y hy => h y (by simp only [List.map_cons, List.mem_cons]; exact .inr hy))]
theorem optA_congr {t t' : List AV} {x : Option Operand} (h : ∀ y ∈ x.toArray, aEval t y = aEval t' y) : optA t x = optA t' x := by
 cases x with
 | none => rfl
 | some y => simp only [optA]; rw [h y (by simp)]
theorem prim_congr {t t' : List AV} {s : St} {op : Op} (h : ∀ x ∈ op.operands, aEval t x = aEval t' x) : prim P t s op = prim P t' s op := by
 cases op <;> simp only [Op.operands] at h <;> simp only [prim]
 case move x => rw [h x (by simp)]
 case assign x => rw [h x (by simp)]
 case pick c a b => rw [h c (by simp), h a (by simp), h b (by simp)]
 case box e x => rw [h x (by simp)]
 case build ty ps => rw [partsA_congr (fun x hx => h x (by simpa using hx))]
 case buildSlice ty n ps => rw [partsA_congr (fun x hx => h x (by simpa using hx))]
 case load ty x => rw [h x (by simp)]
 case store ty a x => rw [h a (by simp), h x (by simp)]
 case nilCheck x => rw [h x (by simp)]
 case binOp op ty x y ty2 => rw [h x (by simp), h y (by simp)]
 case unOp op ty x => rw [h x (by simp)]
 case convert a b x => rw [h x (by simp)]
 case makeFunc fn f c =>
  cases fn
  case func g => simp only; rw [aEvals_congr (fun x hx => h x (by simp; left; simpa using hx)), aEvals_congr (fun x hx => h x (by simp; right; simpa using hx))]
  all_goals rfl
 case makeMap ty r =>
  cases r with
  | none => rfl
  | some x => simp only; rw [h x (by simp)]
 case makeSlice ty l c => rw [h l (by simp), h c (by simp)]
 case slice ty x lo hi mx =>
  rw [h x (by simp), optA_congr (x := lo) (fun y hy => h y (by simp at hy ⊢; simp [hy])), optA_congr (x := hi) (fun y hy => h y (by simp at hy ⊢; simp [hy])), optA_congr (x := mx) (fun y hy => h y (by simp at hy ⊢; simp [hy]))]
 case fieldAddr ty x f => rw [h x (by simp)]
 case field ty x f => rw [h x (by simp)]
 case indexAddr ty x i => rw [h x (by simp), h i (by simp)]
 case index ty x i => rw [h x (by simp), h i (by simp)]
 case lookup ty x i ok => rw [h x (by simp), h i (by simp)]
 case mapUpdate ty m k x => rw [h m (by simp), h k (by simp), h x (by simp)]
 case insert ty m k x => rw [h m (by simp), h k (by simp), h x (by simp)]
 case range ty x => rw [h x (by simp)]
 case next it b => rw [h it (by simp)]
 case extract x i => rw [h x (by simp)]
 case call c =>
  cases hc : c.callee with
  | builtin b =>
   rw [aEvals_congr (fun x hx => h x (by simp only [Call.operands, hc]; simpa using hx))]
  | _ => rfl
theorem evP_congr {n : Nat} {o : Oper} {f f' : Fr} {s : St} (h : ∀ x ∈ o.op.operands, aEval f.t x = aEval f'.t x) : evP P n o f s = evP P n o f' s := by
 cases n with
 | zero => rfl
 | succ n =>
  simp only [evP]
  have hp := prim_congr (P := P) (s := s) h
  cases ho : o.op <;> rw [ho] at h hp <;> simp only <;> try exact hp
  rename_i c
  cases hc : c.callee <;> simp only <;> try exact hp
  rename_i g
  simp only [Op.operands, Call.operands, hc] at h
  rw [h g (by simp), aEvals_congr (fun x hx => h x (by simp; right; simpa using hx))]
theorem mem_tmpsOf {all : List Oper} {o : Oper} {i : Tmp} (h : Operand.tmp i ∈ o.op.operands) : i ∈ tmpsOf all o := by
 unfold tmpsOf
 refine List.mem_append_left _ ?_
 rw [List.mem_filterMap]
 exact ⟨.tmp i, by simpa using h, rfl⟩
theorem aEval_agree {t t' : List AV} {all : List Oper} {o : Oper} (h : ∀ i ∈ tmpsOf all o, t.getD i aundef = t'.getD i aundef) : ∀ x ∈ o.op.operands, aEval t x = aEval t' x := by
 intro x hx
 cases x with
 | tmp i => simp only [aEval, getF_eq, ← List.getD_eq_getElem?_getD]; rw [h i (mem_tmpsOf hx)]
 | _ => rfl
theorem wanted_agree {t t' : List AV} {all : List Oper} {o : Oper} (hl : t.length = t'.length) (h : ∀ i ∈ tmpsOf all o, t.getD i aundef = t'.getD i aundef) : wantedA all t o = wantedA all t' o := by
 unfold wantedA
 simp only [getF_eq]
 cases hg : o.guard with
 | none => rfl
 | some p =>
  obtain ⟨j, want⟩ := p
  simp only
  cases hj : all[j]? with
  | none => rfl
  | some q =>
   simp only
   cases hd : q.dst with
   | none => rfl
   | some i =>
    simp only
    have hi : i ∈ tmpsOf all o := by
     unfold tmpsOf
     refine List.mem_append_right _ ?_
     simp [hg, hj, hd]
    have := h i hi
    rw [List.getD_eq_getElem?_getD, List.getD_eq_getElem?_getD] at this
    rcases Nat.lt_or_ge i t.length with hlt | hge
    ·rw [List.getElem?_eq_getElem hlt, List.getElem?_eq_getElem (by omega)] at this ⊢
     simp only [Option.getD_some] at this
     rw [this]
    ·rw [List.getElem?_eq_none hge, List.getElem?_eq_none (by omega)]
theorem tied_step : ∀ (l : List Nat) (acc : List Nat) (m : Nat) (j : Nat), (l.foldl (fun m k => m ||| 2 ^ k ||| acc.getD k 0) m).testBit j = true ↔ m.testBit j = true ∨ ∃ k ∈ l, j = k ∨ (acc.getD k 0).testBit j = true
 | [], acc, m, j => by simp
 | k :: l, acc, m, j => by
  simp only [List.foldl_cons]
  rw [tied_step l acc _ j]
  simp only [Nat.testBit_or, Nat.testBit_two_pow, Bool.or_eq_true, decide_eq_true_eq, List.mem_cons, exists_eq_or_imp]
  constructor
  ·rintro (((h | h) | h) | h)
   ·exact .inl h
   ·exact .inr (.inl (.inl h.symm))
   ·exact .inr (.inl (.inr h))
   ·exact .inr (.inr h)
  ·rintro (h | (h | h) | h)
   ·exact .inl (.inl (.inl h))
   ·exact .inl (.inl (.inr h.symm))
   ·exact .inl (.inr h)
   ·exact .inr h
theorem befores_acc : ∀ (l : List Oper) (acc : List Nat), ∃ r, befores acc l = acc ++ r ∧ r.length = l.length
 | [], acc => ⟨[], by simp [befores], rfl⟩
 | o :: os, acc => by
  obtain ⟨r, h1, h2⟩ := befores_acc os (acc ++ [(boundTo o).foldl (fun m j => m ||| 2 ^ j ||| acc.getD j 0) 0])
  exact ⟨((boundTo o).foldl (fun m j => m ||| 2 ^ j ||| acc.getD j 0) 0) :: r, by simp only [befores]; rw [h1]; simp, by simp [h2]⟩
theorem befores_get : ∀ (l : List Oper) (acc : List Nat) (i : Nat) (o : Oper), l[i]? = some o → (∀ k o', l[k]? = some o' → ∀ j ∈ boundTo o', j < acc.length + k) → ∀ j, ((befores acc l).getD (acc.length + i) 0).testBit j = true ↔ ∃ k ∈ boundTo o, j = k ∨ ((befores acc l).getD k 0).testBit j = true
 | [], acc, i, o, h, _, j => by simp at h
 | o' :: os, acc, 0, o, h, he, j => by
  simp at h; subst h
  simp only [befores]
  obtain ⟨r, h1, h2⟩ := befores_acc os (acc ++ [(boundTo o').foldl (fun m j => m ||| 2 ^ j ||| acc.getD j 0) 0])
  have e1 : (befores (acc ++ [(boundTo o').foldl (fun m j => m ||| 2 ^ j ||| acc.getD j 0) 0]) os).getD (acc.length + 0) 0 = (boundTo o').foldl (fun m j => m ||| 2 ^ j ||| acc.getD j 0) 0 := by
   rw [h1]; simp [List.getD_eq_getElem?_getD]
  rw [e1, tied_step]
  have hk : ∀ k ∈ boundTo o', (befores (acc ++ [(boundTo o').foldl (fun m j => m ||| 2 ^ j ||| acc.getD j 0) 0]) os).getD k 0 = acc.getD k 0 := by
   intro k hk
   have hlt : k < acc.length := by simpa using he 0 o' rfl k hk
   rw [h1, List.getD_eq_getElem?_getD, List.getD_eq_getElem?_getD, List.append_assoc, List.getElem?_append_left hlt]
  simp only [Nat.zero_testBit, Bool.false_eq_true, false_or]
  constructor
  ·rintro ⟨k, h3, h4⟩; exact ⟨k, h3, by rw [hk k h3]; exact h4⟩
  ·rintro ⟨k, h3, h4⟩; exact ⟨k, h3, by rw [hk k h3] at h4; exact h4⟩
 | o' :: os, acc, i + 1, o, h, he, j => by
  simp only [befores]
  have := befores_get os (acc ++ [(boundTo o').foldl (fun m j => m ||| 2 ^ j ||| acc.getD j 0) 0]) i o (by simpa using h) (fun k o2 h2 x hx => by
   have := he (k + 1) o2 (by simpa using h2) x hx
   simp; omega) j
  simp only [List.length_append, List.length_cons, List.length_nil, Nat.zero_add] at this
  rw [show acc.length + (i + 1) = acc.length + 1 + i by omega]
  exact this
theorem edgesOk_spec {all : List Oper} (h : edgesOk all = true) {k : Nat} {o : Oper} (hk : all[k]? = some o) : ∀ j ∈ boundTo o, j < k := by
 unfold edgesOk at h
 rw [List.all_eq_true] at h
 have := h (o, k) (by rw [List.mem_zipIdx_iff_getElem?]; simpa using hk)
 simp only [List.all_eq_true, decide_eq_true_eq] at this
 exact this
theorem tied_iff {all : List Oper} (h : edgesOk all = true) {i : Nat} {o : Oper} (hi : all[i]? = some o) (j : Nat) : tied (befores [] all) j i = true ↔ ∃ k ∈ boundTo o, j = k ∨ tied (befores [] all) j k = true := by
 have := befores_get all [] i o hi (fun k o' hk x hx => by simpa using edgesOk_spec h hk x hx) j
 simpa [tied] using this
theorem tied_lt {all : List Oper} (h : edgesOk all = true) : ∀ (i : Nat) (j : Nat), i < all.length → tied (befores [] all) j i = true → j < i := by
 intro i
 induction i using Nat.strongRecOn with
 | _ i ih =>
  intro j hi ht
  have ho : all[i]? = some all[i] := List.getElem?_eq_getElem hi
  obtain ⟨k, h1, h2⟩ := (tied_iff h ho j).1 ht
  have hk := edgesOk_spec h ho k h1
  rcases h2 with e | e
  ·omega
  ·have := ih k hk j (by omega) e; omega
end Go.Vm
