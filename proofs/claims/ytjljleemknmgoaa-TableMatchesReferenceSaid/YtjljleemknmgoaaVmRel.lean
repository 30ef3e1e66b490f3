/-
 Part of the proof that a machine over named lists stands for the program's runs (VmRel). No conditions beyond those that its theorems name.
-/
import Derived.Test.YtjljleemknmgoaaVmDef
namespace Go.Vm
set_option linter.unusedSectionVars false
variable [Facts] [Val] [Sound]
abbrev Rho := Nat → Option (Nat × Nat × Option (Nat × Nat))
mutual
def conv (ρ : Rho) : AV → Option Value
 | .int k n => some (.int k n)
 | .sym k e => some (.int k (e.val Val.σ))
 | .bool b => some (.bool b)
 | .str s => some (.string ⟨s.toArray⟩)
 | .nilp => some (.pointer none)
 | .ptr b o => match ρ b with
  | some (B, δ, _) => some (.pointer (some ⟨B, δ + o, none⟩))
  | none => none
 | .nils => some (.slice none 0 0)
 | .esl a => some (.slice (some a) 0 0)
 | .slc b o len cap => match ρ b with
  | some (B, δ, none) => some (.slice (some ⟨B, δ + o, none⟩) len cap)
  | some (B, δ, some (z, k)) => if o / z + cap ≤ k then some (.slice (some ⟨B, δ + (if len = 0 ∧ o / z = k then 0 else o), none⟩) len (k - o / z)) else none
  | none => none
 | .nilm => some (.map none)
 | .mp b => match ρ b with
  | some (B, _, _) => some (.map (some B))
  | none => none
 | .nilf => some .nilFunc
 | .fn f a c => match convs ρ a, convs ρ c with
  | some a', some c' => some (.func (.func f) a'.toArray c'.toArray)
  | _, _ => none
 | .yld b => match ρ b with
  | some (B, _, _) => some (.func (.yield B) #[] #[])
  | none => none
 | .nili => some .nilIface
 | .ifc t v => match conv ρ v with
  | some v' => some (.iface t v')
  | none => none
 | .agg cs => match convs ρ cs with
  | some l => some (.agg l.toArray)
  | none => none
 | .tup cs => match convs ρ cs with
  | some l => some (.tuple l.toArray)
  | none => none
def convs (ρ : Rho) : List AV → Option (List Value)
 | [] => some []
 | v :: vs => match conv ρ v, convs ρ vs with
  | some a, some l => some (a :: l)
  | _, _ => none
end
def Rho.le (ρ ρ' : Rho) : Prop := ∀ b x, ρ b = some x → ρ' b = some x
theorem Rho.le.refl (ρ : Rho) : ρ.le ρ := fun _ _ h => h
theorem Rho.le.trans {a b c : Rho} (h : a.le b) (h' : b.le c) : a.le c := fun i x e => h' i x (h i x e)
mutual
theorem conv_mono {ρ ρ' : Rho} (h : ρ.le ρ') : ∀ (v : AV) (x : Value), conv ρ v = some x → conv ρ' v = some x
 | .int _ _, x, e => by simpa [conv] using e
 | .sym _ _, x, e => by simpa [conv] using e
 | .bool _, x, e => by simpa [conv] using e
 | .str _, x, e => by simpa [conv] using e
 | .nilp, x, e => by simpa [conv] using e
 | .nils, x, e => by simpa [conv] using e
 | .esl _, x, e => by simpa [conv] using e
 | .nilm, x, e => by simpa [conv] using e
 | .nilf, x, e => by simpa [conv] using e
 | .nili, x, e => by simpa [conv] using e
 | .ptr b o, x, e => by
  simp only [conv] at e ⊢
  cases hb : ρ b with
  | none => rw [hb] at e; simp at e
  | some p => rw [hb] at e; rw [h b p hb]; exact e
 | .slc b o l c, x, e => by
  simp only [conv] at e ⊢
  cases hb : ρ b with
  | none => rw [hb] at e; simp at e
  | some p => rw [hb] at e; rw [h b p hb]; exact e
 | .mp b, x, e => by
  simp only [conv] at e ⊢
  cases hb : ρ b with
  | none => rw [hb] at e; simp at e
  | some p => rw [hb] at e; rw [h b p hb]; exact e
 | .yld b, x, e => by
  simp only [conv] at e ⊢
  cases hb : ρ b with
  | none => rw [hb] at e; simp at e
  | some p => rw [hb] at e; rw [h b p hb]; exact e
 | .fn f a c, x, e => by
  simp only [conv] at e ⊢
  cases ha : convs ρ a with
  | none => rw [ha] at e; simp at e
  | some a' => cases hc : convs ρ c with
   | none => rw [ha, hc] at e; simp at e
   | some c' => rw [convs_mono h a a' ha, convs_mono h c c' hc]; rw [ha, hc] at e; exact e
 | .ifc t v, x, e => by
  simp only [conv] at e ⊢
  cases hv : conv ρ v with
  | none => rw [hv] at e; simp at e
  | some v' => rw [conv_mono h v v' hv]; rw [hv] at e; exact e
 | .agg cs, x, e => by
  simp only [conv] at e ⊢
  cases hv : convs ρ cs with
  | none => rw [hv] at e; simp at e
  | some v' => rw [convs_mono h cs v' hv]; rw [hv] at e; exact e
 | .tup cs, x, e => by
  simp only [conv] at e ⊢
  cases hv : convs ρ cs with
  | none => rw [hv] at e; simp at e
  | some v' => rw [convs_mono h cs v' hv]; rw [hv] at e; exact e
theorem convs_mono {ρ ρ' : Rho} (h : ρ.le ρ') : ∀ (v : List AV) (x : List Value), convs ρ v = some x → convs ρ' v = some x
 | [], x, e => by simpa [convs] using e
 | v :: vs, x, e => by
  simp only [convs] at e ⊢
  cases ha : conv ρ v with
  | none => rw [ha] at e; simp at e
  | some a' => cases hc : convs ρ vs with
   | none => rw [ha, hc] at e; simp at e
   | some c' => rw [conv_mono h v a' ha, convs_mono h vs c' hc]; rw [ha, hc] at e; exact e
end
mutual
theorem conv_flat {ρ ρ' : Rho} : ∀ (v : AV) (x : Value), v.flat = true → conv ρ v = some x → conv ρ' v = some x
 | .int _ _, x, _, e => by simpa [conv] using e
 | .sym _ _, x, _, e => by simpa [conv] using e
 | .bool _, x, _, e => by simpa [conv] using e
 | .str _, x, _, e => by simpa [conv] using e
 | .nilp, x, _, e => by simpa [conv] using e
 | .nils, x, _, e => by simpa [conv] using e
 | .esl _, x, _, e => by simpa [conv] using e
 | .nilm, x, _, e => by simpa [conv] using e
 | .nilf, x, _, e => by simpa [conv] using e
 | .nili, x, _, e => by simpa [conv] using e
 | .ptr b o, x, f, e => by simp [AV.flat] at f
 | .slc b o l c, x, f, e => by simp [AV.flat] at f
 | .mp b, x, f, e => by simp [AV.flat] at f
 | .yld b, x, f, e => by simp [AV.flat] at f
 | .fn _ a c, x, f, e => by
  simp only [AV.flat, Bool.and_eq_true] at f
  simp only [conv] at e ⊢
  cases ha : convs ρ a with
  | none => rw [ha] at e; simp at e
  | some a' => cases hc : convs ρ c with
   | none => rw [ha, hc] at e; simp at e
   | some c' => rw [convs_flat a a' f.1 ha, convs_flat c c' f.2 hc]; rw [ha, hc] at e; exact e
 | .ifc t v, x, f, e => by
  simp only [AV.flat] at f
  simp only [conv] at e ⊢
  cases hv : conv ρ v with
  | none => rw [hv] at e; simp at e
  | some v' => rw [conv_flat v v' f hv]; rw [hv] at e; exact e
 | .agg cs, x, f, e => by
  simp only [AV.flat] at f
  simp only [conv] at e ⊢
  cases hv : convs ρ cs with
  | none => rw [hv] at e; simp at e
  | some v' => rw [convs_flat cs v' f hv]; rw [hv] at e; exact e
 | .tup cs, x, f, e => by
  simp only [AV.flat] at f
  simp only [conv] at e ⊢
  cases hv : convs ρ cs with
  | none => rw [hv] at e; simp at e
  | some v' => rw [convs_flat cs v' f hv]; rw [hv] at e; exact e
theorem convs_flat {ρ ρ' : Rho} : ∀ (v : List AV) (x : List Value), AV.flats v = true → convs ρ v = some x → convs ρ' v = some x
 | [], x, _, e => by simpa [convs] using e
 | v :: vs, x, f, e => by
  simp only [AV.flats, Bool.and_eq_true] at f
  simp only [convs] at e ⊢
  cases ha : conv ρ v with
  | none => rw [ha] at e; simp at e
  | some a' => cases hc : convs ρ vs with
   | none => rw [ha, hc] at e; simp at e
   | some c' => rw [conv_flat v a' f.1 ha, convs_flat vs c' f.2 hc]; rw [ha, hc] at e; exact e
end
theorem convs_cons {ρ : Rho} {v : AV} {vs : List AV} {l : List Value} : convs ρ (v :: vs) = some l ↔ ∃ a r, conv ρ v = some a ∧ convs ρ vs = some r ∧ l = a :: r := by
 simp only [convs]
 cases conv ρ v <;> cases convs ρ vs <;> simp [eq_comm]
theorem convs_length {ρ : Rho} : ∀ {vs : List AV} {l : List Value}, convs ρ vs = some l → l.length = vs.length
 | [], l, h => by simp [convs] at h; simp [h]
 | v :: vs, l, h => by
  obtain ⟨a, r, _, h2, rfl⟩ := convs_cons.1 h
  simp [convs_length h2]
theorem convs_get {ρ : Rho} : ∀ {vs : List AV} {l : List Value}, convs ρ vs = some l → ∀ (i : Nat) (v : AV), vs[i]? = some v → ∃ x, conv ρ v = some x ∧ l[i]? = some x
 | [], l, h, i, v, hi => by simp at hi
 | u :: vs, l, h, i, v, hi => by
  obtain ⟨a, r, h1, h2, rfl⟩ := convs_cons.1 h
  cases i with
  | zero => simp at hi; subst hi; exact ⟨a, h1, rfl⟩
  | succ i => simp at hi ⊢; exact convs_get h2 i v hi
theorem convs_of_get {ρ : Rho} : ∀ {vs : List AV} {l : List Value}, l.length = vs.length → (∀ (i : Nat) (v : AV), vs[i]? = some v → ∃ x, conv ρ v = some x ∧ l[i]? = some x) → convs ρ vs = some l
 | [], l, h, _ => by simp at h; simp [convs, h]
 | u :: vs, l, h, k => by
  cases l with
  | nil => simp at h
  | cons a r =>
   obtain ⟨x, h1, h2⟩ := k 0 u rfl
   simp at h2
   subst h2
   refine convs_cons.2 ⟨_, r, h1, convs_of_get (by simpa using h) (fun i v hi => ?_), rfl⟩
   obtain ⟨y, h3, h4⟩ := k (i + 1) v (by simpa using hi)
   exact ⟨y, h3, by simpa using h4⟩
theorem convs_append {ρ : Rho} : ∀ {a b : List AV} {x y : List Value}, convs ρ a = some x → convs ρ b = some y → convs ρ (a ++ b) = some (x ++ y)
 | [], b, x, y, h, k => by simp [convs] at h; simp [h, k]
 | v :: a, b, x, y, h, k => by
  obtain ⟨u, r, h1, h2, rfl⟩ := convs_cons.1 h
  exact convs_cons.2 ⟨u, r ++ y, h1, convs_append h2 k, rfl⟩
theorem convs_replicate {ρ : Rho} (n : Nat) {v : AV} {x : Value} (h : conv ρ v = some x) : convs ρ (List.replicate n v) = some (List.replicate n x) := by
 induction n with
 | zero => rfl
 | succ n ih => exact convs_cons.2 ⟨x, _, h, ih, rfl⟩
theorem convs_drop {ρ : Rho} : ∀ (n : Nat) {vs : List AV} {l : List Value}, convs ρ vs = some l → convs ρ (vs.drop n) = some (l.drop n)
 | 0, _, _, h => h
 | n + 1, [], l, h => by simp [convs] at h; simp [h, convs]
 | n + 1, v :: vs, l, h => by
  obtain ⟨a, r, _, h2, rfl⟩ := convs_cons.1 h
  exact convs_drop n h2
theorem convs_take {ρ : Rho} : ∀ (n : Nat) {vs : List AV} {l : List Value}, convs ρ vs = some l → convs ρ (vs.take n) = some (l.take n)
 | 0, _, _, _ => by simp [convs]
 | n + 1, [], l, h => by simp [convs] at h; simp [h, convs]
 | n + 1, v :: vs, l, h => by
  obtain ⟨a, r, h1, h2, rfl⟩ := convs_cons.1 h
  exact convs_cons.2 ⟨a, r.take n, h1, convs_take n h2, rfl⟩
theorem convs_set {ρ : Rho} {v : AV} {x : Value} (hv : conv ρ v = some x) : ∀ (n : Nat) {vs : List AV} {l : List Value}, convs ρ vs = some l → convs ρ (vs.set n v) = some (l.set n x)
 | _, [], l, h => by simp [convs] at h; simp [h, convs]
 | 0, u :: vs, l, h => by
  obtain ⟨a, r, h1, h2, rfl⟩ := convs_cons.1 h
  exact convs_cons.2 ⟨x, r, hv, h2, rfl⟩
 | n + 1, u :: vs, l, h => by
  obtain ⟨a, r, h1, h2, rfl⟩ := convs_cons.1 h
  exact convs_cons.2 ⟨a, r.set n x, h1, convs_set hv n h2, rfl⟩
theorem conv_undef (ρ : Rho) : conv ρ aundef = some undef := rfl
theorem convs_getD {ρ : Rho} {vs : List AV} {l : List Value} (h : convs ρ vs = some l) (i : Nat) : conv ρ (vs.getD i aundef) = some (l.getD i undef) := by
 rw [List.getD_eq_getElem?_getD, List.getD_eq_getElem?_getD]
 cases hi : vs[i]? with
 | some v => obtain ⟨x, h1, h2⟩ := convs_get h i v hi; simp [h2, h1]
 | none =>
  have : l[i]? = none := by
   have hl := convs_length h
   rw [List.getElem?_eq_none_iff] at hi ⊢
   omega
  simp [this, conv_undef]
theorem conv_cells {ρ : Rho} {v : AV} {x : Value} (h : conv ρ v = some x) : convs ρ v.cells = some x.cells.toList := by
 cases v <;> simp only [AV.cells] <;> first
  | (simp only [conv] at h; revert h; cases hc : convs ρ _ <;> intro h <;> simp at h <;> subst h <;> simp [Value.cells]; done)
  | (refine convs_cons.2 ⟨x, [], h, rfl, ?_⟩
     simp only [conv] at h
     revert h
     repeat' split
     all_goals (intro h; simp at h; try (subst h; rfl)))
theorem conv_isCell {ρ : Rho} {v : AV} {x : Value} (h : conv ρ v = some x) (hc : v.isCell = true) : x.oneCell' = true := by
 cases v <;> simp only [AV.isCell] at hc <;> first
  | (cases hc; done)
  | (simp only [conv] at h
     revert h
     repeat' split
     all_goals (intro h; simp at h; try (subst h; rfl)))
theorem ofScalar_conv {x : Value} {v : AV} (ρ : Rho) (h : ofScalar x = some v) : conv ρ v = some x := by
 unfold ofScalar at h
 split at h <;> simp at h <;> subst h <;> simp [conv]
theorem ofScalars_conv (ρ : Rho) : ∀ {xs : List Value} {vs : List AV}, ofScalars xs = some vs → convs ρ vs = some xs
 | [], vs, h => by simp [ofScalars] at h; subst h; rfl
 | x :: xs, vs, h => by
  simp only [ofScalars] at h
  split at h
  ·rename_i a as h1 h2
   simp at h; subst h
   exact convs_cons.2 ⟨x, xs, ofScalar_conv ρ h1, ofScalars_conv ρ h2, rfl⟩
  ·simp at h
theorem ofConst_conv {x : Value} {v : AV} (ρ : Rho) (h : ofConst x = some v) : conv ρ v = some x := by
 unfold ofConst at h
 split at h
 ·rename_i cs
  cases hs : ofScalars cs.toList with
  | none => rw [hs] at h; simp at h
  | some l => rw [hs] at h; simp at h; subst h; simp [conv, ofScalars_conv ρ hs]
 ·rename_i vs
  split at h
  ·rename_i he; simp at h; subst h
   have : vs = #[] := by simpa using he
   subst this; rfl
  ·simp at h
 ·exact ofScalar_conv ρ h
theorem aEval_conv {ρ : Rho} {t : List AV} {a : Act} (h : convs ρ t = some a.tmps.toList) {x : Operand} {v : AV} (hx : aEval t x = some v) : conv ρ v = some (a.eval x) := by
 cases x with
 | tmp i =>
  simp [aEval, getF_eq] at hx
  rw [← hx]
  have := convs_getD h i
  simp only [List.getD_eq_getElem?_getD] at this
  rw [this]
  simp [Act.eval, Array.getD_eq_getD_getElem?]
 | const c => exact ofConst_conv ρ hx
 | global g => simp [aEval, getF_eq] at hx
 | func f => simp [aEval, getF_eq] at hx; subst hx; simp [conv, convs, Act.eval]
theorem aEvals_conv {ρ : Rho} {t : List AV} {a : Act} (h : convs ρ t = some a.tmps.toList) : ∀ {xs : List Operand} {vs : List AV}, aEvals t xs = some vs → convs ρ vs = some (xs.map a.eval)
 | [], vs, hx => by simp [aEvals] at hx; subst hx; rfl
 | x :: xs, vs, hx => by
  simp only [aEvals] at hx
  split at hx
  ·rename_i v l h1 h2
   simp at hx; subst hx
   exact convs_cons.2 ⟨_, _, aEval_conv h h1, aEvals_conv h h2, rfl⟩
  ·simp at hx
end Go.Vm
