/-
 Part of the proof that a machine over named lists stands for the program's runs (VmPure). No conditions beyond those that its theorems name.
-/
import Derived.Test.YtjljleemknmgoaaVmRel
import Derived.Laws.StructEq
import Derived.ChangeKeysEq
namespace Go.Vm
set_option linter.unusedSectionVars false
variable [Facts] [Val] [Sound]
variable {P : Program}
theorem sizeT_run {t : TypeId} {n : Nat} (h : sizeT P t = some n) (w : World) : (sizeOf t).run P w = .ok n w := by
 unfold sizeT at h
 split at h
 ·rename_i i hi; simp at h; subst h; simp [sizeOf, typeInfo, hi]
 ·simp at h
theorem isAggT_run {t : TypeId} {b : Bool} (h : isAggT P t = some b) (w : World) : (isAgg t).run P w = .ok b w := by
 unfold isAggT at h
 split at h
 ·rename_i fs hi; simp at h; subst h; simp [isAgg, run_underlying hi]
 ·rename_i n e hi; simp at h; subst h; simp [isAgg, run_underlying hi]
 ·rename_i d hd h1 h2
  simp at h; subst h
  simp only [isAgg, Sem.run_bind, run_underlying h2, Result.andThen_ok]
  cases d <;> first | rfl | (exact absurd rfl (hd _)) | (exact absurd rfl (h1 _ _)) | skip
  all_goals simp_all
 ·simp at h
theorem zeroOf_run {ρ : Rho} {t : TypeId} {v : AV} (h : zeroOf P t = some v) (w : World) : ∃ z, (zeroValue t).run P w = .ok z w ∧ conv ρ v = some z := by
 unfold zeroOf at h
 split at h
 ·rename_i i hi
  split at h
  ·rename_i z hz
   exact ⟨z, by simp [zeroValue, typeInfo, hi, hz], ofConst_conv ρ h⟩
  ·simp at h
 ·simp at h
theorem part_run {ρ : Rho} {t : TypeId} {cs : List AV} {off : Nat} {v : AV} {l : List Value} (h : partT P t cs off = some v) (hc : convs ρ cs = some l) (w : World) :
  ∃ x, (part t l.toArray off).run P w = .ok x w ∧ conv ρ v = some x := by
 unfold partT at h
 split at h
 ·rename_i n h1 h2
  simp at h; subst h
  refine ⟨.agg ((l.drop off).take n).toArray, ?_, by simp [conv, convs_take n (convs_drop off hc)]⟩
  simp only [part, Sem.run_bind, isAggT_run h1, Result.andThen_ok, sizeT_run h2, if_true, Sem.run_pure]
  congr 2
  apply Array.ext'
  simp
 ·rename_i h1
  obtain ⟨x, hx, hl⟩ := convs_get hc off v h
  refine ⟨x, ?_, hx⟩
  simp only [part, Sem.run_bind, isAggT_run h1, Result.andThen_ok]
  simp [hl]
 ·simp at h
theorem eqFields_run {ρ : Rho} {d D : Nat} (ih : ∀ (t : TypeId) (x y : AV) (r : Bool) (x' y' : Value), eqT P d t x y = some r → conv ρ x = some x' → conv ρ y = some y' → ∀ w, (Op.equalIn D t x' y').run P w = .ok r w) :
  ∀ (fs : List Field) (xs ys : List AV) (r : Bool) (xl yl : List Value), eqFields P (eqT P d) fs xs ys = some r → convs ρ xs = some xl → convs ρ ys = some yl →
   ∀ w, (Op.eqFields D xl.toArray yl.toArray fs).run P w = .ok r w
 | [], xs, ys, r, xl, yl, h, _, _, w => by simp [eqFields] at h; subst h; simp [Op.eqFields]
 | f :: fs, xs, ys, r, xl, yl, h, hx, hy, w => by
  simp only [eqFields] at h
  split at h
  ·simp at h
  ·rename_i hn
   split at h
   ·rename_i a b ha hb
    obtain ⟨a', ra, ca⟩ := part_run ha hx w
    obtain ⟨b', rb, cb⟩ := part_run hb hy w
    simp only [Op.eqFields, ne_eq, hn, not_false_eq_true, if_true, Sem.run_bind, ra, rb, Result.andThen_ok]
    split at h
    ·rename_i he
     rw [ih _ _ _ _ _ _ he ca cb w]
     simp
     exact eqFields_run ih fs xs ys r xl yl h hx hy w
    ·rename_i q he
     cases r with
     | true => exact absurd h (he)
     | false => rw [ih _ _ _ _ _ _ h ca cb w]; simp
   ·simp at h
theorem eqElems_run {ρ : Rho} {d D : Nat} (ih : ∀ (t : TypeId) (x y : AV) (r : Bool) (x' y' : Value), eqT P d t x y = some r → conv ρ x = some x' → conv ρ y = some y' → ∀ w, (Op.equalIn D t x' y').run P w = .ok r w) (e : TypeId) (c : Nat) :
  ∀ (is : List Nat) (xs ys : List AV) (r : Bool) (xl yl : List Value), eqElems P (eqT P d) e c xs ys is = some r → convs ρ xs = some xl → convs ρ ys = some yl →
   ∀ w, (Op.eqItems D e c xl.toArray yl.toArray is).run P w = .ok r w
 | [], xs, ys, r, xl, yl, h, _, _, w => by simp [eqElems] at h; subst h; simp [Op.eqItems]
 | i :: is, xs, ys, r, xl, yl, h, hx, hy, w => by
  simp only [eqElems] at h
  split at h
  ·rename_i a b ha hb
   obtain ⟨a', ra, ca⟩ := part_run ha hx w
   obtain ⟨b', rb, cb⟩ := part_run hb hy w
   simp only [Op.eqItems, Sem.run_bind, ra, rb, Result.andThen_ok]
   split at h
   ·rename_i he
    rw [ih _ _ _ _ _ _ he ca cb w]
    simp
    exact eqElems_run ih e c is xs ys r xl yl h hx hy w
   ·rename_i q he
    cases r with
    | true => exact absurd h (he)
    | false => rw [ih _ _ _ _ _ _ h ca cb w]; simp
  ·simp at h
theorem eqT_run {ρ : Rho} : ∀ (d D : Nat) (t : TypeId) (x y : AV) (r : Bool) (x' y' : Value), d ≤ D → eqT P d t x y = some r → conv ρ x = some x' → conv ρ y = some y' → ∀ w, (Op.equalIn D t x' y').run P w = .ok r w
 | 0, D, t, x, y, r, x', y', _, h, _, _, w => by simp [eqT] at h
 | d + 1, 0, t, x, y, r, x', y', hd, h, _, _, w => by omega
 | d + 1, D + 1, t, x, y, r, x', y', hd, h, hx, hy, w => by
  have ih := eqT_run (ρ := ρ) d D
  simp only [eqT] at h
  split at h
  ·rename_i k k1 a k2 b hu
   simp [conv] at hx hy; subst hx; subst hy
   split at h
   ·rename_i hk; simp at h; subst h; subst hk; exact run_equalIn_int w D t k1 k a b hu
   ·simp at h
  ·rename_i a b hu
   simp [conv] at hx hy; subst hx; subst hy; simp at h; subst h
   exact run_equalIn_bool' w D t a b hu
  ·rename_i a b hu
   simp [conv] at hx hy; subst hx; subst hy; simp at h; subst h
   rw [run_equalIn_string w D t _ _ hu, ByteArray.toList_eq, ByteArray.toList_eq]
  all_goals first
   | (rename_i fields xs ys hu
      split at h
      ·simp at h
      ·rename_i hs
       simp only [conv] at hx hy
       cases hxs : convs ρ xs with
       | none => rw [hxs] at hx; simp at hx
       | some xl =>
        cases hys : convs ρ ys with
        | none => rw [hys] at hy; simp at hy
        | some yl =>
         rw [hxs] at hx; rw [hys] at hy; simp at hx hy; subst hx; subst hy
         have hf : P.fieldsOf t = fields := by simp [Program.fieldsOf, hu]
         rw [run_equalIn_struct w D t _ _ (by rw [hf]; exact hu) (by simpa using hs), hf]
         exact eqFields_run (fun t x y r x' y' h1 h2 h3 w => ih t x y r x' y' (by omega) h1 h2 h3 w) fields.toList xs ys r xl yl h hxs hys w)
   | (rename_i n e xs ys hu
      split at h
      ·rename_i inf hi
       simp only [conv] at hx hy
       cases hxs : convs ρ xs with
       | none => rw [hxs] at hx; simp at hx
       | some xl =>
        cases hys : convs ρ ys with
        | none => rw [hys] at hy; simp at hy
        | some yl =>
         rw [hxs] at hx; rw [hys] at hy; simp at hx hy; subst hx; subst hy
         rw [run_equalIn_array w D _ _ hu hi]
         exact eqElems_run (fun t x y r x' y' h1 h2 h3 w => ih t x y r x' y' (by omega) h1 h2 h3 w) e (P.cellsOf e) (List.range n) xs ys r xl yl h hxs hys w
      ·simp at h)
   | (rename_i hu
      simp only [conv] at hx hy
      revert hx hy
      repeat' split
      all_goals (intro hx hy; simp at hx hy h; try (subst hx; subst hy; subst h; simp [Op.equalIn, run_underlying hu])))
   | (simp at h)
end Go.Vm
