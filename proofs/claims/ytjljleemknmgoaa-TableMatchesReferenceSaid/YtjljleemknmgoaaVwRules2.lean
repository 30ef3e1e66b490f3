/-
 Part of the proof that a machine over named lists stands for the program's runs (VwRules2). No conditions beyond those that its theorems name.
-/
import Derived.Test.YtjljleemknmgoaaVwRules
namespace Go.Vm2
open Go Go.Vm
set_option linter.unusedVariables false
set_option linter.unusedSectionVars false
variable [Facts] [Val] [Sound] {P : Program} {tt : TT} {c : Px} {ν : Nu}
def Nu.ren (ν : Nu) (p n : Nat) (θ : Th) : Nu := ⟨fun x => if x < p then ν x else if x < n then (match look θ x with | some (some y) => ν y | _ => none) else none, ν.G⟩
theorem Nu.ren_f (ν : Nu) (p n : Nat) (θ : Th) (x : Nat) : (ν.ren p n θ) x = if x < p then ν x else if x < n then (match look θ x with | some (some y) => ν y | _ => none) else none := rfl
theorem noDup_look : ∀ {θ : Th} {x y : Nat}, noDup y θ = true → look θ x = some (some y) → False
 | [], x, y, h, k => by simp [look] at k
 | (z, some w) :: θ, x, y, h, k => by
  simp only [noDup, Bool.and_eq_true] at h
  rw [look_cons] at k
  split at k
  ·simp at k; subst k
   have := h.1
   rw [Nat.beq_refl] at this; cases this
  ·exact noDup_look h.2 k
 | (z, none) :: θ, x, y, h, k => by
  simp only [noDup] at h
  rw [look_cons] at k
  split at k
  ·simp at k
  ·exact noDup_look h k
theorem okTh_some {p n n' fz : Nat} : ∀ {θ : Th} {x y : Nat}, okTh p n n' fz θ = true → look θ x = some (some y) → x < n ∧ y < n' ∧ (x = y ∨ p ≤ x ∧ p ≤ y) ∧ (x < fz ∨ fz ≤ y)
 | [], x, y, h, k => by simp [look] at k
 | (z, some w) :: θ, x, y, h, k => by
  simp only [okTh, Bool.and_eq_true, Bool.or_eq_true] at h
  rw [look_cons] at k
  split at k
  ·rename_i e
   subst e; simp at k; subst k
   obtain ⟨⟨⟨⟨⟨h1, h2⟩, h3⟩, h4⟩, h5⟩, h6⟩ := h
   refine ⟨Nat.lt_of_succ_le (Nat.le_of_ble_eq_true h1), Nat.lt_of_succ_le (Nat.le_of_ble_eq_true h2), ?_, ?_⟩
   ·rcases h3 with e | e
    ·exact .inl (Nat.eq_of_beq_eq_true e)
    ·exact .inr ⟨Nat.le_of_ble_eq_true e.1, Nat.le_of_ble_eq_true e.2⟩
   ·rcases h4 with e | e
    ·exact .inl (Nat.lt_of_succ_le (Nat.le_of_ble_eq_true e))
    ·exact .inr (Nat.le_of_ble_eq_true e)
  ·exact okTh_some h.2 k
 | (z, none) :: θ, x, y, h, k => by
  simp only [okTh, Bool.and_eq_true] at h
  rw [look_cons] at k
  split at k
  ·simp at k
  ·exact okTh_some h.2 k
theorem okTh_none {p n n' fz : Nat} : ∀ {θ : Th} {x : Nat}, okTh p n n' fz θ = true → look θ x = some none → x < n ∧ p ≤ x
 | [], x, h, k => by simp [look] at k
 | (z, some w) :: θ, x, h, k => by
  simp only [okTh, Bool.and_eq_true] at h
  rw [look_cons] at k
  split at k
  ·simp at k
  ·exact okTh_none h.2 k
 | (z, none) :: θ, x, h, k => by
  simp only [okTh, Bool.and_eq_true] at h
  rw [look_cons] at k
  split at k
  ·rename_i e; subst e
   exact ⟨Nat.lt_of_succ_le (Nat.le_of_ble_eq_true h.1.1), Nat.le_of_ble_eq_true h.1.2⟩
  ·exact okTh_none h.2 k
theorem okTh_inj {p n n' fz : Nat} : ∀ {θ : Th} {x x' y : Nat}, okTh p n n' fz θ = true → look θ x = some (some y) → look θ x' = some (some y) → x = x'
 | [], x, x', y, h, k, k' => by simp [look] at k
 | (z, some w) :: θ, x, x', y, h, k, k' => by
  simp only [okTh, Bool.and_eq_true] at h
  rw [look_cons] at k k'
  split at k
  ·rename_i e
   simp at k; subst k
   split at k'
   ·rename_i e'; rw [← e, ← e']
   ·exact (noDup_look h.1.2 k').elim
  ·split at k'
   ·simp at k'; subst k'
    exact (noDup_look h.1.2 k).elim
   ·exact okTh_inj h.2 k k'
 | (z, none) :: θ, x, x', y, h, k, k' => by
  simp only [okTh, Bool.and_eq_true] at h
  rw [look_cons] at k k'
  split at k
  ·simp at k
  ·split at k'
   ·simp at k'
   ·exact okTh_inj h.2 k k'
theorem when_inv {b : Bool} {p : Prop} (h : When b p) : b = true ∧ p := by
 cases b with
 | true => exact ⟨rfl, h⟩
 | false => exact h.elim
section
variable {p n n' fz : Nat} {θ : Th}
theorem ren_some (ho : okTh p n n' fz θ = true) {x y : Nat} (h : look θ x = some (some y)) : x < n ∧ y < n' ∧ ν.ren p n θ x = ν y := by
 obtain ⟨h1, h2, h3, h4⟩ := okTh_some ho h
 refine ⟨h1, h2, ?_⟩
 rw [Nu.ren_f]
 split
 ·rename_i hx
  rcases h3 with e | e
  ·rw [e]
  ·omega
 ·simp only [h]
theorem ren_name (ho : okTh p n n' fz θ = true) {x y : Nat} (h : nameOk θ x y = true) : x < n ∧ y < n' ∧ ν.ren p n θ x = ν y := by
 unfold nameOk at h
 split at h
 ·rename_i z hz
  have := Nat.eq_of_beq_eq_true h; subst this
  exact ren_some ho hz
 ·cases h
theorem ren_no (ho : okTh p n n' fz θ = true) {x : Nat} (h : look θ x = some none) : x < n ∧ ν.ren p n θ x = none := by
 obtain ⟨h1, h2⟩ := okTh_none ho h
 refine ⟨h1, ?_⟩
 rw [Nu.ren_f]
 rw [if_neg (by omega), if_pos h1]; simp only [h]
theorem ren_nameNo (ho : okTh p n n' fz θ = true) {x : Nat} (h : nameNo θ x = true) : x < n ∧ ν.ren p n θ x = none := by
 unfold nameNo at h
 split at h
 ·rename_i hz; exact ren_no ho hz
 ·cases h
theorem sameAC_eq {a b : AC} (h : sameAC a b) : a = b := by
 unfold sameAC at h
 split at h
 ·rw [h]
 ·rw [h]
 ·exact h.elim
theorem nilG_ok {ks : List CK} : ∀ {a : AC}, nilG ks a → acOk ks a ∧ a.len = 0
 | .ints l, h => by
  simp only [nilG] at h
  split at h
  ·subst h; exact ⟨⟨_, rfl⟩, rfl⟩
  ·exact h.elim
 | .recs l, h => by
  simp only [nilG] at h
  split at h
  ·exact h.elim
  ·exact h.elim
  ·rename_i h1 h2
   subst h; exact ⟨⟨fun e => h1 e, fun k e => h2 k e⟩, rfl⟩
theorem modeEq_ok {m m' : Mode} (h : modeEq m m' = true) : m = m' := by
 cases m <;> cases m' <;> first | rfl | cases h
mutual
theorem sameV_ok (ho : okTh p n n' fz θ = true) : ∀ {v v' : V} {a : AV}, sameV θ v v' → Cv n' ν v' a → Cv n (ν.ren p n θ) v a
 | .int k m, v', a, h, hc => by
  unfold sameV at h
  split at h
  ·obtain ⟨h1, rfl⟩ := when_inv h; have := kindEq_eq h1; subst this; rw [cv_int hc]; exact mk_int
  ·exact h.elim
 | .bool b, v', a, h, hc => by
  unfold sameV at h
  split at h
  ·subst h; rw [cv_bool hc]; exact mk_bool
  ·subst h; rw [cv_test hc]; exact mk_bool
  ·exact h.elim
 | .test b, v', a, h, hc => by
  unfold sameV at h
  split at h
  ·subst h; rw [cv_bool hc]; exact mk_test
  ·subst h; rw [cv_test hc]; exact mk_test
  ·exact h.elim
 | .str s, v', a, h, hc => by
  unfold sameV at h
  split at h
  ·subst h; rw [cv_str hc]; exact mk_str
  ·exact h.elim
 | .nilp, v', a, h, hc => by
  unfold sameV at h
  split at h
  ·simpa only [Cv] using hc
  ·exact h.elim
 | .nils, v', a, h, hc => by
  unfold sameV at h
  split at h
  ·simpa only [Cv] using hc
  ·exact h.elim
 | .nilm, v', a, h, hc => by
  unfold sameV at h
  split at h
  ·simpa only [Cv] using hc
  ·exact h.elim
 | .nilf, v', a, h, hc => by
  unfold sameV at h
  split at h
  ·simpa only [Cv] using hc
  ·exact h.elim
 | .nili, v', a, h, hc => by
  unfold sameV at h
  split at h
  ·simpa only [Cv] using hc
  ·exact h.elim
 | .ptr x o, v', a, h, hc => by
  unfold sameV at h
  split at h
  ·obtain ⟨h1, rfl⟩ := when_inv h
   obtain ⟨e1, e2, e3⟩ := ren_name (ν := ν) ho h1
   simp only [Cv] at hc ⊢
   exact ⟨e1, by rw [e3]; exact hc.2⟩
  ·exact h.elim
 | .eptr x i z o, v', a, h, hc => by
  unfold sameV at h
  split at h
  ·obtain ⟨h1, rfl, rfl, rfl⟩ := when_inv h
   obtain ⟨e1, e2, e3⟩ := ren_name (ν := ν) ho h1
   simp only [Cv] at hc ⊢
   exact ⟨e1, by rw [e3]; exact hc.2⟩
  ·exact h.elim
 | .slc x z o len, v', a, h, hc => by
  unfold sameV at h
  split at h
  ·obtain ⟨h1, rfl, rfl, rfl⟩ := when_inv h
   obtain ⟨e1, e2, e3⟩ := ren_name (ν := ν) ho h1
   simp only [Cv] at hc ⊢
   exact ⟨e1, by rw [e3]; exact hc.2⟩
  ·obtain ⟨h1, rfl, rfl⟩ := when_inv h
   obtain ⟨e1, e2, e3⟩ := ren_name (ν := ν) ho h1
   simp only [Cv] at hc ⊢
   refine ⟨e1, ?_⟩
   rw [e3]
   rcases hc.2 with hl | ⟨B, hB, rfl⟩
   ·exact .inl hl
   ·exact .inr ⟨B, 0, _, 0, hB, Nat.le_refl _, Nat.le_refl _, .inl rfl, by simp⟩
  ·obtain ⟨h1, rfl⟩ := when_inv h
   obtain ⟨e1, e3⟩ := ren_nameNo (ν := ν) ho h1
   simp only [Cv] at hc ⊢
   exact ⟨e1, .inl ⟨e3, trivial, hc⟩⟩
  ·exact h.elim
 | .grw x len, v', a, h, hc => by
  unfold sameV at h
  split at h
  ·obtain ⟨h1, rfl⟩ := when_inv h
   obtain ⟨e1, e2, e3⟩ := ren_name (ν := ν) ho h1
   simp only [Cv] at hc ⊢
   exact ⟨e1, by rw [e3]; exact hc.2⟩
  ·obtain ⟨h1, rfl⟩ := when_inv h
   obtain ⟨e1, e3⟩ := ren_nameNo (ν := ν) ho h1
   simp only [Cv] at hc ⊢
   exact ⟨e1, .inl ⟨e3, trivial, hc⟩⟩
  ·exact h.elim
 | .mp x, v', a, h, hc => by
  unfold sameV at h
  split at h
  ·obtain ⟨h1, _⟩ := when_inv h
   obtain ⟨e1, e2, e3⟩ := ren_name (ν := ν) ho h1
   simp only [Cv] at hc ⊢
   exact ⟨e1, by rw [e3]; exact hc.2⟩
  ·exact h.elim
 | .fn f a1 d, v', a, h, hc => by
  unfold sameV at h
  split at h
  ·obtain ⟨h1, h2, h3⟩ := when_inv h
   have := Nat.eq_of_beq_eq_true h1; subst this
   simp only [Cv] at hc ⊢
   obtain ⟨as, cs, rfl, k1, k2⟩ := hc
   exact ⟨as, cs, rfl, sameVs_ok ho h2 k1, sameVs_ok ho h3 k2⟩
  ·exact h.elim
 | .yld x, v', a, h, hc => by
  unfold sameV at h
  split at h
  ·obtain ⟨h1, _⟩ := when_inv h
   obtain ⟨e1, e2, e3⟩ := ren_name (ν := ν) ho h1
   simp only [Cv] at hc ⊢
   exact ⟨e1, by rw [e3]; exact hc.2⟩
  ·exact h.elim
 | .agg cs, v', a, h, hc => by
  unfold sameV at h
  split at h
  ·simp only [Cv] at hc ⊢
   obtain ⟨as, rfl, k1⟩ := hc
   exact ⟨as, rfl, sameVs_ok ho h k1⟩
  ·exact h.elim
 | .tup cs, v', a, h, hc => by
  unfold sameV at h
  split at h
  ·simp only [Cv] at hc ⊢
   obtain ⟨as, rfl, k1⟩ := hc
   exact ⟨as, rfl, sameVs_ok ho h k1⟩
  ·exact h.elim
 | .lst κ e x, v', a, h, hc => by
  unfold sameV at h
  split at h
  ·obtain ⟨rfl, rfl, h3⟩ := h
   rw [sameAC_eq h3]
   simp only [Cv] at hc ⊢; exact hc
  ·rw [cv_nils hc]
   obtain ⟨h1, h2⟩ := nilG_ok h
   simp only [Cv]; exact .nil e x h1 h2
  ·exact h.elim
 | .gptr κ e x i o, v', a, h, hc => by
  unfold sameV at h
  split at h
  ·obtain ⟨rfl, rfl, h3, rfl, rfl⟩ := h
   rw [sameAC_eq h3]
   simp only [Cv] at hc ⊢; exact hc
  ·exact h.elim
theorem sameVs_ok (ho : okTh p n n' fz θ = true) : ∀ {vs vs' : List V} {as : List AV}, sameVs θ vs vs' → Cvs n' ν vs' as → Cvs n (ν.ren p n θ) vs as
 | [], vs', as, h, hc => by
  unfold sameVs at h
  split at h
  ·rw [hc.inv0]; exact Cvs.nil
  ·exact h.elim
 | v :: vs, vs', as, h, hc => by
  unfold sameVs at h
  split at h
  ·obtain ⟨a, as', rfl, h2, h3⟩ := hc.inv
   exact Cvs.cons (sameV_ok ho h.1 h2) (sameVs_ok ho h.2 h3)
  ·exact h.elim
end
theorem sameF_ok (ho : okTh p n n' fz θ = true) {l' : List (Nat × V)} {nt : Nat} {t : List AV} (hf : FrRel n' ν nt l' t) : ∀ {l : List (Nat × V)}, sameF θ l' l → FrRel n (ν.ren p n θ) nt l t
 | [], h => ⟨hf.1, fun i v hv => by simp [look] at hv⟩
 | (j, u) :: l, h => by
  simp only [sameF] at h
  have ih := sameF_ok ho hf h.2
  refine ⟨hf.1, fun i v hv => ?_⟩
  rw [look_cons] at hv
  split at hv
  ·rename_i e; subst e; simp at hv; subst hv
   have h1 := h.1
   split at h1
   ·rename_i v' hv'
    obtain ⟨a, k1, k2⟩ := hf.2 j v' hv'
    exact ⟨a, k1, sameV_ok ho h1 k2⟩
   ·exact h1.elim
  ·exact ih.2 i v hv
theorem modeLe_ok {m m' : Mode} {ks : List CK} {a : AC} {B b0 : Nat} {r : AO} (hk : ksOk ks a) (h : modeLe m m' = true) (hr : RowOk m' ks a B b0 r) : RowOk m ks a B b0 r := by
 unfold modeLe at h
 split at h
 ·obtain ⟨cs, e, op, w, sp, f, z, rfl, q1, q2⟩ := hr.row hk
  obtain ⟨_, _, _, _, _, _, _, e1, q3⟩ := hr.open
  cases e1
  exact ⟨fun e => (q3 e).2, q1, q2⟩
 ·exact hr
 ·obtain ⟨cs, e, op, w, sp, f, z, rfl, q1, q2⟩ := hr.row hk
  simp only [RowOk] at hr
  exact ⟨hr.2.1, q1, q2⟩
 ·exact hr
 ·exact hr
 ·cases h
theorem sameO_ok (ho : okTh p n n' fz θ = true) {x y : Nat} (hx : look θ x = some (some y)) : ∀ {o o' : Ob} {g : Nat → Option AO}, sameO θ o o' → Held n' ν y o' g → Held n (ν.ren p n θ) x o g
 | .cells cs, o', g, h, hh => by
  obtain ⟨e1, e2, e3⟩ := ren_some (ν := ν) ho hx
  cases o' <;> simp only [sameO] at h
  obtain ⟨B, as, e, z, k1, k2, k3⟩ := hh
  exact ⟨B, as, e, z, by rw [e3]; exact k1, k2, sameVs_ok ho h k3⟩
 | .arr ks m a, o', g, h, hh => by
  obtain ⟨e1, e2, e3⟩ := ren_some (ν := ν) ho hx
  cases o' <;> simp only [sameO] at h
  obtain ⟨h1, h2⟩ := when_inv h
  simp only [Bool.and_eq_true] at h1
  have := cksEq_eq h1.1; subst this
  have := sameAC_eq h2; subst this
  obtain ⟨k0, k1 | ⟨B, b0, r, k1, k2, k3⟩⟩ := hh
  ·exact ⟨k0, .inl (by rw [e3]; exact k1)⟩
  ·exact ⟨k0, .inr ⟨B, b0, r, by rw [e3]; exact k1, k2, modeLe_ok k0 h1.2 k3⟩⟩
 | .loop st pend t nt ps as bo d, o', g, h, hh => by
  obtain ⟨e1, e2, e3⟩ := ren_some (ν := ν) ho hx
  cases o' <;> simp only [sameO] at h
  obtain ⟨h1, rfl, rfl, rfl, rfl, rfl, rfl, h2⟩ := when_inv h
  obtain ⟨B, b0, ts, D, d0, k1, k2, k3, k4, k5⟩ := hh
  obtain ⟨f1, f2, f3⟩ := ren_name (ν := ν) ho h1
  exact ⟨B, b0, ts, D, d0, by rw [e3]; exact k1, f1, by rw [f3]; exact k3, k4, sameF_ok ho k5 h2⟩
 | .dfr, o', g, h, hh => by
  obtain ⟨e1, e2, e3⟩ := ren_some (ν := ν) ho hx
  cases o' <;> simp only [sameO] at h
  obtain ⟨B, b0, k1, k2⟩ := hh
  exact ⟨B, b0, by rw [e3]; exact k1, k2⟩
 | .sit l pos, o', g, h, hh => by
  obtain ⟨e1, e2, e3⟩ := ren_some (ν := ν) ho hx
  cases o' <;> simp only [sameO] at h
  obtain ⟨rfl, rfl⟩ := h
  obtain ⟨B, k1, k2⟩ := hh
  exact ⟨B, by rw [e3]; exact k1, k2⟩
 | .map kt ks ag l, o', g, h, hh => by
  obtain ⟨e1, e2, e3⟩ := ren_some (ν := ν) ho hx
  cases o' <;> simp only [sameO] at h
  obtain ⟨h1, rfl⟩ := when_inv h
  simp only [Bool.and_eq_true] at h1
  have e4 := kindEq_eq h1.1.1; subst e4
  have e5 := cksEq_eq h1.1.2; subst e5
  have e6 := sameB_eq h1.2; subst e6
  obtain ⟨B, b0, k1, k2⟩ := hh
  exact ⟨B, b0, by rw [e3]; exact k1, k2⟩
 | .smap ks ag l, o', g, h, hh => by
  obtain ⟨e1, e2, e3⟩ := ren_some (ν := ν) ho hx
  cases o' <;> simp only [sameO] at h
  obtain ⟨h1, rfl⟩ := when_inv h
  simp only [Bool.and_eq_true] at h1
  have e5 := cksEq_eq h1.1; subst e5
  have e6 := sameB_eq h1.2; subst e6
  obtain ⟨B, b0, k1, k2⟩ := hh
  exact ⟨B, b0, by rw [e3]; exact k1, k2⟩
 | .pmap ks ag l, o', g, h, hh => by
  obtain ⟨e1, e2, e3⟩ := ren_some (ν := ν) ho hx
  cases o' <;> simp only [sameO] at h
  obtain ⟨h1, rfl⟩ := when_inv h
  simp only [Bool.and_eq_true] at h1
  have e5 := cksEq_eq h1.1; subst e5
  have e6 := sameB_eq h1.2; subst e6
  obtain ⟨B, b0, k1, k2⟩ := hh
  exact ⟨B, b0, by rw [e3]; exact k1, k2⟩
 | .tarr κ e m a, o', g, h, hh => by
  obtain ⟨e1, e2, e3⟩ := ren_some (ν := ν) ho hx
  cases o' <;> simp only [sameO] at h
  obtain ⟨h1, rfl, rfl, h2⟩ := when_inv h
  have e4 := modeEq_ok h1; subst e4
  have := sameAC_eq h2; subst this
  obtain ⟨k0, k1 | ⟨B, cs, el, op, w, sp, f, z, k1, k2⟩⟩ := hh
  ·exact ⟨k0, .inl (by rw [e3]; exact k1)⟩
  ·exact ⟨k0, .inr ⟨B, cs, el, op, w, sp, f, z, by rw [e3]; exact k1, k2⟩⟩
 | .tok, o', g, h, hh => trivial
 | .gone, o', g, h, hh => trivial
theorem nilAC_ok {ks : List CK} : ∀ {a : AC}, nilAC ks a → ksOk ks a ∧ a.len = 0
 | .ints l, h => by
  simp only [nilAC] at h
  split at h
  ·subst h; exact ⟨⟨_, rfl⟩, rfl⟩
  ·exact h.elim
 | .recs l, h => by
  simp only [nilAC] at h
  split at h
  ·exact h.elim
  ·rename_i hne
   subst h; exact ⟨fun e => hne e, rfl⟩
theorem nilO_held {n : Nat} {ν : Nu} {x : Nat} {o : Ob} {g : Nat → Option AO} (h : nilO o) (hx : ν x = none) : Held n ν x o g := by
 cases o <;> simp only [nilO] at h
 ·obtain ⟨n1, n2⟩ := nilAC_ok h
  exact ⟨n1, .inl ⟨hx, n2⟩⟩
 ·obtain ⟨n1, n2⟩ := nilG_ok h
  exact ⟨n1, .inl ⟨hx, n2⟩⟩
theorem sameD_ok (ho : okTh p n n' fz θ = true) : ∀ {xs ys ds : List Nat}, sameD θ xs ys = true → MarkRel n' ν ys ds → MarkRel n (ν.ren p n θ) xs ds
 | [], [], ds, h, hm => hm
 | [], y :: ys, ds, h, hm => by simp [sameD] at h
 | x :: xs, [], ds, h, hm => by simp [sameD] at h
 | x :: xs, y :: ys, ds, h, hm => by
  simp only [sameD, Bool.and_eq_true] at h
  obtain ⟨e1, e2, e3⟩ := ren_name (ν := ν) ho h.1
  obtain ⟨h0, B, b0, bs, h1, h2, h3⟩ := hm
  exact ⟨e1, B, b0, bs, by rw [e3]; exact h1, h2, sameD_ok ho h.2 h3⟩
end
theorem namesOk_look {n : Nat} : ∀ {l : List (Nat × Ob)} {x : Nat} {o : Ob}, namesOk n l = true → look l x = some o → x < n
 | [], x, o, h, k => by simp [look] at k
 | (y, q) :: l, x, o, h, k => by
  simp only [namesOk, Bool.and_eq_true] at h
  rw [look_cons] at k
  split at k
  ·rename_i e; subst e; exact Nat.lt_of_succ_le (Nat.le_of_ble_eq_true h.1)
  ·exact namesOk_look h.2 k
theorem sameH_look {θ : Th} {l' : List (Nat × Ob)} : ∀ {l : List (Nat × Ob)} {x : Nat} {o : Ob}, sameH θ l' l → look l x = some o → o = .gone ∨ (∃ y o', look θ x = some (some y) ∧ look l' y = some o' ∧ sameO θ o o') ∨ (look θ x = some none ∧ nilO o)
 | [], x, o, h, k => by simp [look] at k
 | (y, q) :: l, x, o, h, k => by
  simp only [sameH] at h
  rw [look_cons] at k
  split at k
  ·rename_i e; subst e; simp at k; subst k
   have h1 := h.1
   split at h1
   ·exact .inl rfl
   ·split at h1
    ·rename_i z hz
     split at h1
     ·rename_i o' ho'; exact .inr (.inl ⟨z, o', hz, ho', h1⟩)
     ·exact h1.elim
    ·rename_i hz
     exact .inr (.inr ⟨hz, h1⟩)
    ·exact h1.elim
  ·exact sameH_look h.2 k
theorem modeLe_own {ks ks' : List CK} {m m' : Mode} {a a' : AC} (h : modeLe m m' = true) (ho : (Ob.arr ks m a).own = true) : (Ob.arr ks' m' a').own = true := by
 cases m with
 | rd => cases ho
 | ro => cases ho
 | own => cases m' <;> first | rfl | cases h
 | grow => cases m' <;> first | rfl | cases h
theorem sameO_own {θ : Th} : ∀ {o o' : Ob}, sameO θ o o' → o.own = true → o'.own = true
 | .cells cs, o', h, ho => by cases o' <;> simp only [sameO] at h; rfl
 | .arr ks m a, o', h, ho => by
  cases o' <;> simp only [sameO] at h
  obtain ⟨h1, _⟩ := when_inv h
  simp only [Bool.and_eq_true] at h1
  exact modeLe_own h1.2 ho
 | .loop st pend t nt ps as bo d, o', h, ho => by cases o' <;> simp only [sameO] at h; rfl
 | .dfr, o', h, ho => by cases o' <;> simp only [sameO] at h; rfl
 | .sit l pos, o', h, ho => by cases o' <;> simp only [sameO] at h; rfl
 | .map kt ks ag l, o', h, ho => by cases o' <;> simp only [sameO] at h; rfl
 | .smap ks ag l, o', h, ho => by cases o' <;> simp only [sameO] at h; rfl
 | .pmap ks ag l, o', h, ho => by cases o' <;> simp only [sameO] at h; rfl
 | .tarr κ e m a, o', h, ho => by cases o' <;> simp only [sameO] at h; rfl
 | .tok, o', h, ho => by cases ho
 | .gone, o', h, ho => by cases ho
theorem sameO_live {θ : Th} : ∀ {o o' : Ob}, sameO θ o o' → o.live = true → o'.live = true
 | .cells cs, o', h, ho => by cases o' <;> simp only [sameO] at h; rfl
 | .arr ks m a, o', h, ho => by cases o' <;> simp only [sameO] at h; rfl
 | .loop st pend t nt ps as bo d, o', h, ho => by cases o' <;> simp only [sameO] at h; rfl
 | .dfr, o', h, ho => by cases o' <;> simp only [sameO] at h; rfl
 | .sit l pos, o', h, ho => by cases o' <;> simp only [sameO] at h; rfl
 | .map kt ks ag l, o', h, ho => by cases o' <;> simp only [sameO] at h; rfl
 | .smap ks ag l, o', h, ho => by cases o' <;> simp only [sameO] at h; rfl
 | .pmap ks ag l, o', h, ho => by cases o' <;> simp only [sameO] at h; rfl
 | .tarr κ e m a, o', h, ho => by cases o' <;> simp only [sameO] at h; rfl
 | .tok, o', h, ho => by cases ho
 | .gone, o', h, ho => by cases ho
theorem R.ren {h h' : H} {s : St} {θ : Th} (r : R c ν h' s) (ho : okTh c.p h.nx h'.nx h.fz θ = true) (hp : c.p ≤ h.nx) (hp' : c.p ≤ h'.nx) (hns : namesOk h.nx h.l = true) (hfz : h.fz = h'.fz) (hH : sameH θ h'.l h.l) : R c (ν.ren c.p h.nx θ) h s := by
 have key : ∀ x o B b, h.get x = some o → o.live = true → ν.ren c.p h.nx θ x = some (B, b) → ∃ y o', look θ x = some (some y) ∧ h'.get y = some o' ∧ sameO θ o o' ∧ ν y = some (B, b) := by
  intro x o B b hx hl hB
  rcases sameH_look hH hx with e | ⟨y, o', e1, e2, e3⟩ | ⟨e1, e2⟩
  ·subst e; cases hl
  ·exact ⟨y, o', e1, e2, e3, by rw [← (ren_some (ν := ν) ho e1).2.2]; exact hB⟩
  ·rw [(ren_no (ν := ν) ho e1).2] at hB; cases hB
 refine ⟨r.ok, ?_, fun x o hx => namesOk_look hns hx, ?_, ?_, r.froz, r.kin, ?_, r.tc, hp, r.lo_le, ?_, ?_, r.snap, r.gr.gl, ?_, r.gr.gg, ?_⟩
 ·intro x o hx
  rcases sameH_look hH hx with e | ⟨y, o', e1, e2, e3⟩ | ⟨e1, e2⟩
  ·subst e; trivial
  ·exact sameO_ok ho e1 e3 (r.obj y o' e2)
  ·exact nilO_held e2 (ren_no (ν := ν) ho e1).2
 ·intro x y o o' B B' b b' hxy hx hy hf hown hl hB hB'
  obtain ⟨x2, o2, a1, a2, a3, a4⟩ := key x o B b hx (own_live _ hown) hB
  obtain ⟨y2, q2, b1, b2, b3, b4⟩ := key y o' B' b' hy hl hB'
  have hne : x2 ≠ y2 := fun e => hxy (okTh_inj ho a1 (e ▸ b1))
  have hf2 : h'.fz ≤ x2 := by
   rcases (okTh_some ho a1).2.2.2 with e | e
   ·omega
   ·rw [← hfz]; exact e
  exact r.sep x2 y2 o2 q2 B B' b b' hne a2 b2 hf2 (sameO_own a3 hown) (sameO_live b3 hl) a4 b4
 ·intro x o B b b' hx hf hown hB hG
  obtain ⟨x2, o2, a1, a2, a3, a4⟩ := key x o B b hx (own_live _ hown) hB
  have hf2 : h'.fz ≤ x2 := by
   rcases (okTh_some ho a1).2.2.2 with e | e
   ·omega
   ·rw [← hfz]; exact e
  exact r.gsep x2 o2 B b b' a2 hf2 (sameO_own a3 hown) a4 hG
 ·intro D hD
  obtain ⟨h1, h2, h3, h4⟩ := r.th D hD
  refine ⟨h1, h2, h3, fun x o B b hx hf hown hB => ?_⟩
  obtain ⟨x2, o2, a1, a2, a3, a4⟩ := key x o B b hx (own_live _ hown) hB
  have hf2 : h'.fz ≤ x2 := by
   rcases (okTh_some ho a1).2.2.2 with e | e
   ·omega
   ·rw [← hfz]; exact e
  exact h4 x2 o2 B b a2 hf2 (sameO_own a3 hown) a4
 ·intro x B b h1 h2 h3
  rw [Nu.ren_f] at h3
  rw [if_neg (by omega), if_pos h2] at h3
  split at h3
  ·rename_i y hy
   obtain ⟨k1, k2, k3, k4⟩ := okTh_some ho hy
   exact r.new y B b (by rcases k3 with e | e <;> omega) k2 h3
  ·cases h3
 ·intro x B b h2 h3
  rw [Nu.ren_f] at h3
  split at h3
  ·exact r.blk x B b (by omega) h3
  ·split at h3
   ·rename_i y hy
    exact r.blk y B b (okTh_some ho hy).2.1 h3
   ·cases h3
 ·intro x o B b b' hx hf hown hB hG
  obtain ⟨x2, o2, a1, a2, a3, a4⟩ := key x o B b hx (own_live _ hown) hB
  have hf2 : h'.fz ≤ x2 := by
   rcases (okTh_some ho a1).2.2.2 with e | e
   ·omega
   ·rw [← hfz]; exact e
  exact r.gr.ga x2 o2 B b b' a2 hf2 (sameO_own a3 hown) a4 hG
 ·intro hn x hx
  rcases sameH_look hH hx with e | ⟨y, o', e1, e2, e3⟩ | ⟨e1, e2⟩
  ·cases e
  ·cases o' <;> simp only [sameO] at e3
   exact r.gr.tk hn y e2
  ·exact e2
def Wk (p : Nat) (f : Frm) (h : H) (f' : Frm) (h' : H) : Prop :=
 ∃ θ : Th, okTh p h.nx h'.nx h.fz θ = true ∧ Nat.ble p h.nx = true ∧ namesOk h.nx h.l = true ∧ h.fz = h'.fz ∧ f.nt = f'.nt ∧ sameD θ f.d f'.d = true ∧ sameF θ f'.l f.l ∧ sameH θ h'.l h.l
theorem weak {p : Nat} {rnd : Option Nat} {cd : Code} {f f' : Frm} {h h' : H} {K : Post} (hw : Wk p f h f' h') (hs : SemC P p rnd cd f h K) : SemC P p rnd cd f' h' K := by
 obtain ⟨θ, w1, w2, w3, w4, w5, w6, w7, w8⟩ := hw
 refine ⟨fun c ν s F r hp hR hf hm hr => ?_⟩
 subst hp
 have hple := Nat.le_of_ble_eq_true w2
 have hR2 : R c (ν.ren c.p h.nx θ) h s := hR.ren w1 hple hR.p_le w3 w4 w8
 have hν : Nu.le c.p ν (ν.ren c.p h.nx θ) := ⟨fun x hx => by rw [Nu.ren_f, if_pos hx], fun _ _ h => h⟩
 obtain ⟨N, x, F', s', f2, h2, ν', k1, k2, k3, k4, k5, k6, k7, k8⟩ := hs.run c (ν.ren c.p h.nx θ) s F r rfl hR2 (by rw [w5]; exact sameF_ok w1 hf w7) (sameD_ok w1 w6 hm) (rnd_mono hν hr)
 exact ⟨N, x, F', s', f2, h2, ν', k1, k2, k3, k4, k5, hν.trans k6 (Nat.le_refl _), k7, by rw [k8, w4]⟩
def LoopK {ι : Type} (p : Nat) (I : ι → Frm × H) (m : ι → Nat) (i : ι) (K : Post) : Post := fun x f' h' =>
 match x with
 | .normal => ∃ j, m j < m i ∧ Wk p (I j).1 (I j).2 f' h'
 | .ret => K .ret f' h'
 | .exit n => K (.exit n) f' h'
theorem loop_all {ι : Type} {p : Nat} {rnd : Option Nat} {a : Code} {K : Post} (I : ι → Frm × H) (m : ι → Nat) (hr : ∀ i, SemC P p rnd a (I i).1 (I i).2 (LoopK p I m i K)) : ∀ (k : Nat) (i : ι), m i < k → SemC P p rnd (.loop a) (I i).1 (I i).2 K
 | 0, i, h => by omega
 | k + 1, i, hk => by
  refine ⟨fun c ν s F r hp hR hf hm hrr => ?_⟩
  obtain ⟨N, x, F', s', f', h', ν', k1, k2, k3, k4, k5, k6, k7, k8⟩ := (hr i).run c ν s F r hp hR hf hm hrr
  cases x with
  | normal =>
   obtain ⟨j, hj, hw⟩ := k2
   have ih := weak hw (loop_all I m hr k j (by omega))
   obtain ⟨M, y, F2, s2, f2, h2, ν2, m1, m2, m3, m4, m5, m6, m7, m8⟩ := ih.run c ν' s' F' r hp k3 k4 k5 (rnd_mono k6 hrr)
   refine ⟨max N M + 1, y, F2, s2, f2, h2, ν2, ?_, m2, m3, m4, m5, k6.trans m6 (Nat.le_refl _), Nat.le_trans k7 m7, m8.trans k8⟩
   rw [evC, evC_le k1 (Nat.le_max_left _ _)]
   exact evC_le m1 (Nat.le_max_right _ _)
  | ret =>
   refine ⟨N + 1, .ret, F', s', f', h', ν', ?_, k2, k3, k4, k5, k6, k7, k8⟩
   rw [evC, k1]
  | exit n =>
   refine ⟨N + 1, .exit n, F', s', f', h', ν', ?_, k2, k3, k4, k5, k6, k7, k8⟩
   rw [evC, k1]
theorem loop (ht : TTok P tt) {ι : Type} {p : Nat} {rnd : Option Nat} {a : Code} {f : Frm} {h : H} {K : Post} (I : ι → Frm × H) (m : ι → Nat) (i0 : ι) (h0 : Wk p (I i0).1 (I i0).2 f h) (hr : ∀ i, W P tt p rnd a (I i).1 (I i).2 (LoopK p I m i K)) : SemC P p rnd (.loop a) f h K :=
 weak h0 (loop_all I m (fun i => W_ok ht (reg_ok ht) (hr i)) (m i0 + 1) i0 (Nat.lt_succ_self _))
end Go.Vm2
