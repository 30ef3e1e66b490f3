/-
 Part of the proof that a machine over named lists stands for the program's runs (VwDeep2). No conditions beyond those that its theorems name.
-/
import Derived.Test.YtjljleemknmgoaaVwRules6
namespace Go.Vm2
open Go Go.Vm
set_option linter.unusedVariables false
set_option linter.unusedSectionVars false
variable [Facts] [Val] [Sound] {P : Program} {tt : TT} {c : Px} {ν : Nu}
mutual
def frzRel (x len : Nat) (κ : Kt) (e : Nat) (a : AC) : V → V → Prop
 | .grw y l, w => match w with
  | .lst κ' e' a' => When (Nat.beq y x) (κ' = κ ∧ e' = e ∧ sameAC a' a ∧ l = len)
  | .grw y' l' => When (Nat.beq y y') (l = l')
  | _ => False
 | .tup vs, w => match w with
  | .tup ws => frzRels x len κ e a vs ws
  | _ => False
 | .agg vs, w => match w with
  | .agg ws => frzRels x len κ e a vs ws
  | _ => False
 | v, w => v = w
def frzRels (x len : Nat) (κ : Kt) (e : Nat) (a : AC) : List V → List V → Prop
 | [], l => match l with
  | [] => True
  | _ => False
 | v :: vs, l => match l with
  | w :: ws => frzRel x len κ e a v w ∧ frzRels x len κ e a vs ws
  | [] => False
end
mutual
theorem frzRel_ok {n x len : Nat} {κ : Kt} {e : Nat} {a : AC} {ν ν' : Nu} (hx : ∀ av, Cv n ν (.grw x len) av → Cv n ν' (.lst κ e a) av) (hle : Nu.le n ν ν') : ∀ {v w : V} {av : AV}, frzRel x len κ e a v w → Cv n ν v av → Cv n ν' w av
 | .grw y l, w, av, h, hc => by
  unfold frzRel at h
  split at h
  ·obtain ⟨h1, rfl, rfl, h2, rfl⟩ := when_inv h
   have := Nat.eq_of_beq_eq_true h1; subst this
   rw [sameAC_eq h2]; exact hx av hc
  ·obtain ⟨h1, rfl⟩ := when_inv h
   have := Nat.eq_of_beq_eq_true h1; subst this
   exact Cv.mono hle (Nat.le_refl _) _ _ hc
  ·exact h.elim
 | .tup vs, w, av, h, hc => by
  unfold frzRel at h
  split at h
  ·simp only [Cv] at hc ⊢
   obtain ⟨as, rfl, k⟩ := hc
   exact ⟨as, rfl, frzRels_ok hx hle h k⟩
  ·exact h.elim
 | .agg vs, w, av, h, hc => by
  unfold frzRel at h
  split at h
  ·simp only [Cv] at hc ⊢
   obtain ⟨as, rfl, k⟩ := hc
   exact ⟨as, rfl, frzRels_ok hx hle h k⟩
  ·exact h.elim
 | .int _ _, w, av, h, hc => by unfold frzRel at h; subst h; exact Cv.mono hle (Nat.le_refl _) _ _ hc
 | .bool _, w, av, h, hc => by unfold frzRel at h; subst h; exact Cv.mono hle (Nat.le_refl _) _ _ hc
 | .test _, w, av, h, hc => by unfold frzRel at h; subst h; exact Cv.mono hle (Nat.le_refl _) _ _ hc
 | .str _, w, av, h, hc => by unfold frzRel at h; subst h; exact Cv.mono hle (Nat.le_refl _) _ _ hc
 | .nilp, w, av, h, hc => by unfold frzRel at h; subst h; exact Cv.mono hle (Nat.le_refl _) _ _ hc
 | .nils, w, av, h, hc => by unfold frzRel at h; subst h; exact Cv.mono hle (Nat.le_refl _) _ _ hc
 | .nilm, w, av, h, hc => by unfold frzRel at h; subst h; exact Cv.mono hle (Nat.le_refl _) _ _ hc
 | .nilf, w, av, h, hc => by unfold frzRel at h; subst h; exact Cv.mono hle (Nat.le_refl _) _ _ hc
 | .nili, w, av, h, hc => by unfold frzRel at h; subst h; exact Cv.mono hle (Nat.le_refl _) _ _ hc
 | .ptr _ _, w, av, h, hc => by unfold frzRel at h; subst h; exact Cv.mono hle (Nat.le_refl _) _ _ hc
 | .eptr _ _ _ _, w, av, h, hc => by unfold frzRel at h; subst h; exact Cv.mono hle (Nat.le_refl _) _ _ hc
 | .slc _ _ _ _, w, av, h, hc => by unfold frzRel at h; subst h; exact Cv.mono hle (Nat.le_refl _) _ _ hc
 | .mp _, w, av, h, hc => by unfold frzRel at h; subst h; exact Cv.mono hle (Nat.le_refl _) _ _ hc
 | .fn _ _ _, w, av, h, hc => by unfold frzRel at h; subst h; exact Cv.mono hle (Nat.le_refl _) _ _ hc
 | .yld _, w, av, h, hc => by unfold frzRel at h; subst h; exact Cv.mono hle (Nat.le_refl _) _ _ hc
 | .lst _ _ _, w, av, h, hc => by unfold frzRel at h; subst h; exact Cv.mono hle (Nat.le_refl _) _ _ hc
 | .gptr _ _ _ _ _, w, av, h, hc => by unfold frzRel at h; subst h; exact Cv.mono hle (Nat.le_refl _) _ _ hc
theorem frzRels_ok {n x len : Nat} {κ : Kt} {e : Nat} {a : AC} {ν ν' : Nu} (hx : ∀ av, Cv n ν (.grw x len) av → Cv n ν' (.lst κ e a) av) (hle : Nu.le n ν ν') : ∀ {vs ws : List V} {as : List AV}, frzRels x len κ e a vs ws → Cvs n ν vs as → Cvs n ν' ws as
 | [], ws, as, h, hc => by
  unfold frzRels at h
  split at h
  ·rw [hc.inv0]; exact Cvs.nil
  ·exact h.elim
 | v :: vs, ws, as, h, hc => by
  unfold frzRels at h
  split at h
  ·obtain ⟨a', as', rfl, h2, h3⟩ := hc.inv
   exact Cvs.cons (frzRel_ok hx hle h.1 h2) (frzRels_ok hx hle h.2 h3)
  ·exact h.elim
end
theorem frz_any {h h2 : H} {s : St} {κ : Kt} {e x len : Nat} {a : AC} (r : R c ν h s) (hlt : x < h.nx) (hK : frzK κ e h x len (fun a' h' => a' = a ∧ h' = h2)) :
  ∃ ν', R c ν' h2 s ∧ Nu.le h.nx ν ν' ∧ h2.nx = h.nx ∧ h2.fz = h.fz ∧ ∀ av, Cv h.nx ν (.grw x len) av → Cv h.nx ν' (.lst κ e a) av := by
 have hv : (∃ av, Cv h.nx ν (.grw x len) av ∧ ∀ av', Cv h.nx ν (.grw x len) av' → av' = av) := by
  have hK2 := hK
  unfold frzK at hK2
  split at hK2
  rotate_left
  ·exact hK2.elim
  have hq := getK_inv hK2
  clear hK2
  obtain ⟨ob, hob, hK2⟩ := hq
  have hh := r.obj x ob hob
  have fin : ((ν x = none ∧ len = 0) ∨ ∃ B, ν x = some (B, 0)) → ∃ av, Cv h.nx ν (.grw x len) av ∧ ∀ av', Cv h.nx ν (.grw x len) av' → av' = av := by
   rintro (⟨h1, h2⟩ | ⟨B, h1⟩)
   ·refine ⟨.nils, by simp only [Cv]; exact ⟨hlt, .inl ⟨h1, h2, trivial⟩⟩, fun av' h' => ?_⟩
    simp only [Cv] at h'
    rcases h'.2 with ⟨_, _, e⟩ | ⟨B, e1, _⟩
    ·exact e
    ·rw [h1] at e1; cases e1
   ·refine ⟨.slc B 0 len len, by simp only [Cv]; exact ⟨hlt, .inr ⟨B, h1, rfl⟩⟩, fun av' h' => ?_⟩
    simp only [Cv] at h'
    rcases h'.2 with ⟨e1, _, e⟩ | ⟨B', e1, e⟩
    ·rw [h1] at e1; cases e1
    ·rw [h1] at e1; cases e1; exact e
  split at hK2
  ·rename_i ks m ac
   split at hK2
   ·rename_i e1 e2 e3
    obtain ⟨hk, ⟨n1, n2⟩ | ⟨B, b0, r', g1, g2, g3⟩⟩ := hh
    ·refine fin (.inl ⟨n1, ?_⟩)
     split at hK2
     ·rw [hK2.1]; exact n2
     ·split at hK2
      ·exact hK2.elim
      ·rw [hK2.1]; exact n2
    ·have hb : b0 = 0 := by
      cases r' <;> simp only [RowOk] at g3
      cases m <;> simp only [] at g3
      ·cases e1
      ·cases e1
      ·exact g3.1
      ·exact g3.1
     subst hb
     exact fin (.inr ⟨B, g1⟩)
   ·exact hK2.elim
  ·rename_i κ' e' m ac
   split at hK2
   ·obtain ⟨_, ⟨n1, n2⟩ | ⟨B, cs, el, op, w, sp, f, z, g1, _⟩⟩ := hh
    ·exact fin (.inl ⟨n1, by rw [hK2.2.1]; exact n2⟩)
    ·exact fin (.inr ⟨B, g1⟩)
   ·exact hK2.elim
  ·exact hK2.elim
 obtain ⟨av, hv1, hv2⟩ := hv
 obtain ⟨ν', h', a', r1, r2, r3, r4, r5, _, rfl, rfl⟩ := frz_ok r hv1 hK
 exact ⟨ν', r1, r2, r3, r4, fun av' h' => by rw [hv2 av' h']; exact r5⟩
theorem SemF.frz {fid : FuncId} {args : List V} {h : H} {Q : V → H → Prop} (hs : SemF P fid args h (fun v h' => (∃ x len κ e a w h2, x < h'.nx ∧ frzK κ e h' x len (fun a' h3 => a' = a ∧ h3 = h2) ∧ frzRel x len κ e a v w ∧ Q w h2) ∨ Q v h')) : SemF P fid args h Q := by
 refine ⟨fun c ν s as r has => ?_⟩
 obtain ⟨N, a, s', v, h', ν', q1, ⟨x, len, κ, e, ac, w, h2, k0, k1, k2, k3⟩ | k, q3, q4, q5⟩ := hs.run c ν s as r has
 ·obtain ⟨ν2, r2, l2, n2, f2, hx⟩ := frz_any q3 k0 k1
  refine ⟨N, a, s', w, h2, ν2, q1, k3, r2, by rw [n2]; exact frzRel_ok hx l2 k2 q4, ⟨q5.same.trans l2 q5.nx, by rw [n2]; exact q5.nx, f2.trans q5.fz, q5.n, fun y B b y1 y2 y3 => ?_⟩⟩
  rw [n2] at y2
  exact q5.new y B b y1 y2 (by rw [← l2 y y2]; exact y3)
 ·exact ⟨N, a, s', v, h', ν', q1, k, q3, q4, q5⟩
theorem call_frz {fid : FuncId} {args args' : List V} {h h2 : H} {K : V → H → Prop} (x len : Nat) (κ : Kt) (e : Nat) (a : AC) (hlt : x < h.nx) (hf : frzK κ e h x len (fun a' h3 => a' = a ∧ h3 = h2)) (ha : frzRels x len κ e a args args') (hs : SemF P fid args' h2 K) : SemF P fid args h K := by
 refine ⟨fun c ν s as r has => ?_⟩
 obtain ⟨ν2, r2, l2, n2, f2, hx⟩ := frz_any r hlt hf
 obtain ⟨N, b, s', v, h', ν', q1, q2, q3, q4, q5⟩ := hs.run c ν2 s as r2 (by rw [n2]; exact frzRels_ok hx l2 ha has)
 refine ⟨N, b, s', v, h', ν', q1, q2, q3, q4, ⟨l2.trans q5.same (by rw [n2]; exact Nat.le_refl _), by rw [← n2]; exact q5.nx, q5.fz.trans f2, q5.n, fun y B b y1 y2 y3 => q5.new y B b (by rw [n2]; exact y1) y2 y3⟩⟩
end Go.Vm2
