/-
 Part of the proof that a machine over named lists stands for the program's runs (VwRules6). No conditions beyond those that its theorems name.
-/
import Derived.Test.YtjljleemknmgoaaVwRules5
import Derived.Test.YtjljleemknmgoaaVwRules4
namespace Go.Vm2
open Go Go.Vm
set_option linter.unusedVariables false
set_option linter.unusedSectionVars false
variable [Facts] [Val] [Sound] {P : Program} {tt : TT} {c : Px} {ν : Nu}
def idL : Nat → List (Nat × Option Nat)
 | 0 => []
 | n + 1 => (n, some n) :: idL n
def domL {α : Type} : List (Nat × α) → List Nat
 | [] => []
 | (x, _) :: l => x :: domL l
def th (E : Th) (n : Nat) : Th := app E (nubL (domL E) (idL n))
theorem loop2 (ht : TTok P tt) {p : Nat} {rnd : Option Nat} {a : Code} {f : Frm} {h : H} {K : Post} (dF dL : List Nat) (N : Nat) {ι : Type} (F : ι → List (Nat × V)) (L : ι → List (Nat × Ob)) (m : ι → Nat) (i0 : ι)
  (hq : match f, h with
   | ⟨nt, fl, d⟩, ⟨nx, fz, hl⟩ => forceL (nubL dF fl) fun fl' => forceL (nubL dL hl) fun hl' =>
    Node (Wk p ⟨nt, app (F i0) fl', d⟩ ⟨N, fz, app (L i0) hl'⟩ ⟨nt, fl, d⟩ ⟨nx, fz, hl⟩ ∧ ∀ i, W P tt p rnd a ⟨nt, app (F i) fl', d⟩ ⟨N, fz, app (L i) hl'⟩ (LoopK p (fun i => (⟨nt, app (F i) fl', d⟩, ⟨N, fz, app (L i) hl'⟩)) m i K))) : SemC P p rnd (.loop a) f h K := by
 obtain ⟨nt, fl, d⟩ := f
 obtain ⟨nx, fz, hl⟩ := h
 simp only [forceL_eq] at hq
 obtain ⟨h1, h2⟩ := hq ()
 exact loop ht (fun i => (⟨nt, app (F i) (nubL dF fl), d⟩, ⟨N, fz, app (L i) (nubL dL hl)⟩)) m i0 h1 h2
theorem meet {p : Nat} {rnd : Option Nat} {cd : Code} {f : Frm} {h : H} {K : Post} {ι : Type} (X : AX) (F : ι → Frm) (L : ι → H)
  (hs : SemC P p rnd cd f h (fun x f' h' => (∃ j, x = X ∧ Wk p (F j) (L j) f' h') ∨ K x f' h')) (hK : ∀ j, K X (F j) (L j)) : SemC P p rnd cd f h K := by
 refine ⟨fun c ν s Fr r hp hR hf hm hr => ?_⟩
 obtain ⟨N, x, F', s', f', h', ν', k1, k2, k3, k4, k5, k6, k7, k8⟩ := hs.run c ν s Fr r hp hR hf hm hr
 rcases k2 with ⟨j, rfl, θ, w1, w2, w3, w4, w5, w6, w7, w8⟩ | k2
 ·subst hp
  have hple := Nat.le_of_ble_eq_true w2
  have hR2 : R c (ν'.ren c.p (L j).nx θ) (L j) s' := k3.ren w1 hple k3.p_le w3 w4 w8
  refine ⟨N, x, F', s', F j, L j, ν'.ren c.p (L j).nx θ, k1, hK j, hR2, by rw [w5]; exact sameF_ok w1 k4 w7, sameD_ok w1 w6 k5, ⟨fun x hx => ?_, k6.G⟩, k7, by rw [w4]; exact k8⟩
  rw [Nu.ren_f, if_pos hx]; exact k6 x hx
 ·exact ⟨N, x, F', s', f', h', ν', k1, k2, k3, k4, k5, k6, k7, k8⟩
theorem meet2 {p : Nat} {rnd : Option Nat} {cd : Code} {f : Frm} {h : H} {K : Post} (dF dL : List Nat) (N : Nat) (X : AX) {ι : Type} (F : ι → List (Nat × V)) (L : ι → List (Nat × Ob))
  (hq : match f, h with
   | ⟨nt, fl, d⟩, ⟨nx, fz, hl⟩ => forceL (nubL dF fl) fun fl' => forceL (nubL dL hl) fun hl' =>
    Node (SemC P p rnd cd ⟨nt, fl, d⟩ ⟨nx, fz, hl⟩ (fun x f' h' => (∃ j, x = X ∧ Wk p ⟨nt, app (F j) fl', d⟩ ⟨N, fz, app (L j) hl'⟩ f' h') ∨ K x f' h') ∧ ∀ j, K X ⟨nt, app (F j) fl', d⟩ ⟨N, fz, app (L j) hl'⟩)) : SemC P p rnd cd f h K := by
 obtain ⟨nt, fl, d⟩ := f
 obtain ⟨nx, fz, hl⟩ := h
 simp only [forceL_eq] at hq
 obtain ⟨h1, h2⟩ := hq ()
 exact meet X (fun j => ⟨nt, app (F j) (nubL dF fl), d⟩) (fun j => ⟨N, fz, app (L j) (nubL dL hl)⟩) h1 h2
theorem SemF.test {fid : FuncId} {args : List V} {h : H} {K : V → H → Prop} (hs : SemF P fid args h (fun v h' => ∃ b, (v = .bool b ∨ v = .test b) ∧ K (.test b) h')) : SemF P fid args h K := by
 refine ⟨fun c ν s as r has => ?_⟩
 obtain ⟨N, a, s', v, h', ν', q1, ⟨b, hv, hk⟩, q3, q4, q5⟩ := hs.run c ν s as r has
 refine ⟨N, a, s', .test b, h', ν', q1, hk, q3, ?_, q5⟩
 rcases hv with rfl | rfl
 ·rw [cv_bool q4]; exact mk_test
 ·exact q4
end Go.Vm2
