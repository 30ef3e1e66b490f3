/-
 Part of the proof that a machine over named lists stands for the program's runs (VwRules3). No conditions beyond those that its theorems name.
-/
import Derived.Test.YtjljleemknmgoaaVwRules2
namespace Go.Vm2
open Go Go.Vm
set_option linter.unusedVariables false
set_option linter.unusedSectionVars false
variable [Facts] [Val] [Sound] {P : Program} {tt : TT} {c : Px} {ν : Nu}
def StepK (P : Program) [Facts] (p : Nat) (rnd : Option Nat) (a : Code) (K : Post) : Post := fun x f h =>
 match x with
 | .normal => Node (SemC P p rnd (.loop a) f h K)
 | .ret => K .ret f h
 | .exit n => K (.exit n) f h
theorem loop_step (ht : TTok P tt) {p : Nat} {rnd : Option Nat} {a : Code} {f : Frm} {h : H} {K : Post} (hr : W P tt p rnd a f h (StepK P p rnd a K)) : SemC P p rnd (.loop a) f h K := by
 refine ⟨fun c ν s F r hp hR hf hm hrr => ?_⟩
 obtain ⟨N, x, F', s', f', h', ν', k1, k2, k3, k4, k5, k6, k7, k8⟩ := (W_ok ht (reg_ok ht) hr).run c ν s F r hp hR hf hm hrr
 cases x with
 | normal =>
  obtain ⟨M, y, F2, s2, f2, h2, ν2, m1, m2, m3, m4, m5, m6, m7, m8⟩ := (k2 ()).run c ν' s' F' r hp k3 k4 k5 (rnd_mono k6 hrr)
  refine ⟨max N M + 1, y, F2, s2, f2, h2, ν2, ?_, m2, m3, m4, m5, k6.trans m6 (Nat.le_refl _), Nat.le_trans k7 m7, m8.trans k8⟩
  rw [evC, evC_le k1 (Nat.le_max_left _ _)]
  exact evC_le m1 (Nat.le_max_right _ _)
 | ret =>
  refine ⟨N + 1, .ret, F', s', f', h', ν', ?_, k2, k3, k4, k5, k6, k7, k8⟩
  rw [evC, k1]
 | exit n =>
  refine ⟨N + 1, .exit n, F', s', f', h', ν', ?_, k2, k3, k4, k5, k6, k7, k8⟩
  rw [evC, k1]
mutual
def nameless : V → Bool
 | .ptr _ _ | .eptr _ _ _ _ | .slc _ _ _ _ | .grw _ _ | .mp _ | .yld _ | .lst _ _ _ | .gptr _ _ _ _ _ => false
 | .fn _ a d => namelesss a && namelesss d
 | .agg cs => namelesss cs
 | .tup cs => namelesss cs
 | _ => true
def namelesss : List V → Bool
 | [] => true
 | v :: vs => nameless v && namelesss vs
end
mutual
theorem nameless_cv {n n' : Nat} {ν ν' : Nu} : ∀ {v : V} {a : AV}, nameless v = true → Cv n ν v a → Cv n' ν' v a
 | .int _ _, a, h, hc => by simpa only [Cv] using hc
 | .bool _, a, h, hc => by simpa only [Cv] using hc
 | .test _, a, h, hc => by simpa only [Cv] using hc
 | .str _, a, h, hc => by simpa only [Cv] using hc
 | .nilp, a, h, hc => by simpa only [Cv] using hc
 | .nils, a, h, hc => by simpa only [Cv] using hc
 | .nilm, a, h, hc => by simpa only [Cv] using hc
 | .nilf, a, h, hc => by simpa only [Cv] using hc
 | .nili, a, h, hc => by simpa only [Cv] using hc
 | .ptr _ _, a, h, hc => by simp [nameless] at h
 | .eptr _ _ _ _, a, h, hc => by simp [nameless] at h
 | .slc _ _ _ _, a, h, hc => by simp [nameless] at h
 | .grw _ _, a, h, hc => by simp [nameless] at h
 | .mp _, a, h, hc => by simp [nameless] at h
 | .yld _, a, h, hc => by simp [nameless] at h
 | .lst _ _ _, a, h, hc => by simp [nameless] at h
 | .gptr _ _ _ _ _, a, h, hc => by simp [nameless] at h
 | .fn f x d, a, h, hc => by
  simp only [nameless, Bool.and_eq_true] at h
  simp only [Cv] at hc ⊢
  obtain ⟨as, cs, rfl, k1, k2⟩ := hc
  exact ⟨as, cs, rfl, namelesss_cv h.1 k1, namelesss_cv h.2 k2⟩
 | .agg cs, a, h, hc => by
  simp only [nameless] at h
  simp only [Cv] at hc ⊢
  obtain ⟨as, rfl, k1⟩ := hc
  exact ⟨as, rfl, namelesss_cv h k1⟩
 | .tup cs, a, h, hc => by
  simp only [nameless] at h
  simp only [Cv] at hc ⊢
  obtain ⟨as, rfl, k1⟩ := hc
  exact ⟨as, rfl, namelesss_cv h k1⟩
theorem namelesss_cv {n n' : Nat} {ν ν' : Nu} : ∀ {vs : List V} {as : List AV}, namelesss vs = true → Cvs n ν vs as → Cvs n' ν' vs as
 | [], as, h, hc => by rw [hc.inv0]; exact Cvs.nil
 | v :: vs, as, h, hc => by
  simp only [namelesss, Bool.and_eq_true] at h
  obtain ⟨a, as', rfl, h2, h3⟩ := hc.inv
  exact Cvs.cons (nameless_cv h.1 h2) (namelesss_cv h.2 h3)
end
theorem R.freeze {h : H} {s : St} (r : R c ν h s) {fz : Nat} (hfz : h.nx ≤ fz) : R c ν ⟨h.nx, fz, h.l⟩ s := by
 refine ⟨r.ok, r.obj, r.lt, ?_, ?_, r.froz, r.kin, ?_, r.tc, r.p_le, r.lo_le, r.new, r.blk, r.snap, r.gr.gl, ?_, r.gr.gg, r.gr.tk⟩
 ·intro x y o o' B B' b b' _ hx _ hf _ _ _ _
  have := r.lt x o hx; simp only [] at hf; omega
 ·intro x o B b b' hx hf _ _ _
  have := r.lt x o hx; simp only [] at hf; omega
 ·intro D hD
  obtain ⟨h1, h2, h3, h4⟩ := r.th D hD
  refine ⟨h1, h2, h3, fun x o B b hx hf _ _ => ?_⟩
  have := r.lt x o hx; simp only [] at hf; omega
 ·intro x o B b b' hx hf _ _ _
  have := r.lt x o hx; simp only [] at hf; omega
theorem okTh_fz {p n n' fz fz' : Nat} : ∀ {θ : Th}, okTh p n n' fz θ = true → n ≤ fz' → okTh p n n' fz' θ = true
 | [], h, _ => rfl
 | (x, none) :: θ, h, k => by
  simp only [okTh, Bool.and_eq_true] at h ⊢
  exact ⟨h.1, okTh_fz h.2 k⟩
 | (x, some y) :: θ, h, k => by
  simp only [okTh, Bool.and_eq_true, Bool.or_eq_true] at h ⊢
  obtain ⟨⟨⟨⟨⟨h1, h2⟩, h3⟩, h4⟩, h5⟩, h6⟩ := h
  have hx : x < n := Nat.lt_of_succ_le (Nat.le_of_ble_eq_true h1)
  exact ⟨⟨⟨⟨⟨h1, h2⟩, h3⟩, .inl (Nat.ble_eq_true_of_le (Nat.succ_le_of_lt (Nat.lt_of_lt_of_le hx k)))⟩, h5⟩, okTh_fz h6 k⟩
theorem call_pure {fid : FuncId} {args0 args : List V} {h0 h : H} {Q : V → Prop} {K : V → H → Prop} (θ : Th) (hc : SemF P fid args0 h0 (fun v _ => Q v ∧ nameless v = true)) (hfz : h0.fz = h0.nx)
  (ho : okTh 0 h0.nx h.nx h0.nx θ = true) (hns : namesOk h0.nx h0.l = true) (hH : sameH θ h.l h0.l) (ha : sameVs θ args0 args) (hK : ∀ v, Q v → nameless v = true → K v h) : SemF P fid args h K := by
 refine ⟨fun c ν s as r has => ?_⟩
 let M := max h.nx h0.nx
 have r1 : R { c with G := s.get, Q := fun b => (ν.G b).isSome = true, p := 0, lo := 0 } ν ⟨h.nx, M, h.l⟩ s := by
  have rf := r.freeze (fz := M) (Nat.le_max_left _ _)
  refine ⟨rf.ok, rf.obj, rf.lt, rf.sep, ?_, fun _ _ e => e, rf.kin, rf.th, rf.tc, Nat.zero_le _, Nat.zero_le _, fun _ _ _ _ _ _ => Nat.zero_le _, rf.blk, rf.snap, rf.gr.gl, rf.gr.ga, fun b hb => .inl hb, rf.gr.tk⟩
  intro x o B b b' hx hf _ _ _
  have h1 : x < h.nx := rf.lt x o hx
  have h2 : h.nx ≤ M := Nat.le_max_left h.nx h0.nx
  have h3 : M ≤ x := hf
  omega
 have r2 := R.ren (h := ⟨h0.nx, M, h0.l⟩) (θ := θ) r1 (okTh_fz ho (Nat.le_max_right _ _)) (Nat.zero_le _) (Nat.zero_le _) hns rfl hH
 have r3 : R { c with G := s.get, Q := fun b => (ν.G b).isSome = true, p := 0, lo := 0 } (ν.ren 0 h0.nx θ) h0 s := by
  have := r2.freeze (fz := h0.nx) (Nat.le_refl _)
  obtain ⟨nx, fz, l⟩ := h0
  simp only [] at hfz
  subst hfz
  exact this
 have has2 : Cvs h0.nx (ν.ren 0 h0.nx θ) args0 as := sameVs_ok ho ha has
 obtain ⟨N, a, s', v, h', ν', ⟨os, q1, rfl⟩, ⟨q3, q3'⟩, q4, q5, q6⟩ := hc.run _ _ s as r3 has2
 have old : ∀ b o, s.get b = some o → (os.getD s).get b = some o := fun b o e => q4.froz b o e
 refine ⟨N, a, os.getD s, v, h, ν, ⟨os, q1, rfl⟩, hK v q3 q3', ?_, nameless_cv q3' q5, ⟨Nu.le.refl, Nat.le_refl _, rfl, q6.n, fun x B b h1 h2 => by omega⟩⟩
 refine r.swap r.p_le (Nat.le_trans r.lo_le q6.n) q6.n r.new q4.ok ?_ (fun b o e => ⟨old b o (r.froz b o e), r.froz b o e⟩) (fun _ _ e => e) q4.kin ?_ ?_ ?_ ?_
 ·intro x o B b hx hl hB
  obtain ⟨q, hq⟩ := (r.obj x o hx).here hl hB
  rw [hq]; exact old B q hq
 ·intro D hD
  obtain ⟨h1, h2, h3, h4⟩ := q4.th D hD
  exact ⟨hD, h1, h2, h3⟩
 ·intro D hD
  exact q4.tc D hD
 ·exact q4.snap
 ·have fe : ∀ b o, s.get b = some o → fam (os.getD s) b = fam s b := fun b o h1 => by unfold fam; rw [h1, old b o h1]
  refine ⟨fun b o hb => old b o (r.gr.gl b o hb), fun b hb => ?_, r.gr.tk⟩
  obtain ⟨o, ho⟩ := Option.isSome_iff_exists.1 hb
  rcases r.gr.gg b hb with k | ⟨k1, k2, k3⟩
  ·exact .inl k
  ·refine .inr ⟨k1, fun b' hb' => ?_, fun D hD => ?_⟩
   ·obtain ⟨o', ho'⟩ := Option.isSome_iff_exists.1 hb'
    rw [fe b o (r.gr.gl b o ho), fe b' o' (r.froz b' o' ho')]; exact k2 b' hb'
   ·rw [fe b o (r.gr.gl b o ho)]; exact k3 D hD
end Go.Vm2
