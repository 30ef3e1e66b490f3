/-
 Part of the proof that a machine over named lists stands for the program's runs (VwRules5). No conditions beyond those that its theorems name.
-/
import Derived.Test.YtjljleemknmgoaaVwRules3
namespace Go.Vm2
open Go Go.Vm
set_option linter.unusedVariables false
set_option linter.unusedSectionVars false
variable [Facts] [Val] [Sound] {P : Program} {tt : TT} {c : Px} {ν : Nu}
def Ret (n : Nat) (Q : V → H → Prop) : V → H → Prop := fun v h' =>
 ∃ (θ : Th) (v1 : V) (h1 : H), okTh n h1.nx h'.nx h1.fz θ = true ∧ Nat.ble n h1.nx = true ∧ namesOk h1.nx h1.l = true ∧ h1.fz = h'.fz ∧ sameV θ v1 v ∧ sameH θ h'.l h1.l ∧ Q v1 h1
theorem SemF.ret {fid : FuncId} {args : List V} {h : H} {Q : V → H → Prop} (hs : SemF P fid args h (Ret h.nx Q)) : SemF P fid args h Q := by
 refine ⟨fun c ν s as r has => ?_⟩
 obtain ⟨N, a, s', v, h', ν', q1, ⟨θ, v1, h1, w1, w2, w3, w4, w5, w6, w7⟩, q3, q4, q5⟩ := hs.run c ν s as r has
 have hle := Nat.le_of_ble_eq_true w2
 have hp := r.p_le
 have r0 : R { c with p := h.nx, lo := s.n } ν' h' s' := ⟨q3.ok, q3.obj, q3.lt, q3.sep, q3.gsep, q3.froz, q3.kin, q3.th, q3.tc, q5.nx, q5.n, fun x B b h1 h2 h3 => q5.new x B b h1 h2 h3, q3.blk, q3.snap, q3.gr.gl, q3.gr.ga, q3.gr.gg, q3.gr.tk⟩
 have r1 := R.ren (c := { c with p := h.nx, lo := s.n }) (h := h1) r0 w1 hle q5.nx w3 w4 w6
 have hν : Nu.le h.nx ν (ν'.ren h.nx h1.nx θ) := ⟨fun x hx => by rw [Nu.ren_f, if_pos hx]; exact q5.same x hx, q5.same.G⟩
 refine ⟨N, a, s', v1, h1, ν'.ren h.nx h1.nx θ, q1, w7, ?_, sameV_ok w1 w5 q4, ⟨hν, hle, by rw [w4]; exact q5.fz, q5.n, fun x B b e1 e2 e3 => r1.new x B b e1 e2 e3⟩⟩
 refine ⟨r1.ok, r1.obj, r1.lt, r1.sep, r1.gsep, r1.froz, r1.kin, r1.th, r1.tc, Nat.le_trans hp hle, Nat.le_trans r.lo_le q5.n, ?_, r1.blk, r1.snap, r1.gr.gl, r1.gr.ga, r1.gr.gg, r1.gr.tk⟩
 intro x B b e1 e2 e3
 rcases Nat.lt_or_ge x h.nx with e | e
 ·exact r.new x B b e1 e (by rw [← hν x e]; exact e3)
 ·exact Nat.le_trans r.lo_le (r1.new x B b e e2 e3)
def okNew (m n k n' : Nat) : Th → Bool
 | [] => true
 | (x, none) :: θ => Nat.ble m x && Nat.blt x n && okNew m n k n' θ
 | (x, some y) :: θ => Nat.ble m x && Nat.blt x n && Nat.ble k y && Nat.blt y n' && noDup y θ && okNew m n k n' θ
theorem okNew_ok {m n k n' : Nat} : ∀ {θ : Th}, okNew m n k n' θ = true → okTh 0 n n' k θ = true
 | [], h => rfl
 | (x, none) :: θ, h => by
  simp only [okNew, Bool.and_eq_true] at h
  simp only [okTh, Bool.and_eq_true]
  exact ⟨⟨h.1.2, Nat.ble_eq_true_of_le (Nat.zero_le _)⟩, okNew_ok h.2⟩
 | (x, some y) :: θ, h => by
  simp only [okNew, Bool.and_eq_true] at h
  simp only [okTh, Bool.and_eq_true, Bool.or_eq_true]
  obtain ⟨⟨⟨⟨⟨h1, h2⟩, h3⟩, h4⟩, h5⟩, h6⟩ := h
  exact ⟨⟨⟨⟨⟨h2, h4⟩, .inr ⟨Nat.ble_eq_true_of_le (Nat.zero_le _), Nat.ble_eq_true_of_le (Nat.zero_le _)⟩⟩, .inr h3⟩, h5⟩, okNew_ok h6⟩
theorem okNew_look {m n k n' : Nat} : ∀ {θ : Th} {x : Nat} {o : Option Nat}, okNew m n k n' θ = true → look θ x = some o → m ≤ x ∧ ∀ y, o = some y → k ≤ y ∧ y < n'
 | [], x, o, h, e => by simp [look] at e
 | (z, none) :: θ, x, o, h, e => by
  simp only [okNew, Bool.and_eq_true] at h
  rw [look_cons] at e
  split at e
  ·rename_i e'; subst e'; simp at e; subst e
   exact ⟨Nat.le_of_ble_eq_true h.1.1, fun y hy => by cases hy⟩
  ·exact okNew_look h.2 e
 | (z, some y) :: θ, x, o, h, e => by
  simp only [okNew, Bool.and_eq_true] at h
  rw [look_cons] at e
  split at e
  ·rename_i e'; subst e'; simp at e; subst e
   obtain ⟨⟨⟨⟨⟨h1, h2⟩, h3⟩, h4⟩, h5⟩, h6⟩ := h
   exact ⟨Nat.le_of_ble_eq_true h1, fun y' hy => by cases hy; exact ⟨Nat.le_of_ble_eq_true h3, Nat.lt_of_succ_le (Nat.le_of_ble_eq_true h4)⟩⟩
  ·exact okNew_look h.2 e
mutual
def namesGe (m : Nat) : V → Bool
 | .ptr x _ | .eptr x _ _ _ | .slc x _ _ _ | .grw x _ | .mp x | .yld x => Nat.ble m x
 | .fn _ a d => namesGes m a && namesGes m d
 | .agg cs => namesGes m cs
 | .tup cs => namesGes m cs
 | _ => true
def namesGes (m : Nat) : List V → Bool
 | [] => true
 | v :: vs => namesGe m v && namesGes m vs
end
mutual
theorem namesGe_cv {m n : Nat} {ν ν' : Nu} (hν : ∀ x, m ≤ x → ν' x = ν x) (hg : ∀ b o, ν.G b = some o → ν'.G b = some o) : ∀ {v : V} {a : AV}, namesGe m v = true → Cv n ν v a → Cv n ν' v a
 | .int _ _, a, h, hc => by simpa only [Cv] using hc
 | .bool _, a, h, hc => by simpa only [Cv] using hc
 | .test _, a, h, hc => by simpa only [Cv] using hc
 | .str _, a, h, hc => by simpa only [Cv] using hc
 | .nilp, a, h, hc => by simpa only [Cv] using hc
 | .nils, a, h, hc => by simpa only [Cv] using hc
 | .nilm, a, h, hc => by simpa only [Cv] using hc
 | .nilf, a, h, hc => by simpa only [Cv] using hc
 | .nili, a, h, hc => by simpa only [Cv] using hc
 | .ptr x o, a, h, hc => by simp only [Cv] at hc ⊢; rw [hν x (Nat.le_of_ble_eq_true h)]; exact hc
 | .eptr x i z o, a, h, hc => by simp only [Cv] at hc ⊢; rw [hν x (Nat.le_of_ble_eq_true h)]; exact hc
 | .slc x z o len, a, h, hc => by simp only [Cv] at hc ⊢; rw [hν x (Nat.le_of_ble_eq_true h)]; exact hc
 | .grw x len, a, h, hc => by simp only [Cv] at hc ⊢; rw [hν x (Nat.le_of_ble_eq_true h)]; exact hc
 | .mp x, a, h, hc => by simp only [Cv] at hc ⊢; rw [hν x (Nat.le_of_ble_eq_true h)]; exact hc
 | .yld x, a, h, hc => by simp only [Cv] at hc ⊢; rw [hν x (Nat.le_of_ble_eq_true h)]; exact hc
 | .fn f x d, a, h, hc => by
  simp only [namesGe, Bool.and_eq_true] at h
  simp only [Cv] at hc ⊢
  obtain ⟨as, cs, rfl, k1, k2⟩ := hc
  exact ⟨as, cs, rfl, namesGes_cv hν hg h.1 k1, namesGes_cv hν hg h.2 k2⟩
 | .agg cs, a, h, hc => by
  simp only [namesGe] at h
  simp only [Cv] at hc ⊢
  obtain ⟨as, rfl, k1⟩ := hc
  exact ⟨as, rfl, namesGes_cv hν hg h k1⟩
 | .tup cs, a, h, hc => by
  simp only [namesGe] at h
  simp only [Cv] at hc ⊢
  obtain ⟨as, rfl, k1⟩ := hc
  exact ⟨as, rfl, namesGes_cv hν hg h k1⟩
 | .lst κ e x, a, h, hc => by simp only [Cv] at hc ⊢; exact hc.mono hg
 | .gptr κ e x i o, a, h, hc => by
  simp only [Cv] at hc ⊢
  obtain ⟨B, b0, h1, h2, h3⟩ := hc
  exact ⟨B, b0, h1.mono hg, h2, h3⟩
theorem namesGes_cv {m n : Nat} {ν ν' : Nu} (hν : ∀ x, m ≤ x → ν' x = ν x) (hg : ∀ b o, ν.G b = some o → ν'.G b = some o) : ∀ {vs : List V} {as : List AV}, namesGes m vs = true → Cvs n ν vs as → Cvs n ν' vs as
 | [], as, h, hc => by rw [hc.inv0]; exact Cvs.nil
 | v :: vs, as, h, hc => by
  simp only [namesGes, Bool.and_eq_true] at h
  obtain ⟨a, as', rfl, h2, h3⟩ := hc.inv
  exact Cvs.cons (namesGe_cv hν hg h.1 h2) (namesGes_cv hν hg h.2 h3)
end
def ownArrs (m : Nat) : List (Nat × Ob) → Bool
 | [] => true
 | (x, o) :: l => (match o with
  | .arr _ md _ => modeOwn md && Nat.ble m x
  | .cells cs => namesGes m cs && Nat.ble m x
  | _ => false) && ownArrs m l
theorem ownArrs_look {m : Nat} : ∀ {l : List (Nat × Ob)} {x : Nat} {o : Ob}, ownArrs m l = true → look l x = some o → m ≤ x ∧ o.own = true ∧ ((∃ ks md a, o = .arr ks md a) ∨ (∃ cs, o = .cells cs ∧ namesGes m cs = true))
 | [], x, o, h, e => by simp [look] at e
 | (z, q) :: l, x, o, h, e => by
  simp only [ownArrs, Bool.and_eq_true] at h
  rw [look_cons] at e
  split at e
  ·rename_i e'; subst e'; simp at e; subst e
   have h1 := h.1
   split at h1
   ·rename_i ks md a
    simp only [Bool.and_eq_true] at h1
    refine ⟨Nat.le_of_ble_eq_true h1.2, ?_, .inl ⟨ks, md, a, rfl⟩⟩
    cases md <;> first | rfl | (cases h1.1)
   ·rename_i cs
    simp only [Bool.and_eq_true] at h1
    exact ⟨Nat.le_of_ble_eq_true h1.2, rfl, .inr ⟨cs, rfl, h1.1⟩⟩
   ·cases h1
  ·exact ownArrs_look h.2 e
theorem look_app {α : Type} : ∀ (l m : List (Nat × α)) (x : Nat), look (app l m) x = (match look l x with | some o => some o | none => look m x)
 | [], m, x => rfl
 | (y, o) :: l, m, x => by
  simp only [app]
  rw [look_cons, look_cons]
  split
  ·rfl
  ·exact look_app l m x
theorem sameC_arr {n n' : Nat} {ν ν' : Nu} {x : Nat} {ks : List CK} {md : Mode} {a : AC} {g : Nat → Option AO} (h : Held n ν x (.arr ks md a) g) (e : ν' x = ν x) : Held n' ν' x (.arr ks md a) g := by
 obtain ⟨h1, h2⟩ := h
 exact ⟨h1, by rw [e]; exact h2⟩
theorem R.join {c c0 : Px} {ν ν' : Nu} {h : H} {n2 fz2 k : Nat} {L : List (Nat × Ob)} {s : St} (r : R c ν h s) (r' : R c0 ν' ⟨n2, fz2, L⟩ s) (hn : h.nx ≤ n2) (hf2 : fz2 ≤ h.nx) (hL : ownArrs h.nx L = true)
  (hold : ∀ x o B b, h.get x = some o → o.live = true → ν x = some (B, b) → (c0.G B).isSome = true) (hG : ∀ b, (c.G b).isSome = true → (c0.G b).isSome = true)
  (hk : ∀ x B b, x < h.nx → ν x = some (B, b) → B < k) (hk' : ∀ x B b, h.nx ≤ x → x < n2 → ν' x = some (B, b) → k ≤ B) (hTH : ∀ D, c.TH D → c0.TH D) (hlo : c.lo ≤ k)
  (hGG : ∀ b o, ν.G b = some o → ν'.G b = some o) (hQ : ∀ b, c0.Q b → (ν.G b).isSome = true) (hnf : c.nf → c0.nf) :
  R c ⟨fun x => if x < h.nx then ν x else ν' x, ν'.G⟩ ⟨n2, h.fz, app L h.l⟩ s := by
 have e1 : ∀ x, x < h.nx → (if x < h.nx then ν x else ν' x) = ν x := fun x hx => if_pos hx
 have e2 : ∀ x, h.nx ≤ x → (if x < h.nx then ν x else ν' x) = ν' x := fun x hx => if_neg (by omega)
 have cas : ∀ x o, H.get ⟨n2, h.fz, app L h.l⟩ x = some o → (h.nx ≤ x ∧ look L x = some o ∧ o.own = true ∧ ((∃ ks md a, o = .arr ks md a) ∨ (∃ cs, o = .cells cs ∧ namesGes h.nx cs = true))) ∨ (x < h.nx ∧ h.get x = some o) := by
  intro x o hx
  unfold H.get at hx
  simp only [] at hx
  rw [look_app] at hx
  split at hx
  ·rename_i q hq
   cases hx
   obtain ⟨k1, k2, k3⟩ := ownArrs_look hL hq
   exact .inl ⟨k1, hq, k2, k3⟩
  ·exact .inr ⟨r.lt x o hx, hx⟩
 have new : ∀ x o B b, look L x = some o → h.nx ≤ x → ν' x = some (B, b) → k ≤ B := fun x o B b h1 h2 h3 => hk' x B b h2 (r'.lt x o h1) h3
 refine ⟨r.ok, ?_, ?_, ?_, ?_, r.froz, r.kin, ?_, r.tc, Nat.le_trans r.p_le hn, r.lo_le, ?_, ?_, r.snap, r'.gr.gl, ?_, ?_, ?_⟩
 ·intro x o hx
  rcases cas x o hx with ⟨k1, k2, k3, ⟨ks, md, a, rfl⟩ | ⟨cs, rfl, k4⟩⟩ | ⟨k1, k2⟩
  ·exact sameC_arr (r'.obj x _ k2) (e2 x k1)
  ·obtain ⟨B, av0, e, z, g1, g2, g3⟩ := r'.obj x _ k2
   exact ⟨B, av0, e, z, (e2 x k1).trans g1, g2, namesGes_cv (ν := ν') (ν' := ⟨fun x => if x < h.nx then ν x else ν' x, ν'.G⟩) (fun y hy => e2 y hy) (fun _ _ h => h) k4 g3⟩
  ·exact (r.obj x o k2).mono k1 ⟨fun x hx => e1 x hx, hGG⟩ hn (fun _ _ _ => rfl)
 ·intro x o hx
  rcases cas x o hx with ⟨k1, k2, _⟩ | ⟨k1, k2⟩
  ·exact r'.lt x o k2
  ·exact Nat.lt_of_lt_of_le k1 hn
 ·intro x y o o' B B' b b' hxy hx hy hf hown hl hB hB'
  simp only [] at hB hB' hf
  rcases cas x o hx with ⟨k1, k2, k3, _⟩ | ⟨k1, k2⟩
  ·rw [e2 x k1] at hB
   rcases cas y o' hy with ⟨m1, m2, m3, _⟩ | ⟨m1, m2⟩
   ·rw [e2 y m1] at hB'
    exact r'.sep x y o o' B B' b b' hxy k2 m2 (by simp only []; omega) hown hl hB hB'
   ·rw [e1 y m1] at hB'
    exact r'.gsep x o B b B' k2 (by simp only []; omega) hown hB (hold y o' B' b' m2 hl hB')
  ·rw [e1 x k1] at hB
   rcases cas y o' hy with ⟨m1, m2, m3, _⟩ | ⟨m1, m2⟩
   ·rw [e2 y m1] at hB'
    have := r'.gsep y o' B' b' B m2 (by simp only []; omega) m3 hB' (hold x o B b k2 (own_live _ hown) hB)
    exact ⟨fun e => this.1 e.symm, fun e => this.2 e.symm⟩
   ·rw [e1 y m1] at hB'
    exact r.sep x y o o' B B' b b' hxy k2 m2 hf hown hl hB hB'
 ·intro x o B b b' hx hf hown hB hGb
  simp only [] at hB hf
  rcases cas x o hx with ⟨k1, k2, k3, _⟩ | ⟨k1, k2⟩
  ·rw [e2 x k1] at hB
   exact r'.gsep x o B b b' k2 (by simp only []; omega) hown hB (hG b' hGb)
  ·rw [e1 x k1] at hB
   exact r.gsep x o B b b' k2 hf hown hB hGb
 ·intro D hD
  obtain ⟨h1, h2, h3, h4⟩ := r.th D hD
  refine ⟨h1, h2, h3, fun x o B b hx hf hown hB => ?_⟩
  simp only [] at hB hf
  rcases cas x o hx with ⟨k1, k2, k3, _⟩ | ⟨k1, k2⟩
  ·rw [e2 x k1] at hB
   exact (r'.th D (hTH D hD)).2.2.2 x o B b k2 (by simp only []; omega) hown hB
  ·rw [e1 x k1] at hB
   exact h4 x o B b k2 hf hown hB
 ·intro x B b hx hlt hB
  simp only [] at hB hlt
  rcases Nat.lt_or_ge x h.nx with e | e
  ·rw [e1 x e] at hB; exact r.new x B b hx e hB
  ·rw [e2 x e] at hB; exact Nat.le_trans hlo (hk' x B b e hlt hB)
 ·intro x B b hlt hB
  simp only [] at hB hlt
  rcases Nat.lt_or_ge x h.nx with e | e
  ·rw [e1 x e] at hB; exact r.blk x B b e hB
  ·rw [e2 x e] at hB; exact r'.blk x B b hlt hB
 ·intro x o B b b' hx hf hown hB hGb
  simp only [] at hB hf hGb
  rcases cas x o hx with ⟨k1, k2, k3, _⟩ | ⟨k1, k2⟩
  ·rw [e2 x k1] at hB
   exact r'.gr.ga x o B b b' k2 (by simp only []; omega) hown hB hGb
  ·rw [e1 x k1] at hB
   rcases r'.gr.gg b' hGb with q | ⟨_, q, _⟩
   ·exact r.gr.ga x o B b b' k2 hf hown hB (hQ b' q)
   ·have := q B (hold x o B b k2 (own_live _ hown) hB)
    exact ⟨fun e => this.1 e.symm, fun e => this.2 e.symm⟩
 ·intro b hb
  rcases r'.gr.gg b hb with q | ⟨q1, q2, q3⟩
  ·exact r.gr.gg b (hQ b q)
  ·exact .inr ⟨fun e => q1 (hnf e), fun b' hb' => q2 b' (hG b' hb'), fun D hD => q3 D (hTH D hD)⟩
 ·intro hn' x hx
  rcases cas x _ hx with ⟨k1, k2, k3, _⟩ | ⟨k1, k2⟩
  ·cases k3
  ·exact r.gr.tk hn' x k2
theorem call_new {fid : FuncId} {args0 args : List V} {h0 h : H} {Q : V → H → Prop} {K : V → H → Prop} (θ : Th) (hc : SemF P fid args0 h0 Q) (hfz : h0.fz = h0.nx)
  (ho : okTh 0 h0.nx h.nx h0.nx θ = true) (hns : namesOk h0.nx h0.l = true) (hle : Nat.ble h0.nx h.nx = true) (hH : sameH θ h.l h0.l) (ha : sameVs θ args0 args)
  (hK : ∀ v h', Q v h' → ∃ (θ' : Th) (n2 : Nat) (L : List (Nat × Ob)) (v2 : V), okNew h.nx n2 h0.nx h'.nx θ' = true ∧ Nat.ble h.nx n2 = true ∧ namesOk n2 L = true ∧ ownArrs h.nx L = true ∧ namesGe h.nx v2 = true ∧ sameV θ' v2 v ∧ sameH θ' h'.l L ∧ K v2 ⟨n2, h.fz, app L h.l⟩) : SemF P fid args h K := by
 refine ⟨fun c ν s as r has => ?_⟩
 let M := max h.nx h0.nx
 let c0 : Px := { c with G := s.get, Q := fun b => (ν.G b).isSome = true, p := 0, lo := 0 }
 have r1 : R c0 ν ⟨h.nx, M, h.l⟩ s := by
  have rf := r.freeze (fz := M) (Nat.le_max_left _ _)
  refine ⟨rf.ok, rf.obj, rf.lt, rf.sep, ?_, fun _ _ e => e, rf.kin, rf.th, rf.tc, Nat.zero_le _, Nat.zero_le _, fun _ _ _ _ _ _ => Nat.zero_le _, rf.blk, rf.snap, rf.gr.gl, rf.gr.ga, fun b hb => .inl hb, rf.gr.tk⟩
  intro x o B b b' hx hf _ _ _
  have h1 : x < h.nx := rf.lt x o hx
  have h2 : h.nx ≤ M := Nat.le_max_left h.nx h0.nx
  have h3 : M ≤ x := hf
  omega
 have r2 := R.ren (h := ⟨h0.nx, M, h0.l⟩) (θ := θ) r1 (okTh_fz ho (Nat.le_max_right _ _)) (Nat.zero_le _) (Nat.zero_le _) hns rfl hH
 have r3 : R c0 (ν.ren 0 h0.nx θ) h0 s := by
  have := r2.freeze (fz := h0.nx) (Nat.le_refl _)
  obtain ⟨nx, fz, l⟩ := h0
  simp only [] at hfz
  subst hfz
  exact this
 have has2 : Cvs h0.nx (ν.ren 0 h0.nx θ) args0 as := sameVs_ok ho ha has
 obtain ⟨N, a, s', v, h', ν', ⟨os, q1, rfl⟩, q3, q4, q5, q6⟩ := hc.run _ _ s as r3 has2
 obtain ⟨θ', n2, L, v2, w1, w2, w3, w4, w5, w6, w7, w8⟩ := hK v h' q3
 have hle := Nat.le_of_ble_eq_true hle
 have hn2 := Nat.le_of_ble_eq_true w2
 have old : ∀ b o, s.get b = some o → (os.getD s).get b = some o := fun b o e => q4.froz b o e
 have rs : R c ν h (os.getD s) := by
  refine r.swap r.p_le (Nat.le_trans r.lo_le q6.n) q6.n r.new q4.ok ?_ (fun b o e => ⟨old b o (r.froz b o e), r.froz b o e⟩) (fun _ _ e => e) q4.kin ?_ ?_ ?_ ?_
  ·intro x o B b hx hl hB
   obtain ⟨q, hq⟩ := (r.obj x o hx).here hl hB
   rw [hq]; exact old B q hq
  ·intro D hD
   obtain ⟨h1, h2, h3, h4⟩ := q4.th D hD
   exact ⟨hD, h1, h2, h3⟩
  ·intro D hD
   exact q4.tc D hD
  ·exact q4.snap
  ·have fe : ∀ b o, s.get b = some o → fam (os.getD s) b = fam s b := fun b o h1 => by unfold fam; rw [h1, old b o h1]
   refine ⟨fun b o hb => old b o (r.gr.gl b o hb), fun b hb => ?_, r.gr.tk⟩
   obtain ⟨o, ho⟩ := Option.isSome_iff_exists.1 hb
   rcases r.gr.gg b hb with k | ⟨k1, k2, k3⟩
   ·exact .inl k
   ·refine .inr ⟨k1, fun b' hb' => ?_, fun D hD => ?_⟩
    ·obtain ⟨o', ho'⟩ := Option.isSome_iff_exists.1 hb'
     rw [fe b o (r.gr.gl b o ho), fe b' o' (r.froz b' o' ho')]; exact k2 b' hb'
    ·rw [fe b o (r.gr.gl b o ho)]; exact k3 D hD
 have hfz' : h'.fz = h0.nx := by rw [q6.fz, hfz]
 have w1' := okNew_ok w1
 have rn : R c0 (ν'.ren 0 n2 θ') ⟨n2, h'.fz, L⟩ (os.getD s) := R.ren (h := ⟨n2, h'.fz, L⟩) q4 (by rw [← hfz'] at w1'; exact w1') (Nat.zero_le _) (Nat.zero_le _) w3 rfl w7
 have newB : ∀ x B b, h.nx ≤ x → x < n2 → ν'.ren 0 n2 θ' x = some (B, b) → s.n ≤ B := by
  intro x B b h1 h2 h3
  rw [Nu.ren_f] at h3
  rw [if_neg (by omega), if_pos h2] at h3
  split at h3
  ·rename_i y hy
   obtain ⟨k1, k2⟩ := okNew_look w1 hy
   obtain ⟨k3, k4⟩ := k2 y rfl
   exact q6.new y B b k3 k4 h3
  ·cases h3
 have rj := R.join rs rn hn2 (by rw [hfz']; exact hle) w4 (k := s.n) (fun x o B b hx hl hB => by
   obtain ⟨q, hq⟩ := (r.obj x o hx).here hl hB
   show (s.get B).isSome = true
   rw [hq]; rfl) (fun b hb => by
   cases hcb : c.G b with
   | none => rw [hcb] at hb; cases hb
   | some o => show (s.get b).isSome = true; rw [r.froz b o hcb]; rfl) (fun x B b hx hB => r.blk x B b hx hB) newB (fun D hD => hD) r.lo_le q6.same.G (fun b hb => hb) (fun e => e)
 refine ⟨N, a, os.getD s, v2, ⟨n2, h.fz, app L h.l⟩, _, ⟨os, q1, rfl⟩, w8, rj, ?_, ⟨⟨fun x hx => if_pos hx, q6.same.G⟩, hn2, rfl, q6.n, fun x B b h1 h2 h3 => ?_⟩⟩
 ·exact namesGe_cv (ν := ν'.ren 0 n2 θ') (ν' := ⟨fun x => if x < h.nx then ν x else (ν'.ren 0 n2 θ') x, (ν'.ren 0 n2 θ').G⟩) (fun x hx => if_neg (by omega)) (fun _ _ h => h) w5 (sameV_ok w1' w6 q5)
 ·simp only [] at h3 h2
  rw [if_neg (by omega)] at h3
  exact newB x B b h1 h2 h3
end Go.Vm2
