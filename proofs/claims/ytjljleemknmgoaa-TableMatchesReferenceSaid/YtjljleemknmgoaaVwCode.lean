/-
 Part of the proof that a machine over named lists stands for the program's runs (VwCode). No conditions beyond those that its theorems name.
-/
import Derived.Test.YtjljleemknmgoaaVwPrim6
namespace Go.Vm2
open Go Go.Vm
set_option linter.unusedVariables false
set_option linter.unusedSectionVars false
variable [Facts] {P : Program} {tt : TT} {c : Px} {ν : Nu} {h : H} {s : St}
theorem appV_ok {a b d : List V} {K : List V → Prop} (hK : appV a b d K) : K (a ++ b ++ d) := by
 unfold appV at hK
 split at hK
 ·rw [forceL_eq] at hK; simpa using hK
 ·rw [forceL_eq] at hK; exact hK
theorem oper_ok (ht : TTok P tt) (r : R c ν h s) {f : Frm} {F : Fr} (hf : FrRel h.nx ν f.nt f.l F.t) {o : Oper} {K : V → H → Prop} (hK : operV P tt o f h K) : ∃ N, Made (evP P N o F s) c ν h s K := by
 obtain ⟨nt, l, d⟩ := f
 simp only [operV] at hK
 split at hK
 ·rename_i cl hop
  split at hK
  ·rename_i g hcal
   split at hK
   ·rename_i fid fst cap hg
    split at hK
    ·rename_i as has
     have hK := appV_ok hK
     obtain ⟨a, k1, k2⟩ := eval_cv hf hg
     simp only [Cv] at k2
     obtain ⟨fs, cs, rfl, k3, k4⟩ := k2
     obtain ⟨bs, k5, k6⟩ := evals_cv hf has
     obtain ⟨N, a, s', v, h', ν', ⟨os, q1, rfl⟩, q3, q4, q5, q6⟩ := (hK ()).run c ν s _ r ((k3.append k6).append k4)
     refine ⟨N + 1, a, os, v, h', ν', ?_, q3, q4, q5, q6⟩
     rw [evP]
     simp only [hop, hcal, k1, k5]
     exact q1
    ·exact hK.elim
   ·rename_i x hg
    split at hK
    ·rename_i as has
     rw [forceL_eq] at hK
     obtain ⟨a, k1, k2⟩ := eval_cv hf hg
     simp only [Cv] at k2
     obtain ⟨h0, B, b0, hB, rfl⟩ := k2
     obtain ⟨bs, k5, k6⟩ := evals_cv hf has
     obtain ⟨N, a, s', v, h', ν', ⟨os, q1, rfl⟩, q3, q4, q5, q6⟩ := (hK ()).run c ν s _ B b0 r k6 h0 hB
     refine ⟨N + 1, a, os, v, h', ν', ?_, q3, q4, q5, q6⟩
     rw [evP]
     simp only [hop, hcal, k1, k5]
     exact q1
    ·exact hK.elim
   ·exact hK.elim
  ·rename_i hne
   have := prim_ok ht r hf hK
   refine ⟨1, ?_⟩
   rw [evP]
   simp only [hop]
   rw [hop] at this
   exact this
 ·rename_i hne
  have := prim_ok ht r hf hK
  refine ⟨1, ?_⟩
  rw [evP]
  split
  ·rename_i cl hc; exact absurd hc (hne cl)
  ·exact this
theorem put_ok {n : Nat} {ν : Nu} {f : Frm} {F : Fr} (hf : FrRel n ν f.nt f.l F.t) {dst : Option Tmp} {v : V} {a : AV} (hv : Cv n ν v a) {K : Frm → Prop} (hK : f.put dst v K) : ∃ f', K f' ∧ FrRel n ν f'.nt f'.l (F.put dst a).t ∧ f'.d = f.d ∧ f'.nt = f.nt := by
 obtain ⟨nt, l, d⟩ := f
 simp only [Frm.put] at hK
 split at hK
 ·exact ⟨_, hK, hf, rfl, rfl⟩
 ·split at hK
  ·rename_i e
   refine ⟨_, hK, ?_, rfl, rfl⟩
   have h1 := hf.put (Nat.lt_of_succ_le (Nat.le_of_ble_eq_true e)) hv
   rw [← setF_eq] at h1
   exact h1
  ·exact hK.elim
theorem put_d {F : Fr} {dst : Option Tmp} {a : AV} : (F.put dst a).d = F.d := by cases dst <;> rfl
theorem wanted_ok {n : Nat} {ν : Nu} {f : Frm} {F : Fr} (hf : FrRel n ν f.nt f.l F.t) {all : List Oper} {o : Oper} {yes no : Frm → Prop} (hK : wantedV all f o yes no) :
  (wantedA all F.t o = true ∧ ∃ f', yes f' ∧ FrRel n ν f'.nt f'.l F.t ∧ f'.d = f.d ∧ f'.nt = f.nt) ∨ (wantedA all F.t o = false ∧ ∃ f', no f' ∧ FrRel n ν f'.nt f'.l F.t ∧ f'.d = f.d ∧ f'.nt = f.nt) := by
 obtain ⟨nt, l, d⟩ := f
 unfold wantedV at hK
 unfold wantedA
 simp only [getF_eq]
 split at hK
 ·rename_i hg; simp only [hg]; exact .inl ⟨(by first | trivial | rfl), _, hK, hf, rfl, rfl⟩
 ·rename_i j want hg
  simp only [hg]
  rw [nth_eq] at hK
  split at hK
  ·rename_i q hq
   rw [hq]
   simp only []
   split at hK
   ·rename_i i hd
    simp only [hd]
    dsimp only at hK
    split at hK
    ·rename_i b hb
     obtain ⟨a, h1, h2⟩ := hf.2 i _ hb
     have := cv_bool h2; subst this
     simp only [h1]
     split at hK
     ·exact .inl ⟨rfl, _, hK, hf, rfl, rfl⟩
     ·exact .inl ⟨rfl, _, hK, hf, rfl, rfl⟩
     ·rename_i n1 n2
      refine .inr ⟨?_, _, hK, hf, rfl, rfl⟩
      cases b <;> cases want <;> first | rfl | exact absurd rfl (n1 rfl) | exact absurd rfl (n2 rfl) | (exact (n1 rfl rfl).elim) | (exact (n2 rfl rfl).elim)
    ·rename_i b hb
     obtain ⟨a, h1, h2⟩ := hf.2 i _ hb
     have := cv_test h2; subst this
     simp only [h1]
     split at hK
     ·rcases hK.get with ⟨e, k⟩ | ⟨e, k⟩
      ·subst e; exact .inl ⟨rfl, _, k, hf.know hb rfl, rfl, rfl⟩
      ·subst e; exact .inr ⟨rfl, _, k, hf.know hb rfl, rfl, rfl⟩
     ·rcases hK.get with ⟨e, k⟩ | ⟨e, k⟩
      ·subst e; exact .inr ⟨rfl, _, k, hf.know hb rfl, rfl, rfl⟩
      ·subst e; exact .inl ⟨rfl, _, k, hf.know hb rfl, rfl, rfl⟩
    ·rename_i hb
     obtain ⟨a, h1, h2⟩ := hf.2 i _ hb
     simp only [Cv] at h2
     obtain ⟨as, rfl, h3⟩ := h2
     simp only [h1]
     exact .inr ⟨(by first | trivial | rfl), _, hK, hf, rfl, rfl⟩
    ·exact hK.elim
   ·rename_i hd
    simp only [hd]
    exact .inr ⟨(by first | trivial | rfl), _, hK, hf, rfl, rfl⟩
  ·rename_i hq
   rw [hq]
   exact .inr ⟨(by first | trivial | rfl), _, hK, hf, rfl, rfl⟩
theorem aundef_cv {n : Nat} {ν : Nu} : Cv n ν (.tup []) aundef := by simp only [Cv]; exact ⟨[], rfl, Cvs.nil⟩
theorem extSig_inv {op : Op} {g : FuncId} {args : List Operand} (h : extSig tt op = some (g, args)) : ∃ c, op = .call c ∧ c.callee = .value (.func g) ∧ c.args.toList = args := by
 unfold extSig at h
 split at h
 ·rename_i c
  split at h
  ·rename_i g' hg
   split at h
   ·split at h
    ·split at h
     ·simp only [Option.some.injEq, Prod.mk.injEq] at h
      obtain ⟨rfl, rfl⟩ := h
      exact ⟨c, rfl, hg, rfl⟩
     ·cases h
    ·cases h
   ·cases h
  ·cases h
 ·cases h
theorem ext_is {fn : Func} {vs : List V} {r : V} {n : Nat} {ν : Nu} {as : List AV} (h : ExtIs fn vs r) (hc : Cvs n ν vs as) : ∃ a, extA fn as = some a ∧ Cv n ν r a := by
 obtain ⟨l, c, rfl, h⟩ := h
 obtain ⟨a1, as1, rfl, h1, hc⟩ := hc.inv
 obtain ⟨a2, as2, rfl, h2, hc⟩ := hc.inv
 have e0 := hc.inv0
 have e1 := cv_str h1
 have e2 := cv_int h2
 subst e0; subst e1; subst e2
 rcases h with ⟨ho, hn, rfl⟩ | ⟨ho, hn, rfl⟩
 ·exact ⟨_, by unfold extA; rw [if_pos (by rw [ho, hn]; kernel_rfl)], mk_int⟩
 ·exact ⟨_, by unfold extA; rw [if_neg (by rw [ho, hn]; exact Bool.false_ne_true ∘ (show (("" == "") && (idxName == cntName)) = false by kernel_rfl).symm.trans), if_pos (by rw [ho, hn]; kernel_rfl)], mk_int⟩
theorem step_ok (ht : TTok P tt) {o : Oper} {ν : Nu} {h : H} {s : St} {f : Frm} {F : Fr} {K : V → H → Prop} (r : R c ν h s) (hf : FrRel h.nx ν f.nt f.l F.t) (hK : stepV P tt o f h K) :
  ∃ N a os v h' ν', ((seqA P F.t s o.op = none ∧ evP P N o F s = some (a, os)) ∨ (seqA P F.t s o.op = some a ∧ os = none)) ∧ K v h' ∧ R c ν' h' (os.getD s) ∧ Cv h'.nx ν' v a ∧ Ex h ν s h' ν' (os.getD s) := by
 unfold stepV at hK
 split at hK
 ·rename_i g args hx
  obtain ⟨nt, l, dd⟩ := f
  simp only [] at hK
  rcases hK () with ⟨fn, vs, u, q1, q2, q3, q4, q5⟩ | hK
  ·obtain ⟨c', ho, hg, rfl⟩ := extSig_inv hx
   obtain ⟨as, k1, k2⟩ := evals_cv hf q3
   obtain ⟨a, k3, k4⟩ := ext_is q4 k2
   refine ⟨0, a, none, u, h, ν, .inr ⟨?_, rfl⟩, q5, r, k4, Ex.refl h ν s⟩
   rw [ho]
   unfold seqA
   simp only [hg, q1, q2, k1, k3]
  ·obtain ⟨N1, a, os, v, h1, ν1, e1, e2, e3, e4, e5⟩ := oper_ok ht r hf hK
   exact ⟨N1, a, os, v, h1, ν1, .inl ⟨seqA_none e1, e1⟩, e2, e3, e4, e5⟩
 ·obtain ⟨N1, a, os, v, h1, ν1, e1, e2, e3, e4, e5⟩ := oper_ok ht r hf hK
  exact ⟨N1, a, os, v, h1, ν1, .inl ⟨seqA_none e1, e1⟩, e2, e3, e4, e5⟩
theorem ops_ok (ht : TTok P tt) {all : List Oper} {rr : Option Nat} : ∀ {l : List Oper} {ν : Nu} {h : H} {s : St} {f : Frm} {F : Fr} {K : Frm → H → Prop}, R c ν h s → FrRel h.nx ν f.nt f.l F.t → opsV P tt all l f h K →
  ∃ N F' s' f' h' ν', evO P rr N all l F s = some (F', s') ∧ K f' h' ∧ R c ν' h' s' ∧ FrRel h'.nx ν' f'.nt f'.l F'.t ∧ F'.d = F.d ∧ f'.d = f.d ∧ Ex h ν s h' ν' s'
 | [], ν, h, s, f, F, K, r, hf, hK => ⟨1, F, s, f, h, ν, rfl, hK, r, hf, rfl, rfl, Ex.refl h ν s⟩
 | o :: l, ν, h, s, f, F, K, r, hf, hK => by
  rw [opsV_cons] at hK
  rcases wanted_ok hf hK with ⟨hw, f1, k1, k2, k3, k4⟩ | ⟨hw, f1, k1, k2, k3, k4⟩
  ·obtain ⟨N1, a, os, v, h1, ν1, e1, e2, e3, e4, e5⟩ := step_ok ht r k2 k1
   have hf1 : FrRel h1.nx ν1 f1.nt f1.l F.t := k2.mono e5.same e5.nx
   obtain ⟨f2, g1, g2, g3, g4⟩ := put_ok hf1 e4 e2
   obtain ⟨N2, F', s', f', h', ν', m1, m2, m3, m4, m5, m6, m7⟩ := ops_ok ht e3 g2 g1
   refine ⟨max N1 N2 + 1, F', s', f', h', ν', ?_, m2, m3, m4, by rw [m5, put_d], by rw [m6, g3, k3], e5.trans m7⟩
   rw [evO]
   simp only [hw, if_true]
   rcases e1 with ⟨e0, e1⟩ | ⟨e1, e0⟩
   ·rw [e0]
    simp only []
    rw [evP_le e1 (Nat.le_max_left _ _)]
    exact evO_le m1 (Nat.le_max_right _ _)
   ·subst e0
    rw [e1]
    exact evO_le m1 (Nat.le_max_right _ _)
  ·obtain ⟨f2, g1, g2, g3, g4⟩ := put_ok k2 aundef_cv k1
   obtain ⟨N2, F', s', f', h', ν', m1, m2, m3, m4, m5, m6, m7⟩ := ops_ok ht r g2 g1
   refine ⟨N2 + 1, F', s', f', h', ν', ?_, m2, m3, m4, by rw [m5, put_d], by rw [m6, g3, k3], m7⟩
   rw [evO]
   simp only [hw, Bool.false_eq_true, if_false]
   exact m1
def RegD (P : Program) [Facts] (tt : TT) : Prop := ∀ (ops : List Oper) (c : Px) (ν : Nu) (h : H) (s : St) (f : Frm) (F : Fr) (K : Frm → H → Prop), R c ν h s → FrRel h.nx ν f.nt f.l F.t →
 (drawV P tt (befores [] ops) ops ops 0 f h [] [] fun f' h' eff => Node (drawOkV ops f' h eff = true ∧ K f' h')) →
  ∃ N F' s' eff f' h' ν', evD P (befores [] ops) N ops ops 0 F s [] [] = some (F', s', eff) ∧ (drawOk ops eff || drawOk2 ops F' s eff) = true ∧ K f' h' ∧ R c ν' h' s' ∧ FrRel h'.nx ν' f'.nt f'.l F'.t ∧ F'.d = F.d ∧ f'.d = f.d ∧ Ex h ν s h' ν' s'
theorem SemC.mono {p : Nat} {rnd : Option Nat} {cd : Code} {f : Frm} {h : H} {K K' : Post} (hs : SemC P p rnd cd f h K) (hk : ∀ x f h, K x f h → K' x f h) : SemC P p rnd cd f h K' :=
 ⟨fun c ν s F r hp hR hf hm hr => by
  obtain ⟨N, x, F', s', f', h', ν', k1, k2, k3⟩ := hs.run c ν s F r hp hR hf hm hr
  exact ⟨N, x, F', s', f', h', ν', k1, hk _ _ _ k2, k3⟩⟩
theorem rnd_mono {p : Nat} {ν ν' : Nu} (hν : Nu.le p ν ν') {rnd r : Option Nat} (hr : RndRel p ν rnd r) : RndRel p ν' rnd r := by
 cases rnd with
 | none => exact hr
 | some x => obtain ⟨h0, B, b0, h1, h2⟩ := hr; exact ⟨h0, B, b0, by rw [hν x h0]; exact h1, h2⟩
theorem W_ok (ht : TTok P tt) (hD : RegD P tt) {p : Nat} {rnd : Option Nat} : ∀ {cd : Code} {f : Frm} {h : H} {K : Post}, W P tt p rnd cd f h K → SemC P p rnd cd f h K
 | .skip, f, h, K, hK => ⟨fun c ν s F r hp hR hf hm hr => ⟨1, .normal, F, s, f, h, ν, by simp only [evC], hK, hR, hf, hm, Nu.le.refl, Nat.le_refl _, rfl⟩⟩
 | .label _, f, h, K, hK => ⟨fun c ν s F r hp hR hf hm hr => ⟨1, .normal, F, s, f, h, ν, by simp only [evC], hK, hR, hf, hm, Nu.le.refl, Nat.le_refl _, rfl⟩⟩
 | .ret, f, h, K, hK => ⟨fun c ν s F r hp hR hf hm hr => ⟨1, .ret, F, s, f, h, ν, by simp only [evC], hK, hR, hf, hm, Nu.le.refl, Nat.le_refl _, rfl⟩⟩
 | .exit id, f, h, K, hK => ⟨fun c ν s F r hp hR hf hm hr => ⟨1, .exit id, F, s, f, h, ν, by simp only [evC], hK, hR, hf, hm, Nu.le.refl, Nat.le_refl _, rfl⟩⟩
 | .goto _, f, h, K, hK => (show False from hK).elim
 | .refuse _, f, h, K, hK => (show False from hK).elim
 | .seq a b, f, h, K, hK => by
  replace hK : W P tt p rnd a f h (fun x f' h' => match x with
   | .normal => W P tt p rnd b f' h' K
   | .ret => K .ret f' h'
   | .exit i => K (.exit i) f' h') := hK
  have ha := W_ok ht hD hK
  refine ⟨fun c ν s F r hp hR hf hm hr => ?_⟩
  obtain ⟨N, x, F', s', f', h', ν', k1, k2, k3, k4, k5, k6, k7, k8⟩ := ha.run c ν s F r hp hR hf hm hr
  cases x with
  | normal =>
   have hb := W_ok ht hD k2
   obtain ⟨M, y, F2, s2, f2, h2, ν2, m1, m2, m3, m4, m5, m6, m7, m8⟩ := hb.run c ν' s' F' r hp k3 k4 k5 (rnd_mono k6 hr)
   refine ⟨max N M + 1, y, F2, s2, f2, h2, ν2, ?_, m2, m3, m4, m5, k6.trans m6 (Nat.le_refl _), Nat.le_trans k7 m7, m8.trans k8⟩
   rw [evC, evC_le k1 (Nat.le_max_left _ _)]
   exact evC_le m1 (Nat.le_max_right _ _)
  | ret =>
   refine ⟨N + 1, .ret, F', s', f', h', ν', ?_, k2, k3, k4, k5, k6, k7, k8⟩
   rw [evC, k1]
  | exit i =>
   refine ⟨N + 1, .exit i, F', s', f', h', ν', ?_, k2, k3, k4, k5, k6, k7, k8⟩
   rw [evC, k1]
 | .cond cc a b, f, h, K, hK => by
  obtain ⟨nt, l, d⟩ := f
  have yes : ∀ f', W P tt p rnd a f' h K → ∀ c ν s F r, c.p = p → R c ν h s → FrRel h.nx ν f'.nt f'.l F.t → MarkRel h.nx ν f'.d F.d → RndRel p ν rnd r → aEval F.t cc = some (.bool true) →
    ∃ N x F' s' f' h' ν', evC P r N (.cond cc a b) F s = some (x, F', s') ∧ K x f' h' ∧ R c ν' h' s' ∧ FrRel h'.nx ν' f'.nt f'.l F'.t ∧ MarkRel h'.nx ν' f'.d F'.d ∧ Nu.le p ν ν' ∧ s.n ≤ s'.n ∧ h'.fz = h.fz := by
   intro f' hw c ν s F r hp hR hf hm hr hc
   obtain ⟨N, x, F', s', f', h', ν', k1, k2⟩ := (W_ok ht hD hw).run c ν s F r hp hR hf hm hr
   exact ⟨N + 1, x, F', s', f', h', ν', by rw [evC]; simp only [hc]; exact k1, k2⟩
  have no : ∀ f', W P tt p rnd b f' h K → ∀ c ν s F r, c.p = p → R c ν h s → FrRel h.nx ν f'.nt f'.l F.t → MarkRel h.nx ν f'.d F.d → RndRel p ν rnd r → aEval F.t cc = some (.bool false) →
    ∃ N x F' s' f' h' ν', evC P r N (.cond cc a b) F s = some (x, F', s') ∧ K x f' h' ∧ R c ν' h' s' ∧ FrRel h'.nx ν' f'.nt f'.l F'.t ∧ MarkRel h'.nx ν' f'.d F'.d ∧ Nu.le p ν ν' ∧ s.n ≤ s'.n ∧ h'.fz = h.fz := by
   intro f' hw c ν s F r hp hR hf hm hr hc
   obtain ⟨N, x, F', s', f', h', ν', k1, k2⟩ := (W_ok ht hD hw).run c ν s F r hp hR hf hm hr
   exact ⟨N + 1, x, F', s', f', h', ν', by rw [evC]; simp only [hc]; exact k1, k2⟩
  refine ⟨fun c ν s F r hp hR hf hm hr => ?_⟩
  replace hK : (match cc with
   | .tmp i => match look l i with
    | some (.bool true) => W P tt p rnd a ⟨nt, l, d⟩ h K
    | some (.bool false) => W P tt p rnd b ⟨nt, l, d⟩ h K
    | some (.test q) => Branch q (W P tt p rnd a ⟨nt, (i, .bool true) :: l, d⟩ h K) (W P tt p rnd b ⟨nt, (i, .bool false) :: l, d⟩ h K)
    | _ => False
   | .const (.bool true) => W P tt p rnd a ⟨nt, l, d⟩ h K
   | .const (.bool false) => W P tt p rnd b ⟨nt, l, d⟩ h K
   | _ => False) := hK
  split at hK
  ·rename_i i
   have at_ : ∀ {v : V} {q : Bool}, look l i = some v → (∀ n ν a, Cv n ν v a → a = .bool q) → aEval F.t (.tmp i) = some (.bool q) := by
    intro v q hl hv
    obtain ⟨a, h1, h2⟩ := hf.2 i v hl
    rw [hv _ _ a h2] at h1
    simp [aEval, getF_eq, h1]
   split at hK
   ·rename_i hl; exact yes _ hK c ν s F r hp hR hf hm hr (at_ hl fun _ _ _ => cv_bool)
   ·rename_i hl; exact no _ hK c ν s F r hp hR hf hm hr (at_ hl fun _ _ _ => cv_bool)
   ·rename_i q hl
    rcases hK.get with ⟨e, k⟩ | ⟨e, k⟩
    ·subst e; exact yes _ k c ν s F r hp hR (hf.know hl rfl) hm hr (at_ hl fun _ _ _ => cv_test)
    ·subst e; exact no _ k c ν s F r hp hR (hf.know hl rfl) hm hr (at_ hl fun _ _ _ => cv_test)
   ·exact hK.elim
  ·exact yes _ hK c ν s F r hp hR hf hm hr rfl
  ·exact no _ hK c ν s F r hp hR hf hm hr rfl
  ·exact hK.elim
 | .block id a, f, h, K, hK => by
  replace hK : W P tt p rnd a f h (fun x f' h' => match x with
   | .normal => K .normal f' h'
   | .ret => K .ret f' h'
   | .exit i => match Nat.beq i id with
    | true => K .normal f' h'
    | false => K (.exit i) f' h') := hK
  have ha := W_ok ht hD hK
  refine ⟨fun c ν s F r hp hR hf hm hr => ?_⟩
  obtain ⟨N, x, F', s', f', h', ν', k1, k2, k3, k4, k5, k6, k7, k8⟩ := ha.run c ν s F r hp hR hf hm hr
  cases x with
  | normal => exact ⟨N + 1, .normal, F', s', f', h', ν', by rw [evC, k1], k2, k3, k4, k5, k6, k7, k8⟩
  | ret => exact ⟨N + 1, .ret, F', s', f', h', ν', by rw [evC, k1], k2, k3, k4, k5, k6, k7, k8⟩
  | exit i =>
   simp only [] at k2
   split at k2
   ·rename_i e
    have e := Nat.eq_of_beq_eq_true e
    exact ⟨N + 1, .normal, F', s', f', h', ν', by rw [evC, k1]; simp [e], k2, k3, k4, k5, k6, k7, k8⟩
   ·rename_i e
    have e : ¬ i = id := fun e' => by rw [e', Nat.beq_refl] at e; cases e
    exact ⟨N + 1, .exit i, F', s', f', h', ν', by rw [evC, k1]; simp [e], k2, k3, k4, k5, k6, k7, k8⟩
 | .scope a, f, h, K, hK => by
  replace hK : W P tt p rnd a f h K := hK
  have ha := W_ok ht hD hK
  refine ⟨fun c ν s F r hp hR hf hm hr => ?_⟩
  obtain ⟨N, x, F', s', f', h', ν', k1, k2⟩ := ha.run c ν s F r hp hR hf hm hr
  exact ⟨N + 1, x, F', s', f', h', ν', by rw [evC]; exact k1, k2⟩
 | .region id ops false, f, h, K, hK => by
  replace hK : opsV P tt ops.toList ops.toList f h (fun f' h' => K .normal f' h') := hK
  refine ⟨fun c ν s F r hp hR hf hm hr => ?_⟩
  obtain ⟨N, F', s', f', h', ν', k1, k2, k3, k4, k5, k6, k7⟩ := ops_ok ht (rr := r) hR hf hK
  refine ⟨N + 1, .normal, F', s', f', h', ν', by rw [evC, k1], k2, k3, k4, ?_, k7.same.sub (by have := hR.p_le; omega), k7.n, k7.fz⟩
  rw [k5, k6]; exact hm.mono k7.same k7.nx
 | .region id ops true, f, h, K, hK => by
  replace hK : drawV P tt (befores [] ops.toList) ops.toList ops.toList 0 f h [] [] (fun f' h' eff => Node (drawOkV ops.toList f' h eff = true ∧ K .normal f' h')) := hK
  refine ⟨fun c ν s F r hp hR hf hm hr => ?_⟩
  obtain ⟨N, F', s', eff, f', h', ν', k1, k0, k2, k3, k4, k5, k6, k7⟩ := hD ops.toList c ν h s f F _ hR hf hK
  refine ⟨N + 1, .normal, F', s', f', h', ν', by rw [evC, k1]; simp only [k0, if_true], k2, k3, k4, ?_, k7.same.sub (by have := hR.p_le; omega), k7.n, k7.fz⟩
  rw [k5, k6]; exact hm.mono k7.same k7.nx
 | .loop a, f, h, K, hK => (show Node (SemC P p rnd (.loop a) f h K) from hK) ()
 | .rangeFunc g ps as bo, f, h, K, hK => (show Node (SemC P p rnd (.rangeFunc g ps as bo) f h K) from hK) ()
end Go.Vm2
