/-
 Part of the proof that a machine over named lists stands for the program's runs (VmDraw7). No conditions beyond those that its theorems name.
-/
import Derived.Test.YtjljleemknmgoaaVmDraw6
namespace Go.Vm
set_option linter.unusedSectionVars false
variable [Facts] [Val] [Sound]
variable {P : Program} {base : Nat}
section
variable {n : Nat} {ops : Array Oper} {eff : List Nat} {r : Run} {s : St} {f : Fr} {ρ0 : Rho} {a0 : Act} {w0 : World} {m : Nat} {X : Nat → Prop} {a : Act} {w : World} {ρ : Rho} {g : Look}
theorem evP_not {n : Nat} {o : Oper} {f : Fr} {s : St} {v : AV} {os : Option St} (h : evP P n o f s = some (v, os)) : (∀ c, o.op ≠ .defer c) ∧ (∀ cs b, o.op ≠ .select cs b) := by
 cases n with
 | zero => simp [evP] at h
 | succ n =>
  constructor
  ·intro c e; simp only [evP] at h; rw [e] at h; simp [prim] at h
  ·intro cs b e; simp only [evP] at h; rw [e] at h; simp [prim] at h
theorem own_of (q : AO) (h : q ≠ .dead) (hr : ∀ cs e op w sp f z, q = .row cs e op w sp f z → w = true) : q.own = true := by
 cases q with
 | row cs e op w sp f z => exact hr _ _ _ _ _ _ _ rfl
 | dead => exact absurd rfl h
 | _ => rfl
theorem res_eq {ρ : Rho} {n b : Nat} (h : b < n) : res ρ n b = ρ b := if_pos h
mutual
theorem conv_older {ρ : Rho} {n : Nat} : ∀ {v : AV} {u : Value}, v.older n = true → conv ρ v = some u → conv (res ρ n) v = some u
 | .int _ _, u, _, h => by simpa only [conv] using h
 | .sym _ _, u, _, h => by simpa only [conv] using h
 | .bool _, u, _, h => by simpa only [conv] using h
 | .str _, u, _, h => by simpa only [conv] using h
 | .nilp, u, _, h => by simpa only [conv] using h
 | .nils, u, _, h => by simpa only [conv] using h
 | .esl _, u, _, h => by simpa only [conv] using h
 | .nilm, u, _, h => by simpa only [conv] using h
 | .nilf, u, _, h => by simpa only [conv] using h
 | .nili, u, _, h => by simpa only [conv] using h
 | .ptr b o, u, ho, h => by
  simp only [AV.older, decide_eq_true_eq] at ho
  simp only [conv] at h ⊢; rw [res_eq ho]; exact h
 | .slc b o len cap, u, ho, h => by
  simp only [AV.older, decide_eq_true_eq] at ho
  simp only [conv] at h ⊢; rw [res_eq ho]; exact h
 | .mp b, u, ho, h => by
  simp only [AV.older, decide_eq_true_eq] at ho
  simp only [conv] at h ⊢; rw [res_eq ho]; exact h
 | .yld b, u, ho, h => by
  simp only [AV.older, decide_eq_true_eq] at ho
  simp only [conv] at h ⊢; rw [res_eq ho]; exact h
 | .fn f a c, u, ho, h => by
  simp only [AV.older, Bool.and_eq_true] at ho
  simp only [conv] at h ⊢
  split at h
  ·rename_i a' c' h1 h2
   rw [convs_older ho.1 h1, convs_older ho.2 h2]; exact h
  ·simp at h
 | .ifc t v, u, ho, h => by
  simp only [AV.older] at ho
  simp only [conv] at h ⊢
  split at h
  ·rename_i v' h1
   rw [conv_older ho h1]; exact h
  ·simp at h
 | .agg cs, u, ho, h => by
  simp only [AV.older] at ho
  simp only [conv] at h ⊢
  split at h
  ·rename_i l h1
   rw [convs_older ho h1]; exact h
  ·simp at h
 | .tup cs, u, ho, h => by
  simp only [AV.older] at ho
  simp only [conv] at h ⊢
  split at h
  ·rename_i l h1
   rw [convs_older ho h1]; exact h
  ·simp at h
theorem convs_older {ρ : Rho} {n : Nat} : ∀ {vs : List AV} {us : List Value}, AV.olders n vs = true → convs ρ vs = some us → convs (res ρ n) vs = some us
 | [], us, _, h => by simpa only [convs] using h
 | v :: vs, us, ho, h => by
  simp only [AV.olders, Bool.and_eq_true] at ho
  simp only [convs] at h ⊢
  split at h
  ·rename_i a l h1 h2
   rw [conv_older ho.1 h1, convs_older ho.2 h2]; exact h
  ·simp at h
end
theorem loadA_get {s s' : St} {b off : Nat} {ty : TypeId} (h : s.get b = s'.get b) : loadA P s ty (.ptr b off) = loadA P s' ty (.ptr b off) := by simp only [loadA, h]
theorem lenA_free {ρ : Rho} {s : St} {w : World} {ts : List TypeId} {x v : AV} {x' : Value} {ty : TypeId} (h : lenA P s ts x = some v) (hf : lenFree (some x) = true) (hx : conv ρ x = some x') (ats : Array TypeId) (hts : ats.toList = ts) :
  ∃ u, (Builtin.len_ ats ty #[x']).run P w = .ok u w ∧ ∀ ρ', conv ρ' v = some u := by
 unfold lenA at h
 split at h
 ·rename_i t rest
  have h0 : ats[0]? = some t := by
   have : ats.toList[0]? = some t := by rw [hts]; rfl
   simpa using this
  unfold Builtin.len_
  simp only [h0, List.getElem?_toArray, List.getElem?_cons_zero]
  split at h
  ·cases hf
  ·rename_i n e hu; simp at h; subst h
   exact ⟨.int .i64 n, by simp only [Sem.run_bind, run_underlying hu, Result.andThen_ok, Sem.run_pure, goInt], fun _ => rfl⟩
  ·rename_i e hu; simp at h; subst h; simp [conv] at hx; subst hx
   exact ⟨.int .i64 0, by simp only [Sem.run_bind, run_underlying hu, Result.andThen_ok, Sem.run_pure, goInt]; rfl, fun _ => rfl⟩
  ·rename_i e b o n c hu; simp at h; subst h
   simp only [conv] at hx
   refine ⟨.int .i64 n, ?_, fun _ => rfl⟩
   repeat' split at hx
   all_goals first
    | (simp at hx; done)
    | (simp at hx; subst hx; simp only [Sem.run_bind, run_underlying hu, Result.andThen_ok, Sem.run_pure, goInt])
  ·cases hf
  ·cases hf
  ·cases hf
  ·cases h
 ·cases h
theorem free_run (c : Ctx P n ops eff r s f) (hI : Inv ops r base ρ0 s f a0 w0 m X a w ρ g) {i : Nat} {o : Oper} (ho : ops.toList[i]? = some o) (hwt : wantedA ops.toList (r.F i).t o = true) (hf : free ops r i)
  (hv : InF (res ρ (r.S i).n) (vf ops.toList o (r.F i)) (va ops.toList o a)) {k : Nat} {os : Option St} (hev : evP P k o (vf ops.toList o (r.F i)) (sees ops r i) = some (r.V i, os)) :
  ∃ x, (execOp (va ops.toList o a).eval o).run P w = .ok (.value x) w ∧ conv (res ρ (r.S i).n) (r.V i) = some x := by
 have hi : i < ops.toList.length := (List.getElem?_eq_some_iff.1 ho).1
 rcases hf with hf | ⟨o', t, v0, g1, g2, g3, g4⟩ | ⟨o', g1, g2⟩
 rotate_left 2
 ·rw [ho] at g1; cases g1
  rw [hwt] at g2; cases g2
 rotate_left
 ·rw [ho] at g1; cases g1
  obtain ⟨_, cl, av, k1, k2, k3, ha, hl⟩ := evP_len g2 hev
  have hag := aEval_agree (vf_agree ops.toList o (r.F i)) (.tmp t) (by rw [k1]; simp only [Op.operands, Call.operands, k2]; simp; exact Array.mem_toList_iff.1 (by rw [k3]; exact List.mem_singleton.2 rfl))
  have hav : av = v0 := by
   rw [hag] at ha
   rw [g3] at ha; exact (Option.some.inj ha).symm
  subst hav
  have hx := aEval_conv hv.tmps ha
  obtain ⟨u, h1, h2⟩ := lenA_free (P := P) (w := w) (ty := o.type) hl g4 hx cl.argTypes rfl
  refine ⟨u, ?_, h2 _⟩
  have hres : (resolve (va ops.toList o a).eval cl o.type).run P w = .ok { target := .builtin .len cl.argTypes o.type (cl.args.map fun | .const _ => true | _ => false), args := cl.args.map (va ops.toList o a).eval } w := by
   unfold resolve; rw [k2]; rfl
  have e3 : cl.args.map (va ops.toList o a).eval = #[(va ops.toList o a).eval (.tmp t)] := by apply Array.ext'; rw [Array.toList_map, k3]; rfl
  unfold execOp; rw [k1]
  simp only [Sem.run_bind, hres, Result.andThen_ok, invoke, e3]
  simp only [builtin, Sem.run_bind, h1, Result.andThen_ok]
  rfl
 obtain ⟨o', ty, x, b, off, g1, g2, g3, g4, g5, g6⟩ := hf
 rw [ho] at g1; cases g1
 obtain ⟨_, av, ha, hl⟩ := evP_load g2 hev
 have hag := aEval_agree (vf_agree ops.toList o (r.F i)) x (by rw [g2]; simp [Op.operands])
 have hav : av = .ptr b off := by
  rw [hag] at ha
  rw [g3] at ha; exact (Option.some.inj ha).symm
 subst hav
 have n0 : ∀ k, k ≤ ops.toList.length → b < (r.S k).n := fun k hk => Nat.lt_of_lt_of_le g4 (c.nle 0 k (Nat.zero_le _) hk)
 have hsee : (sees ops r i).get b = (r.S i).get b := by
  unfold sees
  rw [hide_get]
  ·rfl
  ·intro e he _ hin
   obtain ⟨e1, e2, _⟩ := c.made i (by omega) e he
   rw [e2] at hin
   have := n0 e.1 (by omega)
   omega
 rw [loadA_get (s' := r.S m) (by rw [hsee, g6 i (by omega), g6 m hI.hm])] at hl
 have hrel : Rel base (res ρ (r.S m).n) (r.S m).look w := by
  refine (hI.rel m (Nat.le_refl _) hI.hm).less (fun b q h => ?_)
  have hlt := St.look_lt h
  unfold cut
  rw [if_pos hlt, hI.g1 b hlt]; exact h
 have hx := aEval_conv hv.tmps ha
 have hx' : conv (res ρ (r.S m).n) (.ptr b off) = some ((va ops.toList o a).eval x) := by
  rw [← hx]
  simp only [conv]
  rw [res_eq (n0 m hI.hm), res_eq (n0 i (by omega))]
 obtain ⟨u, h1, h2⟩ := loadA_run hrel hl hx'
 refine ⟨u, ?_, ?_⟩
 ·unfold execOp; rw [g2]
  exact run_value _ h1
 ·have h3 := conv_older g5 (conv_mono (res_le ρ (r.S m).n) _ _ h2)
  exact conv_mono (res_mono (Rho.le.refl ρ) (c.nle 0 i (Nat.zero_le _) (by omega))) _ _ h3
theorem op_ok (c : Ctx P n ops eff r s f) (hP : ∀ k, k < n → OperOk P k) (hI : Inv ops r base ρ0 s f a0 w0 m X a w ρ g) {i : Nat} {o : Oper} (ho : ops.toList[i]? = some o) (hX : ¬ X i) (hen : ∀ j, tied (befores [] ops.toList) j i = true → X j)
  {R : Option Nat} {next : Act → World → Prop} {Q : Exit → Act → World → Prop} (hn : ∀ x w' m' ρ' g', Inv ops r base ρ0 s f a0 w0 m' (fun j => X j ∨ j = i) (a.put o.dst x) w' ρ' g' → next (a.put o.dst x) w') :
  wpOpIn (fence R) 0 P ops Q i next a w := by
 have hi : i < ops.toList.length := (List.getElem?_eq_some_iff.1 ho).1
 have hv := virt c hI ho hX hen
 have ho' : ops[i]? = some o := by simpa using ho
 unfold wpOpIn
 rw [ho']
 simp only
 rw [va_wanted o a, wanted_eq hv, wanted_agree (by simp [vf, maskL_length]) (vf_agree ops.toList o (r.F i))]
 obtain ⟨q, hq, _, h⟩ := c.step i hi
 rw [ho] at hq; cases hq
 rcases h with ⟨h1, h2, h3, h4⟩ | ⟨h1, k, os, hk, hev, hos⟩
 ·rw [if_neg (by rw [h1]; simp)]
  refine ⟨fun g _ => fence_fn R g, hn undef w m ρ g (hI.pass c ho hX hen h3 (by rw [h2]; exact conv_undef _))⟩
 ·rw [if_pos h1]
  rw [← evP_congr (f := vf ops.toList o (r.F i)) (aEval_agree (vf_agree ops.toList o (r.F i)))] at hev
  obtain ⟨hnd, hns⟩ := evP_not hev
  have hsem : o.semAt (fence R).round a.eval = o.semAt (fence R).round (va ops.toList o a).eval := by
   rw [Oper.semAt_eq _ _ _ hnd, Oper.semAt_eq _ _ _ hnd, execOp_congr o hns (va_eval ops.toList o a)]
  cases hb : blind o with
  | true =>
   have hs := c.blind_next ho hb
   cases k with
   | zero => simp [evP] at hev
   | succ k =>
    rw [evP_blind hb] at hev
    obtain ⟨_, hrun⟩ := blind_sound hv.tmps hb hev
    obtain ⟨x, hx1, hx2⟩ := hrun w
    refine does_wp (K := fun y w' => w' = w ∧ conv (res ρ (r.S i).n) (r.V i) = some y) ?_ (fun y w' hy => ?_)
    ·rw [hsem, Oper.semAt_eq _ _ _ hnd, hx1]; exact ⟨rfl, hx2⟩
    ·obtain ⟨rfl, hy⟩ := hy
     exact hn y _ m ρ g (hI.pass c ho hX hen hs hy)
  | false =>
   by_cases hfr : free ops r i
   ·obtain ⟨x, hx1, hx2⟩ := free_run c hI ho h1 hfr hv hev
    have hs := c.free_next hfr
    refine does_wp (K := fun y w' => w' = w ∧ conv (res ρ (r.S i).n) (r.V i) = some y) ?_ (fun y w' hy => ?_)
    ·rw [hsem, Oper.semAt_eq _ _ _ hnd, hx1]; exact ⟨rfl, hx2⟩
    ·obtain ⟨rfl, hy⟩ := hy
     exact hn y _ m ρ g (hI.pass c ho hX hen hs hy)
   have hb : loud ops r i o := ⟨hb, hfr⟩
   obtain ⟨hmi, hlight, hsee, hkin⟩ := c.sight hI ho hb hX hen
   obtain ⟨hn1, hd1, hl1⟩ := hide_n (befores [] ops.toList) i (r.M i) { r.S i with dirty := (r.S i).n }
   have hnS : (sees ops r i).n = (r.S i).n := hn1
   have hok : (sees ops r i).ok := by
    have := c.sok i (by omega)
    unfold St.ok at *
    have e1 : (sees ops r i).h.length = (r.S i).h.length := hl1
    rw [hnS, e1]; exact this
   have hrel : Rel base (res ρ (r.S i).n) (sees ops r i).look w := (hI.rel i hmi (by omega)).less (fun b q h => by
    obtain ⟨h1, h2⟩ := hsee b q h
    unfold cut; rw [if_pos h2]; exact h1)
   have hdo := hP k hk o _ _ (r.V i) os hev base (res ρ (r.S i).n) w (va ops.toList o a) R (by rw [show (hide (befores [] ops.toList) i { r.S i with dirty := (r.S i).n } (r.M i)).n = (r.S i).n from hn1]; exact res_fresh _ _) hok hrel hv
   rw [← hsem] at hdo
   refine does_wp hdo (fun x w' hout => ?_)
   obtain ⟨ρ1, o1, o2, o3, o4, o5, o6, o7, o8⟩ := hout
   rw [show (hide (befores [] ops.toList) i { r.S i with dirty := (r.S i).n } (r.M i)).n = (r.S i).n from hn1] at o1
   rcases hos with ⟨e1, e2, e3⟩ | ⟨s1, e1, e2, e3, e4, e5, e6, e7⟩ | ⟨s1, e1, e2, e3, e6, e7, e8⟩
   ·subst e1
    simp only [Option.getD_none] at o2 o5 o6 o7 o8
    have hlt : light r i := by rw [light, e2]; exact ⟨Nat.le_refl _, rfl, fun _ _ => rfl⟩
    obtain ⟨ρ', g', hI'⟩ := hI.make c ho hb hX hen hlt (s1 := sees ops r i) (x := x) (w' := w') (by rw [e2]; exact hnS) (fun _ _ => rfl) (fun b h => by rw [e2, St.look_none h, St.look_none (by omega)]) (fun b q h h' => by rw [St.look_none (by omega)] at h'; cases h') o1 o2 o5 o6 o7
    exact hn x w' m ρ' g' hI'
   ·subst e1
    simp only [Option.getD_some] at o2 o5 o6 o7 o8
    have hgrow := grown_get (c.sok i (by omega)) e2 e3.1 (r.S i).dirty
    have hlt : light r i := by rw [light, e6]; exact ⟨e3.1, rfl, fun b hb => by rw [hgrow, if_pos hb]⟩
    obtain ⟨ρ', g', hI'⟩ := hI.make c ho hb hX hen hlt (s1 := s1) (x := x) (w' := w') (by rw [e6]) (fun b h => by
      have := o8.2 b (by omega) (by rw [show (hide (befores [] ops.toList) i { r.S i with dirty := (r.S i).n } (r.M i)).n = (r.S i).n from hn1]; exact h)
      unfold St.look; rw [this]; rfl) (fun b h => by
      rw [e6]; unfold St.look; rw [hgrow, if_neg (by omega)]) (fun b q h h' => by
      have hlt := St.look_lt h'
      have hg := St.get_of_look h'
      have hnd : q ≠ .dead := fun e => St.look_live _ b (e ▸ h')
      simp only [St.get_def] at hg
      rw [if_pos hlt] at hg
      have hmem : q ∈ s1.h.take (s1.n - (r.S i).n) := by
       refine List.mem_iff_getElem?.2 ⟨s1.n - 1 - b, ?_⟩
       rw [List.getElem?_take, if_pos (by omega)]; exact hg
      have hrow := newOk_get e5 q hmem
      refine ⟨own_of q hnd (fun cs e op w sp f z e' => (hrow cs e op w sp f z e').1), ?_⟩
      cases q with
      | row cs e op w sp f z => exact (hrow cs e op w sp f z rfl).2
      | _ => exact h) o1 o2 o5 o6 o7
    exact hn x w' m ρ' g' hI'
   ·subst e1
    simp only [Option.getD_some] at o2 o5 o6 o7 o8
    obtain ⟨ρ', g', hI'⟩ := hI.write c ho hb hX hen e8 (s1 := s1) (x := x) (w' := w') e6 e3.1 o1 o2 o5 o6 o7 o8
    exact hn x w' _ ρ' g' hI'
theorem ready_all (he : edgesOk ops.toList = true) {listed : Array Bool} (hs : listed.size = ops.size) (h : Region.ready .any ops listed = []) : ∀ j, j < ops.toList.length → listed.getD j false = true := by
 intro j
 induction j using Nat.strongRecOn with
 | _ j ih =>
  intro hj
  have hjs : j < listed.size := by rw [hs]; simpa using hj
  cases hl : listed.getD j false with
  | true => rfl
  | false =>
   exfalso
   have hmem : j ∈ Region.ready .any ops listed := by
    rw [mem_ready]
    refine ⟨?_, ops[j]'(by simpa using hj), by simp, fun e he' hb => ?_⟩
    ·simp only [Array.getD_eq_getD_getElem?, Array.getElem?_eq_getElem hjs, Option.getD_some] at hl ⊢; exact hl
    ·have ho : ops.toList[j]? = some (ops[j]'(by simpa using hj)) := by simp
     have hlt := edgesOk_spec he ho e.on (by
      unfold boundTo
      rw [List.mem_map]
      exact ⟨e, List.mem_filter.2 ⟨by simpa using he', hb⟩, rfl⟩)
     exact ih e.on hlt (by omega)
   rw [h] at hmem; cases hmem
theorem any_ok (c : Ctx P n ops eff r s f) (hP : ∀ k, k < n → OperOk P k) {R : Option Nat} {Q : Exit → Act → World → Prop}
  (hQ : ∀ (m : Nat) (X : Nat → Prop) (a : Act) (w : World) (ρ : Rho) (g : Look), (∀ j, j < ops.toList.length → X j) → Inv ops r base ρ0 s f a0 w0 m X a w ρ g → Q .normal a w) :
  ∀ (fuel : Nat) (listed : Array Bool) (m : Nat) (a : Act) (w : World) (ρ : Rho) (g : Look), listed.size = ops.size → listed.toList.count false ≤ fuel → Inv ops r base ρ0 s f a0 w0 m (fun j => listed.getD j false = true) a w ρ g → wpAnyIn (fence R) 0 P .any ops Q fuel listed a w := by
 intro fuel
 induction fuel with
 | zero =>
  intro listed m a w ρ g hs hc hI
  have hall : ∀ j, j < ops.toList.length → listed.getD j false = true := by
   intro j hj
   have hjs : j < listed.size := by rw [hs]; simpa using hj
   cases hl : listed.getD j false with
   | true => rfl
   | false =>
    have : false ∈ listed.toList := by
     refine List.mem_iff_getElem?.2 ⟨j, ?_⟩
     simp only [Array.getD_eq_getD_getElem?, Array.getElem?_eq_getElem hjs, Option.getD_some] at hl
     simp [hjs, hl]
    have := List.count_pos_iff.2 this
    omega
  refine ⟨?_, hQ m _ a w ρ g hall hI⟩
  rw [List.eq_nil_iff_forall_not_mem]
  intro j hj
  obtain ⟨h1, o, h2, _⟩ := mem_ready.1 hj
  have hlt : j < ops.size := (Array.getElem?_eq_some_iff.1 h2).1
  have := hall j (by simpa using hlt)
  simp only [Array.getD_eq_getD_getElem?, Array.getElem?_eq_getElem (show j < listed.size by omega), Option.getD_some] at h1 this
  rw [h1] at this; cases this
 | succ fuel ih =>
  intro listed m a w ρ g hs hc hI
  refine ⟨fun h => hQ m _ a w ρ g (ready_all c.edges hs h) hI, fun i hi => ?_⟩
  obtain ⟨h1, o, h2, h3⟩ := mem_ready.1 hi
  have hlt : i < ops.size := (Array.getElem?_eq_some_iff.1 h2).1
  have hls : i < listed.size := by omega
  have hfalse : listed[i] = false := by
   simp only [Array.getD_eq_getD_getElem?, Array.getElem?_eq_getElem hls, Option.getD_some] at h1; exact h1
  have ho : ops.toList[i]? = some o := by simpa using h2
  refine op_ok c hP hI ho (by simp [hls, hfalse]) ?_ (fun x w' m' ρ' g' hI' => ih _ m' _ w' ρ' g' (by simpa using hs) ?_ ?_)
  ·intro j hj
   obtain ⟨k, hk1, hk2⟩ := (tied_iff c.edges ho j).1 hj
   unfold boundTo at hk1
   rw [List.mem_map] at hk1
   obtain ⟨e, he, rfl⟩ := hk1
   rw [List.mem_filter] at he
   have hXk := h3 e (by simpa using he.1) he.2
   rcases hk2 with e1 | e1
   ·subst e1; exact hXk
   ·refine hI.closed e.on j ?_ hXk e1
    rcases Nat.lt_or_ge e.on listed.size with h' | h'
    ·rw [hs] at h'; simpa using h'
    ·simp [Array.getElem?_eq_none h'] at hXk
  ·rw [Array.toList_setIfInBounds, List.count_set (by simpa using hls)]
   simp [hfalse]
   have := List.count_pos_iff.2 (show false ∈ listed.toList from List.mem_iff_getElem?.2 ⟨i, by simp [hls, hfalse]⟩)
   simp only [Array.count_toList] at hc this
   omega
  ·have : (fun j => (listed.setIfInBounds i true).getD j false = true) = (fun j => listed.getD j false = true ∨ j = i) := by
    funext j
    apply propext
    by_cases e : i = j
    ·subst e; simp [hls]
    ·rw [getD_set_ne false e]
     exact ⟨.inl, fun h => h.resolve_right (fun h => e h.symm)⟩
   rw [this]; exact hI'
end
end Go.Vm
