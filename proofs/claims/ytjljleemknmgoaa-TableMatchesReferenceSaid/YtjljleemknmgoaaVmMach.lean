/-
 Part of the proof that a machine over named lists stands for the program's runs (VmMach). No conditions beyond those that its theorems name.
-/
import Derived.Test.YtjljleemknmgoaaVmOps7
import Derived.LoopNIn
namespace Go.Vm
set_option linter.unusedSectionVars false
variable [Facts] [Val] [Sound]
variable {P : Program} {base : Nat}
class Trues (P : Program) [Facts] : Prop where
 tru : ∀ f ∈ Facts.T, ∀ w, Calls P f #[] w fun e w' => e = .returned (.bool true) ∧ Go.RowKit.Below w.heap.size w w'
def AX.exit' : AX → Exit
 | .normal => .normal
 | .ret => .ret
 | .exit id => .exit id
def fence : Option Nat → Fence
 | none => Fence.wide
 | some B => Fence.wide.inRound B
theorem fence_fn (R : Option Nat) (f : FuncId) : (fence R).fn f := by cases R <;> trivial
theorem fence_depth (R : Option Nat) : (fence R).depth = none := by cases R <;> rfl
theorem fence_round (R : Option Nat) : (fence R).round = R := by cases R <;> rfl
theorem fence_inRound (R : Option Nat) (B : Nat) : (fence R).inRound B = fence (some B) := by cases R <;> rfl
theorem fence_calls {R : Option Nat} {n : Nat} {f : FuncId} {args : Array Value} {w : World} {Q : Ending → World → Prop} (h : CallsIn Fence.wide n P f args w Q) : CallsIn (fence R) n P f args w Q := by
 cases R with
 | none => exact h
 | some B => exact h.inRound B
def marksOf (ρ : Rho) : List Nat → Option (List Deferred)
 | [] => some []
 | b :: bs => match blk ρ b, marksOf ρ bs with
  | some B, some l => some ({ target := .collected B, args := #[] } :: l)
  | _, _ => none
theorem blk_mono {ρ ρ' : Rho} (h : ρ.le ρ') {b B : Nat} (e : blk ρ b = some B) : blk ρ' b = some B := by
 unfold blk at *
 cases hb : ρ b with
 | none => rw [hb] at e; simp at e
 | some p => rw [h b p hb]; rw [hb] at e; exact e
theorem marks_mono {ρ ρ' : Rho} (h : ρ.le ρ') : ∀ {l : List Nat} {d : List Deferred}, marksOf ρ l = some d → marksOf ρ' l = some d
 | [], d, e => e
 | b :: bs, d, e => by
  simp only [marksOf] at e ⊢
  cases hb : blk ρ b with
  | none => rw [hb] at e; simp at e
  | some B => cases hm : marksOf ρ bs with
   | none => rw [hb, hm] at e; simp at e
   | some l => rw [blk_mono h hb, marks_mono h hm]; rw [hb, hm] at e; exact e
structure InF (ρ : Rho) (f : Fr) (a : Act) : Prop where
 tmps : convs ρ f.t = some a.tmps.toList
 marks : marksOf ρ f.d = some a.defers
theorem InF.mono {ρ ρ' : Rho} {f : Fr} {a : Act} (h : InF ρ f a) (hl : ρ.le ρ') : InF ρ' f a := ⟨convs_mono hl _ _ h.tmps, marks_mono hl h.marks⟩
theorem InF.put {ρ : Rho} {f : Fr} {a : Act} (h : InF ρ f a) {v : AV} {x : Value} (hv : conv ρ v = some x) (dst : Option Tmp) : InF ρ (f.put dst v) (a.put dst x) := by
 cases dst with
 | none => exact h
 | some i =>
  refine ⟨?_, h.marks⟩
  simp only [Fr.put, setF_eq, Act.put, Array.toList_setIfInBounds]
  exact convs_set hv i h.tmps
def OutC (base : Nat) (ρ : Rho) (s : St) (w : World) (f' : Fr) (s' : St) (a' : Act) (w' : World) : Prop :=
 ∃ ρ', Ext s.n ρ ρ' ∧ Fresh s'.n ρ' ∧ s.n ≤ s'.n ∧ s'.ok ∧ InF ρ' f' a' ∧ Rel base ρ' s'.look w' ∧ Fram ρ s.look w ρ' s'.look w' ∧ KeepA s s'
theorem OutC.start {ρ : Rho} {s : St} {w : World} {f : Fr} {a : Act} (hf : Fresh s.n ρ) (hk : s.ok) (hr : Rel base ρ s.look w) (hi : InF ρ f a) : OutC base ρ s w f s a w :=
 ⟨ρ, Ext.refl _ _, hf, Nat.le_refl _, hk, hi, hr, Fram.refl _ _ _, KeepA.refl _⟩
theorem Out.put {ρ : Rho} {s s' : St} {w w' : World} {f : Fr} {a : Act} {v : AV} {x : Value} (hf : Fresh s.n ρ) (h : Out base ρ s w v s' x w') (hi : InF ρ f a) (dst : Option Tmp) : OutC base ρ s w (f.put dst v) s' (a.put dst x) w' := by
 obtain ⟨ρ', h1, h2, h3, h4, h5, h6, h7, h8⟩ := h
 exact ⟨ρ', h1, h2, h3, h4, (hi.mono (h1.le hf)).put h5 dst, h6, h7, h8⟩
theorem OutC.trans {ρ ρ1 : Rho} {s s1 s2 : St} {w w1 w2 : World} {f2 : Fr} {a2 : Act} (h1 : Ext s.n ρ ρ1) (h3 : s.n ≤ s1.n) (h7 : Fram ρ s.look w ρ1 s1.look w1) (h8 : KeepA s s1) (k : OutC base ρ1 s1 w1 f2 s2 a2 w2) : OutC base ρ s w f2 s2 a2 w2 := by
 obtain ⟨ρ2, k1, k2, k3, k4, k5, k6, k7, k8⟩ := k
 exact ⟨ρ2, h1.trans k1 h3, k2, Nat.le_trans h3 k3, k4, k5, k6, h7.trans k7, h8.trans k8 h3⟩
def RndOk (ρ : Rho) (rnd R : Option Nat) : Prop :=
 match rnd with
 | none => R = none
 | some b => ∃ B, blk ρ b = some B ∧ R = some B
theorem RndOk.mono {ρ ρ' : Rho} {rnd R : Option Nat} (h : RndOk ρ rnd R) (hl : ρ.le ρ') : RndOk ρ' rnd R := by
 cases rnd with
 | none => exact h
 | some b => obtain ⟨B, h1, h2⟩ := h; exact ⟨B, blk_mono hl h1, h2⟩
def CodeOk (P : Program) (n : Nat) : Prop := ∀ (rnd : Option Nat) (c : Code) (f : Fr) (s : St) (x : AX) (f' : Fr) (s' : St), evC P rnd n c f s = some (x, f', s') →
 ∀ (base : Nat) (ρ : Rho) (w : World) (a : Act) (R : Option Nat), Fresh s.n ρ → s.ok → Rel base ρ s.look w → InF ρ f a → RndOk ρ rnd R →
  c.wpIn (fence R) 0 P (fun e a' w' => e = x.exit' ∧ OutC base ρ s w f' s' a' w') a w
def OpsOk (P : Program) (n : Nat) : Prop := ∀ (rnd : Option Nat) (all l : List Oper) (f : Fr) (s : St) (f' : Fr) (s' : St), evO P rnd n all l f s = some (f', s') →
 ∀ (base : Nat) (ρ : Rho) (w : World) (a : Act) (R : Option Nat) (ops : Array Oper) (k : Nat), ops.toList = all → all.drop k = l → Fresh s.n ρ → s.ok → Rel base ρ s.look w → InF ρ f a → RndOk ρ rnd R →
  wpOpsIn (fence R) 0 P ops (fun e a' w' => e = .normal ∧ OutC base ρ s w f' s' a' w') (List.range' k l.length) a w
def Does (F : Fence) (P : Program) (K : Value → World → Prop) : Result Next → Prop
 | .ok (.value v) w' => K v w'
 | .ok .skip w' => K undef w'
 | .ok (.enter f args) w' => CallsIn F 0 P f args w' fun e w'' => ∃ x, e = .returned x ∧ K x w''
 | .ok (.round l f tmps assign body) w' => RoundIn F 0 P l f tmps assign body w' fun e w'' => ∃ x, e = .returned x ∧ K x w''
 | _ => False
def OperOk (P : Program) (n : Nat) : Prop := ∀ (o : Oper) (f : Fr) (s : St) (v : AV) (os : Option St), evP P n o f s = some (v, os) →
 ∀ (base : Nat) (ρ : Rho) (w : World) (a : Act) (R : Option Nat), Fresh s.n ρ → s.ok → Rel base ρ s.look w → InF ρ f a →
  Does (fence R) P (fun x w' => Out base ρ s w v (os.getD s) x w') ((o.semAt (fence R).round a.eval).run P w)
theorem does_wp {R : Option Nat} {K : Value → World → Prop} {o : Oper} {a : Act} {w : World} (h : Does (fence R) P K ((o.semAt (fence R).round a.eval).run P w)) {next : Act → World → Prop} {Q : Exit → Act → World → Prop} (hn : ∀ x w', K x w' → next (a.put o.dst x) w') :
  o.wpIn (fence R) 0 P a w next Q := by
 refine ⟨fun g _ => fence_fn R g, ?_⟩
 have hd : (fence R).depth.isSome = true → 1 ≤ 0 := fun e => by rw [fence_depth] at e; cases e
 generalize (o.semAt (fence R).round a.eval).run P w = r at *
 cases r with
 | halt x w' => exact h.elim
 | ok x w' =>
  cases x <;> simp only [Does] at h <;> try exact h.elim
  ·exact hn _ _ h
  ·exact hn _ _ h
  ·exact ⟨hd, h.mono fun e w'' q => by obtain ⟨x, rfl, k⟩ := q; exact hn _ _ k⟩
  ·exact ⟨hd, h.mono fun e w'' q => by obtain ⟨x, rfl, k⟩ := q; exact hn _ _ k⟩
def FuncOk (P : Program) (n : Nat) : Prop := ∀ (fid : FuncId) (args : List AV) (s : St) (v : AV) (os : Option St), evF P n fid args s = some (v, os) →
 ∀ (base : Nat) (ρ : Rho) (w : World) (cargs : List Value), Fresh s.n ρ → s.ok → Rel base ρ s.look w → convs ρ args = some cargs →
  CallsIn Fence.wide 0 P fid cargs.toArray w fun e w' => ∃ x, e = .returned x ∧ Out base ρ s w v (os.getD s) x w'
def RoundOk (P : Program) (n : Nat) : Prop := ∀ (b : Nat) (args : List AV) (s : St) (v : AV) (os : Option St), evR P n b args s = some (v, os) →
 ∀ (base : Nat) (ρ : Rho) (w : World) (cargs : List Value) (B : Nat) (R : Option Nat), Fresh s.n ρ → s.ok → Rel base ρ s.look w → convs ρ args = some cargs → blk ρ b = some B →
  ∃ fn tmps assign body, (Instr.yield B cargs.toArray).run P w = .ok (.round B fn tmps assign body) w ∧
   RoundIn (fence R) 0 P B fn tmps assign body w fun e w' => ∃ x, e = .returned x ∧ Out base ρ s w v (os.getD s) x w'
def Plain (P : Program) : Prop := ∀ (i : Nat) (fn : Func), P.funcs[i]? = some fn → (fn.name == "runtime.NumGoroutine") = false
theorem wanted_eq {ρ : Rho} {ops : Array Oper} {f : Fr} {a : Act} (hi : InF ρ f a) (o : Oper) : Region.wanted o (yielded ops a.tmps) = wantedA ops.toList f.t o := by
 unfold Region.wanted wantedA
 simp only [getF_eq]
 cases o.guard with
 | none => rfl
 | some p =>
  obtain ⟨j, want⟩ := p
  simp only [yielded]
  have e1 : ops[j]? = ops.toList[j]? := by simp
  rw [e1]
  cases ops.toList[j]? with
  | none => cases want <;> rfl
  | some q =>
   simp only [Option.bind_some]
   cases q.dst with
   | none => cases want <;> rfl
   | some i =>
    simp only [Option.bind_some]
    have e2 : a.tmps[i]? = a.tmps.toList[i]? := by simp
    rw [e2]
    cases hv : f.t[i]? with
    | none =>
     have : a.tmps.toList[i]? = none := by
      have hl := convs_length hi.tmps
      rw [List.getElem?_eq_none_iff] at hv ⊢
      omega
     rw [this]; cases want <;> rfl
    | some v =>
     obtain ⟨x, h1, h2⟩ := convs_get hi.tmps i v hv
     rw [h2]
     have key : (∀ b, v ≠ .bool b) → ∀ b, x ≠ .bool b := by
      intro hv b e
      subst e
      cases v <;> simp only [conv] at h1 <;> first
       | (simp at h1; done)
       | (exact absurd rfl (hv _))
       | (revert h1; repeat' split
          all_goals (intro h1; simp at h1))
     cases v with
     | bool b => simp [conv] at h1; subst h1; cases b <;> cases want <;> rfl
     | _ =>
      have hx := key (by intro b; simp)
      cases x with
      | bool b => exact absurd rfl (hx b)
      | _ => cases want <;> rfl
theorem oper_of_prim {ρ : Rho} {w : World} {a : Act} {R : Option Nat} {f : Fr} {s : St} {o : Oper} {v : AV} {os : Option St} (hp : prim P f.t s o.op = some (v, os)) (hf : Fresh s.n ρ) (hk : s.ok) (hr : Rel base ρ s.look w) (hi : InF ρ f a) :
  Does (fence R) P (fun x w' => Out base ρ s w v (os.getD s) x w') ((o.semAt (fence R).round a.eval).run P w) := by
 obtain ⟨nx, w', x, h1, h2, h3⟩ := prim_sound hi.tmps hf hk hr hp
 rw [Oper.semAt_eq _ _ _ (fun c e => by rw [e] at hp; simp [prim] at hp), h1]
 rcases h2 with e | ⟨e, ex⟩
 ·subst e; exact h3
 ·subst e; subst ex; exact h3
theorem oper_of_seq {ρ : Rho} {w : World} {a : Act} {R : Option Nat} {f : Fr} {s : St} {o : Oper} {v : AV} (hp : seqA P f.t s o.op = some v) (hf : Fresh s.n ρ) (hk : s.ok) (hr : Rel base ρ s.look w) (hi : InF ρ f a) :
  Does (fence R) P (fun x w' => Out base ρ s w v s x w') ((o.semAt (fence R).round a.eval).run P w) := by
 obtain ⟨x, h1, h2⟩ := seqA_sound hi.tmps hf hk hr hp
 rw [Oper.semAt_eq _ _ _ (fun c e => by rw [e] at hp; simp [seqA] at hp), h1]
 exact h2
theorem letsOut_mono {Q Q' : Exit → Act → World → Prop} (h : ∀ e a w, Q e a w → Q' e a w) (k : LetsOut Q) : LetsOut Q' := let ⟨a, w, q⟩ := k; ⟨a, w, h _ _ _ q⟩
theorem oper_mono {F : Fence} {n : Nat} {o : Oper} {a : Act} {w : World} {K K' : Act → World → Prop} {Q Q' : Exit → Act → World → Prop} (hK : ∀ a w, K a w → K' a w) (hQ : ∀ e a w, Q e a w → Q' e a w) (h : o.wpIn F n P a w K Q) : o.wpIn F n P a w K' Q' := by
 unfold Oper.wpIn at *
 refine ⟨h.1, ?_⟩
 have h := h.2
 generalize (o.semAt F.round a.eval).run P w = r at *
 cases r with
 | ok x w' =>
  cases x <;> simp only [Oper.uponIn] at h ⊢ <;> first
   | exact hK _ _ h
   | exact ⟨h.1, CallsIn.mono h.2 (fun e w'' he => by cases e <;> first | exact hK _ _ he | exact hQ _ _ _ he | exact letsOut_mono hQ he)⟩
   | exact ⟨h.1, RowsIn.mono h.2 (fun _ _ he => hK _ _ he)⟩
   | exact ⟨h.1, RoundIn.mono h.2 (fun e w'' he => by cases e <;> first | exact hK _ _ he | exact hQ _ _ _ he | exact letsOut_mono hQ he)⟩
 | halt x w' => cases x <;> simp only [Oper.uponIn] at h ⊢ <;> exact hQ _ _ _ h
theorem ops_mono {F : Fence} {n : Nat} {ops : Array Oper} {Q Q' : Exit → Act → World → Prop} (hQ : ∀ e a w, Q e a w → Q' e a w) : ∀ (l : List Nat) (a : Act) (w : World), wpOpsIn F n P ops Q l a w → wpOpsIn F n P ops Q' l a w
 | [], a, w, h => hQ _ _ _ h
 | i :: l, a, w, h => by
  simp only [wpOpsIn] at h ⊢
  split
  ·rename_i e; simp only [e] at h; exact ops_mono hQ l a w h
  ·rename_i o e
   simp only [e] at h
   split
   ·rename_i hw; rw [if_pos hw] at h; exact oper_mono (fun a w => ops_mono hQ l a w) hQ h
   ·rename_i hw; rw [if_neg hw] at h; exact ⟨h.1, ops_mono hQ l _ _ h.2⟩
theorem ops_step {n : Nat} (hP : OperOk P n) (hO : OpsOk P n) : OpsOk P (n + 1) := by
 intro rnd all l f s f' s' h base ρ w a R ops k hall hl hf hk hr hi hR
 simp only [evO] at h
 cases l with
 | nil =>
  simp at h; obtain ⟨rfl, rfl⟩ := h
  exact ⟨rfl, OutC.start hf hk hr hi⟩
 | cons o os =>
  have ho : ops[k]? = some o := by
   have : ops.toList[k]? = some o := by rw [hall]; rw [← List.head?_drop, hl]; rfl
   simpa using this
  have hl' : all.drop (k + 1) = os := by rw [← List.drop_drop, hl]; rfl
  simp only [List.length_cons, List.range'_succ, wpOpsIn, ho]
  rw [wanted_eq hi, hall]
  simp only at h
  split at h
  ·rename_i hw
   rw [if_pos hw]
   split at h
   ·rename_i v hp
    refine does_wp (oper_of_seq hp hf hk hr hi) (fun x w' hout => ?_)
    have hc := Out.put hf hout hi o.dst
    obtain ⟨ρ1, c1, c2, c3, c4, c5, c6, c7, c8⟩ := hc
    exact ops_mono (fun e a w q => ⟨q.1, OutC.trans c1 c3 c7 c8 q.2⟩) _ _ _ (hO rnd all os _ _ f' s' h base ρ1 w' _ R ops (k + 1) hall hl' c2 c4 c6 c5 (hR.mono (c1.le hf)))
   split at h
   ·rename_i v os' hp
    refine does_wp (hP o f s v os' hp base ρ w a R hf hk hr hi) (fun x w' hout => ?_)
    have hc := Out.put hf hout hi o.dst
    obtain ⟨ρ1, c1, c2, c3, c4, c5, c6, c7, c8⟩ := hc
    exact ops_mono (fun e a w q => ⟨q.1, OutC.trans c1 c3 c7 c8 q.2⟩) _ _ _ (hO rnd all os _ _ f' s' h base ρ1 w' _ R ops (k + 1) hall hl' c2 c4 c6 c5 (hR.mono (c1.le hf)))
   ·simp at h
  ·rename_i hw
   rw [if_neg hw]
   refine ⟨fun g _ => fence_fn R g, ?_⟩
   exact hO rnd all os _ _ f' s' h base ρ w _ R ops (k + 1) hall hl' hf hk hr (hi.put (conv_undef ρ) o.dst) hR
def readRes (tm : Array Value) : ResultVar → Sem Value
 | .tmp i => pure (tm.getD i undef)
 | .cell i ty => do loadVar ty (← asAddr (tm.getD i undef))
theorem results_run {ρ : Rho} {s : St} {w : World} (hr : Rel base ρ s.look w) {t : List AV} {tm : Array Value} (ht : convs ρ t = some tm.toList) : ∀ (rs : List ResultVar) (vs : List AV), resultsA P s t rs = some vs →
  ∃ us, (rs.mapM (readRes tm)).run P w = .ok us w ∧ convs ρ vs = some us
 | [], vs, h => by simp [resultsA] at h; subst h; exact ⟨[], rfl, rfl⟩
 | .tmp i :: rs, vs, h => by
  simp only [resultsA] at h
  split at h
  ·rename_i l hl
   simp at h; subst h
   obtain ⟨us, h1, h2⟩ := results_run hr ht rs l hl
   have hg := convs_getD ht i
   have e : tm.toList.getD i undef = tm.getD i undef := by simp [Array.getD_eq_getD_getElem?, List.getD_eq_getElem?_getD]
   rw [e] at hg
   have e2 : t[i]?.getD aundef = t.getD i aundef := by simp [List.getD_eq_getElem?_getD]
   refine ⟨tm.getD i undef :: us, ?_, convs_cons.2 ⟨_, us, by rw [← e2] at hg; exact hg, h2, rfl⟩⟩
   simp only [List.mapM_cons, readRes, Sem.run_bind, Sem.run_pure, Result.andThen_ok, h1]
  ·simp at h
 | .cell i ty :: rs, vs, h => by
  simp only [resultsA] at h
  split at h
  ·rename_i v l hv hl
   simp at h; subst h
   obtain ⟨us, h1, h2⟩ := results_run hr ht rs l hl
   have hg := convs_getD ht i
   have e : tm.toList.getD i undef = tm.getD i undef := by simp [Array.getD_eq_getD_getElem?, List.getD_eq_getElem?_getD]
   rw [e] at hg
   generalize t.getD i aundef = q at hv hg
   cases q with
   | ptr b o =>
    simp only [conv] at hg
    cases hb : ρ b with
    | none => rw [hb] at hg; simp at hg
    | some p =>
     obtain ⟨B, δ, ex⟩ := p
     rw [hb] at hg; simp only [Option.some.injEq] at hg
     obtain ⟨u, k1, k2⟩ := loadVar_run (P := P) hr hv hb
     refine ⟨u :: us, ?_, convs_cons.2 ⟨u, us, k2, h2, rfl⟩⟩
     simp only [List.mapM_cons, readRes, Sem.run_bind, ← hg, asAddr, Sem.run_pure, Result.andThen_ok, k1, h1]
   | _ => simp [loadA] at hv
  ·simp at h
theorem out_kill {ρ : Rho} {s : St} {w w' : World} {b B : Nat} {o : AO} {O : Obj} (hf : Fresh s.n ρ) (hk : s.ok) (hr : Rel base ρ s.look w) (ht : Turn w w' B O)
  (hb : s.look b = some o) (how : o.own = true) (hB : blk ρ b = some B) (hos : o.single b = true) {v : AV} {u : Value} (hv : conv ρ v = some u) : Out base ρ s w v (s.set b .dead) u w' := by
 have hlt := St.look_lt hb
 have hkb : o.kinOf b = b := by
  cases o with
  | row cs e op own sp f z => simp [AO.single] at hos; exact hos.1
  | dead => simp [AO.single] at hos
  | _ => rfl
 have hrest : ∀ c q, (s.set b .dead).look c = some q → s.look c = some q ∧ c ≠ b ∧ blk ρ c ≠ some B := by
  intro c q h
  rw [St.look_set_dead b c hk hlt] at h
  split at h
  ·cases h
  ·rename_i hc
   refine ⟨h, hc, fun e => ?_⟩
   refine hr.apart b c o q hb h how ?_ (by rw [hB, e])
   rw [hkb]; exact fun e => hr.alone b o hb hos c q h hc e.symm
 refine ⟨ρ, Ext.refl _ _, hf, Nat.le_refl _, St.ok_set _ _ hk, hv, ⟨?_, ?_, ?_, ?_, fun c => St.look_live _ c, by rw [ht.size]; exact hr.base_le⟩, ⟨ht.os, ht.tape, ht.output, by rw [ht.size]; exact Nat.le_refl _, ?_, ?_⟩, ⟨minF_l _ _, fun c hc _ => ?_⟩⟩
 ·intro c q h
  obtain ⟨h1, h2, h3⟩ := hrest c q h
  exact (hr.obj c q h1).mono (Rho.le.refl ρ) (fun B' hB' => ht.other B' (fun e' => h3 (e' ▸ hB')))
 ·intro c c' q q' h h' ho hne; exact hr.apart c c' q q' (hrest c q h).1 (hrest c' q' h').1 ho hne
 ·intro c q h; exact hr.kin c q (hrest c q h).1
 ·intro c q h hs c' q' h' hne; exact hr.alone c q (hrest c q h).1 hs c' q' (hrest c' q' h').1 hne
 ·intro k _ hno; exact ht.other k (fun e => hno b o hb how (by rw [hB, e]))
 ·intro c q C h ho hC; exact .inr ⟨c, q, (hrest c q h).1, ho, hC⟩
 ·rw [St.get_set _ b c hk hlt, if_neg]
  intro e; subst e; simp only [St.set_def] at hc; omega
theorem resultA_run (vs : List AV) (us : List Value) {ρ : Rho} (h : convs ρ vs = some us) : conv ρ (resultA vs) = some (if h : us.toArray.size = 1 then us.toArray[0] else .tuple us.toArray) := by
 have hl := convs_length h
 unfold resultA
 split
 ·rename_i v
  obtain ⟨a, r, h1, h2, h3⟩ := convs_cons.1 h
  simp [convs] at h2; subst h2; subst h3
  simp [h1]
 ·rename_i hne
  have : us.toArray.size ≠ 1 := by
   intro e
   simp at e
   rw [hl] at e
   match vs, e with
   | [v], _ => exact hne v rfl
  rw [dif_neg this]
  simp [conv, h]
theorem leaves_run {fn : Func} {t : List AV} {tm : Array Value} {vs : List AV} : ∀ (d : List Nat) {ρ : Rho} {s s2 : St} {w : World} {ds : List Deferred}, Fresh s.n ρ → s.ok → Rel base ρ s.look w → convs ρ t = some tm.toList → marksOf ρ d = some ds → shutA s d = some s2 → resultsA P s2 t fn.results.toList = some vs →
  ∀ (Q : Ending → World → Prop), (∀ x w', Out base ρ s w (resultA vs) s2 x w' → Q (.returned x) w') → LeavesInM Fence.wide 0 P fn tm Q ds .returning w
 | [], ρ, s, s2, w, ds, hf, hk, hr, ht, hm, hs, hres, Q, hQ => by
  simp [shutA] at hs; subst hs
  simp [marksOf] at hm; subst hm
  obtain ⟨us, h1, h2⟩ := results_run (P := P) hr ht _ _ hres
  refine ⟨if h : us.toArray.size = 1 then us.toArray[0] else .tuple us.toArray, ?_, hQ _ w (Out.same hf hk hr (resultA_run vs us h2))⟩
  unfold results
  rw [Sem.run_bind, Array.mapM_eq_mapM_toList, Sem.run_map]
  change (((fn.results.toList.mapM (readRes tm)).run P w).andThen _).andThen _ = _
  rw [h1]
  rfl
 | b :: d, ρ, s, s2, w, ds, hf, hk, hr, ht, hm, hs, hres, Q, hQ => by
  simp only [shutA] at hs
  split at hs
  ·rename_i hg
   simp only [marksOf] at hm
   cases hB : blk ρ b with
   | none => rw [hB] at hm; simp at hm
   | some B =>
    cases hms : marksOf ρ d with
    | none => rw [hB, hms] at hm; simp at hm
    | some l =>
     rw [hB, hms] at hm
     simp only [Option.some.injEq] at hm
     subst hm
     have hlook := St.look_of_get hg (by simp)
     obtain ⟨B', δ, ex, g1, g2, g3⟩ := hr.obj b _ hlook
     have : B' = B := by simp [blk, g1] at hB; exact hB
     subst this
     have hlt := (Array.getElem?_eq_some_iff.1 g2).1
     refine ⟨by simp, .inl ⟨B', wput w B' (.deferred none), rfl, ?_, ?_⟩⟩
     ·simp only [Instr.takeDeferred, Sem.run_bind, getObj_run g2 (by simp), Result.andThen_ok, setObj_run g2 (by simp), Sem.run_pure]
     ·obtain ⟨ρ1, o1, o2, o3, o4, o5, o6, o7, o8⟩ := out_kill (v := aundef) (u := undef) hf hk hr (Turn.wput (O := .deferred none) hlt) hlook rfl hB rfl rfl
      refine leaves_run d o2 o4 o6 (convs_mono (o1.le hf) _ _ ht) (marks_mono (o1.le hf) hms) hs hres Q (fun x w' hout => hQ x w' ?_)
      obtain ⟨ρ2, p1, p2, p3, p4, p5, p6, p7, p8⟩ := hout
      exact ⟨ρ2, o1.trans p1 o3, p2, Nat.le_trans o3 p3, p4, p5, p6, o7.trans p7, o8.trans p8 o3⟩
  ·simp at hs
theorem func_step [Trues P] {n : Nat} (hC : CodeOk P n) : FuncOk P (n + 1) := by
 intro fid args s v os h base ρ w cargs hf hk hr ha
 simp only [evF] at h
 split at h
 ·rename_i fn hfn
  split at h
  ·rename_i c hc
   split at h
   ·rename_i ht
    simp only [Bool.and_eq_true, List.isEmpty_iff, List.contains_eq_mem, decide_eq_true_eq] at ht
    obtain ⟨h1, h2⟩ := ht
    subst h1
    simp at h; obtain ⟨rfl, rfl⟩ := h
    have hcargs : cargs = [] := by simp [convs] at ha; exact ha
    subst hcargs
    refine (callsIn_wide.2 (Trues.tru fid h2 w)).mono fun e w' q => ?_
    obtain ⟨rfl, hb⟩ := q
    refine ⟨_, rfl, ρ, Ext.refl _ _, hf, Nat.le_refl _, hk, rfl, ⟨fun b o hb' => ?_, hr.apart, hr.kin, hr.alone, hr.live, Nat.le_trans hr.base_le hb.size⟩, ⟨hb.os, hb.tape, hb.output, hb.size, fun k hk _ => hb.block k hk, fun b o B h1 h2 h3 => .inr ⟨b, o, h1, h2, h3⟩⟩, KeepA.refl _⟩
    refine (hr.obj b o hb').mono (Rho.le.refl ρ) (fun B hB => ?_)
    obtain ⟨B', e1, e2, _⟩ := hr.place hb'
    rw [hB] at e1; cases e1
    exact hb.block B e2
   have hla := convs_length ha
   refine callsIn_of_wp_marks hfn hc trivial ?_ rfl
   have hin : InF ρ { t := args ++ List.replicate (fn.ntmps - args.length) aundef, d := [] } { tmps := cargs.toArray ++ Array.replicate (fn.ntmps - cargs.toArray.size) undef, defers := [] } := by
    refine ⟨?_, rfl⟩
    simp only [Array.toList_append, List.size_toArray, hla, Array.toList_replicate]
    exact convs_append ha (convs_replicate _ (conv_undef ρ))
   have fin : ∀ (x : AX) (f' : Fr) (s1 : St), (x = .normal ∨ x = .ret) → evC P none n c { t := args ++ List.replicate (fn.ntmps - args.length) aundef, d := [] } { s with dirty := s.n } = some (x, f', s1) →
     (match shutA s1 f'.d with
      | some s2 => match resultsA P s2 f'.t fn.results.toList with
       | some vs =>
        if Facts.drop && (resultA vs).flat && decide (s.n ≤ s2.dirty) then some (resultA vs, none)
        else some (resultA vs, some { s2 with dirty := min s.dirty s2.dirty })
       | none => none
      | none => none) = some (v, os) →
     c.wpIn Fence.wide 0 P (bodyPostM Fence.wide 0 P fn fun e w' => ∃ x, e = .returned x ∧ Out base ρ s w v (os.getD s) x w') { tmps := cargs.toArray ++ Array.replicate (fn.ntmps - cargs.toArray.size) undef, defers := [] } w := by
    intro x f' s1 hx he hm
    split at hm
    ·rename_i s2 hs2
     split at hm
     ·rename_i vs hvs
      have hw := hC none c _ _ x f' s1 he base ρ w _ none hf hk hr hin rfl
      refine wpIn_mono hw (fun e a' w' hq => ?_)
      obtain ⟨rfl, ρ1, o1, o2, o3, o4, o5, o6, o7, o8⟩ := hq
      have key : LeavesInM Fence.wide 0 P fn a'.tmps (fun e w' => ∃ x, e = .returned x ∧ Out base ρ s w v (os.getD s) x w') a'.defers .returning w' := by
       refine leaves_run f'.d o2 o4 o6 o5.tmps o5.marks hs2 hvs _ (fun x w2 hout => ⟨x, rfl, ?_⟩)
       obtain ⟨ρ2, p1, p2, p3, p4, p5, p6, p7, p8⟩ := hout
       have hka := o8.trans p8 o3
       have hext := o1.trans p1 o3
       have hfr := o7.trans p7
       have hle := hext.le hf
       split at hm
       ·rename_i hq
        simp only [Bool.and_eq_true, decide_eq_true_eq] at hq
        simp at hm; obtain ⟨rfl, rfl⟩ := hm
        have hsame : ∀ b o, s.look b = some o → s2.look b = some o := by
         intro b o hb
         have hlt := St.look_lt hb
         have := hka.2 b (by omega) hlt
         have hg := St.get_of_look hb
         exact St.look_of_get (by rw [this]; exact hg) (fun e => St.look_live s b (e ▸ hb))
        refine ⟨ρ, Ext.refl _ _, hf, Nat.le_refl _, hk, conv_flat _ _ hq.1.2 p5, hr.back p6 hle hsame, ⟨hfr.os, hfr.tape, hfr.output, hfr.size, hfr.keep, fun b o B h1 h2 h3 => .inr ⟨b, o, h1, h2, h3⟩⟩, KeepA.refl _⟩
       ·simp at hm; obtain ⟨rfl, rfl⟩ := hm
        refine ⟨ρ2, hext, p2, Nat.le_trans o3 p3, p4, p5, p6, hfr, Nat.min_le_left _ _, fun b hb hb' => ?_⟩
        simp only [Option.getD_some] at hb
        exact hka.2 b (by omega) hb'
      rcases hx with e | e <;> subst e <;> exact key
     ·simp at hm
    ·simp at hm
   split at h
   ·simp at h
   ·rename_i x f' s1 hne he
    refine fin x f' s1 ?_ he h
    cases x with
    | normal => exact .inl rfl
    | ret => exact .inr rfl
    | exit id => exact (hne id rfl).elim
   ·simp at h
  ·simp at h
 ·simp at h
end Go.Vm
