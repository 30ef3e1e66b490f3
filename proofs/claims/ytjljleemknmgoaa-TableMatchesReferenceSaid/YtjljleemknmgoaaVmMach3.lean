/-
 Part of the proof that a machine over named lists stands for the program's runs (VmMach3). No conditions beyond those that its theorems name.
-/
import Derived.Test.YtjljleemknmgoaaVmMach2
namespace Go.Vm
set_option linter.unusedSectionVars false
variable [Facts] [Val] [Sound]
variable {P : Program} {base : Nat} [Trues P]
def DrawOk (P : Program) (n : Nat) : Prop := ∀ (id : Nat) (ops : Array Oper) (f : Fr) (s : St) (f' : Fr) (s' : St) (eff : List Nat), evD P (befores [] ops.toList) n ops.toList ops.toList 0 f s [] [] = some (f', s', eff) → (drawOk ops.toList eff || drawOk2 ops.toList f' s eff) = true →
 ∀ (base : Nat) (ρ : Rho) (w : World) (a : Act) (R : Option Nat), Fresh s.n ρ → s.ok → Rel base ρ s.look w → InF ρ f a →
  (Code.region id ops true).wpIn (fence R) 0 P (fun e a' w' => e = .normal ∧ OutC base ρ s w f' s' a' w') a w
theorem range_fst {ρ : Rho} {w : World} {a : Act} {f : Fr} {s : St} (hf : Fresh s.n ρ) (hk : s.ok) (hr : Rel base ρ s.look w) (hi : InF ρ f a) (ps : Array Tmp) (assign body : Code)
  {D : Nat} {dB : Nat} (hD : ∃ δ' x', ρ D = some (dB, δ', x')) (fn : FuncId) :
  Out base ρ s w (.yld s.n) (s.push (.loop .ready none f.t ps.toList assign body D)) (.func (.yield w.heap.size) #[] #[])
   (w.alloc (.loop { state := .ready, pending := none, fn := fn, tmps := a.tmps, params := ps, assign := assign, body := body, defers := dB })) := by
 have hle := Rho.with_le (w.heap.size, 0, none) hf
 obtain ⟨δ', x', hD⟩ := hD
 refine out_push_own (x := .loop .ready none f.t ps.toList assign body D) (ext := none) hf hk hr (by simp) rfl ?_ (by simp [conv, Rho.with_self])
 refine ⟨w.heap.size, 0, none, fn, dB, a.tmps.toList, Rho.with_self _ _ _, ?_, hr.base_le, convs_mono hle _ _ hi.tmps, δ', x', hle _ _ hD⟩
 simp only [World.alloc, Array.getElem?_push_size, Option.map_none]
theorem jump_wp {R : Option Nat} {a : Act} {w : World} (x : AX) {Q : Exit → Act → World → Prop} (h : Q x.exit' a w) : x.code.wpIn (fence R) 0 P Q a w := by
 cases x with
 | normal => exact wpIn_skip h
 | ret => exact wpIn_ret h
 | exit id => exact wpIn_exit h
def noGoto : Exit → Prop
 | .goto _ => False
 | _ => True
theorem stepR_scope {b : Frame} {a : Act} {k : List Item} {cs : List Frame} {w : World} {c : Code} : step P (lone (b.atR a (.code (.scope c) :: k)) cs w) = .next (lone (b.atR a (.code c :: .inScope c :: k)) cs w) :=
 step_lone_go (by simp [stepG, stepG.exec, Frame.atR])
theorem stepR_inScope {b : Frame} {a : Act} {k : List Item} {cs : List Frame} {w : World} {c : Code} : step P (lone (b.atR a (.inScope c :: k)) cs w) = .next (lone (b.atR a k) cs w) :=
 step_lone_go (by simp [stepG, stepG.exec, Frame.atR])
theorem wpIn_scope {F : Fence} {n : Nat} {c : Code} {Q : Exit → Act → World → Prop} {a : Act} {w : World} (hQ : ∀ e a w, Q e a w → noGoto e) (h : c.wpIn F n P Q a w) : (Code.scope c).wpIn F n P Q a w := by
 intro b k cs hro hb hr
 have h0 : (lone (b.atR a (.code (.scope c) :: k)) cs w).fenced P F := fenced_calm hb hr rfl
 obtain ⟨e, a₁, w₁, hq, harr⟩ := h b (.inScope c :: k) cs hro hb hr
 have hx : ∀ id, exitTo id (.inScope c :: k) = exitTo id k := fun id => by simp [exitTo]
 cases e with
 | normal => exact ⟨.normal, a₁, w₁, hq, .head h0 stepR_scope (StepsIn.trans harr (.one (fenced_calm (fr := b.atR a₁ (.inScope c :: k)) hb hr rfl) stepR_inScope))⟩
 | exit id => exact ⟨.exit id, a₁, w₁, hq, fun k' hk => .head h0 stepR_scope (harr.1 k' (by rw [hx]; exact hk)), fun hr' hk => let ⟨k₁, h1, h2⟩ := harr.2 hr' (by rw [hx]; exact hk); ⟨k₁, h1, .head h0 stepR_scope h2⟩⟩
 | goto l => exact (hQ _ _ _ hq).elim
 | ret => exact ⟨_, a₁, w₁, hq, .of_steps (.one h0 stepR_scope) harr⟩
 | panic ch => exact ⟨_, a₁, w₁, hq, .of_steps (.one h0 stepR_scope) harr⟩
 | outgrown => exact ⟨_, a₁, w₁, hq, .of_steps (.one h0 stepR_scope) harr⟩
theorem code_step (hPl : Plain P) {n : Nat} (hC : ∀ m, m ≤ n → CodeOk P m) (hO : OpsOk P n) (hF : FuncOk P n) (hD : DrawOk P n) : CodeOk P (n + 1) := by
 intro rnd c f s x f' s' h base ρ w a R hf hk hr hi hR
 have hstart : OutC base ρ s w f s a w := OutC.start hf hk hr hi
 cases c with
 | skip => simp [evC] at h; obtain ⟨rfl, rfl, rfl⟩ := h; exact wpIn_skip ⟨rfl, hstart⟩
 | label l => simp [evC] at h; obtain ⟨rfl, rfl, rfl⟩ := h; exact wpIn_label ⟨rfl, hstart⟩
 | ret => simp [evC] at h; obtain ⟨rfl, rfl, rfl⟩ := h; exact wpIn_ret ⟨rfl, hstart⟩
 | exit id => simp [evC] at h; obtain ⟨rfl, rfl, rfl⟩ := h; exact wpIn_exit ⟨rfl, hstart⟩
 | goto l => simp [evC] at h
 | refuse y => simp [evC] at h
 | scope p =>
  simp only [evC] at h
  refine wpIn_scope (fun e a w q => by rw [q.1]; cases x <;> trivial) (hC n (Nat.le_refl _) rnd p f s x f' s' h base ρ w a R hf hk hr hi hR)
 | seq p q =>
  simp only [evC] at h
  refine wpIn_seq ?_
  split at h
  ·rename_i f1 s1 h1
   refine wpIn_mono (hC n (Nat.le_refl _) rnd p f s .normal f1 s1 h1 base ρ w a R hf hk hr hi hR) (fun e a1 w1 hq => ?_)
   obtain ⟨rfl, ρ1, o1, o2, o3, o4, o5, o6, o7, o8⟩ := hq
   refine wpIn_mono (hC n (Nat.le_refl _) rnd q f1 s1 x f' s' h base ρ1 w1 a1 R o2 o4 o6 o5 (hR.mono (o1.le hf))) (fun e a2 w2 hq => ?_)
   exact ⟨hq.1, OutC.trans o1 o3 o7 o8 hq.2⟩
  ·rename_i hne
   refine wpIn_mono (hC n (Nat.le_refl _) rnd p f s x f' s' h base ρ w a R hf hk hr hi hR) (fun e a1 w1 hq => ?_)
   obtain ⟨rfl, hq⟩ := hq
   cases x with
   | normal => exact (hne f' s' h).elim
   | ret => exact ⟨rfl, hq⟩
   | exit id => exact ⟨rfl, hq⟩
 | cond c p q =>
  simp only [evC] at h
  split at h
  ·rename_i hc
   have := aEval_conv hi.tmps hc
   simp [conv] at this
   exact wpIn_cond_true this.symm (hC n (Nat.le_refl _) rnd p f s x f' s' h base ρ w a R hf hk hr hi hR)
  ·rename_i hc
   have := aEval_conv hi.tmps hc
   simp [conv] at this
   exact wpIn_cond_false this.symm (hC n (Nat.le_refl _) rnd q f s x f' s' h base ρ w a R hf hk hr hi hR)
  ·simp at h
 | block id p =>
  simp only [evC] at h
  refine wpIn_block ?_
  split at h
  ·rename_i id' f1 s1 h1
   refine wpIn_mono (hC n (Nat.le_refl _) rnd p f s (.exit id') f1 s1 h1 base ρ w a R hf hk hr hi hR) (fun e a1 w1 hq => ?_)
   obtain ⟨rfl, hq⟩ := hq
   simp only [AX.exit', Exit.inBlock]
   split at h
   ·rename_i e; simp at h; obtain ⟨rfl, rfl, rfl⟩ := h
    rw [if_pos e]; exact ⟨rfl, hq⟩
   ·rename_i e; simp at h; obtain ⟨rfl, rfl, rfl⟩ := h
    rw [if_neg e]; exact ⟨rfl, hq⟩
  ·rename_i hne
   refine wpIn_mono (hC n (Nat.le_refl _) rnd p f s x f' s' h base ρ w a R hf hk hr hi hR) (fun e a1 w1 hq => ?_)
   obtain ⟨rfl, hq⟩ := hq
   cases x with
   | normal => exact ⟨rfl, hq⟩
   | ret => exact ⟨rfl, hq⟩
   | exit id' => exact (hne id' f' s' h).elim
 | loop p =>
  refine wpIn_loop_rounds (n + 1) ?_
  have key : ∀ (j : Nat), j ≤ n + 1 → ∀ (f1 : Fr) (s1 : St) (a1 : Act) (w1 : World), OutC base ρ s w f1 s1 a1 w1 → evC P rnd j (.loop p) f1 s1 = some (x, f', s') →
    Code.roundsIn (fence R) 0 P p (fun e a' w' => e = x.exit' ∧ OutC base ρ s w f' s' a' w') j a1 w1 := by
   intro j
   induction j with
   | zero => intro _ f1 s1 a1 w1 _ he; simp [evC] at he
   | succ j ih =>
    intro hj f1 s1 a1 w1 hout he
    obtain ⟨ρ1, o1, o2, o3, o4, o5, o6, o7, o8⟩ := hout
    have hR1 := hR.mono (o1.le hf)
    simp only [evC] at he
    rw [roundsIn_succ]
    split at he
    ·rename_i f2 s2 h2
     refine wpIn_mono (hC j (by omega) rnd p f1 s1 .normal f2 s2 h2 base ρ1 w1 a1 R o2 o4 o6 o5 hR1) (fun e a2 w2 hq => ?_)
     obtain ⟨rfl, hq⟩ := hq
     exact ih (by omega) f2 s2 a2 w2 (OutC.trans o1 o3 o7 o8 hq) he
    ·rename_i hne
     refine wpIn_mono (hC j (by omega) rnd p f1 s1 x f' s' he base ρ1 w1 a1 R o2 o4 o6 o5 hR1) (fun e a2 w2 hq => ?_)
     obtain ⟨rfl, hq⟩ := hq
     have hq := OutC.trans o1 o3 o7 o8 hq
     cases x with
     | normal => exact (hne f' s' he).elim
     | ret => exact ⟨rfl, hq⟩
     | exit id => exact ⟨rfl, hq⟩
  exact key (n + 1) (Nat.le_refl _) f s a w hstart h
 | region id ops draw =>
  cases draw with
  | false =>
   simp only [evC] at h
   split at h
   ·rename_i f1 s1 h1
    simp at h; obtain ⟨rfl, rfl, rfl⟩ := h
    refine wpIn_region ?_
    have := hO rnd ops.toList ops.toList f s f1 s1 h1 base ρ w a R ops 0 rfl rfl hf hk hr hi hR
    rw [List.range_eq_range']
    refine ops_mono (Q := fun e a' w' => e = Exit.normal ∧ OutC base ρ s w f1 s1 a' w') (fun e a w q => q) _ _ _ ?_
    simpa using this
   ·simp at h
  | true =>
   simp only [evC] at h
   split at h
   ·rename_i f1 s1 eff h1
    split at h
    ·rename_i hd
     simp at h; obtain ⟨rfl, rfl, rfl⟩ := h
     exact hD id ops f s f1 s1 eff h1 hd base ρ w a R hf hk hr hi
    ·simp at h
   ·simp at h
 | rangeFunc g ps assign body =>
  simp only [evC] at h
  split at h
  ·rename_i D mark s1 hstart1
   split at h
   ·rename_i gid fst cap hg
    split at h
    ·rename_i v3 s3 h3
     obtain ⟨gfn, gcd, hgfn, hgbd⟩ := evF_body h3
     refine wpIn_rangeFunc (fun fn _ => ?_)
     have hga := aEval_conv hi.tmps hg
     have first : ∃ (ρ1 : Rho) (w1 : World) (dB : Nat) (mk : List Deferred), Ext s.n ρ ρ1 ∧ Fresh s1.n ρ1 ∧ s.n ≤ s1.n ∧ s1.ok ∧ Rel base ρ1 s1.look w1 ∧ Fram ρ s.look w ρ1 s1.look w1 ∧ KeepA s s1 ∧ (∃ δ' x', ρ1 D = some (dB, δ', x')) ∧ marksOf ρ1 mark = some mk ∧
       ∀ (k : Nat × List Deferred → World → Prop), True →
        (Instr.enterLoop fn a.tmps ps assign body (fence R).round).run P w = .ok (w1.heap.size, mk) (w1.alloc (.loop { state := .ready, pending := none, fn := fn, tmps := a.tmps, params := ps, assign := assign, body := body, defers := dB })) := by
      rw [fence_round]
      cases rnd with
      | none =>
       simp only at hstart1
       simp at hstart1; obtain ⟨rfl, rfl, rfl⟩ := hstart1
       have hRn : R = none := hR
       subst hRn
       obtain ⟨ρ1, q1, q2, q3, q4, q5, q6, q7, q8⟩ := out_push_own (base := base) (x := .dfr) (O := .deferred (some [])) (ext := none) (v := .yld s.n) (u := .func (.yield w.heap.size) #[] #[]) hf hk hr (by simp) rfl
        ⟨w.heap.size, 0, none, Rho.with_self _ _ _, by simp only [World.alloc, Array.getElem?_push_size], hr.base_le⟩ (by simp [conv, Rho.with_self])
       have hD : ∃ δ' x', ρ1 s.n = some (w.heap.size, δ', x') := by
        simp only [conv] at q5
        cases hb : ρ1 s.n with
        | none => rw [hb] at q5; simp at q5
        | some p => obtain ⟨B, δ, ex⟩ := p; rw [hb] at q5; simp at q5; exact ⟨δ, ex, by rw [q5]⟩
       refine ⟨ρ1, w.alloc (.deferred (some [])), w.heap.size, [{ target := .collected w.heap.size, args := #[] }], q1, q2, q3, q4, q6, q7, q8, hD, ?_, fun _ _ => ?_⟩
       ·obtain ⟨δ', x', hD⟩ := hD
        simp [marksOf, blk, hD]
       ·simp [Instr.enterLoop]
      | some b0 =>
       simp only at hstart1
       split at hstart1
       ·rename_i q1 q2 q3 q4 q5 q6 d0 hg0
        simp at hstart1; obtain ⟨rfl, rfl, rfl⟩ := hstart1
        obtain ⟨B0, hB0, hR0⟩ := hR
        subst hR0
        obtain ⟨r, g1, _, _, _, _, _, _, ⟨δ', x', g2⟩, _⟩ := loop_turn (st' := .ready) (pend' := none) (v := aundef) (u := undef) hf hk hr hg0 hB0 rfl
        refine ⟨ρ, w, r.defers, [], Ext.refl _ _, hf, Nat.le_refl _, hk, hr, Fram.refl _ _ _, KeepA.refl _, ⟨δ', x', g2⟩, rfl, fun _ _ => ?_⟩
        simp [Instr.enterLoop, getLoop_run g1]
       ·simp at hstart1
     obtain ⟨ρ1, w1, dB, mk, e1, e2, e3, e4, e5, e6, e7, e8, e9, e10⟩ := first
     have hent := e10 (fun _ _ => True) trivial
     have hi1 := hi.mono (e1.le hf)
     have hout2 := range_fst e2 e4 e5 hi1 ps assign body e8 fn
     obtain ⟨ρ2, p1, p2, p3, p4, p5, p6, p7, p8⟩ := hout2
     have hle12 := (e1.le hf).trans (p1.le e2)
     have hga2 := conv_mono hle12 _ _ hga
     simp only [conv] at hga2
     cases c1 : convs ρ2 fst with
     | none => rw [c1] at hga2; simp at hga2
     | some fst' =>
      cases c2 : convs ρ2 cap with
      | none => rw [c1, c2] at hga2; simp at hga2
      | some cap' =>
       rw [c1, c2] at hga2
       simp only [Option.some.injEq] at hga2
       have hargs := convs_append (convs_append c1 (show convs ρ2 [AV.yld s1.n] = some [.func (.yield w1.heap.size) #[] #[]] from convs_cons.2 ⟨_, [], p5, rfl, rfl⟩)) c2
       have hcalls := fence_calls (R := R) (hF gid _ _ v3 s3 h3 base ρ2 _ _ p2 p4 p6 hargs)
       refine ⟨w1.heap.size, mk, (w1.alloc (.loop { state := .ready, pending := none, fn := fn, tmps := a.tmps, params := ps, assign := assign, body := body, defers := dB })), { target := .fn (.func gid) cap'.toArray, args := fst'.toArray ++ #[.func (.yield w1.heap.size) #[] #[]] }, (w1.alloc (.loop { state := .ready, pending := none, fn := fn, tmps := a.tmps, params := ps, assign := assign, body := body, defers := dB })), gid, (fst'.toArray ++ #[.func (.yield w1.heap.size) #[] #[]]) ++ cap'.toArray, (w1.alloc (.loop { state := .ready, pending := none, fn := fn, tmps := a.tmps, params := ps, assign := assign, body := body, defers := dB })), hent, ?_, fun f' _ => fence_fn R f', (by simp only [invoke]; exact callFunc_run hPl hgfn hgbd _ _), fun e => (by rw [fence_depth] at e; cases e), ?_⟩
       ·simp only [resolve, ← hga2, Deferred.ofValue, Sem.run_pure]
        simp [Act.eval]
       ·have harr : (fst'.toArray ++ #[Value.func (.yield w1.heap.size) #[] #[]]) ++ cap'.toArray = ((fst' ++ [Value.func (.yield w1.heap.size) #[] #[]]) ++ cap').toArray := by apply Array.ext'; simp
        rw [harr]
        refine hcalls.mono (fun e w3 q => ?_)
        obtain ⟨y, rfl, ρ3, z1, z2, z3, z4, z5, z6, z7, z8⟩ := q
        have hle23 := z1.le p2
        split at h
        ·rename_i st pend ts ps' as bo D' hg3
         split at h
         ·simp at h
         ·rename_i hbusy
          have hBl : blk ρ3 s1.n = some w1.heap.size := by
           refine blk_mono hle23 ?_
           have := p5
           simp only [conv] at this
           cases hb : ρ2 s1.n with
           | none => rw [hb] at this; simp at this
           | some p =>
            obtain ⟨B, δ, ex⟩ := p
            rw [hb] at this; simp at this
            simp [blk, hb, this]
          obtain ⟨r, k1, k2, k3, _, _, _, _, _, kout⟩ := loop_turn (st' := .exhausted) (pend' := pend) (v := aundef) (u := undef) z2 z4 z6 hg3 hBl rfl
          have e0 : ({ r with state := .exhausted, pending := pend.map AX.code } : Loop) = { r with state := .exhausted } := by rw [← k3]
          rw [e0] at kout
          have hend : (Instr.endLoop w1.heap.size).run P w3 = .ok r.pending (wput w3 w1.heap.size (.loop { r with state := .exhausted })) := by
           unfold Instr.endLoop
           have : (r.state == .busy) = false := by rw [k2]; simpa using hbusy
           simp only [Sem.run_bind, getLoop_run k1, Result.andThen_ok, this, Bool.false_eq_true, if_false, setObj_run k1 (by simp), Sem.run_pure]
          refine ⟨r.pending, _, hend, ?_⟩
          obtain ⟨ρ4, y1, y2, y3, y4, y5, y6, y7, y8⟩ := kout
          have hle34 := y1.le z2
          have hle04 := (e1.le hf).trans ((p1.le e2).trans (hle23.trans hle34))
          have hfin : OutC base ρ s w { f with d := mark ++ f.d } ((s3.getD (s1.push (.loop .ready none f.t ps.toList assign body D))).set s1.n (.loop .exhausted pend ts ps' as bo D')) { a with defers := mk ++ a.defers } (wput w3 w1.heap.size (.loop { r with state := .exhausted })) := by
           refine ⟨ρ4, e1.trans (p1.trans (z1.trans y1 z3) p3) e3, y2, by omega, y4, ?_, y6, e6.trans (p7.trans (z7.trans y7)), e7.trans (p8.trans (z8.trans y8 z3) p3) e3⟩
           refine ⟨convs_mono hle04 _ _ hi.tmps, ?_⟩
           have m1 := marks_mono ((p1.le e2).trans (hle23.trans hle34)) e9
           have m2 := marks_mono hle04 hi.marks
           have app : ∀ (l : List Nat) (d : List Deferred), marksOf ρ4 l = some d → marksOf ρ4 (l ++ f.d) = some (d ++ a.defers) := by
            intro l
            induction l with
            | nil => intro d e; simp [marksOf] at e; subst e; exact m2
            | cons b l ih =>
             intro d e
             simp only [marksOf] at e
             cases hb : blk ρ4 b with
             | none => rw [hb] at e; simp at e
             | some B =>
              cases hm : marksOf ρ4 l with
              | none => rw [hb, hm] at e; simp at e
              | some dl =>
               rw [hb, hm] at e; simp at e; subst e
               simp only [List.cons_append, marksOf, hb, ih dl hm]
           exact app mark mk m1
          rw [k3] at hfin ⊢
          cases pend with
          | none =>
           simp only [Option.some.injEq, Prod.mk.injEq] at h; obtain ⟨rfl, rfl, rfl⟩ := h
           exact ⟨rfl, hfin⟩
          | some x0 =>
           simp only [Option.some.injEq, Prod.mk.injEq] at h; obtain ⟨rfl, rfl, rfl⟩ := h
           exact jump_wp x0 ⟨rfl, hfin⟩
        ·simp at h
    ·simp at h
   ·simp at h
  ·simp at h
theorem all_ok (hPl : Plain P) (hD : ∀ n, (∀ m, m < n → OperOk P m) → DrawOk P n) : ∀ n, CodeOk P n ∧ OpsOk P n ∧ OperOk P n ∧ FuncOk P n ∧ RoundOk P n ∧ DrawOk P n := by
 intro n
 induction n using Nat.strongRecOn with
 | _ n ih =>
  cases n with
  | zero =>
   refine ⟨?_, ?_, ?_, ?_, ?_, hD 0 (fun m hm => by omega)⟩
   ·intro rnd c f s x f' s' h; simp [evC] at h
   ·intro rnd all l f s f' s' h; simp [evO] at h
   ·intro o f s v os h; simp [evP] at h
   ·intro fid args s v os h; simp [evF] at h
   ·intro b args s v os h; simp [evR] at h
  | succ n =>
   obtain ⟨h1, h2, h3, h4, h5, h6⟩ := ih n (by omega)
   exact ⟨code_step hPl (fun m hm => (ih m (by omega)).1) h2 h4 h6, ops_step h3 h2, oper_step hPl h4 h5, func_step h1, round_step h1, hD (n + 1) (fun m hm => (ih m hm).2.2.1)⟩
end Go.Vm
