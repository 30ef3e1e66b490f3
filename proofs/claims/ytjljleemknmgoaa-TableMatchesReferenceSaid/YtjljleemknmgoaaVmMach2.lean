/-
 Part of the proof that a machine over named lists stands for the program's runs (VmMach2). No conditions beyond those that its theorems name.
-/
import Derived.Test.YtjljleemknmgoaaVmMach
namespace Go.Vm
set_option linter.unusedSectionVars false
variable [Facts] [Val] [Sound]
variable {P : Program} {base : Nat} [Trues P]
theorem evF_body {n : Nat} {fid : FuncId} {args : List AV} {s : St} {r : AV × Option St} (h : evF P n fid args s = some r) : ∃ fn c, P.funcs[fid]? = some fn ∧ fn.body = some c := by
 cases n with
 | zero => simp [evF] at h
 | succ n =>
  simp only [evF] at h
  split at h
  ·rename_i fn hfn
   split at h
   ·rename_i c hc; exact ⟨fn, c, hfn, hc⟩
   ·simp at h
  ·simp at h
theorem callFunc_run (hPl : Plain P) {fid : FuncId} {fn : Func} {c : Code} (h1 : P.funcs[fid]? = some fn) (h2 : fn.body = some c) (args : Array Value) (w : World) : (callFunc fid args).run P w = .ok (.enter fid args) w := by
 unfold callFunc
 simp only [Sem.run_bind, run_program, Result.andThen_ok, h1, hPl fid fn h1, Bool.false_eq_true, if_false, h2, Option.isNone_some, Sem.run_pure]
theorem oper_step (hPl : Plain P) {n : Nat} (hF : FuncOk P n) (hR : RoundOk P n) : OperOk P (n + 1) := by
 intro o f s v os h base ρ w a R hf hk hr hi
 simp only [evP] at h
 have viaPrim : prim P f.t s o.op = some (v, os) → Does (fence R) P (fun x w' => Out base ρ s w v (os.getD s) x w') ((o.semAt (fence R).round a.eval).run P w) := fun hp => oper_of_prim hp hf hk hr hi
 cases ho : o.op <;> rw [ho] at h viaPrim <;> try exact viaPrim h
 rename_i c
 simp only at h
 cases hc : c.callee <;> rw [hc] at h <;> try exact viaPrim h
 rename_i g
 simp only at h
 have hev : o.semAt (fence R).round a.eval = (do let d ← resolve a.eval c o.type; invoke d.target d.args : Sem Next) := by
  rw [Oper.semAt_eq _ _ _ (fun c e => by rw [ho] at e; cases e)]
  unfold execOp; rw [ho]
 rw [hev]
 split at h
 ·rename_i fid fst cap args hg ha
  obtain ⟨fn, cd, hfn, hbd⟩ := evF_body h
  have hga := aEval_conv hi.tmps hg
  simp only [conv] at hga
  cases h1 : convs ρ fst with
  | none => rw [h1] at hga; simp at hga
  | some fst' =>
   cases h2 : convs ρ cap with
   | none => rw [h1, h2] at hga; simp at hga
   | some cap' =>
    rw [h1, h2] at hga
    simp only [Option.some.injEq] at hga
    have hargs := convs_append (convs_append h1 (aEvals_conv hi.tmps ha)) h2
    have hcalls := fence_calls (R := R) (hF fid _ s v os h base ρ w _ hf hk hr hargs)
    have harr : (fst'.toArray ++ c.args.map a.eval) ++ cap'.toArray = ((fst' ++ c.args.toList.map a.eval) ++ cap').toArray := by apply Array.ext'; simp
    simp only [resolve, hc, ← hga, Deferred.ofValue, Sem.run_bind, Sem.run_pure, Result.andThen_ok, invoke, harr, callFunc_run hPl hfn hbd]
    exact hcalls
 ·rename_i b args hg ha
  have hga := aEval_conv hi.tmps hg
  simp only [conv] at hga
  cases hb : ρ b with
  | none => rw [hb] at hga; simp at hga
  | some p =>
   obtain ⟨B, δ, ex⟩ := p
   rw [hb] at hga
   simp only [Option.some.injEq] at hga
   obtain ⟨fn, tmps, assign, body, q1, q2⟩ := hR b args s v os h base ρ w _ B R hf hk hr (aEvals_conv hi.tmps ha) (by simp [blk, hb])
   have harr : (#[] : Array Value) ++ c.args.map a.eval = (c.args.toList.map a.eval).toArray := by apply Array.ext'; simp
   simp only [resolve, hc, ← hga, Deferred.ofValue, Sem.run_bind, Sem.run_pure, Result.andThen_ok, invoke, harr, q1]
   exact q2
 ·simp at h
theorem getLoop_run {B : Nat} {r : Loop} {w : World} (h : w.heap[B]? = some (.loop r)) : (Instr.getLoop B).run P w = .ok r w := by
 simp only [Instr.getLoop, Sem.run_bind, getObj_run h (by simp), Result.andThen_ok, Sem.run_pure]
theorem setParams_conv {ρ : Rho} : ∀ (ps : List Tmp) (as : List AV) (t : List AV) (xs t' : List Value), convs ρ as = some xs → convs ρ t = some t' → convs ρ (setParams t ps as) = some ((ps.zip xs).foldl (fun (q : List Value) (p : Tmp × Value) => q.set p.1 p.2) t')
 | [], as, t, xs, t', h, k => by simpa [setParams] using k
 | p :: ps, [], t, xs, t', h, k => by simp [convs] at h; subst h; simpa [setParams] using k
 | p :: ps, v :: as, t, xs, t', h, k => by
  obtain ⟨x, r, h1, h2, rfl⟩ := convs_cons.1 h
  simp only [setParams, List.zip_cons_cons, List.foldl_cons]
  exact setParams_conv ps as _ r _ h2 (convs_set h1 p k)
theorem foldl_params : ∀ (l : List (Tmp × Value)) (t : List Value), (l.foldl (fun (q : Array Value) (p : Tmp × Value) => q.setIfInBounds p.1 p.2) t.toArray) = (l.foldl (fun (q : List Value) (p : Tmp × Value) => q.set p.1 p.2) t).toArray
 | [], t => rfl
 | p :: l, t => by
  simp only [List.foldl_cons]
  rw [List.setIfInBounds_toArray]
  exact foldl_params l _
theorem loop_turn {ρ : Rho} {s : St} {w : World} {b B : Nat} {st st' : LoopState} {pend pend' : Option AX} {ts : List AV} {ps : List Tmp} {as bo : Code} {D : Nat} (hf : Fresh s.n ρ) (hk : s.ok) (hr : Rel base ρ s.look w)
  (hg : s.get b = some (.loop st pend ts ps as bo D)) (hB : blk ρ b = some B) {v : AV} {u : Value} (hv : conv ρ v = some u) :
  ∃ r : Loop, w.heap[B]? = some (.loop r) ∧ r.state = st ∧ r.pending = pend.map AX.code ∧ r.params = ps.toArray ∧ r.assign = as ∧ r.body = bo ∧ (∃ ts', convs ρ ts = some ts' ∧ r.tmps = ts'.toArray) ∧ (∃ δ' x', ρ D = some (r.defers, δ', x')) ∧
   Out base ρ s w v (s.set b (.loop st' pend' ts ps as bo D)) u (wput w B (.loop { r with state := st', pending := pend'.map AX.code })) := by
 have hlook := St.look_of_get hg (by simp)
 obtain ⟨B', δ, x, fn, dB, ts', h1, h2, h3, h4, δ', x', h5⟩ := hr.obj b _ hlook
 have : B' = B := by simp [blk, h1] at hB; exact hB
 subst this
 have hlt := (Array.getElem?_eq_some_iff.1 h2).1
 refine ⟨_, h2, rfl, rfl, rfl, rfl, rfl, ⟨ts', h4, rfl⟩, ⟨δ', x', h5⟩, ?_⟩
 refine out_set (x := .loop st' pend' ts ps as bo D) hf hk hr (Turn.wput hlt) hlook rfl hB rfl (by simp) rfl ?_ hv
 exact ⟨B', δ, x, fn, dB, ts', h1, (Turn.wput hlt).here, h3, h4, δ', x', h5⟩
theorem Out.trans_c {ρ ρ1 : Rho} {s s1 : St} {w w1 : World} {v : AV} {s2 : St} {x : Value} {w2 : World} (h1 : Ext s.n ρ ρ1) (h3 : s.n ≤ s1.n) (h7 : Fram ρ s.look w ρ1 s1.look w1) (h8 : KeepA s s1) (k : Out base ρ1 s1 w1 v s2 x w2) : Out base ρ s w v s2 x w2 := by
 obtain ⟨ρ2, p1, p2, p3, p4, p5, p6, p7, p8⟩ := k
 exact ⟨ρ2, h1.trans p1 h3, p2, Nat.le_trans h3 p3, p4, p5, p6, h7.trans p7, h8.trans p8 h3⟩
theorem round_step {n : Nat} (hC : CodeOk P n) : RoundOk P (n + 1) := by
 intro b args s v os h base ρ w cargs B R hf hk hr ha hB
 simp only [evR] at h
 split at h
 ·rename_i pend ts ps assign body D hg
  split at h
  ·rename_i hlen
   obtain ⟨r, g1, g2, g3, g4, g5, g6, ⟨ts', g7, g8⟩, _, _⟩ := loop_turn (st' := .ready) (pend' := none) (v := aundef) (u := undef) hf hk hr hg hB rfl
   have hla := convs_length ha
   refine ⟨r.fn, (r.params.zip cargs.toArray).foldl (fun tmps (p : Tmp × Value) => tmps.setIfInBounds p.1 p.2) r.tmps, r.assign, r.body, ?_, ?_⟩
   ·unfold Instr.yield
    have : ¬ cargs.toArray.size ≠ r.params.size := by rw [g4]; simp [hla, hlen]
    simp only [Sem.run_bind, getLoop_run g1, Result.andThen_ok, this, if_false, Sem.run_pure]
   ·refine roundIn_of_wpIn (fence_fn R _) ?_
    rw [fence_inRound, g5, g6]
    split at h
    ·rename_i f1 s1 he1
     have hin : InF ρ { t := setParams ts ps args, d := [] } { tmps := (r.params.zip cargs.toArray).foldl (fun tmps (p : Tmp × Value) => tmps.setIfInBounds p.1 p.2) r.tmps, defers := [] } := by
      refine ⟨?_, rfl⟩
      have e : (r.params.zip cargs.toArray).foldl (fun tmps (p : Tmp × Value) => tmps.setIfInBounds p.1 p.2) r.tmps = ((ps.zip cargs).foldl (fun (q : List Value) (p : Tmp × Value) => q.set p.1 p.2) ts').toArray := by
       rw [← foldl_params, g4, g8, ← Array.foldl_toList]
       congr 1
       simp
      rw [e]
      exact setParams_conv ps args ts cargs ts' ha g7
     have hw1 := hC (some b) assign _ s .normal f1 s1 he1 base ρ w _ (some B) hf hk hr hin ⟨B, hB, rfl⟩
     refine wpIn_mono hw1 (fun e a1 w1 hq => ?_)
     obtain ⟨rfl, ρ1, o1, o2, o3, o4, o5, o6, o7, o8⟩ := hq
     have hle1 := o1.le hf
     have hB1 := blk_mono hle1 hB
     split at h
     ·rename_i pend1 ts1 ps1 as1 bo1 D1 hg1
      obtain ⟨r1, k1, k2, _, _, _, _, _, _, kout⟩ := loop_turn (st' := .busy) (pend' := pend1) (v := aundef) (u := undef) o2 o4 o6 hg1 hB1 rfl
      have k3 : r1.pending = pend1.map AX.code := by
       obtain ⟨r1', q1, _, q3, _⟩ := loop_turn (st' := .busy) (pend' := pend1) (v := aundef) (u := undef) o2 o4 o6 hg1 hB1 rfl
       rw [k1] at q1; cases q1; exact q3
      refine ⟨wput w1 B (.loop { r1 with state := .busy }), ?_, ?_⟩
      ·unfold Instr.beginRound
       simp only [Sem.run_bind, getLoop_run k1, Result.andThen_ok, setObj_run k1 (by simp), k2, Sem.run_pure]
      ·have e0 : ({ r1 with state := .busy, pending := pend1.map AX.code } : Loop) = { r1 with state := .busy } := by rw [← k3]
       rw [e0] at kout
       obtain ⟨ρ2, p1, p2, p3, p4, p5, p6, p7, p8⟩ := kout
       have hle2 := p1.le o2
       have hB2 := blk_mono hle2 hB1
       split at h
       ·rename_i x f3 s3 he3
        have hw3 := hC (some b) body f1 _ x f3 s3 he3 base ρ2 _ a1 (some B) p2 p4 p6 (o5.mono hle2) ⟨B, hB2, rfl⟩
        refine wpIn_mono hw3 (fun e a3 w3 hq => ?_)
        obtain ⟨rfl, ρ3, z1, z2, z3, z4, z5, z6, z7, z8⟩ := hq
        have hB3 := blk_mono (z1.le p2) hB2
        split at h
        ·rename_i st3 pd3 ts3 ps3 as3 bo3 D3 hg3
         have fin : ∀ (jump : Option Code) (pj : Option AX), pj.map AX.code = jump → ∀ (stj : LoopState), (if jump.isNone then LoopState.ready else .done) = stj →
           ∃ w4, (Instr.endRound B jump).run P w3 = .ok (.bool jump.isNone) w4 ∧ Out base ρ s w (.bool jump.isNone) (s3.set b (.loop stj pj ts3 ps3 as3 bo3 D3)) (.bool jump.isNone) w4 := by
          intro jump pj hj stj hst
          obtain ⟨r3, y1, _, _, _, _, _, _, _, yout⟩ := loop_turn (st' := stj) (pend' := pj) (v := .bool jump.isNone) (u := .bool jump.isNone) z2 z4 z6 hg3 hB3 rfl
          rw [hj] at yout
          refine ⟨_, ?_, Out.trans_c o1 o3 o7 o8 (Out.trans_c p1 p3 p7 p8 (Out.trans_c z1 z3 z7 z8 yout))⟩
          unfold Instr.endRound
          simp only [Sem.run_bind, getLoop_run y1, Result.andThen_ok, setObj_run y1 (by simp), Sem.run_pure, hst]
         cases x with
         | normal =>
          simp at h; obtain ⟨rfl, rfl⟩ := h
          obtain ⟨w4, q1, q2⟩ := fin none none rfl .ready rfl
          exact ⟨_, w4, q1, _, rfl, q2⟩
         | ret =>
          simp at h; obtain ⟨rfl, rfl⟩ := h
          obtain ⟨w4, q1, q2⟩ := fin (some .ret) (some .ret) rfl .done rfl
          exact ⟨_, w4, q1, _, rfl, q2⟩
         | exit id =>
          simp at h; obtain ⟨rfl, rfl⟩ := h
          obtain ⟨w4, q1, q2⟩ := fin (some (.exit id)) (some (.exit id)) rfl .done rfl
          exact ⟨_, w4, q1, _, rfl, q2⟩
        ·simp at h
       ·simp at h
     ·simp at h
    ·simp at h
  ·simp at h
 ·simp at h
end Go.Vm
