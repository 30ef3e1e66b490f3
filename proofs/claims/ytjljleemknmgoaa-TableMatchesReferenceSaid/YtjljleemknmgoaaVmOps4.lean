/-
 Part of the proof that a machine over named lists stands for the program's runs (VmOps4). No conditions beyond those that its theorems name.
-/
import Derived.Test.YtjljleemknmgoaaVmOps3
namespace Go.Vm
set_option linter.unusedSectionVars false
variable [Facts] [Val] [Sound]
variable {P : Program} {base : Nat} {ρ : Rho} {s : St} {w : World}
theorem getObj_run {B : Nat} {o : Obj} (h : w.heap[B]? = some o) (hc : ∀ c e f, o ≠ .cells c e f) : (getObj B).run P w = .ok o w := by
 simp only [getObj, Sem.run, h]
theorem setObj_run {B : Nat} {o o' : Obj} (h : w.heap[B]? = some o) (hc : ∀ c e f, o ≠ .cells c e f) : (setObj B o').run P w = .ok () (wput w B o') := by
 simp only [setObj, Sem.run, h]
 cases o <;> first | rfl | exact absurd rfl (hc _ _ _)
theorem checkKey_runN {kd : TypeDesc} {kt : TypeId} {k : AV} {k' : Value} (hk : P.underlying kt = some kd) (hp : plainKey kd k = true) (hv : conv ρ k = some k') (e : Bool) (w : World) (n : Nat) : (Instr.checkKey e (n + 1) kt k').run P w = .ok () w := by
 unfold plainKey at hp
 split at hp
 ·simp [conv] at hv; subst hv; simp only [Instr.checkKey, Sem.run_bind, run_underlying hk, Result.andThen_ok]; rfl
 ·simp [conv] at hv; subst hv; simp only [Instr.checkKey, Sem.run_bind, run_underlying hk, Result.andThen_ok]; rfl
 ·simp [conv] at hv; subst hv; simp only [Instr.checkKey, Sem.run_bind, run_underlying hk, Result.andThen_ok]; rfl
 ·simp at hp
theorem checkKey_run {kd : TypeDesc} {kt : TypeId} {k : AV} {k' : Value} (hk : P.underlying kt = some kd) (hp : plainKey kd k = true) (hv : conv ρ k = some k') (e : Bool) (w : World) : (Instr.checkKey e 10000 kt k').run P w = .ok () w :=
 checkKey_runN hk hp hv e w 9999
theorem keyFs_run {ρ : Rho} {xs : List AV} {xl : List Value} (hx : convs ρ xs = some xl) (e : Bool) (n : Nat) (w : World) : ∀ (fs : List Field), keyFs P xs fs = true →
  (forIn fs PUnit.unit (fun (f : Field) (_ : PUnit) => (if f.name ≠ "_" then do
   Instr.checkKey e (n + 1) f.type (← part f.type xl.toArray f.offset)
   pure (ForInStep.yield PUnit.unit) else pure (ForInStep.yield PUnit.unit) : Sem (ForInStep PUnit)))).run P w = .ok PUnit.unit w
 | [], _ => by simp
 | f :: fs, h => by
  simp only [keyFs, Bool.and_eq_true] at h
  obtain ⟨h1, h2⟩ := h
  split at h1
  ·rename_i kd v hu hp
   obtain ⟨x, rx, cx⟩ := part_run hp hx w
   have hc := checkKey_runN (ρ := ρ) hu h1 cx e w n
   have ih := keyFs_run hx e n w fs h2
   rw [List.forIn_cons]
   by_cases hn : f.name = "_"
   ·simp only [hn, ne_eq, not_true_eq_false, if_false, Sem.run_bind, Sem.run_pure, Result.andThen_ok]
    exact ih
   ·simp only [hn, ne_eq, not_false_eq_true, if_true, Sem.run_bind, rx, hc, Sem.run_pure, Result.andThen_ok]
    exact ih
  ·cases h1
theorem structKey_run {kd : TypeDesc} {kt : TypeId} {k : AV} {k' : Value} (hk : P.underlying kt = some kd) (hp : structKey P kd k = true) (hv : conv ρ k = some k') (e : Bool) (w : World) : (Instr.checkKey e 10000 kt k').run P w = .ok () w := by
 unfold structKey at hp
 split at hp
 ·rename_i fs xs
  simp only [conv] at hv
  cases hxs : convs ρ xs with
  | none => rw [hxs] at hv; simp at hv
  | some xl =>
   rw [hxs] at hv; simp at hv; subst hv
   have := keyFs_run (P := P) hxs e 9998 w fs.toList hp
   obtain ⟨n, hn⟩ : ∃ n, n = 9998 := ⟨_, rfl⟩
   rw [← hn] at this
   rw [show (10000 : Nat) = n + 1 + 1 by omega]
   rw [Instr.checkKey]
   simp only [Sem.run_bind, run_underlying hk, Result.andThen_ok]
   rw [← Array.forIn_toList]
   refine (congrArg (fun r => Result.andThen r fun a w' => Sem.run P (pure ()) w') this).trans ?_
   simp only [Result.andThen_ok, Sem.run_pure]
 ·cases hp
theorem sameKey_now {kd : TypeDesc} {x y : AV} {r : Bool} {x' y' : Value} (h : sameKeyA kd x y = some r) (hx : conv ρ x = some x') (hy : conv ρ y = some y') : Instr.sameNow kd x' y' = some r := by
 unfold sameKeyA at h
 split at h
 ·simp [conv] at hx hy; subst hx; subst hy
  split at h
  ·rename_i e; simp at h; subst h; simp [Instr.sameNow, e]
  ·simp at h
 ·simp [conv] at hx hy; subst hx; subst hy
  simp at h; subst h
  simp only [Instr.sameNow, beq_toListBytes, ByteArray.toList_eq]
 ·simp [conv] at hx hy; subst hx; subst hy; simp at h; subst h; simp [Instr.sameNow]
 ·simp at h
theorem findA_now {kd : TypeDesc} {k : AV} {k' : Value} (hk : conv ρ k = some k') : ∀ {es : List (AV × AV)} {es' : List MapEntry} {i : Nat} {r : Option (Nat × AV)}, convs ρ (es.map (·.1)) = some (es'.map (·.key)) → convs ρ (es.map (·.2)) = some (es'.map (·.val)) →
  findA kd k es i = some r → (r = none ∧ Instr.findNow kd k' es' i = some none) ∨ ∃ j v v', r = some (j, v) ∧ Instr.findNow kd k' es' i = some (some (j, v')) ∧ conv ρ v = some v' ∧ i ≤ j ∧ j - i < es.length ∧
   ∃ e, es'[j - i]? = some e ∧ Instr.sameNow kd k' e.key = some true
 | [], es', i, r, h1, h2, h => by
  simp [findA] at h; subst h
  have : es' = [] := by have := convs_length h1; simpa using this
  subst this; exact .inl ⟨rfl, rfl⟩
 | e :: es, es', i, r, h1, h2, h => by
  cases es' with
  | nil => have := convs_length h1; simp at this
  | cons e' es' =>
   obtain ⟨a, q, g1, g2, g3⟩ := convs_cons.1 h1
   obtain ⟨b, q2, g4, g5, g6⟩ := convs_cons.1 h2
   simp only [List.map_cons, List.cons.injEq] at g3 g6
   obtain ⟨rfl, rfl⟩ := g3
   obtain ⟨rfl, rfl⟩ := g6
   simp only [findA] at h
   split at h
   ·rename_i hs
    simp at h; subst h
    refine .inr ⟨i, e.2, e'.val, rfl, ?_, g4, Nat.le_refl _, by simp, e', by simp, sameKey_now hs hk g1⟩
    simp only [Instr.findNow, sameKey_now hs hk g1]
   ·rename_i hs
    rcases findA_now hk g2 g5 h with ⟨r1, r2⟩ | ⟨j, v, v', r1, r2, r3, r4, r5, e2, r6, r7⟩
    ·exact .inl ⟨r1, by simp only [Instr.findNow, sameKey_now hs hk g1]; exact r2⟩
    ·refine .inr ⟨j, v, v', r1, by simp only [Instr.findNow, sameKey_now hs hk g1]; exact r2, r3, by omega, by simp; omega, e2, ?_, r7⟩
     have : j - i = (j - (i + 1)) + 1 := by omega
     rw [this]; exact r6
   ·simp at h
theorem keyOk_run {kd : TypeDesc} {kt : TypeId} {k : AV} {k' : Value} (hk : P.underlying kt = some kd) (hp : keyOk P kd k = true) (hv : conv ρ k = some k') (e : Bool) (w : World) : (Instr.checkKey e 10000 kt k').run P w = .ok () w := by
 unfold keyOk at hp
 rw [Bool.or_eq_true] at hp
 rcases hp with hp | hp
 ·exact checkKey_run hk hp hv e w
 ·exact structKey_run hk hp hv e w
theorem sameBits_plain {kd : TypeDesc} {x y : Value} (h : Instr.sameNow kd x y = some true) : Instr.sameBits 10000 y x = true := by
 unfold Instr.sameNow at h
 split at h
 ·split at h
  ·rename_i e; simp at h; subst e; subst h; simp [Instr.sameBits]
  ·simp at h
 ·simp only [Option.some.injEq] at h
  simp only [Instr.sameBits]
  rw [beq_toListBytes, beq_iff_eq] at h ⊢
  exact h.symm
 ·simp at h; subst h; simp [Instr.sameBits]
 ·simp at h
theorem sameCells_bits (n : Nat) : ∀ {as bs : List AV} {al bl : List Value}, sameCells as bs = true → convs ρ as = some al → convs ρ bs = some bl → al.length = bl.length ∧ ((bl.zip al).all fun (x, y) => Instr.sameBits n x y) = true
 | [], [], al, bl, _, ha, hb => by
  simp [convs] at ha hb; subst ha; subst hb; exact ⟨rfl, rfl⟩
 | [], _ :: _, _, _, h, _, _ => by simp [sameCells] at h
 | _ :: _, [], _, _, h, _, _ => by simp [sameCells] at h
 | a :: as, b :: bs, al, bl, h, ha, hb => by
  simp only [sameCells, Bool.and_eq_true] at h
  obtain ⟨a', al', g1, g2, rfl⟩ := convs_cons.1 ha
  obtain ⟨b', bl', g3, g4, rfl⟩ := convs_cons.1 hb
  obtain ⟨i1, i2⟩ := sameCells_bits n h.2 g2 g4
  refine ⟨by simp [i1], ?_⟩
  simp only [List.zip_cons_cons, List.all_cons, Bool.and_eq_true]
  refine ⟨?_, i2⟩
  have h1 := h.1
  unfold sameCell at h1
  split at h1
  ·simp only [Bool.and_eq_true, beq_iff_eq] at h1
   obtain ⟨rfl, rfl⟩ := h1
   simp [conv] at g1 g3; subst g1; subst g3
   cases n <;> simp [Instr.sameBits]
  ·simp only [beq_iff_eq] at h1
   subst h1
   simp [conv] at g1 g3; subst g1; subst g3
   cases n <;> (simp only [Instr.sameBits]; rw [beq_toListBytes, beq_iff_eq])
  ·simp only [beq_iff_eq] at h1
   subst h1
   simp [conv] at g1 g3; subst g1; subst g3
   cases n <;> simp [Instr.sameBits]
  ·cases h1
theorem sameAgg_bits {a b : AV} {a' b' : Value} (h : sameAgg a b = true) (ha : conv ρ a = some a') (hb : conv ρ b = some b') : Instr.sameBits 10000 b' a' = true := by
 unfold sameAgg at h
 split at h
 ·rename_i as bs
  simp only [conv] at ha hb
  cases ha' : convs ρ as with
  | none => rw [ha'] at ha; simp at ha
  | some al =>
   cases hb' : convs ρ bs with
   | none => rw [hb'] at hb; simp at hb
   | some bl =>
    rw [ha'] at ha; rw [hb'] at hb
    simp at ha hb; subst ha; subst hb
    obtain ⟨i1, i2⟩ := sameCells_bits 9999 h ha' hb'
    obtain ⟨n, hn⟩ : ∃ n, n = 9999 := ⟨_, rfl⟩
    rw [← hn] at i2
    rw [show (10000 : Nat) = n + 1 by omega]
    simp only [Instr.sameBits, Bool.and_eq_true, beq_iff_eq]
    exact ⟨by simp [i1], i2⟩
 ·cases h
theorem findS_run {kt : TypeId} {k : AV} {k' : Value} (hk : conv ρ k = some k') : ∀ {es : List (AV × AV)} {es' : List MapEntry} {i : Nat} {r : Option (Nat × AV)}, convs ρ (es.map (·.1)) = some (es'.map (·.key)) → convs ρ (es.map (·.2)) = some (es'.map (·.val)) →
  findS P kt k es i = some r → (r = none ∧ ∀ w, (Instr.findAsking kt k' es' i).run P w = .ok none w) ∨ ∃ j v v', r = some (j, v) ∧ (∀ w, (Instr.findAsking kt k' es' i).run P w = .ok (some (j, v')) w) ∧ conv ρ v = some v' ∧ i ≤ j ∧ j - i < es.length ∧
   ∃ e, es'[j - i]? = some e ∧ Instr.sameBits 10000 e.key k' = true
 | [], es', i, r, h1, h2, h => by
  simp [findS] at h; subst h
  have : es' = [] := by have := convs_length h1; simpa using this
  subst this; exact .inl ⟨rfl, fun w => by simp [Instr.findAsking]⟩
 | e :: es, es', i, r, h1, h2, h => by
  cases es' with
  | nil => have := convs_length h1; simp at this
  | cons e' es' =>
   obtain ⟨a, q, g1, g2, g3⟩ := convs_cons.1 h1
   obtain ⟨b, q2, g4, g5, g6⟩ := convs_cons.1 h2
   simp only [List.map_cons, List.cons.injEq] at g3 g6
   obtain ⟨rfl, rfl⟩ := g3
   obtain ⟨rfl, rfl⟩ := g6
   simp only [findS] at h
   split at h
   ·rename_i hs
    have hq := fun w => eqT_run (ρ := ρ) 100 Op.maxDepth kt k e.1 true k' e'.key (by unfold Op.maxDepth; omega) hs hk g1 w
    split at h
    ·rename_i hb
     simp at h; subst h
     exact .inr ⟨i, e.2, e'.val, rfl, fun w => by simp only [Instr.findAsking, Op.equal, Sem.run_bind, hq w, Result.andThen_ok, if_true, Sem.run_pure], g4, Nat.le_refl _, by simp, e', by simp, sameAgg_bits hb hk g1⟩
    ·cases h
   ·rename_i hs
    have hq := fun w => eqT_run (ρ := ρ) 100 Op.maxDepth kt k e.1 false k' e'.key (by unfold Op.maxDepth; omega) hs hk g1 w
    have st : ∀ w, (Instr.findAsking kt k' (e' :: es') i).run P w = (Instr.findAsking kt k' es' (i + 1)).run P w := fun w => by
     simp only [Instr.findAsking, Op.equal, Sem.run_bind, hq w, Result.andThen_ok, Bool.false_eq_true, if_false]
    rcases findS_run hk g2 g5 h with ⟨r1, r2⟩ | ⟨j, v, v', r1, r2, r3, r4, r5, e2, r6, r7⟩
    ·exact .inl ⟨r1, fun w => by rw [st]; exact r2 w⟩
    ·refine .inr ⟨j, v, v', r1, fun w => by rw [st]; exact r2 w, r3, by omega, by simp; omega, e2, ?_, r7⟩
     have : j - i = (j - (i + 1)) + 1 := by omega
     rw [this]; exact r6
   ·simp at h
theorem findK_run {kt : TypeId} {kd : TypeDesc} {k : AV} {k' : Value} (hkd : P.underlying kt = some kd) (hp : keyOk P kd k = true) (hk : conv ρ k = some k') {es : List (AV × AV)} {es' : List MapEntry} {r : Option (Nat × AV)} (h1 : convs ρ (es.map (·.1)) = some (es'.map (·.key))) (h2 : convs ρ (es.map (·.2)) = some (es'.map (·.val)))
  (h : findK P kt kd k es = some r) : (r = none ∧ ∀ w, (Instr.findKey kt k' es').run P w = .ok none w) ∨ ∃ j v v', r = some (j, v) ∧ (∀ w, (Instr.findKey kt k' es').run P w = .ok (some (j, v')) w) ∧ conv ρ v = some v' ∧ j < es.length ∧
   ∃ e, es'[j]? = some e ∧ Instr.sameBits 10000 e.key k' = true := by
 unfold findK at h
 split at h
 ·rcases findA_now hk h1 h2 h with ⟨r1, r2⟩ | ⟨j, v, v', r1, r2, r3, r4, r5, e, r6, r7⟩
  ·exact .inl ⟨r1, fun w => by simp only [Instr.findKey, Sem.run_bind, run_underlying hkd, Result.andThen_ok, r2, Sem.run_pure]⟩
  ·exact .inr ⟨j, v, v', r1, fun w => by simp only [Instr.findKey, Sem.run_bind, run_underlying hkd, Result.andThen_ok, r2, Sem.run_pure], r3, by simpa using r5, e, by simpa using r6, sameBits_plain r7⟩
 ·rename_i hnp
  have hs : structKey P kd k = true := by
   unfold keyOk at hp
   rw [hnp] at hp
   simpa using hp
  have key : ∀ w, (Instr.findKey kt k' es').run P w = (Instr.findAsking kt k' es' 0).run P w := fun w => by
   simp only [Instr.findKey, Sem.run_bind, run_underlying hkd, Result.andThen_ok]
   cases es' with
   | nil => simp [Instr.findNow, Instr.findAsking]
   | cons e es' =>
    have : Instr.findNow kd k' (e :: es') 0 = none := by
     unfold structKey at hs
     split at hs
     ·simp [Instr.findNow, Instr.sameNow]
     ·cases hs
    rw [this]
  rcases findS_run hk h1 h2 h with ⟨r1, r2⟩ | ⟨j, v, v', r1, r2, r3, r4, r5, e, r6, r7⟩
  ·exact .inl ⟨r1, fun w => by rw [key]; exact r2 w⟩
  ·exact .inr ⟨j, v, v', r1, fun w => by rw [key]; exact r2 w, r3, by simpa using r5, e, by simpa using r6, r7⟩
theorem lookupA_run {t : TypeId} {m k v : AV} {x y : Value} {ok : Bool} (hr : Rel base ρ s.look w) (h : lookupA P s t m k ok = some v) (hx : conv ρ m = some x) (hy : conv ρ k = some y) :
  ∃ u, (Instr.lookup t x y ok).run P w = .ok u w ∧ conv ρ v = some u := by
 unfold lookupA at h
 split at h
 ·rename_i kt et hu
  split at h
  ·rename_i kd hkd
   split at h
   ·rename_i hp
    have key : ∀ (es : List (AV × AV)) (es' : Array MapEntry), convs ρ (es.map (·.1)) = some (es'.toList.map (·.key)) → convs ρ (es.map (·.2)) = some (es'.toList.map (·.val)) →
      (match findK P kt kd k es with
       | some (some (_, v)) => some (if ok then .tup [v, .bool true] else v)
       | some none => match zeroOf P et with
        | some z => some (if ok then .tup [z, .bool false] else z)
        | none => none
       | none => none) = some v →
      ∃ u, ((do
       Instr.checkKey es'.isEmpty 10000 kt y
       let (v, o) ← match ← Instr.findKey kt y es'.toList with
        | some (_, v) => pure (v, true)
        | none => pure (← zeroValue et, false)
       pure (if ok then .tuple #[v, .bool o] else v) : Sem Value)).run P w = .ok u w ∧ conv ρ v = some u := by
     intro es es' h1 h2 h3
     have hck := keyOk_run (ρ := ρ) hkd hp hy es'.isEmpty w
     split at h3
     ·rename_i j v0 hf
      rcases findK_run hkd hp hy h1 h2 hf with ⟨r1, _⟩ | ⟨j', v1, v', r1, r2, r3, _⟩
      ·cases r1
      ·cases r1
       simp at h3; subst h3
       refine ⟨if ok then .tuple #[v', .bool true] else v', ?_, ?_⟩
       ·simp only [Sem.run_bind, hck, Result.andThen_ok, r2 w, Sem.run_pure]
       ·cases ok
        ·exact r3
        ·simp only [if_true, conv, convs, r3]
     ·rename_i hf
      rcases findK_run hkd hp hy h1 h2 hf with ⟨_, r2⟩ | ⟨j', v1, v', r1, _⟩
      ·split at h3
       ·rename_i z hz
        simp at h3; subst h3
        obtain ⟨z', rz, cz⟩ := zeroOf_run (ρ := ρ) hz w
        refine ⟨if ok then .tuple #[z', .bool false] else z', ?_, ?_⟩
        ·simp only [Sem.run_bind, hck, Result.andThen_ok, r2 w, Sem.run_pure, rz]
        ·cases ok
         ·exact cz
         ·simp only [if_true, conv, convs, cz]
       ·simp at h3
      ·cases r1
     ·simp at h3
    split at h
    ·rename_i es hes
     cases m <;> simp only at hes <;> try (cases hes; done)
     case nilm =>
      cases hes
      simp [conv] at hx; subst hx
      obtain ⟨u, g1, g2⟩ := key [] #[] rfl rfl h
      refine ⟨u, ?_, g2⟩
      unfold Instr.lookup
      simp only [Sem.run_bind, run_underlying hu, Result.andThen_ok, Sem.run_pure]
      simp only [Sem.run_bind] at g1
      exact g1
     case mp b =>
      split at hes
      ·rename_i es0 hg
       cases hes
       have hl := hr.obj b _ (St.look_of_get hg (by simp))
       obtain ⟨B, δ, ex, es', clk, h1, h2, h3, h4, h5⟩ := hl
       simp only [conv, h1] at hx
       simp at hx; subst hx
       obtain ⟨u, g1, g2⟩ := key es es' h4 h5 h
       refine ⟨u, ?_, g2⟩
       unfold Instr.lookup
       simp only [Sem.run_bind, run_underlying hu, Result.andThen_ok, getObj_run h2 (by simp), Sem.run_pure]
       simp only [Sem.run_bind] at g1
       exact g1
      ·cases hes
    ·simp at h
   ·simp at h
  ·simp at h
 ·simp at h
theorem map_modify {β : Type} (f : MapEntry → β) (g : MapEntry → MapEntry) (u : β) (hg : ∀ e, f (g e) = u) : ∀ (l : List MapEntry) (i : Nat), (l.modify i g).map f = (l.map f).set i u
 | [], i => by simp
 | e :: l, 0 => by simp [hg]
 | e :: l, i + 1 => by simp [map_modify f g u hg l i]
theorem updateA_run {s' : St} {t : TypeId} {m k v : AV} {x y z : Value} (hf : Fresh s.n ρ) (hk : s.ok) (hr : Rel base ρ s.look w) (h : updateA P s t m k v = some s') (hx : conv ρ m = some x) (hy : conv ρ k = some y) (hz : conv ρ v = some z) :
  ∃ w', (Instr.mapUpdate t x y z).run P w = .ok () w' ∧ ∀ q u, conv ρ q = some u → Out base ρ s w q s' u w' := by
 unfold updateA at h
 split at h
 ·rename_i kt et b hu
  split at h
  ·rename_i kd es hkd hg
   split at h
   ·rename_i hp
    have hlook := St.look_of_get hg (by simp)
    have hl := hr.obj b _ hlook
    obtain ⟨B, δ, ex, es', clk, h1, h2, h3, h4, h5⟩ := hl
    simp only [conv, h1] at hx
    simp at hx; subst hx
    have hck := keyOk_run (ρ := ρ) hkd hp hy false w
    have hBl : B < w.heap.size := (Array.getElem?_eq_some_iff.1 h2).1
    have hblk : blk ρ b = some B := by simp [blk, h1]
    split at h
    ·rename_i j v0 hfi
     simp at h; subst h
     rcases findK_run hkd hp hy h4 h5 hfi with ⟨r1, _⟩ | ⟨j', v1, v', r1, r2, r3, r5, e, r6, r7⟩
     ·cases r1
     ·cases r1
      have hkeep : (Instr.keyThatStays e.key y).run P w = .ok y w := by simp [Instr.keyThatStays, r7]
      have hold : ((es'[j]?).map (·.key)).getD y = e.key := by
       have : es'[j]? = some e := by simpa using r6
       simp [this]
      refine ⟨wput w B (.map (es'.modify j fun e => { e with key := y, val := z }) clk), ?_, fun q u hq => ?_⟩
      ·unfold Instr.mapUpdate
       simp only [Sem.run_bind, run_underlying hu, Result.andThen_ok, getObj_run h2 (by simp), hck, r2 w, hold, hkeep]
       exact setObj_run h2 (by simp)
      ·refine out_set (x := .map (es.set j (k, v))) hf hk hr (Turn.wput hBl) hlook rfl hblk rfl (by simp) rfl ?_ hq
       refine ⟨B, δ, ex, _, clk, h1, (Turn.wput hBl).here, h3, ?_, ?_⟩
       ·rw [Array.toList_modify, map_modify (·.key) _ y (fun _ => rfl), List.map_set]
        exact convs_set hy j h4
       ·rw [Array.toList_modify, map_modify (·.val) _ z (fun _ => rfl), List.map_set]
        exact convs_set hz j h5
    ·rename_i hfi
     simp at h; subst h
     rcases findK_run hkd hp hy h4 h5 hfi with ⟨_, r2⟩ | ⟨j', v1, v', r1, _⟩
     ·refine ⟨wput w B (.map (es'.push { key := y, val := z, born := clk }) (clk + 1)), ?_, fun q u hq => ?_⟩
      ·unfold Instr.mapUpdate
       simp only [Sem.run_bind, run_underlying hu, Result.andThen_ok, getObj_run h2 (by simp), hck, r2 w]
       exact setObj_run h2 (by simp)
      ·refine out_set (x := .map (es ++ [(k, v)])) hf hk hr (Turn.wput hBl) hlook rfl hblk rfl (by simp) rfl ?_ hq
       refine ⟨B, δ, ex, _, clk + 1, h1, (Turn.wput hBl).here, h3, ?_, ?_⟩
       ·simp only [List.map_append, List.map_cons, List.map_nil, Array.toList_push]
        exact convs_append h4 (convs_cons.2 ⟨y, [], hy, rfl, rfl⟩)
       ·simp only [List.map_append, List.map_cons, List.map_nil, Array.toList_push]
        exact convs_append h5 (convs_cons.2 ⟨z, [], hz, rfl, rfl⟩)
     ·cases r1
    ·simp at h
   ·simp at h
  ·simp at h
 ·simp at h
theorem convs_erase {ρ : Rho} : ∀ (n : Nat) {vs : List AV} {l : List Value}, convs ρ vs = some l → convs ρ (vs.eraseIdx n) = some (l.eraseIdx n)
 | _, [], l, h => by simp [convs] at h; subst h; simp [convs]
 | 0, u :: vs, l, h => by
  obtain ⟨a, r, h1, h2, rfl⟩ := convs_cons.1 h
  simpa using h2
 | n + 1, u :: vs, l, h => by
  obtain ⟨a, r, h1, h2, rfl⟩ := convs_cons.1 h
  simp only [List.eraseIdx_cons_succ]
  exact convs_cons.2 ⟨a, r.eraseIdx n, h1, convs_erase n h2, rfl⟩
theorem map_erase {α β : Type} (f : α → β) : ∀ (l : List α) (i : Nat), (l.eraseIdx i).map f = (l.map f).eraseIdx i
 | [], i => by simp
 | a :: l, 0 => by simp
 | a :: l, i + 1 => by simp [map_erase f l i]
theorem deleteA_run {ts : List TypeId} {m k v : AV} {os : Option St} {x y : Value} {ty : TypeId} (hf : Fresh s.n ρ) (hk : s.ok) (hr : Rel base ρ s.look w) (h : deleteA P s ts m k = some (v, os)) (hx : conv ρ m = some x) (hy : conv ρ k = some y) (ats : Array TypeId) (hts : ats.toList = ts) :
  ∃ u w', (Builtin.delete_ ats ty #[x, y]).run P w = .ok u w' ∧ Out base ρ s w v (os.getD s) u w' := by
 unfold deleteA at h
 split at h
 ·rename_i t rest
  have h0 : ats[0]? = some t := by
   have : ats.toList[0]? = some t := by rw [hts]; rfl
   simpa using this
  split at h
  ·rename_i kt et b hu
   split at h
   ·rename_i kd es hkd hg
    split at h
    ·rename_i hp
     have hlook := St.look_of_get hg (by simp)
     have hl := hr.obj b _ hlook
     obtain ⟨B, δ, ex, es', clk, h1, h2, h3, h4, h5⟩ := hl
     simp only [conv, h1] at hx
     simp at hx; subst hx
     have hck := checkKey_run (ρ := ρ) hkd hp hy es'.isEmpty w
     have hBl : B < w.heap.size := (Array.getElem?_eq_some_iff.1 h2).1
     have hblk : blk ρ b = some B := by simp [blk, h1]
     split at h
     ·rename_i j v0 hfi
      simp only [Option.some.injEq, Prod.mk.injEq] at h
      obtain ⟨rfl, rfl⟩ := h
      rcases findA_now hy h4 h5 hfi with ⟨r1, _⟩ | ⟨j', v1, v', r1, r2, r3, r4, r5, e, r6, r7⟩
      ·cases r1
      ·cases r1
       simp only [Nat.sub_zero] at r5 r6
       have hsub : (es'.eraseIdxIfInBounds j).toList = es'.toList.eraseIdx j := by
        unfold Array.eraseIdxIfInBounds
        split
        ·simp
        ·rename_i hlt
         rw [List.eraseIdx_of_length_le (by simpa using hlt)]
       refine ⟨.tuple #[], wput w B (.map (es'.eraseIdxIfInBounds j) clk), ?_, ?_⟩
       ·unfold Builtin.delete_
        simp only [h0, List.getElem?_toArray, List.getElem?_cons_zero, List.getElem?_cons_succ, Sem.run_bind, run_underlying hu, Result.andThen_ok, getObj_run h2 (by simp), hck, Instr.findKey, run_underlying hkd, r2, Sem.run_pure]
        rw [setObj_run h2 (by simp)]
        rfl
       ·refine out_set (x := .map (es.eraseIdx j)) hf hk hr (Turn.wput hBl) hlook rfl hblk rfl (by simp) rfl ?_ (conv_undef ρ)
        refine ⟨B, δ, ex, _, clk, h1, (Turn.wput hBl).here, h3, ?_, ?_⟩
        ·rw [hsub, map_erase, map_erase]; exact convs_erase j h4
        ·rw [hsub, map_erase, map_erase]; exact convs_erase j h5
     ·rename_i hfi
      simp only [Option.some.injEq, Prod.mk.injEq] at h
      obtain ⟨rfl, rfl⟩ := h
      rcases findA_now hy h4 h5 hfi with ⟨_, r2⟩ | ⟨j', v1, v', r1, _⟩
      ·refine ⟨.tuple #[], wput w B (.map es' clk), ?_, ?_⟩
       ·unfold Builtin.delete_
        simp only [h0, List.getElem?_toArray, List.getElem?_cons_zero, List.getElem?_cons_succ, Sem.run_bind, run_underlying hu, Result.andThen_ok, getObj_run h2 (by simp), hck, Instr.findKey, run_underlying hkd, r2, Sem.run_pure]
        rw [setObj_run h2 (by simp)]
        rfl
       ·refine out_set (x := .map es) hf hk hr (Turn.wput hBl) hlook rfl hblk rfl (by simp) rfl ?_ (conv_undef ρ)
        exact ⟨B, δ, ex, _, clk, h1, (Turn.wput hBl).here, h3, h4, h5⟩
      ·cases r1
     ·simp at h
    ·simp at h
   ·simp at h
  ·simp at h
 ·simp at h
theorem lenA_run {ts : List TypeId} {x v : AV} {x' : Value} {ty : TypeId} (hr : Rel base ρ s.look w) (h : lenA P s ts x = some v) (hx : conv ρ x = some x') (ats : Array TypeId) (hts : ats.toList = ts) :
  ∃ u, (Builtin.len_ ats ty #[x']).run P w = .ok u w ∧ conv ρ v = some u := by
 unfold lenA at h
 split at h
 ·rename_i t rest
  have h0 : ats[0]? = some t := by
   have : ats.toList[0]? = some t := by rw [hts]; rfl
   simpa using this
  unfold Builtin.len_
  simp only [h0, List.getElem?_toArray, List.getElem?_cons_zero]
  split at h
  ·rename_i l hu; simp at h; subst h; simp [conv] at hx; subst hx
   refine ⟨.int .i64 l.length, ?_, rfl⟩
   simp only [Sem.run_bind, run_underlying hu, Result.andThen_ok, Sem.run_pure, goInt]
   have : (ByteArray.mk l.toArray).size = l.length := by show l.toArray.size = _; simp
   rw [this]
  ·rename_i n e hu; simp at h; subst h
   exact ⟨.int .i64 n, by simp only [Sem.run_bind, run_underlying hu, Result.andThen_ok, Sem.run_pure, goInt], rfl⟩
  ·rename_i e hu; simp at h; subst h; simp [conv] at hx; subst hx
   exact ⟨.int .i64 0, by simp only [Sem.run_bind, run_underlying hu, Result.andThen_ok, Sem.run_pure, goInt]; rfl, rfl⟩
  ·rename_i e b o n c hu; simp at h; subst h
   simp only [conv] at hx
   refine ⟨.int .i64 n, ?_, rfl⟩
   split at hx
   ·simp at hx; subst hx; simp only [Sem.run_bind, run_underlying hu, Result.andThen_ok, Sem.run_pure, goInt]
   ·split at hx
    ·simp at hx; subst hx; simp only [Sem.run_bind, run_underlying hu, Result.andThen_ok, Sem.run_pure, goInt]
    ·simp at hx
   ·simp at hx
  ·rename_i e a hu; simp at h; subst h; simp [conv] at hx; subst hx
   exact ⟨.int .i64 0, by simp only [Sem.run_bind, run_underlying hu, Result.andThen_ok, Sem.run_pure, goInt]; rfl, rfl⟩
  ·rename_i k e hu; simp at h; subst h; simp [conv] at hx; subst hx
   exact ⟨.int .i64 0, by simp only [Sem.run_bind, run_underlying hu, Result.andThen_ok, Sem.run_pure, goInt], rfl⟩
  ·rename_i k e b hu
   split at h
   ·rename_i es hg
    simp at h; subst h
    have hl := hr.obj b _ (St.look_of_get hg (by simp))
    obtain ⟨B, δ, ex, es', clk, h1, h2, h3, h4, h5⟩ := hl
    simp only [conv, h1] at hx
    simp at hx; subst hx
    have := convs_length h4
    simp at this
    refine ⟨.int .i64 es.length, ?_, rfl⟩
    simp only [Sem.run_bind, run_underlying hu, Result.andThen_ok, getObj_run h2 (by simp), Sem.run_pure, goInt, this]
   ·simp at h
  ·simp at h
 ·simp at h
end Go.Vm
