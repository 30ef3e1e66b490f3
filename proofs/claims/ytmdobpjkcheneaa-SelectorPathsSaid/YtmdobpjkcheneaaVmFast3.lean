/-
  Part of the proof that the small machine's runs stand for the program's (VmFast3). No conditions beyond those that its theorems name.
-/
import Derived.Test.YtmdobpjkcheneaaVmFast2
/-! The fast evaluator against the other one: by induction over what it may spend. -/
namespace Go.Vm.Q
noncomputable section
set_option linter.unusedSectionVars false
set_option linter.unusedSimpArgs false
variable [Facts]
variable {P : Program}
structure Good (P : Program) (n : Nat) : Prop where
  c : ∀ rnd c f s x f' s', wf f → (ev P n).c rnd c f s = some (x, f', s') → wf f' ∧ f'.nt = f.nt ∧ evC P rnd n c (old f) s = some (x, old f', s')
  o : ∀ rnd all l f s f' s', wf f → (ev P n).o rnd all l f s = some (f', s') → wf f' ∧ f'.nt = f.nt ∧ evO P rnd n all l (old f) s = some (old f', s')
  d : ∀ bs all l i f s made eff f' s' eff', wf f → (ev P n).d bs all l i f s made eff = some (f', s', eff') → wf f' ∧ f'.nt = f.nt ∧ evD P bs n all l i (old f) s made eff = some (old f', s', eff')
  p : ∀ o f s r, wf f → (ev P n).p o f s = some r → evP P n o (old f) s = some r
  r : ∀ b args s r, (ev P n).r b args s = some r → evR P n b args s = some r
  f : ∀ fid args s r, (ev P n).f fid args s = some r → evF P n fid args s = some r
theorem evP_move {n : Nat} {o : Oper} {f : Vm.Fr} {s : St} {x : Operand} (h : moveOf o.op = some x) : evP P (n + 1) o f s = stay (Vm.aEval f.t x) ∧ Vm.seqA P f.t s o.op = none := by
  unfold moveOf at h
  split at h
  · rename_i y e
    simp at h; subst h
    simp only [evP, e, Vm.prim, Vm.seqA, and_self]
  · rename_i y e
    simp at h; subst h
    simp only [evP, e, Vm.prim, Vm.seqA, and_self]
  · cases h
theorem step_o {n : Nat} (G : Good P n) : ∀ rnd all l f s f' s', wf f → (ev P (n + 1)).o rnd all l f s = some (f', s') → wf f' ∧ f'.nt = f.nt ∧ evO P rnd (n + 1) all l (old f) s = some (old f', s') := by
  intro rnd all l f s f' s' hw h
  have h0 : stepO P (ev P n) rnd all l f s = some (f', s') := h
  cases l with
  | nil =>
    have h1 : some (f, s) = some (f', s') := h0
    simp at h1
    obtain ⟨h1, h2⟩ := h1
    subst h1; subst h2
    exact ⟨hw, rfl, by simp [evO]⟩
  | cons o os =>
    have cont : ∀ (v : AV) (s1 : St), (ev P n).o rnd all os (f.put o.dst v) s1 = some (f', s') → wf f' ∧ f'.nt = f.nt ∧ evO P rnd n all os ((old f).put o.dst v) s1 = some (old f', s') := by
      intro v s1 hc
      obtain ⟨k1, k2⟩ := put_wf hw o.dst v
      obtain ⟨a1, a2, a3⟩ := G.o _ _ _ _ _ _ _ k1 hc
      exact ⟨a1, a2.trans k2, by rw [← put_eq hw]; exact a3⟩
    rw [evO]
    have hwt : Vm.wantedA all (old f).t o = wantedA all f.t o := (wanted_eq hw all o).symm
    rw [hwt]
    unfold stepO at h0
    simp only at h0
    cases hwa : wantedA all f.t o with
    | false =>
      rw [hwa] at h0
      simp only [Bool.false_eq_true, if_false]
      exact cont _ _ h0
    | true =>
      rw [hwa] at h0
      simp only [if_true]
      cases hm : moveOf o.op with
      | some x =>
        rw [hm] at h0
        simp only at h0
        cases n with
        | zero =>
          exfalso
          cases ha : aEval f.t x with
          | none => rw [ha] at h0; cases h0
          | some v => rw [ha] at h0; cases h0
        | succ m =>
          obtain ⟨e1, e2⟩ := evP_move (P := P) (n := m) (f := old f) (s := s) hm
          rw [e1, e2]
          have he : Vm.aEval (old f).t x = aEval f.t x := (aEval_eq hw x).symm
          rw [he]
          cases ha : aEval f.t x with
          | none => rw [ha] at h0; cases h0
          | some v => rw [ha] at h0; exact cont _ _ h0
      | none =>
        rw [hm] at h0
        simp only at h0
        have he : Vm.seqA P (old f).t s o.op = seqA P f.t s o.op := (seqA_eq hw s o.op).symm
        rw [he]
        cases hs : seqA P f.t s o.op with
        | some v => rw [hs] at h0; exact cont _ _ h0
        | none =>
          rw [hs] at h0
          simp only at h0
          cases hp : (ev P n).p o f s with
          | none => rw [hp] at h0; cases h0
          | some q =>
            obtain ⟨v, r⟩ := q
            rw [hp] at h0
            simp only at h0
            simp only [G.p _ _ _ _ hw hp]
            cases r with
            | none => exact cont _ _ h0
            | some s1 =>
              simp only at h0
              rw [forced_eq] at h0
              exact cont _ _ h0
theorem builtin_any {s s' : St} {b : Builtin} (hb : b = .max ∨ b = .min) (ts : List TypeId) (args : List AV) : builtinA P s b ts args = builtinA P s' b ts args := by
  rcases hb with e | e <;> subst e <;> unfold builtinA <;> rcases args with _ | ⟨x, _ | ⟨y, _ | ⟨z, l⟩⟩⟩ <;> rfl
theorem blind_any {t : List AV} {s s' : St} {o : Oper} (hb : blind o = true) : Vm.prim P t s o.op = Vm.prim P t s' o.op := by
  unfold blind at hb
  cases e : o.op with
  | call c =>
    rw [e] at hb
    simp only at hb
    simp only [Vm.prim]
    cases hc : c.callee with
    | builtin b =>
      have hm : b = .max ∨ b = .min := by
        rw [hc] at hb
        cases b <;> simp at hb <;> simp
      cases ha : Vm.aEvals t c.args.toList with
      | none => rfl
      | some args => simp only [builtin_any (P := P) (s := s) (s' := s') hm]
    | _ => rfl
  | makeFunc g a b => cases g <;> rfl
  | _ => first | (rw [e] at hb; cases hb; done) | rfl
theorem evP_blind {n : Nat} {f : Vm.Fr} {s : St} {o : Oper} (hb : blind o = true) : evP P (n + 1) o f s = Vm.prim P f.t s o.op := by
  unfold blind at hb
  cases e : o.op with
  | call c =>
    rw [e] at hb
    simp only at hb
    simp only [evP, e]
    cases hc : c.callee with
    | builtin b => rfl
    | value g => rw [hc] at hb; cases hb
    | _ => rfl
  | _ => simp only [evP, e]
theorem step_d {n : Nat} (G : Good P n) : ∀ bs all l i f s made eff f' s' eff', wf f → (ev P (n + 1)).d bs all l i f s made eff = some (f', s', eff') → wf f' ∧ f'.nt = f.nt ∧ evD P bs (n + 1) all l i (old f) s made eff = some (old f', s', eff') := by
  intro bs all l i f s made eff f' s' eff' hw h
  have h0 : stepD P (ev P n) bs all l i f s made eff = some (f', s', eff') := h
  cases l with
  | nil =>
    have h1 : some (f, s, eff) = some (f', s', eff') := h0
    simp at h1
    obtain ⟨h1, h2, h3⟩ := h1
    subst h1; subst h2; subst h3
    exact ⟨hw, rfl, by simp [evD]⟩
  | cons o os =>
    have cont : ∀ (v : AV) (s1 : St) made1 eff1, (ev P n).d bs all os (i + 1) (f.put o.dst v) s1 made1 eff1 = some (f', s', eff') → wf f' ∧ f'.nt = f.nt ∧ evD P bs n all os (i + 1) ((old f).put o.dst v) s1 made1 eff1 = some (old f', s', eff') := by
      intro v s1 made1 eff1 hc
      obtain ⟨k1, k2⟩ := put_wf hw o.dst v
      obtain ⟨a1, a2, a3⟩ := G.d _ _ _ _ _ _ _ _ _ _ _ k1 hc
      exact ⟨a1, a2.trans k2, by rw [← put_eq hw]; exact a3⟩
    rw [evD]
    have hwt : Vm.wantedA all (old f).t o = wantedA all f.t o := (wanted_eq hw all o).symm
    rw [hwt]
    unfold stepD at h0
    simp only at h0
    cases hwa : wantedA all f.t o with
    | false =>
      rw [hwa] at h0
      simp only [Bool.false_eq_true, if_false]
      exact cont _ _ _ _ h0
    | true =>
      rw [hwa] at h0
      simp only [if_true]
      have hhide : hidden bs i { s with dirty := s.n } made = hide bs i { s with dirty := s.n } made := by
        cases made <;> rfl
      cases hm : moveOf o.op with
      | some x =>
        rw [hm] at h0
        simp only at h0
        cases n with
        | zero =>
          exfalso
          cases ha : aEval f.t x with
          | none => rw [ha] at h0; cases h0
          | some v => rw [ha] at h0; cases h0
        | succ m =>
          obtain ⟨e1, e2⟩ := evP_move (P := P) (n := m) (f := old f) (s := hide bs i { s with dirty := s.n } made) hm
          rw [e1]
          have he : Vm.aEval (old f).t x = aEval f.t x := (aEval_eq hw x).symm
          rw [he]
          cases ha : aEval f.t x with
          | none => rw [ha] at h0; cases h0
          | some v => rw [ha] at h0; exact cont _ _ _ _ h0
      | none =>
        rw [hm] at h0
        simp only at h0
        cases hb : blind o with
        | true =>
          rw [hb] at h0
          simp only at h0
          cases n with
          | zero => cases h0
          | succ m =>
            cases hp : (ev P (m + 1)).p o f s with
            | none => rw [hp] at h0; cases h0
            | some q =>
              obtain ⟨v, r⟩ := q
              rw [hp] at h0
              have hq := G.p _ _ _ _ hw hp
              rw [evP_blind hb, blind_any (s' := hide bs i { s with dirty := s.n } made) hb, ← evP_blind (n := m) hb] at hq
              simp only [hq]
              cases r with
              | none => exact cont _ _ _ _ h0
              | some s1 => cases h0
        | false =>
          rw [hb] at h0
          rw [hhide] at h0
          cases hp : (ev P n).p o f (hide bs i { s with dirty := s.n } made) with
          | none => rw [hp] at h0; cases h0
          | some q =>
            obtain ⟨v, r⟩ := q
            rw [hp] at h0
            simp only at h0
            simp only [G.p _ _ _ _ hw hp]
            cases r with
            | none => exact cont _ _ _ _ h0
            | some s1 =>
              simp only at h0
              cases hl : (lenIs s1.h s1.n && Nat.ble s.n s1.n) with
              | false => rw [hl] at h0; cases h0
              | true =>
                rw [hl] at h0
                simp only [if_true, forced_eq] at h0
                rw [Bool.and_eq_true] at hl
                have h1 := lenIs_eq _ _ hl.1
                have h2 := Nat.le_of_ble_eq_true hl.2
                simp only [h1, h2, and_self, if_true]
                by_cases h3 : s.n ≤ s1.dirty
                · rw [if_pos h3] at h0
                  rw [if_pos h3]
                  by_cases h4 : newOk s.n (s1.h.take (s1.n - s.n)) = true
                  · rw [if_pos h4] at h0
                    rw [if_pos h4]
                    exact cont _ _ _ _ h0
                  · rw [if_neg h4] at h0; cases h0
                · rw [if_neg h3] at h0
                  rw [if_neg h3]
                  rw [minF_eq] at h0
                  exact cont _ _ _ _ h0
theorem step_p {n : Nat} (G : Good P n) : ∀ o f s r, wf f → (ev P (n + 1)).p o f s = some r → evP P (n + 1) o (old f) s = some r := by
  intro o f s r hw h
  have h0 : stepP P (ev P n) o f s = some r := h
  rw [evP]
  unfold stepP at h0
  have hp : Vm.prim P (old f).t s o.op = prim P f.t s o.op := (prim_eq hw s o.op).symm
  rw [hp]
  cases e : o.op with
  | call c =>
    rw [e] at h0
    simp only at h0 ⊢
    cases hc : c.callee with
    | value g =>
      rw [hc] at h0
      simp only at h0 ⊢
      have e1 : Vm.aEval (old f).t g = aEval f.t g := (aEval_eq hw g).symm
      have e2 : Vm.aEvals (old f).t c.args.toList = aEvals f.t c.args.toList := (aEvals_eq hw _).symm
      rw [e1, e2]
      split at h0
      · rename_i fid fst cap args h1 h2
        simp only [h1, h2]
        exact G.f _ _ _ _ h0
      · rename_i b args h1 h2
        simp only [h1, h2]
        exact G.r _ _ _ _ h0
      · cases h0
    | _ => rw [hc] at h0; exact h0
  | _ => rw [e] at h0; exact h0
theorem step_c {n : Nat} (G : Good P n) : ∀ rnd c f s x f' s', wf f → (ev P (n + 1)).c rnd c f s = some (x, f', s') → wf f' ∧ f'.nt = f.nt ∧ evC P rnd (n + 1) c (old f) s = some (x, old f', s') := by
  intro rnd c f s x f' s' hw h
  have h0 : stepC P (ev P n) rnd c f s = some (x, f', s') := h
  clear h
  cases c with
  | skip => rw [stepC] at h0; simp at h0; obtain ⟨h1, h2, h3⟩ := h0; subst h1; subst h2; subst h3; exact ⟨hw, rfl, by rw [evC]⟩
  | label l => rw [stepC] at h0; simp at h0; obtain ⟨h1, h2, h3⟩ := h0; subst h1; subst h2; subst h3; exact ⟨hw, rfl, by rw [evC]⟩
  | ret => rw [stepC] at h0; simp at h0; obtain ⟨h1, h2, h3⟩ := h0; subst h1; subst h2; subst h3; exact ⟨hw, rfl, by rw [evC]⟩
  | exit l => rw [stepC] at h0; simp at h0; obtain ⟨h1, h2, h3⟩ := h0; subst h1; subst h2; subst h3; exact ⟨hw, rfl, by rw [evC]⟩
  | seq a b =>
    simp only [stepC] at h0
    cases ha : (ev P n).c rnd a f s with
    | none => rw [ha] at h0; cases h0
    | some q =>
      obtain ⟨y, f1, s1⟩ := q
      obtain ⟨k1, k2, k3⟩ := G.c _ _ _ _ _ _ _ hw ha
      rw [ha] at h0
      rw [evC, k3]
      cases y with
      | normal =>
        simp only at h0 ⊢
        obtain ⟨j1, j2, j3⟩ := G.c _ _ _ _ _ _ _ k1 h0
        exact ⟨j1, j2.trans k2, j3⟩
      | _ =>
        simp at h0; obtain ⟨h1, h2, h3⟩ := h0; subst h1; subst h2; subst h3
        exact ⟨k1, k2, rfl⟩
  | cond g a b =>
    simp only [stepC] at h0
    rw [evC]
    have e1 : Vm.aEval (old f).t g = aEval f.t g := (aEval_eq hw g).symm
    rw [e1]
    split at h0
    · rename_i e; simp only [e]; exact G.c _ _ _ _ _ _ _ hw h0
    · rename_i e; simp only [e]; exact G.c _ _ _ _ _ _ _ hw h0
    · cases h0
  | block id a =>
    simp only [stepC] at h0
    cases ha : (ev P n).c rnd a f s with
    | none => rw [ha] at h0; cases h0
    | some q =>
      obtain ⟨y, f1, s1⟩ := q
      obtain ⟨k1, k2, k3⟩ := G.c _ _ _ _ _ _ _ hw ha
      rw [ha] at h0
      rw [evC, k3]
      cases y with
      | exit id' =>
        simp only at h0 ⊢
        by_cases e : id' = id
        · rw [if_pos e] at h0; rw [if_pos e]
          simp at h0; obtain ⟨h1, h2, h3⟩ := h0; subst h1; subst h2; subst h3
          exact ⟨k1, k2, rfl⟩
        · rw [if_neg e] at h0; rw [if_neg e]
          simp at h0; obtain ⟨h1, h2, h3⟩ := h0; subst h1; subst h2; subst h3
          exact ⟨k1, k2, rfl⟩
      | _ =>
        simp at h0; obtain ⟨h1, h2, h3⟩ := h0; subst h1; subst h2; subst h3
        exact ⟨k1, k2, rfl⟩
  | scope a => rw [stepC] at h0; rw [evC]; exact G.c _ _ _ _ _ _ _ hw h0
  | loop a =>
    simp only [stepC] at h0
    cases ha : (ev P n).c rnd a f s with
    | none => rw [ha] at h0; cases h0
    | some q =>
      obtain ⟨y, f1, s1⟩ := q
      obtain ⟨k1, k2, k3⟩ := G.c _ _ _ _ _ _ _ hw ha
      rw [ha] at h0
      rw [evC, k3]
      cases y with
      | normal =>
        simp only at h0 ⊢
        obtain ⟨j1, j2, j3⟩ := G.c _ _ _ _ _ _ _ k1 h0
        exact ⟨j1, j2.trans k2, j3⟩
      | _ =>
        simp at h0; obtain ⟨h1, h2, h3⟩ := h0; subst h1; subst h2; subst h3
        exact ⟨k1, k2, rfl⟩
  | region id ops draw =>
    cases draw with
    | false =>
      simp only [stepC] at h0
      cases ha : (ev P n).o rnd ops.toList ops.toList f s with
      | none => rw [ha] at h0; cases h0
      | some q =>
        obtain ⟨f1, s1⟩ := q
        obtain ⟨k1, k2, k3⟩ := G.o _ _ _ _ _ _ _ hw ha
        rw [ha] at h0
        rw [evC, k3]
        simp at h0; obtain ⟨h1, h2, h3⟩ := h0; subst h1; subst h2; subst h3
        exact ⟨k1, k2, rfl⟩
    | true =>
      simp only [stepC] at h0
      cases ha : (ev P n).d (befores [] ops.toList) ops.toList ops.toList 0 f s [] [] with
      | none => rw [ha] at h0; cases h0
      | some q =>
        obtain ⟨f1, s1, eff⟩ := q
        obtain ⟨k1, k2, k3⟩ := G.d _ _ _ _ _ _ _ _ _ _ _ hw ha
        rw [ha] at h0
        rw [evC, k3]
        simp only [drawOk2_eq] at h0 ⊢
        split at h0
        · rename_i e
          rw [if_pos e]
          simp at h0; obtain ⟨h1, h2, h3⟩ := h0; subst h1; subst h2; subst h3
          exact ⟨k1, k2, rfl⟩
        · cases h0
  | rangeFunc g ps assign body =>
    simp only [stepC] at h0
    simp only [evC]
    have inner : ∀ (D : Nat) (mark : List Nat) (s1 : St), (match aEval f.t g with
        | some (.fn gid fst cap) =>
          match (ev P n).f gid (fst ++ [.yld s1.n] ++ cap) (s1.push (.loop .ready none (toL f) ps.toList assign body D)) with
          | some (_, s3) =>
            match (s3.getD (s1.push (.loop .ready none (toL f) ps.toList assign body D))).get s1.n with
            | some (.loop st pend ts ps' as bo D') =>
              if st = .busy then none else
              let s4 := (s3.getD (s1.push (.loop .ready none (toL f) ps.toList assign body D))).set s1.n (.loop .exhausted pend ts ps' as bo D')
              match pend with
              | none => some (.normal, { f with d := mark ++ f.d }, s4)
              | some x => some (x, { f with d := mark ++ f.d }, s4)
            | _ => none
          | none => none
        | _ => none) = some (x, f', s') → wf f' ∧ f'.nt = f.nt ∧ (match Vm.aEval (old f).t g with
        | some (.fn gid fst cap) =>
          match evF P n gid (fst ++ [.yld s1.n] ++ cap) (s1.push (.loop .ready none (old f).t ps.toList assign body D)) with
          | some (_, s3) =>
            match (s3.getD (s1.push (.loop .ready none (old f).t ps.toList assign body D))).get s1.n with
            | some (.loop st pend ts ps' as bo D') =>
              if st = .busy then none else
              let s4 := (s3.getD (s1.push (.loop .ready none (old f).t ps.toList assign body D))).set s1.n (.loop .exhausted pend ts ps' as bo D')
              match pend with
              | none => some (.normal, { (old f) with d := mark ++ (old f).d }, s4)
              | some x => some (x, { (old f) with d := mark ++ (old f).d }, s4)
            | _ => none
          | none => none
        | _ => none) = some (x, old f', s') := by
      intro D mark s1 h0
      have e1 : Vm.aEval (old f).t g = aEval f.t g := (aEval_eq hw g).symm
      rw [e1]
      split at h0
      · rename_i gid fst cap hg
        simp only [hg]
        cases hr : (ev P n).f gid (fst ++ [.yld s1.n] ++ cap) (s1.push (.loop .ready none (toL f) ps.toList assign body D)) with
        | none => rw [hr] at h0; cases h0
        | some q =>
          obtain ⟨v, s3⟩ := q
          rw [hr] at h0
          have hr' : evF P n gid (fst ++ [.yld s1.n] ++ cap) (s1.push (.loop .ready none (old f).t ps.toList assign body D)) = some (v, s3) := G.f _ _ _ _ hr
          simp only [hr'] at h0 ⊢
          have ht : (old f).t = toL f := rfl
          simp only [ht]
          split at h0
          · rename_i st pend ts ps' as bo D' hx
            split at h0
            · cases h0
            · rename_i hb
              rw [if_neg hb]
              split at h0
              · simp at h0; obtain ⟨h1, h2, h3⟩ := h0; subst h1; subst h2; subst h3
                exact ⟨hw, rfl, rfl⟩
              · simp at h0; obtain ⟨h1, h2, h3⟩ := h0; subst h1; subst h2; subst h3
                exact ⟨hw, rfl, rfl⟩
          · cases h0
      · cases h0
    cases rnd with
    | none => exact inner _ _ _ h0
    | some l =>
      cases hg : s.get l with
      | none => simp only [hg] at h0; cases h0
      | some o =>
        simp only [hg] at h0 ⊢
        cases o with
        | loop st pend ts ps' as bo D' => exact inner _ _ _ h0
        | _ => cases h0
  | _ => rw [stepC] at h0 <;> first | (cases h0; done) | (intros; simp_all)
theorem setParams_len : ∀ (t : List AV) (ps : List Tmp) (as : List AV), (setParams t ps as).length = t.length
  | t, [], _ => by rw [setParams]; simp
  | t, _ :: _, [] => by rw [setParams]; simp
  | t, p :: ps, a :: as => by rw [setParams, setParams_len]; simp
theorem step_r {n : Nat} (G : Good P n) : ∀ b args s r, (ev P (n + 1)).r b args s = some r → evR P (n + 1) b args s = some r := by
  intro b args s r h
  have h0 : stepR P (ev P n) b args s = some r := h
  clear h
  unfold stepR at h0
  simp only [evR]
  split at h0
  · rename_i pend ts ps assign body dfr hg
    simp only [hg]
    split at h0
    · rename_i hl
      simp only [hl, if_true]
      obtain ⟨w1, w2⟩ := ofArgs (setParams ts ps args) ts.length [] (by rw [setParams_len]; exact Nat.le_refl _)
      have w3 : old ⟨ts.length, numA 0 (setParams ts ps args), []⟩ = ⟨setParams ts ps args, []⟩ := by rw [w2, setParams_len]; simp
      split at h0
      · rename_i f1 s1 h1
        obtain ⟨k1, k2, k3⟩ := G.c _ _ _ _ _ _ _ w1 h1
        rw [w3] at k3
        simp only [k3]
        split at h0
        · rename_i pend1 ts1 ps1 as1 bo1 D1 hg1
          simp only [hg1]
          split at h0
          · rename_i x f3 s3 h3
            obtain ⟨j1, j2, j3⟩ := G.c _ _ _ _ _ _ _ k1 h3
            simp only [j3]
            split at h0
            · rename_i st3 pd3 ts3 ps3 as3 bo3 D3 hg3
              simp only [hg3]
              exact h0
            · cases h0
          · cases h0
        · cases h0
      · cases h0
    · cases h0
  · cases h0
theorem step_f {n : Nat} (G : Good P n) : ∀ fid args s r, (ev P (n + 1)).f fid args s = some r → evF P (n + 1) fid args s = some r := by
  intro fid args s r h
  have h0 : stepF P (ev P n) fid args s = some r := h
  clear h
  unfold stepF at h0
  simp only [evF]
  split at h0
  · rename_i fn hf
    simp only [hf]
    split at h0
    · rename_i c hb
      simp only [hb]
      split at h0
      · rename_i e
        rw [if_pos e]; exact h0
      · rename_i e
        rw [if_neg e]
        obtain ⟨w1, w2⟩ := ofArgs args (args.length + (fn.ntmps - args.length)) [] (by omega)
        rw [show args.length + (fn.ntmps - args.length) - args.length = fn.ntmps - args.length by omega] at w2
        cases h1 : (ev P n).c none c { nt := args.length + (fn.ntmps - args.length), t := numA 0 args, d := [] } { s with dirty := s.n } with
        | none => rw [h1] at h0; cases h0
        | some q =>
          obtain ⟨x, f', s1⟩ := q
          obtain ⟨k1, k2, k3⟩ := G.c _ _ _ _ _ _ _ w1 h1
          rw [w2] at k3
          rw [h1] at h0
          rw [k3]
          have fin : (match shutA s1 f'.d with
              | some s2 => match resultsA P s2 f'.t fn.results.toList with
                | some vs =>
                  if Facts.drop && (resultA vs).flat && decide (s.n ≤ s2.dirty) then some (resultA vs, none)
                  else some (resultA vs, some { s2 with dirty := minF s.dirty s2.dirty })
                | none => none
              | none => none) = some r → (match shutA s1 (old f').d with
              | some s2 => match Vm.resultsA P s2 (old f').t fn.results.toList with
                | some vs =>
                  if Facts.drop && (resultA vs).flat && decide (s.n ≤ s2.dirty) then some (resultA vs, none)
                  else some (resultA vs, some { s2 with dirty := min s.dirty s2.dirty })
                | none => none
              | none => none) = some r := by
            intro h2
            have ed : (old f').d = f'.d := rfl
            rw [ed]
            cases hs : shutA s1 f'.d with
            | none => rw [hs] at h2; cases h2
            | some s2 =>
              rw [hs] at h2
              have er : Vm.resultsA P s2 (old f').t fn.results.toList = resultsA P s2 f'.t fn.results.toList := (resultsA_eq k1 s2 _).symm
              simp only [er]
              simp only [minF_eq] at h2
              exact h2
          cases x with
          | exit id => cases h0
          | normal => exact fin h0
          | ret => exact fin h0
    · cases h0
  · cases h0
theorem good : ∀ n, Good P n
  | 0 => ⟨fun _ _ _ _ _ _ _ _ h => (by cases h), fun _ _ _ _ _ _ _ _ h => (by cases h), fun _ _ _ _ _ _ _ _ _ _ _ _ h => (by cases h), fun _ _ _ _ _ h => (by cases h), fun _ _ _ _ h => (by cases h), fun _ _ _ _ h => (by cases h)⟩
  | n + 1 =>
    have G := good n
    ⟨step_c G, step_o G, step_d G, step_p G, step_r G, step_f G⟩
theorem evF_of {n : Nat} {fid : FuncId} {args : List AV} {s : St} {r : AV × Option St} (h : (ev P n).f fid args s = some r) : evF P n fid args s = some r := (good n).f _ _ _ _ h
/-- does the fast evaluator answer 'true'? -/
def runQ (P : Program) (n : Nat) (fid : FuncId) : Bool :=
  letI : Facts := ⟨[], [], true⟩
  match (ev P n).f fid [] ⟨0, [], 0⟩ with
  | some (.bool true, _) => true
  | _ => false
end
end Go.Vm.Q
namespace Go.Vm
theorem head_fast {P : Program} (hp : (P.funcs.all fun f => !(f.name == "runtime.NumGoroutine")) = true) (hm : P.follows .mixedOrders = true) {n : Nat} {fid : FuncId} (h : Q.runQ P n fid = true) (w : World) :
    Calls P fid #[] w fun e w' => e = .returned (.bool true) ∧ Go.RowKit.Below w.heap.size w w' := by
  refine head_run hp hm (n := n) ?_ w
  letI : Facts := ⟨[], [], true⟩
  unfold Q.runQ at h
  unfold runT
  split at h
  · rename_i os he
    have h2 := @Q.evF_of ⟨[], [], true⟩ P n fid [] ⟨0, [], 0⟩ _ he
    rw [h2]
  · cases h
end Go.Vm
