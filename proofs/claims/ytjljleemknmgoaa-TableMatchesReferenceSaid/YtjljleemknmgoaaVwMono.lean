/-
 Part of the proof that a machine over named lists stands for the program's runs (VwMono). No conditions beyond those that its theorems name.
-/
import Derived.Test.YtjljleemknmgoaaVwDef
namespace Go.Vm2
open Go Go.Vm
set_option linter.unusedVariables false
variable [Facts] {P : Program}
def MC (P : Program) [Facts] (n : Nat) : Prop := ∀ rnd c f s r, evC P rnd n c f s = some r → evC P rnd (n + 1) c f s = some r
def MO (P : Program) [Facts] (n : Nat) : Prop := ∀ rnd all l f s r, evO P rnd n all l f s = some r → evO P rnd (n + 1) all l f s = some r
def MD (P : Program) [Facts] (n : Nat) : Prop := ∀ bs all l i f s made eff r, evD P bs n all l i f s made eff = some r → evD P bs (n + 1) all l i f s made eff = some r
def MP (P : Program) [Facts] (n : Nat) : Prop := ∀ o f s r, evP P n o f s = some r → evP P (n + 1) o f s = some r
def MR (P : Program) [Facts] (n : Nat) : Prop := ∀ b args s r, evR P n b args s = some r → evR P (n + 1) b args s = some r
def MF (P : Program) [Facts] (n : Nat) : Prop := ∀ fid args s r, evF P n fid args s = some r → evF P (n + 1) fid args s = some r
theorem mC {n : Nat} (hC : MC P n) (hO : MO P n) (hD : MD P n) (hF : MF P n) : MC P (n + 1) := by
 intro rnd c f s r h
 cases c with
 | skip => simpa only [evC] using h
 | label l => simpa only [evC] using h
 | ret => simpa only [evC] using h
 | exit id => simpa only [evC] using h
 | goto l => simp only [evC] at h; cases h
 | refuse y => simp only [evC] at h; cases h
 | seq a b =>
  rw [evC] at h ⊢
  cases e : evC P rnd n a f s with
  | none => rw [e] at h; cases h
  | some q =>
   rw [e] at h; rw [hC _ _ _ _ _ e]
   obtain ⟨x, f', s'⟩ := q
   cases x with
   | normal => exact hC _ _ _ _ _ h
   | ret => exact h
   | exit i => exact h
 | cond c a b =>
  rw [evC] at h ⊢
  split at h
  ·exact hC _ _ _ _ _ h
  ·exact hC _ _ _ _ _ h
  ·cases h
 | block id a =>
  rw [evC] at h ⊢
  cases e : evC P rnd n a f s with
  | none => rw [e] at h; cases h
  | some q => rw [e] at h; rw [hC _ _ _ _ _ e]; exact h
 | scope a => rw [evC] at h ⊢; exact hC _ _ _ _ _ h
 | loop a =>
  rw [evC] at h ⊢
  cases e : evC P rnd n a f s with
  | none => rw [e] at h; cases h
  | some q =>
   rw [e] at h; rw [hC _ _ _ _ _ e]
   obtain ⟨x, f', s'⟩ := q
   cases x with
   | normal => exact hC _ _ _ _ _ h
   | ret => exact h
   | exit i => exact h
 | region id ops d =>
  cases d with
  | false =>
   rw [evC] at h ⊢
   cases e : evO P rnd n ops.toList ops.toList f s with
   | none => rw [e] at h; cases h
   | some q => rw [e] at h; rw [hO _ _ _ _ _ _ e]; exact h
  | true =>
   rw [evC] at h ⊢
   cases e : evD P (befores [] ops.toList) n ops.toList ops.toList 0 f s [] [] with
   | none => rw [e] at h; cases h
   | some q => rw [e] at h; rw [hD _ _ _ _ _ _ _ _ _ e]; exact h
 | rangeFunc g ps assign body =>
  simp only [evC] at h ⊢
  have key : ∀ (m : Option (Nat × List Nat × St)),
    (match m with
     | some (D, mark, s1) =>
      match aEval f.t g with
      | some (.fn gid fst cap) =>
       match evF P n gid (fst ++ [.yld s1.n] ++ cap) (s1.push (.loop .ready none f.t ps.toList assign body D)) with
       | some (_, s3) =>
        match (s3.getD (s1.push (.loop .ready none f.t ps.toList assign body D))).get s1.n with
        | some (.loop st pend ts ps' as bo D') =>
         if st = .busy then none else
         let s4 := (s3.getD (s1.push (.loop .ready none f.t ps.toList assign body D))).set s1.n (.loop .exhausted pend ts ps' as bo D')
         match pend with
         | none => some (.normal, { f with d := mark ++ f.d }, s4)
         | some x => some (x, { f with d := mark ++ f.d }, s4)
        | _ => none
       | none => none
      | _ => none
     | none => none) = some r →
    (match m with
     | some (D, mark, s1) =>
      match aEval f.t g with
      | some (.fn gid fst cap) =>
       match evF P (n + 1) gid (fst ++ [.yld s1.n] ++ cap) (s1.push (.loop .ready none f.t ps.toList assign body D)) with
       | some (_, s3) =>
        match (s3.getD (s1.push (.loop .ready none f.t ps.toList assign body D))).get s1.n with
        | some (.loop st pend ts ps' as bo D') =>
         if st = .busy then none else
         let s4 := (s3.getD (s1.push (.loop .ready none f.t ps.toList assign body D))).set s1.n (.loop .exhausted pend ts ps' as bo D')
         match pend with
         | none => some (.normal, { f with d := mark ++ f.d }, s4)
         | some x => some (x, { f with d := mark ++ f.d }, s4)
        | _ => none
       | none => none
      | _ => none
     | none => none) = some r := by
   intro m h
   cases m with
   | none => exact h
   | some q =>
    obtain ⟨D, mark, s1⟩ := q
    simp only [] at h ⊢
    split at h
    ·rename_i gid fst cap hg
     cases e : evF P n gid (fst ++ [.yld s1.n] ++ cap) (s1.push (.loop .ready none f.t ps.toList assign body D)) with
     | none => rw [e] at h; cases h
     | some q => rw [e] at h; rw [hF _ _ _ _ e]; exact h
    ·cases h
  exact key _ h
theorem evF_some {n : Nat} {fid : FuncId} {args : List AV} {s : St} {r : AV × Option St} (h : evF P n fid args s = some r) : ∃ fn c, P.funcs[fid]? = some fn ∧ fn.body = some c := by
 cases n with
 | zero => simp [evF] at h
 | succ n =>
  simp only [evF] at h
  split at h
  ·rename_i fn hfn
   split at h
   ·rename_i c hc; exact ⟨fn, c, hfn, hc⟩
   ·simp at h
  ·simp at h
theorem seqA_none {n : Nat} {o : Oper} {f : Fr} {s : St} {r : AV × Option St} (h : evP P n o f s = some r) : seqA P f.t s o.op = none := by
 unfold seqA
 split
 ·rename_i c ho
  split
  ·rename_i g hg
   split
   ·rename_i fn hfn
    split
    ·rfl
    ·rename_i hb
     exfalso
     cases n with
     | zero => simp [evP] at h
     | succ n =>
      rw [evP] at h
      simp only [ho, hg, aEval] at h
      split at h
      ·rename_i fid fst cap args e1 e2
       simp only [Option.some.injEq, AV.fn.injEq] at e1
       obtain ⟨rfl, rfl, rfl⟩ := e1
       obtain ⟨fn', c', k1, k2⟩ := evF_some h
       rw [hfn] at k1
       cases k1
       rw [hb] at k2
       cases k2
      ·rename_i e1 _
       cases e1
      ·cases h
   ·rfl
  ·rfl
 ·rfl
theorem mO {n : Nat} (hO : MO P n) (hP : MP P n) : MO P (n + 1) := by
 intro rnd all l f s r h
 cases l with
 | nil => simpa only [evO] using h
 | cons o os =>
  rw [evO] at h ⊢
  split at h
  ·rename_i hw
   rw [if_pos hw]
   cases es : seqA P f.t s o.op with
   | some v => simp only [es] at h ⊢; exact hO _ _ _ _ _ _ h
   | none =>
    simp only [es] at h ⊢
    cases e : evP P n o f s with
    | none => rw [e] at h; cases h
    | some q => rw [e] at h; rw [hP _ _ _ _ e]; exact hO _ _ _ _ _ _ h
  ·rename_i hw
   rw [if_neg hw]
   exact hO _ _ _ _ _ _ h
theorem mD {n : Nat} (hD : MD P n) (hP : MP P n) : MD P (n + 1) := by
 intro bs all l i f s made eff r h
 cases l with
 | nil => simpa only [evD] using h
 | cons o os =>
  rw [evD] at h ⊢
  split at h
  ·rename_i hw
   rw [if_pos hw]
   cases e : evP P n o f (hide bs i { s with dirty := s.n } made) with
   | none => rw [e] at h; cases h
   | some q =>
    rw [e] at h; rw [hP _ _ _ _ e]
    obtain ⟨v, os'⟩ := q
    cases os' with
    | none => exact hD _ _ _ _ _ _ _ _ _ h
    | some s' =>
     dsimp only at h ⊢
     split at h
     ·rename_i h1
      rw [if_pos h1]
      split at h
      ·rename_i h2
       rw [if_pos h2]
       split at h
       ·rename_i h3
        rw [if_pos h3]
        exact hD _ _ _ _ _ _ _ _ _ h
       ·cases h
      ·rename_i h2
       rw [if_neg h2]
       exact hD _ _ _ _ _ _ _ _ _ h
     ·cases h
  ·rename_i hw
   rw [if_neg hw]
   exact hD _ _ _ _ _ _ _ _ _ h
theorem mP {n : Nat} (hF : MF P n) (hR : MR P n) : MP P (n + 1) := by
 intro o f s r h
 rw [evP] at h ⊢
 split at h
 ·rename_i c hc
  split at h
  ·rename_i g hg
   split at h
   ·rename_i fid fst cap as h1 h2
    exact hF _ _ _ _ h
   ·rename_i b as h1 h2
    exact hR _ _ _ _ h
   ·cases h
  ·exact h
 ·exact h
theorem mR {n : Nat} (hC : MC P n) : MR P (n + 1) := by
 intro b args s r h
 rw [evR] at h ⊢
 split at h
 ·rename_i pend ts ps assign body D hs
  split at h
  ·rename_i hl
   rw [if_pos hl]
   cases e : evC P (some b) n assign { t := setParams ts ps args, d := [] } s with
   | none => rw [e] at h; cases h
   | some q =>
    rw [e] at h; rw [hC _ _ _ _ _ e]
    obtain ⟨x, f1, s1⟩ := q
    cases x with
    | normal =>
     simp only [] at h ⊢
     split at h
     ·rename_i pend1 ts1 ps1 as1 bo1 D1 hs1
      cases e2 : evC P (some b) n body f1 (s1.set b (.loop .busy pend1 ts1 ps1 as1 bo1 D1)) with
      | none => rw [e2] at h; cases h
      | some q2 => rw [e2] at h; rw [hC _ _ _ _ _ e2]; exact h
     ·cases h
    | ret => cases h
    | exit i => cases h
  ·cases h
 ·cases h
theorem mF {n : Nat} (hC : MC P n) : MF P (n + 1) := by
 intro fid args s r h
 rw [evF] at h ⊢
 cases e0 : P.funcs[fid]? with
 | none => rw [e0] at h; cases h
 | some fn =>
  rw [e0] at h
  simp only [] at h ⊢
  cases e1 : fn.body with
  | none => rw [e1] at h; cases h
  | some c =>
   rw [e1] at h
   simp only [] at h ⊢
   split at h
   ·rename_i ht; rw [if_pos ht]; exact h
   ·rename_i ht
    rw [if_neg ht]
    cases e : evC P none n c { t := args ++ List.replicate (fn.ntmps - args.length) aundef, d := [] } { s with dirty := s.n } with
    | none => rw [e] at h; cases h
    | some q => rw [e] at h; rw [hC _ _ _ _ _ e]; exact h
theorem mono_all : ∀ n, MC P n ∧ MO P n ∧ MD P n ∧ MP P n ∧ MR P n ∧ MF P n := by
 intro n
 induction n with
 | zero =>
  refine ⟨?_, ?_, ?_, ?_, ?_, ?_⟩
  ·intro rnd c f s r h; simp [evC] at h
  ·intro rnd all l f s r h; simp [evO] at h
  ·intro bs all l i f s made eff r h; simp [evD] at h
  ·intro o f s r h; simp [evP] at h
  ·intro b args s r h; simp [evR] at h
  ·intro fid args s r h; simp [evF] at h
 | succ n ih =>
  obtain ⟨a, b, c, d, e, f⟩ := ih
  exact ⟨mC a b c f, mO b d, mD c d, mP f e, mR a, mF a⟩
theorem evC_le {rnd c f s r} {n m : Nat} (h : evC P rnd n c f s = some r) (l : n ≤ m) : evC P rnd m c f s = some r := by
 induction l with
 | refl => exact h
 | step _ ih => exact (mono_all _).1 _ _ _ _ _ ih
theorem evO_le {rnd all l f s r} {n m : Nat} (h : evO P rnd n all l f s = some r) (k : n ≤ m) : evO P rnd m all l f s = some r := by
 induction k with
 | refl => exact h
 | step _ ih => exact (mono_all _).2.1 _ _ _ _ _ _ ih
theorem evD_le {bs all l i f s made eff r} {n m : Nat} (h : evD P bs n all l i f s made eff = some r) (k : n ≤ m) : evD P bs m all l i f s made eff = some r := by
 induction k with
 | refl => exact h
 | step _ ih => exact (mono_all _).2.2.1 _ _ _ _ _ _ _ _ _ ih
theorem evP_le {o f s r} {n m : Nat} (h : evP P n o f s = some r) (k : n ≤ m) : evP P m o f s = some r := by
 induction k with
 | refl => exact h
 | step _ ih => exact (mono_all _).2.2.2.1 _ _ _ _ ih
theorem evR_le {b args s r} {n m : Nat} (h : evR P n b args s = some r) (k : n ≤ m) : evR P m b args s = some r := by
 induction k with
 | refl => exact h
 | step _ ih => exact (mono_all _).2.2.2.2.1 _ _ _ _ ih
theorem evF_le {fid args s r} {n m : Nat} (h : evF P n fid args s = some r) (k : n ≤ m) : evF P m fid args s = some r := by
 induction k with
 | refl => exact h
 | step _ ih => exact (mono_all _).2.2.2.2.2 _ _ _ _ ih
end Go.Vm2
