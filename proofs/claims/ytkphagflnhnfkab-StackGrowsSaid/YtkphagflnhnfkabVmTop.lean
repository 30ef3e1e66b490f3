/-
  What the small machine answers on a closed run, the program answers in every world, whatever order is drawn. No conditions beyond those that its theorems name.
-/
import Derived.Test.YtkphagflnhnfkabVmDraw7
namespace Go.Vm
set_option linter.unusedSectionVars false
variable [Facts] [Val] [Sound]
variable {P : Program} {base : Nat} [Trues P]
theorem draw_ok (hm : P.follows .mixedOrders = true) {n : Nat} (hP : ∀ k, k < n → OperOk P k) : DrawOk P n := by
  intro id ops f s f' s' eff hev hd base ρ w a R hf hk hr hi
  simp only [drawOk, Bool.and_eq_true] at hd
  obtain ⟨⟨⟨hd1, hd2⟩, hd3⟩, hd4⟩ := hd
  obtain ⟨_, r, r1, r2, r3, r4, r5, r6⟩ := run_of_evD n ops.toList 0 f s [] [] f' s' eff rfl (Nat.zero_le _) hev
  have c : Ctx P n ops eff r s f := ⟨fun k hk => r6 k (Nat.zero_le _) hk, r1, r2, r3, hd2, hd1, hd3, hd4, hk⟩
  refine wpIn_region_any hm ?_
  have hsn : ∀ i, i ≤ ops.toList.length → s.n ≤ (r.S i).n := fun i h => by have := c.nle 0 i (Nat.zero_le _) h; rw [r1] at this; exact this
  have hlen := convs_length hi.tmps
  refine any_ok (base := base) (ρ0 := ρ) (a0 := a) (w0 := w) c hP ?_ ops.size _ 0 a _ ρ s.look (by simp) (by simp) ?_
  · intro m X a' w' ρ' g hall hI
    have hle := hI.ext.le hf
    have hrl : ∀ k, (res ρ' k).le ρ' := res_le ρ'
    refine ⟨rfl, ρ', hI.ext, fun b hb => (hI.g4 b (by rw [r4]; exact hb)).2, by rw [← r4]; exact hsn _ (Nat.le_refl _), by rw [← r4]; exact c.sok _ (Nat.le_refl _), ⟨?_, ?_⟩, ?_, ?_, ?_⟩
    · rw [← r5]
      refine convs_of_get ?_ (fun t v hv => ?_)
      · rw [(c.flen _ (Nat.le_refl _)).1]; simp [hI.size]
      · have ht : t < f.t.length := by
          have := (List.getElem?_eq_some_iff.1 hv).1
          rw [(c.flen _ (Nat.le_refl _)).1] at this; exact this
        have e1 : v = (r.F ops.toList.length).t.getD t aundef := by rw [List.getD_eq_getElem?_getD, hv]; rfl
        have e2 : a'.tmps.toList[t]? = some (a'.tmps.getD t undef) := by
          have : t < a'.tmps.size := by rw [hI.size]; exact ht
          simp [this]
        refine ⟨_, ?_, e2⟩
        rw [e1]
        by_cases hw : ∃ (j : Nat) (q : Oper), ops.toList[j]? = some q ∧ q.dst = some t
        · obtain ⟨j, q, hq, hdq⟩ := hw
          have hj := (List.getElem?_eq_some_iff.1 hq).1
          rw [c.lex1 hq hdq ht _ hj (Nat.le_refl _)]
          exact conv_mono (hrl _) _ _ (hI.tm1 j hj (hall j hj) q hq t hdq ht)
        · rw [c.lex0 t _ (Nat.le_refl _) (fun j hj q hq hdq => hw ⟨j, q, hq, hdq⟩)]
          exact conv_mono (hrl _) _ _ (hI.tm0 t ht (fun j hj _ q hq hdq => hw ⟨j, q, hq, hdq⟩))
    · rw [← r5, (c.flen _ (Nat.le_refl _)).2, hI.marks]
      exact marks_mono hle hi.marks
    · refine hI.relN.less (fun b q h => ?_)
      rw [← r4] at h
      have hlt := St.look_lt h
      have hlight : ∀ k, m ≤ k → k < ops.toList.length → light r k := fun k h1 h2 => hI.high k h1 h2 (hall k h2)
      rcases Nat.lt_or_ge b (r.S m).n with h1 | h1
      · rw [hI.g1 b h1]
        unfold St.look at h ⊢
        rw [← c.lights _ hI.hm (Nat.le_refl _) hlight b h1]; exact h
      · obtain ⟨j, q1, q2, q3, q4⟩ := c.whose _ m hI.hm (Nat.le_refl _) h1 hlt
        rw [hI.g2 j q1 q2 (hall j q2) b q3 q4]
        unfold St.look at h ⊢
        rw [← c.lights _ (m := j + 1) (by omega) (Nat.le_refl _) (fun k h1 h2 => hlight k (by omega) h2) b q4]; exact h
    · have hsub : ∀ b q, s'.look b = some q → g b = some q := by
        intro b q h
        rw [← r4] at h
        have hlt := St.look_lt h
        have hlight : ∀ k, m ≤ k → k < ops.toList.length → light r k := fun k h1 h2 => hI.high k h1 h2 (hall k h2)
        rcases Nat.lt_or_ge b (r.S m).n with h1 | h1
        · rw [hI.g1 b h1]
          unfold St.look at h ⊢
          rw [← c.lights _ hI.hm (Nat.le_refl _) hlight b h1]; exact h
        · obtain ⟨j, q1, q2, q3, q4⟩ := c.whose _ m hI.hm (Nat.le_refl _) h1 hlt
          rw [hI.g2 j q1 q2 (hall j q2) b q3 q4]
          unfold St.look at h ⊢
          rw [← c.lights _ (m := j + 1) (by omega) (Nat.le_refl _) (fun k h1 h2 => hlight k (by omega) h2) b q4]; exact h
      exact ⟨hI.fram.os, hI.fram.tape, hI.fram.output, hI.fram.size, hI.fram.keep, fun b q B h => hI.fram.img b q B (hsub b q h)⟩
    · have hkeep : ∀ k, k ≤ ops.toList.length → KeepA s (r.S k) := by
        intro k
        induction k with
        | zero => intro _; rw [r1]; exact KeepA.refl _
        | succ k ih => intro h; exact (ih (by omega)).trans (hI.keep k (by omega) (hall k (by omega))) (hsn k (by omega))
      rw [← r4]; exact hkeep _ (Nat.le_refl _)
  · have hno : ∀ j, ¬ (Array.replicate ops.size false).getD j false = true := by
      intro j
      rcases Nat.lt_or_ge j ops.size with h | h <;> simp [h]
    refine ⟨Nat.zero_le _, fun i h => by omega, fun j _ _ h => absurd h (hno j), fun i j _ h => absurd h (hno i), fun b _ => by rw [r1], fun j _ _ h => absurd h (hno j), ?_, ?_, ?_, fun j _ _ h => absurd h (hno j), (Fram.refl ρ s.look w).drew, Ext.refl _ _, fun j i o q h => by omega, by simpa using hlen, rfl, ?_, fun j _ h => absurd h (hno j), fun j _ h => absurd h (hno j)⟩
    · intro j h1 h2 h b h3 h4
      have := hsn j (by omega)
      exact ⟨St.look_none (by omega), hf b (by omega)⟩
    · intro b hb
      have := hsn _ (Nat.le_refl ops.toList.length)
      exact ⟨St.look_none (by omega), hf b (by omega)⟩
    · intro i h1 h2
      have := hsn i h2
      rw [res_all (fun b hb => hf b (by omega))]
      refine (hr.drew).less (fun b q h => ?_)
      unfold cut at h
      split at h
      · exact h
      · cases h
    · intro t ht hn
      rw [res_all (fun b hb => hf b hb)]
      have := convs_getD hi.tmps t
      simp only [List.getD_eq_getElem?_getD] at this ⊢
      rw [this]
      simp [Array.getD_eq_getD_getElem?]
/-- **A CLOSED RUN**: what the machine answers without a heap of its own to begin with, the program answers in every world, and writes nothing that was there. -/
theorem closed_run (hPl : Plain P) (hm : P.follows .mixedOrders = true) {n : Nat} {fid : FuncId} {args : List AV} {v : AV} {os : Option St} (h : evF P n fid args ⟨0, [], 0⟩ = some (v, os)) (hv : v.flat = true) {cargs : List Value} (ha : convs (fun _ => none) args = some cargs) (w : World) :
    Calls P fid cargs.toArray w fun e w' => ∃ x, conv (fun _ => none) v = some x ∧ e = .returned x ∧ Go.RowKit.Below w.heap.size w w' := by
  obtain ⟨_, _, _, hF, _, _⟩ := all_ok hPl (fun n hP => draw_ok hm hP) n
  have hl : ∀ b, (St.look ⟨0, [], 0⟩ b) = none := fun b => St.look_none (Nat.zero_le _)
  have no : ∀ b o, (St.look ⟨0, [], 0⟩ b) = some o → False := fun b o e => by rw [hl] at e; cases e
  have := hF fid args ⟨0, [], 0⟩ v os h w.heap.size (fun _ => none) w cargs (fun _ _ => rfl) rfl
    ⟨fun b o e => (no b o e).elim, fun b b' o o' e => (no b o e).elim, fun b o e => (no b o e).elim, fun b o e => (no b o e).elim, fun b e => no b _ e, Nat.le_refl _⟩ ha
  refine callsIn_wide.1 (this.mono fun e w' q => ?_)
  obtain ⟨x, e1, ρ1, o1, o2, o3, o4, o5, o6, o7, o8⟩ := q
  exact ⟨x, conv_flat _ _ hv o5, e1, o7.os, o7.tape, o7.output, o7.size, fun k hk => o7.keep k hk (fun b o e => (no b o e).elim)⟩
theorem plain_of {P : Program} (h : (P.funcs.all fun f => !(f.name == "runtime.NumGoroutine")) = true) : Plain P := by
  intro i fn hfn
  have := Array.all_eq_true_iff_forall_mem.1 h fn (Array.mem_of_getElem? hfn)
  simpa using this
/-- a closed test that answers 'true' -/
theorem closed_true (hp : (P.funcs.all fun f => !(f.name == "runtime.NumGoroutine")) = true) (hm : P.follows .mixedOrders = true) {n : Nat} {fid : FuncId} {os : Option St} (h : evF P n fid [] ⟨0, [], 0⟩ = some (.bool true, os)) (w : World) :
    Calls P fid #[] w fun e w' => e = .returned (.bool true) ∧ Go.RowKit.Below w.heap.size w w' :=
  (closed_run (plain_of hp) hm h rfl (cargs := []) rfl w).mono fun e w' q => by
    obtain ⟨x, h1, h2, h3⟩ := q
    simp [conv] at h1; subst h1; exact ⟨h2, h3⟩
end Go.Vm
