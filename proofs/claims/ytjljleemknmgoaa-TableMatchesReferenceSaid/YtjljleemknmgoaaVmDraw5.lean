/-
 Part of the proof that a machine over named lists stands for the program's runs (VmDraw5). No conditions beyond those that its theorems name.
-/
import Derived.Test.YtjljleemknmgoaaVmDraw4
namespace Go.Vm
set_option linter.unusedSectionVars false
variable [Facts] [Val] [Sound]
variable {P : Program} {base : Nat}
theorem tied_trans {all : List Oper} (h : edgesOk all = true) {a b : Nat} (hab : tied (befores [] all) a b = true) : ∀ (c : Nat), c < all.length → tied (befores [] all) b c = true → tied (befores [] all) a c = true := by
 intro c
 induction c using Nat.strongRecOn with
 | _ c ih =>
  intro hc hbc
  have ho : all[c]? = some all[c] := List.getElem?_eq_getElem hc
  obtain ⟨k, h1, h2⟩ := (tied_iff h ho b).1 hbc
  have hk := edgesOk_spec h ho k h1
  refine (tied_iff h ho a).2 ⟨k, h1, .inr ?_⟩
  rcases h2 with e | e
  ·subst e; exact hab
  ·exact ih k hk (by omega) e
theorem hide_get (bs : List Nat) (i b : Nat) : ∀ (l : List (Nat × Nat × Nat)) (s : St), (∀ e ∈ l, tied bs e.1 i = false → ¬ (e.2.1 ≤ b ∧ b < e.2.2)) → (hide bs i s l).get b = s.get b
 | [], s, _ => rfl
 | (j, lo, hi) :: l, s, h => by
  simp only [hide]
  split
  ·exact hide_get bs i b l s (fun e he => h e (by simp [he]))
  ·rename_i ht
   rw [hide_get bs i b l _ (fun e he => h e (by simp [he]))]
   have hn := h (j, lo, hi) (by simp) (by simpa using ht)
   simp only [St.get_def]
   split
   ·rename_i hb
    have hb' : b < s.n := hb
    rw [hideIn_get]
    have e1 : s.n - 1 - (s.n - 1 - b) = b := by omega
    have hn' : ¬ (lo ≤ b ∧ b < hi) := hn
    rw [e1]
    cases s.h[s.n - 1 - b]? with
    | none => rfl
    | some y => simp only [Option.map_some]; rw [if_neg hn']
   ·rfl
theorem evP_blind {n : Nat} {o : Oper} {f : Fr} {s : St} (hb : blind o = true) : evP P (n + 1) o f s = prim P f.t s o.op := by
 unfold blind at hb
 simp only [evP]
 cases ho : o.op <;> rw [ho] at hb <;> simp only <;> simp only at hb
 rename_i c
 cases hc : c.callee <;> rw [hc] at hb <;> simp only <;> simp at hb
section
variable {n : Nat} {ops : Array Oper} {eff : List Nat} {r : Run} {s : St} {f : Fr} {ρ0 : Rho} {a0 : Act} {w0 : World} {m : Nat} {X : Nat → Prop} {a : Act} {w : World} {ρ : Rho} {g : Look}
theorem Ctx.blind_next (c : Ctx P n ops eff r s f) {k : Nat} {o : Oper} (ho : ops.toList[k]? = some o) (hb : blind o = true) : r.S (k + 1) = r.S k := by
 obtain ⟨q, hq, _, h⟩ := c.step k (List.getElem?_eq_some_iff.1 ho).1
 rw [ho] at hq; cases hq
 rcases h with ⟨_, _, e, _⟩ | ⟨_, m, os, _, _, ⟨_, e, _⟩ | ⟨s1, _, h1, h2, _⟩ | ⟨s1, _, h1, h2, _⟩⟩
 ·exact e
 ·exact e
 ·rw [hb] at h2; exact absurd h2.2 (by simp)
 ·rw [hb] at h2; exact absurd h2.2 (by simp)
theorem Ctx.grow (c : Ctx P n ops eff r s f) {k : Nat} (hk : k < ops.toList.length) (hn : (r.S k).n < (r.S (k + 1)).n) : (k, (r.S k).n, (r.S (k + 1)).n) ∈ r.M (k + 1) ∨ k ∈ eff := by
 obtain ⟨q, hq, _, h⟩ := c.step k hk
 rcases h with ⟨_, _, e, _⟩ | ⟨_, m, os, _, _, ⟨_, e, _⟩ | ⟨s1, _, h1, h2, _, _, e, e2⟩ | ⟨s1, _, h1, h2, _, _, h3⟩⟩
 ·rw [e] at hn; omega
 ·rw [e] at hn; omega
 ·left; rw [e2, e]; simp
 ·exact .inr h3
theorem Ctx.M_mono (c : Ctx P n ops eff r s f) {k : Nat} {e : Nat × Nat × Nat} (he : e ∈ r.M k) : ∀ (i : Nat), k ≤ i → i ≤ ops.toList.length → e ∈ r.M i := by
 intro i
 induction i with
 | zero => intro h _; have : k = 0 := by omega
           subst this; exact he
 | succ i ih =>
  intro h1 h2
  by_cases e1 : k = i + 1
  ·subst e1; exact he
  ·have := ih (by omega) (by omega)
   obtain ⟨q, hq, _, h⟩ := c.step i (by omega)
   rcases h with ⟨_, _, _, e⟩ | ⟨_, m, os, _, _, ⟨_, _, e⟩ | ⟨s1, _, _, _, _, _, _, e⟩ | ⟨s1, _, _, _, _, e, _⟩⟩ <;> rw [e]
   ·exact this
   ·exact this
   ·exact List.mem_cons_of_mem _ this
   ·exact this
theorem Ctx.whose (_ : Ctx P n ops eff r s f) {b : Nat} : ∀ (k m : Nat), m ≤ k → k ≤ ops.toList.length → (r.S m).n ≤ b → b < (r.S k).n → ∃ j, m ≤ j ∧ j < k ∧ (r.S j).n ≤ b ∧ b < (r.S (j + 1)).n := by
 intro k
 induction k with
 | zero => intro m h1 _ h2 h3; have : m = 0 := by omega
           subst this; omega
 | succ k ih =>
  intro m h1 h2 h3 h4
  by_cases e : m = k + 1
  ·subst e; omega
  ·rcases Nat.lt_or_ge b (r.S k).n with h | h
   ·obtain ⟨j, q1, q2, q3, q4⟩ := ih m (by omega) (by omega) h3 h
    exact ⟨j, q1, by omega, q3, q4⟩
   ·exact ⟨k, by omega, by omega, h, h4⟩
theorem Ctx.same (c : Ctx P n ops eff r s f) {b i j : Nat} (hi : i < ops.toList.length) (hj : j < ops.toList.length) (h1 : (r.S i).n ≤ b) (h2 : b < (r.S (i + 1)).n) (h3 : (r.S j).n ≤ b) (h4 : b < (r.S (j + 1)).n) : i = j := by
 rcases Nat.lt_trichotomy i j with h | h | h
 ·have := c.nle (i + 1) j (by omega) (by omega); omega
 ·exact h
 ·have := c.nle (j + 1) i (by omega) (by omega); omega
theorem Inv.relN (hI : Inv ops r base ρ0 s f a0 w0 m X a w ρ g) : Rel base ρ g w := by
 have h := hI.rel ops.toList.length hI.hm (Nat.le_refl _)
 rw [res_all (fun b hb => (hI.g4 b hb).2)] at h
 refine h.less (fun b o hb => ?_)
 unfold cut
 split
 ·exact hb
 ·rw [(hI.g4 b (by omega)).1] at hb; cases hb
theorem Inv.who (c : Ctx P n ops eff r s f) (hI : Inv ops r base ρ0 s f a0 w0 m X a w ρ g) {b : Nat} {q : AO} (hb : g b = some q) : b < (r.S m).n ∨ ∃ j, m ≤ j ∧ j < ops.toList.length ∧ X j ∧ (r.S j).n ≤ b ∧ b < (r.S (j + 1)).n ∧ (r.S j).n ≤ q.kinOf b ∧ q.kinOf b ≤ b := by
 rcases Nat.lt_or_ge b (r.S m).n with h | h
 ·exact .inl h
 ·rcases Nat.lt_or_ge b (r.S ops.toList.length).n with h' | h'
  ·obtain ⟨j, h1, h2, h3, h4⟩ := c.whose _ m hI.hm (Nat.le_refl _) h h'
   by_cases hX : X j
   ·exact .inr ⟨j, h1, h2, hX, h3, h4, hI.kinds j h1 h2 hX b q h3 h4 hb, hI.relN.kin b q hb⟩
   ·rw [(hI.g3 j h1 h2 hX b h3 h4).1] at hb; cases hb
  ·rw [(hI.g4 b h').1] at hb; cases hb
def sees (ops : Array Oper) (r : Run) (i : Nat) : St := hide (befores [] ops.toList) i { r.S i with dirty := (r.S i).n } (r.M i)
theorem Ctx.sight (c : Ctx P n ops eff r s f) (hI : Inv ops r base ρ0 s f a0 w0 m X a w ρ g) {i : Nat} {o : Oper} (ho : ops.toList[i]? = some o) (hb : loud ops r i o) (hX : ¬ X i) (hen : ∀ j, tied (befores [] ops.toList) j i = true → X j) :
  m ≤ i ∧ (∀ k, m ≤ k → k < i → light r k) ∧ (∀ b q, (sees ops r i).look b = some q → g b = some q ∧ b < (r.S i).n) ∧
  (∀ b q b0 q0, g b = some q → (sees ops r i).look b ≠ some q → (sees ops r i).look b0 = some q0 → q0.kinOf b0 ≠ q.kinOf b) := by
 have hi : i < ops.toList.length := (List.getElem?_eq_some_iff.1 ho).1
 have hmi : m ≤ i := by
  rcases Nat.lt_or_ge i m with h | h
  ·rcases hI.low i h o ho with h' | h'
   ·exact absurd h' hX
   ·exact absurd hb h'
  ·exact h
 have hlight : ∀ k, m ≤ k → k < i → light r k := by
  intro k h1 h2
  rcases c.light_or (k := k) (by omega) with h | h
  ·exact h
  ·exact hI.high k h1 (by omega) (hen k ((c.effOk h ho hb).2 h2))
 have hseen : ∀ b q, (sees ops r i).look b = some q → (r.S i).look b = some q ∧ ∀ e ∈ r.M i, tied (befores [] ops.toList) e.1 i = false → ¬ (e.2.1 ≤ b ∧ b < e.2.2) := by
  intro b q h
  obtain ⟨h1, h2⟩ := hide_look _ i _ _ b q h
  exact ⟨h1, h2⟩
 have hof : ∀ b q j, (sees ops r i).look b = some q → j < i → (r.S j).n ≤ b → b < (r.S (j + 1)).n → tied (befores [] ops.toList) j i = true := by
  intro b q j h hji h1 h2
  rcases c.grow (k := j) (by omega) (by omega) with h3 | h3
  ·have h4 := c.M_mono h3 i (by omega) (by omega)
   cases ht : tied (befores [] ops.toList) j i with
   | true => rfl
   | false => exact absurd ⟨h1, h2⟩ ((hseen b q h).2 _ h4 ht)
  ·exact (c.effOk h3 ho hb).2 hji
 have hsee : ∀ b q, (sees ops r i).look b = some q → g b = some q ∧ b < (r.S i).n := by
  intro b q h
  have h0 := (hseen b q h).1
  have hlt := St.look_lt h0
  refine ⟨?_, hlt⟩
  rcases Nat.lt_or_ge b (r.S m).n with h1 | h1
  ·rw [hI.g1 b h1]
   unfold St.look at h0 ⊢
   rw [← c.lights i hmi (by omega) hlight b h1]; exact h0
  ·obtain ⟨j, q1, q2, q3, q4⟩ := c.whose i m hmi (by omega) h1 hlt
   have hXj := hen j (hof b q j h q2 q3 q4)
   rw [hI.g2 j q1 (by omega) hXj b q3 q4]
   unfold St.look at h0 ⊢
   rw [← c.lights i (m := j + 1) (by omega) (by omega) (fun k h1 h2 => hlight k (by omega) h2) b q4]; exact h0
 refine ⟨hmi, hlight, hsee, ?_⟩
 intro b q b0 q0 hg hns h0
 have hhid : ∃ j, m ≤ j ∧ j < ops.toList.length ∧ X j ∧ (r.S j).n ≤ b ∧ b < (r.S (j + 1)).n ∧ (r.S j).n ≤ q.kinOf b ∧ q.kinOf b ≤ b ∧ ¬ (j < i ∧ tied (befores [] ops.toList) j i = true) := by
  have keep : (b < (r.S m).n ∨ ∃ j, m ≤ j ∧ j < i ∧ tied (befores [] ops.toList) j i = true ∧ (r.S j).n ≤ b ∧ b < (r.S (j + 1)).n) → (r.S i).look b = some q → False := by
   intro hw hl
   refine hns ?_
   have hget : (sees ops r i).get b = (r.S i).get b := by
    unfold sees
    rw [hide_get _ i b]
    ·rfl
    ·intro e he hf hin
     obtain ⟨e1, e2, e3, oe, e4, e5⟩ := c.made i (by omega) e he
     rcases hw with hw | ⟨j, j1, j2, j3, j4, j5⟩
     ·rcases Nat.lt_or_ge e.1 m with h | h
      ·rw [hI.tie e.1 i oe o h hmi e4 ho e5 hb] at hf; cases hf
      ·have := c.nle m e.1 h (by omega)
       rw [e2] at hin; omega
     ·rw [e2, e3] at hin
      have := c.same (i := e.1) (j := j) (b := b) (by omega) (by omega) hin.1 hin.2 j4 j5
      rw [this, j3] at hf; cases hf
   unfold St.look at hl ⊢
   rw [hget]; exact hl
  rcases hI.who c hg with h | ⟨j, j1, j2, j3, j4, j5, j6, j7⟩
  ·exfalso
   refine keep (.inl h) ?_
   have e := hI.g1 b h
   rw [hg] at e
   unfold St.look at e ⊢
   rw [c.lights i hmi (by omega) hlight b h]; exact e.symm
  ·refine ⟨j, j1, j2, j3, j4, j5, j6, j7, fun ⟨h1, h2⟩ => ?_⟩
   refine keep (.inr ⟨j, j1, h1, h2, j4, j5⟩) ?_
   have e := hI.g2 j j1 j2 j3 b j4 j5
   rw [hg] at e
   unfold St.look at e ⊢
   rw [c.lights i (m := j + 1) (by omega) (by omega) (fun k q1 q2 => hlight k (by omega) q2) b j5]; exact e.symm
 obtain ⟨j, j1, j2, j3, j4, j5, j6, j7, j8⟩ := hhid
 obtain ⟨g0, l0⟩ := hsee b0 q0 h0
 rcases hI.who c g0 with h | ⟨k, k1, k2, k3, k4, k5, k6, k7⟩
 ·have := hI.relN.kin b0 q0 g0
  have := c.nle m j j1 (by omega)
  omega
 ·intro e
  have hjk := c.same (i := j) (j := k) (b := q.kinOf b) j2 k2 (by omega) (by omega) (by omega) (by omega)
  subst hjk
  have hji : j < i := by
   rcases Nat.lt_or_ge j i with h | h
   ·exact h
   ·have := c.nle i j h (by omega); omega
  exact j8 ⟨hji, hof b0 q0 j h0 hji k4 k5⟩
end
end Go.Vm
