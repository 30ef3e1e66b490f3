/-
 Part of the proof that a machine over named lists stands for the program's runs (VmDraw2). No conditions beyond those that its theorems name.
-/
import Derived.Test.YtjljleemknmgoaaVmDraw
namespace Go.Vm
set_option linter.unusedSectionVars false
variable [Facts] [Val] [Sound]
variable {P : Program} {base : Nat}
structure Run where
 S : Nat → St
 F : Nat → Fr
 V : Nat → AV
 M : Nat → List (Nat × Nat × Nat)
 done : Nat → St
def StepAt (P : Program) (bs : List Nat) (n : Nat) (all : List Oper) (eff : List Nat) (r : Run) (k : Nat) : Prop :=
 ∃ o, all[k]? = some o ∧ r.F (k + 1) = (r.F k).put o.dst (r.V k) ∧
  ((wantedA all (r.F k).t o = false ∧ r.V k = aundef ∧ r.S (k + 1) = r.S k ∧ r.M (k + 1) = r.M k) ∨
   (wantedA all (r.F k).t o = true ∧ ∃ m os, m < n ∧ evP P m o (r.F k) (hide bs k { r.S k with dirty := (r.S k).n } (r.M k)) = some (r.V k, os) ∧
    ((os = none ∧ r.S (k + 1) = r.S k ∧ r.M (k + 1) = r.M k) ∨
     (∃ s1, os = some s1 ∧ s1.h.length = s1.n ∧ ((r.S k).n ≤ s1.n ∧ blind o = false) ∧ (r.S k).n ≤ s1.dirty ∧ newOk (r.S k).n (s1.h.take (s1.n - (r.S k).n)) = true ∧
      r.S (k + 1) = ⟨s1.n, s1.h.take (s1.n - (r.S k).n) ++ (r.S k).h, (r.S k).dirty⟩ ∧ r.M (k + 1) = (k, (r.S k).n, s1.n) :: r.M k) ∨
     (∃ s1, os = some s1 ∧ s1.h.length = s1.n ∧ ((r.S k).n ≤ s1.n ∧ blind o = false) ∧ r.S (k + 1) = { s1 with dirty := min (r.S k).dirty s1.dirty } ∧ r.M (k + 1) = r.M k ∧ k ∈ eff))))
theorem StepAt.congr {bs : List Nat} {n n' : Nat} {all : List Oper} {eff : List Nat} {r r' : Run} {k : Nat} (h : StepAt P bs n all eff r k) (hn : n ≤ n') (h1 : r'.S k = r.S k) (h2 : r'.S (k + 1) = r.S (k + 1)) (h3 : r'.F k = r.F k) (h4 : r'.F (k + 1) = r.F (k + 1)) (h5 : r'.V k = r.V k)
  (h6 : r'.M k = r.M k) (h7 : r'.M (k + 1) = r.M (k + 1)) : StepAt P bs n' all eff r' k := by
 unfold StepAt at *
 rw [h1, h2, h3, h4, h5, h6, h7]
 obtain ⟨o, g1, g2, g3⟩ := h
 refine ⟨o, g1, g2, g3.imp id ?_⟩
 rintro ⟨q1, m, os, q2, q3⟩
 exact ⟨q1, m, os, by omega, q3⟩
theorem run_of_evD {bs : List Nat} {all : List Oper} : ∀ (n : Nat) (l : List Oper) (i : Nat) (f : Fr) (s : St) (made : List (Nat × Nat × Nat)) (eff0 : List Nat) (f' : Fr) (s' : St) (eff : List Nat), all.drop i = l → i ≤ all.length → evD P bs n all l i f s made eff0 = some (f', s', eff) →
  (∀ x ∈ eff0, x ∈ eff) ∧ ∃ r : Run, r.S i = s ∧ r.F i = f ∧ r.M i = made ∧ r.S all.length = s' ∧ r.F all.length = f' ∧ ∀ k, i ≤ k → k < all.length → StepAt P bs n all eff r k
 | 0, _, _, _, _, _, _, _, _, _, _, _, h => by simp [evD] at h
 | n + 1, [], i, f, s, made, eff0, f', s', eff, hl, hi, h => by
  simp [evD] at h; obtain ⟨rfl, rfl, rfl⟩ := h
  have : i = all.length := by have := congrArg List.length hl; simp at this; omega
  subst this
  exact ⟨fun _ h => h, ⟨fun _ => s, fun _ => f, fun _ => aundef, fun _ => made, fun _ => s⟩, rfl, rfl, rfl, rfl, rfl, fun k h1 h2 => by omega⟩
 | n + 1, o :: os, i, f, s, made, eff0, f', s', eff, hl, hi, h => by
  have ho : all[i]? = some o := by rw [← List.head?_drop, hl]; rfl
  have hl' : all.drop (i + 1) = os := by rw [← List.drop_drop, hl]; rfl
  have hlt : i < all.length := (List.getElem?_eq_some_iff.1 ho).1
  have join : ∀ (v : AV) (s2 : St) (made2 : List (Nat × Nat × Nat)) (eff1 : List Nat), (∀ x ∈ eff0, x ∈ eff1) → evD P bs n all os (i + 1) (f.put o.dst v) s2 made2 eff1 = some (f', s', eff) →
    (∀ r : Run, r.S i = s → r.F i = f → r.M i = made → r.V i = v → r.S (i + 1) = s2 → r.F (i + 1) = f.put o.dst v → r.M (i + 1) = made2 → (∀ x ∈ eff1, x ∈ eff) → StepAt P bs (n + 1) all eff r i) →
    (∀ x ∈ eff0, x ∈ eff) ∧ ∃ r : Run, r.S i = s ∧ r.F i = f ∧ r.M i = made ∧ r.S all.length = s' ∧ r.F all.length = f' ∧ ∀ k, i ≤ k → k < all.length → StepAt P bs (n + 1) all eff r k := by
   intro v s2 made2 eff1 hsub he hstep
   obtain ⟨h0, r, h1, h2, h3, h4, h5, h6⟩ := run_of_evD n os (i + 1) _ s2 made2 eff1 f' s' eff hl' hlt he
   refine ⟨fun x hx => h0 x (hsub x hx), ⟨fun k => if k = i then s else r.S k, fun k => if k = i then f else r.F k, fun k => if k = i then v else r.V k, fun k => if k = i then made else r.M k, r.done⟩, by simp, by simp, by simp, ?_, ?_, fun k hk1 hk2 => ?_⟩
   ·simp only; rw [if_neg (by omega)]; exact h4
   ·simp only; rw [if_neg (by omega)]; exact h5
   ·by_cases e : k = i
    ·subst e
     refine hstep _ (by simp) (by simp) (by simp) (by simp) ?_ ?_ ?_ h0
     ·simp only; rw [if_neg (by omega)]; exact h1
     ·simp only; rw [if_neg (by omega)]; exact h2
     ·simp only; rw [if_neg (by omega)]; exact h3
    ·refine (h6 k (by omega) hk2).congr (by omega) ?_ ?_ ?_ ?_ ?_ ?_ ?_ <;> simp only <;> rw [if_neg (by omega)]
  simp only [evD] at h
  split at h
  ·rename_i hw
   split at h
   ·rename_i v he
    refine join v s made eff0 (fun _ h => h) h (fun r e1 e2 e3 e4 e5 e6 e7 e8 => ⟨o, ho, by rw [e6, e2, e4], .inr ⟨by rw [e2]; exact hw, n, none, by omega, ?_, .inl ⟨rfl, by rw [e5, e1], by rw [e7, e3]⟩⟩⟩)
    rw [e1, e2, e3, e4]; exact he
   ·rename_i v s1 he
    split at h
    ·rename_i hlen
     split at h
     ·rename_i hd
      split at h
      ·rename_i hnew
       refine join v _ _ eff0 (fun _ h => h) h (fun r e1 e2 e3 e4 e5 e6 e7 e8 => ⟨o, ho, by rw [e6, e2, e4], .inr ⟨by rw [e2]; exact hw, n, some s1, by omega, ?_, .inr (.inl ⟨s1, rfl, hlen.1, by rw [e1]; exact hlen.2, by rw [e1]; exact hd, by rw [e1]; exact hnew, by rw [e5, e1], by rw [e7, e1, e3]⟩)⟩⟩)
       rw [e1, e2, e3, e4]; exact he
      ·simp at h
     ·rename_i hd
      refine join v _ _ (i :: eff0) (fun _ h => List.mem_cons_of_mem _ h) h (fun r e1 e2 e3 e4 e5 e6 e7 e8 => ⟨o, ho, by rw [e6, e2, e4], .inr ⟨by rw [e2]; exact hw, n, some s1, by omega, ?_, .inr (.inr ⟨s1, rfl, hlen.1, by rw [e1]; exact hlen.2, by rw [e5, e1], by rw [e7, e3], e8 i (by simp)⟩)⟩⟩)
      rw [e1, e2, e3, e4]; exact he
    ·simp at h
   ·simp at h
  ·rename_i hw
   exact join aundef s made eff0 (fun _ h => h) h (fun r e1 e2 e3 e4 e5 e6 e7 e8 => ⟨o, ho, by rw [e6, e2, e4], .inl ⟨by rw [e2]; simpa using hw, e4, by rw [e5, e1], by rw [e7, e3]⟩⟩)
theorem hideIn_length (lo hi : Nat) : ∀ (l : List AO) (k : Nat), (hide.hideIn lo hi k l).length = l.length
 | [], k => rfl
 | x :: l, k => by simp [hide.hideIn, hideIn_length lo hi l]
theorem hideIn_get (lo hi : Nat) : ∀ (l : List AO) (k i : Nat), (hide.hideIn lo hi k l)[i]? = (l[i]?).map fun x => if lo ≤ k - i ∧ k - i < hi then .dead else x
 | [], k, i => by simp [hide.hideIn]
 | x :: l, k, 0 => by simp [hide.hideIn]
 | x :: l, k, i + 1 => by
  simp only [hide.hideIn, List.getElem?_cons_succ]
  rw [hideIn_get lo hi l (k - 1) i, show k - 1 - i = k - (i + 1) by omega]
theorem hide_n (bs : List Nat) (i : Nat) : ∀ (l : List (Nat × Nat × Nat)) (s : St), (hide bs i s l).n = s.n ∧ (hide bs i s l).dirty = s.dirty ∧ ((hide bs i s l).h.length = s.h.length)
 | [], s => ⟨rfl, rfl, rfl⟩
 | (j, lo, hi) :: l, s => by
  simp only [hide]
  split
  ·exact hide_n bs i l s
  ·obtain ⟨h1, h2, h3⟩ := hide_n bs i l { s with h := hide.hideIn lo hi (s.n - 1) s.h }
   exact ⟨h1, h2, by rw [h3]; exact hideIn_length lo hi _ _⟩
theorem hide_look (bs : List Nat) (i : Nat) : ∀ (l : List (Nat × Nat × Nat)) (s : St) (b : Nat) (o : AO), (hide bs i s l).look b = some o → s.look b = some o ∧ ∀ e ∈ l, tied bs e.1 i = false → ¬ (e.2.1 ≤ b ∧ b < e.2.2)
 | [], s, b, o, h => ⟨h, fun e he => by simp at he⟩
 | (j, lo, hi) :: l, s, b, o, h => by
  simp only [hide] at h
  split at h
  ·rename_i ht
   obtain ⟨h1, h2⟩ := hide_look bs i l s b o h
   refine ⟨h1, fun e he hf => ?_⟩
   rcases List.mem_cons.1 he with e1 | e1
   ·subst e1; rw [ht] at hf; cases hf
   ·exact h2 e e1 hf
  ·rename_i ht
   obtain ⟨h1, h2⟩ := hide_look bs i l { s with h := hide.hideIn lo hi (s.n - 1) s.h } b o h
   have hlt := St.look_lt h1
   have hg := St.get_of_look h1
   simp only [St.get_def] at hg
   rw [if_pos hlt, hideIn_get] at hg
   cases hx : s.h[s.n - 1 - b]? with
   | none => rw [hx] at hg; simp at hg
   | some x =>
    rw [hx] at hg
    simp only [Option.map_some, Option.some.injEq] at hg
    have hlt' : b < s.n := hlt
    have hb : s.n - 1 - (s.n - 1 - b) = b := by omega
    rw [hb] at hg
    split at hg
    ·subst hg; exact absurd h1 (St.look_live _ _)
    ·rename_i hne
     subst hg
     have hs : s.look b = some x := by
      refine St.look_of_get ?_ (fun e => St.look_live _ b (e ▸ h1))
      simp only [St.get_def]; rw [if_pos hlt', hx]
     refine ⟨hs, fun e he hf => ?_⟩
     rcases List.mem_cons.1 he with e1 | e1
     ·subst e1; exact hne
     ·exact h2 e e1 hf
theorem hide_all (bs : List Nat) (i : Nat) : ∀ (l : List (Nat × Nat × Nat)) (s : St), (∀ e ∈ l, tied bs e.1 i = true) → hide bs i s l = s
 | [], s, _ => rfl
 | (j, lo, hi) :: l, s, h => by
  simp only [hide]
  have := h (j, lo, hi) (by simp)
  rw [if_pos this]
  exact hide_all bs i l s (fun e he => h e (by simp [he]))
theorem grown_get {s s1 : St} (hk : s.ok) (h1 : s1.h.length = s1.n) (hn : s.n ≤ s1.n) (d : Nat) (b : Nat) : (St.mk s1.n (s1.h.take (s1.n - s.n) ++ s.h) d).get b = if b < s.n then s.get b else s1.get b := by
 unfold St.ok at hk
 simp only [St.get_def]
 by_cases hb : b < s1.n
 ·rw [if_pos hb]
  by_cases hb2 : b < s.n
  ·rw [if_pos hb2, if_pos hb2, List.getElem?_append_right (by simp; omega)]
   congr 1; simp; omega
  ·rw [if_neg hb2, if_pos hb, List.getElem?_append_left (by simp; omega), List.getElem?_take, if_pos (by omega)]
 ·rw [if_neg hb]
  have : ¬ b < s.n := by omega
  rw [if_neg this, if_neg hb]
theorem newOk_get : ∀ {l : List AO} {n : Nat}, newOk n l = true → ∀ x ∈ l, ∀ cs e op w sp f z, x = .row cs e op w sp f z → w = true ∧ n ≤ f
 | [], n, _, x, hx => by simp at hx
 | y :: l, n, h, x, hx => by
  intro cs e op w sp f z e1
  rcases List.mem_cons.1 hx with e2 | e2
  ·subst e2; subst e1
   simp only [newOk, Bool.and_eq_true, decide_eq_true_eq] at h
   exact h.1
  ·refine newOk_get (l := l) ?_ x e2 cs e op w sp f z e1
   cases y <;> simp only [newOk, Bool.and_eq_true] at h <;> first | exact h | exact h.2
end Go.Vm
