/-
 Part of the proof that the small machine's runs stand for the program's (VwRules7). No conditions beyond those that its theorems name.
-/
import Derived.Test.YtbcjncoajilijaaVwRules6
namespace Go.Vm2
open Go Go.Vm
set_option linter.unusedVariables false
set_option linter.unusedSectionVars false
variable [Facts] [Val] [Sound] {P : Program} {tt : TT} {c : Px} {ν : Nu}
def plainO : Ob → Bool
 | .arr _ .own _ => true
 | .arr _ .grow _ => true
 | .cells cs => namelesss cs
 | _ => false
theorem plainO_own : ∀ {o : Ob}, plainO o = true → o.own = true
 | .arr _ .own _, _ => rfl
 | .arr _ .grow _, _ => rfl
 | .cells _, _ => rfl
 | .arr _ .rd _, h => by cases h
 | .arr _ .ro _, h => by cases h
theorem plainO_held {n n' : Nat} {ν ν' : Nu} {x y : Nat} {g : Nat → Option AO} : ∀ {o : Ob}, plainO o = true → ν y = ν' x → Held n' ν' x o g → Held n ν y o g
 | .arr ks m a, _, e, hh => by
  obtain ⟨h0, hh⟩ := hh
  refine ⟨h0, ?_⟩
  rw [e]; exact hh
 | .cells cs, h, e, hh => by
  obtain ⟨B, as, t, z, h1, h2, h3⟩ := hh
  exact ⟨B, as, t, z, by rw [e]; exact h1, h2, namelesss_cv h h3⟩
def mutNew (θ : Th) (l' : List (Nat × Ob)) : List (Nat × Ob) → Option (List (Nat × Ob))
 | [] => some []
 | (x, o) :: l => match o.own with
  | true => match look θ x with
   | some (some y) => match look l' x with
    | some o' => match plainO o' with
     | true => match mutNew θ l' l with
      | some L => some ((y, o') :: L)
      | none => none
     | false => none
    | none => none
   | _ => none
  | false => mutNew θ l' l
def mutGe (fz : Nat) (θ : Th) : List (Nat × Ob) → Bool
 | [] => true
 | (x, o) :: l => (!o.own || (match look θ x with | some (some y) => Nat.ble fz y | _ => false)) && mutGe fz θ l
theorem mutGe_mem {fz : Nat} {θ : Th} : ∀ {l : List (Nat × Ob)} {x : Nat} {o : Ob}, mutGe fz θ l = true → (x, o) ∈ l → o.own = true → ∃ y, look θ x = some (some y) ∧ fz ≤ y
 | (x', o') :: l, x, o, h, hm, ho => by
  simp only [mutGe, Bool.and_eq_true, Bool.or_eq_true] at h
  rcases List.mem_cons.1 hm with e | e
  ·cases e
   rcases h.1 with h1 | h1
   ·rw [ho] at h1; cases h1
   ·split at h1
    ·rename_i y hy; exact ⟨y, hy, Nat.le_of_ble_eq_true h1⟩
    ·cases h1
  ·exact mutGe_mem h.2 e ho
theorem mutNew_mem {θ : Th} {l' : List (Nat × Ob)} : ∀ {l L : List (Nat × Ob)}, mutNew θ l' l = some L →
  (∀ x o, (x, o) ∈ l → o.own = true → ∃ y, look θ x = some (some y) ∧ look L y ≠ none) ∧
  (∀ y o', look L y = some o' → ∃ x o, (x, o) ∈ l ∧ o.own = true ∧ look θ x = some (some y) ∧ look l' x = some o' ∧ plainO o' = true)
 | [], L, h => by
  simp only [mutNew, Option.some.injEq] at h; subst h
  exact ⟨fun x o hm => by simp at hm, fun y o' h => by simp [look] at h⟩
 | (x, o) :: l, L, h => by
  simp only [mutNew] at h
  split at h
  ·rename_i ho
   split at h
   ·rename_i y hy
    split at h
    ·rename_i o' hl
     split at h
     ·rename_i hp
      split at h
      ·rename_i L' hL
       simp only [Option.some.injEq] at h; subst h
       obtain ⟨i1, i2⟩ := mutNew_mem hL
       constructor
       ·intro x1 o1 hm ho1
        rcases List.mem_cons.1 hm with e | e
        ·cases e
         exact ⟨y, hy, by rw [look_cons, if_pos rfl]; simp⟩
        ·obtain ⟨y1, k1, k2⟩ := i1 x1 o1 e ho1
         refine ⟨y1, k1, ?_⟩
         rw [look_cons]
         split
         ·simp
         ·exact k2
       ·intro y1 o1 h1
        rw [look_cons] at h1
        split at h1
        ·rename_i e
         simp only [Option.some.injEq] at h1; subst h1; subst e
         exact ⟨x, o, by simp, ho, hy, hl, hp⟩
        ·obtain ⟨x2, o2, k1, k2⟩ := i2 y1 o1 h1
         exact ⟨x2, o2, by simp [k1], k2⟩
      ·cases h
     ·cases h
    ·cases h
   ·cases h
  ·rename_i ho
   obtain ⟨i1, i2⟩ := mutNew_mem h
   constructor
   ·intro x1 o1 hm ho1
    rcases List.mem_cons.1 hm with e | e
    ·cases e; rw [ho] at ho1; cases ho1
    ·exact i1 x1 o1 e ho1
   ·intro y1 o1 h1
    obtain ⟨x2, o2, k1, k2⟩ := i2 y1 o1 h1
    exact ⟨x2, o2, by simp [k1], k2⟩
theorem look_mem {l : List (Nat × Ob)} {x : Nat} {o : Ob} : look l x = some o → (x, o) ∈ l := by
 induction l with
 | nil => intro h; simp [look] at h
 | cons p l ih =>
  obtain ⟨y, q⟩ := p
  intro h
  rw [look_cons] at h
  split at h
  ·rename_i e; simp only [Option.some.injEq] at h; subst h; subst e; simp
  ·exact List.mem_cons_of_mem _ (ih h)
def nodupK : List (Nat × Ob) → Bool
 | [] => true
 | (x, _) :: l => (look l x).isNone && nodupK l
theorem mem_look : ∀ {l : List (Nat × Ob)} {x : Nat} {o : Ob}, nodupK l = true → (x, o) ∈ l → look l x = some o
 | (y, q) :: l, x, o, h, hm => by
  simp only [nodupK, Bool.and_eq_true] at h
  rw [look_cons]
  rcases List.mem_cons.1 hm with e | e
  ·cases e; rw [if_pos rfl]
  ·have k := mem_look h.2 e
   split
   ·rename_i e2
    subst e2
    rw [k] at h; simp at h
   ·exact k
open Classical in
noncomputable def restOf (s : St) (ν0 : Nu) (l0 : List (Nat × Ob)) (b : Nat) : Option AO :=
 if ∃ x o B d, (x, o) ∈ l0 ∧ o.own = true ∧ ν0 x = some (B, d) ∧ fam s B = fam s b then none else s.get b
theorem restOf_some {s : St} {ν0 : Nu} {l0 : List (Nat × Ob)} {b : Nat} (h : ∀ x o B d, (x, o) ∈ l0 → o.own = true → ν0 x = some (B, d) → fam s B ≠ fam s b) : restOf s ν0 l0 b = s.get b := by
 unfold restOf
 rw [if_neg]
 rintro ⟨x, o, B, d, h1, h2, h3, h4⟩
 exact h x o B d h1 h2 h3 h4
theorem restOf_inv {s : St} {ν0 : Nu} {l0 : List (Nat × Ob)} {b : Nat} {q : AO} (h : restOf s ν0 l0 b = some q) : s.get b = some q ∧ ∀ x o B d, (x, o) ∈ l0 → o.own = true → ν0 x = some (B, d) → fam s B ≠ fam s b := by
 unfold restOf at h
 split at h
 ·cases h
 ·rename_i hn
  exact ⟨h, fun x o B d h1 h2 h3 h4 => hn ⟨x, o, B, d, h1, h2, h3, h4⟩⟩
theorem call_mut {fid : FuncId} {args0 args : List V} {n0 : Nat} {l0 : List (Nat × Ob)} {h : H} {Q : V → H → Prop} {K : V → H → Prop} (θ : Th) (hc : SemF P fid args0 ⟨n0, 0, l0⟩ Q)
  (ho : okTh 0 n0 h.nx 0 θ = true) (hns : namesOk n0 l0 = true) (hnd : nodupK l0 = true) (hge : mutGe h.fz θ l0 = true) (hH : sameH θ h.l l0) (ha : sameVs θ args0 args)
  (hK : ∀ v h', Q v h' → ∃ L, mutNew θ h'.l l0 = some L ∧ nameless v = true ∧ K v ⟨h.nx, h.fz, app L h.l⟩) : SemF P fid args h K := by
 refine ⟨fun c ν s as r has => ?_⟩
 let ν0 : Nu := ν.ren 0 n0 θ
 have key : ∀ x o B d, look l0 x = some o → o.live = true → ν0 x = some (B, d) → ∃ y o', look θ x = some (some y) ∧ h.get y = some o' ∧ sameO θ o o' ∧ ν y = some (B, d) := by
  intro x o B d hx hl hB
  rcases sameH_look hH hx with e | ⟨y, o', e1, e2, e3⟩ | ⟨e1, ks, m, a, rfl, e2⟩
  ·subst e; cases hl
  ·exact ⟨y, o', e1, e2, e3, by rw [← (ren_some (ν := ν) ho e1).2.2]; exact hB⟩
  ·have hB' : ν.ren 0 n0 θ x = some (B, d) := hB
   rw [(ren_no (ν := ν) ho e1).2] at hB'; cases hB'
 have wkey : ∀ x o B d, (x, o) ∈ l0 → o.own = true → ν0 x = some (B, d) → ∃ y o', look θ x = some (some y) ∧ h.fz ≤ y ∧ h.get y = some o' ∧ sameO θ o o' ∧ ν y = some (B, d) := by
  intro x o B d hm how hB
  obtain ⟨y, o', k1, k2, k3, k4⟩ := key x o B d (mem_look hnd hm) (own_live _ how) hB
  obtain ⟨y2, j1, j2⟩ := mutGe_mem hge hm how
  rw [k1] at j1; cases j1
  exact ⟨y, o', k1, j2, k2, k3, k4⟩
 let c0 : Px := { c with G := restOf s ν0 l0, p := 0, lo := 0 }
 have R0 : R c0 ν0 ⟨n0, 0, l0⟩ s := by
  refine ⟨r.ok, ?_, fun x o hx => namesOk_look hns hx, ?_, ?_, fun b o hb => (restOf_inv hb).1, r.kin, ?_, r.tc, Nat.zero_le _, Nat.zero_le _, fun _ _ _ _ _ _ => Nat.zero_le _, ?_, r.snap⟩
  ·intro x o hx
   rcases sameH_look hH hx with e | ⟨y, o', e1, e2, e3⟩ | ⟨e1, ks, m, a, rfl, e2⟩
   ·subst e; trivial
   ·exact sameO_ok ho e1 e3 (r.obj y o' e2)
   ·obtain ⟨n1, n2⟩ := nilAC_ok e2
    exact ⟨n1, .inl ⟨(ren_no (ν := ν) ho e1).2, n2⟩⟩
  ·intro x y o o' B B' b b' hxy hx hy hf hown hl hB hB'
   obtain ⟨x2, o2, a1, a0, a2, a3, a4⟩ := wkey x o B b (look_mem hx) hown hB
   obtain ⟨y2, q2, b1, b2, b3, b4⟩ := key y o' B' b' hy hl hB'
   have hne : x2 ≠ y2 := fun e => hxy (okTh_inj ho a1 (e ▸ b1))
   exact r.sep x2 y2 o2 q2 B B' b b' hne a2 b2 a0 (sameO_own a3 hown) (sameO_live b3 hl) a4 b4
  ·intro x o B b b' hx hf hown hB hG
   cases hq : restOf s ν0 l0 b' with
   | none =>
    have hG' : (restOf s ν0 l0 b').isSome = true := hG
    rw [hq] at hG'; cases hG'
   | some q =>
    have hne := (restOf_inv hq).2 x o B b (look_mem hx) hown hB
    exact ⟨fun e => hne (by rw [e]), hne⟩
  ·intro D hD
   obtain ⟨h1, h2, h3, h4⟩ := r.th D hD
   refine ⟨h1, h2, h3, fun x o B b hx hf hown hB => ?_⟩
   obtain ⟨x2, o2, a1, a0, a2, a3, a4⟩ := wkey x o B b (look_mem hx) hown hB
   exact h4 x2 o2 B b a2 a0 (sameO_own a3 hown) a4
  ·intro x B b h2 h3
   have h3' : ν.ren 0 n0 θ x = some (B, b) := h3
   unfold Nu.ren at h3'
   rw [if_neg (Nat.not_lt_zero _), if_pos h2] at h3'
   split at h3'
   ·rename_i y hy
    exact r.blk y B b (okTh_some ho hy).2.1 h3'
   ·cases h3'
 have has2 : Cvs n0 ν0 args0 as := sameVs_ok ho ha has
 obtain ⟨N, a, s', v, h', ν', ⟨os, q1, rfl⟩, q3, q4, q5, q6⟩ := hc.run c0 ν0 s as R0 has2
 obtain ⟨L, w1, w2, w3⟩ := hK v h' q3
 obtain ⟨i1, i2⟩ := mutNew_mem w1
 have hfz' : h'.fz = 0 := q6.fz
 have hν : ∀ x y, look θ x = some (some y) → ν' x = ν y := fun x y e => (q6.same x (ren_some (ν := ν) ho e).1).trans (ren_some (ν := ν) ho e).2.2
 have rest : ∀ z o B d, look L z = none → h.get z = some o → o.live = true → ν z = some (B, d) → restOf s ν0 l0 B = s.get B ∧ (os.getD s).get B = s.get B ∧ fam (os.getD s) B = fam s B := by
  intro z o B d hz hg hl hB
  have e1 : restOf s ν0 l0 B = s.get B := restOf_some fun x ox Bx dx hm hox hBx e => by
   obtain ⟨y, o', a1, a0, a2, a3, a4⟩ := wkey x ox Bx dx hm hox hBx
   obtain ⟨y2, k1, k2⟩ := i1 x ox hm hox
   rw [a1] at k1; cases k1
   have hyz : y ≠ z := fun e => k2 (by rw [e]; exact hz)
   exact (r.sep y z o' o Bx B dx d hyz a2 hg a0 (sameO_own a3 hox) hl a4 hB).2 e
  obtain ⟨q, hq⟩ := (r.obj z o hg).here hl hB
  have e2 : (os.getD s).get B = some q := q4.froz B q (by show restOf s ν0 l0 B = some q; rw [e1, hq])
  exact ⟨e1, by rw [e2, hq], by unfold fam; rw [e2, hq]⟩
 have restG : ∀ b q, c.G b = some q → restOf s ν0 l0 b = some q ∧ (os.getD s).get b = some q ∧ fam (os.getD s) b = fam s b := by
  intro b q hb
  have hs := r.froz b q hb
  have e1 : restOf s ν0 l0 b = s.get b := restOf_some fun x ox Bx dx hm hox hBx e => by
   obtain ⟨y, o', a1, a0, a2, a3, a4⟩ := wkey x ox Bx dx hm hox hBx
   exact (r.gsep y o' Bx dx b a2 a0 (sameO_own a3 hox) a4 (by rw [hb]; rfl)).2 e
  have e2 : (os.getD s).get b = some q := q4.froz b q (by show restOf s ν0 l0 b = some q; rw [e1, hs])
  exact ⟨by rw [e1, hs], e2, by unfold fam; rw [e2, hs]⟩
 have new : ∀ y o', look L y = some o' → ∃ x, look θ x = some (some y) ∧ h'.get x = some o' ∧ plainO o' = true ∧ ν' x = ν y ∧ (∃ o'', h.get y = some o'') := by
  intro y o' hy
  obtain ⟨x, o, k1, k2, k3, k4, k5⟩ := i2 y o' hy
  refine ⟨x, k3, k4, k5, hν x y k3, ?_⟩
  rcases sameH_look hH (mem_look hnd k1) with e | ⟨y2, o2, e1, e2, e3⟩ | ⟨e1, _⟩
  ·subst e; cases k2
  ·rw [k3] at e1; cases e1; exact ⟨o2, e2⟩
  ·rw [k3] at e1; cases e1
 have get : ∀ x o, look (app L h.l) x = some o → look L x = some o ∨ (look L x = none ∧ h.get x = some o) := by
  intro x o hx
  rw [app_eq, look_append] at hx
  cases e : look L x with
  | some q => rw [e] at hx; exact .inl (by simpa using hx)
  | none => rw [e] at hx; exact .inr ⟨rfl, hx⟩
 refine ⟨N, a, os.getD s, v, ⟨h.nx, h.fz, app L h.l⟩, ν, ⟨os, q1, rfl⟩, w3, ?_, nameless_cv w2 q5, ⟨fun _ _ => rfl, Nat.le_refl _, rfl, q6.n, fun x B b h1 h2 => by simp only [] at h2; omega⟩⟩
 refine ⟨q4.ok, ?_, ?_, ?_, ?_, fun b o hb => (restG b o hb).2.1, q4.kin, ?_, q4.tc, r.p_le, Nat.le_trans r.lo_le q6.n, r.new, fun x B b h1 h2 => Nat.lt_of_lt_of_le (r.blk x B b h1 h2) q6.n, q4.snap⟩
 ·intro x o hx
  rcases get x o hx with hx | ⟨hn, hx⟩
  ·obtain ⟨x0, k1, k2, k3, k4, _⟩ := new x o hx
   exact plainO_held k3 k4.symm (q4.obj x0 o k2)
  ·by_cases hl : o.live = true
   ·exact (r.obj x o hx).mono (r.lt x o hx) (fun _ _ => rfl) (Nat.le_refl _) (fun B b hB => (rest x o B b hn hx hl hB).2.1)
   ·cases o <;> first | trivial | exact absurd rfl hl
 ·intro x o hx
  rcases get x o hx with hx | ⟨hn, hx⟩
  ·obtain ⟨x0, k1, k2, k3, k4, o'', k5⟩ := new x o hx
   exact r.lt x o'' k5
  ·exact r.lt x o hx
 ·intro x y o o' B B' b b' hxy hx hy hf hown hl hB hB'
  rcases get x o hx with hx | ⟨hnx, hx⟩
  ·obtain ⟨x0, k1, k2, k3, k4, _⟩ := new x o hx
   rcases get y o' hy with hy | ⟨hny, hy⟩
   ·obtain ⟨y0, j1, j2, j3, j4, _⟩ := new y o' hy
    have hne : x0 ≠ y0 := fun e => hxy (by rw [e, j1] at k1; cases k1; rfl)
    exact q4.sep x0 y0 o o' B B' b b' hne k2 j2 (by rw [hfz']; exact Nat.zero_le _) hown hl (by rw [k4]; exact hB) (by rw [j4]; exact hB')
   ·obtain ⟨q, hq⟩ := (r.obj y o' hy).here hl hB'
    refine q4.gsep x0 o B b B' k2 (by rw [hfz']; exact Nat.zero_le _) hown (by rw [k4]; exact hB) ?_
    show (restOf s ν0 l0 B').isSome = true
    rw [(rest y o' B' b' hny hy hl hB').1, hq]; rfl
  ·rcases get y o' hy with hy | ⟨hny, hy⟩
   ·obtain ⟨y0, j1, j2, j3, j4, _⟩ := new y o' hy
    obtain ⟨q, hq⟩ := (r.obj x o hx).here (own_live _ hown) hB
    obtain ⟨g1, g2⟩ := q4.gsep y0 o' B' b' B j2 (by rw [hfz']; exact Nat.zero_le _) (plainO_own j3) (by rw [j4]; exact hB') (by
     show (restOf s ν0 l0 B).isSome = true
     rw [(rest x o B b hnx hx (own_live _ hown) hB).1, hq]; rfl)
    exact ⟨fun e => g1 e.symm, fun e => g2 e.symm⟩
   ·rw [(rest x o B b hnx hx (own_live _ hown) hB).2.2, (rest y o' B' b' hny hy hl hB').2.2]
    exact r.sep x y o o' B B' b b' hxy hx hy hf hown hl hB hB'
 ·intro x o B b b' hx hf hown hB hG
  cases hb : c.G b' with
  | none => rw [hb] at hG; cases hG
  | some q =>
   obtain ⟨e1, e2, e3⟩ := restG b' q hb
   rcases get x o hx with hx | ⟨hnx, hx⟩
   ·obtain ⟨x0, k1, k2, k3, k4, _⟩ := new x o hx
    exact q4.gsep x0 o B b b' k2 (by rw [hfz']; exact Nat.zero_le _) hown (by rw [k4]; exact hB) (by show (restOf s ν0 l0 b').isSome = true; rw [e1]; rfl)
   ·rw [(rest x o B b hnx hx (own_live _ hown) hB).2.2, e3]
    exact r.gsep x o B b b' hx hf hown hB (by rw [hb]; rfl)
 ·intro D hD
  obtain ⟨h1, h2, h3, h4⟩ := q4.th D hD
  refine ⟨h1, h2, h3, fun x o B b hx hf hown hB => ?_⟩
  rcases get x o hx with hx | ⟨hnx, hx⟩
  ·obtain ⟨x0, k1, k2, k3, k4, _⟩ := new x o hx
   exact h4 x0 o B b k2 (by rw [hfz']; exact Nat.zero_le _) hown (by rw [k4]; exact hB)
  ·rw [(rest x o B b hnx hx (own_live _ hown) hB).2.2]
   exact (r.th D hD).2.2.2 x o B b hx hf hown hB
end Go.Vm2
