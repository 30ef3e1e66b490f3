/-
 Part of the proof that a machine over named lists stands for the program's runs (VmDraw6). No conditions beyond those that its theorems name.
-/
import Derived.Test.YtjljleemknmgoaaVmDraw5
namespace Go.Vm
set_option linter.unusedSectionVars false
variable [Facts] [Val] [Sound]
variable {P : Program} {base : Nat}
section
variable {n : Nat} {ops : Array Oper} {eff : List Nat} {r : Run} {s : St} {f : Fr} {ρ0 : Rho} {a0 : Act} {w0 : World} {m : Nat} {X : Nat → Prop} {a : Act} {w : World} {ρ : Rho} {g : Look}
theorem put_tmps (a : Act) (dst : Option Tmp) (x : Value) (t : Nat) : (a.put dst x).tmps.getD t undef = if dst = some t ∧ t < a.tmps.size then x else a.tmps.getD t undef := by
 cases dst with
 | none => simp [Act.put]
 | some d =>
  simp only [Act.put, Array.getD_eq_getD_getElem?, Array.getElem?_setIfInBounds, Option.some.injEq]
  by_cases e : d = t
  ·subst e
   by_cases h : d < a.tmps.size
   ·simp [h]
   ·simp [h]
  ·simp [e]
theorem put_size (a : Act) (dst : Option Tmp) (x : Value) : (a.put dst x).tmps.size = a.tmps.size ∧ (a.put dst x).defers = a.defers := by
 cases dst <;> simp [Act.put]
theorem Inv.slots (c : Ctx P n ops eff r s f) (hI : Inv ops r base ρ0 s f a0 w0 m X a w ρ g) {i : Nat} {o : Oper} (ho : ops.toList[i]? = some o) {ρ' : Rho} {x : Value} (hle : ρ.le ρ') (hx : conv (res ρ' (r.S (i + 1)).n) (r.V i) = some x) :
  (∀ t, t < f.t.length → (∀ j, j < ops.toList.length → (X j ∨ j = i) → ∀ o, ops.toList[j]? = some o → o.dst ≠ some t) → conv (res ρ' s.n) (f.t.getD t aundef) = some ((a.put o.dst x).tmps.getD t undef)) ∧
  (∀ j, j < ops.toList.length → (X j ∨ j = i) → ∀ o', ops.toList[j]? = some o' → ∀ t, o'.dst = some t → t < f.t.length → conv (res ρ' (r.S (j + 1)).n) (r.V j) = some ((a.put o.dst x).tmps.getD t undef)) := by
 have hi : i < ops.toList.length := (List.getElem?_eq_some_iff.1 ho).1
 constructor
 ·intro t ht hn
  rw [put_tmps, if_neg (fun h => hn i hi (.inr rfl) o ho h.1)]
  exact conv_mono (res_mono hle (Nat.le_refl _)) _ _ (hI.tm0 t ht (fun j hj hXj => hn j hj (.inl hXj)))
 ·intro j hj hXj o' ho' t hd ht
  rw [put_tmps]
  by_cases e : o.dst = some t
  ·have := c.dst_uniq ho ho' e hd
   subst this
   rw [if_pos ⟨e, by rw [hI.size]; exact ht⟩]; exact hx
  ·rw [if_neg (fun h => e h.1)]
   rcases hXj with hXj | hXj
   ·exact conv_mono (res_mono hle (Nat.le_refl _)) _ _ (hI.tm1 j hj hXj o' ho' t hd ht)
   ·subst hXj; rw [ho] at ho'; cases ho'; exact absurd hd e
theorem Inv.next (c : Ctx P n ops eff r s f) (hI : Inv ops r base ρ0 s f a0 w0 m X a w ρ g) {i : Nat} {o : Oper} (ho : ops.toList[i]? = some o) (hX : ¬ X i) (hen : ∀ j, tied (befores [] ops.toList) j i = true → X j)
  (hl : light r i) (hmi : (r.S i).n < (r.S (i + 1)).n → m ≤ i) {x : Value} {w' : World} {ρ' : Rho} {g' : Look} (hx : conv (res ρ' (r.S (i + 1)).n) (r.V i) = some x)
  (hρ : ∀ b, ¬ ((r.S i).n ≤ b ∧ b < (r.S (i + 1)).n) → ρ' b = ρ b) (hg : ∀ b, ¬ ((r.S i).n ≤ b ∧ b < (r.S (i + 1)).n) → g' b = g b)
  (hgn : ∀ b, (r.S i).n ≤ b → b < (r.S (i + 1)).n → g' b = (r.S (i + 1)).look b) (hle : ρ.le ρ')
  (hrel : ∀ k, m ≤ k → k ≤ ops.toList.length → Rel base (res ρ' (r.S k).n) (cut g' (r.S k).n) w')
  (hk : ∀ b q, (r.S i).n ≤ b → b < (r.S (i + 1)).n → g' b = some q → (r.S i).n ≤ q.kinOf b) (hfr : Fram ρ0 s.look w0 ρ' g' w') :
  Inv ops r base ρ0 s f a0 w0 m (fun j => X j ∨ j = i) (a.put o.dst x) w' ρ' g' := by
 have hi : i < ops.toList.length := (List.getElem?_eq_some_iff.1 ho).1
 have hne : ∀ j, j < ops.toList.length → j ≠ i → ∀ b, (r.S j).n ≤ b → b < (r.S (j + 1)).n → ¬ ((r.S i).n ≤ b ∧ b < (r.S (i + 1)).n) := fun j hj hji b h1 h2 h3 => hji (c.same hj hi h1 h2 h3.1 h3.2)
 obtain ⟨ht0, ht1⟩ := hI.slots c ho hle hx
 refine ⟨hI.hm, fun j hj o' ho' => (hI.low j hj o' ho').imp .inl id, ?_, ?_, ?_, ?_, ?_, ?_, hrel, ?_, hfr, ?_, hI.tie, by rw [(put_size a o.dst x).1]; exact hI.size, by rw [(put_size a o.dst x).2]; exact hI.marks, ht0, ht1, ?_⟩
 ·rintro j h1 h2 (h | h)
  ·exact hI.high j h1 h2 h
  ·subst h; exact hl
 ·rintro j k h1 (h | h) h2
  ·exact .inl (hI.closed j k h1 h h2)
  ·subst h; exact .inl (hen k h2)
 ·intro b hb
  rw [hg b (fun h => by have := hmi (by omega); have := c.nle m i this (by omega); omega)]
  exact hI.g1 b hb
 ·rintro j h1 h2 h b h3 h4
  by_cases e : j = i
  ·subst e; exact hgn b h3 h4
  ·rw [hg b (hne j h2 e b h3 h4)]
   exact hI.g2 j h1 h2 (h.resolve_right e) b h3 h4
 ·intro j h1 h2 h b h3 h4
  have e : j ≠ i := fun e => h (.inr e)
  rw [hg b (hne j h2 e b h3 h4), hρ b (hne j h2 e b h3 h4)]
  exact hI.g3 j h1 h2 (fun h' => h (.inl h')) b h3 h4
 ·intro b hb
  have hn := c.nle (i + 1) ops.toList.length (by omega) (Nat.le_refl _)
  rw [hg b (by omega), hρ b (by omega)]
  exact hI.g4 b hb
 ·rintro j h1 h2 h b q h3 h4 h5
  by_cases e : j = i
  ·subst e; exact hk b q h3 h4 h5
  ·rw [hg b (hne j h2 e b h3 h4)] at h5
   exact hI.kinds j h1 h2 (h.resolve_right e) b q h3 h4 h5
 ·intro b hb
  have hn := c.nle 0 i (by omega) (by omega)
  rw [c.s0] at hn
  rw [hρ b (by omega)]; exact hI.ext b hb
 ·rintro j h1 (h | h)
  ·exact hI.keep j h1 h
  ·subst h; exact hl.keepA
theorem Inv.pass (c : Ctx P n ops eff r s f) (hI : Inv ops r base ρ0 s f a0 w0 m X a w ρ g) {i : Nat} {o : Oper} (ho : ops.toList[i]? = some o) (hX : ¬ X i) (hen : ∀ j, tied (befores [] ops.toList) j i = true → X j)
  (hs : r.S (i + 1) = r.S i) {x : Value} (hx : conv (res ρ (r.S i).n) (r.V i) = some x) :
  Inv ops r base ρ0 s f a0 w0 m (fun j => X j ∨ j = i) (a.put o.dst x) w ρ g := by
 refine hI.next c ho hX hen ?_ (fun h => by rw [hs] at h; omega) (by rw [hs]; exact hx) (fun _ _ => rfl) (fun _ _ => rfl) (fun b h1 h2 => by rw [hs] at h2; omega) (Rho.le.refl ρ) hI.rel (fun b q h1 h2 => by rw [hs] at h2; omega) hI.fram
 rw [light, hs]; exact ⟨Nat.le_refl _, rfl, fun _ _ => rfl⟩
theorem Inv.make (c : Ctx P n ops eff r s f) (hI : Inv ops r base ρ0 s f a0 w0 m X a w ρ g) {i : Nat} {o : Oper} (ho : ops.toList[i]? = some o) (hb : loud ops r i o) (hX : ¬ X i) (hen : ∀ j, tied (befores [] ops.toList) j i = true → X j)
  (hl : light r i) {s1 : St} {ρ1 : Rho} {x : Value} {w' : World} (hn1 : s1.n = (r.S (i + 1)).n) (hold : ∀ b, b < (r.S i).n → s1.look b = (sees ops r i).look b) (hnew : ∀ b, (r.S i).n ≤ b → (r.S (i + 1)).look b = s1.look b)
  (hown : ∀ b q, (r.S i).n ≤ b → s1.look b = some q → q.own = true ∧ (r.S i).n ≤ q.kinOf b)
  (o1 : Ext (r.S i).n (res ρ (r.S i).n) ρ1) (o2 : Fresh s1.n ρ1) (o5 : conv ρ1 (r.V i) = some x) (o6 : Rel base ρ1 s1.look w') (o7 : Fram (res ρ (r.S i).n) (sees ops r i).look w ρ1 s1.look w') :
  ∃ ρ' g', Inv ops r base ρ0 s f a0 w0 m (fun j => X j ∨ j = i) (a.put o.dst x) w' ρ' g' := by
 have hi : i < ops.toList.length := (List.getElem?_eq_some_iff.1 ho).1
 obtain ⟨hmi, hlight, hsee, hkin⟩ := c.sight hI ho hb hX hen
 have hn01 := hl.1
 let ρ' : Rho := fun b => if (r.S i).n ≤ b ∧ b < (r.S (i + 1)).n then ρ1 b else ρ b
 let g' : Look := fun b => if (r.S i).n ≤ b ∧ b < (r.S (i + 1)).n then s1.look b else g b
 have eρi : ∀ b, (r.S i).n ≤ b → b < (r.S (i + 1)).n → ρ' b = ρ1 b := fun b h1 h2 => if_pos ⟨h1, h2⟩
 have eρo : ∀ b, ¬ ((r.S i).n ≤ b ∧ b < (r.S (i + 1)).n) → ρ' b = ρ b := fun b h => if_neg h
 have egi : ∀ b, (r.S i).n ≤ b → b < (r.S (i + 1)).n → g' b = s1.look b := fun b h1 h2 => if_pos ⟨h1, h2⟩
 have ego : ∀ b, ¬ ((r.S i).n ≤ b ∧ b < (r.S (i + 1)).n) → g' b = g b := fun b h => if_neg h
 have eρ1 : ∀ b, b < (r.S i).n → ρ1 b = ρ b := fun b h => by rw [o1 b h, res, if_pos h]
 have hle : ρ.le ρ' := by
  intro b y h
  by_cases e : (r.S i).n ≤ b ∧ b < (r.S (i + 1)).n
  ·rw [(hI.g3 i hmi hi hX b e.1 e.2).2] at h; cases h
  ·rw [eρo b e]; exact h
 have hle1 : ∀ k, (r.S (i + 1)).n ≤ k → ρ1.le (res ρ' k) := by
  intro k hk b y h
  have hlt : b < s1.n := by
   rcases Nat.lt_or_ge b s1.n with h' | h'
   ·exact h'
   ·rw [o2 b h'] at h; cases h
  unfold res
  rw [if_pos (by omega)]
  by_cases e : (r.S i).n ≤ b ∧ b < (r.S (i + 1)).n
  ·rw [eρi b e.1 e.2]; exact h
  ·rw [eρo b e, ← eρ1 b (by omega)]; exact h
 have hr1 : (res ρ (r.S i).n).le ρ1 := o1.le (res_fresh _ _)
 have hN := hI.relN
 have calm : ∀ b q, g b = some q → (sees ops r i).look b ≠ some q → ∀ B, blk ρ b = some B → w'.heap[B]? = w.heap[B]? := by
  intro b q hgb hns B hB
  obtain ⟨B', h1, h2, _⟩ := hN.place hgb
  rw [hB] at h1; cases h1
  refine o7.keep B h2 (fun b0 q0 h0 hw0 e => ?_)
  obtain ⟨g0, l0⟩ := hsee b0 q0 h0
  refine hN.apart b0 b q0 q g0 hgb hw0 (hkin b q b0 q0 hgb hns h0) ?_
  rw [hB, ← e]
  unfold blk res; rw [if_pos l0]
 have oldHeld : ∀ k, m ≤ k → k ≤ ops.toList.length → ∀ b q, b < (r.S k).n → g b = some q → Held base (res ρ (r.S k).n) b q w' ∨ (b < (r.S i).n ∧ Held base (res ρ (r.S i).n) b q w') := by
  intro k h1 h2 b q hb hgb
  by_cases hs : (sees ops r i).look b = some q
  ·right
   have hlt := (hsee b q hs).2
   refine ⟨hlt, Held.back ((hI.rel i hmi (by omega)).obj b q (by unfold cut; rw [if_pos hlt]; exact hgb)) (o6.obj b q (by rw [hold b hlt]; exact hs)) hr1⟩
  ·left
   refine ((hI.rel k h1 h2).obj b q (by unfold cut; rw [if_pos hb]; exact hgb)).mono (Rho.le.refl _) (fun B hB => calm b q hgb hs B ?_)
   unfold blk res at hB; rw [if_pos hb] at hB; exact hB
 have oldHeld2 : ∀ k, m ≤ k → k ≤ ops.toList.length → ∀ b q, b < (r.S k).n → g b = some q → Held base (res ρ (r.S k).n) b q w' := by
  intro k h1 h2 b q hb hgb
  by_cases hs : (sees ops r i).look b = some q
  ·have hlt := (hsee b q hs).2
   rcases Nat.lt_or_ge k i with h | h
   ·exact Held.back ((hI.rel k h1 h2).obj b q (by unfold cut; rw [if_pos hb]; exact hgb)) (o6.obj b q (by rw [hold b hlt]; exact hs)) ((res_mono (Rho.le.refl ρ) (c.nle k i (by omega) (by omega))).trans hr1)
   ·exact (Held.back ((hI.rel i hmi (by omega)).obj b q (by unfold cut; rw [if_pos hlt]; exact hgb)) (o6.obj b q (by rw [hold b hlt]; exact hs)) hr1).mono (res_mono (Rho.le.refl ρ) (c.nle i k h h2)) (fun _ _ => rfl)
  ·refine ((hI.rel k h1 h2).obj b q (by unfold cut; rw [if_pos hb]; exact hgb)).mono (Rho.le.refl _) (fun B hB => calm b q hgb hs B ?_)
   unfold blk res at hB; rw [if_pos hb] at hB; exact hB
 have later : ∀ b q, g b = some q → (r.S (i + 1)).n ≤ b → (r.S (i + 1)).n ≤ q.kinOf b := by
  intro b q hgb hbn
  rcases hI.who c hgb with h | ⟨j, j1, j2, j3, j4, j5, j6, j7⟩
  ·have := c.nle m i hmi (by omega); omega
  ·have : i + 1 ≤ j := by
    rcases Nat.lt_or_ge j (i + 1) with h | h
    ·have := c.nle (j + 1) (i + 1) (by omega) (by omega); omega
    ·exact h
   have := c.nle (i + 1) j this (by omega); omega
 have newApart : ∀ b q b' q', (r.S i).n ≤ b → b < (r.S (i + 1)).n → s1.look b = some q → ¬ ((r.S i).n ≤ b' ∧ b' < (r.S (i + 1)).n) → g b' = some q' → blk ρ1 b ≠ blk ρ b' := by
  intro b q b' q' h1 h2 hq h3 hq' e
  obtain ⟨hw, hkb⟩ := hown b q h1 hq
  obtain ⟨B, e1, e2, _⟩ := o6.place hq
  obtain ⟨B', f1, f2, _⟩ := hN.place hq'
  rw [e1, f1] at e; cases e
  rcases o7.img b q B hq hw e1 with h4 | ⟨b0, q0, h4, h5, h6⟩
  ·omega
  ·obtain ⟨g0, l0⟩ := hsee b0 q0 h4
   have e3 : blk ρ b0 = some B := by unfold blk res at h6; rw [if_pos l0] at h6; exact h6
   by_cases hs : (sees ops r i).look b' = some q'
   ·have hlt := (hsee b' q' hs).2
    have := o6.apart b b' q q' hq (by rw [hold b' hlt]; exact hs) hw (fun e => by have := hN.kin b' q' hq'; omega)
    refine this ?_
    rw [e1]; unfold blk at f1 ⊢; rw [eρ1 b' hlt]; exact f1.symm
   ·exact hN.apart b0 b' q0 q' g0 hq' h5 (hkin b' q' b0 q0 hq' hs h4) (by rw [e3, f1])
 have hrel : ∀ k, m ≤ k → k ≤ ops.toList.length → Rel base (res ρ' (r.S k).n) (cut g' (r.S k).n) w' := by
  intro k h1 h2
  have hmono : (res ρ (r.S k).n).le (res ρ' (r.S k).n) := res_mono hle (Nat.le_refl _)
  have cases2 : ∀ b q, cut g' (r.S k).n b = some q → b < (r.S k).n ∧ ((((r.S i).n ≤ b ∧ b < (r.S (i + 1)).n) ∧ (r.S (i + 1)).n ≤ (r.S k).n ∧ s1.look b = some q ∧ blk (res ρ' (r.S k).n) b = blk ρ1 b) ∨ (¬ ((r.S i).n ≤ b ∧ b < (r.S (i + 1)).n) ∧ g b = some q ∧ blk (res ρ' (r.S k).n) b = blk ρ b)) := by
   intro b q h
   unfold cut at h
   split at h
   ·rename_i hb
    refine ⟨hb, ?_⟩
    by_cases e : (r.S i).n ≤ b ∧ b < (r.S (i + 1)).n
    ·left
     rw [egi b e.1 e.2] at h
     refine ⟨e, ?_, h, by unfold blk res; rw [if_pos hb, eρi b e.1 e.2]⟩
     rcases Nat.lt_or_ge i k with h' | h'
     ·exact c.nle (i + 1) k h' h2
     ·have := c.nle k i h' (by omega); omega
    ·right
     rw [ego b e] at h
     exact ⟨e, h, by unfold blk res; rw [if_pos hb, eρo b e]⟩
   ·cases h
  refine ⟨?_, ?_, ?_, ?_, ?_, o6.base_le⟩
  ·intro b q h
   obtain ⟨hb, ⟨e, hk, hq, _⟩ | ⟨e, hq, _⟩⟩ := cases2 b q h
   ·exact (o6.obj b q hq).mono (hle1 _ hk) (fun _ _ => rfl)
   ·exact (oldHeld2 k h1 h2 b q hb hq).mono hmono (fun _ _ => rfl)
  ·intro b b' q q' h h' hw hne
   obtain ⟨hb, ⟨e, hk, hq, hB⟩ | ⟨e, hq, hB⟩⟩ := cases2 b q h
   ·obtain ⟨hb', ⟨e', hk', hq', hB'⟩ | ⟨e', hq', hB'⟩⟩ := cases2 b' q' h'
    ·rw [hB, hB']; exact o6.apart b b' q q' hq hq' hw hne
    ·rw [hB, hB']; exact newApart b q b' q' e.1 e.2 hq e' hq'
   ·obtain ⟨hb', ⟨e', hk', hq', hB'⟩ | ⟨e', hq', hB'⟩⟩ := cases2 b' q' h'
    ·rw [hB, hB']; exact fun h => newApart b' q' b q e'.1 e'.2 hq' e hq h.symm
    ·rw [hB, hB']; exact hN.apart b b' q q' hq hq' hw hne
  ·intro b q h
   obtain ⟨hb, ⟨e, hk, hq, hB⟩ | ⟨e, hq, hB⟩⟩ := cases2 b q h
   ·exact o6.kin b q hq
   ·exact hN.kin b q hq
  ·intro b q h hs b' q' h' hne
   obtain ⟨hb, ⟨e, hk, hq, hB⟩ | ⟨e, hq, hB⟩⟩ := cases2 b q h
   ·obtain ⟨hb', ⟨e', hk', hq', hB'⟩ | ⟨e', hq', hB'⟩⟩ := cases2 b' q' h'
    ·exact o6.alone b q hq hs b' q' hq' hne
    ·intro ek
     rcases Nat.lt_or_ge b' (r.S (i + 1)).n with h3 | h3
     ·have := hN.kin b' q' hq'; omega
     ·have := later b' q' hq' h3; omega
   ·obtain ⟨hb', ⟨e', hk', hq', hB'⟩ | ⟨e', hq', hB'⟩⟩ := cases2 b' q' h'
    ·intro ek
     have h3 := (hown b' q' e'.1 hq').2
     have h4 := o6.kin b' q' hq'
     omega
    ·exact hN.alone b q hq hs b' q' hq' hne
  ·intro b h
   obtain ⟨hb, ⟨e, hk, hq, hB⟩ | ⟨e, hq, hB⟩⟩ := cases2 b .dead h
   ·exact St.look_live _ b hq
   ·exact hN.live b hq
 refine ⟨ρ', g', hI.next c ho hX hen hl (fun _ => hmi) (conv_mono (hle1 _ (Nat.le_refl _)) _ _ o5) eρo ego (fun b q1 q2 => by rw [egi b q1 q2, hnew b q1]) hle hrel (fun b q q1 q2 q3 => (hown b q q1 (by rw [← egi b q1 q2]; exact q3)).2) (hI.fram.trans ⟨o7.os, o7.tape, o7.output, o7.size, ?_, ?_⟩)⟩
 ·intro k hk hno
  refine o7.keep k hk (fun b0 q0 h0 hw0 e => ?_)
  obtain ⟨g0, l0⟩ := hsee b0 q0 h0
  exact hno b0 q0 g0 hw0 (by unfold blk res at e; rw [if_pos l0] at e; exact e)
 ·intro b q B hq hw hB
  by_cases e : (r.S i).n ≤ b ∧ b < (r.S (i + 1)).n
  ·rw [egi b e.1 e.2] at hq
   have hB' : blk ρ1 b = some B := by unfold blk at hB ⊢; rw [eρi b e.1 e.2] at hB; exact hB
   rcases o7.img b q B hq hw hB' with h | ⟨b0, q0, h4, h5, h6⟩
   ·exact .inl h
   ·obtain ⟨g0, l0⟩ := hsee b0 q0 h4
    exact .inr ⟨b0, q0, g0, h5, by unfold blk res at h6; rw [if_pos l0] at h6; exact h6⟩
  ·rw [ego b e] at hq
   exact .inr ⟨b, q, hq, hw, by unfold blk at hB ⊢; rw [eρo b e] at hB; exact hB⟩
theorem Inv.write (c : Ctx P n ops eff r s f) (hI : Inv ops r base ρ0 s f a0 w0 m X a w ρ g) {i : Nat} {o : Oper} (ho : ops.toList[i]? = some o) (hb : loud ops r i o) (hX : ¬ X i) (hen : ∀ j, tied (befores [] ops.toList) j i = true → X j)
  (hie : i ∈ eff) {s1 : St} {ρ1 : Rho} {x : Value} {w' : World} (hs1 : r.S (i + 1) = { s1 with dirty := min (r.S i).dirty s1.dirty }) (hn1 : (r.S i).n ≤ s1.n)
  (o1 : Ext (r.S i).n (res ρ (r.S i).n) ρ1) (o2 : Fresh s1.n ρ1) (o5 : conv ρ1 (r.V i) = some x) (o6 : Rel base ρ1 s1.look w') (o7 : Fram (res ρ (r.S i).n) (sees ops r i).look w ρ1 s1.look w') (o8 : KeepA (sees ops r i) s1) :
  ∃ ρ' g', Inv ops r base ρ0 s f a0 w0 (i + 1) (fun j => X j ∨ j = i) (a.put o.dst x) w' ρ' g' := by
 have hi : i < ops.toList.length := (List.getElem?_eq_some_iff.1 ho).1
 obtain ⟨hmi, hlight, hsee, hkin⟩ := c.sight hI ho hb hX hen
 have hn : (r.S (i + 1)).n = s1.n := by rw [hs1]
 have hlook : ∀ b, (r.S (i + 1)).look b = s1.look b := fun b => by rw [hs1]; rfl
 have hempty : ∀ j, i < j → j < ops.toList.length → X j → r.S (j + 1) = r.S j := fun j hij hj hXj => by
  have hq : ops.toList[j]? = some ops.toList[j] := List.getElem?_eq_getElem hj
  cases hbq : blind ops.toList[j] with
  | true => exact c.blind_next hq hbq
  | false =>
   by_cases hf : free ops r j
   ·exact c.free_next hf
   ·exact absurd (hI.closed j i hj hXj ((c.effOk hie hq ⟨hbq, hf⟩).2 hij)) hX
 have hnone : ∀ b, (r.S i).n ≤ b → ρ b = none := by
  intro b hbn
  rcases Nat.lt_or_ge b (r.S ops.toList.length).n with h | h
  ·obtain ⟨j, j1, j2, j3, j4⟩ := c.whose _ i (by omega) (Nat.le_refl _) hbn h
   by_cases hXj : X j
   ·have hij : i < j := by
     rcases Nat.lt_or_ge i j with h' | h'
     ·exact h'
     ·have : j = i := by omega
      subst this; exact absurd hXj hX
    have := hempty j hij j2 hXj
    rw [this] at j4; omega
   ·exact (hI.g3 j (by omega) j2 hXj b j3 j4).2
  ·exact (hI.g4 b h).2
 have hres : res ρ (r.S i).n = ρ := res_all hnone
 rw [hres] at o1 o7
 have hle : ρ.le ρ1 := o1.le hnone
 have hfr1 : ∀ k, i + 1 ≤ k → k ≤ ops.toList.length → res ρ1 (r.S k).n = ρ1 := fun k h1 h2 => by
  have h3 := c.nle (i + 1) k h1 h2
  exact res_all (fun b hb => o2 b (by omega))
 obtain ⟨ht0, ht1⟩ := hI.slots c ho hle (x := x) (by rw [hfr1 (i + 1) (Nat.le_refl _) hi]; exact o5)
 refine ⟨ρ1, s1.look, hi, ?_, ?_, ?_, fun b _ => (hlook b).symm, ?_, ?_, ?_, ?_, ?_, hI.fram.trans ⟨o7.os, o7.tape, o7.output, o7.size, ?_, ?_⟩, ?_, ?_, by rw [(put_size a o.dst x).1]; exact hI.size, by rw [(put_size a o.dst x).2]; exact hI.marks, ht0, ht1, ?_⟩
 ·intro j hj q hq
  by_cases e : j = i
  ·exact .inl (.inr e)
  ·by_cases hbq : loud ops r j q
   ·exact .inl (.inl (hen j ((c.effOk hie hq hbq).1 (by omega))))
   ·exact .inr hbq
 ·rintro j h1 h2 (h | h)
  ·have := hempty j (by omega) h2 h
   rw [light, this]; exact ⟨Nat.le_refl _, rfl, fun _ _ => rfl⟩
  ·omega
 ·rintro j k h1 (h | h) h2
  ·exact .inl (hI.closed j k h1 h h2)
  ·subst h; exact .inl (hen k h2)
 ·rintro j h1 h2 (h | h) b h3 h4
  ·have := hempty j (by omega) h2 h
   rw [this] at h4; omega
  ·omega
 ·intro j h1 h2 h b h3 h4
  have := c.nle (i + 1) j h1 (by omega)
  exact ⟨St.look_none (by omega), o2 b (by omega)⟩
 ·intro b hb
  have := c.nle (i + 1) ops.toList.length hi (Nat.le_refl _)
  exact ⟨St.look_none (by omega), o2 b (by omega)⟩
 ·intro k h1 h2
  rw [hfr1 k h1 h2]
  refine o6.less (fun b q h => ?_)
  unfold cut at h
  split at h
  ·exact h
  ·cases h
 ·rintro j h1 h2 (h | h) b q h3 h4
  ·have := hempty j (by omega) h2 h
   rw [this] at h4; omega
  ·omega
 ·intro k hk hno
  refine o7.keep k hk (fun b0 q0 h0 hw0 e => ?_)
  exact hno b0 q0 (hsee b0 q0 h0).1 hw0 e
 ·intro b q B hq hw hB
  rcases o7.img b q B hq hw hB with h | ⟨b0, q0, h4, h5, h6⟩
  ·exact .inl h
  ·exact .inr ⟨b0, q0, (hsee b0 q0 h4).1, h5, h6⟩
 ·intro b hb
  have := c.nle 0 i (by omega) (by omega)
  rw [c.s0] at this
  rw [o1 b (by omega)]; exact hI.ext b hb
 ·intro j k oj ok hj hk hoj hok hbj hbk
  have h1 := (c.effOk hie hok hbk).2 (by omega)
  by_cases e : j = i
  ·subst e; exact h1
  ·exact tied_trans c.edges ((c.effOk hie hoj hbj).1 (by omega)) k (List.getElem?_eq_some_iff.1 hok).1 h1
 ·rintro j h1 (h | h)
  ·exact hI.keep j h1 h
  ·subst h
   rw [hs1]
   refine ⟨Nat.min_le_left _ _, fun b hb1 hb2 => ?_⟩
   have hb1' : b < min (r.S j).dirty s1.dirty := hb1
   have h3 := o8.2 b (by omega) (by
    have : (sees ops r j).n = (r.S j).n := (hide_n _ _ _ _).1
    omega)
   have h4 : (sees ops r j).get b = (r.S j).get b := by
    unfold sees
    rw [hide_get]
    ·rfl
    ·intro e he hf hin
     obtain ⟨e1, e2, e3, oe, e4, e5⟩ := c.made j (by omega) e he
     rw [(c.effOk hie e4 e5).1 e1] at hf; cases hf
   exact h3.trans h4
end
end Go.Vm
