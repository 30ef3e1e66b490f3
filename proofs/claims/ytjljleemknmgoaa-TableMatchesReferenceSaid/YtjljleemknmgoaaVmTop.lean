/-
 Part of the proof that a machine over named lists stands for the program's runs (VmTop). No conditions beyond those that its theorems name.
-/
import Derived.Test.YtjljleemknmgoaaVmDraw7
namespace Go.Vm
set_option linter.unusedSectionVars false
variable [Facts] [Val] [Sound]
variable {P : Program} {base : Nat} [Trues P]
theorem effOk_of {ops : Array Oper} {r : Run} {eff : List Nat} (h : effOk ops.toList (befores [] ops.toList) eff = true) : ∀ i ∈ eff, ∀ (j : Nat) (q : Oper), ops.toList[j]? = some q → loud ops r j q → (j < i → tied (befores [] ops.toList) j i = true) ∧ (i < j → tied (befores [] ops.toList) i j = true) := by
 intro i hi j q hj hb
 unfold Vm.effOk at h
 rw [List.all_eq_true] at h
 have h1 := h i hi
 rw [List.all_eq_true] at h1
 have h2 := h1 (q, j) (by rw [List.mem_zipIdx_iff_getElem?]; simpa using hj)
 simp only [hb.1, Bool.false_eq_true, if_false] at h2
 constructor
 ·intro e; rw [if_neg (by omega), if_pos e] at h2; exact h2
 ·intro e; rw [if_neg (by omega), if_neg (by omega)] at h2; exact h2
section
variable {n : Nat} {ops : Array Oper} {eff : List Nat} {r : Run} {s : St} {f : Fr}
theorem frame_keep (h6 : ∀ k, k < ops.toList.length → StepAt P (befores [] ops.toList) n ops.toList eff r k) {j t : Nat} : ∀ K, j ≤ K → K ≤ ops.toList.length → (∀ k q, j ≤ k → ops.toList[k]? = some q → q.dst ≠ some t) → (r.F K).t[t]? = (r.F j).t[t]? := by
 intro K
 induction K with
 | zero => intro h _ _; have : j = 0 := by omega
           subst this; rfl
 | succ K ih =>
  intro h1 h2 h3
  by_cases e : j = K + 1
  ·subst e; rfl
  ·obtain ⟨o, ho, hF, _⟩ := h6 K (by omega)
   have hd := h3 K o (by omega) ho
   rw [hF, ← ih (by omega) (by omega) h3]
   cases hdst : o.dst with
   | none => rfl
   | some d =>
    have : d ≠ t := fun e => hd (by rw [hdst, e])
    simp [Fr.put, setF_eq, List.getElem?_set_ne this]
theorem lastSet_spec {all : List Oper} {j t : Nat} (h : lastSet all j t = true) : ∀ k q, j ≤ k → all[k]? = some q → q.dst ≠ some t := by
 intro k q hk hq e
 unfold lastSet at h
 rw [List.all_eq_true] at h
 have := h (q, k) (by rw [List.mem_zipIdx_iff_getElem?]; simpa using hq)
 simp only [e, beq_self_eq_true, Bool.not_true, Bool.false_or, decide_eq_true_eq] at this
 omega
theorem evP_store {m : Nat} {o : Oper} {f : Fr} {s s1 : St} {v : AV} {ty : TypeId} {x y : Operand} (ho : o.op = .store ty x y) (h : evP P m o f s = some (v, some s1)) : ∃ a u, aEval f.t x = some a ∧ storeA P s ty a u = some s1 := by
 cases m with
 | zero => simp [evP] at h
 | succ m =>
  simp only [evP, ho, prim] at h
  split at h
  ·rename_i a u ha hu
   cases hl : storeA P s ty a u with
   | none => rw [hl] at h; simp at h
   | some q => rw [hl] at h; simp at h; exact ⟨a, u, ha, by rw [hl, h.2]⟩
  ·simp at h
theorem set_other {s : St} {b B : Nat} {q : AO} (hb : b ≠ B) (hB : B < s.n) : (s.set B q).get b = s.get b := by
 simp only [St.set_def, St.get_def]
 split
 ·rw [List.getElem?_set_ne (by omega)]
 ·rfl
theorem St.get_below {s : St} {b : Nat} {o : AO} (h : s.get b = some o) : b < s.n := by
 rw [St.get_def] at h
 split at h
 ·assumption
 ·cases h
theorem St.get_set_at {s : St} (x : AO) (b c : Nat) (hk : s.ok) (hb : b < s.n) : (s.set b x).get c = if c = b then some x else s.get c := by
 simp only [St.set_def, St.get_def]
 split
 ·rename_i hc
  rw [List.getElem?_set]
  split
  ·rename_i he
   have : c = b := by omega
   subst this
   unfold St.ok at hk
   have h1 : s.n - 1 - c < s.h.length := by omega
   simp [h1]
  ·rename_i hne
   have : ¬ c = b := fun e => hne (by rw [e])
   simp [this]
 ·rename_i hc
  have : ¬ c = b := by omega
  simp [this]
theorem inB_mem {b k : Nat} : ∀ {Bs : List (Nat × Nat)}, inB b k Bs = false → ∀ p ∈ Bs, b ≠ p.1 ∧ k ≠ p.2
 | [], _, p, hp => by cases hp
 | (B, f) :: Bs, h, p, hp => by
  simp only [inB, Bool.or_eq_false_iff] at h
  rcases List.mem_cons.1 hp with e | e
  ·subst e
   refine ⟨fun e => ?_, fun e => ?_⟩
   ·have h1 := h.1.1
    rw [show b = B from e, Nat.beq_refl] at h1; cases h1
   ·have h1 := h.1.2
    rw [show k = f from e, Nat.beq_refl] at h1; cases h1
  ·exact inB_mem h.2 p e
theorem tieAll_spec {bs : List Nat} {j : Nat} : ∀ {is : List Nat}, tieAll bs j is = true → ∀ i ∈ is, (if j = i then true else if j < i then tied bs j i else tied bs i j) = true
 | [], _, i, hi => by cases hi
 | i0 :: is, h, i, hi => by
  simp only [tieAll, Bool.and_eq_true] at h
  rcases List.mem_cons.1 hi with e | e
  ·subst e; exact h.1
  ·exact tieAll_spec h.2 i e
theorem softBs_spec {all : List Oper} {f' : Fr} {s : St} : ∀ {is : List Nat} {Bs : List (Nat × Nat)}, softBs all f' s is = some Bs → ∀ i ∈ is, ∃ o B, all[i]? = some o ∧ softB all f' s i o = some B ∧ B ∈ Bs
 | [], Bs, _, i, hi => by cases hi
 | i0 :: is, Bs, h, i, hi => by
  simp only [softBs] at h
  split at h
  ·rename_i o ho
   split at h
   ·rename_i B hB
    split at h
    ·rename_i Bs' hBs'
     simp at h; subst h
     rcases List.mem_cons.1 hi with e | e
     ·subst e; exact ⟨o, B, ho, hB, by simp⟩
     ·obtain ⟨o2, B2, k1, k2, k3⟩ := softBs_spec hBs' i e
      exact ⟨o2, B2, k1, k2, by simp [k3]⟩
    ·cases h
   ·cases h
  ·cases h
theorem softB_inv {all : List Oper} {f' : Fr} {s : St} {i : Nat} {o : Oper} {B : Nat × Nat} (h : softB all f' s i o = some B) : ∃ ty t x off cs e op w sp z, o.op = .store ty (.tmp t) x ∧ lastSet all i t = true ∧ f'.t[t]? = some (.ptr B.1 off) ∧ (s.get B.1 = some (.row cs e op w sp B.2 z) ∨ s.n ≤ B.1) := by
 unfold softB at h
 split at h
 ·rename_i ty t x hop
  split at h
  ·rename_i hlast
   split at h
   ·rename_i B' off hft
    split at h
    ·rename_i cs e op w sp fm z hsB
     simp only [Option.some.injEq] at h
     subst h
     exact ⟨ty, t, x, off, cs, e, op, w, sp, z, hop, hlast, hft, .inl hsB⟩
    ·split at h
     ·rename_i hn
      simp only [Option.some.injEq] at h
      subst h
      exact ⟨ty, t, x, off, [], 0, true, true, true, 0, hop, hlast, hft, .inr hn⟩
     ·cases h
   ·cases h
  ·cases h
 ·cases h
theorem writeA_rows {q s1 : St} {B o : Nat} {vs : List AV} (hq : q.ok) (h : writeA q B o vs = some s1) : ∃ f, (∃ cs e op sp z, q.get B = some (.row cs e op true sp f z)) ∧ (∃ cs e op sp z, s1.get B = some (.row cs e op true sp f z)) ∧ (∀ b cs e op w sp g z, s1.get b = some (.row cs e op w sp g z) → ∃ cs' e' op' w' sp' z', q.get b = some (.row cs' e' op' w' sp' g z')) ∧ (∀ b, b ≠ B → kinA q b ≠ f → s1.get b = q.get b) ∧ (∀ b, b ≠ B → s1.get b = q.get b ∨ s1.get b = some .dead) := by
 unfold writeA at h
 split at h
 ·rename_i cs e op sp f z hB
  have hlt : B < q.n := St.get_below hB
  split at h
  ·split at h
   ·simp only [Option.some.injEq] at h
    subst h
    refine ⟨f, ⟨_, _, _, _, _, hB⟩, ⟨_, _, _, _, _, by rw [St.get_set_at _ _ _ hq hlt, if_pos rfl]⟩, fun b cs2 e2 op2 w2 sp2 g z2 hg => ?_, fun b hb _ => set_other hb hlt, fun b hb => .inl (set_other hb hlt)⟩
    rw [St.get_set_at _ _ _ hq hlt] at hg
    split at hg
    ·rename_i eb; subst eb; cases hg; exact ⟨_, _, _, _, _, _, hB⟩
    ·exact ⟨_, _, _, _, _, _, hg⟩
   ·simp only [Option.some.injEq] at h
    subst h
    have hltA : B < (q.alone f).n := hlt
    have al : ∀ b, (q.alone f).get b = q.get b ∨ (q.alone f).get b = some .dead := fun b => by
     rw [St.get_alone]
     cases q.get b with
     | none => exact .inl rfl
     | some x => cases x with
      | row c1 c2 c3 c4 c5 c6 c7 =>
       simp only [Option.map_some, AO.kin]
       by_cases e7 : c6 = f
       ·rw [if_pos e7]; exact .inr rfl
       ·rw [if_neg e7]; exact .inl rfl
      | _ => exact .inl rfl
    refine ⟨f, ⟨_, _, _, _, _, hB⟩, ⟨_, _, _, _, _, by rw [St.get_set_at _ _ _ (St.ok_alone _ hq) hltA, if_pos rfl]⟩, fun b cs2 e2 op2 w2 sp2 g z2 hg => ?_, fun b hb hkn => ?_, fun b hb => ?_⟩
    ·rw [St.get_set_at _ _ _ (St.ok_alone _ hq) hltA] at hg
     split at hg
     ·rename_i eb; subst eb; cases hg; exact ⟨_, _, _, _, _, _, hB⟩
     ·rcases al b with k | k
      ·rw [k] at hg; exact ⟨_, _, _, _, _, _, hg⟩
      ·rw [k] at hg; cases hg
    ·rw [set_other hb hltA, St.get_alone]
     unfold kinA at hkn
     cases hsb : q.get b with
     | none => rfl
     | some x =>
      rw [hsb] at hkn
      cases x with
      | row cs5 e5 op5 w5 sp5 f5 z5 =>
       simp only [] at hkn
       simp only [Option.map_some, AO.kin]
       rw [if_neg hkn]
      | _ => rfl
    ·rw [set_other hb hltA]; exact al b
  ·cases h
 ·cases h
theorem ctx_of (hk : s.ok) (r1 : r.S 0 = s) (r2 : r.F 0 = f) (r3 : r.M 0 = []) {f' : Fr} (r5 : r.F ops.toList.length = f') (h6 : ∀ k, k < ops.toList.length → StepAt P (befores [] ops.toList) n ops.toList eff r k)
  (hd : (drawOk ops.toList eff || drawOk2 ops.toList f' s eff) = true) : Ctx P n ops eff r s f := by
 rw [Bool.or_eq_true] at hd
 rcases hd with hd | hd
 ·simp only [drawOk, Bool.and_eq_true] at hd
  obtain ⟨⟨⟨hd1, hd2⟩, hd3⟩, hd4⟩ := hd
  exact ⟨h6, r1, r2, r3, hd2, hd1, hd3, effOk_of hd4, hk⟩
 ·unfold drawOk2 at hd
  split at hd
  ·rename_i Bs hBs
   simp only [Bool.and_eq_true] at hd
   obtain ⟨⟨⟨hd1, hd2⟩, hd3⟩, hd4⟩ := hd
   have hspec := softBs_spec hBs
   have hok : ∀ k, k ≤ ops.toList.length → (r.S k).ok := by
    intro k
    induction k with
    | zero => intro _; rw [r1]; exact hk
    | succ k ih => intro h; exact ok_next (h6 k (by omega)) (ih (by omega))
   have hn : ∀ k, k ≤ ops.toList.length → s.n ≤ (r.S k).n := by
    intro k
    induction k with
    | zero => intro _; rw [r1]; exact Nat.le_refl _
    | succ k ih => intro h; exact Nat.le_trans (ih (by omega)) (n_next (h6 k (by omega)))
   have madeN : ∀ k, k ≤ ops.toList.length → ∀ e ∈ r.M k, s.n ≤ e.2.1 := by
    intro k
    induction k with
    | zero => intro _ e he; rw [r3] at he; simp at he
    | succ k ih =>
     intro h e he
     obtain ⟨q, _, _, h'⟩ := h6 k (by omega)
     rcases h' with ⟨_, _, _, e1⟩ | ⟨_, m, os, _, _, ⟨_, _, e1⟩ | ⟨s1, _, _, _, _, _, _, e1⟩ | ⟨s1, _, _, _, _, e1, _⟩⟩
     ·exact ih (by omega) e (e1 ▸ he)
     ·exact ih (by omega) e (e1 ▸ he)
     ·rw [e1] at he
      rcases List.mem_cons.1 he with e3 | e3
      ·subst e3; exact hn k (by omega)
      ·exact ih (by omega) e e3
     ·exact ih (by omega) e (e1 ▸ he)
   have all : ∀ k, k ≤ ops.toList.length → ((∀ b, b < s.n → kinA s b < s.n → (∀ p ∈ Bs, b ≠ p.1 ∧ kinA s b ≠ p.2) → (r.S k).get b = s.get b) ∧ (∀ b, b < s.n → ∀ cs e op w sp f z, s.get b = some (.row cs e op w sp f z) → (∃ cs' e' op' w' sp' z', (r.S k).get b = some (.row cs' e' op' w' sp' f z')) ∨ (r.S k).get b = some .dead)) ∧ (∀ b, s.n ≤ b → ∀ cs e op w sp f z, (r.S k).get b = some (.row cs e op w sp f z) → s.n ≤ f) := by
    intro k
    induction k with
    | zero => intro _; rw [r1]; exact ⟨⟨fun _ _ _ _ => rfl, fun b _ cs e op w sp f z h => .inl ⟨cs, e, op, w, sp, z, h⟩⟩, fun b hb cs e op w sp f z hg => absurd (St.get_below hg) (by omega)⟩
    | succ k ih =>
     intro h
     obtain ⟨⟨ih1, ih2⟩, ih3⟩ := ih (by omega)
     obtain ⟨q, hq, _, h'⟩ := h6 k (by omega)
     have same : (∀ b, b < s.n → (r.S (k + 1)).get b = (r.S k).get b) → (∀ b, s.n ≤ b → ∀ cs e op w sp f z, (r.S (k + 1)).get b = some (.row cs e op w sp f z) → s.n ≤ f) → ((∀ b, b < s.n → kinA s b < s.n → (∀ p ∈ Bs, b ≠ p.1 ∧ kinA s b ≠ p.2) → (r.S (k + 1)).get b = s.get b) ∧ (∀ b, b < s.n → ∀ cs e op w sp f z, s.get b = some (.row cs e op w sp f z) → (∃ cs' e' op' w' sp' z', (r.S (k + 1)).get b = some (.row cs' e' op' w' sp' f z')) ∨ (r.S (k + 1)).get b = some .dead)) ∧ (∀ b, s.n ≤ b → ∀ cs e op w sp f z, (r.S (k + 1)).get b = some (.row cs e op w sp f z) → s.n ≤ f) := by
      intro hs hs3
      exact ⟨⟨fun b hb hkb hm => by rw [hs b hb]; exact ih1 b hb hkb hm, fun b hb cs e op w sp f z hg => by rw [hs b hb]; exact ih2 b hb cs e op w sp f z hg⟩, hs3⟩
     rcases h' with ⟨_, _, e, _⟩ | ⟨_, m, os, _, hev, ⟨_, e, _⟩ | ⟨s1, _, h1, h2, _, h4, e, _⟩ | ⟨s1, hos, h1, h2, e, _, h3⟩⟩
     ·exact same (fun b _ => by rw [e]) (by rw [e]; exact ih3)
     ·exact same (fun b _ => by rw [e]) (by rw [e]; exact ih3)
     ·refine same (fun b hb => by rw [e, grown_get (hok k (by omega)) h1 h2.1, if_pos (Nat.lt_of_lt_of_le hb (hn k (by omega)))]) ?_
      intro b hb cs e2 op w sp f z hg
      rw [e, grown_get (hok k (by omega)) h1 h2.1] at hg
      split at hg
      ·exact ih3 b hb cs e2 op w sp f z hg
      ·rename_i hbk
       have hb1 := St.get_below hg
       rw [St.get_def, if_pos hb1] at hg
       have hm : AO.row cs e2 op w sp f z ∈ s1.h.take (s1.n - (r.S k).n) := by
        refine List.mem_of_getElem? (i := s1.n - 1 - b) ?_
        rw [List.getElem?_take, if_pos (by omega)]; exact hg
       exact Nat.le_trans (hn k (by omega)) (newOk_get h4 _ hm cs e2 op w sp f z rfl).2
     ·obtain ⟨o, ⟨B, fB⟩, ho, hB, hBm⟩ := hspec k h3
      rw [ho] at hq; cases hq
      obtain ⟨ty, t, x, off, cs, e0, op, w, sp, z, hop, hlast, hft, hsB⟩ := softB_inv hB
      simp only [] at hft hsB
      subst hos
      obtain ⟨a0, u, ha, hst⟩ := evP_store hop hev
      have hF : (r.F k).t[t]? = some (.ptr B off) := by
       rw [← frame_keep h6 (j := k) (t := t) ops.toList.length (by omega) (Nat.le_refl _) (lastSet_spec hlast), r5]; exact hft
      have hav : a0 = .ptr B off := by
       simp only [aEval, getF_eq, hF, Option.getD_some] at ha
       exact (Option.some.inj ha).symm
      subst hav
      have hid : ∀ c, c < s.n → (hide (befores [] ops.toList) k { r.S k with dirty := (r.S k).n } (r.M k)).get c = (r.S k).get c := by
       intro c hc
       rw [hide_get]
       ·rfl
       ·intro e' he' _ hin
        have := madeN k (by omega) e' he'
        omega
      have hnH : (hide (befores [] ops.toList) k { r.S k with dirty := (r.S k).n } (r.M k)).n = (r.S k).n := (hide_n _ _ _ _).1
      have hokH : (hide (befores [] ops.toList) k { r.S k with dirty := (r.S k).n } (r.M k)).ok := by
       have := hok k (by omega)
       unfold St.ok at *
       have e1 : (hide (befores [] ops.toList) k { r.S k with dirty := (r.S k).n } (r.M k)).h.length = (r.S k).h.length := (hide_n _ _ _ _).2.2
       rw [hnH, e1]; exact this
      have hget : ∀ (q : St) (d b : Nat), (St.mk q.n q.h d).get b = q.get b := fun q d b => rfl
      have hrows : ∀ b cs2 e2 op2 w2 sp2 g z2, (hide (befores [] ops.toList) k { r.S k with dirty := (r.S k).n } (r.M k)).get b = some (.row cs2 e2 op2 w2 sp2 g z2) → (r.S k).get b = some (.row cs2 e2 op2 w2 sp2 g z2) := fun b cs2 e2 op2 w2 sp2 g z2 hg => by
       have := (hide_look _ _ _ _ b _ (St.look_of_get hg (by simp))).1
       exact St.get_of_look this
      rw [e]
      simp only [storeA] at hst
      split at hst
      ·split at hst
       ·obtain ⟨fw, ⟨cw, ew, ow, pw, zw, hBw⟩, ⟨cx, ex, ox, px, zx, hBx⟩, w1, w2, w3⟩ := writeA_rows hokH hst
        have key : (B < s.n ∧ fw = fB ∧ s.get B = some (.row cs e0 op w sp fB z)) ∨ (s.n ≤ B ∧ s.n ≤ fw) := by
         rcases hsB with hsB | hnew
         ·have hBn : B < s.n := St.get_below hsB
          rw [hid B hBn] at hBw
          rcases ih2 B hBn cs e0 op w sp fB z hsB with ⟨cs', e', op', w', sp', z', hSB⟩ | hSB
          ·rw [hSB] at hBw; cases hBw; exact .inl ⟨hBn, rfl, hsB⟩
          ·rw [hSB] at hBw; cases hBw
         ·exact .inr ⟨hnew, ih3 B hnew _ _ _ _ _ _ _ (hrows B _ _ _ _ _ _ _ hBw)⟩
        refine ⟨⟨fun b hb hkb hm => ?_, fun b hb cs2 e2 op2 w5 sp2 f2 z2 hg => ?_⟩, fun b hb cs2 e2 op2 w5 sp2 f2 z2 hg => ?_⟩
        ·have hgb := (hid b hb).trans (ih1 b hb hkb hm)
         have hkq : kinA (hide (befores [] ops.toList) k { r.S k with dirty := (r.S k).n } (r.M k)) b = kinA s b := by unfold kinA; rw [hgb]
         have hne : b ≠ B ∧ kinA s b ≠ fw := by
          rcases key with ⟨k1, rfl, _⟩ | ⟨k1, k2⟩
          ·exact hm (B, _) hBm
          ·exact ⟨by omega, by omega⟩
         rw [hget, w2 b hne.1 (by rw [hkq]; exact hne.2), hgb]
        ·rw [hget]
         by_cases e3 : b = B
         ·rcases key with ⟨k1, k2, k3⟩ | ⟨k1, k2⟩
          ·subst e3
           rw [k3] at hg; cases hg
           subst k2
           exact .inl ⟨_, _, _, _, _, _, hBx⟩
          ·omega
         ·rcases w3 b e3 with k7 | k7
          ·rw [k7, hid b hb]; exact ih2 b hb cs2 e2 op2 w5 sp2 f2 z2 hg
          ·exact .inr k7
        ·obtain ⟨c7, e7, o7, v7, p7, z7, hg7⟩ := w1 b cs2 e2 op2 w5 sp2 f2 z2 hg
         exact ih3 b hb _ _ _ _ _ _ _ (hrows b _ _ _ _ _ _ _ hg7)
       ·simp at hst
      ·simp at hst
   refine ⟨h6, r1, r2, r3, hd2, hd1, hd3, ?_, hk⟩
   intro i' hi' j q hj hb
   rw [List.all_eq_true] at hd4
   have h2 := hd4 (q, j) (by rw [List.mem_zipIdx_iff_getElem?]; simpa using hj)
   have hjl : j < ops.toList.length := (List.getElem?_eq_some_iff.1 hj).1
   simp only [hb.1, Bool.false_eq_true, if_false] at h2
   by_cases htie : tieAll (befores [] ops.toList) j eff = true
   ·have h3 := tieAll_spec htie i' hi'
    constructor
    ·intro e'; rw [if_neg (by omega), if_pos e'] at h3; exact h3
    ·intro e'; rw [if_neg (by omega), if_neg (by omega)] at h3; exact h3
   ·rw [if_neg htie] at h2
    exfalso
    refine hb.2 ?_
    unfold freeB at h2
    rw [Bool.or_eq_true] at h2
    rcases h2 with h2 | h2
    ·split at h2
     ·rename_i g want hg
      split at h2
      ·rename_i p hp
       split at h2
       ·rename_i i0 hi0
        rw [Bool.and_eq_true] at h2
        obtain ⟨hl2, h2⟩ := h2
        split at h2
        ·rename_i b hb2
         have hF2 : (r.F j).t[i0]? = some (.bool b) := by
          rw [← frame_keep h6 (j := j) (t := i0) ops.toList.length (by omega) (Nat.le_refl _) (lastSet_spec hl2), r5]; exact hb2
         refine .inr (.inr ⟨q, hj, ?_⟩)
         unfold wantedA
         rw [hg]
         simp only [hp, hi0, getF_eq, hF2]
         cases b <;> cases want <;> first | rfl | cases h2
        ·cases h2
       ·cases h2
      ·cases h2
     ·cases h2
    split at h2
    ·rename_i ty2 t2 d hop2 hd2
     simp only [Bool.and_eq_true] at h2
     obtain ⟨hl2, h2⟩ := h2
     split at h2
     ·rename_i b off2 v hb2 hv2
      simp only [Bool.and_eq_true, Bool.not_eq_true', decide_eq_true_eq] at h2
      obtain ⟨⟨q1, q2, q4⟩, q3⟩ := h2
      have q1 := inB_mem q1
      have hF2 : (r.F j).t[t2]? = some (.ptr b off2) := by
       rw [← frame_keep h6 (j := j) (t := t2) ops.toList.length (by omega) (Nat.le_refl _) (lastSet_spec hl2), r5]; exact hb2
      have hV : r.V j = v := by
       obtain ⟨o3, ho3, hF3, _⟩ := h6 j hjl
       rw [hj] at ho3; cases ho3
       have hk3 := frame_keep h6 (j := j + 1) (t := d) ops.toList.length (by omega) (Nat.le_refl _) (fun k q' hk' hq' e' => by
        have := distinct_spec hd1 k j d (by simp [hq', e']) (by simp [hj, hd2])
        omega)
       rw [r5, hv2, hF3, hd2] at hk3
       simp only [Fr.put, setF_eq, List.getElem?_set] at hk3
       split at hk3
       ·split at hk3
        ·exact (Option.some.inj hk3).symm
        ·cases hk3
       ·rename_i hne; exact absurd trivial hne
      refine .inl ⟨q, ty2, .tmp t2, b, off2, hj, hop2, ?_, by rw [r1]; exact q2, by rw [r1, hV]; exact q3, fun k hk' => ?_⟩
      ·simp only [aEval, getF_eq, hF2, Option.getD_some]
      ·rw [r1]; exact (all k hk').1.1 b q2 q4 q1
     ·cases h2
    ·split at h2
     ·rename_i t2 ht2
      rw [Bool.and_eq_true] at h2
      obtain ⟨hl2, h2⟩ := h2
      cases hv2 : f'.t[t2]? with
      | none => rw [hv2] at h2; cases h2
      | some v =>
       rw [hv2] at h2
       have hF2 : (r.F j).t[t2]? = some v := by
        rw [← frame_keep h6 (j := j) (t := t2) ops.toList.length (by omega) (Nat.le_refl _) (lastSet_spec hl2), r5]; exact hv2
       exact .inr (.inl ⟨q, t2, v, hj, ht2, by simp only [aEval, getF_eq, hF2, Option.getD_some], h2⟩)
     ·cases h2
  ·cases hd
end
theorem draw_ok (hm : P.follows .mixedOrders = true) {n : Nat} (hP : ∀ k, k < n → OperOk P k) : DrawOk P n := by
 intro id ops f s f' s' eff hev hd base ρ w a R hf hk hr hi
 obtain ⟨_, r, r1, r2, r3, r4, r5, r6⟩ := run_of_evD n ops.toList 0 f s [] [] f' s' eff rfl (Nat.zero_le _) hev
 have c : Ctx P n ops eff r s f := ctx_of hk r1 r2 r3 r5 (fun k hk => r6 k (Nat.zero_le _) hk) hd
 refine wpIn_region_any hm ?_
 have hsn : ∀ i, i ≤ ops.toList.length → s.n ≤ (r.S i).n := fun i h => by have := c.nle 0 i (Nat.zero_le _) h; rw [r1] at this; exact this
 have hlen := convs_length hi.tmps
 refine any_ok (base := base) (ρ0 := ρ) (a0 := a) (w0 := w) c hP ?_ ops.size _ 0 a _ ρ s.look (by simp) (by simp) ?_
 ·intro m X a' w' ρ' g hall hI
  have hle := hI.ext.le hf
  have hrl : ∀ k, (res ρ' k).le ρ' := res_le ρ'
  refine ⟨rfl, ρ', hI.ext, fun b hb => (hI.g4 b (by rw [r4]; exact hb)).2, by rw [← r4]; exact hsn _ (Nat.le_refl _), by rw [← r4]; exact c.sok _ (Nat.le_refl _), ⟨?_, ?_⟩, ?_, ?_, ?_⟩
  ·rw [← r5]
   refine convs_of_get ?_ (fun t v hv => ?_)
   ·rw [(c.flen _ (Nat.le_refl _)).1]; simp [hI.size]
   ·have ht : t < f.t.length := by
     have := (List.getElem?_eq_some_iff.1 hv).1
     rw [(c.flen _ (Nat.le_refl _)).1] at this; exact this
    have e1 : v = (r.F ops.toList.length).t.getD t aundef := by rw [List.getD_eq_getElem?_getD, hv]; rfl
    have e2 : a'.tmps.toList[t]? = some (a'.tmps.getD t undef) := by
     have : t < a'.tmps.size := by rw [hI.size]; exact ht
     simp [this]
    refine ⟨_, ?_, e2⟩
    rw [e1]
    by_cases hw : ∃ (j : Nat) (q : Oper), ops.toList[j]? = some q ∧ q.dst = some t
    ·obtain ⟨j, q, hq, hdq⟩ := hw
     have hj := (List.getElem?_eq_some_iff.1 hq).1
     rw [c.lex1 hq hdq ht _ hj (Nat.le_refl _)]
     exact conv_mono (hrl _) _ _ (hI.tm1 j hj (hall j hj) q hq t hdq ht)
    ·rw [c.lex0 t _ (Nat.le_refl _) (fun j hj q hq hdq => hw ⟨j, q, hq, hdq⟩)]
     exact conv_mono (hrl _) _ _ (hI.tm0 t ht (fun j hj _ q hq hdq => hw ⟨j, q, hq, hdq⟩))
  ·rw [← r5, (c.flen _ (Nat.le_refl _)).2, hI.marks]
   exact marks_mono hle hi.marks
  ·refine hI.relN.less (fun b q h => ?_)
   rw [← r4] at h
   have hlt := St.look_lt h
   have hlight : ∀ k, m ≤ k → k < ops.toList.length → light r k := fun k h1 h2 => hI.high k h1 h2 (hall k h2)
   rcases Nat.lt_or_ge b (r.S m).n with h1 | h1
   ·rw [hI.g1 b h1]
    unfold St.look at h ⊢
    rw [← c.lights _ hI.hm (Nat.le_refl _) hlight b h1]; exact h
   ·obtain ⟨j, q1, q2, q3, q4⟩ := c.whose _ m hI.hm (Nat.le_refl _) h1 hlt
    rw [hI.g2 j q1 q2 (hall j q2) b q3 q4]
    unfold St.look at h ⊢
    rw [← c.lights _ (m := j + 1) (by omega) (Nat.le_refl _) (fun k h1 h2 => hlight k (by omega) h2) b q4]; exact h
  ·have hsub : ∀ b q, s'.look b = some q → g b = some q := by
    intro b q h
    rw [← r4] at h
    have hlt := St.look_lt h
    have hlight : ∀ k, m ≤ k → k < ops.toList.length → light r k := fun k h1 h2 => hI.high k h1 h2 (hall k h2)
    rcases Nat.lt_or_ge b (r.S m).n with h1 | h1
    ·rw [hI.g1 b h1]
     unfold St.look at h ⊢
     rw [← c.lights _ hI.hm (Nat.le_refl _) hlight b h1]; exact h
    ·obtain ⟨j, q1, q2, q3, q4⟩ := c.whose _ m hI.hm (Nat.le_refl _) h1 hlt
     rw [hI.g2 j q1 q2 (hall j q2) b q3 q4]
     unfold St.look at h ⊢
     rw [← c.lights _ (m := j + 1) (by omega) (Nat.le_refl _) (fun k h1 h2 => hlight k (by omega) h2) b q4]; exact h
   exact ⟨hI.fram.os, hI.fram.tape, hI.fram.output, hI.fram.size, hI.fram.keep, fun b q B h => hI.fram.img b q B (hsub b q h)⟩
  ·have hkeep : ∀ k, k ≤ ops.toList.length → KeepA s (r.S k) := by
    intro k
    induction k with
    | zero => intro _; rw [r1]; exact KeepA.refl _
    | succ k ih => intro h; exact (ih (by omega)).trans (hI.keep k (by omega) (hall k (by omega))) (hsn k (by omega))
   rw [← r4]; exact hkeep _ (Nat.le_refl _)
 ·have hno : ∀ j, ¬ (Array.replicate ops.size false).getD j false = true := by
   intro j
   rcases Nat.lt_or_ge j ops.size with h | h <;> simp [h]
  refine ⟨Nat.zero_le _, fun i h => by omega, fun j _ _ h => absurd h (hno j), fun i j _ h => absurd h (hno i), fun b _ => by rw [r1], fun j _ _ h => absurd h (hno j), ?_, ?_, ?_, fun j _ _ h => absurd h (hno j), (Fram.refl ρ s.look w).drew, Ext.refl _ _, fun j i o q h => by omega, by simpa using hlen, rfl, ?_, fun j _ h => absurd h (hno j), fun j _ h => absurd h (hno j)⟩
  ·intro j h1 h2 h b h3 h4
   have := hsn j (by omega)
   exact ⟨St.look_none (by omega), hf b (by omega)⟩
  ·intro b hb
   have := hsn _ (Nat.le_refl ops.toList.length)
   exact ⟨St.look_none (by omega), hf b (by omega)⟩
  ·intro i h1 h2
   have := hsn i h2
   rw [res_all (fun b hb => hf b (by omega))]
   refine (hr.drew).less (fun b q h => ?_)
   unfold cut at h
   split at h
   ·exact h
   ·cases h
  ·intro t ht hn
   rw [res_all (fun b hb => hf b hb)]
   have := convs_getD hi.tmps t
   simp only [List.getD_eq_getElem?_getD] at this ⊢
   rw [this]
   simp [Array.getD_eq_getD_getElem?]
theorem closed_run (hPl : Plain P) (hm : P.follows .mixedOrders = true) {n : Nat} {fid : FuncId} {args : List AV} {v : AV} {os : Option St} (h : evF P n fid args ⟨0, [], 0⟩ = some (v, os)) (hv : v.flat = true) {cargs : List Value} (ha : convs (fun _ => none) args = some cargs) (w : World) :
  Calls P fid cargs.toArray w fun e w' => ∃ x, conv (fun _ => none) v = some x ∧ e = .returned x ∧ Go.RowKit.Below w.heap.size w w' := by
 obtain ⟨_, _, _, hF, _, _⟩ := all_ok hPl (fun n hP => draw_ok hm hP) n
 have hl : ∀ b, (St.look ⟨0, [], 0⟩ b) = none := fun b => St.look_none (Nat.zero_le _)
 have no : ∀ b o, (St.look ⟨0, [], 0⟩ b) = some o → False := fun b o e => by rw [hl] at e; cases e
 have := hF fid args ⟨0, [], 0⟩ v os h w.heap.size (fun _ => none) w cargs (fun _ _ => rfl) rfl
  ⟨fun b o e => (no b o e).elim, fun b b' o o' e => (no b o e).elim, fun b o e => (no b o e).elim, fun b o e => (no b o e).elim, fun b e => no b _ e, Nat.le_refl _⟩ ha
 refine callsIn_wide.1 (this.mono fun e w' q => ?_)
 obtain ⟨x, e1, ρ1, o1, o2, o3, o4, o5, o6, o7, o8⟩ := q
 exact ⟨x, conv_flat _ _ hv o5, e1, o7.os, o7.tape, o7.output, o7.size, fun k hk => o7.keep k hk (fun b o e => (no b o e).elim)⟩
theorem plain_of {P : Program} (h : (P.funcs.all fun f => !(f.name == "runtime.NumGoroutine")) = true) : Plain P := by
 intro i fn hfn
 have := Array.all_eq_true_iff_forall_mem.1 h fn (Array.mem_of_getElem? hfn)
 simpa using this
theorem closed_true (hp : (P.funcs.all fun f => !(f.name == "runtime.NumGoroutine")) = true) (hm : P.follows .mixedOrders = true) {n : Nat} {fid : FuncId} {os : Option St} (h : evF P n fid [] ⟨0, [], 0⟩ = some (.bool true, os)) (w : World) :
  Calls P fid #[] w fun e w' => e = .returned (.bool true) ∧ Go.RowKit.Below w.heap.size w w' :=
 (closed_run (plain_of hp) hm h rfl (cargs := []) rfl w).mono fun e w' q => by
  obtain ⟨x, h1, h2, h3⟩ := q
  simp [conv] at h1; subst h1; exact ⟨h2, h3⟩
end Go.Vm
