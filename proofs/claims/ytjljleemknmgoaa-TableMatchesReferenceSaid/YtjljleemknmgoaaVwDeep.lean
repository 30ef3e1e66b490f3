/-
 Part of the proof that a machine over named lists stands for the program's runs (VwDeep). No conditions beyond those that its theorems name.
-/
import Derived.Test.YtjljleemknmgoaaVwPrim5
namespace Go.Vm2
open Go Go.Vm
set_option linter.unusedVariables false
set_option linter.unusedSectionVars false
variable [Facts] {P : Program} {tt : TT} {c : Px} {ν : Nu} {h : H} {s : St}
theorem tokIn_ok {hl : List (Nat × Ob)} : ∀ {l : List (Nat × Ob)}, tokIn hl l = true → ∃ x, look hl x = some .tok
 | [], h => by simp [tokIn] at h
 | (x, o) :: l, h => by
  simp only [tokIn] at h
  split at h
  ·split at h
   ·rename_i e; exact ⟨x, e⟩
   ·exact tokIn_ok h
  ·exact tokIn_ok h
theorem R.frz {x B : Nat} {ob : Ob} {o : AO} (r : R c ν h s) (hx : h.get x = some ob) (hfz : h.fz ≤ x) (hob : ob.own = true) (hν : ν x = some (B, 0)) (hB : s.get B = some o) (hn : ¬ c.nf) :
  R c ⟨ν.f, fun b => if b = B then some o else ν.G b⟩ ⟨h.nx, h.fz, (x, .gone) :: h.l⟩ s ∧ Nu.le h.nx ν ⟨ν.f, fun b => if b = B then some o else ν.G b⟩ := by
 have hle : Nu.le h.nx ν ⟨ν.f, fun b => if b = B then some o else ν.G b⟩ := by
  refine ⟨fun _ _ => rfl, fun b q hb => ?_⟩
  show (if b = B then some o else ν.G b) = some q
  split
  ·rename_i e; subst e; have := r.gr.gl b q hb; rw [hB] at this; exact this
  ·exact hb
 have r1 := r.forget (r.lt x ob hx)
 refine ⟨⟨r1.ok, ?_, r1.lt, r1.sep, r1.gsep, r1.froz, r1.kin, r1.th, r1.tc, r1.p_le, r1.lo_le, r1.new, r1.blk, r1.snap, ?_, ?_, ?_, ?_⟩, hle⟩
 ·intro y q hy
  exact (r1.obj y q hy).mono (r1.lt y q hy) hle (Nat.le_refl _) (fun _ _ _ => rfl)
 ·intro b q hb
  have hb2 : (if b = B then some o else ν.G b) = some q := hb
  clear hb
  by_cases e : b = B
  ·rw [if_pos e] at hb2; subst e; rw [hB]; exact hb2
  ·rw [if_neg e] at hb2; exact r.gr.gl b q hb2
 ·intro y q C b b' hy hfy hoy hC hG
  have hG : (if b' = B then some o else ν.G b').isSome = true := hG
  split at hG
  ·rename_i e; subst e
   rw [get_cons] at hy
   split at hy
   ·cases hy; cases hoy
   ·rename_i hne
    have hl : ob.live = true := by revert hob; cases ob <;> simp [Ob.own, Ob.live]
    exact r.sep y x q ob C b' b 0 (fun e => hne e.symm) hy hx hfy hoy hl hC hν
  ·exact r1.gr.ga y q C b b' hy hfy hoy hC hG
 ·intro b hb
  have hb : (if b = B then some o else ν.G b).isSome = true := hb
  split at hb
  ·rename_i e; subst e
   refine .inr ⟨hn, fun b' hb' => r.gsep x ob b 0 b' hx hfz hob hν hb', fun D hD => ?_⟩
   exact (r.th D hD).2.2.2 x ob b 0 hx hfz hob hν
  ·exact r.gr.gg b hb
 ·intro hn'; exact absurd hn' hn
def RowC (G : Nat → Option AO) (κ : Kt) (ks : List CK) (rows : List (List D)) (cs : List AV) : Prop :=
 cs.length = rows.length * ks.length ∧ ∀ i j c, i < rows.length → ks[j]? = some c → CellD G κ c ((rows.getD i []).getD j (.n 0)) (cs.getD (i * ks.length + j) (.tup []))
theorem getD_app {α : Type} (l m : List α) (d : α) (i : Nat) : (l ++ m).getD i d = if i < l.length then l.getD i d else m.getD (i - l.length) d := by
 simp only [List.getD_eq_getElem?_getD]
 split
 ·rename_i h; rw [List.getElem?_append_left h]
 ·rename_i h; rw [List.getElem?_append_right (by omega)]
theorem RowC.app {G : Nat → Option AO} {κ : Kt} {ks : List CK} {l m : List (List D)} {a b : List AV} (h1 : RowC G κ ks l a) (h2 : RowC G κ ks m b) : RowC G κ ks (l ++ m) (a ++ b) := by
 refine ⟨by rw [List.length_append, List.length_append, h1.1, h2.1, Nat.add_mul], fun i j c hi hj => ?_⟩
 have hjl := (List.getElem?_eq_some_iff.1 hj).1
 rw [List.length_append] at hi
 rw [getD_app, getD_app]
 by_cases hil : i < l.length
 ·rw [if_pos hil, if_pos (by
   rw [h1.1]
   calc i * ks.length + j < i * ks.length + ks.length := by omega
    _ = (i + 1) * ks.length := by rw [Nat.add_mul]; omega
    _ ≤ l.length * ks.length := Nat.mul_le_mul_right _ hil)]
  exact h1.2 i j c hil hj
 ·have e1 : l.length * ks.length ≤ i * ks.length := Nat.mul_le_mul_right _ (by omega)
  rw [if_neg hil, if_neg (by rw [h1.1]; omega)]
  have := h2.2 (i - l.length) j c (by omega) hj
  have e2 : i * ks.length + j - a.length = (i - l.length) * ks.length + j := by rw [h1.1, Nat.sub_mul]; omega
  rw [e2]; exact this
theorem RowC.mono {G G' : Nat → Option AO} (hG : ∀ b o, G b = some o → G' b = some o) {κ : Kt} {ks : List CK} {l : List (List D)} {a : List AV} (h : RowC G κ ks l a) : RowC G' κ ks l a :=
 ⟨h.1, fun i j c hi hj => (h.2 i j c hi hj).mono hG⟩
theorem cellD_cell {G : Nat → Option AO} {κ : Kt} {c : CK} {d : D} {v : AV} (h : CellD G κ c d v) : v.isCell = true := by
 cases h with
 | flat _ _ _ => cases c <;> rfl
 | nil _ _ _ _ => rfl
 | esl _ _ _ _ _ => rfl
 | list _ _ _ _ _ _ _ _ _ _ _ _ _ _ _ _ _ _ => rfl
theorem cellsOk_all : ∀ {cs : List AV}, (∀ v ∈ cs, v.isCell = true) → Vm.cellsOk cs = true
 | [], _ => rfl
 | v :: cs, h => by simp only [Vm.cellsOk, Bool.and_eq_true]; exact ⟨h v (by simp), cellsOk_all fun u hu => h u (by simp [hu])⟩
theorem RowC.cells {G : Nat → Option AO} {κ : Kt} {ks : List CK} {l : List (List D)} {a : List AV} (h : RowC G κ ks l a) : Vm.cellsOk a = true := by
 refine cellsOk_all fun v hv => ?_
 obtain ⟨m, hm0, rfl⟩ := List.getElem_of_mem hv
 have hm := hm0
 rw [h.1] at hm
 have hp : 0 < ks.length := Nat.pos_of_ne_zero fun e => by rw [e, Nat.mul_zero] at hm; omega
 have hi : m / ks.length < l.length := Nat.div_lt_of_lt_mul (by rw [Nat.mul_comm]; exact hm)
 have hj : m % ks.length < ks.length := Nat.mod_lt _ hp
 have hm2 : m / ks.length * ks.length + m % ks.length = m := by rw [Nat.mul_comm]; exact Nat.div_add_mod _ _
 have := h.2 (m / ks.length) (m % ks.length) _ hi (List.getElem?_eq_getElem hj)
 rw [hm2] at this
 have e : a.getD m (.tup []) = a[m] := by simp [hm0]
 rw [← e]; exact cellD_cell this
theorem RowG.rows {G : Nat → Option AO} {κ : Kt} {e : Nat} {l : List (List D)} {B b0 : Nat} (h : RowG G κ e (.recs l) B b0) : ∃ cs el op w sp f z, G B = some (.row cs el op w sp f z) ∧ b0 + l.length * (kindsK κ e).length ≤ cs.length ∧ RowC G κ (kindsK κ e) l ((cs.drop b0).take (l.length * (kindsK κ e).length)) := by
 obtain ⟨cs, el, op, w, sp, f, z, g1, g2, g3, g4, g5⟩ := h
 have g4 : b0 + l.length * (kindsK κ e).length ≤ cs.length := g4
 refine ⟨cs, el, op, w, sp, f, z, g1, g4, by rw [List.length_take, List.length_drop]; omega, fun i j c hi hj => ?_⟩
 have hjl := (List.getElem?_eq_some_iff.1 hj).1
 have := g5 i j c hi hj
 have e1 : i * (kindsK κ e).length + j < l.length * (kindsK κ e).length := by
  calc i * (kindsK κ e).length + j < i * (kindsK κ e).length + (kindsK κ e).length := by omega
   _ = (i + 1) * (kindsK κ e).length := by rw [Nat.add_mul]; omega
   _ ≤ l.length * (kindsK κ e).length := Nat.mul_le_mul_right _ hi
 have e2 : ((cs.drop b0).take (l.length * (kindsK κ e).length)).getD (i * (kindsK κ e).length + j) (.tup []) = cs.getD (b0 + i * (kindsK κ e).length + j) (.tup []) := by
  simp only [List.getD_eq_getElem?_getD, List.getElem?_take, if_pos e1, List.getElem?_drop]
  congr 2; omega
 rw [e2]; exact this
theorem frz_ok {κ : Kt} {e x len : Nat} {av : AV} {K : AC → H → Prop} (r : R c ν h s) (hv : Cv h.nx ν (.grw x len) av) (hK : frzK κ e h x len K) :
  ∃ ν' h' a, R c ν' h' s ∧ Nu.le h.nx ν ν' ∧ h'.nx = h.nx ∧ h'.fz = h.fz ∧ Cv h.nx ν' (.lst κ e a) av ∧ (∀ y, y ≠ x → h'.get y = h.get y) ∧ K a h' := by
 unfold frzK at hK
 split at hK
 rotate_left
 ·exact hK.elim
 rename_i htok
 obtain ⟨y, hy⟩ := tokIn_ok htok
 have hnf : ¬ c.nf := fun hn => r.gr.tk hn y hy
 have hq := getK_inv hK
 clear hK
 obtain ⟨ob, hob, hK⟩ := hq
 have hh := r.obj x ob hob
 simp only [Cv] at hv
 obtain ⟨h0, hv⟩ := hv
 have others : ∀ y, y ≠ x → H.get ⟨h.nx, h.fz, (x, .gone) :: h.l⟩ y = h.get y := fun y hy => by rw [get_cons, if_neg (fun e => hy e.symm)]
 split at hK
 ·rename_i ks m a
  split at hK
  ·rename_i e1 e2 e3
   have e2 := cksEq_eq e2
   subst e2
   have main : acOk (kindsK κ e) a → (len = a.len ∧ h.putK x .gone fun h' => K a h') → ∃ ν' h' a, R c ν' h' s ∧ Nu.le h.nx ν ν' ∧ h'.nx = h.nx ∧ h'.fz = h.fz ∧ Cv h.nx ν' (.lst κ e a) av ∧ (∀ y, y ≠ x → h'.get y = h.get y) ∧ K a h' := by
    intro ha hK
    obtain ⟨hl, hK⟩ := hK
    obtain ⟨hfz, hK⟩ := putK_inv hK
    have hown : (Ob.arr (kindsK κ e) m a).own = true := by cases m <;> first | rfl | cases e1
    rcases hv with ⟨h1, h2, rfl⟩ | ⟨B, h1, rfl⟩
    ·exact ⟨ν, _, a, r.forget h0, Nu.le.refl, rfl, rfl, by simp only [Cv]; exact .nil e a ha (by omega), others, hK⟩
    ·obtain ⟨hk, hn | ⟨B', b0, r', g1, g2, g3⟩⟩ := hh
     ·rw [hn.1] at h1; cases h1
     ·rw [h1] at g1; cases g1
      obtain ⟨cs, el, op, w, sp, f, z, rfl, q1, q2⟩ := g3.row hk
      obtain ⟨_, _, _, _, _, _, _, q3, q4⟩ := g3.open
      cases q3
      obtain ⟨r1, r2⟩ := r.frz hob hfz hown h1 g2 hnf
      refine ⟨_, _, a, r1, r2, rfl, rfl, ?_, others, hK⟩
      rw [hl]
      refine cv_lst (Nat.le_refl _) ⟨cs, el, op, w, sp, f, z, if_pos rfl, ha, fun ho => (q4 ho).2, q1, fun i j c hi hj => ?_⟩
      have hjl := (List.getElem?_eq_some_iff.1 hj).1
      have e5 : i * (kindsK κ e).length + j < a.len * (kindsK κ e).length := by
       calc i * (kindsK κ e).length + j < i * (kindsK κ e).length + (kindsK κ e).length := by omega
        _ = (i + 1) * (kindsK κ e).length := by rw [Nat.add_mul]; omega
        _ ≤ a.len * (kindsK κ e).length := Nat.mul_le_mul_right _ hi
      have := row_get q2 e5
      rw [avs_get hk hi hj] at this
      have e6 : 0 + i * (kindsK κ e).length + j = 0 + (i * (kindsK κ e).length + j) := by omega
      rw [e6, List.getD_eq_getElem?_getD, this]
      exact .flat c _ (flatKs_get e3 hj)
   split at hK
   ·rename_i l
    exact main hh.1 hK
   ·rename_i l
    split at hK
    ·exact hK.elim
    ·rename_i hne
     exact main ⟨hh.1, fun k => hne k⟩ hK
  ·exact hK.elim
 ·rename_i κ' e' m a
  split at hK
  ·rename_i e1 e2
   have e2 := Nat.eq_of_beq_eq_true e2
   subst e2
   obtain ⟨rfl, hl, hK⟩ := hK
   obtain ⟨hfz, hK⟩ := putK_inv hK
   obtain ⟨ha, hh⟩ := hh
   rcases hv with ⟨h1, h2, rfl⟩ | ⟨B, h1, rfl⟩
   ·exact ⟨ν, _, a, r.forget h0, Nu.le.refl, rfl, rfl, by simp only [Cv]; exact .nil e a ha (by omega), others, hK⟩
   ·rcases hh with hn | ⟨B', cs, el, op, w, sp, f, z, g1, g2, g3, g4, g5⟩
    ·rw [hn.1] at h1; cases h1
    ·rw [h1] at g1; cases g1
     obtain ⟨r1, r2⟩ := r.frz hob hfz rfl h1 g2 hnf
     refine ⟨_, _, a, r1, r2, rfl, rfl, ?_, others, hK⟩
     rw [hl]
     refine cv_lst (Nat.le_refl _) ⟨cs, el, op, w, sp, f, z, if_pos rfl, ha, fun ho => ?_, by omega, fun i j c hi hj => ?_⟩
     ·cases m <;> simp only [ModeG] at g3
      ·rw [g3.1] at ho; cases ho
      ·exact g3.2.2.2
     ·have := (g5 i j c hi hj).mono r2.G
      have e6 : 0 + i * (kindsK κ' e).length + j = i * (kindsK κ' e).length + j := by omega
      rw [e6]; exact this
  ·exact hK.elim
 ·exact hK.elim
theorem toD_flat {n : Nat} {ν : Nu} {c : CK} {v : V} {d : D} {a : AV} (h1 : kindOk c v = true) (h2 : toD v = some d) (hv : Cv n ν v a) : isList c = false ∧ a = c.av d := by
 unfold kindOk at h1
 split at h1
 ·have := kindEq_eq h1; subst this; simp only [toD, Option.some.injEq] at h2; subst h2; exact ⟨rfl, cv_int hv⟩
 ·simp only [toD, Option.some.injEq] at h2; subst h2; exact ⟨rfl, cv_bool hv⟩
 ·simp only [toD, Option.some.injEq] at h2; subst h2; exact ⟨rfl, cv_test hv⟩
 ·simp only [toD, Option.some.injEq] at h2; subst h2; exact ⟨rfl, cv_str hv⟩
 ·simp only [toD, Option.some.injEq] at h2; subst h2; exact ⟨rfl, cv_nils hv⟩
 ·cases h1
theorem deepCell_ok {κ : Kt} {ck : CK} {v : V} {a : AV} {K : D → H → Prop} (r : R c ν h s) (hv : Cv h.nx ν v a) (hK : deepCell κ ck v h K) :
  ∃ ν' h' d, R c ν' h' s ∧ Nu.le h.nx ν ν' ∧ h'.nx = h.nx ∧ h'.fz = h.fz ∧ CellD ν'.G κ ck d a ∧ K d h' := by
 unfold deepCell at hK
 split at hK
 ·rename_i e
  split at hK
  ·rename_i κ' e' ac
   obtain ⟨rfl, rfl, hK⟩ := hK
   simp only [Cv] at hv
   exact ⟨ν, h, .seq ac, r, Nu.le.refl, rfl, rfl, hv, hK⟩
  ·rw [cv_nils hv]
   split at hK
   ·exact hK.elim
   ·rename_i k hk
    exact ⟨ν, h, _, r, Nu.le.refl, rfl, rfl, .nil e (.ints []) (by rw [hk]; exact ⟨k, rfl⟩) rfl, hK⟩
   ·rename_i h1 h2
    exact ⟨ν, h, _, r, Nu.le.refl, rfl, rfl, .nil e (.recs []) ⟨fun e => h1 e, fun k e => h2 k e⟩ rfl, hK⟩
  ·rename_i x len
   obtain ⟨ν', h', ac, r1, r2, r3, r4, r5, _, r6⟩ := frz_ok r hv hK
   simp only [Cv] at r5
   exact ⟨ν', h', .seq ac, r1, r2, r3, r4, r5, r6⟩
  ·exact hK.elim
 ·split at hK
  ·rename_i d h1 h2
   obtain ⟨q1, q2⟩ := toD_flat h1 h2 hv
   exact ⟨ν, h, d, r, Nu.le.refl, rfl, rfl, by rw [q2]; exact .flat _ _ q1, hK⟩
  ·exact hK.elim
theorem deepCells_ok {κ : Kt} : ∀ {ks : List CK} {vs : List V} {as : List AV} {ν : Nu} {h : H} {K : List D → H → Prop}, R c ν h s → Cvs h.nx ν vs as → deepCells κ ks vs h K →
  ∃ ν' h' ds, R c ν' h' s ∧ Nu.le h.nx ν ν' ∧ h'.nx = h.nx ∧ h'.fz = h.fz ∧ as.length = ks.length ∧ (∀ j ck, ks[j]? = some ck → CellD ν'.G κ ck (ds.getD j (.n 0)) (as.getD j (.tup []))) ∧ K ds h'
 | [], [], as, ν, h, K, r, hv, hK => by
  rw [hv.inv0]
  exact ⟨ν, h, [], r, Nu.le.refl, rfl, rfl, rfl, fun j ck hj => by simp at hj, hK⟩
 | [], v :: vs, as, ν, h, K, r, hv, hK => by simp only [deepCells] at hK
 | ck :: ks, [], as, ν, h, K, r, hv, hK => by simp only [deepCells] at hK
 | ck :: ks, v :: vs, as, ν, h, K, r, hv, hK => by
  obtain ⟨a, as', rfl, h2, h3⟩ := hv.inv
  simp only [deepCells] at hK
  obtain ⟨ν1, h1, d, r1, l1, n1, f1, c1, hK⟩ := deepCell_ok r h2 hK
  obtain ⟨ν2, h2', ds, r2, l2, n2, f2, t2, c2, hK⟩ := deepCells_ok r1 (by rw [n1]; exact h3.mono l1 (Nat.le_refl _)) hK
  refine ⟨ν2, h2', d :: ds, r2, l1.trans l2 (by rw [n1]; exact Nat.le_refl _), n2.trans n1, f2.trans f1, by simp [t2], fun j ck' hj => ?_, hK⟩
  cases j with
  | zero => simp at hj; subst hj; exact c1.mono l2.G
  | succ j => simp at hj; exact c2 j ck' hj
theorem RowC.cons {G : Nat → Option AO} {κ : Kt} {ks : List CK} {ds : List D} {l : List (List D)} {a b : List AV} (h1 : a.length = ks.length) (h2 : ∀ j ck, ks[j]? = some ck → CellD G κ ck (ds.getD j (.n 0)) (a.getD j (.tup []))) (h3 : RowC G κ ks l b) : RowC G κ ks (ds :: l) (a ++ b) := by
 have : RowC G κ ks [ds] a := ⟨by simp [h1], fun i j c hi hj => by
  have : i = 0 := by simpa using hi
  subst this
  rw [Nat.zero_mul, Nat.zero_add]; exact h2 j c hj⟩
 exact this.app h3
theorem deepRows_ok {κ : Kt} {ks : List CK} : ∀ {vs : List V} {as : List AV} {ν : Nu} {h : H} {K : List (List D) → H → Prop}, R c ν h s → Cvs h.nx ν vs as → deepRows κ ks vs h K →
  ∃ ν' h' rows, R c ν' h' s ∧ Nu.le h.nx ν ν' ∧ h'.nx = h.nx ∧ h'.fz = h.fz ∧ rows.length = vs.length ∧ (∀ a ∈ as, a.cells.length = ks.length) ∧ RowC ν'.G κ ks rows (as.flatMap AV.cells) ∧ K rows h'
 | [], as, ν, h, K, r, hv, hK => by
  rw [hv.inv0]
  exact ⟨ν, h, [], r, Nu.le.refl, rfl, rfl, rfl, by simp, ⟨by simp, fun i j ck hi => by simp at hi⟩, hK⟩
 | v :: vs, as, ν, h, K, r, hv, hK => by
  obtain ⟨a, as', rfl, h2, h3⟩ := hv.inv
  simp only [deepRows] at hK
  obtain ⟨ν1, h1, ds, r1, l1, n1, f1, t1, c1, hK⟩ := deepCells_ok r h2.cells hK
  obtain ⟨ν2, h2', rows, r2, l2, n2, f2, t2, z2, c2, hK⟩ := deepRows_ok r1 (by rw [n1]; exact h3.mono l1 (Nat.le_refl _)) hK
  refine ⟨ν2, h2', ds :: rows, r2, l1.trans l2 (by rw [n1]; exact Nat.le_refl _), n2.trans n1, f2.trans f1, by simp [t2], fun b hb => ?_, ?_, hK⟩
  ·rcases List.mem_cons.1 hb with rfl | hb
   ·exact t1
   ·exact z2 b hb
  ·rw [List.flatMap_cons]
   exact RowC.cons t1 (fun j ck hj => (c1 j ck hj).mono l2.G) c2
def opOf : Mode → Bool
 | .grow => true
 | _ => false
theorem Made.tarr {ν0 : Nu} {h0 : H} {K : V → H → Prop} {κ : Kt} {e : Nat} {m : Mode} {rows : List (List D)} {cs : List AV} (r : R c ν h s) (hle : Nu.le h0.nx ν0 ν) (hnx : h.nx = h0.nx) (hfz : h.fz = h0.fz) (hk : acOk (kindsK κ e) (.recs rows)) (el : TypeId) {z : Nat} (hm : m = .own ∨ m = .grow) (hz : m = .grow → z = (kindsK κ e).length)
  (hc : RowC ν.G κ (kindsK κ e) rows cs) (hK : K (.grw h.nx rows.length) ⟨h.nx + 1, h.fz, (h.nx, .tarr κ e m (.recs rows)) :: h.l⟩) :
  Made (some (.slc s.n 0 rows.length rows.length, some (Vm.newRow s cs el (opOf m) z))) c ν0 h0 s K := by
 refine ⟨_, _, _, _, Nu.set ν h.nx (some (s.n, 0)), rfl, hK, ?_, ?_, ?_⟩
 ·refine r.push_new rfl (fun cs e o w p f z hh => by cases hh; rfl) ?_
  refine ⟨hk, .inr ⟨s.n, cs, el, (opOf m), true, false, s.n, z, Nu.set_self, (by show (s.push _).get s.n = _; rw [sget_push, if_pos rfl]), ?_, hc.1, hc.2⟩⟩
  rcases hm with rfl | rfl
  ·exact ⟨rfl, rfl, rfl, rfl⟩
  ·exact ⟨rfl, rfl, rfl, hz rfl⟩
 ·simp only [Cv]
  exact ⟨Nat.lt_succ_self _, .inr ⟨s.n, Nu.set_self, rfl⟩⟩
 ·have := Ex.push h ν s (AO.row cs el (opOf m) true false s.n z) (.tarr κ e m (.recs rows)) 0
  exact ⟨hle.trans this.same (by omega), by show h0.nx ≤ h.nx + 1; omega, hfz, this.n, fun x B b k1 k2 k3 => this.new x B b (by omega) k2 k3⟩
theorem deep_ok {tt : TT} {t : TypeId} {e z b : Nat} {ks : List CK} (hd : deepTy tt t = true) (hty : tyOf tt t = .slice e z b ks) (rows : List (List D)) : acOk (kindsK (ktOf tt) e) (.recs rows) := by
 unfold deepTy at hd
 rw [hty] at hd
 simp only [Bool.not_eq_true'] at hd
 refine ⟨fun h => ?_, fun k h => ?_⟩ <;> rw [h] at hd <;> cases hd
theorem given_tarr {κ : Kt} {e : Nat} {y : V} {b : AV} {K : Nat → List (List D) → Prop} (r : R c ν h s) (hy : Cv h.nx ν y b) (hK : givenT κ e h y K) : ∃ news cs, givenA s (kindsK κ e).length b = some (news.length, cs) ∧ RowC ν.G κ (kindsK κ e) news cs ∧ K news.length news := by
 unfold givenT at hK
 split at hK
 ·rw [cv_nils hy]
  exact ⟨[], [], rfl, ⟨by simp, fun i j c hi => by simp at hi⟩, hK⟩
 ·rename_i q n
  have hq := getK_inv hK
  clear hK
  obtain ⟨ob, hob, hK⟩ := hq
  have hh := r.obj q ob hob
  simp only [Cv] at hy
  obtain ⟨h0, hy⟩ := hy
  split at hK
  ·rename_i κ' e' m a
   split at hK
   ·rename_i l
    split at hK
    ·rename_i e2
     have e2 := Nat.eq_of_beq_eq_true e2
     subst e2
     have hk2 := hK ()
     clear hK
     obtain ⟨rfl, rfl, hK⟩ := hk2
     obtain ⟨ha, hh⟩ := hh
     rcases hy with ⟨h1, h2, rfl⟩ | ⟨B, h1, rfl⟩
     ·rw [h2] at hK
      have : l = [] := List.eq_nil_of_length_eq_zero h2
      subst this
      exact ⟨[], [], rfl, ⟨by simp, fun i j c hi => by simp at hi⟩, hK⟩
     ·rcases hh with hn | ⟨B', cs, el, op, w, sp, f, z, g1, g2, g3, g4, g5⟩
      ·rw [hn.1] at h1; cases h1
      ·rw [h1] at g1; cases g1
       have g4 : cs.length = l.length * (kindsK κ' e).length := g4
       refine ⟨l, cs, ?_, ⟨g4, g5⟩, hK⟩
       simp only [givenA, g2]
       rw [if_pos (by omega), List.drop_zero, List.take_of_length_le (by omega)]
    ·exact hK.elim
   ·exact hK.elim
  ·exact hK.elim
 ·rename_i κ' e' a
  split at hK
  ·rename_i l
   split at hK
   ·rename_i e2
    have e2 := Nat.eq_of_beq_eq_true e2
    subst e2
    have hk2 := hK ()
    clear hK
    obtain ⟨rfl, hK⟩ := hk2
    obtain ⟨q0, ⟨q1, hb⟩ | ⟨B, b0, cap, rfl, q2, q3⟩⟩ := lst_cv hy
    ·have : l = [] := List.eq_nil_of_length_eq_zero q1
     subst this
     exact ⟨[], [], by rcases hb with rfl | ⟨x, rfl⟩ <;> rfl, ⟨by simp, fun i j c hi => by simp at hi⟩, hK⟩
    ·obtain ⟨cs, el, op, w, sp, f, z, g1, g2, g3⟩ := q3.rows
     refine ⟨l, _, ?_, g3, hK⟩
     simp only [givenA, r.gr.gl B _ g1]
     show (if b0 + l.length * (kindsK κ' e).length ≤ cs.length then some (l.length, (cs.drop b0).take (l.length * (kindsK κ' e).length)) else none) = _
     rw [if_pos g2]
   ·exact hK.elim
  ·exact hK.elim
 ·exact hK.elim
theorem appendT_ok (ht : TTok P tt) (r : R c ν h s) {t : TypeId} {x y : V} {a b : AV} {K : V → H → Prop} (hdeep : deepTy tt t = true) (hx : Cv h.nx ν x a) (hy : Cv h.nx ν y b) (hK : appendT tt h t x y K) :
  Made (appendA P s [t, t] a b) c ν h s K := by
 unfold appendT at hK
 split at hK
 ·rename_i e z bb ks hty
  have hs := tyOf_slice ht hty
  obtain ⟨i, i1, i2, i3⟩ := hs.info
  obtain ⟨zv, az, z1, z2, z3, z4⟩ := hs.zero
  have hac := deep_ok hdeep hty
  split at hK
  ·exact hK.elim
  ·rename_i hzz
   have hzz := Nat.eq_of_beq_eq_true hzz
   rw [len'_eq] at hzz
   have hgv := given_tarr r hy hK
   clear hK
   obtain ⟨news, ncs, g1, g2, hK⟩ := hgv
   generalize hκ : ktOf tt = κ at *
   rw [← hzz] at g1
   have hzk : zOk P e i.size = true := by simp only [zOk, z2, z3, i2, beq_self_eq_true]
   have hnc := g2.cells
   have head : ¬ (z = 0 ∨ Vm.cellsOk ncs = false ∨ zOk P e z = false) := by
    rw [i2] at hzk; rw [hzk, hnc]; have := hs.pos; simp; omega
   simp only [appendA, hs.und, i1, i2, g1]
   rw [if_neg head]
   have beq0 : news.length ≠ 0 → Nat.beq news.length 0 = false := fun hn => by cases hh : Nat.beq news.length 0 with | false => rfl | true => exact absurd (Nat.eq_of_beq_eq_true hh) hn
   have nilway : ∀ (h1 : H) (len : Nat) (l : List (List D)), (h1 = h ∨ ∃ x, x < h.nx ∧ h1 = ⟨h.nx, h.fz, (x, .gone) :: h.l⟩) → len = 0 → l.length = 0 → news.length ≠ 0 → (len + news.length ≤ 4611686018427387904 ∧ (len + news.length) * bb ≤ 140737488355328) → K (.grw h.nx (len + news.length)) ⟨h1.nx + 1, h1.fz, (h1.nx, .tarr κ e .grow (.recs (l ++ news))) :: h1.l⟩ →
     Made (if news.length = 0 then some (AV.nils, none) else if news.length ≤ 4611686018427387904 ∧ news.length * i.bytes ≤ 140737488355328 then some (.slc s.n 0 news.length news.length, some (Vm.newRow s ncs e true z)) else none) c ν h s K := by
    intro h1 len l hh hl hl2 hn hb hK
    have : l = [] := List.eq_nil_of_length_eq_zero hl2
    subst hl; subst this
    rw [Nat.zero_add] at hb hK
    rw [if_neg hn, i3, if_pos hb]
    have r1 : R c ν h1 s := by
     rcases hh with rfl | ⟨x, hx, rfl⟩
     ·exact r
     ·exact r.forget hx
    have hnx : h1.nx = h.nx := by rcases hh with rfl | ⟨x, hx, rfl⟩ <;> rfl
    have hfz : h1.fz = h.fz := by rcases hh with rfl | ⟨x, hx, rfl⟩ <;> rfl
    exact Made.tarr (m := .grow) r1 Nu.le.refl hnx hfz (hac news) e (z := z) (.inr rfl) (fun _ => hzz) g2 (by rw [hnx] at hK ⊢; exact hK)
   split at hK
   ·rw [cv_nils hx]
    simp only []
    obtain ⟨hk0, hk1⟩ := hK ()
    by_cases hn : news.length = 0
    ·rw [if_pos hn]
     exact ⟨_, _, _, _, ν, rfl, hk0 (by rw [hn]; rfl), r, by simp only [Cv], Ex.refl h ν s⟩
    ·obtain ⟨hb, hK⟩ := hk1 (beq0 hn)
     have hK := newK_inv hK
     exact nilway h 0 [] (.inl rfl) rfl rfl hn (by rw [Nat.zero_add]; exact hb) (by rw [Nat.zero_add]; exact hK)
   ·rename_i q len
    have hq := getK_inv hK
    clear hK
    obtain ⟨ob, hob, hK⟩ := hq
    have hh := r.obj q ob hob
    simp only [Cv] at hx
    obtain ⟨h0, hx⟩ := hx
    split at hK
    rotate_left
    ·exact hK.elim
    rename_i κ' e' m ac
    split at hK
    rotate_left
    ·exact hK.elim
    rename_i l
    have two : (m = .grow ∧ e = e' ∧ Branch (Nat.beq news.length 0) (K (.grw q len) h) ((κ' = κ ∧ len = l.length ∧ len + news.length ≤ 4611686018427387904 ∧ (len + news.length) * bb ≤ 140737488355328) ∧ h.putK q .gone fun h' => h'.newK (.tarr κ e .grow (.recs (l ++ news))) fun p h'' => K (.grw p (len + news.length)) h'')) ∨
      (m = .own ∧ e = e' ∧ Branch (Nat.beq news.length 0) (K (.grw q len) h) ((κ' = κ ∧ len = l.length ∧ len + news.length ≤ 4611686018427387904 ∧ (len + news.length) * bb ≤ 140737488355328) ∧ h.newK (.tarr κ e .grow (.recs (l ++ news))) fun p h'' => K (.grw p (len + news.length)) h'')) := by
     split at hK
     ·rename_i e2; exact .inl ⟨rfl, Nat.eq_of_beq_eq_true e2, hK⟩
     ·rename_i e2; exact .inr ⟨rfl, Nat.eq_of_beq_eq_true e2, hK⟩
     ·exact hK.elim
    clear hK
    have zero : news.length = 0 → K (.grw q len) h := by
     intro hn
     have hb0 : Nat.beq news.length 0 = true := by rw [hn]; rfl
     rcases two with ⟨_, _, hK⟩ | ⟨_, _, hK⟩
     ·exact (hK ()).1 hb0
     ·exact (hK ()).1 hb0
    obtain ⟨ha, hh⟩ := hh
    rcases hx with ⟨h1, h2, rfl⟩ | ⟨B, h1, rfl⟩
    ·simp only []
     by_cases hn : news.length = 0
     ·rw [if_pos hn]
      exact ⟨_, _, _, _, ν, rfl, zero hn, r, by simp only [Cv]; exact ⟨h0, .inl ⟨h1, h2, trivial⟩⟩, Ex.refl h ν s⟩
     ·have hl0 : l.length = 0 := by
       rcases hh with hn' | ⟨B', cs, el, op, w, sp, f, z', k1, k2⟩
       ·exact hn'.2
       ·rw [k1] at h1; cases h1
      rcases two with ⟨_, _, hK⟩ | ⟨_, _, hK⟩
      ·obtain ⟨⟨_, hl, hb1, hb2⟩, hK⟩ := (hK ()).2 (beq0 hn)
       obtain ⟨hfz, hK⟩ := putK_inv hK
       have hK := newK_inv hK
       exact nilway ⟨h.nx, h.fz, (q, .gone) :: h.l⟩ len l (.inr ⟨q, h0, rfl⟩) h2 hl0 hn ⟨hb1, hb2⟩ hK
      ·obtain ⟨⟨_, hl, hb1, hb2⟩, hK⟩ := (hK ()).2 (beq0 hn)
       have hK := newK_inv hK
       exact nilway h len l (.inl rfl) h2 hl0 hn ⟨hb1, hb2⟩ hK
    ·simp only []
     by_cases hn : news.length = 0
     ·rw [if_pos hn, if_pos (Nat.le_refl _)]
      exact ⟨_, _, _, _, ν, rfl, zero hn, r, by simp only [Cv]; exact ⟨h0, .inr ⟨B, h1, rfl⟩⟩, Ex.refl h ν s⟩
     ·rw [if_neg hn, if_neg (by omega), i3]
      rcases hh with hn' | ⟨B', cs, el, op, w, sp, f, z', k1, k2, k3, k4, k5⟩
      ·rw [hn'.1] at h1; cases h1
      ·rw [k1] at h1; cases h1
       have k4 : cs.length = l.length * (kindsK κ' e').length := k4
       rcases two with ⟨rfl, rfl, hK⟩ | ⟨rfl, rfl, hK⟩
       ·obtain ⟨⟨rfl, hl, hb1, hb2⟩, hK⟩ := (hK ()).2 (beq0 hn)
        rw [if_pos ⟨hb1, hb2⟩]
        obtain ⟨hfz, hK⟩ := putK_inv hK
        have hK := newK_inv hK
        obtain ⟨rfl, rfl, rfl, q5⟩ := k3
        have hcl : cs.length = len * z := by rw [k4, hl, hzz]
        have hrc : RowC ν.G κ' (kindsK κ' e) l cs := ⟨k4, k5⟩
        simp only [k2]
        rw [if_pos ⟨trivial, hcl.symm, hrc.cells, by rw [q5, hzz]⟩]
        obtain ⟨u1, u2⟩ := set_upd r.ok r.kin k2 (cs' := cs) (e' := el) (op' := true) (sp' := true) (z' := z')
        have r1 := r.put (o' := .gone) hob hfz rfl k1 u1 trivial
        have hfam : fam s B = f := by unfold fam; rw [k2]; rfl
        have hn1 := u1.n
        have kB := r.kin B
        have hBlt := get_lt k2
        refine ⟨_, _, _, _, Nu.set ν h.nx (some (((if f = B then s else s.alone f).set B (.row cs el true true true f z')).n, 0)), rfl, hK, ?_, ?_, ?_⟩
        ·refine r1.push (q := .row (cs ++ ncs) e true true false f z') (o := .tarr κ' e .grow (.recs (l ++ news))) ?_ ?_ ?_ ?_ ?_ ?_ (fun cs e o w p f z hh => by cases hh; rfl) ?_
         ·simp only [famO]; rw [hn1]; omega
         ·intro y o' B2 b2 hy hl2 hB2
          simp only [famO]
          rw [get_cons] at hy
          split at hy
          ·simp at hy; subst hy; cases hl2
          ·rename_i hne
           have := r.sep q y _ o' B B2 0 b2 hne hob hy hfz rfl hl2 k1 hB2
           have e3 := u1.fam_same (fun e => this.1 e.symm) (fun e => this.2 e.symm)
           rw [e3, ← hfam]; exact fun e => this.2 e.symm
         ·intro b' hG
          simp only [famO]
          have := r.gsep q _ B 0 b' hob hfz rfl k1 hG
          have e3 := u1.fam_same (fun e => this.1 e.symm) (fun e => this.2 e.symm)
          rw [e3, ← hfam]; exact fun e => this.2 e.symm
         ·intro D hD
          simp only [famO]
          have := (r.th D hD).2.2.2 q _ B 0 hob hfz rfl k1
          rw [← hfam]; exact this.2
         ·intro D hD hd
          simp only [famO]
          have k2' := u1.d2
          exact ((r1.tc D hD).2 hd B _ _ _ _ _ _ _ (by omega) u2).2
         ·intro b' hG
          simp only [famO]
          have := r.gr.ga q _ B 0 b' hob hfz rfl k1 hG
          have e3 := u1.fam_same (fun e => this.1 e.symm) (fun e => this.2 e.symm)
          rw [e3, ← hfam]; exact fun e => this.2 e.symm
         ·have hA := hrc.app g2
          exact ⟨hac _, .inr ⟨_, cs ++ ncs, e, true, true, false, f, z', Nu.set_self, (by rw [sget_push, if_pos rfl]), ⟨rfl, rfl, rfl, q5⟩, hA.1, hA.2⟩⟩
        ·simp only [Cv]
         refine ⟨Nat.lt_succ_self _, .inr ⟨_, Nu.set_self, ?_⟩⟩
         rw [hn1]
        ·refine (Ex.put h ν s _ q .gone hn1).trans ?_
         exact Ex.push ⟨h.nx, h.fz, (q, .gone) :: h.l⟩ ν _ _ _ 0
       ·obtain ⟨⟨rfl, hl, hb1, hb2⟩, hK⟩ := (hK ()).2 (beq0 hn)
        rw [if_pos ⟨hb1, hb2⟩]
        have hK := newK_inv hK
        obtain ⟨rfl, rfl, rfl, rfl⟩ := k3
        have hcl : cs.length = len * z := by rw [k4, hl, hzz]
        have hrc : RowC ν.G κ' (kindsK κ' e) l cs := ⟨k4, k5⟩
        simp only [k2]
        rw [if_pos ⟨by omega, hrc.cells⟩]
        have e4 : (cs.drop 0).take (len * z) = cs := by rw [List.drop_zero]; exact List.take_of_length_le (by omega)
        rw [e4]
        have hd : (l ++ news).length = len + news.length := by rw [List.length_append, hl]
        have := Made.tarr (m := .grow) r Nu.le.refl rfl rfl (hac (l ++ news)) e (z := z) (.inr rfl) (fun _ => hzz) (hrc.app g2) (by rw [hd]; exact hK)
        rw [hd] at this
        exact this
   ·exact hK.elim
 ·exact hK.elim
end Go.Vm2
