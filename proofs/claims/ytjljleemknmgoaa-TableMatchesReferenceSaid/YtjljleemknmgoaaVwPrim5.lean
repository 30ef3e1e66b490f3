/-
 Part of the proof that a machine over named lists stands for the program's runs (VwPrim5). No conditions beyond those that its theorems name.
-/
import Derived.Test.YtjljleemknmgoaaVwPrim4
namespace Go.Vm2
open Go Go.Vm
set_option linter.unusedVariables false
set_option linter.unusedSectionVars false
variable [Facts] {P : Program} {tt : TT} {c : Px} {ν : Nu} {h : H} {s : St}
theorem ckEq_eq {a b : CK} (h : ckEq a b = true) : a = b := by
 unfold ckEq at h
 split at h
 ·rw [kindEq_eq h]
 ·rfl
 ·rfl
 ·rfl
 ·rw [Nat.eq_of_beq_eq_true h]
 ·cases h
theorem cksEq_eq : ∀ {a b : List CK}, cksEq a b = true → a = b
 | [], [], _ => rfl
 | [], _ :: _, h => by simp [cksEq] at h
 | _ :: _, [], h => by simp [cksEq] at h
 | x :: a, y :: b, h => by
  simp only [cksEq, Bool.and_eq_true] at h
  rw [ckEq_eq h.1, cksEq_eq h.2]
theorem rowAV_cells : ∀ (ks : List CK) (j : Nat) (ds : List D), Vm.cellsOk (rowAV ks j ds) = true
 | [], j, ds => rfl
 | k :: ks, j, ds => by
  simp only [rowAV, Vm.cellsOk, Bool.and_eq_true]
  exact ⟨by cases k <;> rfl, rowAV_cells ks (j + 1) ds⟩
theorem cellsOk_append : ∀ (a b : List AV), Vm.cellsOk (a ++ b) = (Vm.cellsOk a && Vm.cellsOk b)
 | [], b => rfl
 | x :: a, b => by simp [Vm.cellsOk, cellsOk_append a b, Bool.and_assoc]
theorem avs_cells {ks : List CK} {a : AC} (hk : ksOk ks a) : Vm.cellsOk (a.avs ks) = true := by
 cases a with
 | ints l =>
  obtain ⟨k, rfl⟩ := hk
  simp only [AC.avs]
  induction l with
  | nil => rfl
  | cons x l ih => simp only [List.map_cons, Vm.cellsOk, Bool.and_eq_true]; exact ⟨rfl, ih⟩
 | recs l =>
  simp only [AC.avs]
  clear hk
  induction l with
  | nil => rfl
  | cons x l ih => simp only [List.flatMap_cons, cellsOk_append, rowAV_cells, Bool.true_and]; exact ih
theorem take_avs {ks : List CK} {a : AC} (hk : ksOk ks a) {o len : Nat} {K : AC → Prop} (hK : a.takeK o len K) : ∃ b, K b ∧ ksOk ks b ∧ (o + len ≤ a.len → b.len = len) ∧ b.avs ks = ((a.avs ks).drop (o * ks.length)).take (len * ks.length) := by
 cases a with
 | ints l =>
  obtain ⟨k, rfl⟩ := hk
  refine ⟨_, hK, ⟨k, rfl⟩, fun e => by simp only [AC.len] at e ⊢; simp; omega, ?_⟩
  simp [AC.avs, List.map_take, List.map_drop]
 | recs l =>
  refine ⟨_, hK, hk, fun e => by simp only [AC.len] at e ⊢; simp; omega, ?_⟩
  simp only [AC.avs]
  rw [flat_drop (fun x => rowAV_length ks 0 x), flat_take (fun x => rowAV_length ks 0 x)]
theorem app_avs {ks : List CK} {a b : AC} (hk : ksOk ks a) (hb : ksOk ks b) {K : AC → Prop} (hK : a.appK b K) : ∃ d, K d ∧ ksOk ks d ∧ d.len = a.len + b.len ∧ d.avs ks = a.avs ks ++ b.avs ks := by
 unfold AC.appK at hK
 split at hK
 ·obtain ⟨k, rfl⟩ := hk
  exact ⟨_, hK, ⟨k, rfl⟩, by simp [AC.len], by simp [AC.avs]⟩
 ·exact ⟨_, hK, hk, by simp [AC.len], by simp [AC.avs]⟩
 ·exact hK.elim
theorem given_ok (r : R c ν h s) {ks : List CK} (hks : 0 < ks.length) {y : V} {b : AV} {K : Nat → AC → Prop} (hy : Cv h.nx ν y b) (hK : givenV h ks y K) : ∃ n news, givenA s ks.length b = some (n, news.avs ks) ∧ ksOk ks news ∧ news.len = n ∧ K n news := by
 unfold givenV at hK
 split at hK
 ·simp only [Cv] at hy; subst hy
  split at hK
  ·rename_i k
   exact ⟨0, .ints [], by simp [givenA, AC.avs], ⟨k, rfl⟩, rfl, hK⟩
  ·exact ⟨0, .recs [], by simp [givenA, AC.avs], List.length_pos_iff.1 hks, rfl, hK⟩
 ·rename_i x len
  have hq := getK_inv hK
  clear hK
  obtain ⟨ob, hob, hK⟩ := hq
  have hh := r.obj x ob hob
  simp only [Cv] at hy
  obtain ⟨h0, hy⟩ := hy
  split at hK
  ·rename_i ks' m a
   split at hK
   ·rename_i e
    have e := cksEq_eq e; subst e
    obtain ⟨hl, hK⟩ := hK ()
    obtain ⟨hk, hn | ⟨B', b0', r', g1, g2, g3⟩⟩ := hh
    ·rcases hy with ⟨h1, h2, rfl⟩ | ⟨B, h1, rfl⟩
     ·refine ⟨len, a, ?_, hk, hl.symm, hK⟩
      have : a.avs ks = [] := by
       have := avs_length hk
       rw [hn.2, Nat.zero_mul] at this
       exact List.eq_nil_of_length_eq_zero this
      rw [this, h2]; rfl
     ·rw [hn.1] at h1; cases h1
    ·rcases hy with ⟨h1, h2, rfl⟩ | ⟨B, h1, rfl⟩
     ·rw [g1] at h1; cases h1
     ·rw [g1] at h1; cases h1
      obtain ⟨cs, e, op, w, sp, f, z, rfl, q1, q2⟩ := g3.row hk
      refine ⟨len, a, ?_, hk, hl.symm, hK⟩
      simp only [givenA, g2]
      rw [if_pos (by rw [hl]; exact q1), hl, q2]
   ·exact hK.elim
  ·exact hK.elim
 ·rename_i x z o len
  have hq := getK_inv hK
  clear hK
  obtain ⟨ob, hob, hK⟩ := hq
  have hh := r.obj x ob hob
  simp only [Cv] at hy
  obtain ⟨h0, hy⟩ := hy
  split at hK
  ·rename_i ks' m a
   split at hK
   ·rename_i e1 e2
    have e1 := cksEq_eq e1; subst e1
    have e2 := Nat.eq_of_beq_eq_true e2
    rw [len'_eq] at e2
    subst e2
    obtain ⟨hl, hK⟩ := hK ()
    obtain ⟨hk, hh⟩ := hh
    obtain ⟨d, d1, d2, d3, d4⟩ := take_avs hk hK
    have d3 := d3 hl
    refine ⟨len, d, ?_, d2, d3, d1⟩
    rcases hh with hn | ⟨B', b0', r', g1, g2, g3⟩
    ·rcases hy with ⟨h1, h2, rfl⟩ | ⟨B, b0, cap, o', h1, h2, h3, h4, rfl⟩
     ·subst h2
      rw [d4]; simp [givenA]
     ·rw [hn.1] at h1; cases h1
    ·rcases hy with ⟨h1, h2, rfl⟩ | ⟨B, b0, cap, o', h1, h2, h3, h4, rfl⟩
     ·rw [g1] at h1; cases h1
     ·rw [g1] at h1; cases h1
      obtain ⟨cs, e, op, w, sp, f, z, rfl, q1, q2⟩ := g3.row hk
      simp only [givenA, g2]
      have hm1 : o * ks.length + len * ks.length ≤ a.len * ks.length := by rw [← Nat.add_mul]; exact Nat.mul_le_mul_right _ hl
      have hm2 : o' * ks.length ≤ o * ks.length := Nat.mul_le_mul_right _ h3
      rw [if_pos (by omega)]
      congr 2
      rcases h4 with e4 | e4
      ·subst e4
       rw [d4, ← q2, List.drop_take, List.drop_drop, List.take_take]
       congr 1
       omega
      ·have : len = 0 := by omega
       subst this
       rw [d4]; simp
   ·exact hK.elim
  ·exact hK.elim
 ·rename_i κ e a
  split at hK
  ·rename_i e1 e2
   have e1 := cksEq_eq e1
   have hK : K a.len a := by cases a <;> exact hK
   obtain ⟨q0, ⟨q1, hb⟩ | ⟨B, b0, cap, rfl, q2, q3⟩⟩ := lst_cv hy
   ·refine ⟨a.len, a, ?_, by rw [e1]; exact q0.ks, rfl, hK⟩
    have : a.avs ks = [] := by
     have := avs_length q0.ks
     rw [q1, Nat.zero_mul, ← e1] at this
     exact List.eq_nil_of_length_eq_zero this
    rcases hb with rfl | ⟨x, rfl⟩ <;> (rw [this, q1]; rfl)
   ·obtain ⟨cs, el, op, w, sp, f, z, g1, g2, g3⟩ := q3.avs (by rw [← e1]; exact e2)
    rw [← e1] at g2 g3
    refine ⟨a.len, a, ?_, by rw [e1]; exact q0.ks, rfl, hK⟩
    simp only [givenA, r.gr.gl B _ g1]
    rw [if_pos g2, g3]
  ·exact hK.elim
 ·exact hK.elim
theorem set_upd (hok : s.ok) (hkin : ∀ b, fam s b ≤ b) {B : Nat} {cs cs' : List AV} {e e' : TypeId} {op op' sp sp' : Bool} {f z z' : Nat} (hB : s.get B = some (.row cs e op true sp f z)) :
  Upd s ((if f = B then s else s.alone f).set B (.row cs' e' op' true sp' f z')) B ∧ ((if f = B then s else s.alone f).set B (.row cs' e' op' true sp' f z')).get B = some (.row cs' e' op' true sp' f z') := by
 have hlt := get_lt hB
 have hfam : fam s B = f := by unfold fam; rw [hB]; rfl
 by_cases hf : f = B
 ·rw [if_pos hf]
  refine ⟨⟨rfl, sok_set _ _ hok, ?_, ?_, ?_, minF_l _ _, minF_r _ _, fun D h1 h2 h3 => le_minF h1 h2⟩, by rw [sget_set _ _ _ hok hlt, if_pos rfl]⟩
  ·unfold fam; rw [sget_set _ _ _ hok hlt, if_pos rfl, hB]; rfl
  ·intro cs e o w p f z hh; rw [sget_set _ _ _ hok hlt, if_pos rfl] at hh; cases hh; rfl
  ·intro b hb; left; rw [sget_set _ _ _ hok hlt, if_neg hb]
 ·rw [if_neg hf]
  have hok2 := sok_alone f hok
  have g : ∀ b, (St.set (s.alone f) B (.row cs' e' op' true sp' f z')).get b = if b = B then some (.row cs' e' op' true sp' f z') else (s.get b).map (AO.kin f) := by
   intro b; rw [sget_set _ _ _ hok2 hlt]; split
   ·rfl
   ·rw [sget_alone]
  refine ⟨⟨rfl, sok_set _ _ hok2, ?_, ?_, ?_, ?_, minF_r _ _, ?_⟩, by rw [g, if_pos rfl]⟩
  ·unfold fam; rw [g, if_pos rfl, hB]; rfl
  ·intro cs e o w p f z hh; rw [g, if_pos rfl] at hh; cases hh; rfl
  ·intro b hb
   rw [g, if_neg hb]
   cases hs : s.get b with
   | none => left; rfl
   | some a =>
    cases a with
    | row c2 e2 o2 w2 p2 f2 z2 =>
     by_cases hff : f2 = f
     ·right
      subst hff
      have hfb : fam s b = f2 := by unfold fam; rw [hs]; rfl
      refine ⟨by rw [hfb, hfam], by simp [AO.kin], ?_⟩
      have := hkin b
      rw [hfb] at this
      simp only [St.set_def, St.alone_def]
      omega
     ·left; simp [AO.kin, hff]
    | _ => left; rfl
  ·simp only [St.set_def, St.alone_def]; omega
  ·intro D h1 h2 h3
   rw [hfam] at h3
   simp only [St.set_def, St.alone_def]; omega
def Made (res : Res) (c : Px) (ν : Nu) (h : H) (s : St) (K : V → H → Prop) : Prop :=
 ∃ a os v h' ν', res = some (a, os) ∧ K v h' ∧ R c ν' h' (os.getD s) ∧ Cv h'.nx ν' v a ∧ Ex h ν s h' ν' (os.getD s)
theorem Made.new (r : R c ν h s) {K : V → H → Prop} {ks : List CK} {m : Mode} {a : AC} (hk : ksOk ks a) (e : TypeId) {z : Nat} (hm : m ≠ .ro ∧ m ≠ .rd) (hz : m = .grow → z = ks.length) {h1 : H} (hh : h1 = h ∨ ∃ x, x < h.nx ∧ h1 = ⟨h.nx, h.fz, (x, .gone) :: h.l⟩) (hK : K (.grw h.nx a.len) ⟨h1.nx + 1, h1.fz, (h1.nx, .arr ks m a) :: h1.l⟩) :
  Made (some (.slc s.n 0 a.len a.len, some (Vm.newRow s (a.avs ks) e (match m with | .grow => true | _ => false) z))) c ν h s K := by
 have r1 : R c ν h1 s := by
  rcases hh with rfl | ⟨x, hx, rfl⟩
  ·exact r
  ·exact r.forget hx
 have hnx : h1.nx = h.nx := by rcases hh with rfl | ⟨x, hx, rfl⟩ <;> rfl
 have hfz : h1.fz = h.fz := by rcases hh with rfl | ⟨x, hx, rfl⟩ <;> rfl
 refine ⟨_, _, _, _, Nu.set ν h1.nx (some (s.n, 0)), rfl, hK, ?_, ?_, ?_⟩
 ·refine r1.push_new rfl (fun cs e o w p f z hh => by cases hh; rfl) ?_
  refine ⟨hk, .inr ⟨s.n, 0, _, Nu.set_self, (by show (s.push _).get s.n = _; rw [sget_push, if_pos rfl]), ?_⟩⟩
  cases m with
  | ro => exact absurd rfl hm.1
  | rd => exact absurd rfl hm.2
  | own => exact ⟨rfl, rfl, rfl, rfl, rfl, rfl⟩
  | grow => exact ⟨rfl, rfl, rfl, rfl, hz rfl, rfl⟩
 ·simp only [Cv]
  rw [hnx]
  exact ⟨Nat.lt_succ_self _, .inr ⟨s.n, Nu.set_self, rfl⟩⟩
 ·have := Ex.push h1 ν s (AO.row (a.avs ks) e (match m with | .grow => true | _ => false) true false s.n z) (.arr ks m a) 0
  exact ⟨this.same.sub (by rw [hnx]; exact Nat.le_refl _), (by show h.nx ≤ h1.nx + 1; omega), hfz, this.n, fun x B b k1 k2 k3 => this.new x B b (by rw [hnx]; exact k1) k2 k3⟩
theorem append_ok (ht : TTok P tt) (r : R c ν h s) {t : TypeId} {x y : V} {a b : AV} {K : V → H → Prop} (hx : Cv h.nx ν x a) (hy : Cv h.nx ν y b) (hK : appendV tt h t x y K) :
  Made (appendA P s [t, t] a b) c ν h s K := by
 unfold appendV at hK
 split at hK
 ·rename_i e z bb ks hty
  have hs := tyOf_slice ht hty
  obtain ⟨i, i1, i2, i3⟩ := hs.info
  obtain ⟨zv, az, z1, z2, z3, z4⟩ := hs.zero
  split at hK
  ·exact hK.elim
  ·have hkl := hs.len
   have hgv := given_ok r (by rw [hkl]; exact hs.pos) hy hK
   clear hK
   obtain ⟨n, news, g1, g2, g3, hK⟩ := hgv
   rw [hkl] at g1
   have hzk : zOk P e i.size = true := by simp only [zOk, z2, z3, i2, beq_self_eq_true]
   have hnc := avs_cells g2
   have hnl := avs_length g2
   have head : ¬ (i.size = 0 ∨ Vm.cellsOk (news.avs ks) = false ∨ zOk P e i.size = false) := by
    rw [hzk, hnc, i2]; have := hs.pos; simp; omega
   simp only [appendA, hs.und, i1, i2, g1]
   rw [i2] at head
   rw [if_neg head]
   have nilway : ∀ (h1 : H) (len : Nat) (d : AC), (h1 = h ∨ ∃ x, x < h.nx ∧ h1 = ⟨h.nx, h.fz, (x, .gone) :: h.l⟩) → len = 0 → n ≠ 0 → (len + n ≤ 4611686018427387904 ∧ (len + n) * bb ≤ 140737488355328) → ksOk ks d → d.len = n → d.avs ks = news.avs ks → K (.grw h.nx (len + n)) ⟨h1.nx + 1, h1.fz, (h1.nx, .arr ks .grow d) :: h1.l⟩ →
     Made (if n = 0 then some (AV.nils, none) else if n ≤ 4611686018427387904 ∧ n * i.bytes ≤ 140737488355328 then some (.slc s.n 0 n n, some (Vm.newRow s (news.avs ks) e true z)) else none) c ν h s K := by
    intro h1 len d hh hl hn hb hk hd hda hK
    subst hl
    rw [Nat.zero_add] at hb hK
    rw [if_neg hn, i3, if_pos hb]
    have := Made.new r hk e (m := .grow) (z := z) (by simp) (fun _ => hkl.symm) hh (by rw [hd]; exact hK)
    rw [hd, hda] at this
    exact this
   split at hK
   ·
    simp only [Cv] at hx; subst hx
    obtain ⟨hk0, hk1⟩ := hK ()
    by_cases hn : n = 0
    ·subst hn
     rw [if_pos rfl]
     exact ⟨_, _, _, _, ν, rfl, hk0 rfl, r, by simp only [Cv], Ex.refl h ν s⟩
    ·obtain ⟨hb, hK⟩ := hk1 (by cases hh : Nat.beq n 0 with | false => rfl | true => exact absurd (Nat.eq_of_beq_eq_true hh) hn)
     have hK := newK_inv hK
     exact nilway h 0 news (.inl rfl) rfl hn (by rw [Nat.zero_add]; exact hb) g2 g3 rfl (by rw [Nat.zero_add]; exact hK)
   ·rename_i q len
    have hq := getK_inv hK
    clear hK
    obtain ⟨ob, hob, hK⟩ := hq
    have hh := r.obj q ob hob
    simp only [Cv] at hx
    obtain ⟨h0, hx⟩ := hx
    rcases hx with ⟨h1, h2, rfl⟩ | ⟨B, h1, rfl⟩
    ·
     have same : n = 0 → K (.grw q len) h → Made (if n = 0 then some (AV.nils, none) else if n ≤ 4611686018427387904 ∧ n * i.bytes ≤ 140737488355328 then some (.slc s.n 0 n n, some (Vm.newRow s (news.avs ks) e true z)) else none) c ν h s K := by
      intro hn hK
      rw [if_pos hn]
      exact ⟨_, _, _, _, ν, rfl, hK, r, by simp only [Cv]; exact ⟨h0, .inl ⟨h1, h2, trivial⟩⟩, Ex.refl h ν s⟩
     split at hK
     ·rename_i ks' m ac
      have hnil : ksOk ks' ac ∧ ac.len = 0 := by
       obtain ⟨hk, hnn | ⟨B', b0', r', k1, k2, k3⟩⟩ := hh
       ·exact ⟨hk, hnn.2⟩
       ·rw [k1] at h1; cases h1
      obtain ⟨hk, hac⟩ := hnil
      have hav : ac.avs ks' = [] := List.eq_nil_of_length_eq_zero (by rw [avs_length hk, hac, Nat.zero_mul])
      split at hK
      ·rename_i e1
       have e1 := cksEq_eq e1; subst e1
       obtain ⟨hk0, hk1⟩ := hK ()
       by_cases hn : n = 0
       ·exact same hn (hk0 (by rw [hn]; rfl))
       ·obtain ⟨⟨hl, hb1, hb2⟩, hK⟩ := hk1 (by cases hh : Nat.beq n 0 with | false => rfl | true => exact absurd (Nat.eq_of_beq_eq_true hh) hn)
        obtain ⟨hfz, hK⟩ := putK_inv hK
        obtain ⟨d, hK, d1, d2, d3⟩ := app_avs hk g2 hK
        have hK := newK_inv hK
        exact nilway ⟨h.nx, h.fz, (q, .gone) :: h.l⟩ len d (.inr ⟨q, h0, rfl⟩) h2 hn ⟨hb1, hb2⟩ d1 (by rw [d2, hac, g3]; omega) (by rw [d3, hav]; rfl) hK
      ·rename_i e1
       have e1 := cksEq_eq e1; subst e1
       obtain ⟨hk0, hk1⟩ := hK ()
       by_cases hn : n = 0
       ·exact same hn (hk0 (by rw [hn]; rfl))
       ·obtain ⟨⟨hl, hb1, hb2⟩, hK⟩ := hk1 (by cases hh : Nat.beq n 0 with | false => rfl | true => exact absurd (Nat.eq_of_beq_eq_true hh) hn)
        obtain ⟨d, hK, d1, d2, d3⟩ := app_avs hk g2 hK
        have hK := newK_inv hK
        exact nilway h len d (.inl rfl) h2 hn ⟨hb1, hb2⟩ d1 (by rw [d2, hac, g3]; omega) (by rw [d3, hav]; rfl) hK
      ·exact hK.elim
     ·exact hK.elim
    ·
     simp only []
     by_cases hn : n = 0
     ·have hK : K (.grw q len) h := by
       have hb0 : Nat.beq n 0 = true := by rw [hn]; rfl
       split at hK
       ·split at hK
        ·exact (hK ()).1 hb0
        ·exact (hK ()).1 hb0
        ·exact hK.elim
       ·exact hK.elim
      rw [if_pos hn, if_pos (Nat.le_refl _)]
      exact ⟨_, _, _, _, ν, rfl, hK, r, by simp only [Cv]; exact ⟨h0, .inr ⟨B, h1, rfl⟩⟩, Ex.refl h ν s⟩
     ·have hb0 : Nat.beq n 0 = false := by cases hh : Nat.beq n 0 with | false => rfl | true => exact absurd (Nat.eq_of_beq_eq_true hh) hn
      rw [if_neg hn, if_neg (by omega), i3]
      split at hK
      ·rename_i ks' m ac
       obtain ⟨hk, hnn | ⟨B', b0', r', k1, k2, k3⟩⟩ := hh
       ·rw [hnn.1] at h1; cases h1
       ·rw [k1] at h1; cases h1
        split at hK
        ·rename_i e1
         have e1 := cksEq_eq e1; subst e1
         obtain ⟨⟨hl, hb1, hb2⟩, hK⟩ := (hK ()).2 hb0
         rw [if_pos ⟨hb1, hb2⟩]
         obtain ⟨hfz, hK⟩ := putK_inv hK
         obtain ⟨d, hK, d1, d2, d3⟩ := app_avs hk g2 hK
         have hK := newK_inv hK
         cases r' <;> simp only [RowOk] at k3
         rename_i cs e' op w sp f zz
         obtain ⟨-, rfl, rfl, rfl, q5, q6⟩ := k3
         have hcl : cs.length = len * z := by rw [q6, avs_length hk, hl, hkl]
         simp only [k2]
         rw [if_pos ⟨trivial, hcl.symm, by rw [q6]; exact avs_cells hk, by rw [q5, hkl]⟩]
         obtain ⟨u1, u2⟩ := set_upd r.ok r.kin k2 (cs' := cs) (e' := e') (op' := true) (sp' := true) (z' := zz)
         have r1 := r.put (o' := .gone) hob hfz rfl k1 u1 trivial
         have hfam : fam s B = f := by unfold fam; rw [k2]; rfl
         have hn1 := u1.n
         have kB := r.kin B
         have hBlt := get_lt k2
         refine ⟨_, _, _, _, Nu.set ν h.nx (some (((if f = B then s else s.alone f).set B (.row cs e' true true true f zz)).n, 0)), rfl, hK, ?_, ?_, ?_⟩
         ·refine r1.push (q := .row (cs ++ news.avs ks) e true true false f zz) ?_ ?_ ?_ ?_ ?_ ?_ (fun cs e o w p f z hh => by cases hh; rfl) ?_
          ·simp only [famO]; rw [hn1]; omega
          ·intro y o' B2 b2 hy hl2 hB2
           simp only [famO]
           rw [get_cons] at hy
           split at hy
           ·simp at hy; subst hy; cases hl2
           ·rename_i hne
            have := r.sep q y _ o' B B2 0 b2 hne hob hy hfz rfl hl2 k1 hB2
            have e3 := u1.fam_same (fun e => this.1 e.symm) (fun e => this.2 e.symm)
            rw [e3, ← hfam]; exact fun e => this.2 e.symm
          ·intro b' hG
           simp only [famO]
           have := r.gsep q _ B 0 b' hob hfz rfl k1 hG
           have e3 := u1.fam_same (fun e => this.1 e.symm) (fun e => this.2 e.symm)
           rw [e3, ← hfam]; exact fun e => this.2 e.symm
          ·intro D hD
           simp only [famO]
           have := (r.th D hD).2.2.2 q _ B 0 hob hfz rfl k1
           rw [← hfam]; exact this.2
          ·intro D hD hd
           simp only [famO]
           have k2' := u1.d2
           exact ((r1.tc D hD).2 hd B _ _ _ _ _ _ _ (by omega) u2).2
          ·intro b' hG
           simp only [famO]
           have := r.gr.ga q _ B 0 b' hob hfz rfl k1 hG
           have e3 := u1.fam_same (fun e => this.1 e.symm) (fun e => this.2 e.symm)
           rw [e3, ← hfam]; exact fun e => this.2 e.symm
          ·refine ⟨d1, .inr ⟨_, 0, _, Nu.set_self, by rw [sget_push, if_pos rfl], ?_⟩⟩
           exact ⟨rfl, rfl, rfl, rfl, q5, by rw [d3, q6]⟩
         ·simp only [Cv]
          refine ⟨Nat.lt_succ_self _, .inr ⟨_, Nu.set_self, ?_⟩⟩
          rw [hn1]
         ·refine (Ex.put h ν s _ q .gone hn1).trans ?_
          exact Ex.push ⟨h.nx, h.fz, (q, .gone) :: h.l⟩ ν _ _ _ 0
        ·rename_i e1
         have e1 := cksEq_eq e1; subst e1
         obtain ⟨⟨hl, hb1, hb2⟩, hK⟩ := (hK ()).2 hb0
         rw [if_pos ⟨hb1, hb2⟩]
         obtain ⟨d, hK, d1, d2, d3⟩ := app_avs hk g2 hK
         have hK := newK_inv hK
         cases r' <;> simp only [RowOk] at k3
         rename_i cs e' op w sp f zz
         obtain ⟨-, rfl, rfl, rfl, rfl, q6⟩ := k3
         have hcl : cs.length = len * z := by rw [q6, avs_length hk, hl, hkl]
         simp only [k2]
         rw [if_pos ⟨by omega, by rw [q6]; exact avs_cells hk⟩]
         have hd : d.len = len + n := by rw [d2, hl, g3]
         have := Made.new r d1 e (m := .grow) (z := z) (by simp) (fun _ => hkl.symm) (.inl rfl) (by rw [hd]; exact hK)
         rw [hd, d3, ← q6] at this
         have e4 : (cs.drop 0).take (len * z) = cs := by rw [List.drop_zero]; exact List.take_of_length_le (by omega)
         rw [e4]
         exact this
        ·exact hK.elim
      ·exact hK.elim
   ·exact hK.elim
 ·exact hK.elim
end Go.Vm2
