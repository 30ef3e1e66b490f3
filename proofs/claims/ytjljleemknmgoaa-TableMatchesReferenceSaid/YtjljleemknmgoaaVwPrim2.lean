/-
 Part of the proof that a machine over named lists stands for the program's runs (VwPrim2). No conditions beyond those that its theorems name.
-/
import Derived.Test.YtjljleemknmgoaaVwPrim
namespace Go.Vm2
open Go Go.Vm
set_option linter.unusedVariables false
set_option linter.unusedSectionVars false
variable [Facts] {P : Program} {tt : TT} {c : Px} {ν : Nu} {h : H} {s : St}
def PartsRel (n : Nat) (ν : Nu) : List (Nat × V) → List (Nat × AV) → Prop
 | [], l => l = []
 | (i, v) :: ps, l => ∃ a r, l = (i, a) :: r ∧ Cv n ν v a ∧ PartsRel n ν ps r
theorem partsV_ok {n nt : Nat} {ν : Nu} {l : List (Nat × V)} {t : List AV} (hf : FrRel n ν nt l t) : ∀ {xs : List (Nat × Operand)} {ps : List (Nat × V)}, partsV l xs = some ps → ∃ r, partsA t xs = some r ∧ PartsRel n ν ps r
 | [], ps, e => by simp [partsV] at e; subst e; exact ⟨[], rfl, rfl⟩
 | (i, x) :: xs, ps, e => by
  simp only [partsV] at e
  split at e
  ·rename_i v h1
   split at e
   ·rename_i r h2
    simp at e; subst e
    obtain ⟨a, k1, k2⟩ := eval_cv hf h1
    obtain ⟨r', k3, k4⟩ := partsV_ok hf h2
    exact ⟨(i, a) :: r', by simp [partsA, k1, k3], a, r', rfl, k2, k4⟩
   ·simp at e
  ·simp at e
theorem putCells_length : ∀ (vs : List AV) (cs : List AV) (o : Nat), (Vm.putCells cs o vs).length = cs.length
 | [], cs, o => rfl
 | v :: vs, cs, o => by rw [Vm.putCells, putCells_length vs]; simp
theorem fill_ok {n : Nat} {ν : Nu} {fs : List FI} : ∀ {ps : List (Nat × V)} {pa : List (Nat × AV)} {cs : List V} {as : List AV} {r : List V}, Cvs n ν cs as → PartsRel n ν ps pa → fill fs cs ps = some r →
  ∃ r', fillA (fun i => (fs.map fun f => (f.off, f.size))[i]?) as pa = some r' ∧ Cvs n ν r r'
 | [], pa, cs, as, r, hc, hp, hf => by
  cases hp; simp [fill] at hf; subst hf; exact ⟨as, rfl, hc⟩
 | (i, v) :: ps, pa, cs, as, r, hc, hp, hf => by
  obtain ⟨a, pa', rfl, h2, h3⟩ := hp
  simp only [fill, nth_eq] at hf
  split at hf
  ·rename_i f hfi
   split at hf
   ·rename_i e1 e2
    have e1 := Nat.eq_of_beq_eq_true e1
    have e2 := Nat.le_of_ble_eq_true e2
    rw [len'_eq] at e1 e2
    have hcl := h2.cells.length
    have hal := hc.length
    obtain ⟨r', k1, k2⟩ := fill_ok (hc.putCells f.off h2.cells) h3 hf
    refine ⟨r', ?_, k2⟩
    rw [fillA]
    have : (fs.map fun f => (f.off, f.size))[i]? = some (f.off, f.size) := by simp [hfi]
    simp only [this]
    rw [if_neg]
    ·exact k1
    ·simp; omega
   ·simp at hf
  ·simp at hf
theorem build_ok (ht : TTok P tt) {n nt : Nat} {l : List (Nat × V)} {t : List AV} (hf : FrRel n ν nt l t) {ty : TypeId} {ti : TI} (h1 : look tt ty = some ti) {fs : List FI} (h2 : ti.ty = .struct fs) {xs : List (Nat × Operand)} {ps : List (Nat × V)} (h3 : partsV l xs = some ps) {cs : List V} (h4 : fill fs ti.zero.cells ps = some cs) :
  ∃ pa as, partsA t xs = some pa ∧ buildA P ty pa = some (.agg as) ∧ Cvs n ν cs as := by
 obtain ⟨pa, k1, k2⟩ := partsV_ok hf h3
 obtain ⟨m1, m2, m3, m4⟩ := mkTI_inv (ht ty ti h1)
 obtain ⟨z, z1, z2⟩ := zeroV_cv m3 n ν
 have hty : tyOf tt ty = .struct fs := by unfold tyOf; rw [h1]; exact h2
 obtain ⟨fields, u1, u2⟩ := tyOf_struct ht hty
 obtain ⟨r', k3, k4⟩ := fill_ok z2.cells k2 h4
 refine ⟨pa, r', k1, ?_, k4⟩
 simp only [buildA, z1, u1, mkFIs_places u2, k3, Option.map_some]
theorem fillA_more {f g : Nat → Option (Nat × Nat)} (hfg : ∀ i p, f i = some p → g i = some p) : ∀ {ps : List (Nat × AV)} {as r : List AV}, fillA f as ps = some r → fillA g as ps = some r
 | [], as, r, h => h
 | (i, v) :: ps, as, r, h => by
  simp only [fillA] at h ⊢
  split at h
  ·cases h
  ·rename_i off size hp
   rw [hfg i _ hp]
   split at h
   ·cases h
   ·rename_i hn
    simp only []
    rw [if_neg hn]
    exact fillA_more hfg h
theorem buildArr_ok (ht : TTok P tt) {n nt : Nat} {l : List (Nat × V)} {t : List AV} (hf : FrRel n ν nt l t) {ty : TypeId} {ti : TI} (h1 : look tt ty = some ti) {len e z : Nat} (h2 : ti.ty = .array len e z) {xs : List (Nat × Operand)} {ps : List (Nat × V)} (h3 : partsV l xs = some ps) {cs : List V} (h4 : fill (arrFIs z len) ti.zero.cells ps = some cs) :
  ∃ pa as, partsA t xs = some pa ∧ buildA P ty pa = some (.agg as) ∧ Cvs n ν cs as := by
 obtain ⟨pa, k1, k2⟩ := partsV_ok hf h3
 obtain ⟨m1, m2, m3, m4⟩ := mkTI_inv (ht ty ti h1)
 obtain ⟨y, z1, z2⟩ := zeroV_cv m3 n ν
 have hty : tyOf tt ty = .array len e z := by unfold tyOf; rw [h1]; exact h2
 obtain ⟨u1, u2⟩ := tyOf_array ht hty
 obtain ⟨r', k3, k4⟩ := fill_ok z2.cells k2 h4
 have k5 := fillA_more (g := fun i => some (i * z, z)) (fun i p hp => by
  simp only [arrFIs, List.map_map, List.getElem?_map, Option.map_eq_some_iff] at hp
  obtain ⟨j, hj, rfl⟩ := hp
  rw [(List.getElem?_eq_some_iff.1 hj).2.symm]
  simp) k3
 refine ⟨pa, r', k1, ?_, k4⟩
 simp only [buildA, z1, u1, u2, k5, Option.map_some]
theorem rowAV_length : ∀ (ks : List CK) (j : Nat) (ds : List D), (rowAV ks j ds).length = ks.length
 | [], j, ds => rfl
 | c :: ks, j, ds => by simp [rowAV, rowAV_length ks]
theorem rowAV_get : ∀ (ks : List CK) (j0 : Nat) (ds : List D) (j : Nat) (c : CK), ks[j]? = some c → (rowAV ks j0 ds)[j]? = some (c.av (ds.getD (j0 + j) (.n 0)))
 | [], j0, ds, j, c, h => by simp at h
 | c' :: ks, j0, ds, 0, c, h => by simp at h; subst h; simp [rowAV]
 | c' :: ks, j0, ds, j + 1, c, h => by
  simp at h
  simp only [rowAV, List.getElem?_cons_succ]
  rw [rowAV_get ks (j0 + 1) ds j c h]
  have : j0 + 1 + j = j0 + (j + 1) := by omega
  rw [this]
theorem flat_length {α : Type} {f : α → List AV} {z : Nat} (hf : ∀ x, (f x).length = z) : ∀ (l : List α), (l.flatMap f).length = l.length * z
 | [] => by simp
 | x :: l => by simp [flat_length hf l, hf x]; rw [Nat.add_mul]; omega
theorem flat_drop {α : Type} {f : α → List AV} {z : Nat} (hf : ∀ x, (f x).length = z) : ∀ (i : Nat) (l : List α), (l.flatMap f).drop (i * z) = (l.drop i).flatMap f
 | 0, l => by simp
 | i + 1, [] => by simp
 | i + 1, x :: l => by
  simp only [List.flatMap_cons, List.drop_succ_cons]
  rw [← flat_drop hf i l, List.drop_append]
  have e : (i + 1) * z - (f x).length = i * z := by rw [hf x, Nat.add_mul]; omega
  have e2 : (f x).drop ((i + 1) * z) = [] := by rw [List.drop_eq_nil_iff, hf x, Nat.add_mul]; omega
  rw [e, e2, List.nil_append]
theorem flat_take {α : Type} {f : α → List AV} {z : Nat} (hf : ∀ x, (f x).length = z) : ∀ (i : Nat) (l : List α), (l.flatMap f).take (i * z) = (l.take i).flatMap f
 | 0, l => by simp
 | i + 1, [] => by simp
 | i + 1, x :: l => by
  simp only [List.flatMap_cons, List.take_succ_cons]
  rw [← flat_take hf i l, List.take_append]
  have e : (i + 1) * z - (f x).length = i * z := by rw [hf x, Nat.add_mul]; omega
  have e2 : (f x).take ((i + 1) * z) = f x := List.take_of_length_le (by rw [hf x, Nat.add_mul]; omega)
  rw [e, e2]
theorem avs_length {ks : List CK} {a : AC} (hk : ksOk ks a) : (a.avs ks).length = a.len * ks.length := by
 cases a with
 | ints l => obtain ⟨k, rfl⟩ := hk; simp [AC.avs, AC.len]
 | recs l => simp only [AC.avs, AC.len]; exact flat_length (fun x => rowAV_length ks 0 x) l
theorem flat_get {α : Type} {f : α → List AV} {z : Nat} (hf : ∀ x, (f x).length = z) : ∀ (i : Nat) (l : List α) (x : α), l[i]? = some x → ∀ j, j < z → (l.flatMap f)[i * z + j]? = (f x)[j]?
 | i, [], x, h, j, hj => by simp at h
 | 0, y :: l, x, h, j, hj => by
  simp at h; subst h
  simp only [List.flatMap_cons, Nat.zero_mul, Nat.zero_add]
  rw [List.getElem?_append_left (by rw [hf y]; exact hj)]
 | i + 1, y :: l, x, h, j, hj => by
  simp at h
  simp only [List.flatMap_cons]
  rw [List.getElem?_append_right (by rw [hf y, Nat.add_mul]; omega)]
  rw [← flat_get hf i l x h j hj]
  congr 1
  rw [hf y, Nat.add_mul]; omega
theorem avs_get {ks : List CK} {a : AC} (hk : ksOk ks a) {i j : Nat} (hi : i < a.len) {ck : CK} (hj : ks[j]? = some ck) : (a.avs ks)[i * ks.length + j]? = some (ck.av (a.dat i j)) := by
 cases a with
 | ints l =>
  obtain ⟨k, rfl⟩ := hk
  simp only [AC.len] at hi
  have hj0 : j = 0 := by
   cases j with
   | zero => rfl
   | succ j => simp at hj
  subst hj0
  simp at hj; subst hj
  simp [AC.avs, AC.dat, CK.av, D.int, hi]
 | recs l =>
  simp only [AC.len] at hi
  have hjl : j < ks.length := (List.getElem?_eq_some_iff.1 hj).1
  simp only [AC.avs]
  have hl : l[i]? = some l[i] := by simp [hi]
  rw [flat_get (fun x => rowAV_length ks 0 x) i l l[i] hl j hjl]
  rw [rowAV_get ks 0 _ j ck hj]
  simp [AC.dat, hi]
theorem force_ok {n : Nat} {ν : Nu} {ck : CK} {a : AC} {i j : Nat} {K : V → Prop} (hK : forceV (a.cell ck i j) K) : ∃ v, Cv n ν v (ck.av (a.dat i j)) ∧ K v := by
 cases a <;> cases ck <;> simp only [AC.cell, forceV] at hK
 all_goals
  first
   | exact hK.elim
   | exact ⟨_, mk_int, hK⟩
   | exact ⟨_, mk_test, hK⟩
   | exact ⟨_, mk_str, hK⟩
   | exact ⟨_, mk_nils, hK⟩
theorem forceCells_ok {n : Nat} {ν : Nu} {a : AC} {i : Nat} : ∀ {ks : List CK} {j : Nat} {K : List V → Prop}, forceCells a i ks j K → ∃ vs as, Cvs n ν vs as ∧ as.length = ks.length ∧ (∀ (k : Nat) (ck : CK), ks[k]? = some ck → as[k]? = some (ck.av (a.dat i (j + k)))) ∧ K vs
 | [], j, K, hK => ⟨[], [], Cvs.nil, rfl, fun k ck h => by simp at h, hK⟩
 | ck :: ks, j, K, hK => by
  simp only [forceCells] at hK
  obtain ⟨v, h1, h2⟩ := force_ok (n := n) (ν := ν) hK
  obtain ⟨vs, as, h3, h4, h5, h6⟩ := forceCells_ok (n := n) (ν := ν) h2
  refine ⟨v :: vs, _ :: as, Cvs.cons h1 h3, by simp [h4], fun k c' hk => ?_, h6⟩
  cases k with
  | zero => simp at hk; subst hk; simp
  | succ k =>
   simp at hk
   have := h5 k c' hk
   simp only [List.getElem?_cons_succ]
   rw [this]
   have : j + 1 + k = j + (k + 1) := by omega
   rw [this]
theorem RowOk.row {m : Mode} {ks : List CK} {a : AC} {B b0 : Nat} {r : AO} (hk : ksOk ks a) (h : RowOk m ks a B b0 r) : ∃ cs e op w sp f z, r = .row cs e op w sp f z ∧ b0 + a.len * ks.length ≤ cs.length ∧ (cs.drop b0).take (a.len * ks.length) = a.avs ks := by
 cases r <;> simp only [RowOk] at h
 case row cs e op w sp f z =>
  refine ⟨cs, e, op, w, sp, f, z, rfl, ?_⟩
  have hl := avs_length hk
  cases m <;> simp only [] at h
  ·exact h.2
  ·exact h.2
  ·obtain ⟨rfl, _, _, _, _, rfl⟩ := h
   exact ⟨by omega, by simp [← hl]⟩
  ·obtain ⟨rfl, _, _, _, _, rfl⟩ := h
   exact ⟨by omega, by simp [← hl]⟩
theorem row_get {cs : List AV} {b0 N : Nat} {l : List AV} (h : (cs.drop b0).take N = l) {j : Nat} (hj : j < N) : cs[b0 + j]? = l[j]? := by
 rw [← h, List.getElem?_take, if_pos hj, List.getElem?_drop]
theorem getK_inv {x : Nat} {K : Ob → Prop} (hK : h.getK x K) : ∃ o, h.get x = some o ∧ K o := by
 obtain ⟨nx, fz, l⟩ := h
 simp only [H.getK] at hK
 split at hK
 ·rename_i o ho; exact ⟨o, ho, hK⟩
 ·exact hK.elim
theorem acOk_int {k : IntKind} {a : AC} (h : acOk [.int k] a) : a = .ints a.asI := by
 cases a with
 | ints l => rfl
 | recs l => exact absurd rfl (h.2 k)
theorem acOk_rec {ks : List CK} {a : AC} (h : acOk ks a) (hn : ∀ k, ks ≠ [.int k]) : a = .recs a.asR := by
 cases a with
 | recs l => rfl
 | ints l => obtain ⟨k, e⟩ := h; exact absurd e (hn k)
theorem CellD.flat_inv {G : Nat → Option AO} {κ : Kt} {c : CK} {d : D} {v : AV} (h : CellD G κ c d v) (hc : isList c = false) : v = c.av d := by
 cases h with
 | flat _ _ _ => rfl
 | nil _ _ _ _ => cases hc
 | esl _ _ _ _ _ => cases hc
 | list _ _ _ _ _ _ _ _ _ _ _ _ _ _ _ _ _ _ => cases hc
theorem acOk.ks {ks : List CK} {a : AC} (h : acOk ks a) : ksOk ks a := by
 cases a with
 | ints l => exact h
 | recs l => exact h.1
theorem acOk.pos {ks : List CK} {a : AC} (h : acOk ks a) : 0 < ks.length := by
 cases a with
 | ints l => obtain ⟨k, rfl⟩ := h; simp
 | recs l => exact List.length_pos_iff.2 h.1
theorem lst_cv {n : Nat} {ν : Nu} {κ : Kt} {e : Nat} {a : AC} {v : AV} (h : Cv n ν (.lst κ e a) v) : acOk (kindsK κ e) a ∧ ((a.len = 0 ∧ (v = .nils ∨ ∃ x, v = .esl x)) ∨ ∃ B b0 cap, v = .slc B b0 a.len cap ∧ a.len ≤ cap ∧ RowG ν.G κ e a B b0) := by
 simp only [Cv] at h
 cases h with
 | flat _ _ h => cases h
 | nil _ _ h1 h2 => exact ⟨h1, .inl ⟨h2, .inl rfl⟩⟩
 | esl _ _ x h1 h2 => exact ⟨h1, .inl ⟨h2, .inr ⟨x, rfl⟩⟩⟩
 | list _ _ B b0 cap cs el op w sp f z h1 h2 h3 h4 h5 h6 => exact ⟨h2, .inr ⟨B, b0, cap, rfl, h4, cs, el, op, w, sp, f, z, h1, h2, h3, h5, h6⟩⟩
theorem cv_lst {n : Nat} {ν : Nu} {κ : Kt} {e : Nat} {a : AC} {B b0 cap : Nat} (h1 : a.len ≤ cap) (h : RowG ν.G κ e a B b0) : Cv n ν (.lst κ e a) (.slc B b0 a.len cap) := by
 obtain ⟨cs, el, op, w, sp, f, z, g1, g2, g3, g4, g5⟩ := h
 simp only [Cv]; exact .list e a B b0 cap cs el op w sp f z g1 g2 g3 h1 g4 g5
theorem AC.take_dat {a : AC} {o len : Nat} {K : AC → Prop} (hK : a.takeK o len K) : ∃ b, K b ∧ (∀ ks, acOk ks a → acOk ks b) ∧ (o + len ≤ a.len → b.len = len) ∧ ∀ i j, i < len → b.dat i j = a.dat (o + i) j := by
 have key : ∀ {α : Type} (l : List α) (d : α) (i : Nat), i < len → ((l.drop o).take len).getD i d = l.getD (o + i) d := by
  intro α l d i hi
  simp [List.getD_eq_getElem?_getD, List.getElem?_take, hi, List.getElem?_drop]
 cases a with
 | ints l => exact ⟨_, hK, fun ks h => h, fun e => by simp only [AC.len] at e ⊢; simp; omega, fun i j hi => by simp only [AC.dat]; rw [key l 0 i hi]⟩
 | recs l => exact ⟨_, hK, fun ks h => h, fun e => by simp only [AC.len] at e ⊢; simp; omega, fun i j hi => by simp only [AC.dat]; rw [key l [] i hi]⟩
theorem RowG.take {G : Nat → Option AO} {κ : Kt} {e : Nat} {a b : AC} {B b0 o : Nat} (h : RowG G κ e a B b0) (hk : acOk (kindsK κ e) b) (hl : o + b.len ≤ a.len) (hd : ∀ i j, i < b.len → b.dat i j = a.dat (o + i) j) : RowG G κ e b B (b0 + o * (kindsK κ e).length) := by
 obtain ⟨cs, el, op, w, sp, f, z, g1, g2, g3, g4, g5⟩ := h
 have hle : (o + b.len) * (kindsK κ e).length ≤ a.len * (kindsK κ e).length := Nat.mul_le_mul_right _ hl
 rw [Nat.add_mul] at hle
 refine ⟨cs, el, op, w, sp, f, z, g1, hk, g3, by omega, fun i j c hi hj => ?_⟩
 rw [hd i j hi]
 have := g5 (o + i) j c (by omega) hj
 rw [Nat.add_mul] at this
 have e1 : b0 + o * (kindsK κ e).length + i * (kindsK κ e).length + j = b0 + (o * (kindsK κ e).length + i * (kindsK κ e).length) + j := by omega
 rw [e1]; exact this
theorem RowG.none {G : Nat → Option AO} {κ : Kt} {e : Nat} {a b : AC} {B b0 : Nat} (h : RowG G κ e a B b0) (hk : acOk (kindsK κ e) b) (hl : b.len = 0) : RowG G κ e b B b0 := by
 obtain ⟨cs, el, op, w, sp, f, z, g1, g2, g3, g4, g5⟩ := h
 exact ⟨cs, el, op, w, sp, f, z, g1, hk, g3, by rw [hl]; omega, fun i j c hi hj => by omega⟩
theorem flatKs_get : ∀ {ks : List CK} {j : Nat} {c : CK}, flatKs ks = true → ks[j]? = some c → isList c = false
 | [], j, c, h, hj => by simp at hj
 | k :: ks, 0, c, h, hj => by
  simp only [flatKs, Bool.and_eq_true, Bool.not_eq_true'] at h
  simp at hj; subst hj; exact h.1
 | k :: ks, j + 1, c, h, hj => by
  simp only [flatKs, Bool.and_eq_true] at h
  simp at hj; exact flatKs_get h.2 hj
theorem RowG.avs {G : Nat → Option AO} {κ : Kt} {e : Nat} {a : AC} {B b0 : Nat} (h : RowG G κ e a B b0) (hf : flatKs (kindsK κ e) = true) : ∃ cs el op w sp f z, G B = some (.row cs el op w sp f z) ∧ b0 + a.len * (kindsK κ e).length ≤ cs.length ∧ (cs.drop b0).take (a.len * (kindsK κ e).length) = a.avs (kindsK κ e) := by
 obtain ⟨cs, el, op, w, sp, f, z, g1, g2, g3, g4, g5⟩ := h
 refine ⟨cs, el, op, w, sp, f, z, g1, g4, ?_⟩
 have hp := g2.pos
 apply List.ext_getElem?
 intro m
 rw [List.getElem?_take]
 split
 ·rename_i hm
  have hi : m / (kindsK κ e).length < a.len := Nat.div_lt_of_lt_mul (by rw [Nat.mul_comm]; exact hm)
  have hj : m % (kindsK κ e).length < (kindsK κ e).length := Nat.mod_lt _ hp
  have hm2 : m = m / (kindsK κ e).length * (kindsK κ e).length + m % (kindsK κ e).length := by rw [Nat.mul_comm]; exact (Nat.div_add_mod _ _).symm
  have hc : (kindsK κ e)[m % (kindsK κ e).length]? = some (kindsK κ e)[m % (kindsK κ e).length] := by simp [hj]
  have h1 := avs_get g2.ks hi hc
  rw [← hm2] at h1
  rw [h1, List.getElem?_drop]
  have h2 := (g5 _ _ _ hi hc).flat_inv (flatKs_get hf hc)
  have e1 : b0 + m / (kindsK κ e).length * (kindsK κ e).length + m % (kindsK κ e).length = b0 + m := by omega
  rw [e1] at h2
  have hlt : b0 + m < cs.length := by omega
  rw [← h2]; simp [hlt]
 ·rename_i hm
  symm; rw [List.getElem?_eq_none_iff, avs_length g2.ks]; omega
theorem gcell_ok {n : Nat} {ν : Nu} {κ : Kt} {c : CK} {d : D} {v : AV} {K : V → Prop} (h : CellD ν.G κ c d v) (hK : gcellK κ c d K) : ∃ u, Cv n ν u v ∧ K u := by
 cases c with
 | int k => rw [h.flat_inv rfl]; exact ⟨_, mk_int, hK⟩
 | bool => rw [h.flat_inv rfl]; exact ⟨_, mk_test, hK⟩
 | str => rw [h.flat_inv rfl]; exact ⟨_, mk_str, hK⟩
 | nils => rw [h.flat_inv rfl]; exact ⟨_, mk_nils, hK⟩
 | list e =>
  have hd : ∃ a, d = .seq a ∧ acOk (kindsK κ e) a := by
   cases h with
   | flat _ _ h => cases h
   | nil _ a h1 _ => exact ⟨a, rfl, h1⟩
   | esl _ a x h1 _ => exact ⟨a, rfl, h1⟩
   | list _ a B b0 cap cs el op w sp f z h1 h2 => exact ⟨a, rfl, h2⟩
  obtain ⟨a, rfl, ha⟩ := hd
  simp only [gcellK] at hK
  split at hK
  ·rename_i k hk
   rw [hk] at ha
   have := acOk_int ha
   refine ⟨_, ?_, hK⟩
   simp only [Cv, D.ac]
   rw [← this]; exact h
  ·rename_i hk
   have := acOk_rec ha (fun k e => hk k e)
   refine ⟨_, ?_, hK⟩
   simp only [Cv, D.ac]
   rw [← this]; exact h
theorem gload_ok {n : Nat} {ν : Nu} {κ : Kt} {a : AC} {i j : Nat} {c : CK} {v : AV} {K : V → Prop} (h : CellD ν.G κ c (a.dat i j) v) (hK : gload κ a i c j K) : ∃ u, Cv n ν u v ∧ K u := by
 cases a with
 | ints l =>
  simp only [gload] at hK
  split at hK
  ·rw [h.flat_inv rfl]; exact ⟨_, mk_int, hK⟩
  ·exact hK.elim
 | recs l => exact gcell_ok h hK
theorem gloads_ok {n : Nat} {ν : Nu} {κ : Kt} {a : AC} {i : Nat} {cs : List AV} : ∀ {ks : List CK} {j p : Nat} {K : List V → Prop}, (∀ k c, ks[k]? = some c → CellD ν.G κ c (a.dat i (j + k)) (cs.getD (p + k) (.tup []))) → p + ks.length ≤ cs.length → gloads κ a i ks j K →
  ∃ vs, Cvs n ν vs ((cs.drop p).take ks.length) ∧ K vs
 | [], j, p, K, hc, hp, hK => ⟨[], by simp; exact Cvs.nil, hK⟩
 | c :: ks, j, p, K, hc, hp, hK => by
  simp only [gloads] at hK
  simp only [List.length_cons] at hp
  have h0 := hc 0 c rfl
  obtain ⟨u, h1, h2⟩ := gload_ok (n := n) h0 hK
  obtain ⟨vs, h3, h4⟩ := gloads_ok (n := n) (ks := ks) (j := j + 1) (p := p + 1) (fun k c' hk => by
   have := hc (k + 1) c' hk
   have e1 : j + 1 + k = j + (k + 1) := by omega
   have e2 : p + 1 + k = p + (k + 1) := by omega
   rw [e1, e2]; exact this) (by omega) h2
  refine ⟨u :: vs, ?_, h4⟩
  have hlt : p < cs.length := by omega
  rw [List.drop_eq_getElem_cons hlt, List.length_cons, List.take_succ_cons]
  refine Cvs.cons ?_ h3
  have : cs.getD (p + 0) (.tup []) = cs[p] := by simp [hlt]
  rw [← this]; exact h1
theorem gloadV_ok {n : Nat} {ν : Nu} {t : TypeId} {ti : TI} (m1 : isAggT P t = some ti.agg) (m2 : sizeT P t = some ti.size) {κ : Kt} {e : Nat} {a : AC} {i o B p : Nat} {cs : List AV} {el : TypeId} {op w sp : Bool} {f z : Nat} {K : V → Prop}
  (hrow : s.get B = some (.row cs el op w sp f z)) (hp : p + (kindsK κ e).length ≤ cs.length) (hc : ∀ j c, (kindsK κ e)[j]? = some c → CellD ν.G κ c (a.dat i j) (cs.getD (p + j) (.tup [])))
  (hK : gloadV ti κ e a i o K) : ∃ u b, loadA P s t (.ptr B (p + o)) = some b ∧ Cv n ν u b ∧ K u := by
 unfold gloadV at hK
 split at hK
 ·rename_i hagg
  rw [hagg] at m1
  split at hK
  ·rename_i hle
   have hle := Nat.le_of_ble_eq_true hle
   rw [len'_eq] at hle
   rw [takeL_eq, dropL_eq] at hK
   have hl : (((kindsK κ e).drop o).take ti.size).length = ti.size := by rw [List.length_take, List.length_drop]; omega
   obtain ⟨vs, h1, h2⟩ := gloads_ok (n := n) (ν := ν) (cs := cs) (p := p + o) (fun k c hk => by
    have hk2 : (kindsK κ e)[o + k]? = some c := by
     have := (List.getElem?_eq_some_iff.1 hk).1
     rw [List.getElem?_take_of_lt (by omega), List.getElem?_drop] at hk; exact hk
    have := hc (o + k) c hk2
    have e1 : p + o + k = p + (o + k) := by omega
    rw [e1]; exact this) (by rw [hl]; omega) hK
   rw [hl] at h1
   refine ⟨.agg vs, .agg ((cs.drop (p + o)).take ti.size), ?_, by simp only [Cv]; exact ⟨_, rfl, h1⟩, h2⟩
   simp only [loadA, hrow, m1, m2]
   rw [if_pos (by omega)]
  ·exact hK.elim
 ·rename_i hagg
  rw [hagg] at m1
  rw [nth_eq] at hK
  split at hK
  ·rename_i c hcc
   have ho := (List.getElem?_eq_some_iff.1 hcc).1
   obtain ⟨u, h1, h2⟩ := gload_ok (n := n) (hc o c hcc) hK
   refine ⟨u, _, ?_, h1, h2⟩
   have hlt : p + o < cs.length := by omega
   simp only [loadA, hrow, m1, m2]
   simp [hlt]
  ·exact hK.elim
theorem load_ok (ht : TTok P tt) (r : R c ν h s) {t : TypeId} {v : V} {a : AV} {K : V → Prop} (hv : Cv h.nx ν v a) (hK : loadV tt h t v K) : ∃ u b, loadA P s t a = some b ∧ Cv h.nx ν u b ∧ K u := by
 unfold loadV at hK
 split at hK
 ·rename_i ti hti
  obtain ⟨m1, m2, m3, m4⟩ := mkTI_inv (ht t ti hti)
  split at hK
  ·rename_i x o
   have hq := getK_inv hK
   clear hK
   obtain ⟨ob, hob, hK⟩ := hq
   simp only [Cv] at hv
   obtain ⟨h0, B, b0, h1, rfl⟩ := hv
   have hh := r.obj x ob hob
   split at hK
   ·rename_i cs
    obtain ⟨B', as, e, z, k1, k2, k3⟩ := hh
    rw [h1] at k1; cases k1
    have hlen := k3.length
    simp only [Nat.zero_add]
    split at hK
    ·rename_i hagg
     rw [hagg] at m1
     split at hK
     ·rename_i hle
      have hle := Nat.le_of_ble_eq_true hle
      rw [len'_eq] at hle
      rw [forceL_eq, takeL_eq, dropL_eq] at hK
      refine ⟨_, .agg ((as.drop o).take ti.size), ?_, ?_, hK⟩
      ·simp only [loadA, k2, m1, m2]
       rw [if_pos (by omega)]
      ·simp only [Cv]; exact ⟨_, rfl, (k3.drop o).take _⟩
     ·exact hK.elim
    ·rename_i hagg
     rw [hagg] at m1
     rw [nth_eq] at hK
     split at hK
     ·rename_i u hu
      obtain ⟨b, e1, e2⟩ := k3.get hu
      exact ⟨u, b, by simp only [loadA, k2, m1, m2]; exact e1, e2, hK⟩
     ·exact hK.elim
   ·exact hK.elim
  ·rename_i x i z o
   have hq := getK_inv hK
   clear hK
   obtain ⟨ob, hob, hK⟩ := hq
   simp only [Cv] at hv
   obtain ⟨h0, B, b0, h1, rfl⟩ := hv
   have hh := r.obj x ob hob
   split at hK
   ·rename_i ks m ac
    obtain ⟨hk, hn | ⟨B', b0', r', k1, k2, k3⟩⟩ := hh
    ·rw [h1] at hn; cases hn.1
    ·rw [h1] at k1; cases k1
     obtain ⟨cs, e, op, w, sp, f, z', rfl, g1, g2⟩ := k3.row hk
     split at hK
     ·rename_i hz
      have hz := Nat.eq_of_beq_eq_true hz
      rw [len'_eq] at hz
      subst hz
      have hk2 := hK ()
      clear hK
      obtain ⟨hi, hK⟩ := hk2
      have hin : ∀ j, j < ks.length → i * ks.length + j < ac.len * ks.length := by
       intro j hj
       calc i * ks.length + j < i * ks.length + ks.length := by omega
        _ = (i + 1) * ks.length := by rw [Nat.add_mul]; omega
        _ ≤ ac.len * ks.length := Nat.mul_le_mul_right _ hi
      split at hK
      ·rename_i hagg
       rw [hagg] at m1
       split at hK
       ·rename_i e1 e2
        have e1 := Nat.eq_of_beq_eq_true e1
        have e2 := Nat.eq_of_beq_eq_true e2
        rw [len'_eq] at e2
        subst e1
        obtain ⟨vs, as, q1, q2, q3, q4⟩ := forceCells_ok (n := h.nx) (ν := ν) hK
        have hpos : 0 < ks.length := by
         cases ac with
         | ints l => obtain ⟨k, rfl⟩ := hk; simp
         | recs l => exact List.length_pos_iff.2 hk
        have hle : b0 + i * ks.length + ks.length ≤ cs.length := by
         have := hin (ks.length - 1) (by omega)
         omega
        have key : (cs.drop (b0 + i * ks.length)).take ks.length = as := by
         apply List.ext_getElem?
         intro j
         rw [List.getElem?_take]
         split
         ·rename_i hj
          rw [List.getElem?_drop]
          have e3 : b0 + i * ks.length + j = b0 + (i * ks.length + j) := by omega
          rw [e3, row_get g2 (hin j hj)]
          have hc : ks[j]? = some ks[j] := by simp [hj]
          rw [avs_get hk hi hc, q3 j _ hc]
          simp
         ·rename_i hj
          symm; rw [List.getElem?_eq_none_iff]; omega
        refine ⟨.agg vs, .agg as, ?_, by simp only [Cv]; exact ⟨as, rfl, q1⟩, q4⟩
        simp only [loadA, k2, m1, m2, Nat.add_zero]
        rw [e2, if_pos (by omega), key]
       ·split at hK
        ·rename_i e2
         have e2 := Nat.le_of_ble_eq_true e2
         rw [len'_eq] at e2
         rw [takeL_eq, dropL_eq] at hK
         obtain ⟨vs, as, q1, q2, q3, q4⟩ := forceCells_ok (n := h.nx) (ν := ν) hK
         have q2' : as.length = ti.size := by rw [q2, List.length_take, List.length_drop]; omega
         have hrow : i * ks.length + ks.length ≤ ac.len * ks.length := by
          calc i * ks.length + ks.length = (i + 1) * ks.length := by rw [Nat.add_mul]; omega
           _ ≤ ac.len * ks.length := Nat.mul_le_mul_right _ hi
         have key : (cs.drop (b0 + i * ks.length + o)).take ti.size = as := by
          apply List.ext_getElem?
          intro j
          rw [List.getElem?_take]
          split
          ·rename_i hj
           rw [List.getElem?_drop]
           have e3 : b0 + i * ks.length + o + j = b0 + (i * ks.length + (o + j)) := by omega
           have hc : ks[o + j]? = some ks[o + j] := by simp
           rw [e3, row_get g2 (hin (o + j) (by omega)), avs_get hk hi hc]
           have hc2 : ((ks.drop o).take ti.size)[j]? = some ks[o + j] := by rw [List.getElem?_take_of_lt hj, List.getElem?_drop]; exact hc
           rw [q3 j _ hc2]
          ·rename_i hj
           symm; rw [List.getElem?_eq_none_iff]; omega
         refine ⟨.agg vs, .agg as, ?_, by simp only [Cv]; exact ⟨as, rfl, q1⟩, q4⟩
         simp only [loadA, k2, m1, m2]
         rw [if_pos (by omega), key]
        ·exact hK.elim
      ·rename_i hagg
       rw [hagg] at m1
       rw [nth_eq] at hK
       split at hK
       ·rename_i ck hck
        obtain ⟨u, e1, e2⟩ := force_ok (n := h.nx) (ν := ν) hK
        refine ⟨u, _, ?_, e1, e2⟩
        simp only [loadA, k2, m1, m2]
        have ho : o < ks.length := (List.getElem?_eq_some_iff.1 hck).1
        have e3 : b0 + i * ks.length + o = b0 + (i * ks.length + o) := by omega
        rw [e3, row_get g2 (hin o ho), avs_get hk hi hck]
       ·exact hK.elim
     ·exact hK.elim
   ·rename_i κ e md ac
    obtain ⟨hk, hn | ⟨B', cs, el, op, w, sp, f, z', k1, k2, k3, k4, k5⟩⟩ := hh
    ·rw [h1] at hn; cases hn.1
    ·rw [h1] at k1; cases k1
     split at hK
     ·rename_i hz
      have hz := Nat.eq_of_beq_eq_true hz
      rw [len'_eq] at hz
      subst hz
      have hk2 := hK ()
      clear hK
      obtain ⟨hi, hK⟩ := hk2
      have hle : (i + 1) * (kindsK κ e).length ≤ ac.len * (kindsK κ e).length := Nat.mul_le_mul_right _ hi
      rw [Nat.add_mul] at hle
      have := gloadV_ok (n := h.nx) (ν := ν) (P := P) (t := t) m1 m2 (p := i * (kindsK κ e).length) k2 (by omega) (fun j c hj => k5 i j c hi hj) hK
      simpa only [Nat.zero_add] using this
     ·exact hK.elim
   ·rename_i cs
    obtain ⟨B', as, e, z', k1, k2, k3⟩ := hh
    rw [h1] at k1; cases k1
    split at hK
    ·rename_i ez eo eagg
     have ez := Nat.eq_of_beq_eq_true ez
     have eo := Nat.eq_of_beq_eq_true eo
     subst ez; subst eo
     rw [eagg] at m1
     rw [nth_eq] at hK
     split at hK
     ·rename_i u hu
      obtain ⟨b, e1, e2⟩ := k3.get hu
      exact ⟨u, b, by simp only [loadA, k2, m1, m2, Nat.zero_add, Nat.mul_one, Nat.add_zero]; exact e1, e2, hK⟩
     ·exact hK.elim
    ·exact hK.elim
   ·exact hK.elim
  ·rename_i κ e a i o
   simp only [Cv] at hv
   obtain ⟨B, b0, ⟨cs, el, op, w, sp, f, z, g1, g2, g3, g4, g5⟩, hi, rfl⟩ := hv
   have hle : (i + 1) * (kindsK κ e).length ≤ a.len * (kindsK κ e).length := Nat.mul_le_mul_right _ hi
   rw [Nat.add_mul] at hle
   exact gloadV_ok (n := h.nx) (ν := ν) (P := P) (t := t) m1 m2 (p := b0 + i * (kindsK κ e).length) (r.gr.gl B _ g1) (by omega) (fun j c hj => g5 i j c hi hj) hK
  ·exact hK.elim
 ·exact hK.elim
end Go.Vm2
