/-
 Part of the proof that a machine over named lists stands for the program's runs (VwPrim3). No conditions beyond those that its theorems name.
-/
import Derived.Test.YtjljleemknmgoaaVwPrim2
namespace Go.Vm2
open Go Go.Vm
set_option linter.unusedVariables false
set_option linter.unusedSectionVars false
variable [Facts] {P : Program} {tt : TT} {c : Px} {ν : Nu} {h : H} {s : St}
theorem putK_inv {x : Nat} {o : Ob} {K : H → Prop} (hK : h.putK x o K) : h.fz ≤ x ∧ K ⟨h.nx, h.fz, (x, o) :: h.l⟩ := by
 obtain ⟨nx, fz, l⟩ := h
 simp only [H.putK] at hK
 split at hK
 ·rename_i e; exact ⟨Nat.le_of_ble_eq_true e, hK⟩
 ·exact hK.elim
theorem newK_inv {o : Ob} {K : Nat → H → Prop} (hK : h.newK o K) : K h.nx ⟨h.nx + 1, h.fz, (h.nx, o) :: h.l⟩ := by
 obtain ⟨nx, fz, l⟩ := h
 exact hK
theorem write_upd (hok : s.ok) (hkin : ∀ b, fam s b ≤ b) {B : Nat} {cs : List AV} {e : TypeId} {op sp : Bool} {f z : Nat} (hB : s.get B = some (.row cs e op true sp f z)) {o : Nat} {vs : List AV} (hle : o + vs.length ≤ cs.length) (hc : Vm.cellsOk vs = true) :
  ∃ s', writeA s B o vs = some s' ∧ s'.get B = some (.row (Vm.putCells cs o vs) e op true sp f z) ∧ Upd s s' B := by
 have hlt := get_lt hB
 have hfam : fam s B = f := by unfold fam; rw [hB]; rfl
 simp only [writeA, hB]
 rw [if_pos (by simp [hle, hc])]
 by_cases hf : f = B ∧ sp = false
 ·obtain ⟨rfl, rfl⟩ := hf
  rw [if_pos (by simp)]
  refine ⟨_, rfl, by rw [sget_set _ _ _ hok hlt, if_pos rfl], rfl, sok_set _ _ hok, ?_, ?_, ?_, minF_l _ _, minF_r _ _, fun D h1 h2 h3 => le_minF h1 h2⟩
  ·unfold fam; rw [sget_set _ _ _ hok hlt, if_pos rfl, hB]; rfl
  ·intro cs e o w p f z hh; rw [sget_set _ _ _ hok hlt, if_pos rfl] at hh; cases hh; rfl
  ·intro b hb; left; rw [sget_set _ _ _ hok hlt, if_neg hb]
 ·rw [if_neg (by simp; intro e1; subst e1; simpa using hf)]
  have hok2 := sok_alone f hok
  have g : ∀ b, (St.set (s.alone f) B (.row (Vm.putCells cs o vs) e op true sp f z)).get b = if b = B then some (.row (Vm.putCells cs o vs) e op true sp f z) else (s.get b).map (AO.kin f) := by
   intro b; rw [sget_set _ _ _ hok2 hlt]; split
   ·rfl
   ·rw [sget_alone]
  refine ⟨_, rfl, by rw [g, if_pos rfl], rfl, sok_set _ _ hok2, ?_, ?_, ?_, ?_, minF_r _ _, ?_⟩
  ·unfold fam; rw [g, if_pos rfl, hB]; rfl
  ·intro cs e o w p f z hh; rw [g, if_pos rfl] at hh; cases hh; rfl
  ·intro b hb
   rw [g, if_neg hb]
   cases hs : s.get b with
   | none => left; rfl
   | some a =>
    cases a with
    | row cs' e' op' w' sp' f' z' =>
     by_cases hff : f' = f
     ·right
      subst hff
      have hfb : fam s b = f' := by unfold fam; rw [hs]; rfl
      refine ⟨by rw [hfb, hfam], by simp [AO.kin], ?_⟩
      have := hkin b
      rw [hfb] at this
      simp only [St.set_def, St.alone_def]
      omega
     ·left; simp [AO.kin, hff]
    | _ => left; rfl
  ·simp only [St.set_def, St.alone_def]; omega
  ·intro D h1 h2 h3
   rw [hfam] at h3
   simp only [St.set_def, St.alone_def]; omega
theorem putCells_map {k : IntKind} (l : List Int) (i : Nat) (v : Int) : Vm.putCells (l.map (AV.int k)) i [.int k v] = (l.set i v).map (AV.int k) := by
 simp only [Vm.putCells, List.map_set]
theorem putCells_app : ∀ (vs a b : List AV) (o : Nat), o + vs.length ≤ a.length → Vm.putCells (a ++ b) o vs = Vm.putCells a o vs ++ b
 | [], a, b, o, h => rfl
 | v :: vs, a, b, o, h => by
  simp only [List.length_cons] at h
  rw [Vm.putCells, Vm.putCells, List.set_append_left _ _ (by omega)]
  exact putCells_app vs (a.set o v) b (o + 1) (by simp; omega)
theorem putCells_app_right : ∀ (vs a b : List AV) (o : Nat), Vm.putCells (a ++ b) (a.length + o) vs = a ++ Vm.putCells b o vs
 | [], a, b, o => rfl
 | v :: vs, a, b, o => by
  rw [Vm.putCells, Vm.putCells, List.set_append_right _ _ (by omega)]
  have : a.length + o - a.length = o := by omega
  rw [this]
  exact putCells_app_right vs a (b.set o v) (o + 1)
theorem putCells_whole : ∀ (vs a pre : List AV), a.length = vs.length → Vm.putCells (pre ++ a) pre.length vs = pre ++ vs
 | [], a, pre, h => by simp at h; subst h; rfl
 | v :: vs, a, pre, h => by
  cases a with
  | nil => simp at h
  | cons b a =>
   simp at h
   rw [Vm.putCells, List.set_append_right _ _ (by omega)]
   simp only [Nat.sub_self, List.set_cons_zero]
   have := putCells_whole vs a (pre ++ [v]) h
   simpa using this
theorem putCells_flat {α : Type} {f : α → List AV} {z : Nat} (hf : ∀ x, (f x).length = z) : ∀ (l : List α) (i : Nat) (y : α), i < l.length → Vm.putCells (l.flatMap f) (i * z) (f y) = (l.set i y).flatMap f
 | [], i, y, h => by simp at h
 | x :: l, 0, y, h => by
  simp only [List.flatMap_cons, List.set_cons_zero, Nat.zero_mul]
  rw [putCells_app _ _ _ _ (by simp [hf])]
  have := putCells_whole (f y) (f x) [] (by rw [hf, hf])
  simp only [List.nil_append, List.length_nil] at this
  rw [this]
 | x :: l, i + 1, y, h => by
  simp only [List.flatMap_cons, List.set_cons_succ]
  have e : (i + 1) * z = (f x).length + i * z := by rw [hf x, Nat.add_mul]; omega
  rw [e, putCells_app_right, putCells_flat hf l i y (by simpa using h)]
theorem kinds_row : ∀ {ks : List CK} {vs : List V} {ds : List D} {as : List AV} {n : Nat} {ν : Nu} (pre : List D), kindsOk ks vs = true → toDs vs = some ds → Cvs n ν vs as → as = rowAV ks pre.length (pre ++ ds)
 | [], [], ds, as, n, ν, pre, hk, hd, hc => by rw [hc.inv0]; rfl
 | [], v :: vs, ds, as, n, ν, pre, hk, hd, hc => by simp [kindsOk] at hk
 | k :: ks, [], ds, as, n, ν, pre, hk, hd, hc => by simp [kindsOk] at hk
 | k :: ks, v :: vs, ds, as, n, ν, pre, hk, hd, hc => by
  obtain ⟨a, as', rfl, h2, h3⟩ := hc.inv
  simp only [kindsOk, Bool.and_eq_true] at hk
  simp only [toDs] at hd
  split at hd
  ·rename_i d hd1
   split at hd
   ·rename_i ds' hd2
    simp at hd; subst hd
    have ih := kinds_row (pre ++ [d]) hk.2 hd2 h3
    simp only [List.length_append, List.length_cons, List.length_nil, Nat.zero_add, List.append_assoc, List.cons_append, List.nil_append] at ih
    rw [rowAV, ← ih]
    congr 1
    have e : (pre ++ d :: ds').getD pre.length (.n 0) = d := by simp [List.getD_eq_getElem?_getD]
    rw [e]
    have h1 := hk.1
    unfold kindOk at h1
    split at h1
    ·have := kindEq_eq h1; subst this; have := cv_int h2; subst this; simp [toD] at hd1; subst hd1; rfl
    ·have := cv_bool h2; subst this; simp [toD] at hd1; subst hd1; rfl
    ·have := cv_test h2; subst this; simp [toD] at hd1; subst hd1; rfl
    ·have := cv_str h2; subst this; simp [toD] at hd1; subst hd1; rfl
    ·have := cv_nils h2; subst this; simp [toD] at hd1; subst hd1; rfl
    ·cases h1
   ·simp at hd
  ·simp at hd
theorem kinds_len : ∀ {ks : List CK} {vs : List V}, kindsOk ks vs = true → vs.length = ks.length
 | [], [], hk => rfl
 | [], v :: vs, hk => by simp [kindsOk] at hk
 | k :: ks, [], hk => by simp [kindsOk] at hk
 | k :: ks, v :: vs, hk => by
  simp only [kindsOk, Bool.and_eq_true] at hk
  simp [kinds_len hk.2]
theorem kinds_cells : ∀ {ks : List CK} {vs : List V}, kindsOk ks vs = true → cellsOk vs = true
 | [], [], hk => rfl
 | [], v :: vs, hk => by simp [kindsOk] at hk
 | k :: ks, [], hk => by simp [kindsOk] at hk
 | k :: ks, v :: vs, hk => by
  simp only [kindsOk, Bool.and_eq_true] at hk
  simp only [cellsOk, Bool.and_eq_true]
  refine ⟨?_, kinds_cells hk.2⟩
  have h1 := hk.1
  unfold kindOk at h1
  split at h1 <;> first | rfl | cases h1
theorem put_avs {ks : List CK} {a : AC} {i o : Nat} {vs : List V} {ds : List D} {as : List AV} {n : Nat} {ν : Nu} (hk : ksOk ks a) (hi : i < a.len) (h1 : kindsOk ks vs = true) (h2 : toDs vs = some ds) (h3 : Cvs n ν vs as) {K : AC → Prop} (hK : a.putK i o ds K) :
  ∃ a', K a' ∧ ksOk ks a' ∧ a'.len = a.len ∧ o = 0 ∧ Vm.putCells (a.avs ks) (i * ks.length) as = a'.avs ks := by
 have hr := kinds_row [] h1 h2 h3
 simp only [List.length_nil, List.nil_append] at hr
 cases a with
 | ints l =>
  simp only [AC.putK] at hK
  split at hK
  ·split at hK
   ·rename_i v
    obtain ⟨k, rfl⟩ := hk
    refine ⟨_, hK, ⟨k, rfl⟩, by simp [AC.len], rfl, ?_⟩
    rw [hr]
    simp only [rowAV, CK.av, D.int, List.getD_cons_zero, AC.avs, List.length_cons, List.length_nil, Nat.zero_add, Nat.mul_one]
    exact putCells_map l i v
   ·exact hK.elim
  ·exact hK.elim
 | recs l =>
  simp only [AC.putK] at hK
  split at hK
  ·rw [forceL_eq] at hK
   refine ⟨_, hK, hk, by simp [AC.len], rfl, ?_⟩
   rw [hr]
   simp only [AC.avs]
   exact putCells_flat (fun x => rowAV_length ks 0 x) l i ds hi
  ·exact hK.elim
theorem rowAV_get? : ∀ (ks : List CK) (j : Nat) (ds : List D) (t : Nat), (rowAV ks j ds)[t]? = (ks[t]?).map fun c => c.av (ds.getD (j + t) (.n 0))
 | [], j, ds, t => by simp [rowAV]
 | c :: ks, j, ds, 0 => by simp [rowAV]
 | c :: ks, j, ds, t + 1 => by
  simp only [rowAV, List.getElem?_cons_succ]
  rw [rowAV_get? ks (j + 1) ds t]
  have : j + 1 + t = j + (t + 1) := by omega
  rw [this]
theorem setRow_getD : ∀ (ks : List CK) (j : Nat) (r : List D) (o : Nat) (d : D) (t : Nat), t < ks.length → (setRow ks j r o d).getD t (.n 0) = if j + t = o then d else r.getD (j + t) (.n 0)
 | [], j, r, o, d, t, h => by simp at h
 | c :: ks, j, r, o, d, 0, h => by
  simp only [setRow, List.getD_cons_zero, Nat.add_zero]
  split
  ·rename_i e
   have := Nat.eq_of_beq_eq_true e
   rw [if_pos this]
  ·rename_i e
   rw [if_neg (fun q => by subst q; rw [Nat.beq_refl] at e; cases e)]
 | c :: ks, j, r, o, d, t + 1, h => by
  simp only [setRow, List.getD_cons_succ]
  rw [setRow_getD ks (j + 1) r o d t (by simpa using h)]
  have : j + 1 + t = j + (t + 1) := by omega
  rw [this]
theorem setRow_av {ks : List CK} {r : List D} {o : Nat} {d : D} {k : CK} (hk : ks[o]? = some k) : rowAV ks 0 (setRow ks 0 r o d) = (rowAV ks 0 r).set o (k.av d) := by
 refine List.ext_getElem? (fun t => ?_)
 rw [List.getElem?_set, rowAV_get?, rowAV_get?, rowAV_length]
 rcases Nat.lt_or_ge t ks.length with e | e
 ·rw [List.getElem?_eq_getElem e]
  simp only [Option.map_some, Nat.zero_add]
  rw [setRow_getD ks 0 r o d t e, Nat.zero_add]
  by_cases q : o = t
  ·subst q
   rw [if_pos rfl, if_pos rfl, if_pos e]
   rw [List.getElem?_eq_getElem e] at hk
   simp at hk; rw [hk]
  ·rw [if_neg (fun h => q h.symm), if_neg q]
 ·rw [List.getElem?_eq_none e]
  simp only [Option.map_none]
  split
  ·rename_i q
   subst q
   rw [if_neg (by omega)]
  ·rfl
theorem flat_set {α : Type} {f : α → List AV} {z : Nat} (hf : ∀ x, (f x).length = z) {o : Nat} (ho : o < z) {v : AV} : ∀ (l : List α) (i : Nat) (x y : α), l[i]? = some x → f y = (f x).set o v → (l.flatMap f).set (i * z + o) v = (l.set i y).flatMap f
 | [], i, x, y, h, hy => by simp at h
 | a :: l, 0, x, y, h, hy => by
  simp at h; subst h
  simp only [List.flatMap_cons, List.set_cons_zero, Nat.zero_mul, Nat.zero_add]
  rw [List.set_append_left _ _ (by rw [hf]; exact ho), hy]
 | a :: l, i + 1, x, y, h, hy => by
  simp only [List.flatMap_cons, List.set_cons_succ]
  have e : (i + 1) * z + o = (f a).length + (i * z + o) := by rw [hf a, Nat.add_mul]; omega
  rw [e, List.set_append_right _ _ (by omega)]
  have e2 : (f a).length + (i * z + o) - (f a).length = i * z + o := by omega
  rw [e2, flat_set hf ho l i x y (by simpa using h) hy]
theorem put_any {ks : List CK} {a : AC} {i o : Nat} {v : V} {as : List AV} {n : Nat} {ν : Nu} (hk : ksOk ks a) (hi : i < a.len) (h3 : Cvs n ν v.cells as) {K : AC → Prop} (hK : putV ks a i o v K) :
  ∃ a', K a' ∧ ksOk ks a' ∧ a'.len = a.len ∧ i * ks.length + o + v.cells.length ≤ a.len * ks.length ∧ cellsOk v.cells = true ∧ Vm.putCells (a.avs ks) (i * ks.length + o) as = a'.avs ks := by
 have hin : i * ks.length + ks.length ≤ a.len * ks.length := by
  calc i * ks.length + ks.length = (i + 1) * ks.length := by rw [Nat.add_mul]; omega
   _ ≤ a.len * ks.length := Nat.mul_le_mul_right _ hi
 unfold putV at hK
 split at hK
 ·rename_i ds h1 h2
  obtain ⟨a', p1, p2, p3, p4, p5⟩ := put_avs hk hi h1 h2 h3 hK
  subst p4
  have hkl := kinds_len h1
  exact ⟨a', p1, p2, p3, by omega, kinds_cells h1, by rw [Nat.add_zero]; exact p5⟩
 ·split at hK
  ·rename_i c k hc hn
   rw [nth_eq] at hn
   split at hK
   ·rename_i d g1 g2
    cases a with
    | ints l => exact hK.elim
    | recs l =>
     simp only [AC.setK] at hK
     rw [forceL_eq] at hK
     rw [hc] at h3 ⊢
     obtain ⟨b, bs, rfl, b2, b3⟩ := h3.inv
     have := b3.inv0; subst this
     have hb : b = k.av d := by
      unfold kindOk at g1
      split at g1
      ·have := kindEq_eq g1; subst this; have := cv_int b2; subst this; simp [toD] at g2; subst g2; rfl
      ·have := cv_bool b2; subst this; simp [toD] at g2; subst g2; rfl
      ·have := cv_test b2; subst this; simp [toD] at g2; subst g2; rfl
      ·have := cv_str b2; subst this; simp [toD] at g2; subst g2; rfl
      ·have := cv_nils b2; subst this; simp [toD] at g2; subst g2; rfl
      ·cases g1
     have hol : o < ks.length := (List.getElem?_eq_some_iff.1 hn).1
     have hil : i < l.length := hi
     have hli : l[i]? = some (l.getD i []) := by rw [List.getD_eq_getElem?_getD, List.getElem?_eq_getElem hil]; rfl
     refine ⟨_, hK, hk, by simp [AC.len], ?_, ?_, ?_⟩
     ·simp only [List.length_cons, List.length_nil]
      simp only [AC.len] at hin ⊢
      omega
     ·unfold kindOk at g1
      split at g1 <;> first | rfl | cases g1
     ·simp only [AC.avs, Vm.putCells]
      rw [hb]
      exact flat_set (fun x => rowAV_length ks 0 x) hol l i _ _ hli (setRow_av hn)
   ·exact hK.elim
  ·exact hK.elim
 ·exact hK.elim
theorem own_live : ∀ q : Ob, q.own = true → q.live = true := by intro q; cases q <;> simp [Ob.own, Ob.live]
theorem store_ok (ht : TTok P tt) (r : R c ν h s) {t : TypeId} {v u : V} {a b : AV} {K : H → Prop} (hv : Cv h.nx ν v a) (hu : Cv h.nx ν u b) (hK : storeV tt h t v u K) :
  ∃ s' h', storeA P s t a b = some s' ∧ K h' ∧ R c ν h' s' ∧ Ex h ν s h' ν s' := by
 unfold storeV at hK
 split at hK
 ·rename_i ti hti
  obtain ⟨m1, m2, m3, m4⟩ := mkTI_inv (ht t ti hti)
  split at hK
  ·rename_i hsz
   have hsz := Nat.eq_of_beq_eq_true hsz
   rw [len'_eq] at hsz
   have hbl := hu.cells.length
   split at hK
   ·rename_i x o
    have hq := getK_inv hK
    clear hK
    obtain ⟨ob, hob, hK⟩ := hq
    simp only [Cv] at hv
    obtain ⟨h0, B, b0, h1, rfl⟩ := hv
    have hh := r.obj x ob hob
    split at hK
    ·rename_i cs
     obtain ⟨B', as, e, z, k1, k2, k3⟩ := hh
     rw [h1] at k1; cases k1
     have hlen := k3.length
     split at hK
     ·rename_i e1 e2
      have e1 := Nat.le_of_ble_eq_true e1
      rw [len'_eq, len'_eq] at e1
      rw [forceL_eq] at hK
      obtain ⟨hfz, hK⟩ := putK_inv hK
      obtain ⟨s', w1, w2, w3⟩ := write_upd r.ok r.kin k2 (o := o) (vs := b.cells) (by omega) (hu.cells.cellsOk e2)
      refine ⟨s', _, ?_, hK, ?_, Ex.put h ν s s' x _ w3.n⟩
      ·simp only [storeA, m2, Nat.zero_add]
       rw [if_pos (by omega)]
       exact w1
      ·refine r.put hob hfz rfl h1 w3 ?_
       exact ⟨B, _, e, z, h1, w2, k3.putCells o hu.cells⟩
     ·exact hK.elim
    ·exact hK.elim
   ·rename_i x i z o
    have hq := getK_inv hK
    clear hK
    obtain ⟨ob, hob, hK⟩ := hq
    simp only [Cv] at hv
    obtain ⟨h0, B, b0, h1, rfl⟩ := hv
    have hh := r.obj x ob hob
    split at hK
    ·rename_i ks m ac
     split at hK
     ·rename_i hm hz
      have hz := Nat.eq_of_beq_eq_true hz
      rw [len'_eq] at hz
      subst hz
      obtain ⟨hi, hK⟩ := hK ()
      obtain ⟨hk, hn | ⟨B', b0', r', k1, k2, k3⟩⟩ := hh
      ·rw [h1] at hn; cases hn.1
      ·rw [h1] at k1; cases k1
       have hal := avs_length hk
       obtain ⟨a', p1, p2, p3, p4, p6, p5⟩ := put_any hk hi hu.cells hK
       obtain ⟨hfz, p1⟩ := putK_inv p1
       have main : ∀ cs e op sp f zz, r' = .row cs e op true sp f zz → b0 = 0 → cs = ac.avs ks → (∀ cs', cs' = a'.avs ks → RowOk m ks a' B 0 (.row cs' e op true sp f zz)) →
         ∃ s' h', storeA P s t (.ptr B (b0 + i * ks.length + o)) b = some s' ∧ K h' ∧ R c ν h' s' ∧ Ex h ν s h' ν s' := by
        intro cs e op sp f zz hr hb hcs hrow
        subst hr; subst hb; subst hcs
        obtain ⟨s', w1, w2, w3⟩ := write_upd r.ok r.kin k2 (o := i * ks.length + o) (vs := b.cells) (by omega) (hu.cells.cellsOk p6)
        refine ⟨s', _, ?_, p1, ?_, Ex.put h ν s s' x _ w3.n⟩
        ·simp only [storeA, m2, Nat.zero_add]
         rw [if_pos (by omega)]
         exact w1
        ·refine r.put hob hfz ?_ h1 w3 ?_
         ·cases m <;> first | rfl | cases hm
         ·exact ⟨p2, .inr ⟨B, 0, _, h1, w2, hrow _ p5⟩⟩
       cases r' <;> simp only [RowOk] at k3
       rename_i cs e op w sp f zz
       cases m
       ·cases hm
       ·cases hm
       ·obtain ⟨q1, q2, q3, q4, q5, q6⟩ := k3
        subst q3
        exact main cs e op sp f zz rfl q1 q6 (fun cs' hcs' => by simp only [RowOk]; exact ⟨trivial, q2, trivial, q4, q5, hcs'⟩)
       ·obtain ⟨q1, q2, q3, q4, q5, q6⟩ := k3
        subst q3
        exact main cs e op sp f zz rfl q1 q6 (fun cs' hcs' => by simp only [RowOk]; exact ⟨trivial, q2, trivial, q4, q5, hcs'⟩)
     ·exact hK.elim
    ·exact hK.elim
   ·exact hK.elim
  ·exact hK.elim
 ·exact hK.elim
theorem box_ok (r : R c ν h s) {v : V} {a : AV} (e : TypeId) {K : V → H → Prop} (hv : Cv h.nx ν v a) (hK : boxV h v K) :
  ∃ p s' u h' ν', boxA s e a = some (p, some s') ∧ K u h' ∧ R c ν' h' s' ∧ Cv h'.nx ν' u p ∧ Ex h ν s h' ν' s' := by
 unfold boxV at hK
 split at hK
 ·rename_i hc
  rw [forceL_eq] at hK
  have hK := newK_inv hK
  have hcc := hv.cells.cellsOk hc
  refine ⟨.ptr s.n 0, Vm.newRow s a.cells e false 0, _, _, Nu.set ν h.nx (some (s.n, 0)), ?_, hK, ?_, ?_, Ex.push h ν s _ _ 0⟩
  ·simp only [boxA]; rw [if_pos hcc]
  ·refine r.push_new rfl (fun cs e o w p f z hh => by cases hh; rfl) ?_
   refine ⟨s.n, a.cells, e, 0, Nu.set_self, ?_, Cvs.mono Nu.set_lt (Nat.le_succ _) _ _ hv.cells⟩
   rw [sget_push, if_pos rfl]
  ·simp only [Cv]; exact ⟨Nat.lt_succ_self _, s.n, 0, Nu.set_self, rfl⟩
 ·exact hK.elim
end Go.Vm2
