/-
 Part of the proof that a machine over named lists stands for the program's runs (VwMaps). No conditions beyond those that its theorems name.
-/
import Derived.Test.YtjljleemknmgoaaVwPrim5
namespace Go.Vm2
open Go Go.Vm
set_option linter.unusedVariables false
set_option linter.unusedSectionVars false
variable [Facts] {P : Program} {tt : TT} {c : Px} {ν : Nu} {h : H} {s : St}
theorem ckv_cv {n : Nat} {ν : Nu} (c : CK) (d : D) : Cv n ν (c.v d) (c.av d) := by
 cases c
 ·exact mk_int
 ·exact mk_test
 ·exact mk_str
 ·exact mk_nils
 ·exact mk_nils
theorem forceV_ckv {c : CK} {d : D} {K : V → Prop} (hK : forceV (c.v d) K) : K (c.v d) := by
 cases c <;> exact hK
theorem forceRow_ok {n : Nat} {ν : Nu} : ∀ {ks : List CK} {j : Nat} {ds : List D} {K : List V → Prop}, forceRow ks j ds K → ∃ vs, Cvs n ν vs (rowAV ks j ds) ∧ K vs
 | [], j, ds, K, hK => ⟨[], Cvs.nil, hK⟩
 | c :: ks, j, ds, K, hK => by
  simp only [forceRow] at hK
  have h1 := forceV_ckv hK
  obtain ⟨vs, h2, h3⟩ := forceRow_ok (n := n) (ν := ν) h1
  exact ⟨c.v (ds.getD j (.n 0)) :: vs, Cvs.cons (ckv_cv _ _) h2, h3⟩
theorem rowK_ok {n : Nat} {ν : Nu} {ks : List CK} {ag : Bool} {ds : List D} {K : V → Prop} (hK : rowK ks ag ds K) : ∃ v, Cv n ν v (rowA ks ag ds) ∧ K v := by
 unfold rowK at hK
 split at hK
 ·obtain ⟨vs, h1, h2⟩ := forceRow_ok (n := n) (ν := ν) hK
  exact ⟨.agg vs, by simp only [Cv]; exact ⟨_, rfl, h1⟩, h2⟩
 ·split at hK
  ·exact ⟨_, ckv_cv _ _, forceV_ckv hK⟩
  ·exact hK.elim
theorem kind_cell {n : Nat} {ν : Nu} {k : CK} {v : V} {a : AV} (h1 : kindOk k v = true) (hv : Cv n ν v a) : a.cells = [a] := by
 unfold kindOk at h1
 split at h1
 ·have := cv_int hv; subst this; rfl
 ·have := cv_bool hv; subst this; rfl
 ·have := cv_test hv; subst this; rfl
 ·have := cv_str hv; subst this; rfl
 ·have := cv_nils hv; subst this; rfl
 ·cases h1
theorem row_of {n : Nat} {ν : Nu} {ks : List CK} {v : V} {ds : List D} {a : AV} (h1 : kindsOk ks v.cells = true) (h2 : toDs v.cells = some ds) (hv : Cv n ν v a) : rowA ks (isAggV v) ds = a := by
 have e := kinds_row [] h1 h2 hv.cells
 simp only [List.length_nil, List.nil_append] at e
 cases v with
 | agg cs =>
  simp only [Cv] at hv
  obtain ⟨as, rfl, _⟩ := hv
  simp only [AV.cells] at e
  simp only [isAggV, rowA, ← e]
 | _ =>
  simp only [V.cells] at h1
  cases ks with
  | nil => simp [kindsOk] at h1
  | cons k ks =>
   cases ks with
   | cons k2 ks => simp [kindsOk] at h1
   | nil =>
    have hc : a.cells = [a] := by
     simp only [kindsOk, Bool.and_true] at h1
     exact kind_cell h1 hv
    rw [hc] at e
    simp only [rowAV, List.cons.injEq, and_true] at e
    simp only [isAggV, rowA]
    exact e.symm
theorem find_map (kt : IntKind) (ks : List CK) (ag : Bool) (k : Int) (d : List D) : ∀ (l : List (Int × List D)) (i : Nat),
  (mfind l k = none ∧ findA (.int kt) (.int kt k) (emap kt ks ag l) i = some none ∧ emap kt ks ag (mput l k d) = emap kt ks ag l ++ [(.int kt k, rowA ks ag d)]) ∨
  (∃ j row, mfind l k = some row ∧ findA (.int kt) (.int kt k) (emap kt ks ag l) i = some (some (i + j, rowA ks ag row)) ∧ emap kt ks ag (mput l k d) = (emap kt ks ag l).set j (.int kt k, rowA ks ag d))
 | [], i => .inl ⟨rfl, rfl, rfl⟩
 | e :: l, i => by
  by_cases he : e.1 = k
  ·right
   refine ⟨0, e.2, by simp [mfind, he], ?_, by simp [emap, mput, he]⟩
   simp [emap, findA, sameKeyA, he]
  ·have hne : (k == e.1) = false := by simp; exact fun x => he x.symm
   rcases find_map kt ks ag k d l (i + 1) with ⟨h1, h2, h3⟩ | ⟨j, row, h1, h2, h3⟩
   ·left
    refine ⟨by simp [mfind, he, h1], ?_, ?_⟩
    ·simp only [emap, List.map_cons, findA, sameKeyA, if_true, hne]
     exact h2
    ·simp only [mput, if_neg he]
     simp only [emap, List.map_cons] at h3 ⊢
     rw [h3]; rfl
   ·right
    refine ⟨j + 1, row, by simp [mfind, he, h1], ?_, ?_⟩
    ·simp only [emap, List.map_cons, findA, sameKeyA, if_true, hne]
     rw [show i + (j + 1) = i + 1 + j by omega]
     exact h2
    ·simp only [mput, if_neg he]
     simp only [emap, List.map_cons] at h3 ⊢
     rw [h3]; rfl
theorem find_mapS (ks : List CK) (ag : Bool) (k : List UInt8) (d : List D) : ∀ (l : List (List UInt8 × List D)) (i : Nat),
  (mfindS l k = none ∧ findA .string (.str k) (emapS ks ag l) i = some none ∧ emapS ks ag (mputS l k d) = emapS ks ag l ++ [(.str k, rowA ks ag d)]) ∨
  (∃ j row, mfindS l k = some row ∧ findA .string (.str k) (emapS ks ag l) i = some (some (i + j, rowA ks ag row)) ∧ emapS ks ag (mputS l k d) = (emapS ks ag l).set j (.str k, rowA ks ag d))
 | [], i => .inl ⟨rfl, rfl, rfl⟩
 | e :: l, i => by
  by_cases he : e.1 = k
  ·right
   refine ⟨0, e.2, by simp [mfindS, he], ?_, by simp [emapS, mputS, he]⟩
   simp [emapS, findA, sameKeyA, he]
  ·have hne : (k == e.1) = false := by simp; exact fun x => he x.symm
   rcases find_mapS ks ag k d l (i + 1) with ⟨h1, h2, h3⟩ | ⟨j, row, h1, h2, h3⟩
   ·left
    refine ⟨by simp [mfindS, he, h1], ?_, ?_⟩
    ·simp only [emapS, List.map_cons, findA, sameKeyA, hne]
     exact h2
    ·simp only [mputS, if_neg he]
     simp only [emapS, List.map_cons] at h3 ⊢
     rw [h3]; rfl
   ·right
    refine ⟨j + 1, row, by simp [mfindS, he, h1], ?_, ?_⟩
    ·simp only [emapS, List.map_cons, findA, sameKeyA, hne]
     rw [show i + (j + 1) = i + 1 + j by omega]
     exact h2
    ·simp only [mputS, if_neg he]
     simp only [emapS, List.map_cons] at h3 ⊢
     rw [h3]; rfl
theorem partT_i {f : Field} {j : Nat} {xs : List AV} (h : fieldI P f j = true) : P.underlying f.type = some (.int .i64) ∧ f.name ≠ "_" ∧ partT P f.type xs f.offset = xs[j]? := by
 unfold fieldI at h
 simp only [Bool.and_eq_true, Bool.not_eq_true', beq_eq_false_iff_ne] at h
 obtain ⟨⟨h1, h2⟩, h3⟩ := h
 have e := Nat.eq_of_beq_eq_true h1
 split at h3
 ·rename_i hu
  refine ⟨hu, h2, ?_⟩
  unfold partT isAggT
  rw [hu, e]
 ·cases h3
theorem pair_key {t : TypeId} {fs : Array Field} (hu : P.underlying t = some (.struct fs)) (h : pairFs P t fs.toList = true) (k : Int × Int) :
  plainKey (.struct fs) (pkA k) = false ∧ keyOk P (.struct fs) (pkA k) = true ∧ ∀ q : Int × Int, eqT P 100 t (pkA k) (pkA q) = some (decide (k = q)) := by
 unfold pairFs at h
 split at h
 ·rename_i f g hf
  simp only [Bool.and_eq_true, Bool.not_eq_true'] at h
  obtain ⟨⟨h1, h2⟩, h3⟩ := h
  refine ⟨rfl, ?_, fun q => ?_⟩
  ·obtain ⟨a1, _, a3⟩ := partT_i (xs := [.int .i64 k.1, .int .i64 k.2]) h2
   obtain ⟨b1, _, b3⟩ := partT_i (xs := [.int .i64 k.1, .int .i64 k.2]) h3
   simp [keyOk, plainKey, structKey, pkA, hf, keyFs, a1, a3, b1, b3]
  ·obtain ⟨a1, a2, a3⟩ := partT_i (xs := [.int .i64 k.1, .int .i64 k.2]) h2
   obtain ⟨b1, b2, b3⟩ := partT_i (xs := [.int .i64 k.1, .int .i64 k.2]) h3
   obtain ⟨_, _, c3⟩ := partT_i (xs := [.int .i64 q.1, .int .i64 q.2]) h2
   obtain ⟨_, _, d3⟩ := partT_i (xs := [.int .i64 q.1, .int .i64 q.2]) h3
   have key : ∀ d, eqT P (d + 1 + 1) t (pkA k) (pkA q) = some (decide (k = q)) := by
    intro d
    have e1 : eqT P (d + 1) f.type (.int .i64 k.1) (.int .i64 q.1) = some (k.1 == q.1) := by simp only [eqT, a1, if_true]
    have e2 : eqT P (d + 1) g.type (.int .i64 k.2) (.int .i64 q.2) = some (k.2 == q.2) := by simp only [eqT, b1, if_true]
    show eqT P (d + 1 + 1) t (.agg [.int .i64 k.1, .int .i64 k.2]) (.agg [.int .i64 q.1, .int .i64 q.2]) = _
    rw [eqT]
    ·rw [h1, if_neg (by decide), hf]
     simp only [eqFields, if_neg a2, if_neg b2, a3, b3, c3, d3, List.getElem?_cons_zero, List.getElem?_cons_succ, e1, e2]
     obtain ⟨k1, k2⟩ := k
     obtain ⟨q1, q2⟩ := q
     by_cases c1 : k1 = q1
     ·by_cases c2 : k2 = q2
      ·subst c1 c2; simp
      ·have : (k2 == q2) = false := by simpa using c2
       simp [c1, c2, this]
     ·have : (k1 == q1) = false := by simpa using c1
      simp [c1, this]
    ·exact hu
   exact key 98
 ·cases h
theorem find_mapP {t : TypeId} {fs : Array Field} (hu : P.underlying t = some (.struct fs)) (hp : pairFs P t fs.toList = true) (ks : List CK) (ag : Bool) (k : Int × Int) (d : List D) : ∀ (l : List ((Int × Int) × List D)) (i : Nat),
  (mfindP l k = none ∧ findS P t (pkA k) (emapP ks ag l) i = some none ∧ emapP ks ag (mputP l k d) = emapP ks ag l ++ [(pkA k, rowA ks ag d)]) ∨
  (∃ j row, mfindP l k = some row ∧ findS P t (pkA k) (emapP ks ag l) i = some (some (i + j, rowA ks ag row)) ∧ emapP ks ag (mputP l k d) = (emapP ks ag l).set j (pkA k, rowA ks ag d))
 | [], i => .inl ⟨rfl, rfl, rfl⟩
 | e :: l, i => by
  have he' := (pair_key hu hp k).2.2 e.1
  by_cases he : e.1 = k
  ·right
   refine ⟨0, e.2, by simp [mfindP, he], ?_, by simp [emapP, mputP, he]⟩
   rw [decide_eq_true he.symm, he] at he'
   simp only [emapP, List.map_cons, findS, he, he']
   simp [sameAgg, pkA, sameCells, sameCell]
  ·rw [decide_eq_false (fun x => he x.symm)] at he'
   rcases find_mapP hu hp ks ag k d l (i + 1) with ⟨h1, h2, h3⟩ | ⟨j, row, h1, h2, h3⟩
   ·left
    refine ⟨by simp [mfindP, he, h1], ?_, ?_⟩
    ·simp only [emapP, List.map_cons, findS, he']
     exact h2
    ·simp only [mputP, if_neg he]
     simp only [emapP, List.map_cons] at h3 ⊢
     rw [h3]; rfl
   ·right
    refine ⟨j + 1, row, by simp [mfindP, he, h1], ?_, ?_⟩
    ·simp only [emapP, List.map_cons, findS, he']
     rw [show i + (j + 1) = i + 1 + j by omega]
     exact h2
    ·simp only [mputP, if_neg he]
     simp only [emapP, List.map_cons] at h3 ⊢
     rw [h3]; rfl
theorem pairV_cv {n : Nat} {ν : Nu} {v : V} {k : Int × Int} {a : AV} (h : pairV v = some k) (hv : Cv n ν v a) : a = pkA k := by
 unfold pairV at h
 split at h
 ·rename_i x y
  cases h
  simp only [Cv, Cvs] at hv
  obtain ⟨as, rfl, a1, as1, rfl, rfl, a2, as2, rfl, rfl, rfl⟩ := hv
  rfl
 ·cases h
theorem makeMapS_ok (r : R c ν h s) {e : TypeId} {K : V → H → Prop} (hK : makeMapS tt h e K) : Made (some (.mp s.n, some (s.push (.map [])))) c ν h s K := by
 unfold makeMapS at hK
 split at hK
 ·split at hK
  ·have hK := newK_inv hK
   refine ⟨_, _, _, _, Nu.set ν h.nx (some (s.n, 0)), rfl, hK, ?_, ?_, Ex.push h ν s _ _ 0⟩
   ·refine r.push_new rfl (fun cs e o w p f z hh => by cases hh) ?_
    exact ⟨s.n, 0, Nu.set_self, by rw [sget_push, if_pos rfl]; rfl⟩
   ·simp only [Cv]; exact ⟨Nat.lt_succ_self _, s.n, 0, Nu.set_self, rfl⟩
  ·exact hK.elim
 ·exact hK.elim
theorem makeMapP_ok (r : R c ν h s) {e : TypeId} {K : V → H → Prop} (hK : makeMapP tt h e K) : Made (some (.mp s.n, some (s.push (.map [])))) c ν h s K := by
 unfold makeMapP at hK
 split at hK
 ·split at hK
  ·have hK := newK_inv hK
   refine ⟨_, _, _, _, Nu.set ν h.nx (some (s.n, 0)), rfl, hK, ?_, ?_, Ex.push h ν s _ _ 0⟩
   ·refine r.push_new rfl (fun cs e o w p f z hh => by cases hh) ?_
    exact ⟨s.n, 0, Nu.set_self, by rw [sget_push, if_pos rfl]; rfl⟩
   ·simp only [Cv]; exact ⟨Nat.lt_succ_self _, s.n, 0, Nu.set_self, rfl⟩
  ·exact hK.elim
 ·exact hK.elim
theorem makeMap_ok (ht : TTok P tt) (r : R c ν h s) {t : TypeId} {K : V → H → Prop} (hK : makeMapV tt h t K) : Made (some (.mp s.n, some (s.push (.map [])))) c ν h s K := by
 unfold makeMapV at hK
 split at hK
 ·split at hK
  ·split at hK
   ·rename_i k e hty ti hti ks hks
    have hK := newK_inv hK
    refine ⟨_, _, _, _, Nu.set ν h.nx (some (s.n, 0)), rfl, hK, ?_, ?_, Ex.push h ν s _ _ 0⟩
    ·refine r.push_new rfl (fun cs e o w p f z hh => by cases hh) ?_
     exact ⟨s.n, 0, Nu.set_self, by rw [sget_push, if_pos rfl]; rfl⟩
    ·simp only [Cv]; exact ⟨Nat.lt_succ_self _, s.n, 0, Nu.set_self, rfl⟩
   ·exact hK.elim
  ·exact hK.elim
 ·exact makeMapS_ok r hK
 ·exact makeMapP_ok r hK
 ·exact hK.elim
theorem makeMap_ty (ht : TTok P tt) {h : H} {t : TypeId} {K : V → H → Prop} (hK : makeMapV tt h t K) : ∃ a b, P.underlying t = some (.map a b) := by
 unfold makeMapV at hK
 split at hK
 ·rename_i k e hty
  obtain ⟨kt, h1, _⟩ := tyOf_map ht hty
  exact ⟨_, _, h1⟩
 ·rename_i e hty
  obtain ⟨kt, h1, _⟩ := tyOf_smap ht hty
  exact ⟨_, _, h1⟩
 ·rename_i e hty
  obtain ⟨kt, h1, _⟩ := tyOf_pmap ht hty
  exact ⟨_, _, h1⟩
 ·exact hK.elim
theorem rangeStr_ok (ht : TTok P tt) (r : R c ν h s) {t : TypeId} {v : V} {a : AV} {K : V → H → Prop} (hv : Cv h.nx ν v a) (hK : rangeStrV tt h t v K) : Made (rangeA P s t a) c ν h s K := by
 unfold rangeStrV at hK
 split at hK
 ·rename_i hty
  split at hK
  ·rename_i l
   have e := cv_str hv; subst e
   have hK := newK_inv hK
   refine ⟨.ptr s.n 0, some (s.push (.sit l 0)), _, _, Nu.set ν h.nx (some (s.n, 0)), by simp only [rangeA, tyOf_string ht hty], hK, ?_, ?_, Ex.push h ν s _ _ 0⟩
   ·refine r.push_new rfl (fun cs e o w p f z hh => by cases hh) ?_
    exact ⟨s.n, Nu.set_self, by rw [sget_push, if_pos rfl]⟩
   ·simp only [Cv]; exact ⟨Nat.lt_succ_self _, s.n, 0, Nu.set_self, rfl⟩
  ·exact hK.elim
 ·exact hK.elim
theorem sit_upd {b : Nat} {l : List UInt8} {p p' : Nat} (hok : s.ok) (hb : s.get b = some (.sit l p)) : Upd s (s.set b (.sit l p')) b ∧ (s.set b (.sit l p')).get b = some (.sit l p') := by
 have hlt := get_lt hb
 have g : ∀ x, (s.set b (.sit l p')).get x = if x = b then some (.sit l p') else s.get x := fun x => sget_set _ _ _ hok hlt
 refine ⟨⟨rfl, sok_set _ _ hok, ?_, ?_, ?_, minF_l _ _, minF_r _ _, fun D h1 h2 h3 => le_minF h1 h2⟩, by rw [g, if_pos rfl]⟩
 ·unfold fam; rw [g, if_pos rfl, hb]; rfl
 ·intro cs e o w p f z hh; rw [g, if_pos rfl] at hh; cases hh
 ·intro x hx; left; rw [g, if_neg hx]
theorem next_ok (r : R c ν h s) {v : V} {a : AV} {K : V → H → Prop} (hv : Cv h.nx ν v a) (hK : nextV h v K) : Made (nextA s a true) c ν h s K := by
 unfold nextV at hK
 split at hK
 ·rename_i x o
  split at hK
  ·simp only [Cv] at hv
   obtain ⟨h0, B, b0, h1, rfl⟩ := hv
   obtain ⟨o, ho, hK⟩ := getK_inv hK
   split at hK
   ·rename_i l pos
    obtain ⟨B', g1, g2⟩ := r.obj x _ ho
    rw [h1] at g1; cases g1
    by_cases hlt : pos < l.length
    ·have hK := (hK ()).1 (decide_eq_true hlt)
     obtain ⟨hfz, hK⟩ := putK_inv hK
     obtain ⟨u1, u2⟩ := sit_upd (p' := pos + (rune l pos).2) r.ok g2
     refine ⟨.tup [.bool true, .int .i64 pos, .int .i32 (rune l pos).1], some (s.set B (.sit l (pos + (rune l pos).2))), _, _, ν, ?_, hK, r.put ho hfz rfl h1 u1 ⟨B, h1, u2⟩, ?_, Ex.put h ν s _ x _ rfl⟩
     ·show nextA s (.ptr B 0) true = _
      simp only [nextA, g2, if_pos hlt]
      rfl
     simp only [Cv]
     exact ⟨_, rfl, Cvs.cons mk_bool (Cvs.cons mk_int (Cvs.cons mk_int Cvs.nil))⟩
    ·have hK := (hK ()).2 (decide_eq_false hlt)
     refine ⟨.tup [.bool false], none, _, _, ν, ?_, hK, r, ?_, Ex.refl h ν s⟩
     ·show nextA s (.ptr B 0) true = _
      simp only [nextA, g2, if_neg hlt]
     simp only [Cv]
     exact ⟨_, rfl, Cvs.cons mk_bool Cvs.nil⟩
   ·exact hK.elim
  ·exact hK.elim
 ·exact hK.elim
theorem lookupS_ok (ht : TTok P tt) (r : R c ν h s) {t e : TypeId} {m k : V} {a b : AV} {ok : Bool} {K : V → Prop} (hty : tyOf tt t = .smap e) (hm : Cv h.nx ν m a) (hk : Cv h.nx ν k b) (hK : lookupS tt h e m k ok K) :
  ∃ u q, lookupA P s t a b ok = some q ∧ Cv h.nx ν u q ∧ K u := by
 obtain ⟨kT, hu, hku⟩ := tyOf_smap ht hty
 unfold lookupS at hK
 split at hK
 ·rename_i ti hti
  split at hK
  ·rename_i key
   have e1 := cv_str hk; subst e1
   split at hK
   ·rename_i x
    simp only [Cv] at hm
    obtain ⟨h0, B, b0, h1, rfl⟩ := hm
    obtain ⟨o, ho, hK⟩ := getK_inv hK
    split at hK
    ·rename_i ks ag l
     split at hK
     ·rename_i z hcond hz
      simp only [Bool.and_eq_true] at hcond
      have e3 := sameB_eq hcond.2
      obtain ⟨B', b1, g1, g2⟩ := r.obj x _ ho
      rw [h1] at g1; cases g1
      obtain ⟨za, hza, hzc⟩ := zeroV_cv (mkTI_inv (ht e ti hti)).2.2.1 h.nx ν
      have hzr := row_of hcond.1 hz hzc
      rw [← e3] at hzr
      obtain ⟨v, hv, hK⟩ := rowK_ok (n := h.nx) (ν := ν) hK
      have hpk : plainKey .string (.str key) = true := rfl
      rcases find_mapS ks ag key z l 0 with ⟨f1, f2, _⟩ | ⟨j, row, f1, f2, _⟩
      ·rw [f1] at hv hK
       simp only [Option.getD_none] at hv
       rw [hzr] at hv
       cases ok with
       | true => exact ⟨_, .tup [za, .bool false], by simp only [lookupA, hu, hku, keyOk, findK, hpk, Bool.true_or, if_true, g2, f2, hza], by simp only [Cv]; exact ⟨_, rfl, Cvs.cons hv (Cvs.cons mk_test Cvs.nil)⟩, hK⟩
       | false => exact ⟨v, za, by simp [lookupA, hu, hku, keyOk, findK, hpk, g2, f2, hza], hv, hK⟩
      ·rw [f1] at hv hK
       simp only [Option.getD_some] at hv
       cases ok with
       | true => exact ⟨_, .tup [rowA ks ag row, .bool true], by simp only [lookupA, hu, hku, keyOk, findK, hpk, Bool.true_or, if_true, g2, f2], by simp only [Cv]; exact ⟨_, rfl, Cvs.cons hv (Cvs.cons mk_test Cvs.nil)⟩, hK⟩
       | false => exact ⟨v, rowA ks ag row, by simp [lookupA, hu, hku, keyOk, findK, hpk, g2, f2], hv, hK⟩
     ·exact hK.elim
    ·exact hK.elim
   ·exact hK.elim
  ·exact hK.elim
 ·exact hK.elim
theorem lookupP_ok (ht : TTok P tt) (r : R c ν h s) {t e : TypeId} {m k : V} {a b : AV} {ok : Bool} {K : V → Prop} (hty : tyOf tt t = .pmap e) (hm : Cv h.nx ν m a) (hk : Cv h.nx ν k b) (hK : lookupP tt h e m k ok K) :
  ∃ u q, lookupA P s t a b ok = some q ∧ Cv h.nx ν u q ∧ K u := by
 obtain ⟨kT, hu, fs, hku, hpf⟩ := tyOf_pmap ht hty
 unfold lookupP at hK
 split at hK
 ·rename_i ti hti
  split at hK
  ·rename_i key hkey
   have e1 := pairV_cv hkey hk; subst e1
   split at hK
   ·rename_i x
    simp only [Cv] at hm
    obtain ⟨h0, B, b0, h1, rfl⟩ := hm
    obtain ⟨o, ho, hK⟩ := getK_inv hK
    split at hK
    ·rename_i ks ag l
     split at hK
     ·rename_i z hcond hz
      simp only [Bool.and_eq_true] at hcond
      have e3 := sameB_eq hcond.2
      obtain ⟨B', b1, g1, g2⟩ := r.obj x _ ho
      rw [h1] at g1; cases g1
      obtain ⟨za, hza, hzc⟩ := zeroV_cv (mkTI_inv (ht e ti hti)).2.2.1 h.nx ν
      have hzr := row_of hcond.1 hz hzc
      rw [← e3] at hzr
      obtain ⟨v, hv, hK⟩ := rowK_ok (n := h.nx) (ν := ν) hK
      obtain ⟨hpk, hko, _⟩ := pair_key hku hpf key
      rcases find_mapP hku hpf ks ag key z l 0 with ⟨f1, f2, _⟩ | ⟨j, row, f1, f2, _⟩
      ·rw [f1] at hv hK
       simp only [Option.getD_none] at hv
       rw [hzr] at hv
       cases ok with
       | true => exact ⟨_, .tup [za, .bool false], by simp only [lookupA, hu, hku, hko, findK, hpk, if_true, g2, f2, hza], by simp only [Cv]; exact ⟨_, rfl, Cvs.cons hv (Cvs.cons mk_test Cvs.nil)⟩, hK⟩
       | false => exact ⟨v, za, by simp [lookupA, hu, hku, hko, findK, hpk, g2, f2, hza], hv, hK⟩
      ·rw [f1] at hv hK
       simp only [Option.getD_some] at hv
       cases ok with
       | true => exact ⟨_, .tup [rowA ks ag row, .bool true], by simp only [lookupA, hu, hku, hko, findK, hpk, if_true, g2, f2], by simp only [Cv]; exact ⟨_, rfl, Cvs.cons hv (Cvs.cons mk_test Cvs.nil)⟩, hK⟩
       | false => exact ⟨v, rowA ks ag row, by simp [lookupA, hu, hku, hko, findK, hpk, g2, f2], hv, hK⟩
     ·exact hK.elim
    ·exact hK.elim
   ·exact hK.elim
  ·exact hK.elim
 ·exact hK.elim
theorem lookup_ok (ht : TTok P tt) (r : R c ν h s) {t : TypeId} {m k : V} {a b : AV} {ok : Bool} {K : V → Prop} (hm : Cv h.nx ν m a) (hk : Cv h.nx ν k b) (hK : lookupV tt h t m k ok K) :
  ∃ u q, lookupA P s t a b ok = some q ∧ Cv h.nx ν u q ∧ K u := by
 unfold lookupV at hK
 split at hK
 ·rename_i kt e hty
  obtain ⟨kT, hu, hku⟩ := tyOf_map ht hty
  split at hK
  ·rename_i ti hti
   split at hK
   ·rename_i kk key
    have e1 := cv_int hk; subst e1
    split at hK
    ·rename_i ek
     have ek := kindEq_eq ek; subst ek
     split at hK
     ·rename_i x
      simp only [Cv] at hm
      obtain ⟨h0, B, b0, h1, rfl⟩ := hm
      obtain ⟨o, ho, hK⟩ := getK_inv hK
      split at hK
      ·rename_i kt' ks ag l
       split at hK
       ·rename_i z hcond hz
        simp only [Bool.and_eq_true] at hcond
        have e2 := kindEq_eq hcond.1.1; subst e2
        have e3 := sameB_eq hcond.2
        obtain ⟨B', b1, g1, g2⟩ := r.obj x _ ho
        rw [h1] at g1; cases g1
        obtain ⟨za, hza, hzc⟩ := zeroV_cv (mkTI_inv (ht e ti hti)).2.2.1 h.nx ν
        have hzr := row_of hcond.1.2 hz hzc
        rw [← e3] at hzr
        obtain ⟨v, hv, hK⟩ := rowK_ok (n := h.nx) (ν := ν) hK
        have hpk : plainKey (.int kt) (.int kt key) = true := rfl
        rcases find_map kt ks ag key z l 0 with ⟨f1, f2, _⟩ | ⟨j, row, f1, f2, _⟩
        ·rw [f1] at hv hK
         simp only [Option.getD_none] at hv
         rw [hzr] at hv
         cases ok with
         | true => exact ⟨_, .tup [za, .bool false], by simp only [lookupA, hu, hku, keyOk, findK, hpk, Bool.true_or, if_true, g2, f2, hza], by simp only [Cv]; exact ⟨_, rfl, Cvs.cons hv (Cvs.cons mk_test Cvs.nil)⟩, hK⟩
         | false => exact ⟨v, za, by simp [lookupA, hu, hku, keyOk, findK, hpk, g2, f2, hza], hv, hK⟩
        ·rw [f1] at hv hK
         simp only [Option.getD_some] at hv
         cases ok with
         | true => exact ⟨_, .tup [rowA ks ag row, .bool true], by simp only [lookupA, hu, hku, keyOk, findK, hpk, Bool.true_or, if_true, g2, f2], by simp only [Cv]; exact ⟨_, rfl, Cvs.cons hv (Cvs.cons mk_test Cvs.nil)⟩, hK⟩
         | false => exact ⟨v, rowA ks ag row, by simp [lookupA, hu, hku, keyOk, findK, hpk, g2, f2], hv, hK⟩
       ·exact hK.elim
      ·exact hK.elim
     ·exact hK.elim
    ·exact hK.elim
   ·exact hK.elim
  ·exact hK.elim
 ·rename_i e hty
  exact lookupS_ok ht r hty hm hk hK
 ·rename_i e hty
  exact lookupP_ok ht r hty hm hk hK
 ·exact hK.elim
theorem map_upd (hok : s.ok) {B : Nat} {es es' : List (AV × AV)} (hB : s.get B = some (.map es)) : Upd s (s.set B (.map es')) B ∧ (s.set B (.map es')).get B = some (.map es') := by
 have hlt := get_lt hB
 have g : ∀ b, (s.set B (.map es')).get b = if b = B then some (.map es') else s.get b := fun b => sget_set _ _ _ hok hlt
 refine ⟨⟨rfl, sok_set _ _ hok, ?_, ?_, ?_, minF_l _ _, minF_r _ _, fun D h1 h2 h3 => le_minF h1 h2⟩, by rw [g, if_pos rfl]⟩
 ·unfold fam; rw [g, if_pos rfl, hB]; rfl
 ·intro cs e o w p f z hh; rw [g, if_pos rfl] at hh; cases hh
 ·intro b hb; left; rw [g, if_neg hb]
theorem updateS_ok (ht : TTok P tt) (r : R c ν h s) {t e : TypeId} {m k v : V} {a b d : AV} {K : H → Prop} (hty : tyOf tt t = .smap e) (hm : Cv h.nx ν m a) (hk : Cv h.nx ν k b) (hv : Cv h.nx ν v d) (hK : updateS h m k v K) :
  ∃ s' h', updateA P s t a b d = some s' ∧ K h' ∧ R c ν h' s' ∧ Ex h ν s h' ν s' := by
 obtain ⟨kT, hu, hku⟩ := tyOf_smap ht hty
 unfold updateS at hK
 split at hK
 ·rename_i key
  have e1 := cv_str hk; subst e1
  split at hK
  ·rename_i x
   simp only [Cv] at hm
   obtain ⟨h0, B, b0, h1, rfl⟩ := hm
   obtain ⟨o, ho, hK⟩ := getK_inv hK
   split at hK
   ·rename_i ks ag l
    split at hK
    ·rename_i ds hcond hds
     simp only [Bool.and_eq_true] at hcond
     have e3 := sameB_eq hcond.2
     obtain ⟨B', b1, g1, g2⟩ := r.obj x _ ho
     rw [h1] at g1; cases g1
     have hrow := row_of hcond.1 hds hv
     rw [← e3] at hrow
     obtain ⟨hfz, hK⟩ := putK_inv hK
     have hpk : plainKey .string (.str key) = true := rfl
     have fin : ∀ es', emapS ks ag (mputS l key ds) = es' → updateA P s t (.mp B) (.str key) d = some (s.set B (.map es')) → ∃ s' h', updateA P s t (.mp B) (.str key) d = some s' ∧ K h' ∧ R c ν h' s' ∧ Ex h ν s h' ν s' := by
      intro es' he hup
      obtain ⟨u1, u2⟩ := map_upd (es' := es') r.ok g2
      exact ⟨_, _, hup, hK, r.put ho hfz rfl h1 u1 ⟨B, b0, h1, by rw [u2, he]⟩, Ex.put h ν s _ x _ rfl⟩
     rcases find_mapS ks ag key ds l 0 with ⟨_, f2, f3⟩ | ⟨j, row, _, f2, f3⟩
     ·exact fin _ f3 (by simp [updateA, hu, hku, g2, keyOk, findK, hpk, f2, hrow])
     ·exact fin _ f3 (by simp [updateA, hu, hku, g2, keyOk, findK, hpk, f2, hrow])
    ·exact hK.elim
   ·exact hK.elim
  ·exact hK.elim
 ·exact hK.elim
theorem updateP_ok (ht : TTok P tt) (r : R c ν h s) {t e : TypeId} {m k v : V} {a b d : AV} {K : H → Prop} (hty : tyOf tt t = .pmap e) (hm : Cv h.nx ν m a) (hk : Cv h.nx ν k b) (hv : Cv h.nx ν v d) (hK : updateP h m k v K) :
  ∃ s' h', updateA P s t a b d = some s' ∧ K h' ∧ R c ν h' s' ∧ Ex h ν s h' ν s' := by
 obtain ⟨kT, hu, fs, hku, hpf⟩ := tyOf_pmap ht hty
 unfold updateP at hK
 split at hK
 ·rename_i key hkey
  have e1 := pairV_cv hkey hk; subst e1
  split at hK
  ·rename_i x
   simp only [Cv] at hm
   obtain ⟨h0, B, b0, h1, rfl⟩ := hm
   obtain ⟨o, ho, hK⟩ := getK_inv hK
   split at hK
   ·rename_i ks ag l
    split at hK
    ·rename_i ds hcond hds
     simp only [Bool.and_eq_true] at hcond
     have e3 := sameB_eq hcond.2
     obtain ⟨B', b1, g1, g2⟩ := r.obj x _ ho
     rw [h1] at g1; cases g1
     have hrow := row_of hcond.1 hds hv
     rw [← e3] at hrow
     obtain ⟨hfz, hK⟩ := putK_inv hK
     obtain ⟨hpk, hko, _⟩ := pair_key hku hpf key
     have fin : ∀ es', emapP ks ag (mputP l key ds) = es' → updateA P s t (.mp B) (pkA key) d = some (s.set B (.map es')) → ∃ s' h', updateA P s t (.mp B) (pkA key) d = some s' ∧ K h' ∧ R c ν h' s' ∧ Ex h ν s h' ν s' := by
      intro es' he hup
      obtain ⟨u1, u2⟩ := map_upd (es' := es') r.ok g2
      exact ⟨_, _, hup, hK, r.put ho hfz rfl h1 u1 ⟨B, b0, h1, by rw [u2, he]⟩, Ex.put h ν s _ x _ rfl⟩
     rcases find_mapP hku hpf ks ag key ds l 0 with ⟨_, f2, f3⟩ | ⟨j, row, _, f2, f3⟩
     ·exact fin _ f3 (by simp [updateA, hu, hku, g2, hko, findK, hpk, f2, hrow])
     ·exact fin _ f3 (by simp [updateA, hu, hku, g2, hko, findK, hpk, f2, hrow])
    ·exact hK.elim
   ·exact hK.elim
  ·exact hK.elim
 ·exact hK.elim
theorem update_ok (ht : TTok P tt) (r : R c ν h s) {t : TypeId} {m k v : V} {a b d : AV} {K : H → Prop} (hm : Cv h.nx ν m a) (hk : Cv h.nx ν k b) (hv : Cv h.nx ν v d) (hK : updateV tt h t m k v K) :
  ∃ s' h', updateA P s t a b d = some s' ∧ K h' ∧ R c ν h' s' ∧ Ex h ν s h' ν s' := by
 unfold updateV at hK
 split at hK
 ·rename_i kt e hty
  obtain ⟨kT, hu, hku⟩ := tyOf_map ht hty
  split at hK
  ·rename_i kk key
   have e1 := cv_int hk; subst e1
   split at hK
   ·rename_i ek
    have ek := kindEq_eq ek; subst ek
    split at hK
    ·rename_i x
     simp only [Cv] at hm
     obtain ⟨h0, B, b0, h1, rfl⟩ := hm
     obtain ⟨o, ho, hK⟩ := getK_inv hK
     split at hK
     ·rename_i kt' ks ag l
      split at hK
      ·rename_i ds hcond hds
       simp only [Bool.and_eq_true] at hcond
       have e2 := kindEq_eq hcond.1.1; subst e2
       have e3 := sameB_eq hcond.2
       obtain ⟨B', b1, g1, g2⟩ := r.obj x _ ho
       rw [h1] at g1; cases g1
       have hrow := row_of hcond.1.2 hds hv
       rw [← e3] at hrow
       obtain ⟨hfz, hK⟩ := putK_inv hK
       have hpk : plainKey (.int kt) (.int kt key) = true := rfl
       have fin : ∀ es', emap kt ks ag (mput l key ds) = es' → updateA P s t (.mp B) (.int kt key) d = some (s.set B (.map es')) → ∃ s' h', updateA P s t (.mp B) (.int kt key) d = some s' ∧ K h' ∧ R c ν h' s' ∧ Ex h ν s h' ν s' := by
        intro es' he hup
        obtain ⟨u1, u2⟩ := map_upd (es' := es') r.ok g2
        exact ⟨_, _, hup, hK, r.put ho hfz rfl h1 u1 ⟨B, b0, h1, by rw [u2, he]⟩, Ex.put h ν s _ x _ rfl⟩
       rcases find_map kt ks ag key ds l 0 with ⟨_, f2, f3⟩ | ⟨j, row, _, f2, f3⟩
       ·exact fin _ f3 (by simp [updateA, hu, hku, g2, keyOk, findK, hpk, f2, hrow])
       ·exact fin _ f3 (by simp [updateA, hu, hku, g2, keyOk, findK, hpk, f2, hrow])
      ·exact hK.elim
     ·exact hK.elim
    ·exact hK.elim
   ·exact hK.elim
  ·exact hK.elim
 ·rename_i e hty
  exact updateS_ok ht r hty hm hk hv hK
 ·rename_i e hty
  exact updateP_ok ht r hty hm hk hv hK
 ·exact hK.elim
theorem find_del (kt : IntKind) (ks : List CK) (ag : Bool) (k : Int) : ∀ (l : List (Int × List D)) (i : Nat),
  (findA (.int kt) (.int kt k) (emap kt ks ag l) i = some none ∧ emap kt ks ag (mdel l k) = emap kt ks ag l) ∨
  (∃ j row, findA (.int kt) (.int kt k) (emap kt ks ag l) i = some (some (i + j, row)) ∧ emap kt ks ag (mdel l k) = (emap kt ks ag l).eraseIdx j)
 | [], i => .inl ⟨rfl, rfl⟩
 | e :: l, i => by
  by_cases he : e.1 = k
  ·right
   refine ⟨0, rowA ks ag e.2, ?_, by simp [emap, mdel, he]⟩
   simp [emap, findA, sameKeyA, he]
  ·have hne : (k == e.1) = false := by simp; exact fun x => he x.symm
   rcases find_del kt ks ag k l (i + 1) with ⟨h2, h3⟩ | ⟨j, row, h2, h3⟩
   ·left
    refine ⟨?_, ?_⟩
    ·simp only [emap, List.map_cons, findA, sameKeyA, if_true, hne]
     exact h2
    ·simp only [mdel, if_neg he]
     simp only [emap, List.map_cons] at h3 ⊢
     rw [h3]
   ·right
    refine ⟨j + 1, row, ?_, ?_⟩
    ·simp only [emap, List.map_cons, findA, sameKeyA, if_true, hne]
     rw [show i + (j + 1) = i + 1 + j by omega]
     exact h2
    ·simp only [mdel, if_neg he]
     simp only [emap, List.map_cons] at h3 ⊢
     rw [h3]; rfl
theorem delete_ok (ht : TTok P tt) (r : R c ν h s) {t : TypeId} {ts : List TypeId} {m k : V} {a b : AV} {K : H → Prop} (hm : Cv h.nx ν m a) (hk : Cv h.nx ν k b) (hK : deleteV tt h t m k K) :
  ∃ s' h', deleteA P s (t :: ts) a b = some (aundef, some s') ∧ K h' ∧ R c ν h' s' ∧ Ex h ν s h' ν s' := by
 unfold deleteV at hK
 split at hK
 ·rename_i kt e hty
  obtain ⟨kT, hu, hku⟩ := tyOf_map ht hty
  split at hK
  ·rename_i kk key
   have e1 := cv_int hk; subst e1
   split at hK
   ·rename_i ek
    have ek := kindEq_eq ek; subst ek
    split at hK
    ·rename_i x
     simp only [Cv] at hm
     obtain ⟨h0, B, b0, h1, rfl⟩ := hm
     obtain ⟨o, ho, hK⟩ := getK_inv hK
     split at hK
     ·rename_i kt' ks ag l
      split at hK
      ·rename_i hcond
       have e2 := kindEq_eq hcond; subst e2
       obtain ⟨B', b1, g1, g2⟩ := r.obj x _ ho
       rw [h1] at g1; cases g1
       obtain ⟨hfz, hK⟩ := putK_inv hK
       have hpk : plainKey (.int kt) (.int kt key) = true := rfl
       have fin : ∀ es', emap kt ks ag (mdel l key) = es' → deleteA P s (t :: ts) (.mp B) (.int kt key) = some (aundef, some (s.set B (.map es'))) → ∃ s' h', deleteA P s (t :: ts) (.mp B) (.int kt key) = some (aundef, some s') ∧ K h' ∧ R c ν h' s' ∧ Ex h ν s h' ν s' := by
        intro es' he hup
        obtain ⟨u1, u2⟩ := map_upd (es' := es') r.ok g2
        exact ⟨_, _, hup, hK, r.put ho hfz rfl h1 u1 ⟨B, b0, h1, by rw [u2, he]⟩, Ex.put h ν s _ x _ rfl⟩
       rcases find_del kt ks ag key l 0 with ⟨f2, f3⟩ | ⟨j, row, f2, f3⟩
       ·exact fin _ f3 (by simp [deleteA, hu, hku, g2, hpk, f2])
       ·exact fin _ f3 (by simp [deleteA, hu, hku, g2, hpk, f2])
      ·exact hK.elim
     ·exact hK.elim
    ·exact hK.elim
   ·exact hK.elim
  ·exact hK.elim
 ·exact hK.elim
theorem mapLen_ok (ht : TTok P tt) (r : R c ν h s) {t : TypeId} {x : V} {a : AV} {K : V → Prop} (hm : isMapTy (tyOf tt t) = true) (hx : Cv h.nx ν x a) (hK : mapLenV h x K) :
  ∃ u q, lenA P s [t] a = some q ∧ Cv h.nx ν u q ∧ K u := by
 have hty : ∃ kt e, tyOf tt t = .map kt e := by
  revert hm; cases tyOf tt t <;> intro hm <;> first | exact ⟨_, _, rfl⟩ | cases hm
 obtain ⟨kt, e, hty⟩ := hty
 obtain ⟨kT, hu, hku⟩ := tyOf_map ht hty
 unfold mapLenV at hK
 split at hK
 ·rename_i y
  simp only [Cv] at hx
  obtain ⟨h0, B, b0, h1, rfl⟩ := hx
  obtain ⟨o, ho, hK⟩ := getK_inv hK
  split at hK
  ·rename_i kt' ks ag l
   obtain ⟨B', b1, g1, g2⟩ := r.obj y _ ho
   rw [h1] at g1; cases g1
   exact ⟨.int .i64 l.length, .int .i64 l.length, by simp [lenA, hu, g2, emap], mk_int, hK⟩
  ·exact hK.elim
 ·simp only [Cv] at hx; subst hx
  exact ⟨_, _, by simp only [lenA, hu], mk_int, hK⟩
 ·exact hK.elim
end Go.Vm2
