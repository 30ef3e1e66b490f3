/-
 Part of the proof that a machine over named lists stands for the program's runs (VwPrim). No conditions beyond those that its theorems name.
-/
import Derived.Test.YtjljleemknmgoaaVwHeap
namespace Go.Vm2
open Go Go.Vm
set_option linter.unusedVariables false
set_option linter.unusedSectionVars false
variable [Facts] {P : Program} {tt : TT} {c : Px} {ν : Nu} {h : H} {s : St}
theorem ttok_mk : ∀ {ts : List TypeId} {tt : TT}, mkTT P ts = some tt → TTok P tt
 | [], tt, e => by simp [mkTT] at e; subst e; intro t i h; simp [look] at h
 | t :: ts, tt, e => by
  simp only [mkTT] at e
  split at e
  ·rename_i i l h1 h2
   simp at e; subst e
   intro u j hj
   rw [look_cons] at hj
   split at hj
   ·rename_i e; subst e; simp at hj; subst hj; exact h1
   ·exact ttok_mk h2 u j hj
  ·simp at e
theorem mkTI_inv {t : TypeId} {ti : TI} (h : mkTI P t = some ti) : isAggT P t = some ti.agg ∧ sizeT P t = some ti.size ∧ zeroV P t = some ti.zero ∧ ti.ty = mkTY P t ∧ ti.eq = (!(P.eqGuardType P.depth t) && eqOk P t ti.zero) := by
 unfold mkTI at h
 split at h
 ·rename_i a n z h1 h2 h3; simp at h; subst h; exact ⟨h1, h2, h3, rfl, rfl⟩
 ·simp at h
theorem zeroV_cv {t : TypeId} {z : V} (h : zeroV P t = some z) (n : Nat) (ν : Nu) : ∃ a, zeroOf P t = some a ∧ Cv n ν z a := by
 unfold zeroV at h; unfold zeroOf
 split at h
 ·rename_i i hi
  rw [hi]
  split at h
  ·rename_i v hv
   simp only [hv]
   exact ofConst_cv h
  ·simp at h
 ·simp at h
theorem tyOf_mk (ht : TTok P tt) {t : TypeId} (h : tyOf tt t ≠ .other) : mkTY P t = tyOf tt t := by
 unfold tyOf at h ⊢
 split at h
 ·rename_i i hi; exact (mkTI_inv (ht t i hi)).2.2.2.1.symm
 ·exact absurd rfl h
theorem tyOf_int (ht : TTok P tt) {t : TypeId} {k : IntKind} (h : tyOf tt t = .int k) : P.underlying t = some (.int k) := by
 have := tyOf_mk ht (t := t) (by rw [h]; simp)
 rw [h] at this
 unfold mkTY at this
 repeat' split at this
 all_goals first | (cases this; assumption) | cases this
theorem tyOf_string (ht : TTok P tt) {t : TypeId} (h : tyOf tt t = .string) : P.underlying t = some .string := by
 have := tyOf_mk ht (t := t) (by rw [h]; simp)
 rw [h] at this
 unfold mkTY at this
 repeat' split at this
 all_goals first | assumption | cases this
structure SliceT (P : Program) (t e z b : Nat) (ks : List CK) : Prop where
 und : P.underlying t = some (.slice e)
 len : ks.length = z
 pos : 0 < z
 info : ∃ i, P.info? e = some i ∧ i.size = z ∧ i.bytes = b
 zero : ∃ zv a, zeroV P e = some zv ∧ zeroOf P e = some a ∧ a.cells.length = z ∧ Vm.cellsOk a.cells = true
theorem cksOf_len : ∀ {vs : List V} {ks : List CK}, cksOf vs = some ks → ks.length = vs.length
 | [], ks, h => by simp [cksOf] at h; subst h; rfl
 | v :: vs, ks, h => by
  simp only [cksOf] at h
  split at h
  ·rename_i c l h1 h2; simp at h; subst h; simp [cksOf_len h2]
  ·simp at h
theorem cksOf_cell : ∀ {vs : List V} {ks : List CK}, cksOf vs = some ks → cellsOk vs = true
 | [], ks, h => rfl
 | v :: vs, ks, h => by
  simp only [cksOf] at h
  split at h
  ·rename_i c l h1 h2
   simp only [cellsOk, Bool.and_eq_true]
   refine ⟨?_, cksOf_cell h2⟩
   cases v <;> first | rfl | (simp [ckOf] at h1)
  ·simp at h
theorem tyOf_slice (ht : TTok P tt) {t e z b : Nat} {ks : List CK} (h : tyOf tt t = .slice e z b ks) : SliceT P t e z b ks := by
 have := tyOf_mk ht (t := t) (by rw [h]; simp)
 rw [h] at this
 unfold mkTY at this
 split at this
 ·cases this
 ·cases this
 ·cases this
 ·rename_i e' hu
  split at this
  ·rename_i i zv hi hz
   split at this
   ·rename_i ks' hk
    split at this
    ·rename_i hc
     cases this
     obtain ⟨a, ha, hcv⟩ := zeroV_cv hz 0 ⟨fun _ => none, fun _ => none⟩
     have hl := cksOf_len hk
     refine ⟨hu, hc.1, hc.2, ⟨i, hi, rfl, rfl⟩, zv, a, hz, ha, ?_, hcv.cells.cellsOk (cksOf_cell hk)⟩
     rw [hcv.cells.length, ← hl, hc.1]
    ·cases this
   ·cases this
  ·cases this
 ·split at this <;> cases this
 ·split at this <;> cases this
 ·repeat' split at this
  all_goals cases this
 ·cases this
theorem mkFIs_inv : ∀ {l : List Field} {fs : List FI}, mkFIs P l = some fs → ∀ (i : Nat) (fi : FI), fs[i]? = some fi → ∃ fd, l[i]? = some fd ∧ fd.offset = fi.off ∧ sizeT P fd.type = some fi.size ∧ isAggT P fd.type = some fi.agg
 | [], fs, h, i, fi, hi => by simp [mkFIs] at h; subst h; simp at hi
 | f :: l, fs, h, i, fi, hi => by
  simp only [mkFIs] at h
  split at h
  ·rename_i a r h1 h2
   simp at h; subst h
   cases i with
   | zero =>
    simp at hi; subst hi
    unfold mkFI at h1
    split at h1
    ·rename_i z g k1 k2; simp at h1; subst h1; exact ⟨f, rfl, rfl, k1, k2⟩
    ·simp at h1
   | succ i => simp at hi ⊢; exact mkFIs_inv h2 i fi hi
  ·simp at h
theorem mkFIs_places : ∀ {l : List Field} {fs : List FI}, mkFIs P l = some fs → placesA P l = some (fs.map fun f => (f.off, f.size))
 | [], fs, h => by simp [mkFIs] at h; subst h; rfl
 | f :: l, fs, h => by
  simp only [mkFIs] at h
  split at h
  ·rename_i a r h1 h2
   simp at h; subst h
   unfold mkFI at h1
   split at h1
   ·rename_i z g k1 k2; simp at h1; subst h1; simp [placesA, k1, mkFIs_places h2]
   ·simp at h1
  ·simp at h
theorem tyOf_struct (ht : TTok P tt) {t : TypeId} {fs : List FI} (h : tyOf tt t = .struct fs) : ∃ fields, P.underlying t = some (.struct fields) ∧ mkFIs P fields.toList = some fs := by
 have := tyOf_mk ht (t := t) (by rw [h]; simp)
 rw [h] at this
 unfold mkTY at this
 split at this
 ·cases this
 ·cases this
 ·cases this
 ·repeat' split at this
  all_goals cases this
 ·rename_i fields hu
  split at this
  ·rename_i fs' hf; cases this; exact ⟨fields, hu, hf⟩
  ·cases this
 ·split at this <;> cases this
 ·repeat' split at this
  all_goals cases this
 ·cases this
theorem tyOf_array (ht : TTok P tt) {t n e z : Nat} (h : tyOf tt t = .array n e z) : P.underlying t = some (.array n e) ∧ sizeT P e = some z := by
 have := tyOf_mk ht (t := t) (by rw [h]; simp)
 rw [h] at this
 unfold mkTY at this
 split at this
 ·cases this
 ·cases this
 ·cases this
 ·repeat' split at this
  all_goals cases this
 ·split at this <;> cases this
 ·rename_i n' e' hu
  split at this
  ·rename_i z' hz; cases this; exact ⟨hu, hz⟩
  ·cases this
 ·repeat' split at this
  all_goals cases this
 ·cases this
theorem tyOf_map (ht : TTok P tt) {t e : Nat} {k : IntKind} (h : tyOf tt t = .map k e) : ∃ kt, P.underlying t = some (.map kt e) ∧ P.underlying kt = some (.int k) := by
 have := tyOf_mk ht (t := t) (by rw [h]; simp)
 rw [h] at this
 unfold mkTY at this
 split at this
 ·cases this
 ·cases this
 ·cases this
 ·repeat' split at this
  all_goals cases this
 ·split at this <;> cases this
 ·split at this <;> cases this
 ·rename_i kt e' hu
  split at this
  ·rename_i k' hk; cases this; exact ⟨kt, hu, hk⟩
  ·cases this
  ·split at this <;> cases this
  ·cases this
 ·cases this
theorem tyOf_smap (ht : TTok P tt) {t e : Nat} (h : tyOf tt t = .smap e) : ∃ kt, P.underlying t = some (.map kt e) ∧ P.underlying kt = some .string := by
 have := tyOf_mk ht (t := t) (by rw [h]; simp)
 rw [h] at this
 unfold mkTY at this
 split at this
 ·cases this
 ·cases this
 ·cases this
 ·repeat' split at this
  all_goals cases this
 ·split at this <;> cases this
 ·split at this <;> cases this
 ·rename_i kt e' hu
  split at this
  ·cases this
  ·rename_i hk; cases this; exact ⟨kt, hu, hk⟩
  ·split at this <;> cases this
  ·cases this
 ·cases this
theorem tyOf_pmap (ht : TTok P tt) {t e : Nat} (h : tyOf tt t = .pmap e) : ∃ kt, P.underlying t = some (.map kt e) ∧ ∃ fs, P.underlying kt = some (.struct fs) ∧ pairFs P kt fs.toList = true := by
 have := tyOf_mk ht (t := t) (by rw [h]; simp)
 rw [h] at this
 unfold mkTY at this
 split at this
 ·cases this
 ·cases this
 ·cases this
 ·repeat' split at this
  all_goals cases this
 ·split at this <;> cases this
 ·split at this <;> cases this
 ·rename_i kt e' hu
  split at this
  ·cases this
  ·cases this
  ·rename_i fs hk
   split at this
   ·rename_i hp; cases this; exact ⟨kt, hu, fs, hk, hp⟩
   ·cases this
  ·cases this
 ·cases this
def Done (P : Program) (t : List AV) (op : Op) (c : Px) (ν : Nu) (h : H) (s : St) (K : V → H → Prop) : Prop :=
 ∃ a os v h' ν', prim P t s op = some (a, os) ∧ K v h' ∧ R c ν' h' (os.getD s) ∧ Cv h'.nx ν' v a ∧ Ex h ν s h' ν' (os.getD s)
theorem Done.pure {t : List AV} {op : Op} {K : V → H → Prop} (r : R c ν h s) {a : AV} {v : V} (hp : prim P t s op = some (a, none)) (hk : K v h) (hv : Cv h.nx ν v a) : Done P t op c ν h s K :=
 ⟨a, none, v, h, ν, hp, hk, r, hv, Ex.refl h ν s⟩
theorem cv_int {n : Nat} {ν : Nu} {k : IntKind} {m : Int} {a : AV} (h : Cv n ν (.int k m) a) : a = .int k m := by simpa only [Cv] using h
theorem cv_bool {n : Nat} {ν : Nu} {b : Bool} {a : AV} (h : Cv n ν (.bool b) a) : a = .bool b := by simpa only [Cv] using h
theorem cv_test {n : Nat} {ν : Nu} {b : Bool} {a : AV} (h : Cv n ν (.test b) a) : a = .bool b := by simpa only [Cv] using h
theorem cv_str {n : Nat} {ν : Nu} {b : List UInt8} {a : AV} (h : Cv n ν (.str b) a) : a = .str b := by simpa only [Cv] using h
theorem mk_int {n : Nat} {ν : Nu} {k : IntKind} {m : Int} : Cv n ν (.int k m) (.int k m) := by simp only [Cv]
theorem mk_bool {n : Nat} {ν : Nu} {b : Bool} : Cv n ν (.bool b) (.bool b) := by simp only [Cv]
theorem mk_test {n : Nat} {ν : Nu} {b : Bool} : Cv n ν (.test b) (.bool b) := by simp only [Cv]
theorem cv_nils {n : Nat} {ν : Nu} {a : AV} (h : Cv n ν .nils a) : a = .nils := by simpa only [Cv] using h
theorem mk_nils {n : Nat} {ν : Nu} : Cv n ν .nils .nils := by simp only [Cv]
theorem mk_str {n : Nat} {ν : Nu} {b : List UInt8} : Cv n ν (.str b) (.str b) := by simp only [Cv]
theorem intBin_ok {n : Nat} {ν : Nu} {op : BinOp} {k : IntKind} {x y : Int} {K : V → Prop} (hK : intBin op k x y K) : ∃ v a, Vm.intBin op k x y = some a ∧ Cv n ν v a ∧ K v := by
 cases op <;> simp only [intBin] at hK
 all_goals
  first
   | exact hK.elim
   | exact ⟨_, _, rfl, mk_int, hK⟩
   | exact ⟨_, _, rfl, mk_test, hK⟩
   | exact ⟨_, _, by simp only [Vm.intBin]; rw [if_neg (hK ()).1], mk_int, (hK ()).2⟩
theorem strBin_ok {n : Nat} {ν : Nu} {op : BinOp} {x y : List UInt8} {K : V → Prop} (hK : strBin op x y K) : ∃ v a, Vm.strBin op x y = some a ∧ Cv n ν v a ∧ K v := by
 cases op <;> simp only [strBin] at hK
 all_goals
  first
   | exact hK.elim
   | exact ⟨_, _, rfl, mk_test, hK⟩
   | exact ⟨_, _, by simp only [Vm.strBin]; rw [if_pos (hK ()).1], mk_str, (hK ()).2⟩
theorem tyOf_bool (ht : TTok P tt) {t : TypeId} (h : tyOf tt t = .bool) : P.underlying t = some .bool := by
 have := tyOf_mk ht (t := t) (by rw [h]; simp)
 rw [h] at this
 unfold mkTY at this
 repeat' split at this
 all_goals first | assumption | cases this
theorem boolOf_cv {n : Nat} {ν : Nu} {x : V} {a : AV} {p : Bool} (h : boolOf x = some p) (hc : Cv n ν x a) : a = .bool p := by
 cases x <;> simp [boolOf] at h
 ·subst h; exact cv_bool hc
 ·subst h; exact cv_test hc
theorem boolBin_ok (ht : TTok P tt) {n : Nat} {ν : Nu} {op : BinOp} {t : TypeId} {x y : V} {a b : AV} {K : V → Prop} (hx : Cv n ν x a) (hy : Cv n ν y b) (hK : boolBin tt op t x y K) : ∃ v r, binA P op t a b = some r ∧ Cv n ν v r ∧ K v := by
 unfold boolBin at hK
 split at hK
 ·rename_i p q h1 h2 h3 h4
  have e1 := boolOf_cv h1 hx; have e2 := boolOf_cv h2 hy; subst e1; subst e2
  have hu := tyOf_bool ht h3
  have hg : P.eqGuardType P.depth t = false := by
   unfold eqOf at h4
   split at h4
   ·rename_i i hi
    have := (mkTI_inv (ht t i hi)).2.2.2.2
    rw [h4] at this
    have := this.symm
    simp only [Bool.and_eq_true, Bool.not_eq_true'] at this
    exact this.1
   ·cases h4
  have he : eqT P 100 t (.bool p) (.bool q) = some (p == q) := by simp only [eqT, hu]
  split at hK
  ·exact ⟨_, _, by simp [binA, isSym, eqShape, hg, he], mk_test, hK⟩
  ·exact ⟨_, _, by simp [binA, isSym, eqShape, hg, he], mk_test, hK⟩
  ·exact hK.elim
 ·exact hK.elim
theorem eqFields_flat {n : Nat} {ν : Nu} {d : Nat} : ∀ {fs : List Field} {ks : List CK} {j : Nat} {xs ys : List V} {as bs : List AV} {pa pb : List AV} {r : Bool}, fieldsOk P j fs ks = true → (fs.all fun f => !(f.name == "_")) = true → pa.length = j → pb.length = j → kindsOk ks xs = true → kindsOk ks ys = true → Cvs n ν xs as → Cvs n ν ys bs → cellsEq xs ys = some r →
  eqFields P (eqT P (d + 1)) fs (pa ++ as) (pb ++ bs) = some r
 | [], [], j, xs, ys, as, bs, pa, pb, r, hf, hn, hpa, hpb, hx, hy, ca, cb, he => by
  cases xs <;> cases ys <;> simp [kindsOk] at hx hy
  simp [cellsEq] at he
  subst he; rfl
 | [], k :: ks, j, xs, ys, as, bs, pa, pb, r, hf, hn, hpa, hpb, hx, hy, ca, cb, he => by simp [fieldsOk] at hf
 | f :: fs, [], j, xs, ys, as, bs, pa, pb, r, hf, hn, hpa, hpb, hx, hy, ca, cb, he => by simp [fieldsOk] at hf
 | f :: fs, k :: ks, j, [], ys, as, bs, pa, pb, r, hf, hn, hpa, hpb, hx, hy, ca, cb, he => by simp [kindsOk] at hx
 | f :: fs, k :: ks, j, x :: xs, [], as, bs, pa, pb, r, hf, hn, hpa, hpb, hx, hy, ca, cb, he => by simp [kindsOk] at hy
 | f :: fs, k :: ks, j, x :: xs, y :: ys, as, bs, pa, pb, r, hf, hn, hpa, hpb, hx, hy, ca, cb, he => by
  simp only [fieldsOk, Bool.and_eq_true] at hf
  simp only [kindsOk, Bool.and_eq_true] at hx hy
  simp only [List.all_cons, Bool.and_eq_true] at hn
  obtain ⟨a, as', rfl, a2, a3⟩ := ca.inv
  obtain ⟨b, bs', rfl, b2, b3⟩ := cb.inv
  have hname : ¬ f.name = "_" := fun e => by rw [e] at hn; simp at hn
  have hfo := hf.1
  simp only [fieldOk, Bool.and_eq_true] at hfo
  have o1 := Nat.eq_of_beq_eq_true hfo.1.1
  have one : ∃ q, scalarEq x y = some q ∧ eqT P (d + 1) f.type a b = some q ∧ partT P f.type (pa ++ a :: as') f.offset = some a ∧ partT P f.type (pb ++ b :: bs') f.offset = some b := by
   have ga : (pa ++ a :: as')[f.offset]? = some a := by rw [o1, ← hpa]; simp
   have gb : (pb ++ b :: bs')[f.offset]? = some b := by rw [o1, ← hpb]; simp
   have h2 := hfo.2
   split at h2
   ·rename_i kk hu
    split at h2
    ·rename_i k'
     have := kindEq_eq h2; subst this
     have hp : isAggT P f.type = some false := by simp only [isAggT, hu]
     cases x <;> simp only [kindOk] at hx <;> first | (cases hx.1; done) | skip
     cases y <;> simp only [kindOk] at hy <;> first | (cases hy.1; done) | skip
     rename_i k1 m1 k2 m2
     have e1 := kindEq_eq hx.1; have e2 := kindEq_eq hy.1; subst e1; subst e2
     have c1 := cv_int a2; have c2 := cv_int b2; subst c1; subst c2
     refine ⟨m1 == m2, by simp only [scalarEq, h2], by simp only [eqT, hu, if_true], ?_, ?_⟩
     ·simp only [partT, hp]; exact ga
     ·simp only [partT, hp]; exact gb
    ·cases h2
   ·rename_i hu
    split at h2
    ·have hp : isAggT P f.type = some false := by simp only [isAggT, hu]
     have hb1 : ∃ u, boolOf x = some u := by cases x <;> simp only [kindOk] at hx <;> first | exact ⟨_, rfl⟩ | cases hx.1
     have hb2 : ∃ u, boolOf y = some u := by cases y <;> simp only [kindOk] at hy <;> first | exact ⟨_, rfl⟩ | cases hy.1
     obtain ⟨u1, g1⟩ := hb1
     obtain ⟨u2, g2⟩ := hb2
     have c1 := boolOf_cv g1 a2; have c2 := boolOf_cv g2 b2; subst c1; subst c2
     refine ⟨u1 == u2, ?_, by simp only [eqT, hu], ?_, ?_⟩
     ·cases x <;> simp [boolOf] at g1 <;> cases y <;> simp [boolOf] at g2 <;> subst g1 <;> subst g2 <;> rfl
     ·simp only [partT, hp]; exact ga
     ·simp only [partT, hp]; exact gb
    ·cases h2
   ·rename_i hu
    split at h2
    ·have hp : isAggT P f.type = some false := by simp only [isAggT, hu]
     cases x <;> simp only [kindOk] at hx <;> first | (cases hx.1; done) | skip
     cases y <;> simp only [kindOk] at hy <;> first | (cases hy.1; done) | skip
     rename_i s1 s2
     have c1 := cv_str a2; have c2 := cv_str b2; subst c1; subst c2
     refine ⟨s1 == s2, rfl, by simp only [eqT, hu], ?_, ?_⟩
     ·simp only [partT, hp]; exact ga
     ·simp only [partT, hp]; exact gb
    ·cases h2
   ·cases h2
  obtain ⟨q, q1, q2, q3, q4⟩ := one
  have rest : ∀ q', cellsEq xs ys = some q' → eqFields P (eqT P (d + 1)) fs (pa ++ a :: as') (pb ++ b :: bs') = some q' := by
   intro q' hq'
   have := eqFields_flat (d := d) (pa := pa ++ [a]) (pb := pb ++ [b]) hf.2 hn.2 (by simp [hpa]) (by simp [hpb]) hx.2 hy.2 a3 b3 hq'
   simpa using this
  unfold eqFields
  rw [if_neg hname, q3, q4]
  simp only [q2]
  have hr : ∃ q', cellsEq xs ys = some q' ∧ r = (q && q') := by
   simp only [cellsEq, q1] at he
   split at he
   ·simp at he; exact ⟨true, rfl, by rw [he]; simp⟩
   ·split at he
    ·rename_i q' hq'
     simp at he; exact ⟨q', hq', he.symm⟩
    ·cases he
  obtain ⟨q', hq', rfl⟩ := hr
  cases q with
  | true => simpa using rest q' hq'
  | false => simp
theorem eqElems_ints {n : Nat} {ν : Nu} {d : Nat} {e : TypeId} {k : IntKind} (hu : P.underlying e = some (.int k)) : ∀ {m j : Nat} {xs ys : List V} {as bs : List AV} {pa pb : List AV} {r : Bool}, pa.length = j → pb.length = j → kindsOk (List.replicate m (.int k)) xs = true → kindsOk (List.replicate m (.int k)) ys = true → Cvs n ν xs as → Cvs n ν ys bs → cellsEq xs ys = some r →
  eqElems P (eqT P (d + 1)) e 1 (pa ++ as) (pb ++ bs) (List.range' j m) = some r
 | 0, j, xs, ys, as, bs, pa, pb, r, hpa, hpb, hx, hy, ca, cb, he => by
  cases xs <;> cases ys <;> simp [kindsOk] at hx hy
  simp [cellsEq] at he
  subst he; rfl
 | m + 1, j, [], ys, as, bs, pa, pb, r, hpa, hpb, hx, hy, ca, cb, he => by simp [List.replicate_succ, kindsOk] at hx
 | m + 1, j, x :: xs, [], as, bs, pa, pb, r, hpa, hpb, hx, hy, ca, cb, he => by simp [List.replicate_succ, kindsOk] at hy
 | m + 1, j, x :: xs, y :: ys, as, bs, pa, pb, r, hpa, hpb, hx, hy, ca, cb, he => by
  simp only [List.replicate_succ, kindsOk, Bool.and_eq_true] at hx hy
  obtain ⟨a, as', rfl, a2, a3⟩ := ca.inv
  obtain ⟨b, bs', rfl, b2, b3⟩ := cb.inv
  have hp : isAggT P e = some false := by simp only [isAggT, hu]
  have hs : ∃ sz, sizeT P e = some sz := by
   cases hi : P.info? e with
   | none => simp [Program.underlying, hi] at hu
   | some i => exact ⟨i.size, by simp [sizeT, hi]⟩
  have ga : (pa ++ a :: as')[j * 1]? = some a := by rw [Nat.mul_one, ← hpa]; simp
  have gb : (pb ++ b :: bs')[j * 1]? = some b := by rw [Nat.mul_one, ← hpb]; simp
  have one : ∃ q, scalarEq x y = some q ∧ eqT P (d + 1) e a b = some q ∧ partT P e (pa ++ a :: as') (j * 1) = some a ∧ partT P e (pb ++ b :: bs') (j * 1) = some b := by
   cases x <;> simp only [kindOk] at hx <;> first | (cases hx.1; done) | skip
   cases y <;> simp only [kindOk] at hy <;> first | (cases hy.1; done) | skip
   rename_i k1 m1 k2 m2
   have e1 := kindEq_eq hx.1; have e2 := kindEq_eq hy.1; subst e1; subst e2
   have c1 := cv_int a2; have c2 := cv_int b2; subst c1; subst c2
   refine ⟨m1 == m2, by simp only [scalarEq, hx.1], by simp only [eqT, hu, if_true], ?_, ?_⟩
   ·simp only [partT, hp]; exact ga
   ·simp only [partT, hp]; exact gb
  obtain ⟨q, q1, q2, q3, q4⟩ := one
  have rest : ∀ q', cellsEq xs ys = some q' → eqElems P (eqT P (d + 1)) e 1 (pa ++ a :: as') (pb ++ b :: bs') (List.range' (j + 1) m) = some q' := by
   intro q' hq'
   have := eqElems_ints (d := d) hu (m := m) (j := j + 1) (pa := pa ++ [a]) (pb := pb ++ [b]) (by simp [hpa]) (by simp [hpb]) hx.2 hy.2 a3 b3 hq'
   simpa using this
  rw [List.range'_succ]
  unfold eqElems
  rw [q3, q4]
  simp only [q2]
  have hr : ∃ q', cellsEq xs ys = some q' ∧ r = (q && q') := by
   simp only [cellsEq, q1] at he
   split at he
   ·simp at he; exact ⟨true, rfl, by rw [he]; simp⟩
   ·split at he
    ·rename_i q' hq'
     simp at he; exact ⟨q', hq', he.symm⟩
    ·cases he
  obtain ⟨q', hq', rfl⟩ := hr
  cases q with
  | true => simpa using rest q' hq'
  | false => simp
theorem cellsEq_cons {a b : V} {as bs : List V} {r : Bool} (h : cellsEq (a :: as) (b :: bs) = some r) : ∃ p q, scalarEq a b = some p ∧ cellsEq as bs = some q ∧ r = (p && q) := by
 simp only [cellsEq] at h
 split at h
 ·rename_i p hp
  split at h
  ·simp at h; exact ⟨p, true, hp, rfl, by simp [h]⟩
  ·split at h
   ·rename_i q hq
    simp at h; exact ⟨p, q, hp, hq, h.symm⟩
   ·cases h
 ·cases h
theorem cellsEq_split : ∀ (z : Nat) {xs ys : List V} {r : Bool}, cellsEq xs ys = some r → ∃ p q, cellsEq (xs.take z) (ys.take z) = some p ∧ cellsEq (xs.drop z) (ys.drop z) = some q ∧ r = (p && q)
 | 0, xs, ys, r, h => ⟨true, r, by simp [cellsEq], h, by simp⟩
 | z + 1, [], [], r, h => ⟨true, r, by simp [cellsEq], h, by simp⟩
 | z + 1, [], b :: bs, r, h => by simp [cellsEq] at h
 | z + 1, a :: as, [], r, h => by simp [cellsEq] at h
 | z + 1, a :: as, b :: bs, r, h => by
  obtain ⟨p, q, h1, h2, rfl⟩ := cellsEq_cons h
  obtain ⟨p', q', k1, k2, rfl⟩ := cellsEq_split z h2
  refine ⟨p && p', q', ?_, k2, by simp [Bool.and_assoc]⟩
  simp only [List.take_succ_cons, cellsEq, h1, k1]
  split
  ·rename_i e1 e2
   rw [e1, e2] at k1
   simp [cellsEq] at k1
   simp [← k1]
  ·rfl
theorem kindsOk_take : ∀ (z : Nat) {ks : List CK} {xs : List V}, kindsOk ks xs = true → kindsOk (ks.take z) (xs.take z) = true ∧ kindsOk (ks.drop z) (xs.drop z) = true
 | 0, ks, xs, h => ⟨by simp [kindsOk], h⟩
 | z + 1, [], [], h => ⟨by simp [kindsOk], by simp [kindsOk]⟩
 | z + 1, [], _ :: _, h => by simp [kindsOk] at h
 | z + 1, _ :: _, [], h => by simp [kindsOk] at h
 | z + 1, k :: ks, x :: xs, h => by
  simp only [kindsOk, Bool.and_eq_true] at h
  obtain ⟨h1, h2⟩ := kindsOk_take z h.2
  refine ⟨?_, h2⟩
  simp only [List.take_succ_cons, kindsOk, h.1, h1, Bool.and_self]
theorem nestFs_eq {n : Nat} {ν : Nu} {eq : TypeId → AV → AV → Option Bool} {p : TypeId → List CK → Bool}
  (hp : ∀ (t : TypeId) (ks : List CK) (xs ys : List V) (as bs cs cs' : List AV) (o : Nat) (r : Bool), p t ks = true → kindsOk ks xs = true → kindsOk ks ys = true → Cvs n ν xs as → Cvs n ν ys bs → cellsEq xs ys = some r → (cs.drop o).take ks.length = as → (cs'.drop o).take ks.length = bs → ∃ a b, partT P t cs o = some a ∧ partT P t cs' o = some b ∧ eq t a b = some r) :
  ∀ {fs : List Field} {ks : List CK} {j : Nat} {xs ys : List V} {as bs pa pb : List AV} {r : Bool}, flatFs P p j fs ks = true → (fs.all fun f => !(f.name == "_")) = true → pa.length = j → pb.length = j → kindsOk ks xs = true → kindsOk ks ys = true → Cvs n ν xs as → Cvs n ν ys bs → cellsEq xs ys = some r →
  eqFields P eq fs (pa ++ as) (pb ++ bs) = some r
 | [], [], j, xs, ys, as, bs, pa, pb, r, hf, hn, hpa, hpb, hx, hy, ca, cb, he => by
  cases xs <;> cases ys <;> simp [kindsOk] at hx hy
  simp [cellsEq] at he
  subst he; rfl
 | [], k :: ks, j, xs, ys, as, bs, pa, pb, r, hf, hn, hpa, hpb, hx, hy, ca, cb, he => by simp [flatFs] at hf
 | f :: fs, ks, j, xs, ys, as, bs, pa, pb, r, hf, hn, hpa, hpb, hx, hy, ca, cb, he => by
  unfold flatFs at hf
  simp only [Bool.and_eq_true] at hf
  obtain ⟨⟨⟨h1, h2⟩, h3⟩, h4⟩ := hf
  have h1 := Nat.eq_of_beq_eq_true h1
  have h2 := Nat.le_of_ble_eq_true h2
  simp only [List.all_cons, Bool.and_eq_true] at hn
  have hname : ¬ f.name = "_" := fun e => by rw [e] at hn; simp at hn
  obtain ⟨q1, q2, e1, e2, rfl⟩ := cellsEq_split (P.cellsOf f.type) he
  obtain ⟨x1, x2⟩ := kindsOk_take (P.cellsOf f.type) hx
  obtain ⟨y1, y2⟩ := kindsOk_take (P.cellsOf f.type) hy
  have tl : (ks.take (P.cellsOf f.type)).length = P.cellsOf f.type := by rw [List.length_take]; omega
  have at_ : ∀ (pre l : List AV), pre.length = j → ((pre ++ l).drop f.offset).take (ks.take (P.cellsOf f.type)).length = l.take (P.cellsOf f.type) := by
   intro pre l hl
   rw [tl, h1, ← hl, List.drop_left]
  obtain ⟨a, b, g1, g2, g3⟩ := hp f.type _ _ _ _ _ (pa ++ as) (pb ++ bs) f.offset q1 h3 x1 y1 (ca.take _) (cb.take _) e1 (at_ pa as hpa) (at_ pb bs hpb)
  unfold eqFields
  rw [if_neg hname, g1, g2]
  simp only [g3]
  cases q1 with
  | false => simp
  | true =>
   have kl : ∀ {ks : List CK} {vs : List V}, kindsOk ks vs = true → vs.length = ks.length := by
    intro ks
    induction ks with
    | nil => intro vs h; cases vs <;> simp [kindsOk] at h ⊢
    | cons c ks ih =>
     intro vs h
     cases vs with
     | nil => simp [kindsOk] at h
     | cons v vs => simp only [kindsOk, Bool.and_eq_true] at h; simp [ih h.2]
   have la : as.length = ks.length := by rw [ca.length, kl hx]
   have lb : bs.length = ks.length := by rw [cb.length, kl hy]
   have := nestFs_eq hp (pa := pa ++ as.take (P.cellsOf f.type)) (pb := pb ++ bs.take (P.cellsOf f.type)) h4 hn.2 (by simp [hpa]; omega) (by simp [hpb]; omega) x2 y2 (ca.drop _) (cb.drop _) e2
   simp only [List.append_assoc, List.take_append_drop] at this
   simpa using this
theorem nest_eq {n : Nat} {ν : Nu} : ∀ (d m : Nat) (t : TypeId) (ks : List CK) (xs ys : List V) (as bs : List AV) (r : Bool), nestB P d t ks = true → kindsOk ks xs = true → kindsOk ks ys = true → Cvs n ν xs as → Cvs n ν ys bs → cellsEq xs ys = some r →
  (isAggT P t = some true ∧ sizeT P t = some ks.length ∧ eqT P (m + d) t (.agg as) (.agg bs) = some r) ∨ (isAggT P t = some false ∧ ks.length = 1 ∧ ∃ a b, as = [a] ∧ bs = [b] ∧ eqT P (m + d) t a b = some r)
 | 0, m, t, ks, xs, ys, as, bs, r, h, hx, hy, ca, cb, he => by simp [nestB] at h
 | d + 1, m, t, ks, xs, ys, as, bs, r, h, hx, hy, ca, cb, he => by
  unfold nestB at h
  rw [Bool.and_eq_true] at h
  obtain ⟨h0, h⟩ := h
  have h0 := Nat.eq_of_beq_eq_true h0
  have one : ∀ {c : CK} {x y : V}, kindsOk [c] xs = true → kindsOk [c] ys = true → ∃ x y a b, xs = [x] ∧ ys = [y] ∧ as = [a] ∧ bs = [b] ∧ kindOk c x = true ∧ kindOk c y = true ∧ Cv n ν x a ∧ Cv n ν y b ∧ scalarEq x y = some r := by
   intro c _ _ k1 k2
   cases xs with
   | nil => simp [kindsOk] at k1
   | cons x xs =>
    cases xs with
    | cons _ _ => simp [kindsOk] at k1
    | nil =>
     cases ys with
     | nil => simp [kindsOk] at k2
     | cons y ys =>
      cases ys with
      | cons _ _ => simp [kindsOk] at k2
      | nil =>
       obtain ⟨a, as', rfl, a2, a3⟩ := ca.inv
       obtain ⟨b, bs', rfl, b2, b3⟩ := cb.inv
       have := a3.inv0; subst this
       have := b3.inv0; subst this
       simp only [kindsOk, Bool.and_true] at k1 k2
       obtain ⟨p, q, e1, e2, rfl⟩ := cellsEq_cons he
       simp [cellsEq] at e2
       subst e2
       exact ⟨x, y, a, b, rfl, rfl, rfl, rfl, k1, k2, a2, b2, by rw [e1]; simp⟩
  split at h
  ·rename_i k hu
   split at h
   ·rename_i k'
    have := kindEq_eq h; subst this
    obtain ⟨x, y, a, b, rfl, rfl, rfl, rfl, k1, k2, a2, b2, e⟩ := one (x := .nils) (y := .nils) hx hy
    refine .inr ⟨by simp only [isAggT, hu], rfl, a, b, rfl, rfl, ?_⟩
    cases x <;> simp only [kindOk] at k1 <;> first | (cases k1; done) | skip
    cases y <;> simp only [kindOk] at k2 <;> first | (cases k2; done) | skip
    have e1 := kindEq_eq k1; have e2 := kindEq_eq k2; subst e1; subst e2
    have c1 := cv_int a2; have c2 := cv_int b2; subst c1; subst c2
    simp only [scalarEq, h] at e
    rw [← Nat.add_assoc]
    simp only [eqT, hu, if_true]
    exact e
   ·cases h
  ·rename_i hu
   split at h
   ·obtain ⟨x, y, a, b, rfl, rfl, rfl, rfl, k1, k2, a2, b2, e⟩ := one (x := .nils) (y := .nils) hx hy
    refine .inr ⟨by simp only [isAggT, hu], rfl, a, b, rfl, rfl, ?_⟩
    have hb1 : ∃ u, boolOf x = some u := by cases x <;> simp only [kindOk] at k1 <;> first | exact ⟨_, rfl⟩ | cases k1
    have hb2 : ∃ u, boolOf y = some u := by cases y <;> simp only [kindOk] at k2 <;> first | exact ⟨_, rfl⟩ | cases k2
    obtain ⟨u1, g1⟩ := hb1
    obtain ⟨u2, g2⟩ := hb2
    have c1 := boolOf_cv g1 a2; have c2 := boolOf_cv g2 b2; subst c1; subst c2
    rw [← Nat.add_assoc]
    simp only [eqT, hu]
    rw [← e]
    cases x <;> simp [boolOf] at g1 <;> cases y <;> simp [boolOf] at g2 <;> subst g1 <;> subst g2 <;> rfl
   ·cases h
  ·rename_i hu
   split at h
   ·obtain ⟨x, y, a, b, rfl, rfl, rfl, rfl, k1, k2, a2, b2, e⟩ := one (x := .nils) (y := .nils) hx hy
    refine .inr ⟨by simp only [isAggT, hu], rfl, a, b, rfl, rfl, ?_⟩
    cases x <;> simp only [kindOk] at k1 <;> first | (cases k1; done) | skip
    cases y <;> simp only [kindOk] at k2 <;> first | (cases k2; done) | skip
    have c1 := cv_str a2; have c2 := cv_str b2; subst c1; subst c2
    rw [← Nat.add_assoc]
    simp only [eqT, hu]
    exact e
   ·cases h
  ·rename_i fs hu
   simp only [Bool.and_eq_true, Bool.not_eq_true'] at h
   obtain ⟨⟨⟨hs, j2⟩, j3⟩, j4⟩ := h
   have hsz : sizeT P t = some ks.length := by
    rw [← h0]
    unfold sizeT at hs ⊢
    split at hs
    ·rename_i inf hi; simp only [hi, Program.cellsOf]; rfl
    ·cases hs
   refine .inl ⟨by simp only [isAggT, hu], hsz, ?_⟩
   rw [← Nat.add_assoc, eqT]
   ·simp only [j2, Bool.false_eq_true, if_false]
    refine nestFs_eq (p := nestB P d) (eq := eqT P (m + d)) (pa := []) (pb := []) (fun t ks xs ys as bs cs cs' o r hp hx hy ca cb he g1 g2 => ?_) j4 (by simpa using j3) rfl rfl hx hy ca cb he
    rcases nest_eq d m t ks xs ys as bs r hp hx hy ca cb he with ⟨u1, u2, u3⟩ | ⟨u1, u2, a, b, rfl, rfl, u3⟩
    ·exact ⟨.agg as, .agg bs, by simp only [partT, u1, u2, g1], by simp only [partT, u1, u2, g2], u3⟩
    ·rw [u2] at g1 g2
     have hd : ∀ {l : List AV} {x : AV}, (l.drop o).take 1 = [x] → l[o]? = some x := by
      intro l x e
      have := congrArg (fun q : List AV => q[0]?) e
      simpa [List.getElem?_take, List.getElem?_drop] using this
     exact ⟨a, b, by simp only [partT, u1]; exact hd g1, by simp only [partT, u1]; exact hd g2, u3⟩
   ·exact hu
  ·cases h
theorem aggBin_ok (ht : TTok P tt) {n : Nat} {ν : Nu} {op : BinOp} {t : TypeId} {xs ys : List V} {as bs : List AV} {K : V → Prop} (hx : Cvs n ν xs as) (hy : Cvs n ν ys bs) (hK : aggBin tt op t xs ys K) : ∃ v r, binA P op t (.agg as) (.agg bs) = some r ∧ Cv n ν v r ∧ K v := by
 unfold aggBin at hK
 split at hK
 ·rename_i ti hti
  split at hK
  ·rename_i fs ks h1 h2 h3
   split at hK
   ·rename_i r g1 g2 g3
    obtain ⟨i1, i2, i3, i4, i5⟩ := mkTI_inv (ht t ti hti)
    obtain ⟨fields, hu, hfi⟩ := tyOf_struct ht (t := t) (fs := fs) (by unfold tyOf; rw [hti]; exact h2)
    rw [h1] at i5
    have i5 := i5.symm
    simp only [Bool.and_eq_true, Bool.or_eq_true, Bool.not_eq_true', eqOk, hu, flatOk, h3] at i5
    obtain ⟨j1, i5⟩ := i5
    have he : eqT P 100 t (.agg as) (.agg bs) = some r := by
     rcases i5 with ⟨⟨j2, j3⟩, j4⟩ | i5
     rotate_left
     ·rcases nest_eq 4 96 t ks xs ys as bs r i5 g1 g2 hx hy g3 with ⟨_, _, u⟩ | ⟨u, _⟩
      ·exact u
      ·simp [isAggT, hu] at u
     have key : ∀ d, eqT P (d + 1 + 1) t (.agg as) (.agg bs) = some r := by
      intro d
      rw [eqT]
      ·simp only [j2, Bool.false_eq_true, if_false]
       exact eqFields_flat (d := d) (pa := []) (pb := []) j4 j3 rfl rfl g1 g2 hx hy g3
      ·exact hu
     exact key 98
    split at hK
    ·exact ⟨_, _, by simp [binA, isSym, eqShape, j1, he], mk_test, hK⟩
    ·exact ⟨_, _, by simp [binA, isSym, eqShape, j1, he], mk_test, hK⟩
    ·exact hK.elim
   ·exact hK.elim
  ·rename_i ks m e z h1 h2
   split at hK
   ·rename_i k hte hz
    have hz := Nat.eq_of_beq_eq_true hz
    subst hz
    split at hK
    ·rename_i r g1 g2 g3
     obtain ⟨i1, i2, i3, i4, i5⟩ := mkTI_inv (ht t ti hti)
     obtain ⟨hu, hsz⟩ := tyOf_array ht (t := t) (n := m) (e := e) (z := 1) (by unfold tyOf; rw [hti]; exact h2)
     have hue := tyOf_int ht hte
     rw [h1] at i5
     have i5 := i5.symm
     simp only [Bool.and_eq_true, Bool.not_eq_true'] at i5
     obtain ⟨j1, _⟩ := i5
     have hc : P.cellsOf e = 1 := by
      unfold sizeT at hsz
      split at hsz
      ·rename_i inf hi; simp at hsz; simp [Program.cellsOf, hi, hsz]
      ·cases hsz
     obtain ⟨inf, hinf⟩ : ∃ inf, P.info? e = some inf := by
      unfold sizeT at hsz
      split at hsz
      ·rename_i inf hi; exact ⟨inf, hi⟩
      ·cases hsz
     have he : eqT P 100 t (.agg as) (.agg bs) = some r := by
      have key : ∀ d, eqT P (d + 1 + 1) t (.agg as) (.agg bs) = some r := by
       intro d
       have := eqElems_ints (P := P) (d := d) hue (m := m) (j := 0) (pa := []) (pb := []) rfl rfl g1 g2 hx hy g3
       simp only [List.nil_append] at this
       simp only [eqT, hu, hinf, hc]
       rw [List.range_eq_range']
       exact this
      exact key 98
     split at hK
     ·exact ⟨_, _, by simp [binA, isSym, eqShape, j1, he], mk_test, hK⟩
     ·exact ⟨_, _, by simp [binA, isSym, eqShape, j1, he], mk_test, hK⟩
     ·exact hK.elim
    ·exact hK.elim
   ·exact hK.elim
  ·exact hK.elim
 ·exact hK.elim
theorem eqGuard_of (ht : TTok P tt) {t : TypeId} (h4 : eqOf tt t = true) : P.eqGuardType P.depth t = false := by
 unfold eqOf at h4
 split at h4
 ·rename_i i hi
  have := (mkTI_inv (ht t i hi)).2.2.2.2
  rw [h4] at this
  have := this.symm
  simp only [Bool.and_eq_true, Bool.not_eq_true'] at this
  exact this.1
 ·cases h4
theorem nilBin_ok (ht : TTok P tt) {n : Nat} {ν : Nu} {op : BinOp} {t : TypeId} {len : Nat} {a : AV} {K : V → Prop} (ha : (len = 0 ∧ a = .nils) ∨ (∃ x, a = .esl x) ∨ ∃ B o l c, a = .slc B o l c) (hK : nilBin tt op t len K) : ∃ v r, binA P op t a .nils = some r ∧ Cv n ν v r ∧ K v := by
 unfold nilBin at hK
 split at hK
 ·rename_i e z b ks h1 h2
  have hg := eqGuard_of ht h2
  have hu := (tyOf_slice ht h1).1
  have key : ∃ b : Bool, (b = true → len = 0) ∧ eqT P 100 t a .nils = some b ∧ eqShape a .nils = true ∧ isSym a = false := by
   rcases ha with ⟨h3, rfl⟩ | ⟨x, rfl⟩ | ⟨B, o, l, c, rfl⟩
   ·exact ⟨true, fun _ => h3, by simp only [eqT, hu], rfl, rfl⟩
   ·exact ⟨false, (fun h => Bool.noConfusion h), by simp only [eqT, hu], rfl, rfl⟩
   ·exact ⟨false, (fun h => Bool.noConfusion h), by simp only [eqT, hu], rfl, rfl⟩
  obtain ⟨b, hb, he, hs, hy⟩ := key
  split at hK
  ·exact ⟨_, _, by simp [binA, hy, show isSym AV.nils = false from rfl, hs, hg, he], mk_test, hK () b hb⟩
  ·exact ⟨_, _, by simp [binA, hy, show isSym AV.nils = false from rfl, hs, hg, he], mk_test, hK () b hb⟩
  ·exact hK.elim
 ·exact hK.elim
theorem nilsBin_ok (ht : TTok P tt) {n : Nat} {ν : Nu} {op : BinOp} {t : TypeId} {K : V → Prop} (hK : nilsBin tt op t K) : ∃ v r, binA P op t .nils .nils = some r ∧ Cv n ν v r ∧ K v := by
 unfold nilsBin at hK
 split at hK
 ·rename_i e z b ks h1 h2
  have hg := eqGuard_of ht h2
  have hu := (tyOf_slice ht h1).1
  have he : eqT P 100 t .nils .nils = some true := by simp only [eqT, hu]
  split at hK
  ·exact ⟨_, _, by simp [binA, isSym, eqShape, hg, he], mk_bool, hK⟩
  ·exact ⟨_, _, by simp [binA, isSym, eqShape, hg, he], mk_bool, hK⟩
  ·exact hK.elim
 ·exact hK.elim
theorem binV_ok (ht : TTok P tt) {n : Nat} {ν : Nu} {op : BinOp} {t : TypeId} {x y : V} {a b : AV} {K : V → Prop} (hx : Cv n ν x a) (hy : Cv n ν y b) (hK : binV tt op t x y K) : ∃ v r, binA P op t a b = some r ∧ Cv n ν v r ∧ K v := by
 unfold binV at hK
 split at hK
 ·rename_i k u k' w
  have e1 := cv_int hx; have e2 := cv_int hy; subst e1; subst e2
  split at hK
  ·have hK := hK ()
   exact ⟨_, _, by simp only [binA, isSym, Bool.or_self, Bool.false_eq_true, if_false]; rw [if_neg (by omega)], mk_int, hK.2⟩
  ·have hK := hK ()
   exact ⟨_, _, by simp only [binA, isSym, Bool.or_self, Bool.false_eq_true, if_false]; rw [if_neg (by omega)], mk_int, hK.2⟩
  ·rename_i h1 h2
   split at hK
   ·rename_i hk
    have := kindEq_eq hk; subst this
    obtain ⟨v, r, k1, k2, k3⟩ := intBin_ok (n := n) (ν := ν) hK
    refine ⟨v, r, ?_, k2, k3⟩
    rw [← k1]
    cases op <;> first
     | (exact absurd rfl h1)
     | (exact absurd rfl h2)
     | (simp [binA, isSym])
   ·exact hK.elim
 ·rename_i u w
  have e1 := cv_str hx; have e2 := cv_str hy; subst e1; subst e2
  obtain ⟨v, r, k1, k2, k3⟩ := strBin_ok (n := n) (ν := ν) hK
  refine ⟨v, r, ?_, k2, k3⟩
  rw [← k1]
  cases op <;> simp [binA, isSym]
 ·simp only [Cv] at hx hy
  obtain ⟨as, rfl, hx⟩ := hx
  obtain ⟨bs, rfl, hy⟩ := hy
  exact aggBin_ok ht hx hy hK
 ·have hy : b = .nils := by simpa only [Cv] using hy
  subst hy
  simp only [Cv] at hx
  rcases hx.2 with ⟨_, h2, h3⟩ | ⟨B, b0, cap, o', _, _, _, _, h3⟩
  ·exact nilBin_ok ht (.inl ⟨h2, h3⟩) hK
  ·exact nilBin_ok ht (.inr (.inr ⟨_, _, _, _, h3⟩)) hK
 ·have hy : b = .nils := by simpa only [Cv] using hy
  subst hy
  simp only [Cv] at hx
  rcases hx.2 with ⟨_, h2, h3⟩ | ⟨B, _, h3⟩
  ·exact nilBin_ok ht (.inl ⟨h2, h3⟩) hK
  ·exact nilBin_ok ht (.inr (.inr ⟨_, _, _, _, h3⟩)) hK
 ·have hy : b = .nils := by simpa only [Cv] using hy
  subst hy
  simp only [Cv] at hx
  cases hx with
  | flat _ _ h => cases h
  | nil _ _ h1 h2 => exact nilBin_ok ht (.inl ⟨h2, rfl⟩) hK
  | esl _ _ x h1 h2 => exact nilBin_ok ht (.inr (.inl ⟨x, rfl⟩)) hK
  | list _ _ B b0 cap cs el op w sp f z h1 h2 h3 h4 h5 h6 => exact nilBin_ok ht (.inr (.inr ⟨_, _, _, _, rfl⟩)) hK
 ·have hx : a = .nils := by simpa only [Cv] using hx
  have hy : b = .nils := by simpa only [Cv] using hy
  subst hx; subst hy
  exact nilsBin_ok ht hK
 ·exact boolBin_ok ht hx hy hK
theorem unV_ok {n : Nat} {ν : Nu} {op : UnOp} {x : V} {a : AV} {K : V → Prop} (hx : Cv n ν x a) (hK : unV op x K) : ∃ v r, unA op a = some r ∧ Cv n ν v r ∧ K v := by
 unfold unV at hK
 split at hK
 ·unfold notV at hK
  split at hK
  ·have e := cv_bool hx; subst e; exact ⟨_, _, rfl, mk_bool, hK⟩
  ·have e := cv_bool hx; subst e; exact ⟨_, _, rfl, mk_bool, hK⟩
  ·have e := cv_test hx; subst e; exact ⟨_, _, rfl, mk_test, hK⟩
  ·exact hK.elim
 ·split at hK
  ·have e := cv_int hx; subst e; exact ⟨_, _, rfl, mk_int, hK⟩
  ·exact hK.elim
 ·exact hK.elim
theorem convV_ok (ht : TTok P tt) {n : Nat} {ν : Nu} {src dst : TypeId} {x : V} {a : AV} {K : V → Prop} (hsrc : (P.underlying src).isSome = true) (hx : Cv n ν x a) (hK : convV tt dst x K) : ∃ v r, convA P src dst a = some r ∧ Cv n ν v r ∧ K v := by
 unfold convV at hK
 obtain ⟨ds, hds⟩ := Option.isSome_iff_exists.1 hsrc
 split at hK
 ·rename_i k k' m hty
  have e := cv_int hx; subst e
  exact ⟨_, _, by simp only [convA, hds, tyOf_int ht hty], mk_int, hK⟩
 ·rename_i st hty
  have e := cv_str hx; subst e
  exact ⟨_, _, by simp only [convA, hds, tyOf_string ht hty], mk_str, hK⟩
 ·exact hK.elim
theorem max_eq (a b : Int) : (if b > a then b else a) = max a b := by
 rw [Int.max_def]; split <;> split <;> omega
theorem min_eq (a b : Int) : (if b < a then b else a) = min a b := by
 rw [Int.min_def]; split <;> split <;> omega
theorem maxV_ok {n : Nat} {ν : Nu} {K : V → Prop} : ∀ {l : List V} {x : V} {a : AV} {as : List AV}, Cv n ν x a → Cvs n ν l as → maxV x l K → ∃ v r, maxA a as = some r ∧ Cv n ν v r ∧ K v
 | [], x, a, as, hx, hl, hK => by
  rw [hl.inv0]
  simp only [maxV] at hK
  exact ⟨x, a, by simp only [maxA], hx, hK⟩
 | y :: l, x, a, as, hx, hl, hK => by
  obtain ⟨b, as', rfl, h2, h3⟩ := hl.inv
  unfold maxV at hK
  split at hK
  ·rename_i hh; cases hh
  ·rename_i k u k' w r' heq
   cases heq
   split at hK
   ·rename_i hk
    have := kindEq_eq hk; subst this
    have e1 := cv_int hx; have e2 := cv_int h2; subst e1; subst e2
    obtain ⟨v, r, k1, k2, k3⟩ := maxV_ok (n := n) (ν := ν) (mk_int) h3 hK
    exact ⟨v, r, by simp only [maxA, if_true]; rw [max_eq]; exact k1, k2, k3⟩
   ·exact hK.elim
  ·exact hK.elim
theorem minV_ok {n : Nat} {ν : Nu} {K : V → Prop} : ∀ {l : List V} {x : V} {a : AV} {as : List AV}, Cv n ν x a → Cvs n ν l as → minV x l K → ∃ v r, minA a as = some r ∧ Cv n ν v r ∧ K v
 | [], x, a, as, hx, hl, hK => by
  rw [hl.inv0]
  simp only [minV] at hK
  exact ⟨x, a, by simp only [minA], hx, hK⟩
 | y :: l, x, a, as, hx, hl, hK => by
  obtain ⟨b, as', rfl, h2, h3⟩ := hl.inv
  unfold minV at hK
  split at hK
  ·rename_i hh; cases hh
  ·rename_i k u k' w r' heq
   cases heq
   split at hK
   ·rename_i hk
    have := kindEq_eq hk; subst this
    have e1 := cv_int hx; have e2 := cv_int h2; subst e1; subst e2
    obtain ⟨v, r, k1, k2, k3⟩ := minV_ok (n := n) (ν := ν) (mk_int) h3 hK
    exact ⟨v, r, by simp only [minA, if_true]; rw [min_eq]; exact k1, k2, k3⟩
   ·exact hK.elim
  ·exact hK.elim
end Go.Vm2
