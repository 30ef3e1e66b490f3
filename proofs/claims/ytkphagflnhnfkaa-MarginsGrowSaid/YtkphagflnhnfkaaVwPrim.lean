/-
  Part of the proof that the small machine's runs stand for the program's (VwPrim). No conditions beyond those that its theorems name.
-/
import Derived.Test.YtkphagflnhnfkaaVwHeap
namespace Go.Vm2
open Go Go.Vm
set_option linter.unusedVariables false
set_option linter.unusedSectionVars false
variable [Facts] {P : Program} {tt : TT} {c : Px} {ν : Nu} {h : H} {s : St}
theorem ttok_mk : ∀ {ts : List TypeId} {tt : TT}, mkTT P ts = some tt → TTok P tt
  | [], tt, e => by simp [mkTT] at e; subst e; intro t i h; simp [look] at h
  | t :: ts, tt, e => by
    simp only [mkTT] at e
    split at e
    · rename_i i l h1 h2
      simp at e; subst e
      intro u j hj
      rw [look_cons] at hj
      split at hj
      · rename_i e; subst e; simp at hj; subst hj; exact h1
      · exact ttok_mk h2 u j hj
    · simp at e
theorem mkTI_inv {t : TypeId} {ti : TI} (h : mkTI P t = some ti) : isAggT P t = some ti.agg ∧ sizeT P t = some ti.size ∧ zeroV P t = some ti.zero ∧ ti.ty = mkTY P t ∧ ti.eq = !(P.eqGuardType P.depth t) := by
  unfold mkTI at h
  split at h
  · rename_i a n z h1 h2 h3; simp at h; subst h; exact ⟨h1, h2, h3, rfl, rfl⟩
  · simp at h
theorem zeroV_cv {t : TypeId} {z : V} (h : zeroV P t = some z) (n : Nat) (ν : Nu) : ∃ a, zeroOf P t = some a ∧ Cv n ν z a := by
  unfold zeroV at h; unfold zeroOf
  split at h
  · rename_i i hi
    rw [hi]
    split at h
    · rename_i v hv
      simp only [hv]
      exact ofConst_cv h
    · simp at h
  · simp at h
theorem tyOf_mk (ht : TTok P tt) {t : TypeId} (h : tyOf tt t ≠ .other) : mkTY P t = tyOf tt t := by
  unfold tyOf at h ⊢
  split at h
  · rename_i i hi; exact (mkTI_inv (ht t i hi)).2.2.2.1.symm
  · exact absurd rfl h
theorem tyOf_int (ht : TTok P tt) {t : TypeId} {k : IntKind} (h : tyOf tt t = .int k) : P.underlying t = some (.int k) := by
  have := tyOf_mk ht (t := t) (by rw [h]; simp)
  rw [h] at this
  unfold mkTY at this
  repeat' split at this
  all_goals first | (cases this; assumption) | cases this
theorem tyOf_string (ht : TTok P tt) {t : TypeId} (h : tyOf tt t = .string) : P.underlying t = some .string := by
  have := tyOf_mk ht (t := t) (by rw [h]; simp)
  rw [h] at this
  unfold mkTY at this
  repeat' split at this
  all_goals first | assumption | cases this
structure SliceT (P : Program) (t e z b : Nat) (ks : List CK) : Prop where
  und : P.underlying t = some (.slice e)
  len : ks.length = z
  pos : 0 < z
  info : ∃ i, P.info? e = some i ∧ i.size = z ∧ i.bytes = b
  zero : ∃ zv a, zeroV P e = some zv ∧ zeroOf P e = some a ∧ a.cells.length = z ∧ Vm.cellsOk a.cells = true
theorem cksOf_len : ∀ {vs : List V} {ks : List CK}, cksOf vs = some ks → ks.length = vs.length
  | [], ks, h => by simp [cksOf] at h; subst h; rfl
  | v :: vs, ks, h => by
    simp only [cksOf] at h
    split at h
    · rename_i c l h1 h2; simp at h; subst h; simp [cksOf_len h2]
    · simp at h
theorem cksOf_cell : ∀ {vs : List V} {ks : List CK}, cksOf vs = some ks → cellsOk vs = true
  | [], ks, h => rfl
  | v :: vs, ks, h => by
    simp only [cksOf] at h
    split at h
    · rename_i c l h1 h2
      simp only [cellsOk, Bool.and_eq_true]
      refine ⟨?_, cksOf_cell h2⟩
      cases v <;> first | rfl | (simp [ckOf] at h1)
    · simp at h
theorem tyOf_slice (ht : TTok P tt) {t e z b : Nat} {ks : List CK} (h : tyOf tt t = .slice e z b ks) : SliceT P t e z b ks := by
  have := tyOf_mk ht (t := t) (by rw [h]; simp)
  rw [h] at this
  unfold mkTY at this
  split at this
  · cases this
  · cases this
  · cases this
  · rename_i e' hu
    split at this
    · rename_i i zv hi hz
      split at this
      · rename_i ks' hk
        split at this
        · rename_i hc
          cases this
          obtain ⟨a, ha, hcv⟩ := zeroV_cv hz 0 (fun _ => none)
          have hl := cksOf_len hk
          refine ⟨hu, hc.1, hc.2, ⟨i, hi, rfl, rfl⟩, zv, a, hz, ha, ?_, hcv.cells.cellsOk (cksOf_cell hk)⟩
          rw [hcv.cells.length, ← hl, hc.1]
        · cases this
      · cases this
    · cases this
  · split at this <;> cases this
  · cases this
theorem mkFIs_inv : ∀ {l : List Field} {fs : List FI}, mkFIs P l = some fs → ∀ (i : Nat) (fi : FI), fs[i]? = some fi → ∃ fd, l[i]? = some fd ∧ fd.offset = fi.off ∧ sizeT P fd.type = some fi.size ∧ isAggT P fd.type = some fi.agg
  | [], fs, h, i, fi, hi => by simp [mkFIs] at h; subst h; simp at hi
  | f :: l, fs, h, i, fi, hi => by
    simp only [mkFIs] at h
    split at h
    · rename_i a r h1 h2
      simp at h; subst h
      cases i with
      | zero =>
        simp at hi; subst hi
        unfold mkFI at h1
        split at h1
        · rename_i z g k1 k2; simp at h1; subst h1; exact ⟨f, rfl, rfl, k1, k2⟩
        · simp at h1
      | succ i => simp at hi ⊢; exact mkFIs_inv h2 i fi hi
    · simp at h
theorem mkFIs_places : ∀ {l : List Field} {fs : List FI}, mkFIs P l = some fs → placesA P l = some (fs.map fun f => (f.off, f.size))
  | [], fs, h => by simp [mkFIs] at h; subst h; rfl
  | f :: l, fs, h => by
    simp only [mkFIs] at h
    split at h
    · rename_i a r h1 h2
      simp at h; subst h
      unfold mkFI at h1
      split at h1
      · rename_i z g k1 k2; simp at h1; subst h1; simp [placesA, k1, mkFIs_places h2]
      · simp at h1
    · simp at h
theorem tyOf_struct (ht : TTok P tt) {t : TypeId} {fs : List FI} (h : tyOf tt t = .struct fs) : ∃ fields, P.underlying t = some (.struct fields) ∧ mkFIs P fields.toList = some fs := by
  have := tyOf_mk ht (t := t) (by rw [h]; simp)
  rw [h] at this
  unfold mkTY at this
  split at this
  · cases this
  · cases this
  · cases this
  · repeat' split at this
    all_goals cases this
  · rename_i fields hu
    split at this
    · rename_i fs' hf; cases this; exact ⟨fields, hu, hf⟩
    · cases this
  · cases this
/-- what an operation that calls nothing comes to -/
def Done (P : Program) (t : List AV) (op : Op) (c : Px) (ν : Nu) (h : H) (s : St) (K : V → H → Prop) : Prop :=
  ∃ a os v h' ν', prim P t s op = some (a, os) ∧ K v h' ∧ R c ν' h' (os.getD s) ∧ Cv h'.nx ν' v a ∧ Ex h ν s h' ν' (os.getD s)
theorem Done.pure {t : List AV} {op : Op} {K : V → H → Prop} (r : R c ν h s) {a : AV} {v : V} (hp : prim P t s op = some (a, none)) (hk : K v h) (hv : Cv h.nx ν v a) : Done P t op c ν h s K :=
  ⟨a, none, v, h, ν, hp, hk, r, hv, Ex.refl h ν s⟩
theorem cv_int {n : Nat} {ν : Nu} {k : IntKind} {m : Int} {a : AV} (h : Cv n ν (.int k m) a) : a = .int k m := by simpa only [Cv] using h
theorem cv_bool {n : Nat} {ν : Nu} {b : Bool} {a : AV} (h : Cv n ν (.bool b) a) : a = .bool b := by simpa only [Cv] using h
theorem cv_test {n : Nat} {ν : Nu} {b : Bool} {a : AV} (h : Cv n ν (.test b) a) : a = .bool b := by simpa only [Cv] using h
theorem cv_str {n : Nat} {ν : Nu} {b : List UInt8} {a : AV} (h : Cv n ν (.str b) a) : a = .str b := by simpa only [Cv] using h
theorem mk_int {n : Nat} {ν : Nu} {k : IntKind} {m : Int} : Cv n ν (.int k m) (.int k m) := by simp only [Cv]
theorem mk_bool {n : Nat} {ν : Nu} {b : Bool} : Cv n ν (.bool b) (.bool b) := by simp only [Cv]
theorem mk_test {n : Nat} {ν : Nu} {b : Bool} : Cv n ν (.test b) (.bool b) := by simp only [Cv]
theorem mk_str {n : Nat} {ν : Nu} {b : List UInt8} : Cv n ν (.str b) (.str b) := by simp only [Cv]
/-! numbers, tests -/
theorem intBin_ok {n : Nat} {ν : Nu} {op : BinOp} {k : IntKind} {x y : Int} {K : V → Prop} (hK : intBin op k x y K) : ∃ v a, Vm.intBin op k x y = some a ∧ Cv n ν v a ∧ K v := by
  cases op <;> simp only [intBin] at hK
  all_goals
    first
      | exact hK.elim
      | exact ⟨_, _, rfl, mk_int, hK⟩
      | exact ⟨_, _, rfl, mk_test, hK⟩
      | exact ⟨_, _, by simp only [Vm.intBin]; rw [if_neg (hK ()).1], mk_int, (hK ()).2⟩
theorem strBin_ok {n : Nat} {ν : Nu} {op : BinOp} {x y : List UInt8} {K : V → Prop} (hK : strBin op x y K) : ∃ v a, Vm.strBin op x y = some a ∧ Cv n ν v a ∧ K v := by
  cases op <;> simp only [strBin] at hK
  all_goals
    first
      | exact hK.elim
      | exact ⟨_, _, rfl, mk_test, hK⟩
      | exact ⟨_, _, by simp only [Vm.strBin]; rw [if_pos (hK ()).1], mk_str, (hK ()).2⟩
theorem tyOf_bool (ht : TTok P tt) {t : TypeId} (h : tyOf tt t = .bool) : P.underlying t = some .bool := by
  have := tyOf_mk ht (t := t) (by rw [h]; simp)
  rw [h] at this
  unfold mkTY at this
  repeat' split at this
  all_goals first | assumption | cases this
theorem boolOf_cv {n : Nat} {ν : Nu} {x : V} {a : AV} {p : Bool} (h : boolOf x = some p) (hc : Cv n ν x a) : a = .bool p := by
  cases x <;> simp [boolOf] at h
  · subst h; exact cv_bool hc
  · subst h; exact cv_test hc
theorem boolBin_ok (ht : TTok P tt) {n : Nat} {ν : Nu} {op : BinOp} {t : TypeId} {x y : V} {a b : AV} {K : V → Prop} (hx : Cv n ν x a) (hy : Cv n ν y b) (hK : boolBin tt op t x y K) : ∃ v r, binA P op t a b = some r ∧ Cv n ν v r ∧ K v := by
  unfold boolBin at hK
  split at hK
  · rename_i p q h1 h2 h3 h4
    have e1 := boolOf_cv h1 hx; have e2 := boolOf_cv h2 hy; subst e1; subst e2
    have hu := tyOf_bool ht h3
    have hg : P.eqGuardType P.depth t = false := by
      unfold eqOf at h4
      split at h4
      · rename_i i hi
        have := (mkTI_inv (ht t i hi)).2.2.2.2
        rw [h4] at this
        simpa using this.symm
      · cases h4
    have he : eqT P 100 t (.bool p) (.bool q) = some (p == q) := by simp only [eqT, hu]
    split at hK
    · exact ⟨_, _, by simp [binA, isSym, eqShape, hg, he], mk_test, hK⟩
    · exact ⟨_, _, by simp [binA, isSym, eqShape, hg, he], mk_test, hK⟩
    · exact hK.elim
  · exact hK.elim
theorem binV_ok (ht : TTok P tt) {n : Nat} {ν : Nu} {op : BinOp} {t : TypeId} {x y : V} {a b : AV} {K : V → Prop} (hx : Cv n ν x a) (hy : Cv n ν y b) (hK : binV tt op t x y K) : ∃ v r, binA P op t a b = some r ∧ Cv n ν v r ∧ K v := by
  unfold binV at hK
  split at hK
  · rename_i k u k' w
    have e1 := cv_int hx; have e2 := cv_int hy; subst e1; subst e2
    split at hK
    · have hK := hK ()
      exact ⟨_, _, by simp only [binA, isSym, Bool.or_self, Bool.false_eq_true, if_false]; rw [if_neg (by omega)], mk_int, hK.2⟩
    · have hK := hK ()
      exact ⟨_, _, by simp only [binA, isSym, Bool.or_self, Bool.false_eq_true, if_false]; rw [if_neg (by omega)], mk_int, hK.2⟩
    · rename_i h1 h2
      split at hK
      · rename_i hk
        have := kindEq_eq hk; subst this
        obtain ⟨v, r, k1, k2, k3⟩ := intBin_ok (n := n) (ν := ν) hK
        refine ⟨v, r, ?_, k2, k3⟩
        rw [← k1]
        cases op <;> first
          | (exact absurd rfl h1)
          | (exact absurd rfl h2)
          | (simp [binA, isSym])
      · exact hK.elim
  · rename_i u w
    have e1 := cv_str hx; have e2 := cv_str hy; subst e1; subst e2
    obtain ⟨v, r, k1, k2, k3⟩ := strBin_ok (n := n) (ν := ν) hK
    refine ⟨v, r, ?_, k2, k3⟩
    rw [← k1]
    cases op <;> simp [binA, isSym]
  · exact boolBin_ok ht hx hy hK
theorem unV_ok {n : Nat} {ν : Nu} {op : UnOp} {x : V} {a : AV} {K : V → Prop} (hx : Cv n ν x a) (hK : unV op x K) : ∃ v r, unA op a = some r ∧ Cv n ν v r ∧ K v := by
  unfold unV at hK
  split at hK
  · unfold notV at hK
    split at hK
    · have e := cv_bool hx; subst e; exact ⟨_, _, rfl, mk_bool, hK⟩
    · have e := cv_bool hx; subst e; exact ⟨_, _, rfl, mk_bool, hK⟩
    · have e := cv_test hx; subst e; exact ⟨_, _, rfl, mk_test, hK⟩
    · exact hK.elim
  · split at hK
    · have e := cv_int hx; subst e; exact ⟨_, _, rfl, mk_int, hK⟩
    · exact hK.elim
  · exact hK.elim
theorem convV_ok (ht : TTok P tt) {n : Nat} {ν : Nu} {src dst : TypeId} {x : V} {a : AV} {K : V → Prop} (hsrc : (P.underlying src).isSome = true) (hx : Cv n ν x a) (hK : convV tt dst x K) : ∃ v r, convA P src dst a = some r ∧ Cv n ν v r ∧ K v := by
  unfold convV at hK
  obtain ⟨ds, hds⟩ := Option.isSome_iff_exists.1 hsrc
  split at hK
  · rename_i k k' m hty
    have e := cv_int hx; subst e
    exact ⟨_, _, by simp only [convA, hds, tyOf_int ht hty], mk_int, hK⟩
  · rename_i st hty
    have e := cv_str hx; subst e
    exact ⟨_, _, by simp only [convA, hds, tyOf_string ht hty], mk_str, hK⟩
  · exact hK.elim
theorem max_eq (a b : Int) : (if b > a then b else a) = max a b := by
  rw [Int.max_def]; split <;> split <;> omega
theorem min_eq (a b : Int) : (if b < a then b else a) = min a b := by
  rw [Int.min_def]; split <;> split <;> omega
theorem maxV_ok {n : Nat} {ν : Nu} {K : V → Prop} : ∀ {l : List V} {x : V} {a : AV} {as : List AV}, Cv n ν x a → Cvs n ν l as → maxV x l K → ∃ v r, maxA a as = some r ∧ Cv n ν v r ∧ K v
  | [], x, a, as, hx, hl, hK => by
    rw [hl.inv0]
    simp only [maxV] at hK
    exact ⟨x, a, by simp only [maxA], hx, hK⟩
  | y :: l, x, a, as, hx, hl, hK => by
    obtain ⟨b, as', rfl, h2, h3⟩ := hl.inv
    unfold maxV at hK
    split at hK
    · rename_i hh; cases hh
    · rename_i k u k' w r' heq
      cases heq
      split at hK
      · rename_i hk
        have := kindEq_eq hk; subst this
        have e1 := cv_int hx; have e2 := cv_int h2; subst e1; subst e2
        obtain ⟨v, r, k1, k2, k3⟩ := maxV_ok (n := n) (ν := ν) (mk_int) h3 hK
        exact ⟨v, r, by simp only [maxA, if_true]; rw [max_eq]; exact k1, k2, k3⟩
      · exact hK.elim
    · exact hK.elim
theorem minV_ok {n : Nat} {ν : Nu} {K : V → Prop} : ∀ {l : List V} {x : V} {a : AV} {as : List AV}, Cv n ν x a → Cvs n ν l as → minV x l K → ∃ v r, minA a as = some r ∧ Cv n ν v r ∧ K v
  | [], x, a, as, hx, hl, hK => by
    rw [hl.inv0]
    simp only [minV] at hK
    exact ⟨x, a, by simp only [minA], hx, hK⟩
  | y :: l, x, a, as, hx, hl, hK => by
    obtain ⟨b, as', rfl, h2, h3⟩ := hl.inv
    unfold minV at hK
    split at hK
    · rename_i hh; cases hh
    · rename_i k u k' w r' heq
      cases heq
      split at hK
      · rename_i hk
        have := kindEq_eq hk; subst this
        have e1 := cv_int hx; have e2 := cv_int h2; subst e1; subst e2
        obtain ⟨v, r, k1, k2, k3⟩ := minV_ok (n := n) (ν := ν) (mk_int) h3 hK
        exact ⟨v, r, by simp only [minA, if_true]; rw [min_eq]; exact k1, k2, k3⟩
      · exact hK.elim
    · exact hK.elim
end Go.Vm2
