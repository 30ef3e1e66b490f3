/-
 Part of the proof that a machine over named lists stands for the program's runs (VwPrim4). No conditions beyond those that its theorems name.
-/
import Derived.Test.YtjljleemknmgoaaVwPrim3
namespace Go.Vm2
open Go Go.Vm
set_option linter.unusedVariables false
set_option linter.unusedSectionVars false
variable [Facts] {P : Program} {tt : TT} {c : Px} {ν : Nu} {h : H} {s : St}
theorem partT_agg {t : TypeId} {cs : List AV} {o z : Nat} (h1 : isAggT P t = some true) (h2 : sizeT P t = some z) : partT P t cs o = some (.agg ((cs.drop o).take z)) := by
 simp only [partT, h1, h2]
theorem partT_one {t : TypeId} {cs : List AV} {o z : Nat} (h1 : isAggT P t = some false) (h2 : sizeT P t = some z) : partT P t cs o = cs[o]? := by
 simp only [partT, h1, h2]
theorem field_ok (ht : TTok P tt) {n : Nat} {ν : Nu} {t : TypeId} {v : V} {a : AV} {f : Nat} {K : V → Prop} (hv : Cv n ν v a) (hK : fieldV tt t v f K) : ∃ u b, fieldA P t a f = some b ∧ Cv n ν u b ∧ K u := by
 unfold fieldV at hK
 split at hK
 ·rename_i fs hty
  obtain ⟨fields, u1, u2⟩ := tyOf_struct ht hty
  rw [nth_eq] at hK
  split at hK
  ·rename_i fi hfi
   obtain ⟨fd, f1, f2, f3, f4⟩ := mkFIs_inv u2 f fi hfi
   split at hK
   ·rename_i cs
    simp only [Cv] at hv
    obtain ⟨as, rfl, hcs⟩ := hv
    split at hK
    ·rename_i hagg
     rw [forceL_eq, takeL_eq, dropL_eq] at hK
     refine ⟨_, .agg ((as.drop fi.off).take fi.size), ?_, by simp only [Cv]; exact ⟨_, rfl, (hcs.drop _).take _⟩, hK⟩
     simp only [fieldA, u1, f1]
     rw [partT_agg (by rw [f4, hagg]) f3, f2]
    ·rename_i hagg
     rw [nth_eq] at hK
     split at hK
     ·rename_i u hu
      obtain ⟨b, e1, e2⟩ := hcs.get hu
      refine ⟨u, b, ?_, e2, hK⟩
      simp only [fieldA, u1, f1]
      rw [partT_one (by rw [f4, hagg]) f3, f2]; exact e1
     ·exact hK.elim
   ·exact hK.elim
  ·exact hK.elim
 ·exact hK.elim
theorem fieldAddr_ok (ht : TTok P tt) {n : Nat} {ν : Nu} {t : TypeId} {v : V} {a : AV} {f : Nat} {K : V → Prop} (hv : Cv n ν v a) (hK : fieldAddrV tt t v f K) : ∃ u b, fieldAddrA P t a f = some b ∧ Cv n ν u b ∧ K u := by
 unfold fieldAddrV at hK
 split at hK
 ·rename_i fs hty
  obtain ⟨fields, u1, u2⟩ := tyOf_struct ht hty
  rw [nth_eq] at hK
  split at hK
  ·rename_i fi hfi
   obtain ⟨fd, f1, f2, f3, f4⟩ := mkFIs_inv u2 f fi hfi
   split at hK
   ·rename_i hle
    have hle := Nat.le_of_ble_eq_true hle
    obtain ⟨m, hm⟩ : ∃ m, fi.size = m + 1 := ⟨fi.size - 1, by omega⟩
    rw [hm] at f3
    split at hK
    ·rename_i x o
     simp only [Cv] at hv
     obtain ⟨h0, B, b0, h1, rfl⟩ := hv
     refine ⟨_, .ptr B (b0 + o + fd.offset), ?_, ?_, hK⟩
     ·simp only [fieldAddrA, u1, f1, f3]
     ·simp only [Cv]; exact ⟨h0, B, b0, h1, by rw [f2, Nat.add_assoc]⟩
    ·rename_i x i z o
     simp only [Cv] at hv
     obtain ⟨h0, B, b0, h1, rfl⟩ := hv
     refine ⟨_, .ptr B (b0 + i * z + o + fd.offset), ?_, ?_, hK⟩
     ·simp only [fieldAddrA, u1, f1, f3]
     ·simp only [Cv]; exact ⟨h0, B, b0, h1, by rw [f2, Nat.add_assoc]⟩
    ·rename_i κ e ac i o
     simp only [Cv] at hv
     obtain ⟨B, b0, h1, h2, rfl⟩ := hv
     refine ⟨_, .ptr B (b0 + i * (kindsK κ e).length + o + fd.offset), ?_, ?_, hK⟩
     ·simp only [fieldAddrA, u1, f1, f3]
     ·simp only [Cv]; exact ⟨B, b0, h1, h2, by rw [f2, Nat.add_assoc]⟩
    ·exact hK.elim
   ·exact hK.elim
  ·exact hK.elim
 ·exact hK.elim
theorem sliceT_size {t e z b : Nat} {ks : List CK} (h : SliceT P t e z b ks) : sizeT P e = some z := by
 obtain ⟨i, h1, h2, h3⟩ := h.info
 simp only [sizeT, h1, h2]
theorem indexAddr_ok (ht : TTok P tt) {n : Nat} {ν : Nu} {t : TypeId} {v w : V} {a b : AV} {K : V → Prop} (hv : Cv n ν v a) (hw : Cv n ν w b) (hK : indexAddrV tt t v w K) : ∃ u r, indexAddrA P t a b = some r ∧ Cv n ν u r ∧ K u := by
 unfold indexAddrV at hK
 split at hK
 ·rename_i e z bb ks hty
  have hs := tyOf_slice ht hty
  have hz := sliceT_size hs
  split at hK
  ·rename_i k m
   have e1 := cv_int hw; subst e1
   split at hK
   ·rename_i x z' o len
    split at hK
    ·rename_i hzz
     have hzz := Nat.eq_of_beq_eq_true hzz
     subst hzz
     obtain ⟨⟨i1, i2⟩, hK⟩ := hK ()
     simp only [Cv] at hv
     obtain ⟨h0, ⟨h1, h2, rfl⟩ | ⟨B, b0, cap, o', h1, h2, h3, h4, rfl⟩⟩ := hv
     ·subst h2; omega
     ·have : o' = o := by rcases h4 with e | e; exact e; omega
      subst this
      refine ⟨_, .ptr B (b0 + o' * z + m.toNat * z), ?_, ?_, hK⟩
      ·simp only [indexAddrA, hs.und, hz]
       rw [if_pos ⟨i1, i2⟩]
      ·simp only [Cv]; exact ⟨h0, B, b0, h1, by rw [Nat.add_mul, Nat.add_zero, Nat.add_assoc]⟩
    ·exact hK.elim
   ·rename_i x len
    obtain ⟨⟨i1, i2⟩, hK⟩ := hK ()
    simp only [Cv] at hv
    obtain ⟨h0, ⟨h1, h2, rfl⟩ | ⟨B, h1, rfl⟩⟩ := hv
    ·subst h2; omega
    ·refine ⟨_, .ptr B (0 + m.toNat * z), ?_, ?_, hK⟩
     ·simp only [indexAddrA, hs.und, hz]
      rw [if_pos ⟨i1, i2⟩]
     ·simp only [Cv]; exact ⟨h0, B, 0, h1, by rw [Nat.add_zero]⟩
   ·rename_i κ e' ac
    split at hK
    ·rename_i hzz
     have hzz := Nat.eq_of_beq_eq_true hzz
     rw [len'_eq] at hzz
     obtain ⟨⟨i1, i2⟩, hK⟩ := hK ()
     obtain ⟨q0, ⟨q1, _⟩ | ⟨B, b0, cap, rfl, q2, q3⟩⟩ := lst_cv hv
     ·omega
     ·refine ⟨_, .ptr B (b0 + m.toNat * z), ?_, ?_, hK⟩
      ·simp only [indexAddrA, hs.und, hz]
       rw [if_pos ⟨i1, i2⟩]
      ·simp only [Cv]; exact ⟨B, b0, q3, by omega, by rw [hzz, Nat.add_zero]⟩
    ·exact hK.elim
   ·exact hK.elim
  ·exact hK.elim
 ·rename_i len e z hty
  obtain ⟨hs, hz⟩ := tyOf_array ht hty
  split at hK
  ·rename_i k m
   have e1 := cv_int hw; subst e1
   split at hK
   ·rename_i m
    split at hK
    ·rename_i hlt
     have hlt := Nat.lt_of_succ_le (Nat.le_of_ble_eq_true hlt)
     split at hK
     ·rename_i x o
      simp only [Cv] at hv
      obtain ⟨h0, B, b0, h1, rfl⟩ := hv
      refine ⟨_, .ptr B (b0 + o + m * z), ?_, ?_, hK⟩
      ·simp only [indexAddrA, hs, hz]
       rw [if_pos ⟨Int.natCast_nonneg m, Int.ofNat_lt.2 hlt⟩]
       rfl
      ·simp only [Cv]; exact ⟨h0, B, b0, h1, by rw [Nat.add_assoc]⟩
     ·rename_i x i z' o
      simp only [Cv] at hv
      obtain ⟨h0, B, b0, h1, rfl⟩ := hv
      refine ⟨_, .ptr B (b0 + i * z' + o + m * z), ?_, ?_, hK⟩
      ·simp only [indexAddrA, hs, hz]
       rw [if_pos ⟨Int.natCast_nonneg m, Int.ofNat_lt.2 hlt⟩]
       rfl
      ·simp only [Cv]; exact ⟨h0, B, b0, h1, by rw [Nat.add_assoc]⟩
     ·exact hK.elim
    ·exact hK.elim
   ·exact hK.elim
  ·exact hK.elim
 ·exact hK.elim
theorem indexAddrW_ok (ht : TTok P tt) {n : Nat} {ν : Nu} {t : TypeId} {op : Operand} {v w : V} {a b : AV} {K : V → Prop} (hv : Cv n ν v a) (hw : Cv n ν w b) (hK : indexAddrW tt t op v w K) : ∃ u r, indexAddrA P t a b = some r ∧ Cv n ν u r ∧ K u := by
 unfold indexAddrW at hK
 split at hK
 ·exact indexAddr_ok ht hv hw hK
 ·split at hK
  ·split at hK
   ·rename_i k m
    obtain ⟨m', e, hK2⟩ := hK ()
    subst e
    exact indexAddr_ok ht hv hw hK2
   ·exact hK.elim
  ·exact indexAddr_ok ht hv hw hK
theorem index_ok (ht : TTok P tt) {n : Nat} {ν : Nu} {t : TypeId} {v w : V} {a b : AV} {K : V → Prop} (hv : Cv n ν v a) (hw : Cv n ν w b) (hK : indexV tt t v w K) : ∃ u r, indexA P t a b = some r ∧ Cv n ν u r ∧ K u := by
 unfold indexV at hK
 split at hK
 ·rename_i len e z hty
  obtain ⟨hs, hz⟩ := tyOf_array ht hty
  split at hK
  ·rename_i te hte
   split at hK
   ·rename_i hagg
    have m1 := (mkTI_inv (ht e te hte)).1
    rw [hagg] at m1
    split at hK
    ·rename_i k m
     have e1 := cv_int hw; subst e1
     split at hK
     ·rename_i m
      split at hK
      ·rename_i hlt
       have hlt := Nat.lt_of_succ_le (Nat.le_of_ble_eq_true hlt)
       split at hK
       ·rename_i cs
        simp only [Cv] at hv
        obtain ⟨as, rfl, hcs⟩ := hv
        split at hK
        ·rename_i u hu
         rw [nth_eq] at hu
         obtain ⟨r, hr, hc⟩ := hcs.get hu
         refine ⟨u, r, ?_, hc, hK⟩
         simp only [indexA, hs, hz]
         rw [if_pos ⟨Int.natCast_nonneg m, Int.ofNat_lt.2 hlt⟩]
         simp only [partT, m1]
         exact hr
        ·exact hK.elim
       ·exact hK.elim
      ·exact hK.elim
     ·exact hK.elim
    ·exact hK.elim
   ·exact hK.elim
  ·exact hK.elim
 ·rename_i hty
  have hs := tyOf_string ht hty
  split at hK
  ·rename_i l
   have e0 := cv_str hv; subst e0
   split at hK
   ·rename_i k n
    have e1 := cv_int hw; subst e1
    obtain ⟨hb, hK⟩ := hK ()
    have hlt : n.toNat < l.length := by omega
    refine ⟨_, _, ?_, mk_int, hK⟩
    simp only [indexA, hs, if_pos hb.1]
    rw [List.getElem?_eq_getElem hlt, List.getD_eq_getElem?_getD, List.getElem?_eq_getElem hlt]
    rfl
   ·exact hK.elim
  ·exact hK.elim
 ·exact hK.elim
theorem len_ok (ht : TTok P tt) {n : Nat} {ν : Nu} {t : TypeId} {v : V} {a : AV} {K : V → Prop} (hv : Cv n ν v a) (hK : lenV (tyOf tt t) v K) : ∃ u r, lenA P s [t] a = some r ∧ Cv n ν u r ∧ K u := by
 unfold lenV at hK
 split at hK
 ·rename_i e z b ks hty
  have hs := (tyOf_slice ht hty).und
  split at hK
  ·simp only [Cv] at hv
   obtain ⟨h0, ⟨h1, h2, rfl⟩ | ⟨B, b0, cap, o', h1, h2, h3, h4, rfl⟩⟩ := hv
   ·subst h2; exact ⟨_, _, by simp only [lenA, hs]; rfl, mk_int, hK⟩
   ·exact ⟨_, _, by simp only [lenA, hs], mk_int, hK⟩
  ·simp only [Cv] at hv
   obtain ⟨h0, ⟨h1, h2, rfl⟩ | ⟨B, h1, rfl⟩⟩ := hv
   ·subst h2; exact ⟨_, _, by simp only [lenA, hs]; rfl, mk_int, hK⟩
   ·exact ⟨_, _, by simp only [lenA, hs], mk_int, hK⟩
  ·rename_i κ e' ac
   have hK : K (.int .i64 ac.len) := by cases ac <;> exact hK
   obtain ⟨q0, ⟨q1, rfl | ⟨x, rfl⟩⟩ | ⟨B, b0, cap, rfl, q2, q3⟩⟩ := lst_cv hv
   ·rw [q1] at hK; exact ⟨_, _, by simp only [lenA, hs]; rfl, mk_int, hK⟩
   ·rw [q1] at hK; exact ⟨_, _, by simp only [lenA, hs]; rfl, mk_int, hK⟩
   ·exact ⟨_, _, by simp only [lenA, hs], mk_int, hK⟩
  ·simp only [Cv] at hv; subst hv
   exact ⟨_, _, by simp only [lenA, hs], mk_int, hK⟩
  ·exact hK.elim
 ·rename_i hty
  have hs := tyOf_string ht hty
  split at hK
  ·simp only [Cv] at hv; subst hv
   exact ⟨_, _, by simp only [lenA, hs], mk_int, hK⟩
  ·exact hK.elim
 ·exact hK.elim
def OptRel (n : Nat) (ν : Nu) : Option V → Option AV → Prop
 | none, b => b = none
 | some v, b => ∃ a, b = some a ∧ Cv n ν v a
theorem optV_ok {n nt : Nat} {ν : Nu} {l : List (Nat × V)} {t : List AV} (hf : FrRel n ν nt l t) {x : Option Operand} {v : Option V} (h : optV l x = some v) : ∃ a, optA t x = some a ∧ OptRel n ν v a := by
 cases x with
 | none => simp [optV] at h; subst h; exact ⟨none, rfl, rfl⟩
 | some x =>
  simp only [optV] at h
  split at h
  ·rename_i u hu
   simp at h; subst h
   obtain ⟨a, k1, k2⟩ := eval_cv hf hu
   exact ⟨some a, by simp [optA, k1], a, rfl, k2⟩
  ·simp at h
theorem boundV_ok {n : Nat} {ν : Nu} {x : Option V} {a : Option AV} {d : Nat} {K : Int → Prop} (hx : OptRel n ν x a) (hK : boundV x d K) : ∃ m : Int, K m ∧ ∀ top : Nat, 0 ≤ m → m ≤ top → boundA a d top = some m.toNat := by
 unfold boundV at hK
 split at hK
 ·simp only [OptRel] at hx; subst hx; exact ⟨_, hK, fun top _ _ => rfl⟩
 ·rename_i k m
  obtain ⟨a', rfl, e⟩ := hx
  have e := cv_int e; subst e
  exact ⟨m, hK, fun top h1 h2 => by simp only [boundA]; rw [if_pos ⟨h1, h2⟩]⟩
 ·exact hK.elim
theorem isOpen_row {B : Nat} {cs : List AV} {e : TypeId} {op w sp : Bool} {f z : Nat} (h : s.get B = some (.row cs e op w sp f z)) : isOpen s B = some op := by simp only [isOpen, h]
theorem RowOk.open {m : Mode} {ks : List CK} {a : AC} {B b0 : Nat} {r : AO} (h : RowOk m ks a B b0 r) : ∃ cs e op w sp f z, r = .row cs e op w sp f z ∧ (op = true → (m = .grow ∨ m = .rd) ∧ z = ks.length) := by
 cases r <;> simp only [RowOk] at h
 case row cs e op w sp f z =>
  refine ⟨cs, e, op, w, sp, f, z, rfl, fun hop => ?_⟩
  subst hop
  cases m <;> simp only [] at h
  ·exact ⟨.inr rfl, h.1 trivial⟩
  ·cases h.1
  ·cases h.2.1
  ·exact ⟨.inl rfl, h.2.2.2.2.1⟩
theorem sliceA_ok {t e z b : Nat} {ks : List CK} (hs : SliceT P t e z b ks) {B O len cap : Nat} {op : Bool} (ho : isOpen s B = some op) (hz : op = true → zOf s B = z) (hc : len ≤ cap) {lo hi : Option AV} {u v : Int} (hlo : ∀ top : Nat, 0 ≤ u → u ≤ top → boundA lo 0 top = some u.toNat) (hhi : ∀ top : Nat, 0 ≤ v → v ≤ top → boundA hi len top = some v.toNat) (h1 : 0 ≤ u) (h2 : u ≤ v) (h3 : v ≤ len) (h4 : op = true → u < len ∨ u = 0) :
  sliceA P s t (.slc B O len cap) lo hi none = some (.slc B (if op = false ∧ cap = u.toNat then O else O + u.toNat * z) (v - u).toNat (cap - u.toNat)) := by
 have hsz := sliceT_size hs
 have e1 : (v - u).toNat = v.toNat - u.toNat := by omega
 cases op with
 | false =>
  have e0 : boundA none cap cap = some cap := rfl
  simp only [sliceA, hs.und, hsz, ho, e0]
  rw [hhi cap (by omega) (by omega)]
  simp only []
  rw [hlo v.toNat h1 (by omega)]
  simp only [e1, true_and]
 | true =>
  simp only [sliceA, hs.und, hsz, ho]
  rw [hhi (min len cap) (by omega) (by omega)]
  simp only []
  rw [hlo v.toNat h1 (by omega)]
  simp only []
  have h5 := h4 rfl
  rw [if_pos ⟨by omega, hz rfl, hs.pos, by rcases h5 with h5 | h5; exact .inl ⟨by omega, by omega⟩; exact .inr (.inr ⟨by omega, by omega⟩)⟩]
  simp [e1]
theorem slice_ok (ht : TTok P tt) (r : R c ν h s) {t : TypeId} {v : V} {a : AV} {lo hi : Option V} {la ha : Option AV} {K : V → Prop} (hv : Cv h.nx ν v a) (hlo : OptRel h.nx ν lo la) (hhi : OptRel h.nx ν hi ha) (hK : sliceV tt h t v lo hi K) :
  ∃ u b, sliceA P s t a la ha none = some b ∧ Cv h.nx ν u b ∧ K u := by
 unfold sliceV at hK
 split at hK
 ·rename_i e z bb ks hty
  have hs := tyOf_slice ht hty
  have hsz := sliceT_size hs
  have main : ∀ (ks' : List CK) (m : Mode) (ac : AC) (x o len : Nat), h.get x = some (.arr ks' m ac) → ks'.length = z → x < h.nx →
    ((ν x = none ∧ len = 0 ∧ a = .nils) ∨ ∃ B b0 cap o', ν x = some (B, b0) ∧ len ≤ cap ∧ o' ≤ o ∧ (o' = o ∨ cap = 0) ∧ a = .slc B (b0 + o' * z) len cap) →
    sliceK m z x o len lo hi K → ∃ u b, sliceA P s t a la ha none = some b ∧ Cv h.nx ν u b ∧ K u := by
   intro ks' m ac x o len hob hkl h0 hv hK
   have hh := r.obj x _ hob
   have hx : ∃ u w : Int, (∀ top : Nat, 0 ≤ u → u ≤ top → boundA la 0 top = some u.toNat) ∧ (∀ top : Nat, 0 ≤ w → w ≤ top → boundA ha len top = some w.toNat) ∧ 0 ≤ u ∧ u ≤ w ∧ w ≤ len ∧ (m = .grow ∨ m = .rd → u < len ∨ u = 0) ∧ K (.slc x z (o + u.toNat) (w - u).toNat) := by
    unfold sliceK at hK
    split at hK
    ·obtain ⟨u, hK, k1⟩ := boundV_ok hlo hK
     obtain ⟨w, hK, k2⟩ := boundV_ok hhi hK
     have hK := hK ()
     exact ⟨u, w, k1, k2, hK.1.1, hK.1.2.1, hK.1.2.2.1, fun _ => hK.1.2.2.2, hK.2⟩
    ·obtain ⟨u, hK, k1⟩ := boundV_ok hlo hK
     obtain ⟨w, hK, k2⟩ := boundV_ok hhi hK
     have hK := hK ()
     exact ⟨u, w, k1, k2, hK.1.1, hK.1.2.1, hK.1.2.2.1, fun _ => hK.1.2.2.2, hK.2⟩
    ·rename_i hne hne2
     obtain ⟨u, hK, k1⟩ := boundV_ok hlo hK
     obtain ⟨w, hK, k2⟩ := boundV_ok hhi hK
     have hK := hK ()
     exact ⟨u, w, k1, k2, hK.1.1, hK.1.2.1, hK.1.2.2, fun e => by rcases e with e | e; exact absurd e hne; exact absurd e hne2, hK.2⟩
   obtain ⟨u, w, k1, k2, k3, k4, k5, k6, k7⟩ := hx
   rcases hv with ⟨h1, h2, rfl⟩ | ⟨B, b0, cap, o', h1, h2, h3, h4, rfl⟩
   ·subst h2
    refine ⟨_, .nils, ?_, ?_, k7⟩
    ·simp only [sliceA, hs.und, hsz]
     have e0 : boundA none 0 0 = some 0 := rfl
     rw [e0, k2 0 (by omega) (by omega), k1 0 (by omega) (by omega)]
    ·simp only [Cv]; exact ⟨h0, .inl ⟨h1, by omega, trivial⟩⟩
   ·obtain ⟨hk, hn | ⟨B', b0', r', g1, g2, g3⟩⟩ := hh
    ·rw [h1] at hn; cases hn.1
    ·rw [h1] at g1; cases g1
     obtain ⟨cs, e', op, ww, sp, f, zz, rfl, q1⟩ := g3.open
     have hop : op = true → m = .grow ∨ m = .rd := fun e => (q1 e).1
     refine ⟨_, _, sliceA_ok hs (isOpen_row g2) (fun e => ?_) h2 k1 k2 k3 k4 k5 (fun e => k6 (hop e)), ?_, k7⟩
     ·simp only [zOf, g2]
      rw [(q1 e).2]; exact hkl
     ·simp only [Cv]
      refine ⟨h0, .inr ⟨B, b0, cap - u.toNat, if op = false ∧ cap = u.toNat then o' else o' + u.toNat, h1, by omega, ?_, ?_, ?_⟩⟩
      ·split <;> omega
      ·split
       ·right; omega
       ·rename_i hne
        rcases h4 with e | e
        ·left; omega
        ·right; omega
      ·split
       ·rfl
       ·rw [Nat.add_mul, Nat.add_assoc]
  split at hK
  ·rename_i x z' o len
   have hq := getK_inv hK
   clear hK
   obtain ⟨ob, hob, hK⟩ := hq
   simp only [Cv] at hv
   split at hK
   ·rename_i ks' m ac
    split at hK
    ·rename_i e1 e2
     have e1 := Nat.eq_of_beq_eq_true e1
     have e2 := Nat.eq_of_beq_eq_true e2
     rw [len'_eq] at e2
     subst e1
     exact main ks' m ac x o len hob e2.symm hv.1 hv.2 hK
    ·exact hK.elim
   ·exact hK.elim
  ·rename_i x len
   have hq := getK_inv hK
   clear hK
   obtain ⟨ob, hob, hK⟩ := hq
   simp only [Cv] at hv
   split at hK
   ·rename_i ks' m ac
    split at hK
    ·rename_i e2
     have e2 := Nat.eq_of_beq_eq_true e2
     rw [len'_eq] at e2
     refine main ks' m ac x 0 len hob e2.symm hv.1 ?_ hK
     rcases hv.2 with h1 | ⟨B, h1, rfl⟩
     ·exact .inl h1
     ·exact .inr ⟨B, 0, len, 0, h1, Nat.le_refl _, Nat.le_refl _, .inl rfl, by simp⟩
    ·exact hK.elim
   ·exact hK.elim
  ·rename_i κ e' ac
   split at hK
   ·rename_i hzz
    have hzz := Nat.eq_of_beq_eq_true hzz
    rw [len'_eq] at hzz
    obtain ⟨u, hK, k1⟩ := boundV_ok hlo hK
    obtain ⟨w, hK, k2⟩ := boundV_ok hhi hK
    obtain ⟨⟨i1, i2, i3, i4, i5⟩, hK⟩ := hK ()
    obtain ⟨b, hK, d1, d2, d3⟩ := AC.take_dat hK
    have d2 := d2 (by omega)
    obtain ⟨q0, ⟨q1, _⟩ | ⟨B, b0, cap, rfl, q2, q3⟩⟩ := lst_cv hv
    ·omega
    ·have q4 := q3
     obtain ⟨cs, el, op, ww, sp, f, zz, g1, g2, g3, g4, g5⟩ := q4
     have g0 := r.gr.gl B _ g1
     refine ⟨_, _, sliceA_ok hs (isOpen_row g0) (fun e => ?_) q2 k1 k2 i1 i2 i3 (fun _ => i4), ?_, hK⟩
     ·simp only [zOf, g0]; rw [g3 e, ← hzz]
     ·have e1 : (w - u).toNat = b.len := by omega
      rw [e1]
      split
      ·rename_i hh
       exact cv_lst (by omega) (q3.none (d1 _ q0) (by omega))
      ·rw [hzz]
       exact cv_lst (by omega) (q3.take (d1 _ q0) (by omega) (fun i j hi => d3 i j (by omega)))
   ·exact hK.elim
  ·exact hK.elim
 ·rename_i hty
  have hs := tyOf_string ht hty
  split at hK
  ·rename_i l
   have e0 := cv_str hv; subst e0
   obtain ⟨u, hK, k1⟩ := boundV_ok hlo hK
   obtain ⟨w, hK, k2⟩ := boundV_ok hhi hK
   obtain ⟨hb, hK⟩ := hK ()
   refine ⟨_, _, ?_, mk_str, hK⟩
   have k2 := k2 l.length (by omega) (by omega)
   have k1 := k1 w.toNat (by omega) (by omega)
   simp only [sliceA, hs, k2, k1]
  ·exact hK.elim
 ·exact hK.elim
end Go.Vm2
