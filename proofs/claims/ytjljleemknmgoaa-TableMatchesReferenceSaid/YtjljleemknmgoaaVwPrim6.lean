/-
 Part of the proof that a machine over named lists stands for the program's runs (VwPrim6). No conditions beyond those that its theorems name.
-/
import Derived.Test.YtjljleemknmgoaaVwMaps
import Derived.Test.YtjljleemknmgoaaVwDeep
namespace Go.Vm2
open Go Go.Vm
set_option linter.unusedVariables false
set_option linter.unusedSectionVars false
variable [Facts] {P : Program} {tt : TT} {c : Px} {ν : Nu} {h : H} {s : St}
theorem given_shape {s : St} {z : Nat} {y : AV} {r : Nat × List AV} (h : givenA s z y = some r) : y = .nils ∨ (∃ b o l c, y = .slc b o l c) ∨ (∃ l, y = .str l) ∨ ∃ a, y = .esl a := by
 cases y <;> simp [givenA] at h ⊢
theorem u8s_map : ∀ l : List Int, u8s (l.map (AV.int .u8)) = some (l.map fun n => UInt8.ofNat n.toNat)
 | [] => rfl
 | n :: l => by simp only [List.map_cons, u8s, u8s_map l]
theorem toStr_inv (ht : TTok P tt) {op : Op} {x : Operand} (h : toStr tt op = some x) : ∃ src dst e, op = .convert src dst x ∧ P.underlying src = some (.slice e) ∧ P.underlying dst = some .string ∧ P.underlying e = some (.int .u8) := by
 unfold toStr at h
 split at h
 ·rename_i src dst y
  split at h
  ·rename_i e z b ks hs hd
   split at h
   ·rename_i k hk
    split at h
    ·rename_i ek
     have ek := kindEq_eq ek
     subst ek
     simp only [Option.some.injEq] at h
     subst h
     exact ⟨src, dst, e, rfl, (tyOf_slice ht hs).und, tyOf_string ht hd, tyOf_int ht hk⟩
    ·cases h
   ·cases h
  ·cases h
 ·cases h
theorem strV_ok (ht : TTok P tt) (r : R c ν h s) {src dst : TypeId} {x y : Operand} (hx : toStr tt (.convert src dst x) = some y) {v : V} {a : AV} {K : V → Prop} (hv : Cv h.nx ν v a) (hK : strV h v K) : y = x ∧ ∃ u q, castA P s src dst a = some q ∧ Cv h.nx ν u q ∧ K u := by
 obtain ⟨src', dst', e, ho, hs, hd, he⟩ := toStr_inv ht hx
 injection ho with e1 e2 e3
 subst e1 e2 e3
 refine ⟨rfl, ?_⟩
 unfold strV at hK
 split at hK
 ·exact hK.elim
 rename_i hnl
 obtain ⟨n, news, g1, g2, g3, g4⟩ := given_ok r (by decide) hv hK
 cases news with
 | recs _ => exact g4.elim
 | ints zs =>
  have hnews : (AC.ints zs).avs [.int .u8] = zs.map (AV.int .u8) := rfl
  rw [hnews] at g1
  have g1 : givenA s 1 a = some (n, zs.map (AV.int .u8)) := g1
  have hcv : convA P src dst a = none := by
   rcases given_shape g1 with rfl | ⟨b, oo, ll, cc, rfl⟩ | ⟨q, rfl⟩ | ⟨q, rfl⟩
   ·simp [convA, hs, hd]
   ·simp [convA, hs, hd]
   ·exfalso; cases v <;> simp [Cv] at hv <;> first | (simp [givenV] at hK; done) | (cases hv; done)
   ·exfalso; cases v <;> simp [Cv] at hv <;> first | (simp [givenV] at hK; done) | exact hnl _ _ _ rfl
  have hseq : castA P s src dst a = some (.str (zs.map fun n => UInt8.ofNat n.toNat)) := by
   unfold castA
   rw [hcv]
   unfold strA
   simp only [hs, hd, he]
   rcases given_shape g1 with rfl | ⟨b, oo, ll, cc, rfl⟩ | ⟨q, rfl⟩ | ⟨q, rfl⟩
   ·simp only [givenA, Option.some.injEq, Prod.mk.injEq] at g1
    have : zs = [] := by have := g1.2; cases zs with | nil => rfl | cons => cases this
    subst this; rfl
   ·simp only [g1, u8s_map]
   ·exfalso; cases v <;> simp [Cv] at hv <;> first | (simp [givenV] at hK; done) | (cases hv; done)
   ·exfalso; cases v <;> simp [Cv] at hv <;> first | (simp [givenV] at hK; done) | exact hnl _ _ _ rfl
  exact ⟨_, _, hseq, mk_str, g4⟩
theorem rep_length (cs : List AV) : ∀ (n : Nat), (rep cs n).length = n * cs.length
 | 0 => by simp [rep]
 | n + 1 => by simp [rep, rep_length cs n]; rw [Nat.add_mul]; omega
theorem elemsV_ok {n : Nat} {ν : Nu} : ∀ {ps : List (Nat × V)} {pa : List (Nat × AV)} {i : Nat} {vs : List V}, elemsV i ps = some vs → PartsRel n ν ps pa → ∃ as, Cvs n ν vs as ∧ pa = (as.zipIdx i).map fun (a, j) => (j, a)
 | [], pa, i, vs, h, hp => by cases hp; simp [elemsV] at h; subst h; exact ⟨[], Cvs.nil, rfl⟩
 | (j, v) :: ps, pa, i, vs, h, hp => by
  obtain ⟨a, r, rfl, h2, h3⟩ := hp
  simp only [elemsV] at h
  split at h
  ·rename_i e
   have e := Nat.eq_of_beq_eq_true e
   subst e
   split at h
   ·rename_i vs' hv
    simp at h; subst h
    obtain ⟨as, k1, k2⟩ := elemsV_ok hv h3
    exact ⟨a :: as, Cvs.cons h2 k1, by simp [k2]⟩
   ·simp at h
  ·simp at h
theorem fillSeq {z : Nat} : ∀ (as : List AV) (i : Nat) (pre rest : List AV), pre.length = i * z → rest.length = as.length * z → (∀ a ∈ as, a.cells.length = z) →
  fillA (fun i => some (i * z, z)) (pre ++ rest) ((as.zipIdx i).map fun (a, j) => (j, a)) = some (pre ++ as.flatMap AV.cells)
 | [], i, pre, rest, h1, h2, h3 => by
  simp at h2; subst h2; simp [fillA]
 | a :: as, i, pre, rest, h1, h2, h3 => by
  simp only [List.zipIdx_cons, List.map_cons, fillA]
  have hz := h3 a (by simp)
  simp only [List.length_cons, Nat.add_mul, Nat.one_mul] at h2
  rw [if_neg (by simp; omega)]
  have e1 : Vm.putCells (pre ++ rest) (i * z) a.cells = (pre ++ a.cells) ++ rest.drop z := by
   have e2 : rest = rest.take z ++ rest.drop z := (List.take_append_drop z rest).symm
   have e3 : (rest.take z).length = a.cells.length := by rw [List.length_take]; omega
   rw [e2, ← h1, ← List.append_assoc]
   rw [putCells_app _ _ _ _ (by simp; omega)]
   rw [putCells_whole _ _ _ e3]
   congr 1
   rw [List.drop_left' (by rw [e3, hz])]
  rw [e1, fillSeq as (i + 1) (pre ++ a.cells) (rest.drop z) (by simp [h1, hz, Nat.add_mul]) (by simp; omega) (fun b hb => h3 b (by simp [hb]))]
  simp
theorem intsOf_ok {n : Nat} {ν : Nu} {k : IntKind} : ∀ {vs : List V} {as : List AV} {K : List Int → Prop}, Cvs n ν vs as → intsOf k vs K → ∃ l, K l ∧ l.length = vs.length ∧ as = l.map (AV.int k)
 | [], as, K, hc, hK => by rw [hc.inv0]; exact ⟨[], hK, rfl, rfl⟩
 | v :: vs, as, K, hc, hK => by
  obtain ⟨a, as', rfl, h2, h3⟩ := hc.inv
  unfold intsOf at hK
  split at hK
  ·rename_i e; cases e
  ·rename_i k' m vs' e
   cases e
   split at hK
   ·rename_i hk
    have := kindEq_eq hk; subst this
    have := cv_int h2; subst this
    obtain ⟨l, l1, l2, l3⟩ := intsOf_ok h3 hK
    exact ⟨m :: l, l1, by simp [l2], by simp [l3]⟩
   ·exact hK.elim
  ·exact hK.elim
theorem recsOf_ok {n : Nat} {ν : Nu} {ks : List CK} : ∀ {vs : List V} {as : List AV} {K : List (List D) → Prop}, Cvs n ν vs as → recsOf ks vs K → ∃ l, K l ∧ l.length = vs.length ∧ (∀ a ∈ as, a.cells.length = ks.length) ∧ as.flatMap AV.cells = l.flatMap (rowAV ks 0)
 | [], as, K, hc, hK => by rw [hc.inv0]; exact ⟨[], hK, rfl, by simp, rfl⟩
 | v :: vs, as, K, hc, hK => by
  obtain ⟨a, as', rfl, h2, h3⟩ := hc.inv
  simp only [recsOf] at hK
  split at hK
  ·rename_i ds hk hd
   obtain ⟨l, l1, l2, l3, l4⟩ := recsOf_ok h3 hK
   have hr := kinds_row [] hk hd h2.cells
   simp only [List.length_nil, List.nil_append] at hr
   refine ⟨ds :: l, l1, by simp [l2], fun b hb => ?_, by simp [l4, hr]⟩
   rcases List.mem_cons.1 hb with rfl | hb
   ·rw [hr, rowAV_length]
   ·exact l3 b hb
  ·exact hK.elim
theorem map_cells (k : IntKind) : ∀ (l : List Int), (l.map (AV.int k)).flatMap AV.cells = l.map (AV.int k)
 | [] => rfl
 | x :: l => by simp only [List.map_cons, List.flatMap_cons, map_cells k l]; rfl
theorem cells_ones : ∀ {as : List AV}, Vm.cellsOk as = true → ∀ a ∈ as, a.cells = [a]
 | [], _, a, ha => by cases ha
 | b :: bs, h, a, ha => by
  simp only [Vm.cellsOk, Bool.and_eq_true] at h
  rcases List.mem_cons.1 ha with rfl | ha
  ·have h1 := h.1
   cases a <;> first | rfl | cases h1
  ·exact cells_ones h.2 a ha
theorem flat_ones : ∀ {as : List AV}, (∀ a ∈ as, a.cells = [a]) → as.flatMap AV.cells = as
 | [], _ => rfl
 | b :: bs, h => by
  rw [List.flatMap_cons, h b (by simp), flat_ones (fun a ha => h a (by simp [ha]))]; rfl
theorem buildSlice_ok (ht : TTok P tt) (r : R c ν h s) {t : TypeId} {len : Nat} {ps : List (Nat × V)} {pa : List (Nat × AV)} {K : V → H → Prop} (hp : PartsRel h.nx ν ps pa) (hK : buildSliceV tt h t len ps K) :
  Made (buildSliceA P s t len pa) c ν h s K := by
 unfold buildSliceV at hK
 split at hK
 ·rename_i e z b ks hty
  have hs := tyOf_slice ht hty
  have hkl := hs.len
  obtain ⟨i, i1, i2, i3⟩ := hs.info
  obtain ⟨zv, az, z1, z2, z3, z4⟩ := hs.zero
  have hsz := sliceT_size hs
  split at hK
  ·rename_i vs hvs
   obtain ⟨as, a1, rfl⟩ := elemsV_ok hvs hp
   split at hK
   ·rename_i e1 e2 e3
    have e1 := Nat.eq_of_beq_eq_true e1
    have e2 := Nat.le_of_ble_eq_true e2
    rw [len'_eq] at e1
    have hal := a1.length
    have hz : zerosA P e len = some (rep az.cells len) := by simp only [zerosA, z2]
    have hrl : (rep az.cells len).length = len * z := by rw [rep_length, z3]
    have main : ∀ (d : AC), ksOk ks d → d.len = len → (∀ a ∈ as, a.cells.length = z) → as.flatMap AV.cells = d.avs ks → K (.grw h.nx len) ⟨h.nx + 1, h.fz, (h.nx, .arr ks .own d) :: h.l⟩ → Made (buildSliceA P s t len ((as.zipIdx 0).map fun (a, j) => (j, a))) c ν h s K := by
     intro d hk hd hz1 hz2 hK
     have hf := fillSeq (z := z) as 0 [] (rep az.cells len) (by simp) (by rw [hrl, hal, e1]) hz1
     simp only [List.nil_append] at hf
     simp only [buildSliceA, hs.und, hsz, hz]
     rw [if_pos ⟨e2, hrl⟩, hf]
     simp only []
     rw [hz2, if_pos (avs_cells hk)]
     have := Made.new r hk e (m := .own) (z := z) (by simp) (fun e => by cases e) (.inl rfl) (by rw [hd]; exact hK)
     rw [hd] at this
     exact this
    split at hK
    ·rename_i k
     obtain ⟨l, l1, l2, l3⟩ := intsOf_ok a1 hK
     have l1 := newK_inv l1
     have hz0 : z = 1 := by rw [← hkl]; rfl
     refine main (.ints l) ⟨k, rfl⟩ (by simp only [AC.len]; omega) (fun a ha => ?_) ?_ l1
     ·rw [l3] at ha
      obtain ⟨m, _, rfl⟩ := List.mem_map.1 ha
      rw [hz0]; rfl
     ·rw [l3]
      exact map_cells k l
    ·exact hK.elim
    ·split at hK
     ·rename_i hco
      rw [forceL_eq] at hK
      have hK := newK_inv hK
      have hz0 : z = 1 := by rw [← hkl]; rfl
      have hcc := a1.cellsOk hco
      have hone := cells_ones hcc
      have hz1 : ∀ a ∈ as, a.cells.length = z := fun a ha => by rw [hone a ha, hz0]; rfl
      have hfm : as.flatMap AV.cells = as := flat_ones hone
      have hf := fillSeq (z := z) as 0 [] (rep az.cells len) (by simp) (by rw [hrl, hal, e1]) hz1
      simp only [List.nil_append] at hf
      simp only [buildSliceA, hs.und, hsz, hz]
      rw [if_pos ⟨e2, hrl⟩, hf]
      simp only []
      rw [hfm, if_pos hcc]
      refine ⟨_, _, _, _, Nu.set ν h.nx (some (s.n, 0)), rfl, hK, ?_, ?_, Ex.push h ν s _ _ 0⟩
      ·refine r.push_new rfl (fun cs e o w p f z hh => by cases hh; rfl) ?_
       refine ⟨s.n, as, e, z, Nu.set_self, ?_, Cvs.mono Nu.set_lt (Nat.le_succ _) _ _ a1⟩
       rw [sget_push, if_pos rfl]
      ·simp only [Cv]
       exact ⟨Nat.lt_succ_self _, .inr ⟨s.n, 0, len, 0, Nu.set_self, Nat.le_refl _, Nat.le_refl _, .inl rfl, rfl⟩⟩
     ·exact hK.elim
    ·rename_i hne hne2 hne3
     obtain ⟨l, l1, l2, l3, l4⟩ := recsOf_ok a1 hK
     have l1 := newK_inv l1
     refine main (.recs l) (by simp only [ksOk]; intro e; exact hne2 e) (by simp only [AC.len]; omega) (fun a ha => by rw [l3 a ha]; exact hkl) l4 l1
   ·exact hK.elim
  ·exact hK.elim
 ·exact hK.elim
theorem buildT_ok (ht : TTok P tt) (r : R c ν h s) {t : TypeId} {len : Nat} {ps : List (Nat × V)} {pa : List (Nat × AV)} {K : V → H → Prop} (hdeep : deepTy tt t = true) (hp : PartsRel h.nx ν ps pa) (hK : buildT tt h t len ps K) :
  Made (buildSliceA P s t len pa) c ν h s K := by
 unfold buildT at hK
 split at hK
 ·rename_i e z b ks hty
  have hs := tyOf_slice ht hty
  obtain ⟨zv, az, z1, z2, z3, z4⟩ := hs.zero
  have hsz := sliceT_size hs
  have hac := deep_ok hdeep hty
  split at hK
  ·rename_i vs hvs
   obtain ⟨as, a1, rfl⟩ := elemsV_ok hvs hp
   split at hK
   ·rename_i e1 e2 e3
    have e1 := Nat.eq_of_beq_eq_true e1
    have e2 := Nat.le_of_ble_eq_true e2
    have e3 := Nat.eq_of_beq_eq_true e3
    rw [len'_eq] at e1 e3
    have hal := a1.length
    have hz : zerosA P e len = some (rep az.cells len) := by simp only [zerosA, z2]
    have hrl : (rep az.cells len).length = len * z := by rw [rep_length, z3]
    have hk2 := hK ()
    clear hK
    obtain ⟨ν1, h1, rows, r1, l1, n1, f1, t1, q1, q2, hK⟩ := deepRows_ok r a1 hk2
    have hK := newK_inv hK
    have hf := fillSeq (z := z) as 0 [] (rep az.cells len) (by simp) (by rw [hrl, hal, e1]) (by rw [e3]; exact q1)
    simp only [List.nil_append] at hf
    simp only [buildSliceA, hs.und, hsz, hz]
    rw [if_pos ⟨e2, hrl⟩, hf]
    simp only []
    rw [if_pos q2.cells]
    have hl : rows.length = len := by omega
    have := Made.tarr (m := .own) r1 l1 n1 f1 (hac rows) e (z := z) (.inl rfl) (fun e => by cases e) q2 (by rw [hl]; exact hK)
    rw [hl] at this
    exact this
   ·exact hK.elim
  ·exact hK.elim
 ·exact hK.elim
theorem rep_map (k : IntKind) (n : Nat) : rep [AV.int k 0] n = (List.replicate n (0 : Int)).map (AV.int k) := by
 induction n with
 | zero => rfl
 | succ n ih => simp [rep, List.replicate_succ, ih]
theorem rep_flat (f : List D → List AV) (ds : List D) (n : Nat) : rep (f ds) n = (List.replicate n ds).flatMap f := by
 induction n with
 | zero => rfl
 | succ n ih => simp [rep, List.replicate_succ, ih]
theorem makeSlice_ok (ht : TTok P tt) (r : R c ν h s) {t : TypeId} {x : V} {a : AV} {K : V → H → Prop} (hx : Cv h.nx ν x a) (hK : makeSliceV tt h t x K) : Made (makeSliceA P s t a a) c ν h s K := by
 unfold makeSliceV at hK
 split at hK
 ·rename_i e z b ks k m hty
  have ex := cv_int hx; subst ex
  obtain ⟨⟨h1, h2, h3⟩, hK⟩ := hK ()
  have hs := tyOf_slice ht hty
  have hkl := hs.len
  obtain ⟨i, i1, i2, i3⟩ := hs.info
  split at hK
  ·rename_i ti hti
   have hz := (mkTI_inv (ht e ti hti)).2.2.1
   obtain ⟨az, z2, z3⟩ := zeroV_cv hz h.nx ν
   split at hK
   ·rename_i ds hkd hds
    have hrow := kinds_row [] hkd hds z3.cells
    simp only [List.length_nil, List.nil_append] at hrow
    have hzl : az.cells.length = z := by rw [hrow, rowAV_length, hkl]
    have hzs : zerosA P e m.toNat = some (rep az.cells m.toNat) := by simp only [zerosA, z2]
    have main : ∀ (d : AC), ksOk ks d → d.len = m.toNat → rep az.cells m.toNat = d.avs ks → K (.grw h.nx m.toNat) ⟨h.nx + 1, h.fz, (h.nx, .arr ks .own d) :: h.l⟩ → Made (makeSliceA P s t (.int k m) (.int k m)) c ν h s K := by
     intro d hk hd hr hK
     simp only [makeSliceA, hs.und, i1, hzs]
     rw [if_pos ⟨h1, Int.le_refl _, h2, by rw [i3]; exact h3, by rw [rep_length, hzl, i2], by rw [hr]; exact avs_cells hk⟩, i2, hr]
     have := Made.new r hk e (m := .own) (z := z) (by simp) (fun e => by cases e) (.inl rfl) (by rw [hd]; exact hK)
     rw [hd] at this
     exact this
    split at hK
    ·rename_i k'
     split at hK
     ·rename_i z0
      have hk2 := hK ()
      clear hK
      obtain ⟨rfl, hK⟩ := hk2
      have hK := newK_inv hK
      refine main (.ints _) ⟨_, rfl⟩ (by simp [AC.len]) ?_ hK
      rw [hrow]
      simp only [rowAV, List.getD_cons_zero, CK.av, AC.avs, D.int]
      exact rep_map _ m.toNat
     ·exact hK.elim
    ·exact hK.elim
    ·rename_i hne hne2
     rw [forceL_eq] at hK
     have hK := newK_inv hK
     refine main (.recs _) (by simp only [ksOk]; intro e; exact hne2 e) (by simp [AC.len]) ?_ hK
     simp only [AC.avs]
     rw [hrow]
     exact rep_flat (rowAV ks 0) ds m.toNat
   ·exact hK.elim
  ·exact hK.elim
 ·exact hK.elim
theorem Branch.get {b : Bool} {p q : Prop} (h : Branch b p q) : (b = true ∧ p) ∨ (b = false ∧ q) := by
 cases b with
 | true => exact .inl ⟨rfl, (h ()).1 rfl⟩
 | false => exact .inr ⟨rfl, (h ()).2 rfl⟩
theorem putCells_at : ∀ (vs : List AV) (cs : List AV) (off i : Nat), off + vs.length ≤ cs.length → (Vm.putCells cs off vs)[i]? = if off ≤ i ∧ i < off + vs.length then vs[i - off]? else cs[i]?
 | [], cs, off, i, _ => by simp [Vm.putCells]; intro h1 h2; omega
 | v :: vs, cs, off, i, h => by
  simp only [Vm.putCells]
  rw [putCells_at vs (cs.set off v) (off + 1) i (by simp at h ⊢; omega)]
  simp only [List.length_cons] at h ⊢
  by_cases h1 : off + 1 ≤ i ∧ i < off + 1 + vs.length
  ·rw [if_pos h1, if_pos (by omega)]
   have e : i - off = (i - (off + 1)) + 1 := by omega
   rw [e]; simp
  ·rw [if_neg h1, List.getElem?_set]
   by_cases h2 : off = i
   ·subst h2
    rw [if_pos rfl, if_pos (by omega), if_pos (by omega)]
    simp
   ·rw [if_neg h2, if_neg (by omega)]
theorem putCells_zeros (k : IntKind) (l : List Int) (o n : Nat) (h : o + n ≤ l.length) : Vm.putCells (l.map (AV.int k)) o (rep [AV.int k 0] n) = (zcut l o n).map (AV.int k) := by
 have hl : (rep [AV.int k 0] n).length = n := by rw [rep_length]; simp
 refine List.ext_getElem? fun i => ?_
 rw [putCells_at _ _ _ _ (by rw [hl, List.length_map]; exact h), hl, rep_map]
 unfold zcut
 simp only [List.map_append, List.getElem?_append, List.length_map, List.length_take, List.length_replicate, List.getElem?_map, List.getElem?_take, List.getElem?_drop]
 have hm : min o l.length = o := by omega
 rw [hm]
 by_cases h1 : i < o
 ·rw [if_neg (by omega), if_pos h1, if_pos h1]
 ·rw [if_neg h1]
  by_cases h2 : i - o < n
  ·rw [if_pos (by omega), if_pos h2]
  ·rw [if_neg (by omega), if_neg h2]
   rw [show o + n + (i - o - n) = i by omega]
theorem clear_ok (ht : TTok P tt) (r : R c ν h s) {t : TypeId} {ts : List TypeId} {x : V} {a : AV} {K : H → Prop} (hx : Cv h.nx ν x a) (hK : clearV tt h t x K) :
  ∃ os h', clearA P s (t :: ts) a = some (aundef, os) ∧ K h' ∧ R c ν h' (os.getD s) ∧ Ex h ν s h' ν (os.getD s) := by
 unfold clearV at hK
 split at hK
 ·rename_i e z b ks hty
  have hs := tyOf_slice ht hty
  split at hK
  ·rename_i ti hti
   have hz := (mkTI_inv (ht e ti hti)).2.2.1
   obtain ⟨az, z2, z3⟩ := zeroV_cv hz h.nx ν
   split at hK
   ·rename_i k0 z0 hzero
    rw [hzero] at z3
    have ez := cv_int z3; subst ez
    split at hK
    ·rename_i x z' o len
     simp only [Cv] at hx
     have hBr := Branch.get hK
     clear hK
     rcases hBr with ⟨hl, hK⟩ | ⟨hl, hK⟩
     ·have hl := Nat.eq_of_beq_eq_true hl
      subst hl
      refine ⟨none, h, ?_, hK, r, Ex.refl h ν s⟩
      rcases hx with ⟨_, ⟨_, _, rfl⟩ | ⟨B, b0, cap, o', _, _, _, _, rfl⟩⟩
      ·simp only [clearA, hs.und]
      ·simp only [clearA, hs.und, if_pos]
     ·have hl : len ≠ 0 := fun e => by subst e; simp at hl
      rcases hx with ⟨h0, ⟨_, e, _⟩ | ⟨B, b0, cap, o', h1, q1, q2, q3, rfl⟩⟩
      ·exact absurd e hl
      have ho : o' = o := q3.elim id (fun e => absurd e (by omega))
      subst ho
      have hq := getK_inv hK
      clear hK
      obtain ⟨ob, hob, hK⟩ := hq
      have hh := r.obj x ob hob
      split at hK
      ·rename_i ks' m ac
       split at hK
       ·rename_i l
        split at hK
        ·rename_i hk hm hz1
         have hk := cksEq_eq hk
         subst hk
         have hz1 := Nat.eq_of_beq_eq_true hz1
         subst hz1
         obtain ⟨⟨ez0, hle⟩, hK⟩ := hK
         subst ez0
         obtain ⟨hfz, hK⟩ := putK_inv hK
         obtain ⟨hk, hn | ⟨B', b0', r', k1, k2, k3⟩⟩ := hh
         ·rw [h1] at hn; cases hn.1
         ·rw [h1] at k1; cases k1
          have hrl : (rep [AV.int k0 0] len).length = len := by rw [rep_length]; simp
          have hzs : zerosA P e len = some (rep [AV.int k0 0] len) := by simp only [zerosA, z2]; rfl
          have hcc : Vm.cellsOk (rep [AV.int k0 0] len) = true := by
           have := avs_cells (ks := [.int k0]) (a := .ints (List.replicate len 0)) ⟨_, rfl⟩
           simp only [AC.avs] at this
           rw [rep_map]; exact this
          have main : ∀ cs e' op sp f zz, r' = .row cs e' op true sp f zz → b0 = 0 → cs = (AC.ints l).avs [.int k0] → (∀ cs', cs' = (AC.ints (zcut l o' len)).avs [.int k0] → RowOk m [.int k0] (.ints (zcut l o' len)) B 0 (.row cs' e' op true sp f zz)) →
            ∃ os h', clearA P s (t :: ts) (.slc B (b0 + o' * 1) len cap) = some (aundef, os) ∧ K h' ∧ R c ν h' (os.getD s) ∧ Ex h ν s h' ν (os.getD s) := by
           intro cs e' op sp f zz hr hb hcs hrow
           subst hr; subst hb; subst hcs
           obtain ⟨s', w1, w2, w3⟩ := write_upd r.ok r.kin k2 (o := o') (vs := rep [AV.int k0 0] len) (by simp only [AC.avs, List.length_map]; omega) hcc
           refine ⟨some s', _, ?_, hK, ?_, Ex.put h ν s s' x _ w3.n⟩
           ·simp only [clearA, hs.und, Nat.zero_add, Nat.mul_one, if_neg hl, hzs, w1]
           ·refine r.put hob hfz ?_ h1 w3 ?_
            ·cases m <;> first | rfl | cases hm
            ·refine ⟨⟨_, rfl⟩, .inr ⟨B, 0, _, h1, w2, hrow _ ?_⟩⟩
             simp only [AC.avs]
             exact putCells_zeros k0 l o' len hle
          cases r' <;> simp only [RowOk] at k3
          rename_i cs e' op w sp f zz
          cases m
          ·cases hm
          ·cases hm
          ·obtain ⟨q1, q2, q3, q4, q5, q6⟩ := k3
           subst q3
           exact main cs e' op sp f zz rfl q1 q6 (fun cs' hcs' => by simp only [RowOk]; exact ⟨trivial, q2, trivial, q4, q5, hcs'⟩)
          ·obtain ⟨q1, q2, q3, q4, q5, q6⟩ := k3
           subst q3
           exact main cs e' op sp f zz rfl q1 q6 (fun cs' hcs' => by simp only [RowOk]; exact ⟨trivial, q2, trivial, q4, q5, hcs'⟩)
        ·exact hK.elim
       ·exact hK.elim
      ·exact hK.elim
    ·exact hK.elim
   ·exact hK.elim
  ·exact hK.elim
 ·exact hK.elim
theorem prim_ok (ht : TTok P tt) (r : R c ν h s) {nt : Nat} {l : List (Nat × V)} {t : List AV} (hf : FrRel h.nx ν nt l t) {op : Op} {K : V → H → Prop} (hK : primV tt l h op K) :
  Made (prim P t s op) c ν h s K := by
 have pure1 : ∀ (o : Option AV), (∃ v a, o = some a ∧ Cv h.nx ν v a ∧ K v h) → Made (stay o) c ν h s K := by
  intro o ⟨v, a, h1, h2, h3⟩
  subst h1
  exact ⟨a, none, v, h, ν, rfl, h3, r, h2, Ex.refl h ν s⟩
 unfold primV at hK
 split at hK
 ·split at hK
  ·rename_i v hv
   obtain ⟨a, k1, k2⟩ := eval_cv hf hv
   simp only [prim]; exact pure1 _ ⟨v, a, k1, k2, hK⟩
  ·exact hK.elim
 ·split at hK
  ·rename_i v hv
   obtain ⟨a, k1, k2⟩ := eval_cv hf hv
   simp only [prim]; exact pure1 _ ⟨v, a, k1, k2, hK⟩
  ·exact hK.elim
 ·rename_i cc x y
  have pick : ∀ b : Bool, aEval t cc = some (.bool b) → (match eval l (if b = true then x else y) with | some v => K v h | none => False) → Made (prim P t s (.pick cc x y)) c ν h s K := by
   intro b hb hk
   split at hk
   ·rename_i v hv
    obtain ⟨a, k1, k2⟩ := eval_cv hf hv
    simp only [prim, hb]
    cases b with
    | true => exact pure1 _ ⟨v, a, k1, k2, hk⟩
    | false => exact pure1 _ ⟨v, a, k1, k2, hk⟩
   ·exact hk.elim
  split at hK
  ·rename_i hc
   obtain ⟨a, k1, k2⟩ := eval_cv hf hc
   have := cv_bool k2; subst this
   exact pick true k1 hK
  ·rename_i hc
   obtain ⟨a, k1, k2⟩ := eval_cv hf hc
   have := cv_bool k2; subst this
   exact pick false k1 hK
  ·rename_i p hc
   obtain ⟨a, k1, k2⟩ := eval_cv hf hc
   have := cv_test k2; subst this
   rcases hK.get with ⟨e, hq⟩ | ⟨e, hq⟩
   ·rw [e] at k1; exact pick true k1 hq
   ·rw [e] at k1; exact pick false k1 hq
  ·exact hK.elim
 ·rename_i e
  split at hK
  ·rename_i ti hti
   obtain ⟨a, z1, z2⟩ := zeroV_cv (mkTI_inv (ht e ti hti)).2.2.1 h.nx ν
   obtain ⟨p, s', u, h', ν', k1, k2, k3, k4, k5⟩ := box_ok r e z2 hK
   simp only [prim, z1]
   exact ⟨p, some s', u, h', ν', k1, k2, k3, k4, k5⟩
  ·exact hK.elim
 ·rename_i e x
  split at hK
  ·rename_i v hv
   obtain ⟨a, k1, k2⟩ := eval_cv hf hv
   obtain ⟨p, s', u, h', ν', k1', k2', k3, k4, k5⟩ := box_ok r e k2 hK
   simp only [prim, k1]
   exact ⟨p, some s', u, h', ν', k1', k2', k3, k4, k5⟩
  ·exact hK.elim
 ·rename_i ty parts
  split at hK
  ·rename_i ti hti
   split at hK
   ·rename_i fs ps h1 h2
    split at hK
    ·rename_i cs hcs
     rw [forceL_eq] at hK
     obtain ⟨pa, as, k1, k2, k3⟩ := build_ok ht hf hti h1 h2 hcs
     simp only [prim, k1, k2]
     exact pure1 _ ⟨_, _, rfl, by simp only [Cv]; exact ⟨as, rfl, k3⟩, hK⟩
    ·exact hK.elim
   ·rename_i len e z ps h1 h2
    split at hK
    ·rename_i cs hcs
     rw [forceL_eq] at hK
     obtain ⟨pa, as, k1, k2, k3⟩ := buildArr_ok ht hf hti h1 h2 hcs
     simp only [prim, k1, k2]
     exact pure1 _ ⟨_, _, rfl, by simp only [Cv]; exact ⟨as, rfl, k3⟩, hK⟩
    ·exact hK.elim
   ·exact hK.elim
  ·exact hK.elim
 ·rename_i ty len parts
  split at hK
  ·rename_i ps hps
   obtain ⟨pa, k1, k2⟩ := partsV_ok hf hps
   simp only [prim, k1]
   split at hK
   ·rename_i hd; exact buildT_ok ht r hd k2 hK
   ·exact buildSlice_ok ht r k2 hK
  ·exact hK.elim
 ·rename_i ty x y
  split at hK
  ·rename_i n hsame hn
   obtain ⟨a, k1, k2⟩ := eval_cv hf hn
   have hxy : y = x := by
    unfold sameTmp at hsame
    split at hsame
    ·rw [Nat.eq_of_beq_eq_true hsame]
    ·simp only [Bool.and_eq_true] at hsame
     rw [kindEq_eq hsame.1, of_decide_eq_true hsame.2]
    ·cases hsame
   subst hxy
   simp only [prim, k1]
   exact makeSlice_ok ht r k2 hK
  ·exact hK.elim
 ·rename_i ty
  simp only [prim]
  exact makeMap_ok ht r hK
 ·rename_i ty x
  split at hK
  ·rename_i k n hv
   obtain ⟨a, k1, k2⟩ := eval_cv hf hv
   have e := cv_int k2; subst e
   obtain ⟨a', b', hu⟩ := makeMap_ty ht hK
   simp only [prim, k1, hu]
   exact makeMap_ok ht r hK
  ·exact hK.elim
 ·rename_i ty x
  split at hK
  ·rename_i v hv
   obtain ⟨a, k1, k2⟩ := eval_cv hf hv
   simp only [prim, k1]
   exact rangeStr_ok ht r k2 hK
  ·exact hK.elim
 ·rename_i x b
  split at hK
  ·split at hK
   ·rename_i v hv
    obtain ⟨a, k1, k2⟩ := eval_cv hf hv
    simp only [prim, k1]
    exact next_ok r k2 hK
   ·exact hK.elim
  ·exact hK.elim
 ·rename_i ty m k ok
  split at hK
  ·rename_i v hv
   split at hK
   ·rename_i w hw
    obtain ⟨a, k1, k2⟩ := eval_cv hf hv
    obtain ⟨b, k3, k4⟩ := eval_cv hf hw
    obtain ⟨u, q, m1, m2, m3⟩ := lookup_ok ht r k2 k4 hK
    simp only [prim, k1, k3]
    exact pure1 _ ⟨u, q, m1, m2, m3⟩
   ·exact hK.elim
  ·exact hK.elim
 ·rename_i ty m k x
  split at hK
  ·rename_i v hv
   split at hK
   ·rename_i w hw
    split at hK
    ·rename_i u hu
     obtain ⟨a, k1, k2⟩ := eval_cv hf hv
     obtain ⟨b, k3, k4⟩ := eval_cv hf hw
     obtain ⟨d, k5, k6⟩ := eval_cv hf hu
     obtain ⟨s', h', m1, m2, m3, m4⟩ := update_ok ht r k2 k4 k6 hK
     simp only [prim, k1, k3, k5, m1]
     exact ⟨_, some s', _, h', ν, rfl, m2, m3, by simp only [aundef, Cv]; exact ⟨[], rfl, Cvs.nil⟩, m4⟩
    ·exact hK.elim
   ·exact hK.elim
  ·exact hK.elim
 ·rename_i ty x
  split at hK
  ·rename_i v hv
   obtain ⟨a, k1, k2⟩ := eval_cv hf hv
   obtain ⟨u, b, m1, m2, m3⟩ := load_ok ht r k2 hK
   simp only [prim, k1]
   exact pure1 _ ⟨u, b, m1, m2, m3⟩
  ·exact hK.elim
 ·rename_i ty x y
  split at hK
  ·rename_i v hv
   split at hK
   ·rename_i u hu
    obtain ⟨a, k1, k2⟩ := eval_cv hf hv
    obtain ⟨b, k3, k4⟩ := eval_cv hf hu
    obtain ⟨s', h', m1, m2, m3, m4⟩ := store_ok ht r k2 k4 hK
    simp only [prim, k1, k3, m1]
    exact ⟨_, some s', _, h', ν, rfl, m2, m3, by simp only [Cv]; exact ⟨[], rfl, Cvs.nil⟩, m4⟩
   ·exact hK.elim
  ·exact hK.elim
 ·rename_i x
  split at hK
  ·rename_i q o hv
   obtain ⟨a, k1, k2⟩ := eval_cv hf hv
   have k2' := k2
   simp only [Cv] at k2
   obtain ⟨h0, B, b0, h1, rfl⟩ := k2
   simp only [prim, k1]
   exact ⟨_, none, _, h, ν, rfl, hK, r, k2', Ex.refl h ν s⟩
  ·rename_i q i z o hv
   obtain ⟨a, k1, k2⟩ := eval_cv hf hv
   have k2' := k2
   simp only [Cv] at k2
   obtain ⟨h0, B, b0, h1, rfl⟩ := k2
   simp only [prim, k1]
   exact ⟨_, none, _, h, ν, rfl, hK, r, k2', Ex.refl h ν s⟩
  ·rename_i κ e ac i o hv
   obtain ⟨a, k1, k2⟩ := eval_cv hf hv
   have k2' := k2
   simp only [Cv] at k2
   obtain ⟨B, b0, h1, h2, rfl⟩ := k2
   simp only [prim, k1]
   exact ⟨_, none, _, h, ν, rfl, hK, r, k2', Ex.refl h ν s⟩
  ·exact hK.elim
 ·rename_i op ty x y ty2
  split at hK
  ·rename_i v hv
   split at hK
   ·rename_i u hu
    obtain ⟨a, k1, k2⟩ := eval_cv hf hv
    obtain ⟨b, k3, k4⟩ := eval_cv hf hu
    obtain ⟨w, q, m1, m2, m3⟩ := binV_ok ht k2 k4 hK
    simp only [prim, k1, k3]
    exact pure1 _ ⟨w, q, m1, m2, m3⟩
   ·exact hK.elim
  ·exact hK.elim
 ·rename_i op ty x
  split at hK
  ·rename_i v hv
   obtain ⟨a, k1, k2⟩ := eval_cv hf hv
   obtain ⟨w, q, m1, m2, m3⟩ := unV_ok k2 hK
   simp only [prim, k1]
   exact pure1 _ ⟨w, q, m1, m2, m3⟩
  ·exact hK.elim
 ·rename_i src dst x
  split at hK
  ·rename_i y hy
   split at hK
   ·rename_i v hv
    obtain ⟨a, k1, k2⟩ := eval_cv hf hv
    obtain ⟨rfl, w, q, m1, m2, m3⟩ := strV_ok ht r hy k2 hK
    simp only [prim, k1]
    exact pure1 _ ⟨w, q, m1, m2, m3⟩
   ·exact hK.elim
  ·split at hK
   ·rename_i ti hti
    split at hK
    ·rename_i v hv
     obtain ⟨a, k1, k2⟩ := eval_cv hf hv
     have hsrc : (P.underlying src).isSome = true := by
      have := (mkTI_inv (ht src ti hti)).1
      unfold isAggT at this
      cases hu : P.underlying src with
      | none => rw [hu] at this; cases this
      | some d => rfl
     obtain ⟨w, q, m1, m2, m3⟩ := convV_ok (src := src) ht hsrc k2 hK
     simp only [prim, k1]
     exact pure1 _ ⟨w, q, by unfold castA; rw [m1], m2, m3⟩
    ·exact hK.elim
   ·exact hK.elim
 ·rename_i g first captured
  split at hK
  ·rename_i a ha
   split at hK
   ·rename_i b hb
    obtain ⟨as, k1, k2⟩ := evals_cv hf ha
    obtain ⟨bs, k3, k4⟩ := evals_cv hf hb
    simp only [prim, k1, k3]
    exact ⟨_, none, _, h, ν, rfl, hK, r, by simp only [Cv]; exact ⟨as, bs, rfl, k2, k4⟩, Ex.refl h ν s⟩
   ·exact hK.elim
  ·exact hK.elim
 ·rename_i ty x lo hi
  split at hK
  ·rename_i v lv hv h1 h2 h3
   obtain ⟨a, k1, k2⟩ := eval_cv hf h1
   obtain ⟨la, k3, k4⟩ := optV_ok hf h2
   obtain ⟨ha, k5, k6⟩ := optV_ok hf h3
   obtain ⟨u, b, m1, m2, m3⟩ := slice_ok ht r k2 k4 k6 hK
   simp only [prim, k1, k3, k5]
   have e0 : optA t none = some none := rfl
   rw [e0]
   simp only [Option.isSome_none, Bool.false_and, Bool.false_eq_true, if_false]
   exact pure1 _ ⟨u, b, m1, m2, m3⟩
  ·exact hK.elim
 ·rename_i ty x i
  split at hK
  ·rename_i v hv
   obtain ⟨a, k1, k2⟩ := eval_cv hf hv
   obtain ⟨u, b, m1, m2, m3⟩ := fieldAddr_ok ht k2 hK
   simp only [prim, k1]
   exact pure1 _ ⟨u, b, m1, m2, m3⟩
  ·exact hK.elim
 ·rename_i ty x i
  split at hK
  ·rename_i v hv
   obtain ⟨a, k1, k2⟩ := eval_cv hf hv
   obtain ⟨u, b, m1, m2, m3⟩ := field_ok ht k2 hK
   simp only [prim, k1]
   exact pure1 _ ⟨u, b, m1, m2, m3⟩
  ·exact hK.elim
 ·rename_i ty x i
  split at hK
  ·rename_i v hv
   split at hK
   ·rename_i w hw
    obtain ⟨a, k1, k2⟩ := eval_cv hf hv
    obtain ⟨b, k3, k4⟩ := eval_cv hf hw
    obtain ⟨u, q, m1, m2, m3⟩ := indexAddrW_ok ht k2 k4 hK
    simp only [prim, k1, k3]
    exact pure1 _ ⟨u, q, m1, m2, m3⟩
   ·exact hK.elim
  ·exact hK.elim
 ·rename_i ty x i
  split at hK
  ·rename_i v hv
   split at hK
   ·rename_i w hw
    obtain ⟨a, k1, k2⟩ := eval_cv hf hv
    obtain ⟨b, k3, k4⟩ := eval_cv hf hw
    obtain ⟨u, q, m1, m2, m3⟩ := index_ok ht k2 k4 hK
    simp only [prim, k1, k3]
    exact pure1 _ ⟨u, q, m1, m2, m3⟩
   ·exact hK.elim
  ·exact hK.elim
 ·rename_i x i
  split at hK
  ·rename_i vs hv
   obtain ⟨a, k1, k2⟩ := eval_cv hf hv
   simp only [Cv] at k2
   obtain ⟨as, rfl, hcs⟩ := k2
   rw [nth_eq] at hK
   split at hK
   ·rename_i v hi
    obtain ⟨b, m1, m2⟩ := hcs.get hi
    simp only [prim, k1]
    exact pure1 _ ⟨v, b, m1, m2, hK⟩
   ·exact hK.elim
  ·exact hK.elim
 ·rename_i cl
  split at hK
  ·rename_i x hcal hev
   obtain ⟨as, k1, k2⟩ := evals_cv hf hev
   obtain ⟨a, as', rfl, k3, k4⟩ := k2.inv
   have := k4.inv0; subst this
   split at hK
   ·rename_i ty hty
    split at hK
    ·rename_i hmt
     obtain ⟨u, q, m1, m2, m3⟩ := mapLen_ok ht r hmt k3 hK
     simp only [prim, hcal, k1, builtinA, hty]
     exact pure1 _ ⟨u, q, m1, m2, m3⟩
    ·obtain ⟨u, q, m1, m2, m3⟩ := len_ok (s := s) ht k3 hK
     simp only [prim, hcal, k1, builtinA, hty]
     exact pure1 _ ⟨u, q, m1, m2, m3⟩
   ·exact hK.elim
  ·rename_i x rr hcal hev
   obtain ⟨as, k1, k2⟩ := evals_cv hf hev
   obtain ⟨a, as', rfl, k3, k4⟩ := k2.inv
   obtain ⟨u, q, m1, m2, m3⟩ := maxV_ok k3 k4 hK
   simp only [prim, hcal, k1, builtinA]
   exact pure1 _ ⟨u, q, m1, m2, m3⟩
  ·rename_i x rr hcal hev
   obtain ⟨as, k1, k2⟩ := evals_cv hf hev
   obtain ⟨a, as', rfl, k3, k4⟩ := k2.inv
   obtain ⟨u, q, m1, m2, m3⟩ := minV_ok k3 k4 hK
   simp only [prim, hcal, k1, builtinA]
   exact pure1 _ ⟨u, q, m1, m2, m3⟩
  ·rename_i x y hcal hev
   obtain ⟨as, k1, k2⟩ := evals_cv hf hev
   obtain ⟨a, as', rfl, k3, k4⟩ := k2.inv
   obtain ⟨b, as'', rfl, k5, k6⟩ := k4.inv
   have := k6.inv0; subst this
   split at hK
   ·rename_i t1 t2 hty
    split at hK
    ·rename_i e
     have e := Nat.eq_of_beq_eq_true e
     subst e
     simp only [prim, hcal, k1, builtinA, hty]
     split at hK
     ·rename_i hd; exact appendT_ok ht r hd k3 k5 hK
     ·exact append_ok ht r k3 k5 hK
    ·exact hK.elim
   ·exact hK.elim
  ·rename_i x y hcal hev
   obtain ⟨as, k1, k2⟩ := evals_cv hf hev
   obtain ⟨a, as', rfl, k3, k4⟩ := k2.inv
   obtain ⟨b, as'', rfl, k5, k6⟩ := k4.inv
   have := k6.inv0; subst this
   split at hK
   ·rename_i t1 ts1 hty
    obtain ⟨s', h', m1, m2, m3, m4⟩ := delete_ok (ts := ts1) ht r k3 k5 hK
    simp only [prim, hcal, k1, builtinA, hty, m1]
    exact ⟨_, some s', _, h', ν, rfl, m2, m3, by simp only [aundef, Cv]; exact ⟨[], rfl, Cvs.nil⟩, m4⟩
   ·exact hK.elim
  ·rename_i x hcal hev
   obtain ⟨as, k1, k2⟩ := evals_cv hf hev
   obtain ⟨a, as', rfl, k3, k4⟩ := k2.inv
   have := k4.inv0; subst this
   split at hK
   ·rename_i t1 ts1 hty
    obtain ⟨os, h', m1, m2, m3, m4⟩ := clear_ok (ts := ts1) ht r k3 hK
    simp only [prim, hcal, k1, builtinA, hty, m1]
    exact ⟨_, os, _, h', ν, rfl, m2, m3, by simp only [aundef, Cv]; exact ⟨[], rfl, Cvs.nil⟩, m4⟩
   ·exact hK.elim
  ·exact hK.elim
 ·exact hK.elim
end Go.Vm2
