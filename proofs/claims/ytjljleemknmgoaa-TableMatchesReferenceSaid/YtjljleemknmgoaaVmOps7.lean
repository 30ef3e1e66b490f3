/-
 Part of the proof that a machine over named lists stands for the program's runs (VmOps7). No conditions beyond those that its theorems name.
-/
import Derived.Test.YtjljleemknmgoaaVmOps6
import Derived.Laws.BytesString
namespace Go.Vm
set_option linter.unusedSectionVars false
variable [Facts] [Val] [Sound]
variable {P : Program} {base : Nat} {ρ : Rho} {s : St} {w : World}
theorem lenOf_slice {y : AV} {y' : Value} (hy : conv ρ y = some y') (h : (y = .nils ∨ ∃ a, y = .esl a) ∨ (∃ b o l c, y = .slc b o l c) ∨ ∃ l, y = .str l) : ∃ n, (Builtin.lenOf y').run P w = .ok n w := by
 rcases h with (e | ⟨a, e⟩) | ⟨b, o, l, c, e⟩ | ⟨l, e⟩
 ·subst e; simp [conv] at hy; subst hy; exact ⟨0, rfl⟩
 ·subst e; simp [conv] at hy; subst hy; exact ⟨0, rfl⟩
 ·subst e
  simp only [conv] at hy
  split at hy
  ·simp at hy; subst hy; exact ⟨l, rfl⟩
  ·split at hy
   ·simp at hy; subst hy; exact ⟨l, rfl⟩
   ·simp at hy
  ·simp at hy
 ·subst e; simp [conv] at hy; subst hy; exact ⟨_, rfl⟩
theorem firstCells_zero {y : AV} {y' : Value} (z : Nat) (hy : conv ρ y = some y') (h : (y = .nils ∨ ∃ a, y = .esl a) ∨ (∃ b o l c, y = .slc b o l c) ∨ ∃ l, y = .str l) : (Builtin.firstCells z 0 y').run P w = .ok #[] w := by
 rcases h with (e | ⟨a, e⟩) | ⟨b, o, l, c, e⟩ | ⟨l, e⟩
 ·subst e; simp [conv] at hy; subst hy; rfl
 ·subst e; simp [conv] at hy; subst hy; simp [Builtin.firstCells, loadCells, loadCellsFrom]
 ·subst e
  simp only [conv] at hy
  split at hy
  ·simp at hy; subst hy; simp [Builtin.firstCells, loadCells, loadCellsFrom]
  ·split at hy
   ·simp at hy; subst hy; simp [Builtin.firstCells, loadCells, loadCellsFrom]
   ·simp at hy
  ·simp at hy
 ·subst e; simp [conv] at hy; subst hy
  simp only [Builtin.firstCells, Sem.run_pure]
  congr 1
  apply Array.ext'
  rw [extract_bytes]
  simp
theorem givenA_shape {s : St} {z : Nat} {y : AV} {r : Nat × List AV} (h : givenA s z y = some r) : (y = .nils ∨ ∃ a, y = .esl a) ∨ (∃ b o l c, y = .slc b o l c) ∨ ∃ l, y = .str l := by
 unfold givenA at h
 split at h
 ·exact .inl (.inl rfl)
 ·exact .inl (.inr ⟨_, rfl⟩)
 ·exact .inr (.inl ⟨_, _, _, _, rfl⟩)
 ·exact .inr (.inr ⟨_, rfl⟩)
 ·simp at h
theorem copyA_run {ts : List TypeId} {x y r : AV} {os : Option St} {x' y' : Value} {ty : TypeId} (hf : Fresh s.n ρ) (hk : s.ok) (hr : Rel base ρ s.look w) (h : copyA P s ts x y = some (r, os)) (hx : conv ρ x = some x') (hy : conv ρ y = some y') (ats : Array TypeId) (hts : ats.toList = ts) :
  ∃ u w', (Builtin.copy_ ats ty #[x', y']).run P w = .ok u w' ∧ Out base ρ s w r (os.getD s) u w' := by
 unfold copyA at h
 split at h
 ·rename_i t rest
  have h0 : ats[0]? = some t := by
   have : ats.toList[0]? = some t := by rw [hts]; rfl
   simpa using this
  split at h
  ·rename_i e hu
   split at h
   ·rename_i z hz
    have hsz := fun w' => sizeT_run (P := P) hz w'
    have nothing : ∀ (a : Option Addr) (l c n : Nat), (Builtin.lenOf y').run P w = .ok n w → Nat.min n l = 0 → (Builtin.firstCells z 0 y').run P w = .ok #[] w → (Builtin.copy_ ats ty #[.slice a l c, y']).run P w = .ok (.int .i64 0) w := by
     intro a l c n h1 h2 h3
     unfold Builtin.copy_
     simp only [h0, List.getElem?_toArray, List.getElem?_cons_zero, List.getElem?_cons_succ, Sem.run_bind, run_underlying hu, Result.andThen_ok, h1, h2, hsz, h3]
     cases a with
     | none => rfl
     | some a => simp [storeCells, goInt]
    split at h
    ·simp [conv] at hx; subst hx
     have hsh : (y = .nils ∨ ∃ a, y = .esl a) ∨ (∃ b o l c, y = .slc b o l c) ∨ ∃ l, y = .str l := by
      split at h
      ·exact .inl (.inl rfl)
      ·exact .inr (.inl ⟨_, _, _, _, rfl⟩)
      ·exact .inr (.inr ⟨_, rfl⟩)
      ·simp at h
     have hres : r = .int .i64 0 ∧ os = none := by
      split at h <;> simp at h <;> exact ⟨h.1.symm, h.2.symm⟩
     obtain ⟨rfl, rfl⟩ := hres
     obtain ⟨n, hn⟩ := lenOf_slice (P := P) (w := w) hy hsh
     exact ⟨_, w, nothing none 0 0 n hn (Nat.min_eq_right (Nat.zero_le _)) (firstCells_zero z hy hsh), Out.same hf hk hr rfl⟩
    ·rename_i b o len cap
     split at h
     ·rename_i n news hgv
      obtain ⟨g1, g2, us, g3, g4⟩ := givenA_run (P := P) hr hgv hy
      have hus := convs_length g3
      split at h
      ·rename_i hm
       simp at h; obtain ⟨rfl, rfl⟩ := h
       have hfz := firstCells_zero (P := P) (w := w) z hy (givenA_shape hgv)
       simp only [conv] at hx
       split at hx
       ·simp at hx; subst hx; exact ⟨_, w, nothing _ _ _ n g1 hm hfz, Out.same hf hk hr rfl⟩
       ·split at hx
        ·simp at hx; subst hx; exact ⟨_, w, nothing _ _ _ n g1 hm hfz, Out.same hf hk hr rfl⟩
        ·simp at hx
       ·simp at hx
      ·rename_i hm
       split at h
       ·rename_i s' hw
        simp at h; obtain ⟨rfl, rfl⟩ := h
        have hgt := convs_take (min n len * z) g3
        have key : ∀ B δ ex c, ρ b = some (B, δ, ex) → ∃ u w', (Builtin.copy_ ats ty #[.slice (some ⟨B, δ + o, none⟩) len c, y']).run P w = .ok u w' ∧ Out base ρ s w (.int .i64 (min n len : Nat)) s' u w' := by
         intro B δ ex c hb
         obtain ⟨w', k1, k2⟩ := writeA_run (P := P) hf hk hr hw hgt hb
         refine ⟨.int .i64 (min n len : Nat), w', ?_, k2 _ _ rfl⟩
         have hfc := g4 (min n len) (Nat.min_le_left _ _)
         unfold Builtin.copy_
         have hmin : Nat.min n len = min n len := rfl
         simp only [h0, List.getElem?_toArray, List.getElem?_cons_zero, List.getElem?_cons_succ, Sem.run_bind, run_underlying hu, Result.andThen_ok, g1, hsz, hmin, hfc, k1]
         rfl
        simp only [conv] at hx
        split at hx
        ·rename_i B δ hb; simp at hx; subst hx; exact key B δ _ _ hb
        ·rename_i B δ zz kk hb
         split at hx
         ·rw [if_neg (show ¬ (len = 0 ∧ o / zz = kk) by omega)] at hx
          simp at hx; subst hx; exact key B δ _ _ hb
         ·simp at hx
        ·simp at hx
       ·simp at h
     ·simp at h
    ·simp at h
   ·simp at h
  ·simp at h
 ·simp at h
theorem clearA_run {ts : List TypeId} {x r : AV} {os : Option St} {x' : Value} {ty : TypeId} (hf : Fresh s.n ρ) (hk : s.ok) (hr : Rel base ρ s.look w) (h : clearA P s ts x = some (r, os)) (hx : conv ρ x = some x') (ats : Array TypeId) (hts : ats.toList = ts) :
  ∃ u w', (Builtin.clear_ ats ty #[x']).run P w = .ok u w' ∧ Out base ρ s w r (os.getD s) u w' := by
 unfold clearA at h
 split at h
 ·rename_i t rest
  have h0 : ats[0]? = some t := by
   have : ats.toList[0]? = some t := by rw [hts]; rfl
   simpa using this
  split at h
  ·rename_i e hu
   have nothing : ∀ (a : Option Addr) (l c : Nat), a = none ∨ l = 0 → (Builtin.clear_ ats ty #[.slice a l c]).run P w = .ok (.tuple #[]) w := by
    intro a l c hh
    unfold Builtin.clear_
    simp only [h0, List.getElem?_toArray, List.getElem?_cons_zero, Sem.run_bind, run_underlying hu, Result.andThen_ok]
    rcases hh with rfl | rfl
    ·rfl
    ·cases a <;> rfl
   split at h
   ·simp [conv] at hx; subst hx
    simp at h; obtain ⟨rfl, rfl⟩ := h
    exact ⟨_, w, nothing none 0 0 (.inl rfl), Out.same hf hk hr (conv_undef ρ)⟩
   ·rename_i b o len cap
    split at h
    ·rename_i hm
     simp at h; obtain ⟨rfl, rfl⟩ := h
     simp only [conv] at hx
     split at hx
     ·simp at hx; subst hx; exact ⟨_, w, nothing _ _ _ (.inr hm), Out.same hf hk hr (conv_undef ρ)⟩
     ·split at hx
      ·simp at hx; subst hx; exact ⟨_, w, nothing _ _ _ (.inr hm), Out.same hf hk hr (conv_undef ρ)⟩
      ·simp at hx
     ·simp at hx
    ·rename_i hm
     split at h
     ·rename_i zs hzs
      split at h
      ·rename_i s' hw
       simp at h; obtain ⟨rfl, rfl⟩ := h
       obtain ⟨z, g1, g2⟩ := zerosA_run (P := P) (ρ := ρ) hzs w
       have key : ∀ B δ ex c, ρ b = some (B, δ, ex) → ∃ u w', (Builtin.clear_ ats ty #[.slice (some ⟨B, δ + o, none⟩) len c]).run P w = .ok u w' ∧ Out base ρ s w aundef ((some s').getD s) u w' := by
        intro B δ ex c hb
        obtain ⟨w', k1, k2⟩ := writeA_run (P := P) hf hk hr hw g2 hb
        refine ⟨.tuple #[], w', ?_, k2 _ _ (conv_undef ρ)⟩
        obtain ⟨m, rfl⟩ : ∃ m, len = m + 1 := ⟨len - 1, by omega⟩
        unfold Builtin.clear_
        simp only [h0, List.getElem?_toArray, List.getElem?_cons_zero, Sem.run_bind, run_underlying hu, Result.andThen_ok, g1, Builtin.zeroCells, zeros_eq, k1, Sem.run_pure]
       simp only [conv] at hx
       split at hx
       ·rename_i B δ hb; simp at hx; subst hx; exact key B δ _ _ hb
       ·rename_i B δ zz kk hb
        split at hx
        ·rw [if_neg (show ¬ (len = 0 ∧ o / zz = kk) by omega)] at hx
         simp at hx; subst hx; exact key B δ _ _ hb
        ·simp at hx
       ·simp at hx
      ·simp at h
     ·simp at h
   ·simp at h
  ·simp at h
 ·simp at h
theorem out_plain {v : AV} {sem : Sem Value} (hf : Fresh s.n ρ) (hk : s.ok) (hr : Rel base ρ s.look w) (h : ∃ u, sem.run P w = .ok u w ∧ conv ρ v = some u) : ∃ u w', sem.run P w = .ok u w' ∧ Out base ρ s w v s u w' := by
 obtain ⟨u, h1, h2⟩ := h; exact ⟨u, w, h1, Out.same hf hk hr h2⟩
theorem stay_eq {r : Option AV} {v : AV} {os : Option St} (h : stay r = some (v, os)) : os = none ∧ r = some v := by
 cases r with
 | none => simp [stay] at h
 | some u => simp [stay] at h; exact ⟨h.2.symm, by rw [h.1]⟩
theorem u8s_run {ρ : Rho} : ∀ (l : List AV) (r : List UInt8) (us : List Value), u8s l = some r → convs ρ l = some us → ∃ ns : List Int, us = ns.map (Value.int .u8) ∧ ns.map (fun n => UInt8.ofNat n.toNat) = r
 | [], r, us, h, hc => by simp [u8s] at h; simp [convs] at hc; subst h; subst hc; exact ⟨[], rfl, rfl⟩
 | v :: l, r, us, h, hc => by
  unfold u8s at h
  split at h
  ·rename_i h0; cases h0
  ·rename_i n l' h0
   cases h0
   split at h
   ·rename_i r' h1
    simp only [Option.some.injEq] at h; subst h
    obtain ⟨a, rr, e1, e2, rfl⟩ := convs_cons.1 hc
    obtain ⟨ns, k1, k2⟩ := u8s_run _ _ _ h1 e2
    simp only [conv, Option.some.injEq] at e1
    subst e1; subst k1
    exact ⟨n :: ns, rfl, by simp [k2]⟩
   ·cases h
  ·cases h
theorem foldl_u8 : ∀ (ns : List Int) (b : ByteArray), (ns.foldl (fun r n => r.push (UInt8.ofNat n.toNat)) b).data.toList = b.data.toList ++ ns.map (fun n => UInt8.ofNat n.toNat)
 | [], b => by simp
 | n :: ns, b => by
  rw [List.foldl_cons, foldl_u8 ns]
  simp [ByteArray.push]
theorem strA_run {src dst : TypeId} {a v : AV} {x : Value} (hr : Rel base ρ s.look w) (h : strA P s src dst a = some v) (hxv : conv ρ a = some x) : ∃ u, (convert src dst x).run P w = .ok u w ∧ conv ρ v = some u := by
 unfold strA at h
 split at h
 ·rename_i e hs hd
  split at h
  ·rename_i he
   have key : ∀ l, v = .str l → (convert src dst x).run P w = .ok (.string ⟨l.toArray⟩) w → ∃ u, (convert src dst x).run P w = .ok u w ∧ conv ρ v = some u := by
    intro l hv hl
    exact ⟨_, hl, by rw [hv]; rfl⟩
   split at h
   ·simp only [Option.some.injEq] at h
    simp only [conv, Option.some.injEq] at hxv
    refine key [] h.symm ?_
    rw [← hxv, run_convert_bytes_string w src dst e _ _ _ hs he hd]
    simp [Conv.bytesToString]
    rfl
   ·rename_i b oo len cap
    split at h
    ·rename_i n news hg
     split at h
     ·rename_i l hl
      simp only [Option.some.injEq] at h
      obtain ⟨q1, q2, us, q3, q4⟩ := givenA_run (P := P) hr hg hxv
      obtain ⟨ns, k1, k2⟩ := u8s_run _ _ _ hl q3
      refine key l h.symm ?_
      have hn : n = len := by
       unfold givenA at hg
       simp only [] at hg
       split at hg
       ·split at hg
        ·simp only [Option.some.injEq, Prod.mk.injEq] at hg; exact hg.1.symm
        ·cases hg
       ·cases hg
      subst hn
      have hz := q4 n (Nat.le_refl _)
      have ex : ∃ A c, x = .slice (some A) n c := by
       simp only [conv] at hxv
       split at hxv
       ·simp only [Option.some.injEq] at hxv; exact ⟨_, _, hxv.symm⟩
       ·split at hxv
        ·simp only [Option.some.injEq] at hxv; exact ⟨_, _, hxv.symm⟩
        ·cases hxv
       ·cases hxv
      obtain ⟨A, c, ex⟩ := ex
      rw [ex] at hz ⊢
      rw [run_convert_bytes_string w src dst e _ _ _ hs he hd]
      have hlen : us.length = n * 1 := by rw [convs_length q3]; exact q2
      have hz' : (loadCells A n).run P w = .ok (ns.map (Value.int .u8)).toArray w := by
       have : (Builtin.firstCells 1 n (.slice (some A) n c)).run P w = (loadCells A n).run P w := by simp [Builtin.firstCells]
       rw [← this, hz, List.take_of_length_le (by omega), k1]
      rw [run_bytesToString w A n c ns hz']
      have : (ns.foldl (fun r n => r.push (UInt8.ofNat n.toNat)) ByteArray.empty) = ⟨l.toArray⟩ := by
       have e1 := foldl_u8 ns ByteArray.empty
       have e2 : (ByteArray.empty).data.toList = [] := rfl
       rw [e2, List.nil_append, k2] at e1
       have e3 : (ns.foldl (fun r n => r.push (UInt8.ofNat n.toNat)) ByteArray.empty).data = l.toArray := by
        apply Array.ext'
        simpa using e1
       cases hfo : ns.foldl (fun r n => r.push (UInt8.ofNat n.toNat)) ByteArray.empty with
       | mk d => rw [hfo] at e3; simp only at e3; rw [e3]
      rw [this]
     ·cases h
    ·cases h
   ·cases h
  ·cases h
 ·cases h
theorem castA_run {src dst : TypeId} {a v : AV} {x : Value} (hr : Rel base ρ s.look w) (h : castA P s src dst a = some v) (hxv : conv ρ a = some x) : ∃ u, (convert src dst x).run P w = .ok u w ∧ conv ρ v = some u := by
 unfold castA at h
 split at h
 ·rename_i q hq
  cases h
  exact convA_run hq hxv w
 ·exact strA_run hr h hxv
theorem prim_sound {t : List AV} {a : Act} (ht : convs ρ t = some a.tmps.toList) (hf : Fresh s.n ρ) (hk : s.ok) (hr : Rel base ρ s.look w) {o : Oper} {v : AV} {os : Option St} (h : prim P t s o.op = some (v, os)) :
  ∃ nx w' x, (execOp a.eval o).run P w = .ok nx w' ∧ (nx = .value x ∨ (nx = .skip ∧ x = undef)) ∧ Out base ρ s w v (os.getD s) x w' := by
 by_cases hb : blind o = true
 ·obtain ⟨e, hq⟩ := blind_sound ht hb h
  subst e
  obtain ⟨x, h1, h2⟩ := hq w
  exact ⟨_, w, x, h1, .inl rfl, Out.same hf hk hr h2⟩
 have val : ∀ {sem : Sem Value} {v : AV} {s' : St}, (execOp a.eval o = (do pure (.value (← sem)) : Sem Next)) → (∃ u w', sem.run P w = .ok u w' ∧ Out base ρ s w v s' u w') →
   ∃ nx w' x, (execOp a.eval o).run P w = .ok nx w' ∧ (nx = .value x ∨ (nx = .skip ∧ x = undef)) ∧ Out base ρ s w v s' x w' := by
  intro sem v s' he hq
  obtain ⟨u, w', h1, h2⟩ := hq
  exact ⟨.value u, w', u, by rw [he]; simp [h1], .inl rfl, h2⟩
 have unit : ∀ {sem : Sem Unit} {s' : St}, (execOp a.eval o = (do sem; pure .skip : Sem Next)) → (∃ w', sem.run P w = .ok () w' ∧ ∀ q u, conv ρ q = some u → Out base ρ s w q s' u w') →
   ∃ nx w' x, (execOp a.eval o).run P w = .ok nx w' ∧ (nx = .value x ∨ (nx = .skip ∧ x = undef)) ∧ Out base ρ s w aundef s' x w' := by
  intro sem s' he hq
  obtain ⟨w', h1, h2⟩ := hq
  exact ⟨.skip, w', undef, by rw [he]; simp [h1], .inr ⟨rfl, rfl⟩, h2 _ _ rfl⟩
 cases ho : o.op <;> rw [ho] at h <;> simp only [prim] at h
 case alloc e =>
  split at h
  ·rename_i z hz
   obtain ⟨z', rz, cz⟩ := zeroOf_run (ρ := ρ) hz w
   obtain ⟨u, w', h1, h2⟩ := boxA_run (P := P) hf hk hr h cz
   refine val (by unfold execOp; rw [ho]) ⟨u, w', ?_, h2⟩
   simp only [Instr.alloc, Sem.run_bind, rz, Result.andThen_ok]
   simpa using h1
  ·simp at h
 case box e x =>
  split at h
  ·rename_i p hp
   exact val (by unfold execOp; rw [ho]; rfl) (boxA_run (P := P) hf hk hr h (aEval_conv ht hp))
  ·simp at h
 case buildSlice ty len parts =>
  split at h
  ·rename_i l hl
   obtain ⟨e1, e2⟩ := partsA_conv ht hl
   obtain ⟨u, w', h1, h2⟩ := buildSliceA_run (P := P) hf hk hr h _ e1 e2
   refine val (by unfold execOp; rw [ho]) ⟨u, w', ?_, h2⟩
   rw [← h1]
   congr 2
   apply Array.ext'
   simp
  ·simp at h
 case convert sr ds x =>
  split at h
  ·rename_i p hp
   obtain ⟨rfl, hl⟩ := stay_eq h
   exact val (by unfold execOp; rw [ho]) (out_plain hf hk hr (castA_run hr hl (aEval_conv ht hp)))
  ·simp at h
 case load ty x =>
  split at h
  ·rename_i p hp
   obtain ⟨rfl, hl⟩ := stay_eq h
   exact val (by unfold execOp; rw [ho]) (out_plain hf hk hr (loadA_run hr hl (aEval_conv ht hp)))
  ·simp at h
 case store ty x y =>
  split at h
  ·rename_i p q hp hq
   split at h
   ·rename_i s' hs
    simp at h; obtain ⟨rfl, rfl⟩ := h
    exact unit (by unfold execOp; rw [ho]) (storeA_run (P := P) hf hk hr hs (aEval_conv ht hp) (aEval_conv ht hq))
   ·simp at h
  ·simp at h
 case makeMap ty r =>
  cases r with
  | some x =>
   simp only [] at h
   split at h
   ·rename_i k n kt vt hp hu
    simp at h; obtain ⟨rfl, rfl⟩ := h
    have hx := aEval_conv ht hp
    simp only [conv, Option.some.injEq] at hx
    refine val (sem := Instr.makeMap ty (some (a.eval x))) (by unfold execOp; rw [ho]; rfl) ⟨.map (some w.heap.size), w.alloc (.map #[] 0), by rw [← hx]; simp [Instr.makeMap, run_underlying hu, asInt, asIntOf], ?_⟩
    refine out_push_own (x := .map []) (ext := none) hf hk hr (by simp) rfl ?_ (by simp [conv, Rho.with_self])
    exact ⟨w.heap.size, 0, none, #[], 0, Rho.with_self _ _ _, by simp only [World.alloc, Array.getElem?_push_size], hr.base_le, rfl, rfl⟩
   ·simp at h
  | none =>
   simp at h; obtain ⟨rfl, rfl⟩ := h
   refine val (sem := Instr.makeMap ty none) (by unfold execOp; rw [ho]; rfl) ⟨.map (some w.heap.size), w.alloc (.map #[] 0), by simp [Instr.makeMap], ?_⟩
   refine out_push_own (x := .map []) (ext := none) hf hk hr (by simp) rfl ?_ (by simp [conv, Rho.with_self])
   exact ⟨w.heap.size, 0, none, #[], 0, Rho.with_self _ _ _, by simp only [World.alloc, Array.getElem?_push_size], hr.base_le, rfl, rfl⟩
 case makeSlice ty l c =>
  split at h
  ·rename_i p q hp hq
   exact val (by unfold execOp; rw [ho]) (makeSliceA_run (P := P) hf hk hr h (aEval_conv ht hp) (aEval_conv ht hq))
  ·simp at h
 case slice ty x lo hi mx =>
  split at h
  ·rename_i p lo' hi' mx' hp hlo hhi hmx
   split at h
   ·simp at h
   ·rename_i hno
    obtain ⟨rfl, hl⟩ := stay_eq h
    exact val (by unfold execOp; rw [ho]) (out_plain hf hk hr (sliceA_run hr hl (aEval_conv ht hp) (optA_conv ht hlo) (optA_conv ht hhi) (optA_conv ht hmx) (by simpa using hno)))
  ·simp at h
 case lookup ty m k ok =>
  split at h
  ·rename_i p q hp hq
   obtain ⟨rfl, hl⟩ := stay_eq h
   exact val (by unfold execOp; rw [ho]) (out_plain hf hk hr (lookupA_run hr hl (aEval_conv ht hp) (aEval_conv ht hq)))
  ·simp at h
 case mapUpdate ty m k x =>
  split at h
  ·rename_i p q r hp hq hx
   split at h
   ·rename_i s' hs
    simp at h; obtain ⟨rfl, rfl⟩ := h
    exact unit (by unfold execOp; rw [ho]) (updateA_run (P := P) hf hk hr hs (aEval_conv ht hp) (aEval_conv ht hq) (aEval_conv ht hx))
   ·simp at h
  ·simp at h
 case insert ty m k x =>
  split at h
  ·rename_i p q r hp hq hx
   split at h
   ·rename_i s' hs
    simp at h; obtain ⟨rfl, rfl⟩ := h
    exact unit (by unfold execOp; rw [ho]) (updateA_run (P := P) hf hk hr hs (aEval_conv ht hp) (aEval_conv ht hq) (aEval_conv ht hx))
   ·simp at h
  ·simp at h
 case range ty x =>
  split at h
  ·rename_i p hp
   unfold rangeA at h
   split at h
   ·rename_i l hu
    simp at h; obtain ⟨rfl, rfl⟩ := h
    have hc := aEval_conv ht hp
    simp [conv] at hc
    refine val (by unfold execOp; rw [ho]) ⟨.pointer (some ⟨w.heap.size, 0, none⟩), w.alloc (.stringIter ⟨l.toArray⟩ 0), ?_, ?_⟩
    ·simp only [← hc, Instr.range, Sem.run_bind, run_underlying hu, Result.andThen_ok, Sem.run_pure, run_newObj]
     rfl
    ·refine out_push_own (x := .sit l 0) (ext := none) hf hk hr (by simp) rfl ?_ (by simp [conv, Rho.with_self])
     exact ⟨w.heap.size, 0, none, Rho.with_self _ _ _, by simp only [World.alloc, Array.getElem?_push_size], hr.base_le, rfl⟩
   ·simp at h
  ·simp at h
 case next it isString =>
  split at h
  ·rename_i p hp
   unfold nextA at h
   split at h
   ·rename_i b
    split at h
    ·rename_i l pos hg
     have hc := aEval_conv ht hp
     have hlook := St.look_of_get hg (by simp)
     have hl := hr.obj b _ hlook
     obtain ⟨B, δ, ex, h1, h2, h3, h4⟩ := hl
     subst h4
     simp only [conv, h1] at hc
     simp at hc
     have hsz : (ByteArray.mk l.toArray).size = l.length := by show l.toArray.size = _; simp
     have hBl : B < w.heap.size := (Array.getElem?_eq_some_iff.1 h2).1
     have hn : ∀ u w', ((do
       if pos < (ByteArray.mk l.toArray).size then
        let (c, width) := Utf8.decode ⟨l.toArray⟩ pos
        setObj B (.stringIter ⟨l.toArray⟩ (pos + width))
        pure (.tuple #[.bool true, goInt pos, .int .i32 c])
       else pure (.tuple #[.bool false]) : Sem Value)).run P w = .ok u w' → (Instr.next (a.eval it) true o.type).run P w = .ok u w' := by
      intro u w' e
      rw [← hc]
      unfold Instr.next
      simp only [Sem.run_bind, getObj_run h2 (by simp), Result.andThen_ok]
      exact e
     split at h
     ·rename_i hlt
      simp at h; obtain ⟨rfl, rfl⟩ := h
      refine val (sem := Instr.next (a.eval it) true o.type) (by unfold execOp; rw [ho]) ⟨.tuple #[.bool true, goInt pos, .int .i32 (Utf8.decode ⟨l.toArray⟩ pos).1], wput w B (.stringIter ⟨l.toArray⟩ (pos + (Utf8.decode ⟨l.toArray⟩ pos).2)), hn _ _ ?_, ?_⟩
      ·rw [hsz, if_pos hlt]
       simp only [Sem.run_bind, setObj_run h2 (by simp), Result.andThen_ok, Sem.run_pure]
      ·refine out_set (x := .sit l (pos + (Utf8.decode ⟨l.toArray⟩ pos).2)) hf hk hr (Turn.wput hBl) hlook rfl (by simp [blk, h1]) rfl (by simp) rfl ?_ rfl
       exact ⟨B, 0, ex, h1, (Turn.wput hBl).here, h3, rfl⟩
     ·rename_i hlt
      simp at h; obtain ⟨rfl, rfl⟩ := h
      refine val (sem := Instr.next (a.eval it) true o.type) (by unfold execOp; rw [ho]) ⟨.tuple #[.bool false], w, hn _ _ ?_, Out.same hf hk hr rfl⟩
      rw [hsz, if_neg hlt]; rfl
    ·simp at h
   ·simp at h
  ·simp at h
 case call c =>
  split at h
  ·rename_i b args hc ha
   have hargs := aEvals_conv ht ha
   have hres : (resolve a.eval c o.type).run P w = .ok { target := .builtin b c.argTypes o.type (c.args.map fun | .const _ => true | _ => false), args := c.args.map a.eval } w := by
    unfold resolve; rw [hc]; rfl
   have hal : (c.args.map a.eval).toList = c.args.toList.map a.eval := by simp
   have bi : ∀ {v : AV} {s' : St} (sem : Sem Value) (l : List Value), c.args.toList.map a.eval = l → (builtin b c.argTypes o.type (c.args.map fun | .const _ => true | _ => false) l.toArray = (do pure (.value (← sem)) : Sem Next)) →
     (∃ u w', sem.run P w = .ok u w' ∧ Out base ρ s w v s' u w') → ∃ nx w' x, (execOp a.eval o).run P w = .ok nx w' ∧ (nx = .value x ∨ (nx = .skip ∧ x = undef)) ∧ Out base ρ s w v s' x w' := by
    intro v s' sem l e1 e2 hq
    obtain ⟨u, w', h1, h2⟩ := hq
    refine ⟨.value u, w', u, ?_, .inl rfl, h2⟩
    unfold execOp; rw [ho]
    have e3 : c.args.map a.eval = l.toArray := by apply Array.ext'; rw [hal, e1]
    simp only [Sem.run_bind, hres, Result.andThen_ok, invoke, e3]
    rw [e2]; simp [h1]
   unfold builtinA at h
   split at h
   ·rename_i x
    obtain ⟨rfl, hl⟩ := stay_eq h
    obtain ⟨x', r', g1, g2, g3⟩ := convs_cons.1 hargs
    simp [convs] at g2; subst g2
    exact bi _ _ g3 rfl (out_plain hf hk hr (lenA_run hr hl g1 c.argTypes rfl))
   ·rename_i x y
    obtain ⟨x', r', g1, g2, g3⟩ := convs_cons.1 hargs
    obtain ⟨y', r2, g4, g5, g6⟩ := convs_cons.1 g2
    simp [convs] at g5; subst g5; subst g6
    exact bi _ _ g3 rfl (appendA_run (P := P) hf hk hr h g1 g4 c.argTypes rfl)
   ·rename_i x y
    obtain ⟨x', r', g1, g2, g3⟩ := convs_cons.1 hargs
    obtain ⟨y', r2, g4, g5, g6⟩ := convs_cons.1 g2
    simp [convs] at g5; subst g5; subst g6
    exact bi _ _ g3 rfl (copyA_run (P := P) hf hk hr h g1 g4 c.argTypes rfl)
   ·exfalso; apply hb; simp [blind, ho, hc]
   ·exfalso; apply hb; simp [blind, ho, hc]
   ·rename_i x y
    obtain ⟨x', r', g1, g2, g3⟩ := convs_cons.1 hargs
    obtain ⟨y', r2, g4, g5, g6⟩ := convs_cons.1 g2
    simp [convs] at g5; subst g5; subst g6
    exact bi _ _ g3 rfl (deleteA_run (P := P) hf hk hr h g1 g4 c.argTypes rfl)
   ·rename_i x
    obtain ⟨x', r', g1, g2, g3⟩ := convs_cons.1 hargs
    simp [convs] at g2; subst g2
    exact bi _ _ g3 rfl (clearA_run (P := P) hf hk hr h g1 c.argTypes rfl)
   ·simp at h
  ·simp at h
 all_goals first
  | (exfalso; apply hb; simp [blind, ho]; done)
  | (simp at h; done)
theorem ext_find {fn : Func} (ho : fn.origin = "") (hn : fn.name = cntName) : Extern.findNext fn = none ∧ Extern.find fn = some Extern.BytealgCount.count := by
 constructor
 ·simp only [Extern.findNext, ho, hn]
  rw [show Extern.allNextRows.lookup cntName = none by kernel_rfl, show Extern.allNextRows.lookup "" = none by kernel_rfl]
  rfl
 ·simp only [Extern.find, hn]
  rw [show Extern.allGenericRows.lookup cntName = none by kernel_rfl, show Extern.allTypedRows.lookup cntName = none by kernel_rfl, show Extern.allRows.lookup cntName = some Extern.BytealgCount.count by kernel_rfl]
  rfl
theorem ext_find2 {fn : Func} (ho : fn.origin = "") (hn : fn.name = idxName) : Extern.findNext fn = none ∧ Extern.find fn = some Extern.BytealgIndexByte.indexByte := by
 constructor
 ·simp only [Extern.findNext, ho, hn]
  rw [show Extern.allNextRows.lookup idxName = none by kernel_rfl, show Extern.allNextRows.lookup "" = none by kernel_rfl]
  rfl
 ·simp only [Extern.find, hn]
  rw [show Extern.allGenericRows.lookup idxName = none by kernel_rfl, show Extern.allTypedRows.lookup idxName = none by kernel_rfl, show Extern.allRows.lookup idxName = some Extern.BytealgIndexByte.indexByte by kernel_rfl]
  rfl
theorem ext_run {g : FuncId} {fn : Func} {e : Array Value → Sem Value} {args : Array Value} {v : Value} (hf : P.funcs[g]? = some fn) (hb : fn.body = none) (hname : (fn.name == "runtime.NumGoroutine") = false) (hx : Extern.findNext fn = none) (he : Extern.find fn = some e) (hr : (e args).run P w = .ok v w) :
  (callFunc g args).run P w = .ok (.value v) w := by
 unfold callFunc
 simp only [Sem.run_bind, run_program, Result.andThen_ok, hf, hname, Bool.false_eq_true, if_false, hb, Option.isNone_none, if_true, hx, he, mark]
 simp only [Sem.run, hr, Result.andThen_ok, Sem.run_bind, Sem.run_pure]
theorem extA_run {g : FuncId} {fn : Func} {args : List AV} {v : AV} {cargs : List Value} (hf : P.funcs[g]? = some fn) (hb : fn.body = none) (h : extA fn args = some v) (hc : convs ρ args = some cargs) : ∃ x, (callFunc g cargs.toArray).run P w = .ok (.value x) w ∧ conv ρ v = some x := by
 unfold extA at h
 split at h
 ·rename_i hn
  simp only [Bool.and_eq_true, beq_iff_eq] at hn
  split at h
  ·rename_i l c
   simp only [Option.some.injEq] at h; subst h
   simp only [convs, conv, Option.some.injEq] at hc; subst hc
   obtain ⟨e1, e2⟩ := ext_find hn.1 hn.2
   refine ⟨_, ext_run hf hb (by rw [hn.2]; kernel_rfl) e1 e2 (Lib.run_countString ⟨l.toArray⟩ c w), ?_⟩
   simp only [conv]
  ·cases h
 ·split at h
  ·rename_i hn
   simp only [Bool.and_eq_true, beq_iff_eq] at hn
   split at h
   ·rename_i l c
    simp only [Option.some.injEq] at h; subst h
    simp only [convs, conv, Option.some.injEq] at hc; subst hc
    obtain ⟨e1, e2⟩ := ext_find2 hn.1 hn.2
    refine ⟨_, ext_run hf hb (by rw [hn.2]; kernel_rfl) e1 e2 (Lib.run_indexByteString ⟨l.toArray⟩ c w), ?_⟩
    simp only [conv]
   ·cases h
  ·cases h
theorem seqA_sound {t : List AV} {a : Act} (ht : convs ρ t = some a.tmps.toList) (hf : Fresh s.n ρ) (hk : s.ok) (hr : Rel base ρ s.look w) {o : Oper} {v : AV} (h : seqA P t s o.op = some v) :
  ∃ x, (execOp a.eval o).run P w = .ok (.value x) w ∧ Out base ρ s w v s x w := by
 unfold seqA at h
 split at h
 ·rename_i c ho
  split at h
  ·rename_i g hg
   split at h
   ·rename_i fn hfn
    split at h
    ·cases h
    ·rename_i hb
     split at h
     ·rename_i args ha
      have hargs := aEvals_conv ht ha
      obtain ⟨x, h1, h2⟩ := extA_run (P := P) (w := w) hfn hb h hargs
      refine ⟨x, ?_, Out.same hf hk hr h2⟩
      unfold execOp
      rw [ho]
      have harr : c.args.map a.eval = (c.args.toList.map a.eval).toArray := by apply Array.ext'; simp
      simp only [resolve, hg, Act.eval, Deferred.ofValue, Sem.run_bind, Sem.run_pure, Result.andThen_ok, invoke, Array.append_empty, Array.empty_append]
      rw [← h1, ← harr]
     ·cases h
   ·cases h
  ·cases h
 ·cases h
end Go.Vm
