/-
 Part of the proof that a machine over named lists stands for the program's runs (VmOps). No conditions beyond those that its theorems name.
-/
import Derived.Test.YtjljleemknmgoaaVmPut
namespace Go.Vm
set_option linter.unusedSectionVars false
variable [Facts] [Val] [Sound]
variable {P : Program} {base : Nat} {ρ : Rho} {s : St} {w : World}
theorem convs_exists {ρ : Rho} : ∀ {vs : List AV} {Q : Nat → Value → Prop}, (∀ i v, vs[i]? = some v → ∃ u, conv ρ v = some u ∧ Q i u) → ∃ us, convs ρ vs = some us ∧ ∀ j u, us[j]? = some u → Q j u
 | [], Q, _ => ⟨[], rfl, fun j u h => by simp at h⟩
 | v :: vs, Q, h => by
  obtain ⟨u, h1, h2⟩ := h 0 v rfl
  obtain ⟨us, h3, h4⟩ := convs_exists (vs := vs) (Q := fun i u => Q (i + 1) u) (fun i v hi => h (i + 1) v (by simpa using hi))
  refine ⟨u :: us, convs_cons.2 ⟨u, us, h1, h3, rfl⟩, fun j x hj => ?_⟩
  cases j with
  | zero => simp at hj; subst hj; exact h2
  | succ j => exact h4 j x (by simpa using hj)
theorem row_cells {b : Nat} {cs : List AV} {e : TypeId} {op own sp : Bool} {f z : Nat} (h : Held base ρ b (.row cs e op own sp f z) w) {B δ : Nat} {x : Option (Nat × Nat)} (hb : ρ b = some (B, δ, x)) (o n : Nat) :
  ∃ us, convs ρ ((cs.drop o).take n) = some us ∧ ∀ j u, us[j]? = some u → w.cell? ⟨B, δ + o + j, none⟩ = some u := by
 obtain ⟨B', δ', x', c, t, fz, h1, h2, h3, _⟩ := h
 rw [h1] at hb; cases hb
 refine convs_exists (fun i v hi => ?_)
 have hi' : cs[o + i]? = some v := by
  rw [List.getElem?_take] at hi
  split at hi
  ·simpa using hi
  ·cases hi
 obtain ⟨u, e1, e2⟩ := h3 _ _ hi'
 refine ⟨u, e1, ?_⟩
 simp only [World.cell?, h2]
 simpa [Nat.add_assoc] using e2
theorem addr_add (B o n : Nat) : (Addr.add ⟨B, o, none⟩ n) = ⟨B, o + n, none⟩ := add_at B o n
theorem loadCells_run {us : List Value} {B o : Nat} (h : ∀ j u, us[j]? = some u → w.cell? ⟨B, o + j, none⟩ = some u) {n : Nat} (hn : us.length = n) : (loadCells ⟨B, o, none⟩ n).run P w = .ok us.toArray w := by
 subst hn
 exact run_loadCells_list (P := P) w ⟨B, o, none⟩ us (fun j v hj => by rw [addr_add]; exact h j v hj)
theorem loadVar_run {b o : Nat} {t : TypeId} {v : AV} (hr : Rel base ρ s.look w) (h : loadA P s t (.ptr b o) = some v) {B δ : Nat} {x : Option (Nat × Nat)} (hb : ρ b = some (B, δ, x)) :
  ∃ u, (loadVar t ⟨B, δ + o, none⟩).run P w = .ok u w ∧ conv ρ v = some u := by
 simp only [loadA] at h
 split at h
 ·rename_i cs e op own sp f z hg
  have hl := hr.obj b _ (St.look_of_get hg (by simp))
  split at h
  ·rename_i n h1 h2
   split at h
   ·rename_i hle
    simp at h; subst h
    obtain ⟨us, e1, e2⟩ := row_cells hl hb o n
    have hlen : us.length = n := by rw [convs_length e1]; simp; omega
    refine ⟨.agg us.toArray, ?_, by simp [conv, e1]⟩
    simp only [loadVar, Sem.run_bind, isAggT_run h1, Result.andThen_ok, if_true, sizeT_run h2, loadCells_run e2 hlen, Sem.run_pure]
   ·simp at h
  ·rename_i h1
   obtain ⟨us, e1, e2⟩ := row_cells hl hb o 1
   have hv : ((cs.drop o).take 1)[0]? = some v := by simp [h]
   obtain ⟨u, g1, g2⟩ := convs_get e1 0 v hv
   refine ⟨u, ?_, g1⟩
   have := e2 0 u g2
   simp only [Nat.add_zero] at this
   simp only [loadVar, Sem.run_bind, isAggT_run h1, Result.andThen_ok, Bool.false_eq_true, if_false, run_load, this]
  ·simp at h
 ·simp at h
theorem loadA_run {t : TypeId} {a v : AV} {x : Value} (hr : Rel base ρ s.look w) (h : loadA P s t a = some v) (hx : conv ρ a = some x) :
  ∃ u, (Instr.loadAt t x).run P w = .ok u w ∧ conv ρ v = some u := by
 cases a with
 | ptr b o =>
  simp only [conv] at hx
  cases hb : ρ b with
  | none => rw [hb] at hx; simp at hx
  | some p =>
   obtain ⟨B, δ, e⟩ := p
   rw [hb] at hx; simp at hx; subst hx
   obtain ⟨u, h1, h2⟩ := loadVar_run hr h hb
   exact ⟨u, by simp only [Instr.loadAt, Instr.sureAddr, Sem.run_bind, Sem.run_pure, Result.andThen_ok]; exact h1, h2⟩
 | _ => simp [loadA] at h
theorem cellsOk_get : ∀ {vs : List AV}, cellsOk vs = true → ∀ v ∈ vs, v.isCell = true
 | [], _, v, hv => by simp at hv
 | u :: vs, h, v, hv => by
  simp only [cellsOk, Bool.and_eq_true] at h
  rcases List.mem_cons.1 hv with e | e
  ·subst e; exact h.1
  ·exact cellsOk_get h.2 v e
theorem convs_oneCell {vs : List AV} {us : List Value} (h : convs ρ vs = some us) (hc : cellsOk vs = true) : ∀ u ∈ us, u.oneCell' = true := by
 intro u hu
 obtain ⟨i, hi⟩ := List.mem_iff_getElem?.1 hu
 have hlen := convs_length h
 have hlt : i < vs.length := by have := (List.getElem?_eq_some_iff.1 hi).1; omega
 obtain ⟨x, h1, h2⟩ := convs_get h i vs[i] (List.getElem?_eq_getElem hlt)
 rw [hi] at h2; cases h2
 exact conv_isCell h1 (cellsOk_get hc _ (List.getElem_mem hlt))
theorem putCells_get : ∀ (vs : List AV) (cs : List AV) (off i : Nat), off + vs.length ≤ cs.length → (putCells cs off vs)[i]? = if off ≤ i ∧ i < off + vs.length then vs[i - off]? else cs[i]?
 | [], cs, off, i, _ => by simp [putCells]; intro h1 h2; omega
 | v :: vs, cs, off, i, h => by
  simp only [putCells]
  rw [putCells_get vs (cs.set off v) (off + 1) i (by simp at h ⊢; omega)]
  simp only [List.length_cons] at h ⊢
  by_cases h1 : off + 1 ≤ i ∧ i < off + 1 + vs.length
  ·rw [if_pos h1, if_pos (by omega)]
   have e : i - off = (i - (off + 1)) + 1 := by omega
   rw [e]; simp
  ·rw [if_neg h1, List.getElem?_set]
   by_cases h2 : off = i
   ·subst h2
    rw [if_pos rfl, if_pos (by omega), if_pos (by omega)]
    simp
   ·rw [if_neg h2, if_neg (by omega)]
theorem writeA_run {s' : St} {b o : Nat} {vs : List AV} {us : List Value} (hf : Fresh s.n ρ) (hk : s.ok) (hr : Rel base ρ s.look w) (h : writeA s b o vs = some s') (hu : convs ρ vs = some us)
  {B δ : Nat} {x : Option (Nat × Nat)} (hb : ρ b = some (B, δ, x)) :
  ∃ w', (storeCells ⟨B, δ + o, none⟩ us).run P w = .ok () w' ∧ ∀ v u, conv ρ v = some u → Out base ρ s w v s' u w' := by
 unfold writeA at h
 split at h
 ·rename_i cs e op sp f z hg
  split at h
  ·rename_i hle
   simp only [Bool.and_eq_true, decide_eq_true_eq] at hle
   obtain ⟨hle, hcok⟩ := hle
   have hlook := St.look_of_get hg (by simp)
   have hl := hr.obj b _ hlook
   have hl0 := hl
   obtain ⟨B', δ', x', c, t, fz, h1, h2, h3, h4, h5, h6⟩ := hl
   rw [h1] at hb; cases hb
   obtain ⟨hbase, hfz⟩ := h4 rfl
   subst hfz
   have hulen := convs_length hu
   have hcsz : δ + cs.length ≤ c.size := h6.2
   have hrun := run_storeCells_at P B (δ + o) t us 0 c w h2 (by simp [hulen]; omega) (convs_oneCell hu hcok)
   simp only [Nat.add_zero] at hrun
   refine ⟨_, hrun, fun v u hv => ?_⟩
   have hturn := Turn.setRow (c' := (c.toList.take (δ + o) ++ us ++ c.toList.drop (δ + o + us.length)).toArray) h2
   have hblk : blk ρ b = some B := by simp [blk, h1]
   have hsize : (c.toList.take (δ + o) ++ us ++ c.toList.drop (δ + o + us.length)).length = c.size := by
    simp [hulen]; omega
   have hget : ∀ i, (c.toList.take (δ + o) ++ us ++ c.toList.drop (δ + o + us.length)).toArray[i]? = if δ + o ≤ i ∧ i < δ + o + us.length then us[i - (δ + o)]? else c[i]? := by
    intro i
    rw [List.getElem?_toArray]
    by_cases e1 : i < δ + o
    ·rw [List.append_assoc, List.getElem?_append_left (by simp; omega), if_neg (by omega), List.getElem?_take, if_pos e1]; simp
    ·by_cases e2 : i < δ + o + us.length
     ·rw [List.append_assoc, List.getElem?_append_right (by simp; omega), List.getElem?_append_left (by simp; omega), if_pos (by omega)]
      congr 1
      simp; omega
     ·rw [List.getElem?_append_right (by simp; omega), if_neg (by omega), List.getElem?_drop]
      simp only [List.length_append, List.length_take, Array.length_toList, Array.getElem?_toList]
      congr 1
      omega
   have hheld : Held base ρ b (.row (putCells cs o vs) e op true sp f z) (w.setRow B (c.toList.take (δ + o) ++ us ++ c.toList.drop (δ + o + us.length)).toArray) := by
    refine ⟨B, δ, x, _, t, (0, 0), h1, hturn.here, fun i v hi => ?_, fun _ => ⟨hbase, rfl⟩, fun ho => ?_, h6.1, by rw [List.size_toArray, hsize, putCells_length]; exact hcsz⟩
    ·rw [putCells_get vs cs o i hle] at hi
     rw [hget]
     split at hi
     ·rename_i hin
      obtain ⟨y, g1, g2⟩ := convs_get hu _ v hi
      refine ⟨y, g1, ?_⟩
      rw [if_pos (by omega)]
      rw [← g2]; congr 1; omega
     ·rename_i hout
      obtain ⟨y, g1, g2⟩ := h3 i v hi
      exact ⟨y, g1, by rw [if_neg (by omega)]; exact g2⟩
    ·obtain ⟨k1, k2, k, k3, k4, k5⟩ := h5 ho
     exact ⟨k1, k2, k, k3, by rw [List.size_toArray, hsize]; exact k4, by rw [putCells_length]; exact k5⟩
   split at h
   ·rename_i hs
    simp at h; subst h
    simp only [Bool.and_eq_true, decide_eq_true_eq, Bool.not_eq_true'] at hs
    exact out_set hf hk hr hturn hlook rfl hblk (by simp [AO.single, hs.1, hs.2]) (by simp) rfl hheld hv
   ·simp at h; subst h
    have hlt := St.look_lt hlook
    refine out_turn (x := .row (putCells cs o vs) e op true sp f z) hf hr hturn hlook rfl hblk rfl (St.ok_set _ _ (St.ok_alone _ hk)) ⟨?_, fun i hi hi' => ?_⟩ (by rw [St.look_set _ (by simp) b b (St.ok_alone _ hk) hlt, if_pos rfl]) rfl (fun q => q) (fun i q hi hq => ?_) hheld hv
    ·simp only [St.set_def, St.alone_def]; omega
    ·have hkin := hr.kin b _ hlook
     simp only [AO.kinOf] at hkin
     simp only [St.set_def, St.alone_def] at hi
     rw [St.get_set _ b i (St.ok_alone _ hk) hlt, if_neg (by omega), St.get_alone]
     cases hgi : s.get i with
     | none => rfl
     | some q =>
      simp only [Option.map_some, Option.some.injEq]
      cases q with
      | row cs' e' op' w' sp' g' z' =>
       simp only [AO.kin]
       rw [if_neg]
       intro e; subst e
       have := hr.kin i _ (St.look_of_get hgi (by simp))
       simp only [AO.kinOf] at this
       omega
      | _ => rfl
    ·rw [St.look_set _ (by simp) b i (St.ok_alone _ hk) hlt, if_neg hi] at hq
     obtain ⟨g1, g2⟩ := St.look_alone f i q hq
     refine ⟨g1, fun e => ?_⟩
     refine hr.apart b i _ q hlook g1 rfl ?_ (by rw [hblk, e])
     simp only [AO.kinOf]
     cases q with
     | row cs' e' op' w' sp' g' z' => exact fun e => g2 _ _ _ _ _ _ _ rfl e.symm
     | dead => exact absurd g1 (St.look_live _ _)
     | _ =>
      intro e
      simp only at e
      subst e
      exact hr.alone _ _ g1 (by rfl) b _ hlook (fun e => hi e.symm) rfl
  ·simp at h
 ·simp at h
end Go.Vm
