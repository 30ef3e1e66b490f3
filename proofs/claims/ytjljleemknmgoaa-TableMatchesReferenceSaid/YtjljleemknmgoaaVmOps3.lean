/-
 Part of the proof that a machine over named lists stands for the program's runs (VmOps3). No conditions beyond those that its theorems name.
-/
import Derived.Test.YtjljleemknmgoaaVmOps2
namespace Go.Vm
set_option linter.unusedSectionVars false
variable [Facts] [Val] [Sound]
variable {P : Program} {base : Nat} {ρ : Rho} {s : St} {w : World}
def OptRel (ρ : Rho) : Option AV → Option Value → Prop
 | none, none => True
 | some v, some u => conv ρ v = some u
 | _, _ => False
theorem optA_conv {t : List AV} {a : Act} (ht : convs ρ t = some a.tmps.toList) {x : Option Operand} {y : Option AV} (h : optA t x = some y) : OptRel ρ y (x.map a.eval) := by
 cases x with
 | none => simp [optA] at h; subst h; trivial
 | some x =>
  simp only [optA] at h
  cases hx : aEval t x with
  | none => rw [hx] at h; simp at h
  | some v => rw [hx] at h; simp at h; subst h; exact aEval_conv ht hx
theorem sliceBound_run {k : IntKind} {i : Int} {top : Nat} (h : 0 ≤ i ∧ i ≤ top) (c : BoundsCode) (w : World) : (Instr.sliceBound (.int k i) top c).run P w = .ok i.toNat w := by
 simp [Instr.sliceBound, asIntOf, h]
theorem boundA_some {x : AV} {d top k : Nat} {y : Value} (h : boundA (some x) d top = some k) (hy : conv ρ x = some y) (c : BoundsCode) (top' : Nat) (ht : top ≤ top') (w : World) : (Instr.sliceBound y top' c).run P w = .ok k w ∧ k ≤ top := by
 cases x <;> simp only [boundA] at h <;> try (simp at h; done)
 rename_i kd i
 split at h
 ·rename_i hb; simp at h; subst h
  simp [conv] at hy; subst hy
  exact ⟨sliceBound_run ⟨hb.1, by omega⟩ c w, by omega⟩
 ·simp at h
theorem sliceBounds_run {isSlice : Bool} {len cap m h l topH : Nat} {lo hi mx : Option AV} {lo' hi' mx' : Option Value} (hlo : OptRel ρ lo lo') (hhi : OptRel ρ hi hi') (hmx : OptRel ρ mx mx')
  (hm : boundA mx cap cap = some m) (hh : boundA hi len topH = some h) (htop : topH ≤ m) (hl : boundA lo 0 h = some l) (hno : ¬ (mx.isSome = true ∧ hi.isNone = true)) (w : World) :
  (Instr.sliceBounds isSlice len cap lo' hi' mx').run P w = .ok (l, h, m) w := by
 have fm : ∀ u, mx' = some u → ∀ c, (Instr.sliceBound u cap c).run P w = .ok m w := by
  intro u e c; subst e
  cases mx with
  | none => exact hmx.elim
  | some v => exact (boundA_some hm hmx _ _ (Nat.le_refl _) w).1
 have fmn : mx' = none → cap = m := by
  intro e; subst e
  cases mx with
  | none => simp [boundA] at hm; exact hm
  | some v => exact hmx.elim
 have fh : ∀ u, hi' = some u → ∀ c, (Instr.sliceBound u m c).run P w = .ok h w := by
  intro u e c; subst e
  cases hi with
  | none => exact hhi.elim
  | some v => exact (boundA_some hh hhi c m htop w).1
 have fhn : hi' = none → len = h := by
  intro e; subst e
  cases hi with
  | none => simp [boundA] at hh; exact hh
  | some v => exact hhi.elim
 have fl : ∀ u, lo' = some u → ∀ c, (Instr.sliceBound u h c).run P w = .ok l w := by
  intro u e c; subst e
  cases lo with
  | none => exact hlo.elim
  | some v => exact (boundA_some hl hlo _ _ (Nat.le_refl _) w).1
 have fln : lo' = none → 0 = l := by
  intro e; subst e
  cases lo with
  | none => simp [boundA] at hl; exact hl
  | some v => exact hlo.elim
 have fno : hi' = none → mx' = none := by
  intro e; subst e
  cases hi with
  | some v => exact hhi.elim
  | none => cases mx with
   | some v => exact absurd ⟨rfl, rfl⟩ hno
   | none => cases mx' with
    | none => rfl
    | some u => exact hmx.elim
 unfold Instr.sliceBounds
 cases hi' with
 | none =>
  have := fno rfl
  subst this
  have e1 := fmn rfl
  have e2 := fhn rfl
  subst e1; subst e2
  cases lo' with
  | none => have e3 := fln rfl; subst e3; simp
  | some u => simp [fl u rfl]
 | some uh =>
  cases mx' with
  | none =>
   have e1 := fmn rfl
   subst e1
   cases lo' with
   | none => have e3 := fln rfl; subst e3; simp [fh uh rfl]
   | some u => simp [fl u rfl, fh uh rfl]
  | some um =>
   cases lo' with
   | none => have e3 := fln rfl; subst e3; simp [fh uh rfl, fm um rfl]
   | some u => simp [fl u rfl, fh uh rfl, fm um rfl]
theorem extract_bytes (l : List UInt8) (k h : Nat) : (ByteArray.mk l.toArray).extract k h = ⟨((l.drop k).take (h - k)).toArray⟩ := by
 apply ByteArray.ext
 simp
theorem boundA_le {x : Option AV} {d top k : Nat} (h : boundA x d top = some k) (hd : d ≤ top) : k ≤ top := by
 cases x with
 | none => simp [boundA] at h; omega
 | some v =>
  cases v <;> simp only [boundA] at h <;> try (simp at h; done)
  split at h
  ·simp at h; omega
  ·simp at h
theorem sliceA_run {t : TypeId} {x v : AV} {x' : Value} {lo hi mx : Option AV} {lo' hi' mx' : Option Value} (hr : Rel base ρ s.look w) (h : sliceA P s t x lo hi mx = some v) (hx : conv ρ x = some x')
  (hlo : OptRel ρ lo lo') (hhi : OptRel ρ hi hi') (hmx : OptRel ρ mx mx') (hno : ¬ (mx.isSome = true ∧ hi.isNone = true)) :
  ∃ u, (Instr.sliceAt t x' lo' hi' mx').run P w = .ok u w ∧ conv ρ v = some u := by
 unfold sliceA at h
 split at h
 ·
  rename_i l hu
  simp [conv] at hx; subst hx
  split at h
  ·simp at h
  ·have hmn : mx' = none := by cases mx' with | none => rfl | some u => exact hmx.elim
   subst hmn
   split at h
   ·rename_i hh hhe
    split at h
    ·rename_i k hke
     simp at h; subst h
     refine ⟨.string ((ByteArray.mk l.toArray).extract k hh), ?_, by rw [extract_bytes]; rfl⟩
     have hb := sliceBounds_run (P := P) (isSlice := false) (len := l.length) (cap := l.length) (m := l.length) hlo hhi hmx rfl hhe (Nat.le_refl _) hke (by simp) w
     have hsz : (ByteArray.mk l.toArray).size = l.length := by show l.toArray.size = _; simp
     unfold Instr.sliceAt
     simp only [Sem.run_bind, run_underlying hu, Result.andThen_ok]
     unfold Instr.slice
     simp only [Sem.run_bind, run_underlying hu, Result.andThen_ok, Option.isSome_none, Bool.false_eq_true, if_false, hsz, hb]
     rfl
    ·simp at h
   ·simp at h
 ·
  rename_i e hu
  simp [conv] at hx; subst hx
  split at h
  ·rename_i z m hh k hz h1 h2 h3
   simp at h; subst h
   have k1 := boundA_le h1 (Nat.le_refl _)
   have k2 := boundA_le h2 (Nat.le_refl _)
   have k3 := boundA_le h3 (Nat.le_refl _)
   have : m = 0 := by omega
   subst this
   have : hh = 0 := by omega
   subst this
   have : k = 0 := by omega
   subst this
   have hb := sliceBounds_run (P := P) (isSlice := true) (len := 0) (cap := 0) hlo hhi hmx h1 h2 (Nat.le_refl _) h3 hno w
   refine ⟨.slice none 0 0, ?_, rfl⟩
   unfold Instr.sliceAt
   simp only [Sem.run_bind, run_underlying hu, Result.andThen_ok]
   unfold Instr.slice
   simp only [Sem.run_bind, run_underlying hu, Result.andThen_ok, hb, sizeT_run hz]
   rfl
  ·simp at h
 ·
  rename_i e b o len cap hu
  split at h
  ·rename_i z hz hop
   split at h
   ·rename_i m hm
    split at h
    ·rename_i hh hhe
     split at h
     ·rename_i k hke
      simp at h; subst h
      have hm' := boundA_le hm (Nat.le_refl _)
      unfold isOpen at hop
      split at hop
      ·rename_i cs e' op own sp f zz hg
       simp at hop; subst hop
       have hl := hr.obj b _ (St.look_of_get hg (by simp))
       obtain ⟨B, δ, ex, c, tt, fz, h1, h2, h3, h4, h5, h6, h7⟩ := hl
       have := h6 rfl
       subst this
       simp only [conv, h1] at hx
       simp at hx; subst hx
       have hb := sliceBounds_run (P := P) (isSlice := true) hlo hhi hmx hm hhe (Nat.le_refl _) hke hno w
       refine ⟨.slice (some (if m = k then ⟨B, δ + o, none⟩ else ⟨B, δ + o + k * z, none⟩)) (hh - k) (m - k), ?_, ?_⟩
       ·unfold Instr.sliceAt
        simp only [Sem.run_bind, run_underlying hu, Result.andThen_ok]
        unfold Instr.slice
        simp only [Sem.run_bind, run_underlying hu, Result.andThen_ok, hb, sizeT_run hz, Sem.run_pure, Option.map_some, addr_add]
        congr 2
        split <;> rfl
       ·simp only [conv, h1]
        split <;> simp [Nat.add_assoc]
      ·simp at hop
     ·simp at h
    ·simp at h
   ·simp at h
  ·rename_i z hz hop
   split at h
   ·simp at h
   ·have hmn : mx' = none := by cases mx' with | none => rfl | some u => exact hmx.elim
    subst hmn
    split at h
    ·rename_i hh hhe
     split at h
     ·rename_i k hke
      split at h
      ·rename_i hcond
       obtain ⟨c2, c3, c4, c1⟩ := hcond
       simp at h; subst h
       unfold isOpen at hop
       split at hop
       ·rename_i cs e' op own sp f zz hg
        simp at hop; subst hop
        have hzz : zz = z := by simp [zOf, hg] at c3; exact c3
        subst hzz
        have hl := hr.obj b _ (St.look_of_get hg (by simp))
        obtain ⟨B, δ, ex, c, tt, fz, h1, h2, h3, h4, h5, h6, h7⟩ := hl
        obtain ⟨_, _, kk, g1, g2, g3⟩ := h5 rfl
        subst g1
        simp only [conv, h1] at hx
        split at hx
        ·rename_i hle
         simp at hx; subst hx
         have hkc : k ≤ cap := by omega
         have hhl0 : len = 0 → hh = 0 := fun e => by
          subst e
          cases hi with
          | none => simp [boundA] at hhe; omega
          | some v => cases v <;> simp [boundA] at hhe; omega
         have hb := sliceBounds_run (P := P) (isSlice := true) (cap := kk - o / zz) (m := kk - o / zz) hlo hhi hmx rfl hhe (by omega) hke (by simp) w
         have hkh : k ≤ hh := boundA_le hke (Nat.zero_le _)
         refine ⟨.slice (some (if kk - o / zz = k then ⟨B, δ + (if len = 0 ∧ o / zz = kk then 0 else o), none⟩ else ⟨B, δ + (if len = 0 ∧ o / zz = kk then 0 else o) + k * zz, none⟩)) (hh - k) (kk - o / zz - k), ?_, ?_⟩
         ·unfold Instr.sliceAt
          simp only [Sem.run_bind, run_underlying hu, Result.andThen_ok]
          unfold Instr.slice
          simp only [Sem.run_bind, run_underlying hu, Result.andThen_ok, hb, sizeT_run hz, Sem.run_pure, Option.map_some, addr_add]
          congr 2
          split <;> rfl
         ·simp only [conv, h1]
          rw [Nat.add_mul_div_right _ _ c4, if_pos (by omega)]
          have hmin : hh ≤ cap := c2
          rcases c1 with ⟨k1, k2⟩ | ⟨k0, k1, k2⟩ | ⟨k0, k1⟩
          ·rw [if_neg (show ¬ (hh - k = 0 ∧ o / zz + k = kk) by omega), if_neg (show ¬ (len = 0 ∧ o / zz = kk) by omega), if_neg (show ¬ kk - o / zz = k by omega)]
           simp only [Nat.add_assoc, Option.some.injEq, Value.slice.injEq, true_and]
           omega
          ·subst k0
           have e0 : 0 / zz = 0 := Nat.zero_div zz
           simp only [e0, Nat.zero_add, Nat.sub_zero, ite_self, Nat.add_zero] at *
           by_cases e : kk = k
           ·rw [if_pos (show hh - k = 0 ∧ k = kk by omega), if_pos e]
            simp only [Option.some.injEq, Value.slice.injEq, true_and, Nat.add_zero]
           ·rw [if_neg (show ¬ (hh - k = 0 ∧ k = kk) by omega), if_neg e]
          ·subst k0
           simp only [Nat.zero_mul, Nat.add_zero, Nat.sub_zero, ite_self]
           by_cases e : len = 0 ∧ o / zz = kk
           ·rw [if_pos e, if_pos (show hh = 0 ∧ o / zz = kk from ⟨hhl0 e.1, e.2⟩)]
           ·rw [if_neg e, if_neg (show ¬ (hh = 0 ∧ o / zz = kk) from fun q => by
             rcases k1 with k1 | k1
             ·exact e ⟨k1, q.2⟩
             ·omega)]
        ·simp at hx
       ·simp at hop
      ·simp at h
     ·simp at h
    ·simp at h
  ·simp at h
 ·
  rename_i n e b o hu
  split at h
  ·rename_i z hz hop
   split at h
   ·rename_i m hm
    split at h
    ·rename_i hh hhe
     split at h
     ·rename_i k hke
      simp at h; subst h
      unfold isOpen at hop
      split at hop
      ·rename_i cs e' op own sp f zz hg
       simp at hop; subst hop
       have hl := hr.obj b _ (St.look_of_get hg (by simp))
       obtain ⟨B, δ, ex, c, tt, fz, h1, h2, h3, h4, h5, h6, h7⟩ := hl
       have := h6 rfl
       subst this
       simp only [conv, h1] at hx
       simp at hx; subst hx
       have hb := sliceBounds_run (P := P) (isSlice := false) hlo hhi hmx hm hhe (Nat.le_refl _) hke hno w
       refine ⟨.slice (some (if m = k then ⟨B, δ + o, none⟩ else ⟨B, δ + o + k * z, none⟩)) (hh - k) (m - k), ?_, ?_⟩
       ·unfold Instr.sliceAt
        simp only [Sem.run_bind, run_underlying hu, Result.andThen_ok, Instr.sureAddr, Sem.run_pure, hb, sizeT_run hz, addr_add]
       ·simp only [conv, h1]
        split <;> simp [Nat.add_assoc]
      ·simp at hop
     ·simp at h
    ·simp at h
   ·simp at h
  ·simp at h
 ·simp at h
end Go.Vm
