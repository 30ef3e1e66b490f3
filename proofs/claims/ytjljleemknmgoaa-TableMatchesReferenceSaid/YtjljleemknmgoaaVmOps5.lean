/-
 Part of the proof that a machine over named lists stands for the program's runs (VmOps5). No conditions beyond those that its theorems name.
-/
import Derived.Test.YtjljleemknmgoaaVmOps4
namespace Go.Vm
set_option linter.unusedSectionVars false
variable [Facts] [Val] [Sound]
variable {P : Program} {base : Nat} {ρ : Rho} {s : St} {w : World}
theorem bytes_conv (ρ : Rho) : ∀ l : List UInt8, convs ρ (l.map fun b => AV.int .u8 b.toNat) = some (l.map fun b => Value.int .u8 b.toNat)
 | [] => rfl
 | _ :: l => convs_cons.2 ⟨_, _, rfl, bytes_conv ρ l, rfl⟩
theorem givenA_run {z : Nat} {y : AV} {y' : Value} {n : Nat} {news : List AV} (hr : Rel base ρ s.look w) (h : givenA s z y = some (n, news)) (hy : conv ρ y = some y') :
  (Builtin.lenOf y').run P w = .ok n w ∧ news.length = n * z ∧ ∃ us, convs ρ news = some us ∧ ∀ m, m ≤ n → (Builtin.firstCells z m y').run P w = .ok (us.take (m * z)).toArray w := by
 unfold givenA at h
 split at h
 ·simp at h; obtain ⟨rfl, rfl⟩ := h
  simp [conv] at hy; subst hy
  exact ⟨rfl, by simp, [], rfl, fun m _ => by simp [Builtin.firstCells]⟩
 ·simp at h; obtain ⟨rfl, rfl⟩ := h
  simp [conv] at hy; subst hy
  refine ⟨rfl, by simp, [], rfl, fun m hm => ?_⟩
  have : m = 0 := by omega
  subst this
  simp [Builtin.firstCells, loadCells, loadCellsFrom]
 ·rename_i b o len cap
  split at h
  ·rename_i cs e op own sp f zz hg
   split at h
   ·rename_i hle
    simp at h; obtain ⟨rfl, rfl⟩ := h
    have hl := hr.obj b _ (St.look_of_get hg (by simp))
    obtain ⟨B, δ, ex, hb⟩ : ∃ B δ ex, ρ b = some (B, δ, ex) := by
     obtain ⟨B, δ, x, c, t, fz, h1, _⟩ := hl; exact ⟨B, δ, x, h1⟩
    obtain ⟨us, e1, e2⟩ := row_cells hl hb o (len * z)
    have hlen : us.length = len * z := by rw [convs_length e1]; simp; omega
    have key : ∀ c off, (len ≠ 0 → off = o) → (Builtin.lenOf (.slice (some ⟨B, δ + off, none⟩) len c)).run P w = .ok len w ∧ ((cs.drop o).take (len * z)).length = len * z ∧ ∃ us, convs ρ ((cs.drop o).take (len * z)) = some us ∧ ∀ m, m ≤ len → (Builtin.firstCells z m (.slice (some ⟨B, δ + off, none⟩) len c)).run P w = .ok (us.take (m * z)).toArray w := by
     intro c off hoff
     refine ⟨rfl, by simp; omega, us, e1, fun m hm => ?_⟩
     simp only [Builtin.firstCells]
     refine loadCells_run (fun j u hj => ?_) ?_
     ·rw [List.getElem?_take] at hj
      split at hj
      ·rename_i hjm
       rw [hoff (fun e => by have : m = 0 := by omega
                             subst this; rw [Nat.zero_mul] at hjm; omega)]
       exact e2 j u hj
      ·cases hj
     ·have := Nat.mul_le_mul_right z hm
      simp; omega
    simp only [conv, hb] at hy
    cases ex with
    | none => simp at hy; subst hy; exact key _ _ (fun _ => rfl)
    | some zk =>
     obtain ⟨z0, kk⟩ := zk
     simp only at hy
     split at hy
     ·simp at hy; subst hy; exact key _ _ (fun hl => if_neg (fun h => hl h.1))
     ·simp at hy
   ·simp at h
  ·simp at h
 ·rename_i l
  split at h
  ·rename_i hz
   subst hz
   simp at h; obtain ⟨rfl, rfl⟩ := h
   simp [conv] at hy; subst hy
   refine ⟨?_, by simp, _, bytes_conv ρ l, fun m hm => ?_⟩
   ·have : (ByteArray.mk l.toArray).size = l.length := by show l.toArray.size = _; simp
    simp [Builtin.lenOf, this]
   ·simp only [Builtin.firstCells, Sem.run_pure]
    congr 1
    apply Array.ext'
    rw [extract_bytes]
    simp
  ·simp at h
 ·simp at h
theorem growBy_le : ∀ (r need c : Nat), c ≤ 2 * need + 192 → Builtin.growBy need r c ≤ 2 * need + 192
 | 0, _, _, h => h
 | r + 1, need, c, h => by
  simp only [Builtin.growBy]
  split
  ·exact h
  ·exact growBy_le r need _ (by omega)
theorem nextslicecap_le {need cap : Nat} (h : cap < need) : Builtin.nextslicecap need cap ≤ 3 * need := by
 unfold Builtin.nextslicecap
 split
 ·omega
 ·split
  ·omega
  ·have := growBy_le 4 need cap (by omega)
   omega
theorem append_room {t t' e : TypeId} {d' : TypeDesc} {i : TypeInfo} {ty : TypeId} {a : Option Addr} {len cap n : Nat} {y' : Value} {us : List Value} {w' : World}
  (ht : P.underlying t = some (.slice e)) (ht' : P.underlying t' = some d') (hd : ∀ k, d' ≠ .int k) (hi : P.info? e = some i)
  (h1 : (Builtin.lenOf y').run P w = .ok n w) (h2 : (Builtin.firstCells i.size n y').run P w = .ok us.toArray w) (hroom : len + n ≤ cap)
  (hst : (match a with | some a => storeCells (a.add (len * i.size)) us | none => pure ()).run P w = .ok () w') :
  (Builtin.append_ #[t, t'] ty #[.slice a len cap, y']).run P w = .ok (.slice a (len + n) cap) w' := by
 have hsz : ∀ w, (sizeOf e).run P w = .ok i.size w := fun w => by simp [sizeOf, typeInfo, hi]
 unfold Builtin.append_
 simp only [List.getElem?_toArray, List.getElem?_cons_zero, List.getElem?_cons_succ, Sem.run_bind, run_underlying ht, run_underlying ht', Result.andThen_ok, Sem.run_pure, hsz]
 have hz : (match d' with | .int _ => true | _ => false) = false := by cases d' <;> first | rfl | exact absurd rfl (hd _)
 simp only [Bool.false_eq_true, if_false, Sem.run_bind, h1, Result.andThen_ok, hroom, if_true, Bool.not_false, h2]
 cases a with
 | none => simp at hst; subst hst; rfl
 | some a => simp only [Sem.run_bind] at hst ⊢; rw [hst]; rfl
theorem append_grow {t t' e : TypeId} {d' : TypeDesc} {i : TypeInfo} {ty : TypeId} {a : Option Addr} {len cap n : Nat} {y' : Value} {us old : List Value}
  (ht : P.underlying t = some (.slice e)) (ht' : P.underlying t' = some d') (hd : ∀ k, d' ≠ .int k) (hi : P.info? e = some i) (hzero : ∃ z, i.zero = some z)
  (h1 : (Builtin.lenOf y').run P w = .ok n w) (h2 : (Builtin.firstCells i.size n y').run P w.drew = .ok us.toArray w.drew) (hroom : ¬ len + n ≤ cap)
  (hold : (Builtin.firstCells i.size len (.slice a len cap)).run P w.drew = .ok old.toArray w.drew)
  (hb1 : len + n ≤ 4611686018427387904) (hb2 : (len + n) * i.bytes ≤ 140737488355328) :
  ∃ (newCap : Nat) (rest : List Value), len + n ≤ newCap ∧ rest.length = (newCap - (len + n)) * (i.zero.getD undef).cells.size ∧
   (Builtin.append_ #[t, t'] ty #[.slice a len cap, y']).run P w = .ok (.slice (some ⟨w.heap.size, 0, none⟩) (len + n) newCap) (w.drew.alloc (.cells (old ++ us ++ rest).toArray e)) := by
 obtain ⟨z, hz0⟩ := hzero
 have hsz : ∀ w, (sizeOf e).run P w = .ok i.size w := fun w => by simp [sizeOf, typeInfo, hi]
 have hti : ∀ w, (typeInfo e).run P w = .ok i w := fun w => by simp [typeInfo, hi]
 have hzv : ∀ w, (zeroValue e).run P w = .ok z w := fun w => by simp [zeroValue, typeInfo, hi, hz0]
 refine ⟨Question.cut (.appendCap (len + n) cap e) (w.tape w.drawn (.appendCap (len + n) cap e)), (Builtin.zeroCells z.cells (Question.cut (.appendCap (len + n) cap e) (w.tape w.drawn (.appendCap (len + n) cap e)) - (len + n))).toList, ?_, ?_, ?_⟩
 ·simp only [Question.cut]; omega
 ·simp [Builtin.zeroCells, hz0]
 ·unfold Builtin.append_
  simp only [List.getElem?_toArray, List.getElem?_cons_zero, List.getElem?_cons_succ, Sem.run_bind, run_underlying ht, run_underlying ht', Result.andThen_ok, Sem.run_pure, hsz]
  have hz : (match d' with | .int _ => true | _ => false) = false := by cases d' <;> first | rfl | exact absurd rfl (hd _)
  have hm : ¬ (((len + n : Nat) : Int) > IntKind.i64.max ∧ ((false : Bool) = true ∨ i.bytes = 0)) := by
   have : IntKind.i64.max = 9223372036854775807 := by decide
   rw [this]; omega
  have hc : ¬ (Builtin.nextslicecap (len + n) cap * i.bytes > 2 ^ 48) := by
   have h3 := growslice_fits (need := len + n) (old := cap) (bytes := i.bytes) (by omega) hb2
   omega
  have hfo : (Question.appendCap (len + n) cap e).forced = false := rfl
  simp only [Bool.false_eq_true, if_false, Sem.run_bind, h1, Result.andThen_ok, hroom, Bool.not_false, hti, false_or] at hm ⊢
  simp only [hm, if_false, hti, hc, run_choose, hfo, Bool.false_eq_true, World.drew_eq, Result.andThen_ok, run_askRoom, hold, h2, hzv, Go.newRow, run_newObj, Sem.run_bind, Sem.run_pure, if_true]
  congr 1
  simp only [World.drew, World.alloc]
  congr 1
  congr 1
  congr 1
  apply Array.ext'
  simp
end Go.Vm
