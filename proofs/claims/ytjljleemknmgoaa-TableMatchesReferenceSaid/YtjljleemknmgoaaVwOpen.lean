/-
 Part of the proof that a machine over named lists stands for the program's runs (VwOpen). No conditions beyond those that its theorems name.
-/
import Derived.Test.YtjljleemknmgoaaVwTop
import Derived.ChangeSlices
import Derived.WideShapes
namespace Go.Vm2
open Go Go.Vm Go.ChangeShapes Go.WideShapes
set_option linter.unusedVariables false
set_option linter.unusedSectionVars false
variable {P : Program}
theorem rowAt_le {fits : TypeId → Bool} {d : Nat} {e : TypeId} {count off n : Nat} (h : rowAt P fits d e count off n = true) : off ≤ count * P.cellsOf e := by
 cases d with
 | zero => simp [rowAt] at h
 | succ d =>
  unfold rowAt at h
  simp only [] at h
  split at h
  ·cases h
  ·rename_i hs
   have e1 := Nat.div_add_mod off (P.cellsOf e)
   have e2 := Nat.mod_lt off (Nat.pos_of_ne_zero hs)
   rw [Bool.or_eq_true] at h
   rcases h with h | h
   ·simp only [Bool.and_eq_true, beq_iff_eq, decide_eq_true_eq] at h
    obtain ⟨⟨h1, h2⟩, h3⟩ := h
    have : P.cellsOf e * (off / P.cellsOf e) ≤ P.cellsOf e * count := Nat.mul_le_mul_left _ (by omega)
    rw [Nat.mul_comm count]
    omega
   ·simp only [Bool.and_eq_true, decide_eq_true_eq] at h
    have h1 := h.1
    have : P.cellsOf e * (off / P.cellsOf e + 1) ≤ P.cellsOf e * count := Nat.mul_le_mul_left _ (by omega)
    rw [Nat.mul_add, Nat.mul_one] at this
    rw [Nat.mul_comm count]
    omega
theorem liesAt_le : ∀ {d : Nat} {e : TypeId} {count off : Nat} {u : TypeId} {n : Nat}, liesAt P d e count off u n = true → off ≤ count * P.cellsOf e
 | 0, _, _, _, _, _, h => by simp [liesAt] at h
 | d + 1, e, count, off, u, n, h => by
  unfold liesAt at h
  rw [Bool.or_eq_true] at h
  rcases h with h | h
  ·exact rowAt_le h
  ·split at h
   ·exact liesAt_le h
   ·cases h
theorem has_lies {w : World} {r : Reach} {base : Nat} {a : Addr} {e : TypeId} {n : Nat} (h : w.has P r base a e n) : a.spot = none ∧ ∃ c t fz, w.heap[a.block]? = some (.cells c t fz) ∧ a.off ≤ c.size := by
 obtain ⟨_, h1, row, cells, h2, h3⟩ := h
 refine ⟨h1, ?_⟩
 unfold World.shape? at h2
 split at h2
 ·rename_i c t fz hb
  simp only [Option.some.injEq, Prod.mk.injEq] at h2
  obtain ⟨rfl, rfl⟩ := h2
  refine ⟨c, t, fz, hb, Nat.le_trans (liesAt_le h3) (Nat.div_mul_le_self _ _)⟩
 ·cases h2
theorem ints_src {w : World} {r : Reach} {base : Nat} {a : Addr} {e : TypeId} {len cap : Nat} {k : IntKind} {zs : List Int} (h : w.has P r base a e cap) (hl : len ≤ cap) (hz : zs.length = cap)
  (hcell : ∀ i, i < zs.length → w.cell? (a.add i) = some (.int k (zs.getD i 0))) : a = ⟨a.block, a.off, none⟩ ∧ Src.lies ⟨some (a.block, a.off), [.int k], .ints (zs.take len)⟩ w := by
 obtain ⟨b, off, spot⟩ := a
 obtain ⟨rfl, c, t, fz, hb, hoff⟩ := has_lies h
 refine ⟨rfl, ⟨k, rfl⟩, c, t, fz, hb, ?_, ?_⟩
 ·have hb : w.heap[b]? = some (.cells c t fz) := hb
  show off + (zs.take len).length * 1 ≤ c.size
  rw [List.length_take, Nat.min_eq_left (by omega), Nat.mul_one]
  rcases Nat.eq_zero_or_pos len with h0 | h0
  ·subst h0; exact hoff
  ·have := hcell (len - 1) (by omega)
   rw [add_plain] at this
   unfold World.cell? at this
   rw [hb] at this
   simp only [Option.isSome_none, Bool.false_eq_true, if_false] at this
   have := (Array.getElem?_eq_some_iff.1 this).1
   omega
 ·intro i ck d hi
  have hb : w.heap[b]? = some (.cells c t fz) := hb
  simp only [AC.avs, List.getElem?_map] at hi
  rcases hx : (zs.take len)[i]? with _ | x
  ·rw [hx] at hi; cases hi
  ·rw [hx] at hi
   simp only [Option.map_some, Option.some.injEq] at hi
   have hil : i < (zs.take len).length := (List.getElem?_eq_some_iff.1 hx).1
   rw [List.length_take] at hil
   have := hcell i (by omega)
   rw [add_plain] at this
   unfold World.cell? at this
   rw [hb] at this
   simp only [Option.isSome_none, Bool.false_eq_true, if_false] at this
   show c[off + i]? = _
   rw [this]
   have e1 : zs.getD i 0 = x := by
    rw [List.getElem?_take_of_lt (by omega)] at hx
    rw [List.getD_eq_getElem?_getD, hx]; rfl
   rw [e1]
   cases ck with
   | int k' =>
    simp only [CK.av, AV.int.injEq] at hi
    obtain ⟨rfl, h2⟩ := hi
    exact congrArg (fun z => some (Value.int k z)) h2
   | bool => simp [CK.av] at hi
   | str => simp [CK.av] at hi
   | nils => simp [CK.av] at hi
   | list e => simp [CK.av] at hi
def Src.av (j cap : Nat) (s : Src) : AV := match s.at_ with
 | none => .nils
 | some _ => .slc j 0 s.ac.len cap
def Src.val (cap : Nat) (s : Src) : Value := match s.at_ with
 | none => .slice none 0 0
 | some (B, o) => .slice (some ⟨B, o, none⟩) s.ac.len cap
theorem src_cv {sl : List Src} {j cap : Nat} {s : Src} (hj : sl[j]? = some s) (z : Nat) (hcap : s.ac.len ≤ cap) (hn : s.at_ = none → s.ac.len = 0) : Cv sl.length (nuOf sl) (.slc j z 0 s.ac.len) (s.av j cap) := by
 simp only [Cv]
 refine ⟨(List.getElem?_eq_some_iff.1 hj).1, ?_⟩
 cases hat : s.at_ with
 | none => exact .inl ⟨by simp only [nuOf_f, hj, hat], hn hat, by simp only [Src.av, hat]⟩
 | some q => exact .inr ⟨j, 0, cap, 0, by simp only [nuOf_f, hj, hat], hcap, Nat.le_refl _, .inl rfl, by simp only [Src.av, hat, Nat.zero_mul, Nat.add_zero]⟩
theorem src_conv [Val] {sl : List Src} {j cap : Nat} {s : Src} (hj : sl[j]? = some s) : conv (rhoOf sl) (s.av j cap) = some (s.val cap) := by
 cases hat : s.at_ with
 | none => simp only [Src.av, Src.val, hat, conv]
 | some q =>
  obtain ⟨B, o⟩ := q
  simp only [Src.av, Src.val, hat, conv, rhoOf, hj, Nat.add_zero]
theorem open_list {H : Type} {enc : TypeId × Value → H} {w : World} {base : Nat} {held : Bool} {r : Reach} {t e : TypeId} {k : IntKind} {v : Value} {d : DataW H} {p : List MemPlace} (ht : P.underlying t = some (.slice e)) (he : P.underlying e = some (.int k)) (hc : P.cellsOf e = 1)
  (hval : Value.okWide P w r base t v) (h : DataW.Trod enc P w 0 (fun _ => true) held t v d p) :
  ∃ (s : Src) (l : List Int) (cap : Nat), s.ks = [.int k] ∧ s.ac = .ints l ∧ s.lies w ∧ (s.at_ = none → l.length = 0) ∧ l.length ≤ cap ∧ v = s.val cap ∧ l.length ≤ maxLen ∧ ∀ n ∈ l, (Lit.int k n).wf = true := by
 obtain ⟨ao, len, cap, rfl⟩ := okWide_slice ht hval
 obtain ⟨fuel, h⟩ := h
 rcases open_ints ht he hc h with ⟨h1, _⟩ | ⟨a, len', cap', zs, h1, _, h3, h4, h5, _, h7, h8⟩
 ·have h1 : [Value.slice ao len cap] = [.slice none 0 0] := h1
  simp only [List.cons.injEq, Value.slice.injEq, and_true] at h1
  obtain ⟨rfl, rfl, rfl⟩ := h1
  exact ⟨⟨none, [.int k], .ints []⟩, [], 0, rfl, rfl, ⟨⟨k, rfl⟩, rfl⟩, fun _ => rfl, Nat.le_refl _, rfl, Nat.zero_le _, fun n hn => (List.not_mem_nil hn).elim⟩
 ·have h1 : [Value.slice ao len cap] = [.slice (some a) len' cap'] := h1
  simp only [List.cons.injEq, Value.slice.injEq, and_true] at h1
  obtain ⟨rfl, rfl, rfl⟩ := h1
  have hh : w.has P r base a e cap := by
   simp only [Value.okWide, ht, Cell.okWide, Cell.ok] at hval
   exact hval.2.2
  have h5 : zs.length = cap := h5
  obtain ⟨h6, h9⟩ := ints_src hh h3 h5 h7
  have hlen : (zs.take len).length = len := by rw [List.length_take]; omega
  refine ⟨_, zs.take len, cap, rfl, rfl, h9, (fun h => by cases h), by omega, ?_, by omega, fun n hn => h8 n (List.mem_of_mem_take hn)⟩
  show Value.slice (some a) len cap = Value.slice (some ⟨a.block, a.off, none⟩) (zs.take len).length cap
  rw [← h6, hlen]
end Go.Vm2
