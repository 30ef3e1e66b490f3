/-
 Part of the proof that a machine over named lists stands for the program's runs (VmOps2). No conditions beyond those that its theorems name.
-/
import Derived.Test.YtjljleemknmgoaaVmOps
namespace Go.Vm
set_option linter.unusedSectionVars false
variable [Facts] [Val] [Sound]
variable {P : Program} {base : Nat} {ρ : Rho} {s : St} {w : World}
theorem storeA_run {s' : St} {t : TypeId} {a v : AV} {x y : Value} (hf : Fresh s.n ρ) (hk : s.ok) (hr : Rel base ρ s.look w) (h : storeA P s t a v = some s') (hx : conv ρ a = some x) (hy : conv ρ v = some y) :
  ∃ w', (Instr.storeAt t x y).run P w = .ok () w' ∧ ∀ q u, conv ρ q = some u → Out base ρ s w q s' u w' := by
 unfold storeA at h
 split at h
 ·rename_i b o
  split at h
  ·rename_i n hn
   split at h
   ·rename_i hl
    simp only [conv] at hx
    cases hb : ρ b with
    | none => rw [hb] at hx; simp at hx
    | some p =>
     obtain ⟨B, δ, e⟩ := p
     rw [hb] at hx; simp at hx; subst hx
     have hc := conv_cells hy
     obtain ⟨w', h1, h2⟩ := writeA_run (P := P) hf hk hr h hc hb
     refine ⟨w', ?_, h2⟩
     have hs : y.cells.size = n := by have := convs_length hc; simp at this; omega
     simp only [Instr.storeAt, Instr.sureAddr, Sem.run_bind, Sem.run_pure, Result.andThen_ok, storeVar, sizeT_run hn, hs, ne_eq, not_true_eq_false, if_false]
     exact h1
   ·simp at h
  ·simp at h
 ·simp at h
theorem held_new {ρ' : Rho} {n : Nat} {cs : List AV} {us rest : List Value} {e : TypeId} {op : Bool} {f z : Nat} {ext : Option (Nat × Nat)} (hb : ρ' n = some (w.heap.size, 0, ext)) (hbase : base ≤ w.heap.size) (hu : convs ρ' cs = some us)
  (ho : op = true → 0 < z ∧ ∃ k, ext = some (z, k) ∧ k * z ≤ (us ++ rest).length ∧ cs.length ≤ k * z) (hc : op = false → ext = none) :
  Held base ρ' n (.row cs e op true false f z) (w.alloc (.cells (us ++ rest).toArray e)) := by
 have hl := convs_length hu
 refine ⟨w.heap.size, 0, ext, (us ++ rest).toArray, e, (0, 0), hb, by simp only [World.alloc, Array.getElem?_push_size], fun i v hi => ?_, fun _ => ⟨hbase, rfl⟩, fun h => ?_, hc, by simp; omega⟩
 ·obtain ⟨u, h1, h2⟩ := convs_get hu i v hi
  refine ⟨u, h1, ?_⟩
  have hlt := (List.getElem?_eq_some_iff.1 h2).1
  rw [Nat.zero_add, List.getElem?_toArray, List.getElem?_append_left hlt]
  exact h2
 ·obtain ⟨h1, k, h2, h3, h4⟩ := ho h
  exact ⟨rfl, h1, k, h2, by rw [Nat.zero_add, List.size_toArray]; exact h3, h4⟩
theorem newRow_run {cs : List AV} {us : List Value} {e : TypeId} {z : Nat} (hf : Fresh s.n ρ) (hk : s.ok) (hr : Rel base ρ s.look w) (hu : convs ρ cs = some us) {v : AV} {u : Value}
  (hv : ∀ ρ' : Rho, ρ' s.n = some (w.heap.size, 0, none) → conv ρ' v = some u) : Out base ρ s w v (newRow s cs e false z) u (w.alloc (.cells us.toArray e)) := by
 have hu' := convs_mono (Rho.with_le (w.heap.size, 0, none) hf) _ _ hu
 have := held_new (w := w) (base := base) (rest := []) (e := e) (op := false) (f := s.n) (z := z) (Rho.with_self ρ s.n (w.heap.size, 0, none)) hr.base_le hu' (fun h => by cases h) (fun _ => rfl)
 rw [List.append_nil] at this
 exact out_push_own hf hk hr (by simp) rfl this (hv _ (Rho.with_self ρ s.n _))
theorem boxA_run {e : TypeId} {v r : AV} {os : Option St} {y : Value} (hf : Fresh s.n ρ) (hk : s.ok) (hr : Rel base ρ s.look w) (h : boxA s e v = some (r, os)) (hy : conv ρ v = some y) :
  ∃ u w', (do pure (.pointer (some (← newVar e y))) : Sem Value).run P w = .ok u w' ∧ Out base ρ s w r (os.getD s) u w' := by
 unfold boxA at h
 split at h
 ·simp at h; obtain ⟨rfl, rfl⟩ := h
  refine ⟨.pointer (some ⟨w.heap.size, 0, none⟩), w.alloc (.cells y.cells e), by simp [newVar, Go.newRow], ?_⟩
  have := newRow_run (e := e) (z := 0) hf hk hr (conv_cells hy) (v := .ptr s.n 0) (u := .pointer (some ⟨w.heap.size, 0, none⟩)) (fun ρ' h => by simp [conv, h])
  simpa using this
 ·simp at h
theorem rep_conv {cs : List AV} {l : List Value} (h : convs ρ cs = some l) : ∀ n, convs ρ (rep cs n) = some (List.replicate n l).flatten
 | 0 => rfl
 | n + 1 => by
  simp only [rep, List.replicate_succ, List.flatten_cons]
  exact convs_append h (rep_conv h n)
theorem zeros_eq (z : Array Value) (n : Nat) : ((Array.range (n * z.size)).map (fun i => z[i % z.size]!)).toList = (List.replicate n z.toList).flatten := by
 apply List.ext_getElem?
 intro i
 simp only [Array.toList_map, Array.toList_range, List.getElem?_map]
 by_cases hz : z.size = 0
 ·have : z.toList = [] := by simpa using hz
  simp [hz, this]
 ·have key : ∀ (n i : Nat), (List.replicate n z.toList).flatten[i]? = if i < n * z.size then z.toList[i % z.size]? else none := by
   intro n
   induction n with
   | zero => intro i; simp
   | succ n ih =>
    intro i
    simp only [List.replicate_succ, List.flatten_cons]
    by_cases h : i < z.size
    ·rw [List.getElem?_append_left (by simpa using h), if_pos (by rw [Nat.succ_mul]; omega), Nat.mod_eq_of_lt h]
    ·rw [List.getElem?_append_right (by simp; omega), ih]
     simp only [Array.length_toList, Nat.succ_mul]
     have e : i % z.size = (i - z.size) % z.size := by rw [Nat.mod_eq_sub_mod (by omega)]
     by_cases h2 : i - z.size < n * z.size
     ·rw [if_pos h2, if_pos (by omega), e]
     ·rw [if_neg h2, if_neg (by omega)]
  rw [key]
  by_cases h : i < n * z.size
  ·rw [List.getElem?_range h, if_pos h]
   have hm : i % z.size < z.size := Nat.mod_lt _ (by omega)
   simp [hm]
  ·rw [if_neg h, List.getElem?_eq_none (by simpa using h)]; rfl
theorem zerosA_run {e : TypeId} {n : Nat} {zs : List AV} (h : zerosA P e n = some zs) (w : World) : ∃ z, (zeroValue e).run P w = .ok z w ∧ convs ρ zs = some (List.replicate n z.cells.toList).flatten := by
 unfold zerosA at h
 split at h
 ·rename_i v hv
  simp at h; subst h
  obtain ⟨z, h1, h2⟩ := zeroOf_run (ρ := ρ) hv w
  exact ⟨z, h1, rep_conv (conv_cells h2) n⟩
 ·simp at h
theorem map_range0 (f : Nat → Value) : Array.map f (Array.range 0) = #[] := by apply Array.ext'; simp
theorem makeSliceA_run {t : TypeId} {l c r : AV} {os : Option St} {x y : Value} (hf : Fresh s.n ρ) (hk : s.ok) (hr : Rel base ρ s.look w) (h : makeSliceA P s t l c = some (r, os)) (hx : conv ρ l = some x) (hy : conv ρ c = some y) :
  ∃ u w', (Instr.makeSlice t x y).run P w = .ok u w' ∧ Out base ρ s w r (os.getD s) u w' := by
 unfold makeSliceA at h
 split at h
 ·rename_i e k1 l k2 c hu
  split at h
  ·rename_i i zs hi hzs
   split at h
   ·rename_i hcond
    obtain ⟨h0, h1, h2, h3, h4, h5⟩ := hcond
    simp at h; obtain ⟨rfl, rfl⟩ := h
    simp [conv] at hx hy; subst hx; subst hy
    obtain ⟨z, g1, g2⟩ := zerosA_run (ρ := ρ) hzs w
    have wl : IntKind.i64.wrap l = l := by
     unfold IntKind.wrap; simp only [IntKind.bits, IntKind.signed]
     have : l % 2 ^ 64 = l := Int.emod_eq_of_lt h0 (by omega)
     simp only [this]; rw [if_neg]; simp; omega
    have wc : IntKind.i64.wrap c = c := by
     unfold IntKind.wrap; simp only [IntKind.bits, IntKind.signed]
     have : c % 2 ^ 64 = c := Int.emod_eq_of_lt (by omega) (by omega)
     simp only [this]; rw [if_neg]; simp; omega
    have hlen := convs_length g2
    have hti : (typeInfo e).run P w = .ok i w := by simp [typeInfo, hi]
    have hsz : (sizeOf e).run P w = .ok i.size w := by simp [sizeOf, typeInfo, hi]
    refine ⟨.slice (some ⟨w.heap.size, 0, none⟩) l.toNat c.toNat, w.alloc (.cells (List.replicate c.toNat z.cells.toList).flatten.toArray e), ?_, ?_⟩
    ·have big : ¬ ((i.bytes : Int) * c > 2 ^ 48) := by
      have : (i.bytes : Int) * c = ((i.bytes * c.toNat : Nat) : Int) := by
       rw [Int.natCast_mul, Int.toNat_of_nonneg (by omega)]
      rw [this]; omega
     have neg : (((decide (c < 0) || decide ((i.bytes : Int) * c > 2 ^ 48)) || decide (l < 0)) || decide (l > c)) = false := by
      simp only [Bool.or_eq_false_iff, decide_eq_false_iff_not]
      exact ⟨⟨⟨by omega, big⟩, by omega⟩, by omega⟩
     simp only [Instr.makeSlice, Sem.run_bind, run_underlying hu, Result.andThen_ok, asInt, asIntOf, Sem.run_pure, hti, wl, wc, neg, Bool.false_eq_true, if_false, run_askRoom, hsz]
     by_cases hz : c.toNat * i.size = 0
     ·simp only [hz, if_true, Sem.run_pure, Result.andThen_ok, Go.newRow, run_newObj, Sem.run_bind]
      have : (List.replicate c.toNat z.cells.toList).flatten = [] := by
       apply List.eq_nil_of_length_eq_zero; rw [hlen, h4]; exact hz
      rw [this, map_range0]
      rfl
     ·simp only [hz, if_false, Sem.run_bind, g1, Result.andThen_ok, Sem.run_pure, Go.newRow, run_newObj]
      have hzsz : z.cells.size = i.size := by
       rw [h4] at hlen
       simp only [List.length_flatten, List.map_replicate, List.sum_replicate_nat, Array.length_toList] at hlen
       have hcp : 0 < c.toNat := by rcases Nat.eq_zero_or_pos c.toNat with e | e; (rw [e] at hz; simp at hz); exact e
       exact Nat.eq_of_mul_eq_mul_left hcp hlen
      have := zeros_eq z.cells c.toNat
      rw [hzsz] at this
      have e2 : (Array.range (c.toNat * i.size)).map (fun j => z.cells[j % z.cells.size]!) = (List.replicate c.toNat z.cells.toList).flatten.toArray := by
       apply Array.ext'
       rw [hzsz, this]
      rw [e2]; rfl
    ·exact newRow_run hf hk hr g2 (fun ρ' h => by simp [conv, h])
   ·simp at h
  ·simp at h
 ·simp at h
theorem buildSliceA_run {t : TypeId} {len : Nat} {parts : List (Nat × AV)} {r : AV} {os : Option St} (hf : Fresh s.n ρ) (hk : s.ok) (hr : Rel base ρ s.look w) (h : buildSliceA P s t len parts = some (r, os))
  (ps : List (Nat × Value)) (hi : ps.map (·.1) = parts.map (·.1)) (hv : convs ρ (parts.map (·.2)) = some (ps.map (·.2))) :
  ∃ u w', (Instr.buildSlice t len ps.toArray).run P w = .ok u w' ∧ Out base ρ s w r (os.getD s) u w' := by
 unfold buildSliceA at h
 split at h
 ·rename_i e hu
  split at h
  ·rename_i n zs hn hzs
   split at h
   ·rename_i hcond
    obtain ⟨h1, h2⟩ := hcond
    split at h
    ·rename_i cs hcs
     split at h
     ·simp at h; obtain ⟨rfl, rfl⟩ := h
      obtain ⟨z, g1, g2⟩ := zerosA_run (ρ := ρ) hzs w
      obtain ⟨q, q1, q2⟩ := fill_run (ρ := ρ) (fun i => some (i * n, n)) parts ps zs _ cs hi hv g2 hcs
      have hlen := convs_length g2
      refine ⟨.slice (some ⟨w.heap.size, 0, none⟩) len len, w.alloc (.cells q.toArray e), ?_, newRow_run hf hk hr q2 (fun ρ' h => by simp [conv, h])⟩
      have hbig : ¬ (len * n > 2 ^ 24) := by omega
      simp only [Instr.buildSlice, Sem.run_bind, run_underlying hu, Result.andThen_ok, sizeT_run hn, hbig, if_false]
      by_cases hz : len * n = 0
      ·simp only [hz, if_true, Sem.run_bind, Sem.run_pure, Result.andThen_ok, map_range0]
       have e0 : (List.replicate len z.cells.toList).flatten = [] := by
        apply List.eq_nil_of_length_eq_zero; rw [hlen, h2]; exact hz
       rw [e0] at q1
       rw [q1]
       simp [Go.newRow]
      ·simp only [hz, if_false, Sem.run_bind, g1, Result.andThen_ok, Sem.run_pure]
       have hzsz : z.cells.size = n := by
        rw [h2] at hlen
        simp only [List.length_flatten, List.map_replicate, List.sum_replicate_nat, Array.length_toList] at hlen
        have hcp : 0 < len := by rcases Nat.eq_zero_or_pos len with e | e; (rw [e] at hz; simp at hz); exact e
        exact Nat.eq_of_mul_eq_mul_left hcp hlen
       have e1 := zeros_eq z.cells len
       rw [hzsz] at e1
       have e2 : (Array.range (len * n)).map (fun j => z.cells[j % z.cells.size]!) = (List.replicate len z.cells.toList).flatten.toArray := by
        apply Array.ext'
        rw [hzsz, e1]
       rw [e2, q1]
       simp [Go.newRow]
     ·simp at h
    ·simp at h
   ·simp at h
  ·simp at h
 ·simp at h
end Go.Vm
