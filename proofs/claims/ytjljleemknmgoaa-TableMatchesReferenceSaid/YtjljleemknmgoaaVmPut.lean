/-
 Part of the proof that a machine over named lists stands for the program's runs (VmPut). No conditions beyond those that its theorems name.
-/
import Derived.Test.YtjljleemknmgoaaVmMem
import Derived.Laws.Cells
import Derived.Laws.CopyRow
namespace Go.Vm
set_option linter.unusedSectionVars false
variable [Facts] [Val] [Sound]
def KeepA (s s' : St) : Prop := s'.dirty ≤ s.dirty ∧ ∀ b, b < s'.dirty → b < s.n → s'.get b = s.get b
theorem KeepA.refl (s : St) : KeepA s s := ⟨Nat.le_refl _, fun _ _ _ => rfl⟩
theorem KeepA.trans {a b c : St} (h : KeepA a b) (k : KeepA b c) (hn : a.n ≤ b.n) : KeepA a c :=
 ⟨Nat.le_trans k.1 h.1, fun i h1 h2 => (k.2 i h1 (by omega)).trans (h.2 i (by have := k.1; omega) h2)⟩
structure Turn (w w' : World) (B : Nat) (O : Obj) : Prop where
 os : w'.os = w.os
 tape : w'.tape = w.tape
 output : w'.output = w.output
 size : w'.heap.size = w.heap.size
 here : w'.heap[B]? = some O
 other : ∀ k, k ≠ B → w'.heap[k]? = w.heap[k]?
theorem Turn.setRow {w : World} {B : Nat} {c c' : Array Value} {t : TypeId} {fz : Nat × Nat} (h : w.heap[B]? = some (.cells c t fz)) : Turn w (w.setRow B c') B (.cells c' t fz) where
 os := rfl
 tape := rfl
 output := rfl
 size := by simp [World.setRow]
 here := setRow_heap w B c c' t fz h
 other := fun k hk => by
  simp only [World.setRow, Array.getElem?_modify]
  rw [if_neg (fun e => hk e.symm)]
def wput (w : World) (B : Nat) (O : Obj) : World := { w with heap := w.heap.setIfInBounds B O }
theorem Turn.wput {w : World} {B : Nat} {O : Obj} (h : B < w.heap.size) : Turn w (wput w B O) B O where
 os := rfl
 tape := rfl
 output := rfl
 size := by simp [Vm.wput]
 here := by simp [Vm.wput, h]
 other := fun k hk => by simp [Vm.wput, Ne.symm hk]
def Out (base : Nat) (ρ : Rho) (s : St) (w : World) (v : AV) (s' : St) (x : Value) (w' : World) : Prop :=
 ∃ ρ', Ext s.n ρ ρ' ∧ Fresh s'.n ρ' ∧ s.n ≤ s'.n ∧ s'.ok ∧ conv ρ' v = some x ∧ Rel base ρ' s'.look w' ∧ Fram ρ s.look w ρ' s'.look w' ∧ KeepA s s'
theorem Out.same {base : Nat} {ρ : Rho} {s : St} {w : World} {v : AV} {x : Value} (hf : Fresh s.n ρ) (hk : s.ok) (hr : Rel base ρ s.look w) (hv : conv ρ v = some x) : Out base ρ s w v s x w :=
 ⟨ρ, Ext.refl _ _, hf, Nat.le_refl _, hk, hv, hr, Fram.refl _ _ _, KeepA.refl _⟩
def Rho.with (ρ : Rho) (n : Nat) (p : Nat × Nat × Option (Nat × Nat)) : Rho := fun b => if b = n then some p else ρ b
theorem Rho.with_le {ρ : Rho} {n : Nat} (p : Nat × Nat × Option (Nat × Nat)) (hf : Fresh n ρ) : ρ.le (ρ.with n p) := fun b x h => by
 unfold Rho.with
 split
 ·rename_i e; subst e; rw [hf b (Nat.le_refl _)] at h; cases h
 ·exact h
theorem Rho.with_self (ρ : Rho) (n : Nat) (p : Nat × Nat × Option (Nat × Nat)) : (ρ.with n p) n = some p := by simp [Rho.with]
theorem out_push {base : Nat} {ρ : Rho} {s : St} {w : World} {x : AO} {O : Obj} {ext : Option (Nat × Nat)} {v : AV} {u : Value} (hf : Fresh s.n ρ) (hk : s.ok) (hr : Rel base ρ s.look w)
  (hx : x ≠ .dead) (hkin : x.kinOf s.n ≤ s.n) (hal : ∀ b o, s.look b = some o → o.single b = true → x.kinOf s.n ≠ b)
  (hkn : ∀ b o, s.look b = some o → o.kinOf b ≠ s.n)
  (hh : Held base (ρ.with s.n (w.heap.size, 0, ext)) s.n x (w.alloc O)) (hv : conv (ρ.with s.n (w.heap.size, 0, ext)) v = some u) :
  Out base ρ s w v (s.push x) u (w.alloc O) := by
 have hle := Rho.with_le (w.heap.size, 0, ext) hf
 have hlook := fun b => St.look_push (s := s) x hx b
 have hold : ∀ b, b < s.n → blk (ρ.with s.n (w.heap.size, 0, ext)) b = blk ρ b := fun b hb => by
  unfold blk Rho.with; rw [if_neg (by omega)]
 have hnew : blk (ρ.with s.n (w.heap.size, 0, ext)) s.n = some w.heap.size := by simp [blk, Rho.with]
 refine ⟨ρ.with s.n (w.heap.size, 0, ext), ?_, ?_, by simp [St.push], St.ok_push x hk, hv, ⟨?_, ?_, ?_, ?_, fun b => St.look_live _ b, ?_⟩, ⟨rfl, rfl, rfl, by simp, ?_, ?_⟩, ?_⟩
 ·intro b hb; unfold Rho.with; rw [if_neg (by omega)]
 ·intro b hb
  have hb' : s.n + 1 ≤ b := hb
  unfold Rho.with; rw [if_neg (by omega)]; exact hf b (by omega)
 ·intro b o h
  rw [hlook] at h
  split at h
  ·rename_i e; subst e; cases h; exact hh
  ·refine (hr.obj b o h).mono hle (fun B hB => ?_)
   obtain ⟨B', h1, h2, _⟩ := hr.place h
   rw [h1] at hB; cases hB
   exact Go.RowKit.Below.heap_alloc w O _ h2
 ·intro b b' o o' h h' ho hne
  rw [hlook] at h h'
  split at h
  ·rename_i e; subst e; cases h
   split at h'
   ·rename_i e'; subst e'; cases h'; exact absurd rfl hne
   ·rw [hnew, hold b' (St.look_lt h')]
    obtain ⟨B', h1, h2, _⟩ := hr.place h'
    rw [h1]; simp; omega
  ·split at h'
   ·rename_i e'; subst e'; cases h'
    rw [hnew, hold b (St.look_lt h)]
    obtain ⟨B', h1, h2, _⟩ := hr.place h
    rw [h1]; simp; omega
   ·rw [hold b (St.look_lt h), hold b' (St.look_lt h')]; exact hr.apart b b' o o' h h' ho hne
 ·intro b o h
  rw [hlook] at h
  split at h
  ·rename_i e; subst e; cases h; exact hkin
  ·exact hr.kin b o h
 ·intro b o h hs b' o' h' hne
  rw [hlook] at h h'
  split at h
  ·rename_i e; subst e; cases h
   split at h'
   ·rename_i e'; exact absurd e' hne
   ·exact hkn b' o' h'
  ·split at h'
   ·rename_i e'; subst e'; cases h'; exact hal b o h hs
   ·exact hr.alone b o h hs b' o' h' hne
 ·simp; have := hr.base_le; omega
 ·intro k hk' _
  exact Go.RowKit.Below.heap_alloc w O _ hk'
 ·intro b o B h ho hB
  rw [hlook] at h
  split at h
  ·rename_i e; subst e; cases h
   rw [hnew] at hB; cases hB; exact .inl (Nat.le_refl _)
  ·rw [hold b (St.look_lt h)] at hB; exact .inr ⟨b, o, h, ho, hB⟩
 ·refine ⟨Nat.le_refl _, fun b _ hb => ?_⟩
  rw [St.get_push]; rw [if_neg (by omega)]
theorem Rel.kin_lt {base : Nat} {ρ : Rho} {s : St} {w : World} (hr : Rel base ρ s.look w) : ∀ b o, s.look b = some o → o.kinOf b ≠ s.n := fun b o h => by
 have := hr.kin b o h; have := St.look_lt h; omega
theorem out_push_own {base : Nat} {ρ : Rho} {s : St} {w : World} {x : AO} {O : Obj} {ext : Option (Nat × Nat)} {v : AV} {u : Value} (hf : Fresh s.n ρ) (hk : s.ok) (hr : Rel base ρ s.look w)
  (hx : x ≠ .dead) (hkin : x.kinOf s.n = s.n)
  (hh : Held base (ρ.with s.n (w.heap.size, 0, ext)) s.n x (w.alloc O)) (hv : conv (ρ.with s.n (w.heap.size, 0, ext)) v = some u) :
  Out base ρ s w v (s.push x) u (w.alloc O) :=
 out_push hf hk hr hx (Nat.le_of_eq hkin) (fun b o h _ => by have := St.look_lt h; omega) hr.kin_lt hh hv
theorem out_turn {base : Nat} {ρ : Rho} {s s' : St} {w w' : World} {b B : Nat} {o x : AO} {O : Obj} {v : AV} {u : Value} (hf : Fresh s.n ρ) (hr : Rel base ρ s.look w) (ht : Turn w w' B O)
  (hb : s.look b = some o) (how : o.own = true) (hB : blk ρ b = some B) (hn : s'.n = s.n) (hk' : s'.ok) (hka : KeepA s s')
  (hx : s'.look b = some x) (hxk : x.kinOf b = o.kinOf b) (hxs : x.single b = true → o.single b = true)
  (hrest : ∀ c q, c ≠ b → s'.look c = some q → s.look c = some q ∧ blk ρ c ≠ some B)
  (hh : Held base ρ b x w') (hv : conv ρ v = some u) : Out base ρ s w v s' u w' := by
 refine ⟨ρ, Ext.refl _ _, by rw [hn]; exact hf, by omega, hk', hv, ⟨?_, ?_, ?_, ?_, fun c => St.look_live _ c, ?_⟩, ⟨ht.os, ht.tape, ht.output, by rw [ht.size]; exact Nat.le_refl _, ?_, ?_⟩, hka⟩
 ·intro c q h
  by_cases e : c = b
  ·subst e; rw [hx] at h; cases h; exact hh
  ·obtain ⟨h1, h2⟩ := hrest c q e h
   exact (hr.obj c q h1).mono (Rho.le.refl ρ) (fun B' hB' => ht.other B' (fun e' => h2 (e' ▸ hB')))
 ·intro c c' q q' h h' ho hne
  by_cases e : c = b
  ·subst e; rw [hx] at h; cases h
   by_cases e' : c' = c
   ·subst e'; rw [hx] at h'; cases h'; exact absurd rfl hne
   ·obtain ⟨_, h2⟩ := hrest c' q' e' h'
    rw [hB]; exact fun e => h2 e.symm
  ·obtain ⟨h1, h2⟩ := hrest c q e h
   by_cases e' : c' = b
   ·subst e'; rw [hB]; exact h2
   ·obtain ⟨h3, _⟩ := hrest c' q' e' h'
    exact hr.apart c c' q q' h1 h3 ho hne
 ·intro c q h
  by_cases e : c = b
  ·subst e; rw [hx] at h; cases h; rw [hxk]; exact hr.kin c o hb
  ·exact hr.kin c q (hrest c q e h).1
 ·intro c q h hs c' q' h' hne
  have hq' : ∃ q0, s.look c' = some q0 ∧ q0.kinOf c' = q'.kinOf c' := by
   by_cases e : c' = b
   ·subst e; rw [hx] at h'; cases h'; exact ⟨o, hb, hxk.symm⟩
   ·exact ⟨q', (hrest c' q' e h').1, rfl⟩
  obtain ⟨q0, g1, g2⟩ := hq'
  rw [← g2]
  by_cases e : c = b
  ·subst e; rw [hx] at h; cases h
   exact hr.alone c o hb (hxs hs) c' q0 g1 hne
  ·exact hr.alone c q (hrest c q e h).1 hs c' q0 g1 hne
 ·rw [ht.size]; exact hr.base_le
 ·intro k hk hno
  exact ht.other k (fun e => hno b o hb how (by rw [hB, e]))
 ·intro c q C h ho hC
  by_cases e : c = b
  ·subst e; exact .inr ⟨c, o, hb, how, hC⟩
  ·exact .inr ⟨c, q, (hrest c q e h).1, ho, hC⟩
theorem out_set {base : Nat} {ρ : Rho} {s : St} {w w' : World} {b B : Nat} {o x : AO} {O : Obj} {v : AV} {u : Value} (hf : Fresh s.n ρ) (hk : s.ok) (hr : Rel base ρ s.look w) (ht : Turn w w' B O)
  (hb : s.look b = some o) (how : o.own = true) (hB : blk ρ b = some B) (hos : o.single b = true)
  (hx : x ≠ .dead) (hxk : x.kinOf b = o.kinOf b)
  (hh : Held base ρ b x w') (hv : conv ρ v = some u) : Out base ρ s w v (s.set b x) u w' := by
 have hlt := St.look_lt hb
 have hkb : o.kinOf b = b := by
  cases o with
  | row cs e op own sp f z => simp [AO.single] at hos; exact hos.1
  | dead => simp [AO.single] at hos
  | _ => rfl
 refine out_turn hf hr ht hb how hB rfl (St.ok_set _ _ hk) ⟨minF_l _ _, fun c hc hc' => ?_⟩ (by rw [St.look_set x hx b b hk hlt, if_pos rfl]) hxk (fun _ => hos) (fun c q hc h => ?_) hh hv
 ·rw [St.get_set x b c hk hlt, if_neg]
  intro e; subst e
  simp only [St.set_def] at hc; omega
 ·rw [St.look_set x hx b c hk hlt, if_neg hc] at h
  refine ⟨h, fun e => ?_⟩
  refine hr.apart b c o q hb h how ?_ (by rw [hB, e])
  rw [hkb]; exact fun e => hr.alone b o hb hos c q h hc e.symm
end Go.Vm
