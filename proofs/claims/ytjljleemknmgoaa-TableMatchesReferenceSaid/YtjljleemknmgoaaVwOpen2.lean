/-
 Part of the proof that a machine over named lists stands for the program's runs (VwOpen2). No conditions beyond those that its theorems name.
-/
import Derived.Test.YtjljleemknmgoaaVwOpen
import Derived.Deep.Slices
import Derived.Deep.Fields
namespace Go.Vm2
open Go Go.Vm Go.ChangeShapes Go.WideShapes
set_option linter.unusedVariables false
set_option linter.unusedSectionVars false
variable {P : Program}
def wfD : CK → D → Prop
 | .int k, d => ∃ n, d = .n n ∧ (Lit.int k n).wf = true
 | .bool, d => ∃ b, d = .b b
 | .str, d => ∃ s, d = .s s ∧ s.length ≤ maxLen
 | .nils, _ => False
 | .list _, _ => False
def rowWf (ks : List CK) (ds : List D) : Prop := ds.length = ks.length ∧ ∀ (j : Nat) (c : CK), ks[j]? = some c → wfD c (ds.getD j (.n 0))
def valOf (c : CK) (d : D) : Value := match c with | .int k => Value.int k d.int | .bool => .bool d.bool | .str => .string ⟨d.str.toArray⟩ | .nils => .slice none 0 0 | .list _ => .slice none 0 0
theorem pick_list {α : Type} {p : Nat → α → Prop} : ∀ (n : Nat), (∀ i, i < n → ∃ x, p i x) → ∃ l : List α, l.length = n ∧ ∀ i x, l[i]? = some x → p i x
 | 0, _ => ⟨[], rfl, fun i x h => by simp at h⟩
 | n + 1, h => by
  obtain ⟨l, h1, h2⟩ := pick_list n (fun i hi => h i (by omega))
  obtain ⟨x, hx⟩ := h n (by omega)
  refine ⟨l ++ [x], by simp [h1], fun i y hy => ?_⟩
  rcases Nat.lt_or_ge i l.length with e | e
  ·rw [List.getElem?_append_left e] at hy; exact h2 i y hy
  ·rw [List.getElem?_append_right e] at hy
   have h3 : i - l.length < 1 := by have := (List.getElem?_eq_some_iff.1 hy).1; simpa using this
   have h4 : i - l.length = 0 := by omega
   rw [h4] at hy
   simp at hy
   subst hy
   have : i = n := by omega
   subst this; exact hx
section
variable {H : Type} {enc : TypeId × Value → H} {w : World} {base : Nat} {spare : Nat → Bool} {held : Bool}
theorem open_field {f : Field} {j : Nat} {c : CK} (hf : fieldOk P f j c = true) {n : Nat} {v : Value} {y : DataW H × List MemPlace} (h : DataW.trod enc P w base spare held n f.type [v] = some y) : ∃ d, wfD c d ∧ v = valOf c d := by
 simp only [fieldOk, Bool.and_eq_true] at hf
 have hf := hf.2
 split at hf
 ·rename_i k hu
  split at hf
  ·rename_i k'
   have := kindEq_eq hf; subst this
   obtain ⟨m, h1, _, h3⟩ := DataW.trod_int hu h
   simp only [List.cons.injEq, and_true] at h1
   exact ⟨.n m, ⟨m, rfl, h3⟩, h1⟩
  ·cases hf
 ·rename_i hu
  split at hf
  ·obtain ⟨m, h1, _⟩ := DataW.trod_bool hu h
   simp only [List.cons.injEq, and_true] at h1
   exact ⟨.b m, ⟨m, rfl⟩, h1⟩
  ·cases hf
 ·rename_i hu
  split at hf
  ·obtain ⟨m, h1, _, h3⟩ := DataW.trod_string hu h
   simp only [List.cons.injEq, and_true] at h1
   exact ⟨.s m.data.toList, ⟨_, rfl, by simpa using h3⟩, h1⟩
  ·cases hf
 ·cases hf
theorem open_recs {r : Reach} {t e : TypeId} {fs : Array Field} {ks : List CK} {v : Value} {d : DataW H} {p : List MemPlace} (ht : P.underlying t = some (.slice e)) (he : P.underlying e = some (.struct fs)) (hC : P.cellsOf e = ks.length) (hne : ks ≠ [])
  (hfs : fieldsOk P 0 fs.toList ks = true) (hval : Value.okWide P w r base t v) (h : DataW.Trod enc P w 0 (fun _ => true) held t v d p) :
  ∃ (s : Src) (l : List (List D)) (cap : Nat), s.ks = ks ∧ s.ac = .recs l ∧ s.lies w ∧ (s.at_ = none → l.length = 0) ∧ l.length ≤ cap ∧ v = s.val cap ∧ l.length ≤ maxLen ∧ ∀ x ∈ l, rowWf ks x := by
 letI : Facts := ⟨[], [], false⟩
 obtain ⟨ao, len, cap, rfl⟩ := okWide_slice ht hval
 obtain ⟨fuel, h⟩ := h
 rcases Go.Deep.open_slice ht h with ⟨h1, _⟩ | ⟨a, len', cap', m, n, D', Pl, h1, _, h3, h4, hm, _, hi⟩
 ·have h1 : [Value.slice ao len cap] = [.slice none 0 0] := h1
  simp only [List.cons.injEq, Value.slice.injEq, and_true] at h1
  obtain ⟨rfl, rfl, rfl⟩ := h1
  exact ⟨⟨none, ks, .recs []⟩, [], 0, rfl, rfl, ⟨hne, rfl⟩, fun _ => rfl, Nat.le_refl _, rfl, Nat.zero_le _, fun n hn => (List.not_mem_nil hn).elim⟩
 ·have h1 : [Value.slice ao len cap] = [.slice (some a) len' cap'] := h1
  simp only [List.cons.injEq, Value.slice.injEq, and_true] at h1
  obtain ⟨rfl, rfl, rfl⟩ := h1
  have hh : w.has P r base a e cap := by
   simp only [Value.okWide, ht, Cell.okWide, Cell.ok] at hval
   exact hval.2.2
  have hlm : len ≤ m := by rw [hm]; split <;> omega
  obtain ⟨hfl, hfg⟩ := fieldsOk_get hfs
  have rows : ∀ i, i < len → ∃ ds : List D, rowWf ks ds ∧ ∀ j c, ks[j]? = some c → w.cell? (a.add (i * ks.length + j)) = some (valOf c (ds.getD j (.n 0))) := by
   intro i hil
   obtain ⟨cs', hc, ht'⟩ := hi i (by omega)
   rw [hC] at hc
   obtain ⟨_, hcl, hat⟩ := World.cells?_some hc
   obtain ⟨xs, n', _, _, _, hxl, hf⟩ := DataW.trod_struct he ht'
   have each : ∀ j, j < ks.length → ∃ d, ∀ c, ks[j]? = some c → wfD c d ∧ w.cell? (a.add (i * ks.length + j)) = some (valOf c d) := by
    intro j hj
    have hk : ks[j]? = some ks[j] := List.getElem?_eq_getElem hj
    obtain ⟨f, e1, e2⟩ := hfg j _ hk
    have e3 := hf j f (by simpa using e1)
    have e2' := e2
    simp only [fieldOk, Bool.and_eq_true] at e2'
    have o1 := Nat.eq_of_beq_eq_true e2'.1.1
    have o2 := Nat.eq_of_beq_eq_true e2'.1.2
    rw [o1, o2, Nat.zero_add] at e3
    have hjc : j < cs'.length := by omega
    have e4 : (cs'.drop j).take 1 = [cs'[j]] := by rw [List.drop_eq_getElem_cons hjc]; rfl
    rw [e4] at e3
    have hjx : j < xs.length := by rw [hxl]; have := (List.getElem?_eq_some_iff.1 e1).1; simpa using this
    rw [List.getElem?_eq_getElem hjx] at e3
    obtain ⟨d, q1, q2⟩ := open_field e2 e3
    refine ⟨d, fun c hc' => ?_⟩
    rw [hk] at hc'; cases hc'
    refine ⟨q1, ?_⟩
    rw [← Go.Deep.add_add, hat j hj, List.getElem?_eq_getElem hjc, q2]
   obtain ⟨ds, g1, g2⟩ := pick_list ks.length each
   have g3 : ∀ j c, ks[j]? = some c → ds[j]? = some (ds.getD j (.n 0)) := by
    intro j c hc'
    have : j < ds.length := by rw [g1]; exact (List.getElem?_eq_some_iff.1 hc').1
    rw [List.getD_eq_getElem?_getD, List.getElem?_eq_getElem this]; rfl
   exact ⟨ds, ⟨g1, fun j c hc' => (g2 j _ (g3 j c hc') c hc').1⟩, fun j c hc' => (g2 j _ (g3 j c hc') c hc').2⟩
  obtain ⟨l, l1, l2⟩ := pick_list len rows
  obtain ⟨b, off, spot⟩ := a
  obtain ⟨rfl, c, tt, fz, hb, hoff⟩ := has_lies hh
  have hb : w.heap[b]? = some (.cells c tt fz) := hb
  have hz : 0 < ks.length := List.length_pos_iff.2 hne
  have cellAt : ∀ i j ck, i < len → ks[j]? = some ck → c[off + (i * ks.length + j)]? = some (valOf ck (((l.getD i []).getD j (.n 0)))) := by
   intro i j ck hil hck
   have e : l[i]? = some (l.getD i []) := by rw [List.getD_eq_getElem?_getD, List.getElem?_eq_getElem (by omega)]; rfl
   have := (l2 i _ e).2 j ck hck
   rw [add_plain] at this
   unfold World.cell? at this
   rw [hb] at this
   simpa using this
  refine ⟨⟨some (b, off), ks, .recs l⟩, l, cap, rfl, rfl, ⟨hne, c, tt, fz, hb, ?_, ?_⟩, (fun e => by cases e), by omega, ?_, by omega, fun x hx => ?_⟩
  ·show off + l.length * ks.length ≤ c.size
   rcases Nat.eq_zero_or_pos len with h0 | h0
   ·rw [l1, h0, Nat.zero_mul]; exact hoff
   ·have hk : ks[ks.length - 1]? = some ks[ks.length - 1] := List.getElem?_eq_getElem (by omega)
    have := (Array.getElem?_eq_some_iff.1 (cellAt (len - 1) (ks.length - 1) _ (by omega) hk)).1
    rw [l1]
    have e : len * ks.length = (len - 1) * ks.length + ks.length := by
     have : len = (len - 1) + 1 := by omega
     rw [this, Nat.add_mul, Nat.one_mul]; simp
    omega
  ·intro i ck dd hii
   simp only [AC.avs] at hii
   have hfl' := flat_length (fun x => rowAV_length ks 0 x) l
   have hil : i < l.length * ks.length := by rw [← hfl']; exact (List.getElem?_eq_some_iff.1 hii).1
   have q1 := Nat.div_add_mod i ks.length
   have q2 := Nat.mod_lt i hz
   have q3 : i / ks.length < l.length := (Nat.div_lt_iff_lt_mul hz).2 hil
   have hi' : i = i / ks.length * ks.length + i % ks.length := by rw [Nat.mul_comm]; omega
   have e : l[i / ks.length]? = some (l.getD (i / ks.length) []) := by rw [List.getD_eq_getElem?_getD, List.getElem?_eq_getElem q3]; rfl
   have hk : ks[i % ks.length]? = some ks[i % ks.length] := List.getElem?_eq_getElem q2
   have f1 := flat_get (fun x => rowAV_length ks 0 x) (i / ks.length) l _ e (i % ks.length) q2
   rw [← hi', hii, rowAV_get ks 0 _ _ _ hk, Nat.zero_add] at f1
   have f2 := cellAt (i / ks.length) (i % ks.length) _ (by omega) hk
   rw [← hi'] at f2
   show c[off + i]? = some (valOf ck dd)
   rw [f2]
   simp only [Option.some.injEq] at f1
   congr 1
   revert f1
   generalize ks[i % ks.length] = c2
   generalize (l.getD (i / ks.length) []).getD (i % ks.length) (.n 0) = d2
   intro f1
   cases ck <;> cases c2 <;> simp only [CK.av, AV.int.injEq, AV.bool.injEq, AV.str.injEq, reduceCtorEq] at f1 <;> simp only [valOf]
   ·rw [f1.1, f1.2]
   ·rw [f1]
   ·rw [f1]
  ·show Value.slice (some ⟨b, off, none⟩) len cap = Value.slice (some ⟨b, off, none⟩) l.length cap
   rw [l1]
  ·obtain ⟨i, hi', rfl⟩ := List.getElem_of_mem hx
   exact (l2 i _ (List.getElem?_eq_getElem hi')).1
def flatB (P : Program) : Nat → TypeId → List CK → Bool
 | 0, _, _ => false
 | d + 1, t, ks => Nat.beq (P.cellsOf t) ks.length && match P.underlying t with
  | some (.int k) => match ks with
   | [.int k'] => kindEq k k'
   | _ => false
  | some .bool => match ks with
   | [.bool] => true
   | _ => false
  | some .string => match ks with
   | [.str] => true
   | _ => false
  | some (.struct fs) => flatFs P (flatB P d) 0 fs.toList ks
  | _ => false
def Cells (ks : List CK) (cs : List Value) (j0 : Nat) (ds : List D) : Prop := rowWf ks ds ∧ ∀ (j : Nat) (c : CK), ks[j]? = some c → cs[j0 + j]? = some (valOf c (ds.getD j (.n 0)))
theorem flatFs_open {p : TypeId → List CK → Bool} {n : Nat} {cs : List Value}
  (hp : ∀ (t : TypeId) (ks : List CK) (cs : List Value) (y : DataW H × List MemPlace), p t ks = true → DataW.trod enc P w base spare held n t cs = some y → ∃ ds, Cells ks cs 0 ds) :
  ∀ (fs : List Field) (ks : List CK) (j : Nat), flatFs P p j fs ks = true → (∀ f ∈ fs, ∃ y, DataW.trod enc P w base spare held n f.type ((cs.drop f.offset).take (P.cellsOf f.type)) = some y) → ∃ ds, Cells ks cs j ds
 | [], [], j, _, _ => ⟨[], ⟨rfl, fun j c h => by simp at h⟩, fun j c h => by simp at h⟩
 | [], _ :: _, j, h, _ => by simp [flatFs] at h
 | f :: fs, ks, j, h, hf => by
  unfold flatFs at h
  simp only [Bool.and_eq_true] at h
  obtain ⟨⟨⟨h1, h2⟩, h3⟩, h4⟩ := h
  have h1 := Nat.eq_of_beq_eq_true h1
  have h2 := Nat.le_of_ble_eq_true h2
  obtain ⟨y, hy⟩ := hf f (by simp)
  obtain ⟨d1, ⟨a1, a2⟩, a3⟩ := hp _ _ _ _ h3 hy
  obtain ⟨d2, ⟨b1, b2⟩, b3⟩ := flatFs_open hp fs _ _ h4 (fun g hg => hf g (List.mem_cons_of_mem _ hg))
  have e1 : (ks.take (P.cellsOf f.type)).length = P.cellsOf f.type := by rw [List.length_take]; omega
  rw [e1] at a1
  have get : ∀ i (c : CK), ks[i]? = some c → (i < P.cellsOf f.type ∧ (ks.take (P.cellsOf f.type))[i]? = some c ∧ (d1 ++ d2).getD i (.n 0) = d1.getD i (.n 0)) ∨ (P.cellsOf f.type ≤ i ∧ (ks.drop (P.cellsOf f.type))[i - P.cellsOf f.type]? = some c ∧ (d1 ++ d2).getD i (.n 0) = d2.getD (i - P.cellsOf f.type) (.n 0)) := by
   intro i c hc
   rcases Nat.lt_or_ge i (P.cellsOf f.type) with e | e
   ·refine .inl ⟨e, by rw [List.getElem?_take_of_lt e]; exact hc, ?_⟩
    rw [List.getD_eq_getElem?_getD, List.getD_eq_getElem?_getD, List.getElem?_append_left (by omega)]
   ·refine .inr ⟨e, by rw [List.getElem?_drop, show P.cellsOf f.type + (i - P.cellsOf f.type) = i by omega]; exact hc, ?_⟩
    rw [List.getD_eq_getElem?_getD, List.getD_eq_getElem?_getD, List.getElem?_append_right (by omega), a1]
  refine ⟨d1 ++ d2, ⟨?_, fun i c hc => ?_⟩, fun i c hc => ?_⟩
  ·rw [List.length_append, a1, b1, List.length_drop]; omega
  ·rcases get i c hc with ⟨_, q1, q2⟩ | ⟨_, q1, q2⟩
   ·rw [q2]; exact a2 i c q1
   ·rw [q2]; exact b2 _ c q1
  ·rcases get i c hc with ⟨q0, q1, q2⟩ | ⟨q0, q1, q2⟩
   ·rw [q2]
    have := a3 i c q1
    rw [Nat.zero_add, List.getElem?_take_of_lt q0, List.getElem?_drop, h1] at this
    exact this
   ·rw [q2]
    have := b3 _ c q1
    rw [show j + P.cellsOf f.type + (i - P.cellsOf f.type) = j + i by omega] at this
    exact this
theorem flatB_open : ∀ (d : Nat) {n : Nat} (t : TypeId) (ks : List CK) (cs : List Value) (y : DataW H × List MemPlace), flatB P d t ks = true → DataW.trod enc P w base spare held n t cs = some y → ∃ ds, Cells ks cs 0 ds
 | 0, _, _, _, _, _, h, _ => by simp [flatB] at h
 | d + 1, n, t, ks, cs, y, h, hy => by
  unfold flatB at h
  rw [Bool.and_eq_true] at h
  obtain ⟨h0, h⟩ := h
  split at h
  ·rename_i k hu
   split at h
   ·have := kindEq_eq h; subst this
    obtain ⟨m, rfl, _, h3⟩ := DataW.trod_int hu hy
    exact ⟨[.n m], ⟨rfl, fun j c hc => by
     cases j with
     | zero => simp at hc; subst hc; exact ⟨m, rfl, h3⟩
     | succ j => simp at hc⟩, fun j c hc => by
     cases j with
     | zero => simp at hc; subst hc; rfl
     | succ j => simp at hc⟩
   ·cases h
  ·rename_i hu
   split at h
   ·obtain ⟨m, rfl, _⟩ := DataW.trod_bool hu hy
    exact ⟨[.b m], ⟨rfl, fun j c hc => by
     cases j with
     | zero => simp at hc; subst hc; exact ⟨m, rfl⟩
     | succ j => simp at hc⟩, fun j c hc => by
     cases j with
     | zero => simp at hc; subst hc; rfl
     | succ j => simp at hc⟩
   ·cases h
  ·rename_i hu
   split at h
   ·obtain ⟨m, rfl, _, h3⟩ := DataW.trod_string hu hy
    exact ⟨[.s m.data.toList], ⟨rfl, fun j c hc => by
     cases j with
     | zero => simp at hc; subst hc; exact ⟨_, rfl, by simpa using h3⟩
     | succ j => simp at hc⟩, fun j c hc => by
     cases j with
     | zero => simp at hc; subst hc; rfl
     | succ j => simp at hc⟩
   ·cases h
  ·rename_i fs hu
   obtain ⟨xs, n', _, _, _, hxl, hf⟩ := DataW.trod_struct hu hy
   refine flatFs_open (n := n') (fun t ks cs y h1 h2 => flatB_open d t ks cs y h1 h2) fs.toList ks 0 h (fun f hf' => ?_)
   obtain ⟨i, hi, rfl⟩ := List.getElem_of_mem hf'
   have hix : i < xs.length := by rw [hxl]; simpa using hi
   exact ⟨xs[i], by have := hf i fs.toList[i] (by simp); rw [List.getElem?_eq_getElem hix] at this; exact this⟩
  ·cases h
theorem open_recsN {r : Reach} {t e : TypeId} {dp : Nat} {ks : List CK} {v : Value} {d : DataW H} {p : List MemPlace} (ht : P.underlying t = some (.slice e)) (hC : P.cellsOf e = ks.length) (hne : ks ≠ [])
  (hfs : flatB P dp e ks = true) (hval : Value.okWide P w r base t v) (h : DataW.Trod enc P w 0 (fun _ => true) held t v d p) :
  ∃ (s : Src) (l : List (List D)) (cap : Nat), s.ks = ks ∧ s.ac = .recs l ∧ s.lies w ∧ (s.at_ = none → l.length = 0) ∧ l.length ≤ cap ∧ v = s.val cap ∧ l.length ≤ maxLen ∧ ∀ x ∈ l, rowWf ks x := by
 letI : Facts := ⟨[], [], false⟩
 obtain ⟨ao, len, cap, rfl⟩ := okWide_slice ht hval
 obtain ⟨fuel, h⟩ := h
 rcases Go.Deep.open_slice ht h with ⟨h1, _⟩ | ⟨a, len', cap', m, n, D', Pl, h1, _, h3, h4, hm, _, hi⟩
 ·have h1 : [Value.slice ao len cap] = [.slice none 0 0] := h1
  simp only [List.cons.injEq, Value.slice.injEq, and_true] at h1
  obtain ⟨rfl, rfl, rfl⟩ := h1
  exact ⟨⟨none, ks, .recs []⟩, [], 0, rfl, rfl, ⟨hne, rfl⟩, fun _ => rfl, Nat.le_refl _, rfl, Nat.zero_le _, fun n hn => (List.not_mem_nil hn).elim⟩
 ·have h1 : [Value.slice ao len cap] = [.slice (some a) len' cap'] := h1
  simp only [List.cons.injEq, Value.slice.injEq, and_true] at h1
  obtain ⟨rfl, rfl, rfl⟩ := h1
  have hh : w.has P r base a e cap := by
   simp only [Value.okWide, ht, Cell.okWide, Cell.ok] at hval
   exact hval.2.2
  have hlm : len ≤ m := by rw [hm]; split <;> omega
  have rows : ∀ i, i < len → ∃ ds : List D, rowWf ks ds ∧ ∀ j c, ks[j]? = some c → w.cell? (a.add (i * ks.length + j)) = some (valOf c (ds.getD j (.n 0))) := by
   intro i hil
   obtain ⟨cs', hc, ht'⟩ := hi i (by omega)
   rw [hC] at hc
   obtain ⟨_, hcl, hat⟩ := World.cells?_some hc
   obtain ⟨ds, g1, g2⟩ := flatB_open dp e ks cs' _ hfs ht'
   refine ⟨ds, g1, fun j c hc' => ?_⟩
   have hj : j < ks.length := (List.getElem?_eq_some_iff.1 hc').1
   rw [← Go.Deep.add_add, hat j hj]
   have := g2 j c hc'
   rw [Nat.zero_add] at this
   exact this
  obtain ⟨l, l1, l2⟩ := pick_list len rows
  obtain ⟨b, off, spot⟩ := a
  obtain ⟨rfl, c, tt, fz, hb, hoff⟩ := has_lies hh
  have hb : w.heap[b]? = some (.cells c tt fz) := hb
  have hz : 0 < ks.length := List.length_pos_iff.2 hne
  have cellAt : ∀ i j ck, i < len → ks[j]? = some ck → c[off + (i * ks.length + j)]? = some (valOf ck (((l.getD i []).getD j (.n 0)))) := by
   intro i j ck hil hck
   have e : l[i]? = some (l.getD i []) := by rw [List.getD_eq_getElem?_getD, List.getElem?_eq_getElem (by omega)]; rfl
   have := (l2 i _ e).2 j ck hck
   rw [add_plain] at this
   unfold World.cell? at this
   rw [hb] at this
   simpa using this
  refine ⟨⟨some (b, off), ks, .recs l⟩, l, cap, rfl, rfl, ⟨hne, c, tt, fz, hb, ?_, ?_⟩, (fun e => by cases e), by omega, ?_, by omega, fun x hx => ?_⟩
  ·show off + l.length * ks.length ≤ c.size
   rcases Nat.eq_zero_or_pos len with h0 | h0
   ·rw [l1, h0, Nat.zero_mul]; exact hoff
   ·have hk : ks[ks.length - 1]? = some ks[ks.length - 1] := List.getElem?_eq_getElem (by omega)
    have := (Array.getElem?_eq_some_iff.1 (cellAt (len - 1) (ks.length - 1) _ (by omega) hk)).1
    rw [l1]
    have e : len * ks.length = (len - 1) * ks.length + ks.length := by
     have : len = (len - 1) + 1 := by omega
     rw [this, Nat.add_mul, Nat.one_mul]; simp
    omega
  ·intro i ck dd hii
   simp only [AC.avs] at hii
   have hfl' := flat_length (fun x => rowAV_length ks 0 x) l
   have hil : i < l.length * ks.length := by rw [← hfl']; exact (List.getElem?_eq_some_iff.1 hii).1
   have q1 := Nat.div_add_mod i ks.length
   have q2 := Nat.mod_lt i hz
   have q3 : i / ks.length < l.length := (Nat.div_lt_iff_lt_mul hz).2 hil
   have hi' : i = i / ks.length * ks.length + i % ks.length := by rw [Nat.mul_comm]; omega
   have e : l[i / ks.length]? = some (l.getD (i / ks.length) []) := by rw [List.getD_eq_getElem?_getD, List.getElem?_eq_getElem q3]; rfl
   have hk : ks[i % ks.length]? = some ks[i % ks.length] := List.getElem?_eq_getElem q2
   have f1 := flat_get (fun x => rowAV_length ks 0 x) (i / ks.length) l _ e (i % ks.length) q2
   rw [← hi', hii, rowAV_get ks 0 _ _ _ hk, Nat.zero_add] at f1
   have f2 := cellAt (i / ks.length) (i % ks.length) _ (by omega) hk
   rw [← hi'] at f2
   show c[off + i]? = some (valOf ck dd)
   rw [f2]
   simp only [Option.some.injEq] at f1
   congr 1
   revert f1
   generalize ks[i % ks.length] = c2
   generalize (l.getD (i / ks.length) []).getD (i % ks.length) (.n 0) = d2
   intro f1
   cases ck <;> cases c2 <;> simp only [CK.av, AV.int.injEq, AV.bool.injEq, AV.str.injEq, reduceCtorEq] at f1 <;> simp only [valOf]
   ·rw [f1.1, f1.2]
   ·rw [f1]
   ·rw [f1]
  ·show Value.slice (some ⟨b, off, none⟩) len cap = Value.slice (some ⟨b, off, none⟩) l.length cap
   rw [l1]
  ·obtain ⟨i, hi', rfl⟩ := List.getElem_of_mem hx
   exact (l2 i _ (List.getElem?_eq_getElem hi')).1
end
end Go.Vm2
