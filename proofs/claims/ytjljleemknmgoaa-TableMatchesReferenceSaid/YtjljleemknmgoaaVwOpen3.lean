/-
 Part of the proof that a machine over named lists stands for the program's runs (VwOpen3). No conditions beyond those that its theorems name.
-/
import Derived.Test.YtjljleemknmgoaaVwOpen2
import Derived.Test.YtjljleemknmgoaaVwDeep
namespace Go.Vm2
open Go Go.Vm Go.ChangeShapes Go.WideShapes
set_option linter.unusedVariables false
set_option linter.unusedSectionVars false
structure Blk where
 B : Nat
 o : Nat
 cs : List AV
def Agree (ρ : Rho) (n0 : Nat) (bs : List Blk) : Prop := ∀ (j : Nat) (b : Blk), bs[j]? = some b → ρ (n0 + j) = some (b.B, b.o, none)
def GAgree (G : Nat → Option AO) (n0 : Nat) (bs : List Blk) : Prop := ∀ (j : Nat) (b : Blk), bs[j]? = some b → G (n0 + j) = some (.row b.cs 0 false false false (n0 + j) 0)
theorem Agree.left {ρ : Rho} {n0 : Nat} {a b : List Blk} (h : Agree ρ n0 (a ++ b)) : Agree ρ n0 a := fun j x hx => h j x (by rw [List.getElem?_append_left (List.getElem?_eq_some_iff.1 hx).1]; exact hx)
theorem Agree.right {ρ : Rho} {n0 : Nat} {a b : List Blk} (h : Agree ρ n0 (a ++ b)) : Agree ρ (n0 + a.length) b := fun j x hx => by
 have := h (a.length + j) x (by rw [List.getElem?_append_right (by omega)]; simpa using hx)
 rw [Nat.add_assoc]; exact this
theorem GAgree.left {G : Nat → Option AO} {n0 : Nat} {a b : List Blk} (h : GAgree G n0 (a ++ b)) : GAgree G n0 a := fun j x hx => h j x (by rw [List.getElem?_append_left (List.getElem?_eq_some_iff.1 hx).1]; exact hx)
theorem GAgree.right {G : Nat → Option AO} {n0 : Nat} {a b : List Blk} (h : GAgree G n0 (a ++ b)) : GAgree G (n0 + a.length) b := fun j x hx => by
 have := h (a.length + j) x (by rw [List.getElem?_append_right (by omega)]; simpa using hx)
 rw [Nat.add_assoc]; exact this
inductive WfD (κ : Kt) : CK → D → Prop where
 | flat (c : CK) (d : D) : wfD c d → WfD κ c d
 | list (e : Nat) (a : AC) : acOk (kindsK κ e) a → a.len ≤ maxLen → (∀ r ∈ a.asR, r.length = (kindsK κ e).length) → (∀ i j c, i < a.len → (kindsK κ e)[j]? = some c → WfD κ c (a.dat i j)) → WfD κ (.list e) (.seq a)
section
variable [Facts] [Val]
def Blk.lies (b : Blk) (ρ : Rho) (w : World) : Prop := ∃ c t fz, w.heap[b.B]? = some (.cells c t fz) ∧ b.o + b.cs.length ≤ c.size ∧ ∀ i v, b.cs[i]? = some v → ∃ x, conv ρ v = some x ∧ c[b.o + i]? = some x
structure Opens (w : World) (κ : Kt) (n0 : Nat) (bs : List Blk) (as : List AV) (ds : List D) (cs : List Value) (ks : List CK) : Prop where
 len : as.length = ks.length
 dl : ds.length = ks.length
 conv : ∀ ρ, Agree ρ n0 bs → convs ρ as = some cs
 lies : ∀ ρ, Agree ρ n0 bs → ∀ b ∈ bs, b.lies ρ w
 cell : ∀ G, GAgree G n0 bs → ∀ j c, ks[j]? = some c → CellD G κ c (ds.getD j (.n 0)) (as.getD j (.tup []))
 wf : ∀ j c, ks[j]? = some c → WfD κ c (ds.getD j (.n 0))
theorem convs_inv {ρ : Rho} {a : AV} {as : List AV} {l : List Value} (h : convs ρ (a :: as) = some l) : ∃ u us, Go.Vm.conv ρ a = some u ∧ convs ρ as = some us ∧ l = u :: us := by
 simp only [convs] at h
 split at h
 ·rename_i u us h1 h2
  simp only [Option.some.injEq] at h
  exact ⟨u, us, h1, h2, h.symm⟩
 ·cases h
theorem convs_mk {ρ : Rho} {a : AV} {as : List AV} {u : Value} {us : List Value} (h1 : Go.Vm.conv ρ a = some u) (h2 : convs ρ as = some us) : convs ρ (a :: as) = some (u :: us) := by
 simp only [convs, h1, h2]
theorem convs_app {ρ : Rho} : ∀ {a b : List AV} {x y : List Value}, convs ρ a = some x → convs ρ b = some y → convs ρ (a ++ b) = some (x ++ y)
 | [], b, x, y, h1, h2 => by simp only [convs, Option.some.injEq] at h1; subst h1; exact h2
 | v :: a, b, x, y, h1, h2 => by
  obtain ⟨u, us, e1, e2, rfl⟩ := convs_inv h1
  rw [List.cons_append, List.cons_append]
  exact convs_mk e1 (convs_app e2 h2)
theorem Opens.nil {w : World} {κ : Kt} {n0 : Nat} : Opens w κ n0 [] [] [] [] [] := ⟨rfl, rfl, fun _ _ => rfl, fun _ _ b hb => (List.not_mem_nil hb).elim, fun _ _ j c hc => by simp at hc, fun j c hc => by simp at hc⟩
theorem Opens.app {w : World} {κ : Kt} {n0 : Nat} {b1 b2 : List Blk} {a1 a2 : List AV} {d1 d2 : List D} {c1 c2 : List Value} {k1 k2 : List CK} (h : Opens w κ n0 b1 a1 d1 c1 k1) (g : Opens w κ (n0 + b1.length) b2 a2 d2 c2 k2) : Opens w κ n0 (b1 ++ b2) (a1 ++ a2) (d1 ++ d2) (c1 ++ c2) (k1 ++ k2) := by
 have two : ∀ {j : Nat} {c : CK}, (k1 ++ k2)[j]? = some c → (j < k1.length ∧ k1[j]? = some c) ∨ (k1.length ≤ j ∧ k2[j - k1.length]? = some c) := by
  intro j c hc
  rcases Nat.lt_or_ge j k1.length with e | e
  ·rw [List.getElem?_append_left e] at hc; exact .inl ⟨e, hc⟩
  ·rw [List.getElem?_append_right e] at hc; exact .inr ⟨e, hc⟩
 refine ⟨by simp [h.len, g.len], by simp [h.dl, g.dl], fun ρ hρ => convs_app (h.conv ρ hρ.left) (g.conv ρ hρ.right), fun ρ hρ b hb => ?_, fun G hG j c hc => ?_, fun j c hc => ?_⟩
 ·rcases List.mem_append.1 hb with hb | hb
  ·exact h.lies ρ hρ.left b hb
  ·exact g.lies ρ hρ.right b hb
 ·rw [getD_app, getD_app]
  rcases two hc with ⟨e, hc⟩ | ⟨e, hc⟩
  ·rw [if_pos (by rw [h.dl]; exact e), if_pos (by rw [h.len]; exact e)]
   exact h.cell G hG.left j c hc
  ·rw [if_neg (by rw [h.dl]; omega), if_neg (by rw [h.len]; omega), h.dl, h.len]
   exact g.cell G hG.right _ c hc
 ·rw [getD_app]
  rcases two hc with ⟨e, hc⟩ | ⟨e, hc⟩
  ·rw [if_pos (by rw [h.dl]; exact e)]; exact h.wf j c hc
  ·rw [if_neg (by rw [h.dl]; omega), h.dl]; exact g.wf _ c hc
theorem Opens.one {w : World} {κ : Kt} {n0 : Nat} {c : CK} {d : D} {v : AV} {x : Value} (hl : isList c = false) (hv : v = c.av d) (hc : ∀ ρ, Go.Vm.conv ρ v = some x) (hw : wfD c d) : Opens w κ n0 [] [v] [d] [x] [c] := by
 refine ⟨rfl, rfl, fun ρ _ => by simp [convs, hc ρ], fun _ _ b hb => (List.not_mem_nil hb).elim, fun G _ j c' hj => ?_, fun j c' hj => ?_⟩
 ·cases j with
  | zero => simp at hj; subst hj; subst hv; exact .flat _ _ hl
  | succ j => simp at hj
 ·cases j with
  | zero => simp at hj; subst hj; exact .flat _ _ hw
  | succ j => simp at hj
end
variable {P : Program} {H : Type} {enc : TypeId × Value → H} {w : World} {base : Nat} {spare : Nat → Bool} {held : Bool}
def deepS (P : Program) (κ : Kt) (p : TypeId → List CK → Bool) : Nat → TypeId → List CK → Bool
 | 0, _, _ => false
 | d + 1, t, ks => Nat.beq (P.cellsOf t) ks.length && match P.underlying t with
  | some (.int k) => match ks with
   | [.int k'] => kindEq k k'
   | _ => false
  | some .bool => match ks with
   | [.bool] => true
   | _ => false
  | some .string => match ks with
   | [.str] => true
   | _ => false
  | some (.slice e) => match ks with
   | [.list e'] => Nat.beq e e' && Nat.ble 1 (kindsK κ e).length && p e (kindsK κ e)
   | _ => false
  | some (.struct fs) => flatFs P (deepS P κ p d) 0 fs.toList ks
  | _ => false
def deepL (P : Program) (κ : Kt) : Nat → TypeId → List CK → Bool
 | 0 => fun _ _ => false
 | l + 1 => deepS P κ (deepL P κ l) 4
variable [Facts] [Val]
def DeepO (enc : TypeId × Value → H) (P : Program) (w : World) (base : Nat) (spare : Nat → Bool) (held : Bool) (κ : Kt) (t : TypeId) (ks : List CK) : Prop :=
 ∀ (n : Nat) (cs : List Value) (y : DataW H × List MemPlace), DataW.trod enc P w base spare held n t cs = some y → ∀ n0, ∃ bs as ds, Opens w κ n0 bs as ds cs ks
theorem flatFs_deep {κ : Kt} {p : TypeId → List CK → Bool} {n : Nat} (hp : ∀ t ks, p t ks = true → DeepO enc P w base spare held κ t ks) {cs : List Value} : ∀ (fs : List Field) (ks : List CK) (j : Nat), flatFs P p j fs ks = true → cs.length = j + ks.length → (∀ f ∈ fs, ∃ y, DataW.trod enc P w base spare held n f.type ((cs.drop f.offset).take (P.cellsOf f.type)) = some y) → ∀ n0, ∃ bs as ds, Opens w κ n0 bs as ds (cs.drop j) ks
 | [], [], j, h, hl, hf, n0 => ⟨[], [], [], by
   rw [List.drop_eq_nil_of_le (by simp at hl; omega)]; exact Opens.nil⟩
 | [], k :: ks, j, h, hl, hf, n0 => by simp [flatFs] at h
 | f :: fs, ks, j, h, hl, hf, n0 => by
  simp only [flatFs, Bool.and_eq_true] at h
  obtain ⟨⟨⟨h1, h2⟩, h3⟩, h4⟩ := h
  have h1 := Nat.eq_of_beq_eq_true h1
  have h2 := Nat.le_of_ble_eq_true h2
  obtain ⟨y, hy⟩ := hf f (by simp)
  rw [h1] at hy
  obtain ⟨b1, a1, d1, o1⟩ := hp _ _ h3 n _ y hy n0
  obtain ⟨b2, a2, d2, o2⟩ := flatFs_deep hp fs (ks.drop (P.cellsOf f.type)) (j + P.cellsOf f.type) h4 (by rw [List.length_drop]; omega) (fun g hg => hf g (by simp [hg])) (n0 + b1.length)
  have := o1.app o2
  rw [List.take_append_drop] at this
  have e : (cs.drop j).take (P.cellsOf f.type) ++ cs.drop (j + P.cellsOf f.type) = cs.drop j := by
   rw [← List.drop_drop]; exact List.take_append_drop _ _
  rw [e] at this
  exact ⟨_, _, _, this⟩
theorem elems_deep {κ : Kt} {e : TypeId} {ks : List CK} (hp : DeepO enc P w base spare held κ e ks) {n : Nat} {E : Nat → List Value} : ∀ (m : Nat), (∀ i, i < m → (∃ y, DataW.trod enc P w base spare held n e (E i) = some y)) → ∀ n0, ∃ (bs : List Blk) (as : List AV) (rows : List (List D)), rows.length = m ∧ as.length = m * ks.length ∧ (∀ r ∈ rows, r.length = ks.length) ∧
  (∀ ρ, Agree ρ n0 bs → convs ρ as = some ((List.range m).flatMap E)) ∧ (∀ ρ, Agree ρ n0 bs → ∀ b ∈ bs, b.lies ρ w) ∧
  (∀ G, GAgree G n0 bs → ∀ i j c, i < m → ks[j]? = some c → CellD G κ c ((rows.getD i []).getD j (.n 0)) (as.getD (i * ks.length + j) (.tup []))) ∧
  (∀ i j c, i < m → ks[j]? = some c → WfD κ c ((rows.getD i []).getD j (.n 0)))
 | 0, h, n0 => ⟨[], [], [], rfl, by simp, fun r hr => (List.not_mem_nil hr).elim, fun _ _ => rfl, fun _ _ b hb => (List.not_mem_nil hb).elim, fun _ _ i j c hi => by omega, fun i j c hi => by omega⟩
 | m + 1, h, n0 => by
  obtain ⟨bs, as, rows, r1, r2, r0, r3, r4, r5, r6⟩ := elems_deep hp m (fun i hi => h i (by omega)) n0
  obtain ⟨y, hy⟩ := h m (by omega)
  obtain ⟨b2, a2, d2, o⟩ := hp n _ y hy (n0 + bs.length)
  refine ⟨bs ++ b2, as ++ a2, rows ++ [d2], by simp [r1], by rw [List.length_append, r2, o.len, Nat.add_mul, Nat.one_mul], fun r hr => ?_, fun ρ hρ => ?_, fun ρ hρ b hb => ?_, fun G hG i j c hi hj => ?_, fun i j c hi hj => ?_⟩
  ·rcases List.mem_append.1 hr with hr | hr
   ·exact r0 r hr
   ·simp at hr; subst hr; exact o.dl
  ·have := convs_app (r3 ρ hρ.left) (o.conv ρ hρ.right)
   rw [this, List.range_succ, List.flatMap_append]; simp
  ·rcases List.mem_append.1 hb with hb | hb
   ·exact r4 ρ hρ.left b hb
   ·exact o.lies ρ hρ.right b hb
  ·have hjl := (List.getElem?_eq_some_iff.1 hj).1
   rw [getD_app, getD_app, r1]
   by_cases e : i < m
   ·have e1 : i * ks.length + j < as.length := by
     rw [r2]
     calc i * ks.length + j < i * ks.length + ks.length := by omega
      _ = (i + 1) * ks.length := by rw [Nat.add_mul]; omega
      _ ≤ m * ks.length := Nat.mul_le_mul_right _ e
    rw [if_pos e, if_pos e1]
    exact r5 G hG.left i j c e hj
   ·have : i = m := by omega
    subst this
    rw [if_neg e, if_neg (by rw [r2]; omega), r2, Nat.sub_self, Nat.add_sub_cancel_left]
    exact o.cell G hG.right j c hj
  ·rw [getD_app, r1]
   by_cases e : i < m
   ·rw [if_pos e]; exact r6 i j c e hj
   ·have : i = m := by omega
    subst this
    rw [if_neg e, Nat.sub_self]
    exact o.wf j c hj
theorem convs_get {ρ : Rho} : ∀ {as : List AV} {xs : List Value} {i : Nat} {v : AV}, convs ρ as = some xs → as[i]? = some v → ∃ x, conv ρ v = some x ∧ xs[i]? = some x
 | [], xs, i, v, h, hi => by simp at hi
 | a :: as, xs, i, v, h, hi => by
  obtain ⟨u, us, e1, e2, rfl⟩ := convs_inv h
  cases i with
  | zero => simp at hi; subst hi; exact ⟨u, e1, rfl⟩
  | succ i => simp at hi ⊢; exact convs_get e2 hi
theorem flat_range_get {z : Nat} {E : Nat → List Value} : ∀ {m : Nat}, (∀ i, i < m → (E i).length = z) → ∀ i j, i < m → j < z → ((List.range m).flatMap E)[i * z + j]? = (E i)[j]?
 | 0, h, i, j, hi, hj => by omega
 | m + 1, h, i, j, hi, hj => by
  have hl : ∀ m', m' ≤ m → ((List.range m').flatMap E).length = m' * z := by
   intro m' hm'
   induction m' with
   | zero => simp
   | succ k ih => rw [List.range_succ, List.flatMap_append, List.length_append, ih (by omega)]; simp [h k (by omega), Nat.add_mul]
  rw [List.range_succ, List.flatMap_append]
  by_cases e : i < m
  ·have e1 : i * z + j < m * z := by
    calc i * z + j < i * z + z := by omega
     _ = (i + 1) * z := by rw [Nat.add_mul]; omega
     _ ≤ m * z := Nat.mul_le_mul_right _ e
   rw [List.getElem?_append_left (by rw [hl m (Nat.le_refl _)]; exact e1)]
   exact flat_range_get (fun i hi => h i (by omega)) i j e hj
  ·have : i = m := by omega
   subst this
   rw [List.getElem?_append_right (by rw [hl i (Nat.le_refl _)]; omega), hl i (Nat.le_refl _), Nat.add_sub_cancel_left]
   simp
theorem divmod_lt {m z k : Nat} (h : k < m * z) : k / z < m ∧ k % z < z ∧ k = k / z * z + k % z := by
 have hz : 0 < z := Nat.pos_of_ne_zero fun e => by rw [e, Nat.mul_zero] at h; omega
 exact ⟨Nat.div_lt_of_lt_mul (by rw [Nat.mul_comm]; exact h), Nat.mod_lt _ hz, by rw [Nat.mul_comm]; exact (Nat.div_add_mod _ _).symm⟩
theorem slice_deep {κ : Kt} {t e : TypeId} (ht : P.underlying t = some (.slice e)) (hC : P.cellsOf e = (kindsK κ e).length) (hpos : 1 ≤ (kindsK κ e).length) (hp : DeepO enc P w base (fun _ => true) held κ e (kindsK κ e)) : DeepO enc P w base (fun _ => true) held κ t [.list e] := by
 intro n cs y hy n0
 have form : ∀ (rows : List (List D)), (∀ r ∈ rows, r.length = (kindsK κ e).length) → (∀ i j c, i < rows.length → (kindsK κ e)[j]? = some c → WfD κ c ((rows.getD i []).getD j (.n 0))) → ∃ a : AC, acOk (kindsK κ e) a ∧ a.len = rows.length ∧ (∀ r ∈ a.asR, r.length = (kindsK κ e).length) ∧ ∀ i j c, i < rows.length → (kindsK κ e)[j]? = some c → a.dat i j = (rows.getD i []).getD j (.n 0) := by
  intro rows hr hw
  by_cases hk : ∃ k, kindsK κ e = [.int k]
  ·obtain ⟨k, hk⟩ := hk
   refine ⟨.ints (rows.map fun r => (r.getD 0 (.n 0)).int), by rw [hk]; exact ⟨k, rfl⟩, by simp [AC.len], fun r h => (List.not_mem_nil h).elim, fun i j c hi hj => ?_⟩
   have hj0 := hj
   rw [hk] at hj
   have : j = 0 := by
    cases j with
    | zero => rfl
    | succ j => simp at hj
   subst this
   simp at hj; subst hj
   have := hw i 0 (.int k) hi hj0
   cases this with
   | flat _ _ h =>
    obtain ⟨m, hm, _⟩ := h
    have e1 : (rows.map fun r => (r.getD 0 (.n 0)).int).getD i 0 = ((rows.getD i []).getD 0 (.n 0)).int := by
     simp only [List.getD_eq_getElem?_getD, List.getElem?_map]
     rw [List.getElem?_eq_getElem hi]; rfl
    simp only [AC.dat]
    rw [e1, hm]; rfl
  ·exact ⟨.recs rows, ⟨fun e0 => by rw [e0] at hpos; simp at hpos, fun k e0 => hk ⟨k, e0⟩⟩, rfl, hr, fun i j c hi hj => rfl⟩
 rcases Go.Deep.open_slice ht hy with ⟨rfl, _⟩ | ⟨a, len, cap, m, n', D', Pl, rfl, _, h3, h4, hm, _, hi⟩
 ·obtain ⟨ac, f1, f2, f3, f4⟩ := form [] (fun r h => (List.not_mem_nil h).elim) (fun i j c h => by simp at h)
  have f2 : ac.len = 0 := f2
  refine ⟨[], [.nils], [.seq ac], rfl, rfl, fun ρ _ => rfl, fun _ _ b hb => (List.not_mem_nil hb).elim, fun G _ j c hc => ?_, fun j c hc => ?_⟩
  ·cases j with
   | zero => simp at hc; subst hc; exact .nil e ac f1 f2
   | succ j => simp at hc
  ·cases j with
   | zero => simp at hc; subst hc; exact .list e ac f1 (by rw [f2]; exact Nat.zero_le _) f3 (fun i j c h => by omega)
   | succ j => simp at hc
 ·have hmc : m = cap := by rw [hm]; rfl
  subst hmc
  have pick : ∃ E : Nat → List Value, ∀ i, i < m → w.cells? base (a.add (i * P.cellsOf e)) (P.cellsOf e) = some (E i) ∧ DataW.trod enc P w base (fun _ => true) held n' e (E i) = some (D' i, Pl i) := by
   refine ⟨fun i => (w.cells? base (a.add (i * P.cellsOf e)) (P.cellsOf e)).getD [], fun i him => ?_⟩
   obtain ⟨cs', q1, q2⟩ := hi i him
   have e0 : (w.cells? base (a.add (i * P.cellsOf e)) (P.cellsOf e)).getD [] = cs' := by rw [q1]; rfl
   show w.cells? base (a.add (i * P.cellsOf e)) (P.cellsOf e) = some ((w.cells? base (a.add (i * P.cellsOf e)) (P.cellsOf e)).getD []) ∧ _
   rw [e0]; exact ⟨q1, by show DataW.trod enc P w base (fun _ => true) held n' e ((w.cells? base (a.add (i * P.cellsOf e)) (P.cellsOf e)).getD []) = _; rw [e0]; exact q2⟩
  obtain ⟨E, hE⟩ := pick
  obtain ⟨bs, as, rows, r1, r2, r0, r3, r4, r5, r6⟩ := elems_deep hp len (fun i hil => ⟨_, (hE i (by omega)).2⟩) (n0 + 1)
  obtain ⟨ac, f1, f2, f3, f4⟩ := form rows r0 (by rw [r1]; exact r6)
  rw [r1] at f2 f4
  have hwf : WfD κ (.list e) (.seq ac) := .list e ac f1 (by omega) f3 (fun i j c hi hj => by rw [f4 i j c (by omega) hj]; exact r6 i j c (by omega) hj)
  rcases Nat.eq_zero_or_pos m with h0 | h0
  ·
   subst h0
   have hl0 : len = 0 := by omega
   subst hl0
   refine ⟨[], [.esl a], [.seq ac], rfl, rfl, fun ρ _ => rfl, fun _ _ b hb => (List.not_mem_nil hb).elim, fun G _ j c hc => ?_, fun j c hc => ?_⟩
   ·cases j with
    | zero => simp at hc; subst hc; exact .esl e ac a f1 f2
    | succ j => simp at hc
   ·cases j with
    | zero => simp at hc; subst hc; exact hwf
    | succ j => simp at hc
  ·
   have cellAt : ∀ i j, i < m → j < (kindsK κ e).length → w.cell? (a.add (i * (kindsK κ e).length + j)) = (E i)[j]? ∧ j < (E i).length := by
    intro i j him hj
    have q1 := (hE i him).1
    rw [hC] at q1
    obtain ⟨_, hcl, hat⟩ := World.cells?_some q1
    rw [← Go.Deep.add_add, hat j hj]
    exact ⟨rfl, by omega⟩
   obtain ⟨b, off, spot⟩ := a
   have c0 := cellAt 0 0 h0 (by omega)
   have hex : spot = none ∧ ∃ c t fz, w.heap[b]? = some (.cells c t fz) := by
    have e0 : Addr.add ⟨b, off, spot⟩ (0 * (kindsK κ e).length + 0) = ⟨b, off, spot⟩ := by simp [Addr.add]
    have h1 : w.cell? ⟨b, off, spot⟩ ≠ none := by rw [e0] at c0; rw [c0.1, List.getElem?_eq_getElem c0.2]; simp
    unfold World.cell? at h1
    simp only [] at h1
    split at h1
    ·rename_i c t fz hh
     cases spot with
     | some s => exact absurd rfl h1
     | none => exact ⟨rfl, c, t, fz, hh⟩
    ·exact absurd rfl h1
   obtain ⟨rfl, c, tt, fz, hb⟩ := hex
   have hcell : ∀ i j, i < m → j < (kindsK κ e).length → ∃ x, (E i)[j]? = some x ∧ c[off + (i * (kindsK κ e).length + j)]? = some x := by
    intro i j him hj
    obtain ⟨q1, q2⟩ := cellAt i j him hj
    refine ⟨(E i)[j], List.getElem?_eq_getElem q2, ?_⟩
    rw [List.getElem?_eq_getElem q2, add_plain] at q1
    unfold World.cell? at q1
    simp only [hb] at q1
    simpa using q1
   have hEl : ∀ i, i < m → (E i).length = (kindsK κ e).length := by
    intro i him
    have q1 := (hE i him).1
    rw [hC] at q1
    exact (World.cells?_some q1).2.1
   have hroom : off + m * (kindsK κ e).length ≤ c.size := by
    obtain ⟨x, _, hx⟩ := hcell (m - 1) ((kindsK κ e).length - 1) (by omega) (by omega)
    have := (Array.getElem?_eq_some_iff.1 hx).1
    have e2 : m * (kindsK κ e).length = (m - 1) * (kindsK κ e).length + (kindsK κ e).length := by
     have : m = (m - 1) + 1 := by omega
     rw [this, Nat.add_mul, Nat.one_mul]; simp
    omega
   have hroom2 : len * (kindsK κ e).length ≤ m * (kindsK κ e).length := Nat.mul_le_mul_right _ h3
   have ag : ∀ ρ, Agree ρ n0 (⟨b, off, as⟩ :: bs) → ρ n0 = some (b, off, none) ∧ Agree ρ (n0 + 1) bs := fun ρ hρ => ⟨hρ 0 _ rfl, fun j x hx => by have := hρ (j + 1) x (by simpa using hx); rw [show n0 + 1 + j = n0 + (j + 1) by omega]; exact this⟩
   have gag : ∀ G, GAgree G n0 (⟨b, off, as⟩ :: bs) → G n0 = some (.row as 0 false false false n0 0) ∧ GAgree G (n0 + 1) bs := fun G hG => ⟨hG 0 _ rfl, fun j x hx => by have := hG (j + 1) x (by simpa using hx); rw [show n0 + 1 + j = n0 + (j + 1) by omega]; exact this⟩
   refine ⟨⟨b, off, as⟩ :: bs, [.slc n0 0 ac.len m], [.seq ac], rfl, rfl, fun ρ hρ => ?_, fun ρ hρ x hx => ?_, fun G hG j c' hc => ?_, fun j c' hc => ?_⟩
   ·obtain ⟨q1, _⟩ := ag ρ hρ
    have : conv ρ (.slc n0 0 ac.len m) = some (.slice (some ⟨b, off, none⟩) len m) := by simp only [conv, q1, Nat.add_zero, f2]
    simp [convs, this]
   ·obtain ⟨q1, q2⟩ := ag ρ hρ
    rcases List.mem_cons.1 hx with rfl | hx
    ·refine ⟨c, tt, fz, hb, by show off + as.length ≤ c.size; omega, fun k v hk => ?_⟩
     have hkl := (List.getElem?_eq_some_iff.1 hk).1
     have hkl : k < as.length := hkl
     rw [r2] at hkl
     obtain ⟨d1, d2, d3⟩ := divmod_lt hkl
     obtain ⟨x, x1, x2⟩ := convs_get (r3 ρ q2) hk
     refine ⟨x, x1, ?_⟩
     rw [d3, flat_range_get (fun i hi => hEl i (by omega)) _ _ d1 d2] at x2
     obtain ⟨x', y1, y2⟩ := hcell (k / (kindsK κ e).length) (k % (kindsK κ e).length) (by omega) d2
     rw [x2] at y1; cases y1
     show c[off + k]? = some x
     rw [← d3] at y2; exact y2
    ·exact r4 ρ q2 x hx
   ·cases j with
    | succ j => simp at hc
    | zero =>
     simp at hc; subst hc
     obtain ⟨q1, q2⟩ := gag G hG
     refine .list e ac n0 0 m as 0 false false false n0 0 q1 f1 (fun h => by cases h) (by omega) (by rw [f2, r2]; omega) (fun i j c hi hj => ?_)
     rw [f4 i j c (by omega) hj, Nat.zero_add]
     exact r5 G q2 i j c (by omega) hj
   ·cases j with
    | zero => simp at hc; subst hc; exact hwf
    | succ j => simp at hc
theorem deepS_ok {κ : Kt} {p : TypeId → List CK → Bool} (hp : ∀ t ks, p t ks = true → DeepO enc P w base (fun _ => true) held κ t ks) (hpC : ∀ t ks, p t ks = true → P.cellsOf t = ks.length) : ∀ (d : Nat) (t : TypeId) (ks : List CK), deepS P κ p d t ks = true → DeepO enc P w base (fun _ => true) held κ t ks
 | 0, _, _, h => by simp [deepS] at h
 | d + 1, t, ks, h => by
  unfold deepS at h
  rw [Bool.and_eq_true] at h
  obtain ⟨h0, h⟩ := h
  have h0 := Nat.eq_of_beq_eq_true h0
  split at h
  ·rename_i k hu
   split at h
   ·have := kindEq_eq h; subst this
    intro n cs y hy n0
    obtain ⟨m, rfl, _, h3⟩ := DataW.trod_int hu hy
    exact ⟨[], [.int k m], [.n m], Opens.one rfl rfl (fun _ => rfl) ⟨m, rfl, h3⟩⟩
   ·cases h
  ·rename_i hu
   split at h
   ·intro n cs y hy n0
    obtain ⟨m, rfl, _⟩ := DataW.trod_bool hu hy
    exact ⟨[], [.bool m], [.b m], Opens.one rfl rfl (fun _ => rfl) ⟨m, rfl⟩⟩
   ·cases h
  ·rename_i hu
   split at h
   ·intro n cs y hy n0
    obtain ⟨m, rfl, _, h3⟩ := DataW.trod_string hu hy
    exact ⟨[], [.str m.data.toList], [.s m.data.toList], Opens.one rfl rfl (fun _ => by simp [conv]) ⟨_, rfl, by simpa using h3⟩⟩
   ·cases h
  ·rename_i e hu
   split at h
   ·rename_i e'
    simp only [Bool.and_eq_true] at h
    obtain ⟨⟨h1, h2⟩, h3⟩ := h
    have h1 := Nat.eq_of_beq_eq_true h1
    subst h1
    exact slice_deep hu (hpC _ _ h3) (Nat.le_of_ble_eq_true h2) (hp _ _ h3)
   ·cases h
  ·rename_i fs hu
   intro n cs y hy n0
   obtain ⟨xs, n', _, _, hcl, hxl, hf⟩ := DataW.trod_struct hu hy
   have := flatFs_deep (n := n') (fun t ks h1 => deepS_ok hp hpC d t ks h1) (cs := cs) fs.toList ks 0 h (by omega) (fun f hf' => by
    obtain ⟨i, hi, rfl⟩ := List.getElem_of_mem hf'
    have hix : i < xs.length := by rw [hxl]; simpa using hi
    exact ⟨xs[i], by have := hf i fs.toList[i] (by simp); rw [List.getElem?_eq_getElem hix] at this; exact this⟩) n0
   simpa using this
  ·cases h
theorem deepS_cells {κ : Kt} {p : TypeId → List CK → Bool} : ∀ (d : Nat) (t : TypeId) (ks : List CK), deepS P κ p d t ks = true → P.cellsOf t = ks.length
 | 0, _, _, h => by cases h
 | d + 1, t, ks, h => by
  unfold deepS at h
  rw [Bool.and_eq_true] at h
  exact Nat.eq_of_beq_eq_true h.1
theorem deepL_cells {κ : Kt} : ∀ (l : Nat) (t : TypeId) (ks : List CK), deepL P κ l t ks = true → P.cellsOf t = ks.length
 | 0, _, _, h => by cases h
 | l + 1, t, ks, h => deepS_cells (p := deepL P κ l) 4 t ks h
theorem deepL_ok {κ : Kt} : ∀ (l : Nat) (t : TypeId) (ks : List CK), deepL P κ l t ks = true → DeepO enc P w base (fun _ => true) held κ t ks
 | 0, _, _, h => by cases h
 | l + 1, t, ks, h => deepS_ok (deepL_ok l) (deepL_cells l) 4 t ks h
theorem open_deep {κ : Kt} {l : Nat} {t e : TypeId} {v : Value} {d : DataW H} {p : List MemPlace} {fuel : Nat} (hl : deepL P κ l t [.list e] = true) (h : DataW.trod enc P w base (fun _ => true) held fuel t [v] = some (d, p)) (n0 : Nat) :
  ∃ (a : AC) (bs : List Blk) (av : AV), WfD κ (.list e) (.seq a) ∧ (∀ ρ, Agree ρ n0 bs → conv ρ av = some v) ∧ (∀ ρ, Agree ρ n0 bs → ∀ b ∈ bs, b.lies ρ w) ∧ ∀ G, GAgree G n0 bs → CellD G κ (.list e) (.seq a) av := by
 obtain ⟨bs, as, ds, o⟩ := deepL_ok l t _ hl fuel _ _ h n0
 have h1 := o.len
 have h2 := o.dl
 match as, ds, h1, h2, o with
 | [av], [d0], _, _, o =>
  have hw := o.wf 0 _ rfl
  have hc : ∀ G, GAgree G n0 bs → CellD G κ (.list e) d0 av := fun G hG => o.cell G hG 0 _ rfl
  have hw : WfD κ (.list e) d0 := hw
  have hs : ∃ a, d0 = .seq a := by
   cases hw with
   | flat _ _ h => exact h.elim
   | list _ a _ _ _ _ => exact ⟨a, rfl⟩
  obtain ⟨a, rfl⟩ := hs
  refine ⟨a, bs, av, hw, fun ρ hρ => ?_, o.lies, hc⟩
  obtain ⟨u, us, e1, e2, e3⟩ := convs_inv (o.conv ρ hρ)
  simp only [List.cons.injEq] at e3
  rw [e1, ← e3.1]
end Go.Vm2
