/-
 Part of the proof that a machine over named lists stands for the program's runs (VmMem). No conditions beyond those that its theorems name.
-/
import Derived.Test.YtjljleemknmgoaaVmBlind
namespace Go.Vm
set_option linter.unusedSectionVars false
variable [Facts] [Val] [Sound]
open Go.RowKit
def AX.code : AX → Code
 | .normal => .skip
 | .ret => .ret
 | .exit id => .exit id
def AO.own : AO → Bool
 | .row _ _ _ o _ _ _ => o
 | .dead => false
 | _ => true
def AO.kinOf (b : Nat) : AO → Nat
 | .row _ _ _ _ _ f _ => f
 | _ => b
def AO.single (b : Nat) : AO → Bool
 | .row _ _ _ _ sp f _ => f == b && !sp
 | .dead => false
 | _ => true
noncomputable def St.look (s : St) (b : Nat) : Option AO :=
 match s.get b with
 | some .dead => none
 | x => x
def blk (ρ : Rho) (b : Nat) : Option Nat := (ρ b).map (·.1)
abbrev Look := Nat → Option AO
def Held (base : Nat) (ρ : Rho) (b : Nat) (o : AO) (w : World) : Prop :=
 match o with
 | .row cs _ op own _ _ z => ∃ B δ x c t fz, ρ b = some (B, δ, x) ∧ w.heap[B]? = some (.cells c t fz) ∧
   (∀ i v, cs[i]? = some v → ∃ u, conv ρ v = some u ∧ c[δ + i]? = some u) ∧
   (own = true → base ≤ B ∧ fz = (0, 0)) ∧ (op = true → own = true ∧ 0 < z ∧ ∃ k, x = some (z, k) ∧ δ + k * z ≤ c.size ∧ cs.length ≤ k * z) ∧ (op = false → x = none) ∧ δ + cs.length ≤ c.size
 | .map es => ∃ B δ x es' clk, ρ b = some (B, δ, x) ∧ w.heap[B]? = some (.map es' clk) ∧ base ≤ B ∧
   convs ρ (es.map (·.1)) = some (es'.toList.map (·.key)) ∧ convs ρ (es.map (·.2)) = some (es'.toList.map (·.val))
 | .loop st pend ts ps as bo D => ∃ B δ x fn dB ts', ρ b = some (B, δ, x) ∧
   w.heap[B]? = some (.loop { state := st, pending := pend.map AX.code, fn, tmps := ts'.toArray, params := ps.toArray, assign := as, body := bo, defers := dB }) ∧ base ≤ B ∧
   convs ρ ts = some ts' ∧ ∃ δ' x', ρ D = some (dB, δ', x')
 | .sit s pos => ∃ B δ x, ρ b = some (B, δ, x) ∧ w.heap[B]? = some (.stringIter ⟨s.toArray⟩ pos) ∧ base ≤ B ∧ δ = 0
 | .dfr => ∃ B δ x, ρ b = some (B, δ, x) ∧ w.heap[B]? = some (.deferred (some [])) ∧ base ≤ B
 | .dead => True
structure Rel (base : Nat) (ρ : Rho) (g : Look) (w : World) : Prop where
 obj : ∀ b o, g b = some o → Held base ρ b o w
 apart : ∀ b b' o o', g b = some o → g b' = some o' → o.own = true → o.kinOf b ≠ o'.kinOf b' → blk ρ b ≠ blk ρ b'
 kin : ∀ b o, g b = some o → o.kinOf b ≤ b
 alone : ∀ b o, g b = some o → o.single b = true → ∀ b' o', g b' = some o' → b' ≠ b → o'.kinOf b' ≠ b
 live : ∀ b, g b ≠ some .dead
 base_le : base ≤ w.heap.size
def Ext (n : Nat) (ρ ρ' : Rho) : Prop := ∀ b, b < n → ρ' b = ρ b
def Fresh (n : Nat) (ρ : Rho) : Prop := ∀ b, n ≤ b → ρ b = none
theorem Ext.le {n : Nat} {ρ ρ' : Rho} (h : Ext n ρ ρ') (f : Fresh n ρ) : ρ.le ρ' := fun b x e => by
 rcases Nat.lt_or_ge b n with hb | hb
 ·rw [h b hb]; exact e
 ·rw [f b hb] at e; cases e
theorem Ext.refl (n : Nat) (ρ : Rho) : Ext n ρ ρ := fun _ _ => rfl
theorem Ext.trans {n n' : Nat} {a b c : Rho} (h : Ext n a b) (h' : Ext n' b c) (hn : n ≤ n') : Ext n a c := fun i hi => (h' i (Nat.lt_of_lt_of_le hi hn)).trans (h i hi)
structure Fram (ρ : Rho) (g : Look) (w : World) (ρ' : Rho) (g' : Look) (w' : World) : Prop where
 os : w'.os = w.os
 tape : w'.tape = w.tape
 output : w'.output = w.output
 size : w.heap.size ≤ w'.heap.size
 keep : ∀ k, k < w.heap.size → (∀ b o, g b = some o → o.own = true → blk ρ b ≠ some k) → w'.heap[k]? = w.heap[k]?
 img : ∀ b o B, g' b = some o → o.own = true → blk ρ' b = some B → w.heap.size ≤ B ∨ ∃ b0 o0, g b0 = some o0 ∧ o0.own = true ∧ blk ρ b0 = some B
theorem Fram.refl (ρ : Rho) (g : Look) (w : World) : Fram ρ g w ρ g w := ⟨rfl, rfl, rfl, Nat.le_refl _, fun _ _ _ => rfl, fun b o _ h1 h2 h3 => .inr ⟨b, o, h1, h2, h3⟩⟩
theorem Fram.trans {ρ ρ1 ρ2 : Rho} {g g1 g2 : Look} {w w1 w2 : World} (h : Fram ρ g w ρ1 g1 w1) (k : Fram ρ1 g1 w1 ρ2 g2 w2) : Fram ρ g w ρ2 g2 w2 where
 os := k.os.trans h.os
 tape := k.tape.trans h.tape
 output := k.output.trans h.output
 size := Nat.le_trans h.size k.size
 keep := fun i hi hn => by
  refine (k.keep i (Nat.lt_of_lt_of_le hi h.size) (fun b o h1 h2 h3 => ?_)).trans (h.keep i hi hn)
  rcases h.img b o i h1 h2 h3 with h4 | ⟨b0, o0, h4, h5, h6⟩
  ·omega
  ·exact hn b0 o0 h4 h5 h6
 img := fun b o B h1 h2 h3 => by
  rcases k.img b o B h1 h2 h3 with h4 | ⟨b0, o0, h4, h5, h6⟩
  ·exact .inl (Nat.le_trans h.size h4)
  ·exact h.img b0 o0 B h4 h5 h6
theorem Fram.drew {ρ ρ' : Rho} {g g' : Look} {w w' : World} (h : Fram ρ g w ρ' g' w') : Fram ρ g w ρ' g' w'.drew := ⟨h.os, h.tape, h.output, h.size, h.keep, h.img⟩
theorem St.look_none {s : St} {b : Nat} (h : s.n ≤ b) : s.look b = none := by
 have : ¬ b < s.n := by omega
 simp [St.look, St.get_def, this]
theorem St.look_lt {s : St} {b : Nat} {o : AO} (h : s.look b = some o) : b < s.n := by
 rcases Nat.lt_or_ge b s.n with hb | hb
 ·exact hb
 ·rw [St.look_none hb] at h; cases h
theorem St.look_live (s : St) (b : Nat) : s.look b ≠ some .dead := by
 unfold St.look; split <;> simp_all
theorem St.get_of_look {s : St} {b : Nat} {o : AO} (h : s.look b = some o) : s.get b = some o := by
 unfold St.look at h; split at h <;> simp_all
theorem St.look_of_get {s : St} {b : Nat} {o : AO} (h : s.get b = some o) (hd : o ≠ .dead) : s.look b = some o := by
 unfold St.look; rw [h]; cases o <;> simp_all
def St.ok (s : St) : Prop := s.h.length = s.n
theorem St.get_push {s : St} (x : AO) (b : Nat) : (s.push x).get b = if b = s.n then some x else s.get b := by
 unfold St.push; simp only [St.get_def]
 split
 ·rename_i hb
  split
  ·rename_i he; subst he; simp
  ·rename_i hne
   have : b < s.n := by omega
   rw [if_pos this]
   have e : s.n + 1 - 1 - b = (s.n - 1 - b) + 1 := by omega
   rw [e]; rfl
 ·rename_i hb
  have h1 : ¬ b = s.n := by omega
  have h2 : ¬ b < s.n := by omega
  simp [h1, h2]
theorem St.get_set {s : St} (x : AO) (b c : Nat) (hk : s.ok) (hb : b < s.n) : (s.set b x).get c = if c = b then some x else s.get c := by
 simp only [St.set_def, St.get_def]
 split
 ·rename_i hc
  rw [List.getElem?_set]
  split
  ·rename_i he
   have : c = b := by omega
   subst this
   unfold St.ok at hk
   have h1 : s.n - 1 - c < s.h.length := by omega
   simp [h1]
  ·rename_i hne
   have : ¬ c = b := fun e => hne (by rw [e])
   simp [this]
 ·rename_i hc
  have : ¬ c = b := by omega
  simp [this]
theorem St.get_alone {s : St} (f c : Nat) : (s.alone f).get c = (s.get c).map (AO.kin f) := by
 rw [St.alone_def]; simp only [St.get_def]
 split
 ·simp
 ·rfl
theorem St.ok_push {s : St} (x : AO) (h : s.ok) : (s.push x).ok := by unfold St.ok St.push at *; simp [h]
theorem St.ok_set {s : St} (b : Nat) (x : AO) (h : s.ok) : (s.set b x).ok := by rw [St.set_def]; unfold St.ok at *; simp [h]
theorem St.ok_alone {s : St} (f : Nat) (h : s.ok) : (s.alone f).ok := by rw [St.alone_def]; unfold St.ok at *; simp [h]
theorem St.look_push {s : St} (x : AO) (hx : x ≠ .dead) (b : Nat) : (s.push x).look b = if b = s.n then some x else s.look b := by
 unfold St.look
 rw [St.get_push x b]
 by_cases e : b = s.n
 ·simp only [e, if_true]
  cases x <;> first | rfl | exact absurd rfl hx
 ·simp only [e, if_false]
theorem St.look_set {s : St} (x : AO) (hx : x ≠ .dead) (b c : Nat) (hk : s.ok) (hb : b < s.n) : (s.set b x).look c = if c = b then some x else s.look c := by
 unfold St.look
 rw [St.get_set x b c hk hb]
 by_cases e : c = b
 ·simp only [e, if_true]
  cases x <;> first | rfl | exact absurd rfl hx
 ·simp only [e, if_false]
theorem St.look_set_dead {s : St} (b c : Nat) (hk : s.ok) (hb : b < s.n) : (s.set b .dead).look c = if c = b then none else s.look c := by
 unfold St.look
 rw [St.get_set .dead b c hk hb]
 by_cases e : c = b
 ·simp only [e, if_true]
 ·simp only [e, if_false]
theorem St.look_alone {s : St} (f c : Nat) (o : AO) (h : (s.alone f).look c = some o) : s.look c = some o ∧ ∀ cs e op w sp g z, o = .row cs e op w sp g z → g ≠ f := by
 have h' := St.get_of_look h
 rw [St.get_alone] at h'
 have hd : o ≠ .dead := fun e => St.look_live _ c (e ▸ h)
 cases hg : s.get c with
 | none => rw [hg] at h'; simp at h'
 | some q =>
  rw [hg] at h'
  simp at h'
  cases q with
  | dead => simp only [AO.kin] at h'; exact absurd h'.symm hd
  | row cs e op w sp g z =>
   simp only [AO.kin] at h'
   split at h'
   ·exact absurd h'.symm hd
   ·rename_i hne; subst h'; exact ⟨St.look_of_get hg (by simp), fun _ _ _ _ _ _ _ e => by cases e; exact hne⟩
  | map es => simp only [AO.kin] at h'; subst h'; exact ⟨St.look_of_get hg (by simp), fun _ _ _ _ _ _ _ e => by cases e⟩
  | loop a b c d e f g => simp only [AO.kin] at h'; subst h'; exact ⟨St.look_of_get hg (by simp), fun _ _ _ _ _ _ _ e => by cases e⟩
  | sit a b => simp only [AO.kin] at h'; subst h'; exact ⟨St.look_of_get hg (by simp), fun _ _ _ _ _ _ _ e => by cases e⟩
  | dfr => simp only [AO.kin] at h'; subst h'; exact ⟨St.look_of_get hg (by simp), fun _ _ _ _ _ _ _ e => by cases e⟩
theorem Held.mono {base : Nat} {ρ ρ' : Rho} {b : Nat} {o : AO} {w w' : World} (h : Held base ρ b o w) (hl : ρ.le ρ') (hk : ∀ B, blk ρ b = some B → w'.heap[B]? = w.heap[B]?) : Held base ρ' b o w' := by
 cases o with
 | row cs e op own sp f z =>
  obtain ⟨B, δ, x, c, t, fz, h1, h2, h3, h4, h5, h6⟩ := h
  refine ⟨B, δ, x, c, t, fz, hl _ _ h1, ?_, fun i v hv => ?_, h4, h5, h6⟩
  ·rw [hk B (by simp [blk, h1])]; exact h2
  ·obtain ⟨u, e1, e2⟩ := h3 i v hv; exact ⟨u, conv_mono hl _ _ e1, e2⟩
 | map es =>
  obtain ⟨B, δ, x, es', clk, h1, h2, h3, h4, h5⟩ := h
  exact ⟨B, δ, x, es', clk, hl _ _ h1, by rw [hk B (by simp [blk, h1])]; exact h2, h3, convs_mono hl _ _ h4, convs_mono hl _ _ h5⟩
 | loop st pend ts ps as bo D =>
  obtain ⟨B, δ, x, fn, dB, ts', h1, h2, h3, h4, δ', x', h5⟩ := h
  exact ⟨B, δ, x, fn, dB, ts', hl _ _ h1, by rw [hk B (by simp [blk, h1])]; exact h2, h3, convs_mono hl _ _ h4, δ', x', hl _ _ h5⟩
 | sit s pos =>
  obtain ⟨B, δ, x, h1, h2, h3⟩ := h
  exact ⟨B, δ, x, hl _ _ h1, by rw [hk B (by simp [blk, h1])]; exact h2, h3⟩
 | dfr =>
  obtain ⟨B, δ, x, h1, h2, h3⟩ := h
  exact ⟨B, δ, x, hl _ _ h1, by rw [hk B (by simp [blk, h1])]; exact h2, h3⟩
 | dead => trivial
theorem Held.place {base : Nat} {ρ : Rho} {b : Nat} {o : AO} {w : World} (h : Held base ρ b o w) (hd : o ≠ .dead) : ∃ B, blk ρ b = some B ∧ B < w.heap.size ∧ (o.own = true → base ≤ B) := by
 have lt : ∀ {B : Nat} {x : Obj}, w.heap[B]? = some x → B < w.heap.size := fun h => (Array.getElem?_eq_some_iff.1 h).1
 cases o with
 | row cs e op own sp f z =>
  obtain ⟨B, δ, x, c, t, fz, h1, h2, h3, h4, h5, h6⟩ := h
  exact ⟨B, by simp [blk, h1], lt h2, fun e => (h4 e).1⟩
 | map es => obtain ⟨B, δ, x, es', clk, h1, h2, h3, _⟩ := h; exact ⟨B, by simp [blk, h1], lt h2, fun _ => h3⟩
 | loop st pend ts ps as bo D => obtain ⟨B, δ, x, fn, dB, ts', h1, h2, h3, _⟩ := h; exact ⟨B, by simp [blk, h1], lt h2, fun _ => h3⟩
 | sit s pos => obtain ⟨B, δ, x, h1, h2, h3⟩ := h; exact ⟨B, by simp [blk, h1], lt h2, fun _ => h3.1⟩
 | dfr => obtain ⟨B, δ, x, h1, h2, h3⟩ := h; exact ⟨B, by simp [blk, h1], lt h2, fun _ => h3⟩
 | dead => exact absurd rfl hd
theorem Held.back {base : Nat} {ρ ρ' : Rho} {b : Nat} {o : AO} {w w' : World} (h : Held base ρ b o w) (h' : Held base ρ' b o w') (hl : ρ.le ρ') : Held base ρ b o w' := by
 cases o with
 | row cs e op own sp f z =>
  obtain ⟨B, δ, x, c, t, fz, h1, h2, h3, h4, h5, h6⟩ := h
  obtain ⟨B', δ', x', c', t', fz', k1, k2, k3, k4, k5, k6⟩ := h'
  have := hl _ _ h1
  rw [k1] at this; cases this
  refine ⟨B, δ, x, c', t', fz', h1, k2, fun i v hv => ?_, k4, k5, k6⟩
  obtain ⟨u, e1, _⟩ := h3 i v hv
  obtain ⟨u', e2, e3⟩ := k3 i v hv
  have := conv_mono hl _ _ e1
  rw [e2] at this; cases this
  exact ⟨u, e1, e3⟩
 | map es =>
  obtain ⟨B, δ, x, es', clk, h1, h2, h3, h4, h5⟩ := h
  obtain ⟨B', δ', x', es'', clk', k1, k2, k3, k4, k5⟩ := h'
  have := hl _ _ h1
  rw [k1] at this; cases this
  have e1 := convs_mono hl _ _ h4
  have e2 := convs_mono hl _ _ h5
  rw [k4] at e1; rw [k5] at e2
  simp only [Option.some.injEq] at e1 e2
  exact ⟨B, δ, x, es'', clk', h1, k2, k3, by rw [e1]; exact h4, by rw [e2]; exact h5⟩
 | loop st pend ts ps as bo D =>
  obtain ⟨B, δ, x, fn, dB, ts', h1, h2, h3, h4, δ', x', h5⟩ := h
  obtain ⟨B2, δ2, x2, fn2, dB2, ts2, k1, k2, k3, k4, δ3, x3, k5⟩ := h'
  have := hl _ _ h1
  rw [k1] at this; cases this
  have e1 := convs_mono hl _ _ h4
  rw [k4] at e1; cases e1
  have e2 := hl _ _ h5
  rw [k5] at e2; cases e2
  exact ⟨B, δ, x, fn2, dB, ts', h1, k2, k3, h4, δ', x', h5⟩
 | sit s pos =>
  obtain ⟨B, δ, x, h1, h2, h3⟩ := h
  obtain ⟨B', δ', x', k1, k2, k3⟩ := h'
  have := hl _ _ h1
  rw [k1] at this; cases this
  exact ⟨B, δ, x, h1, k2, k3⟩
 | dfr =>
  obtain ⟨B, δ, x, h1, h2, h3⟩ := h
  obtain ⟨B', δ', x', k1, k2, k3⟩ := h'
  have := hl _ _ h1
  rw [k1] at this; cases this
  exact ⟨B, δ, x, h1, k2, k3⟩
 | dead => trivial
theorem Rel.place {base : Nat} {ρ : Rho} {g : Look} {w : World} (h : Rel base ρ g w) {b : Nat} {o : AO} (hb : g b = some o) : ∃ B, blk ρ b = some B ∧ B < w.heap.size ∧ (o.own = true → base ≤ B) :=
 (h.obj b o hb).place (fun e => h.live b (e ▸ hb))
theorem Rel.less {base : Nat} {ρ : Rho} {g g' : Look} {w : World} (h : Rel base ρ g w) (hg : ∀ b o, g' b = some o → g b = some o) : Rel base ρ g' w where
 obj := fun b o e => h.obj b o (hg b o e)
 apart := fun b b' o o' e e' => h.apart b b' o o' (hg b o e) (hg b' o' e')
 kin := fun b o e => h.kin b o (hg b o e)
 alone := fun b o e1 hs b' o' e2 => h.alone b o (hg _ _ e1) hs b' o' (hg _ _ e2)
 live := fun b e => h.live b (hg _ _ e)
 base_le := h.base_le
theorem Rel.drew {base : Nat} {ρ : Rho} {g : Look} {w : World} (h : Rel base ρ g w) : Rel base ρ g w.drew where
 obj := fun b o e => (h.obj b o e).mono (Rho.le.refl ρ) (fun _ _ => rfl)
 apart := h.apart
 kin := h.kin
 alone := h.alone
 live := h.live
 base_le := h.base_le
theorem Rel.back {base : Nat} {ρ ρ' : Rho} {g g' : Look} {w w' : World} (h : Rel base ρ g w) (h' : Rel base ρ' g' w') (hl : ρ.le ρ') (hg : ∀ b o, g b = some o → g' b = some o) : Rel base ρ g w' where
 obj := fun b o e => (h.obj b o e).back (h'.obj b o (hg b o e)) hl
 apart := h.apart
 kin := h.kin
 alone := h.alone
 live := h.live
 base_le := h'.base_le
end Go.Vm
