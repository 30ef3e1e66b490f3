/-
 Part of the proof that a machine over named lists stands for the program's runs (VwHeap). No conditions beyond those that its theorems name.
-/
import Derived.Test.YtjljleemknmgoaaVwBase
namespace Go.Vm2
open Go Go.Vm
set_option linter.unusedVariables false
theorem get_cons (nx fz : Nat) (y : Nat) (o : Ob) (l : List (Nat × Ob)) (x : Nat) : (H.get ⟨nx, fz, (y, o) :: l⟩ x) = if y = x then some o else H.get ⟨nx, fz, l⟩ x := look_cons y o l x
theorem Held.mono {n n' : Nat} {ν ν' : Nu} {x : Nat} {o : Ob} {g g' : Nat → Option AO} (h : Held n ν x o g) (hx : x < n) (hν : Nu.le n ν ν') (hn : n ≤ n') (hg : ∀ B b, ν x = some (B, b) → g' B = g B) : Held n' ν' x o g' := by
 cases o with
 | cells cs =>
  obtain ⟨B, as, e, z, h1, h2, h3⟩ := h
  exact ⟨B, as, e, z, by rw [hν x hx]; exact h1, by rw [hg B 0 h1]; exact h2, Cvs.mono hν hn _ _ h3⟩
 | arr ks m a =>
  obtain ⟨h0, h | ⟨B, b0, r, h1, h2, h3⟩⟩ := h
  ·exact ⟨h0, .inl (by rw [hν x hx]; exact h)⟩
  ·exact ⟨h0, .inr ⟨B, b0, r, by rw [hν x hx]; exact h1, by rw [hg B b0 h1]; exact h2, h3⟩⟩
 | loop st pend t nt ps as bo d =>
  obtain ⟨B, b0, ts, D, d0, h1, h2, h3, h4, h5⟩ := h
  exact ⟨B, b0, ts, D, d0, by rw [hν x hx]; exact h1, by omega, by rw [hν d h2]; exact h3, by rw [hg B b0 h1]; exact h4, h5.mono hν hn⟩
 | dfr =>
  obtain ⟨B, b0, h1, h2⟩ := h
  exact ⟨B, b0, by rw [hν x hx]; exact h1, by rw [hg B b0 h1]; exact h2⟩
 | sit l pos =>
  obtain ⟨B, h1, h2⟩ := h
  exact ⟨B, by rw [hν x hx]; exact h1, by rw [hg B 0 h1]; exact h2⟩
 | map kt ks ag l =>
  obtain ⟨B, b0, h1, h2⟩ := h
  exact ⟨B, b0, by rw [hν x hx]; exact h1, by rw [hg B b0 h1]; exact h2⟩
 | smap ks ag l =>
  obtain ⟨B, b0, h1, h2⟩ := h
  exact ⟨B, b0, by rw [hν x hx]; exact h1, by rw [hg B b0 h1]; exact h2⟩
 | pmap ks ag l =>
  obtain ⟨B, b0, h1, h2⟩ := h
  exact ⟨B, b0, by rw [hν x hx]; exact h1, by rw [hg B b0 h1]; exact h2⟩
 | tarr κ e m a =>
  obtain ⟨h0, h | ⟨B, cs, el, op, w, sp, f, z, h1, h2, h3, h4, h5⟩⟩ := h
  ·exact ⟨h0, .inl (by rw [hν x hx]; exact h)⟩
  ·exact ⟨h0, .inr ⟨B, cs, el, op, w, sp, f, z, by rw [hν x hx]; exact h1, by rw [hg B 0 h1]; exact h2, h3, h4, fun i j c hi hj => (h5 i j c hi hj).mono hν.G⟩⟩
 | tok => trivial
 | gone => trivial
theorem get_lt {s : St} {b : Nat} {o : AO} (h : s.get b = some o) : b < s.n := by
 rw [St.get_def] at h
 split at h
 ·assumption
 ·cases h
theorem Held.here {n : Nat} {ν : Nu} {x : Nat} {o : Ob} {g : Nat → Option AO} (h : Held n ν x o g) (hl : o.live = true) {B b : Nat} (hν : ν x = some (B, b)) : ∃ r, g B = some r := by
 cases o with
 | cells cs => obtain ⟨B', as, e, z, h1, h2, h3⟩ := h; rw [hν] at h1; cases h1; exact ⟨_, h2⟩
 | arr ks m a =>
  obtain ⟨h0, h | ⟨B', b0, r, h1, h2, h3⟩⟩ := h
  ·rw [hν] at h; cases h.1
  ·rw [hν] at h1; cases h1; exact ⟨_, h2⟩
 | loop st pend t nt ps as bo d => obtain ⟨B', b0, ts, D, d0, h1, h2, h3, h4, h5⟩ := h; rw [hν] at h1; cases h1; exact ⟨_, h4⟩
 | dfr => obtain ⟨B', b0, h1, h2⟩ := h; rw [hν] at h1; cases h1; exact ⟨_, h2⟩
 | sit l pos => obtain ⟨B', h1, h2⟩ := h; rw [hν] at h1; cases h1; exact ⟨_, h2⟩
 | map kt ks ag l => obtain ⟨B', b0, h1, h2⟩ := h; rw [hν] at h1; cases h1; exact ⟨_, h2⟩
 | smap ks ag l => obtain ⟨B', b0, h1, h2⟩ := h; rw [hν] at h1; cases h1; exact ⟨_, h2⟩
 | pmap ks ag l => obtain ⟨B', b0, h1, h2⟩ := h; rw [hν] at h1; cases h1; exact ⟨_, h2⟩
 | tarr κ e m a =>
  obtain ⟨h0, h | ⟨B, cs, el, op, w, sp, f, z, h1, h2, h3⟩⟩ := h
  ·rw [hν] at h; cases h.1
  ·rw [hν] at h1; cases h1; exact ⟨_, h2⟩
 | tok => cases hl
 | gone => cases hl
theorem Held.alive {n : Nat} {ν : Nu} {x : Nat} {o : Ob} {g : Nat → Option AO} (h : Held n ν x o g) (hl : o.live = true) {B b : Nat} (hν : ν x = some (B, b)) : g B ≠ some .dead := by
 intro e
 cases o with
 | cells cs => obtain ⟨B', as, e', z, h1, h2, h3⟩ := h; rw [hν] at h1; cases h1; rw [h2] at e; cases e
 | arr ks m a =>
  obtain ⟨h0, h | ⟨B', b0, r, h1, h2, h3⟩⟩ := h
  ·rw [hν] at h; cases h.1
  ·rw [hν] at h1; cases h1; rw [h2] at e; cases e; exact h3
 | loop st pend t nt ps as bo d => obtain ⟨B', b0, ts, D, d0, h1, h2, h3, h4, h5⟩ := h; rw [hν] at h1; cases h1; rw [h4] at e; cases e
 | dfr => obtain ⟨B', b0, h1, h2⟩ := h; rw [hν] at h1; cases h1; rw [h2] at e; cases e
 | sit l pos => obtain ⟨B', h1, h2⟩ := h; rw [hν] at h1; cases h1; rw [h2] at e; cases e
 | map kt ks ag l => obtain ⟨B', b0, h1, h2⟩ := h; rw [hν] at h1; cases h1; rw [h2] at e; cases e
 | smap ks ag l => obtain ⟨B', b0, h1, h2⟩ := h; rw [hν] at h1; cases h1; rw [h2] at e; cases e
 | pmap ks ag l => obtain ⟨B', b0, h1, h2⟩ := h; rw [hν] at h1; cases h1; rw [h2] at e; cases e
 | tarr κ e' m a =>
  obtain ⟨h0, h | ⟨B, cs, el, op, w, sp, f, z, h1, h2, h3⟩⟩ := h
  ·rw [hν] at h; cases h.1
  ·rw [hν] at h1; cases h1; rw [h2] at e; cases e
 | tok => cases hl
 | gone => cases hl
structure Upd (s s' : St) (B : Nat) : Prop where
 n : s'.n = s.n
 ok : s'.ok
 fam : fam s' B = fam s B
 own : ∀ cs e o w p f z, s'.get B = some (.row cs e o w p f z) → w = true
 oth : ∀ b, b ≠ B → s'.get b = s.get b ∨ (Go.Vm2.fam s b = Go.Vm2.fam s B ∧ s'.get b = some .dead ∧ s'.dirty ≤ b)
 d1 : s'.dirty ≤ s.dirty
 d2 : s'.dirty ≤ B
 d3 : ∀ D, D ≤ s.dirty → D ≤ B → D ≤ Go.Vm2.fam s B → D ≤ s'.dirty
variable {c : Px} {ν : Nu} {h : H} {s s' : St}
theorem Upd.same {B : Nat} (u : Upd s s' B) {b : Nat} (h1 : b ≠ B) (h2 : Go.Vm2.fam s b ≠ Go.Vm2.fam s B) : s'.get b = s.get b := by
 rcases u.oth b h1 with e | ⟨e, _⟩
 ·exact e
 ·exact absurd e h2
theorem Upd.fam_same {B : Nat} (u : Upd s s' B) {b : Nat} (h1 : b ≠ B) (h2 : Go.Vm2.fam s b ≠ Go.Vm2.fam s B) : Go.Vm2.fam s' b = Go.Vm2.fam s b := by
 unfold Go.Vm2.fam; rw [u.same h1 h2]
theorem R.put {x B b0 : Nat} {o o' : Ob} (r : R c ν h s) (hx : h.get x = some o) (hfz : h.fz ≤ x) (ho : o.own = true) (hν : ν x = some (B, b0)) (u : Upd s s' B) (held : Held h.nx ν x o' s'.get) (htk : o' ≠ .tok := by intro e; cases e) :
  R c ν ⟨h.nx, h.fz, (x, o') :: h.l⟩ s' := by
 have hg : ∀ y q, H.get ⟨h.nx, h.fz, (x, o') :: h.l⟩ y = some q → (y = x ∧ q = o') ∨ (y ≠ x ∧ h.get y = some q) := by
  intro y q e
  rw [get_cons] at e
  split at e
  ·rename_i e'; subst e'; simp at e; exact .inl ⟨rfl, e.symm⟩
  ·rename_i e'; exact .inr ⟨fun e2 => e' e2.symm, e⟩
 have far : ∀ y q C b, y ≠ x → h.get y = some q → q.live = true → ν y = some (C, b) → C ≠ B ∧ fam s C ≠ fam s B := by
  intro y q C b hy hq hl hC
  have := r.sep x y o q B C b0 b (fun e => hy e.symm) hx hq hfz ho hl hν hC
  exact ⟨fun e => this.1 e.symm, fun e => this.2 e.symm⟩
 have xlt := r.lt x o hx
 refine ⟨u.ok, ?_, ?_, ?_, ?_, ?_, ?_, ?_, ?_, r.p_le, by rw [u.n]; exact r.lo_le, r.new, fun x B b h1 h2 => by rw [u.n]; exact r.blk x B b h1 h2, ?_, ?_⟩
 ·intro y q e
  rcases hg y q e with ⟨rfl, rfl⟩ | ⟨hy, hq⟩
  ·exact held
  ·by_cases hl : q.live = true
   ·refine (r.obj y q hq).mono (r.lt y q hq) Nu.le.refl (Nat.le_refl _) (fun C b hC => ?_)
    have := far y q C b hy hq hl hC
    exact u.same this.1 this.2
   ·cases q <;> first | trivial | exact absurd rfl hl
 ·intro y q e
  rcases hg y q e with ⟨rfl, rfl⟩ | ⟨hy, hq⟩
  ·exact xlt
  ·exact r.lt y q hq
 ·intro y z q q' C C' b b' hyz hy hz hfy hoy hlz hC hC'
  have liveOf : ∀ q : Ob, q.own = true → q.live = true := by intro q; cases q <;> simp [Ob.own, Ob.live]
  rcases hg y q hy with ⟨rfl, rfl⟩ | ⟨hy1, hy2⟩ <;> rcases hg z q' hz with ⟨rfl, rfl⟩ | ⟨hz1, hz2⟩
  ·exact absurd rfl hyz
  ·rw [hν] at hC; cases hC
   have := far z q' C' b' hz1 hz2 hlz hC'
   exact ⟨fun e => this.1 e.symm, by rw [u.fam, u.fam_same this.1 this.2]; exact fun e => this.2 e.symm⟩
  ·rw [hν] at hC'; cases hC'
   have := far y q C b hy1 hy2 (liveOf _ hoy) hC
   exact ⟨this.1, by rw [u.fam, u.fam_same this.1 this.2]; exact this.2⟩
  ·have h1 := far y q C b hy1 hy2 (liveOf _ hoy) hC
   have h2 := far z q' C' b' hz1 hz2 hlz hC'
   rw [u.fam_same h1.1 h1.2, u.fam_same h2.1 h2.2]
   exact r.sep y z q q' C C' b b' hyz hy2 hz2 hfy hoy hlz hC hC'
 ·intro y q C b b' hy hfy hoy hC hG
  have gx := r.gsep x o B b0 b' hx hfz ho hν hG
  have gfam : fam s' b' = fam s b' := u.fam_same (fun e => gx.1 e.symm) (fun e => gx.2 e.symm)
  have liveOf : ∀ q : Ob, q.own = true → q.live = true := by intro q; cases q <;> simp [Ob.own, Ob.live]
  rcases hg y q hy with ⟨rfl, rfl⟩ | ⟨hy1, hy2⟩
  ·rw [hν] at hC; cases hC
   rw [u.fam, gfam]; exact gx
  ·have h1 := far y q C b hy1 hy2 (liveOf _ hoy) hC
   rw [u.fam_same h1.1 h1.2, gfam]
   exact r.gsep y q C b b' hy2 hfy hoy hC hG
 ·intro b q hq
  have gx := r.gsep x o B b0 b hx hfz ho hν (by rw [hq]; rfl)
  rw [u.same (fun e => gx.1 e.symm) (fun e => gx.2 e.symm)]
  exact r.froz b q hq
 ·intro b
  by_cases e : b = B
  ·subst e; rw [u.fam]; exact r.kin b
  ·rcases u.oth b e with e1 | ⟨_, e1, _⟩
   ·unfold fam; rw [e1]; exact r.kin b
   ·unfold fam; rw [e1]; exact Nat.le_refl b
 ·intro D hD
  obtain ⟨h1, h2, h3, h4⟩ := r.th D hD
  have hB := h4 x o B b0 hx hfz ho hν
  refine ⟨by rw [u.n]; exact h1, u.d3 D h2 hB.1 hB.2, ?_, ?_⟩
  ·intro b cs e op w p f z hb hrow
   by_cases eb : b = B
   ·subst eb
    refine ⟨u.own _ _ _ _ _ _ _ hrow, ?_⟩
    have : fam s' b = f := by unfold fam; rw [hrow]; rfl
    rw [← this, u.fam]; exact hB.2
   ·rcases u.oth b eb with e1 | ⟨_, e1, _⟩
    ·rw [e1] at hrow; exact h3 b cs e op w p f z hb hrow
    ·rw [e1] at hrow; cases hrow
  ·intro y q C b hy hfy hoy hC
   have liveOf : ∀ q : Ob, q.own = true → q.live = true := by intro q; cases q <;> simp [Ob.own, Ob.live]
   rcases hg y q hy with ⟨rfl, rfl⟩ | ⟨hy1, hy2⟩
   ·rw [hν] at hC; cases hC; rw [u.fam]; exact hB
   ·have h1 := far y q C b hy1 hy2 (liveOf _ hoy) hC
    rw [u.fam_same h1.1 h1.2]
    exact h4 y q C b hy2 hfy hoy hC
 ·intro D hD
  obtain ⟨h1, h2⟩ := r.tc D hD
  refine ⟨by rw [u.n]; exact h1, fun hd => ?_⟩
  have k1 := u.d1
  have k2 := u.d2
  have h3 := h2 (by omega)
  intro b cs e op w p f z hb hrow
  by_cases eb : b = B
  ·subst eb
   refine ⟨u.own _ _ _ _ _ _ _ hrow, ?_⟩
   have e1 : fam s' b = f := by unfold fam; rw [hrow]; rfl
   rw [← e1, u.fam]
   unfold fam famO
   split
   ·rename_i hs; exact (h3 b _ _ _ _ _ _ _ hb hs).2
   ·exact hb
  ·rcases u.oth b eb with e1 | ⟨_, e1, _⟩
   ·rw [e1] at hrow; exact h3 b cs e op w p f z hb hrow
   ·rw [e1] at hrow; cases hrow
 ·refine ⟨by rw [u.n]; exact r.snap.1, fun b hb hd => ?_⟩
  have hne : b ≠ B := by have := u.d2; omega
  rcases u.oth b hne with e1 | ⟨_, _, e1⟩
  ·rw [e1]; exact r.snap.2 b hb (by have := u.d1; omega)
  ·omega
 ·have gs : ∀ b, (ν.G b).isSome = true → s'.get b = s.get b ∧ fam s' b = fam s b := by
   intro b hb
   have gx := r.gr.ga x o B b0 b hx hfz ho hν hb
   exact ⟨u.same (fun e => gx.1 e.symm) (fun e => gx.2 e.symm), u.fam_same (fun e => gx.1 e.symm) (fun e => gx.2 e.symm)⟩
  have liveOf : ∀ q : Ob, q.own = true → q.live = true := by intro q; cases q <;> simp [Ob.own, Ob.live]
  refine ⟨fun b q hq => ?_, ?_, fun b hb => ?_, fun hn y hy => ?_⟩
  ·rw [(gs b (by rw [hq]; rfl)).1]; exact r.gr.gl b q hq
  ·intro y q C b b' hy hfy hoy hC hG
   rw [(gs b' hG).2]
   rcases hg y q hy with ⟨rfl, rfl⟩ | ⟨hy1, hy2⟩
   ·rw [hν] at hC; cases hC
    rw [u.fam]; exact r.gr.ga y o B b0 b' hx hfz ho hν hG
   ·have h1 := far y q C b hy1 hy2 (liveOf _ hoy) hC
    rw [u.fam_same h1.1 h1.2]
    exact r.gr.ga y q C b b' hy2 hfy hoy hC hG
  ·rcases r.gr.gg b hb with k | ⟨k1, k2, k3⟩
   ·exact .inl k
   ·refine .inr ⟨k1, fun b' hb' => ?_, fun D hD => ?_⟩
    ·have gx := r.gsep x o B b0 b' hx hfz ho hν hb'
     rw [(gs b hb).2, u.fam_same (fun e => gx.1 e.symm) (fun e => gx.2 e.symm)]
     exact k2 b' hb'
    ·rw [(gs b hb).2]; exact k3 D hD
  ·rcases hg y _ hy with ⟨_, e⟩ | ⟨_, e⟩
   ·exact htk e.symm
   ·exact r.gr.tk hn y e
theorem R.sub (r : R c ν h s) {fz : Nat} (hfz : h.fz ≤ fz) {l : List (Nat × Ob)} (hl : ∀ x o, look l x = some o → o = .gone ∧ x < h.nx ∨ h.get x = some o) : R c ν ⟨h.nx, fz, l⟩ s := by
 have liveOf : ∀ q : Ob, q.own = true → q.live = true := by intro q; cases q <;> simp [Ob.own, Ob.live]
 have key : ∀ x o, H.get ⟨h.nx, fz, l⟩ x = some o → o.live = true → h.get x = some o := by
  intro x o e k
  rcases hl x o e with ⟨e', _⟩ | e'
  ·subst e'; cases k
  ·exact e'
 refine ⟨r.ok, ?_, ?_, ?_, ?_, r.froz, r.kin, ?_, r.tc, r.p_le, r.lo_le, r.new, r.blk, r.snap, r.gr.gl, ?_, r.gr.gg, ?_⟩
 ·intro x o e
  rcases hl x o e with ⟨e', _⟩ | e'
  ·subst e'; trivial
  ·exact r.obj x o e'
 ·intro x o e
  rcases hl x o e with ⟨_, e'⟩ | e'
  ·exact e'
  ·exact r.lt x o e'
 ·intro x y o o' B B' b b' hxy hx hy hf ho hl' hB hB'
  exact r.sep x y o o' B B' b b' hxy (key x o hx (liveOf _ ho)) (key y o' hy hl') (Nat.le_trans hfz hf) ho hl' hB hB'
 ·intro x o B b b' hx hf ho hB hG
  exact r.gsep x o B b b' (key x o hx (liveOf _ ho)) (Nat.le_trans hfz hf) ho hB hG
 ·intro D hD
  obtain ⟨h1, h2, h3, h4⟩ := r.th D hD
  exact ⟨h1, h2, h3, fun x o B b hx hf ho hB => h4 x o B b (key x o hx (liveOf _ ho)) (Nat.le_trans hfz hf) ho hB⟩
 ·intro x o B b b' hx hf ho hB hG
  exact r.gr.ga x o B b b' (key x o hx (liveOf _ ho)) (Nat.le_trans hfz hf) ho hB hG
 ·intro hn x hx
  rcases hl x _ hx with ⟨e, _⟩ | e
  ·cases e
  ·exact r.gr.tk hn x e
theorem R.forget (r : R c ν h s) {x : Nat} (hx : x < h.nx) : R c ν ⟨h.nx, h.fz, (x, .gone) :: h.l⟩ s :=
 r.sub (Nat.le_refl _) (fun y o e => by
  rw [look_cons] at e
  split at e
  ·rename_i e'; subst e'; simp at e; exact .inl ⟨e.symm, hx⟩
  ·exact .inr e)
def Nu.set (ν : Nu) (x : Nat) (v : Option (Nat × Nat)) : Nu := ⟨fun y => if y = x then v else ν y, ν.G⟩
theorem Nu.set_lt {ν : Nu} {x : Nat} {v : Option (Nat × Nat)} : Nu.le x ν (Nu.set ν x v) := ⟨fun y hy => by show (if y = x then v else ν y) = ν y; rw [if_neg (by omega)], fun _ _ h => h⟩
theorem Nu.set_self {ν : Nu} {x : Nat} {v : Option (Nat × Nat)} : (Nu.set ν x v) x = v := by show (if x = x then v else ν x) = v; rw [if_pos rfl]
theorem R.push (r : R c ν h s) {q : AO} {o : Ob} {b0 : Nat} (hF1 : famO (some q) s.n ≤ s.n)
  (hF2 : ∀ y o' B' b', h.get y = some o' → o'.live = true → ν y = some (B', b') → fam s B' ≠ famO (some q) s.n)
  (hF3 : ∀ b', (c.G b').isSome = true → fam s b' ≠ famO (some q) s.n)
  (hF4 : ∀ D, c.TH D → D ≤ famO (some q) s.n)
  (hF5 : ∀ D, c.TC D → D ≤ s.dirty → D ≤ famO (some q) s.n)
  (hF6 : ∀ b', (ν.G b').isSome = true → fam s b' ≠ famO (some q) s.n)
  (hw : ∀ cs e o w p f z, q = .row cs e o w p f z → w = true)
  (held : Held (h.nx + 1) (Nu.set ν h.nx (some (s.n, b0))) h.nx o (s.push q).get) (htk : o ≠ .tok := by intro e; cases e) :
  R c (Nu.set ν h.nx (some (s.n, b0))) ⟨h.nx + 1, h.fz, (h.nx, o) :: h.l⟩ (s.push q) := by
 have liveOf : ∀ q : Ob, q.own = true → q.live = true := by intro q; cases q <;> simp [Ob.own, Ob.live]
 have gp : ∀ b, b < s.n → (s.push q).get b = s.get b := fun b hb => by rw [sget_push, if_neg (by omega)]
 have gn : (s.push q).get s.n = some q := by rw [sget_push, if_pos rfl]
 have fp : ∀ b, b < s.n → fam (s.push q) b = fam s b := fun b hb => by unfold fam; rw [gp b hb]
 have fn : fam (s.push q) s.n = famO (some q) s.n := by unfold fam; rw [gn]
 have hg : ∀ y q', H.get ⟨h.nx + 1, h.fz, (h.nx, o) :: h.l⟩ y = some q' → (y = h.nx ∧ q' = o) ∨ (y < h.nx ∧ h.get y = some q') := by
  intro y q' e
  rw [get_cons] at e
  split at e
  ·rename_i e'; subst e'; simp at e; exact .inl ⟨rfl, e.symm⟩
  ·rename_i e'; exact .inr ⟨r.lt y q' e, e⟩
 have old : ∀ y q' C b, y < h.nx → h.get y = some q' → q'.live = true → Nu.set ν h.nx (some (s.n, b0)) y = some (C, b) → ν y = some (C, b) ∧ C < s.n := by
  intro y q' C b hy hq hl hC
  rw [Nu.set_lt y hy] at hC
  obtain ⟨r', hr'⟩ := (r.obj y q' hq).here hl hC
  exact ⟨hC, get_lt hr'⟩
 refine ⟨sok_push q r.ok, ?_, ?_, ?_, ?_, ?_, ?_, ?_, ?_, Nat.le_succ_of_le r.p_le, Nat.le_succ_of_le r.lo_le, ?_, ?_, ?_, ?_⟩
 ·intro y q' e
  rcases hg y q' e with ⟨rfl, rfl⟩ | ⟨hy, hq⟩
  ·exact held
  ·by_cases hl : q'.live = true
   ·refine (r.obj y q' hq).mono hy Nu.set_lt (Nat.le_succ _) (fun C b hC => ?_)
    obtain ⟨r', hr'⟩ := (r.obj y q' hq).here hl hC
    exact gp C (get_lt hr')
   ·cases q' <;> first | trivial | exact absurd rfl hl
 ·intro y q' e
  rcases hg y q' e with ⟨rfl, rfl⟩ | ⟨hy, hq⟩
  ·exact Nat.lt_succ_self _
  ·exact Nat.lt_succ_of_lt hy
 ·intro y z q1 q2 C C' b b' hyz hy hz hfy hoy hlz hC hC'
  rcases hg y q1 hy with ⟨rfl, rfl⟩ | ⟨hy1, hy2⟩ <;> rcases hg z q2 hz with ⟨rfl, rfl⟩ | ⟨hz1, hz2⟩
  ·exact absurd rfl hyz
  ·rw [Nu.set_self] at hC; cases hC
   obtain ⟨e1, e2⟩ := old z q2 C' b' hz1 hz2 hlz hC'
   refine ⟨by omega, ?_⟩
   rw [fn, fp C' e2]; exact fun e => hF2 z q2 C' b' hz2 hlz e1 e.symm
  ·rw [Nu.set_self] at hC'; cases hC'
   obtain ⟨e1, e2⟩ := old y q1 C b hy1 hy2 (liveOf _ hoy) hC
   refine ⟨by omega, ?_⟩
   rw [fn, fp C e2]; exact hF2 y q1 C b hy2 (liveOf _ hoy) e1
  ·obtain ⟨e1, e2⟩ := old y q1 C b hy1 hy2 (liveOf _ hoy) hC
   obtain ⟨e3, e4⟩ := old z q2 C' b' hz1 hz2 hlz hC'
   rw [fp C e2, fp C' e4]
   exact r.sep y z q1 q2 C C' b b' hyz hy2 hz2 hfy hoy hlz e1 e3
 ·intro y q1 C b b' hy hfy hoy hC hG
  have gl : b' < s.n := by
   cases hb : c.G b' with
   | none => rw [hb] at hG; cases hG
   | some a => exact get_lt (r.froz b' a hb)
  rcases hg y q1 hy with ⟨rfl, rfl⟩ | ⟨hy1, hy2⟩
  ·rw [Nu.set_self] at hC; cases hC
   refine ⟨by omega, ?_⟩
   rw [fn, fp b' gl]; exact fun e => hF3 b' hG e.symm
  ·obtain ⟨e1, e2⟩ := old y q1 C b hy1 hy2 (liveOf _ hoy) hC
   rw [fp C e2, fp b' gl]
   exact r.gsep y q1 C b b' hy2 hfy hoy e1 hG
 ·intro b a ha
  have := r.froz b a ha
  rw [gp b (get_lt this)]; exact this
 ·intro b
  rcases Nat.lt_trichotomy b s.n with e | e | e
  ·rw [fp b e]; exact r.kin b
  ·subst e; rw [fn]; exact hF1
  ·unfold fam
   have : (s.push q).get b = none := by
    cases hh : (s.push q).get b with
    | none => rfl
    | some a => have := get_lt hh; simp only [St.push] at this; omega
   rw [this]; exact Nat.le_refl _
 ·intro D hD
  obtain ⟨h1, h2, h3, h4⟩ := r.th D hD
  refine ⟨Nat.le_succ_of_le h1, h2, ?_, ?_⟩
  ·intro b cs e op w p f z hb hrow
   have hlt := get_lt hrow
   simp only [St.push] at hlt
   rcases Nat.lt_or_ge b s.n with e1 | e1
   ·rw [gp b e1] at hrow; exact h3 b cs e op w p f z hb hrow
   ·have : b = s.n := by omega
    subst this
    rw [gn] at hrow; cases hrow
    exact ⟨hw _ _ _ _ _ _ _ rfl, hF4 D hD⟩
  ·intro y q1 C b hy hfy hoy hC
   rcases hg y q1 hy with ⟨rfl, rfl⟩ | ⟨hy1, hy2⟩
   ·rw [Nu.set_self] at hC; cases hC
    rw [fn]; exact ⟨h1, hF4 D hD⟩
   ·obtain ⟨e1, e2⟩ := old y q1 C b hy1 hy2 (liveOf _ hoy) hC
    rw [fp C e2]; exact h4 y q1 C b hy2 hfy hoy e1
 ·intro D hD
  obtain ⟨h1, h2⟩ := r.tc D hD
  refine ⟨Nat.le_succ_of_le h1, fun hd => ?_⟩
  intro b cs e op w p f z hb hrow
  have hlt := get_lt hrow
  simp only [St.push] at hlt
  rcases Nat.lt_or_ge b s.n with e1 | e1
  ·rw [gp b e1] at hrow; exact h2 hd b cs e op w p f z hb hrow
  ·have : b = s.n := by omega
   subst this
   rw [gn] at hrow; cases hrow
   exact ⟨hw _ _ _ _ _ _ _ rfl, hF5 D hD hd⟩
 ·intro y B b hp hlt hB
  rcases Nat.lt_or_ge y h.nx with e | e
  ·rw [Nu.set_lt y e] at hB; exact r.new y B b hp e hB
  ·have : y = h.nx := by simp only [] at hlt; omega
   subst this
   rw [Nu.set_self] at hB; cases hB; exact r.lo_le
 ·intro y B b hlt hB
  rcases Nat.lt_or_ge y h.nx with e | e
  ·rw [Nu.set_lt y e] at hB; exact Nat.lt_succ_of_lt (r.blk y B b e hB)
  ·have : y = h.nx := by simp only [] at hlt; omega
   subst this
   rw [Nu.set_self] at hB; cases hB; exact Nat.lt_succ_self _
 ·refine ⟨Nat.le_succ_of_le r.snap.1, fun b hb hd => ?_⟩
  have := r.snap.1
  rw [gp b (by omega)]
  exact r.snap.2 b hb hd
 ·have glt : ∀ b, (ν.G b).isSome = true → b < s.n := by
   intro b hb
   cases hh : ν.G b with
   | none => rw [hh] at hb; cases hb
   | some a => exact get_lt (r.gr.gl b a hh)
  refine ⟨fun b a ha => ?_, ?_, fun b hb => ?_, fun hn y hy => ?_⟩
  ·have := r.gr.gl b a ha
   rw [gp b (get_lt this)]; exact this
  ·intro y q1 C b b' hy hfy hoy hC hG
   have hG : (ν.G b').isSome = true := hG
   rcases hg y q1 hy with ⟨rfl, rfl⟩ | ⟨hy1, hy2⟩
   ·rw [Nu.set_self] at hC; cases hC
    have := glt b' hG
    refine ⟨by omega, ?_⟩
    rw [fn, fp b' this]; exact fun e => hF6 b' hG e.symm
   ·obtain ⟨e1, e2⟩ := old y q1 C b hy1 hy2 (liveOf _ hoy) hC
    rw [fp C e2, fp b' (glt b' hG)]
    exact r.gr.ga y q1 C b b' hy2 hfy hoy e1 hG
  ·have hb : (ν.G b).isSome = true := hb
   rcases r.gr.gg b hb with k | ⟨k1, k2, k3⟩
   ·exact .inl k
   ·refine .inr ⟨k1, fun b' hb' => ?_, fun D hD => ?_⟩
    ·have gl : b' < s.n := by
      cases hh : c.G b' with
      | none => rw [hh] at hb'; cases hb'
      | some a => exact get_lt (r.froz b' a hh)
     rw [fp b (glt b hb), fp b' gl]
     exact k2 b' hb'
    ·rw [fp b (glt b hb)]; exact k3 D hD
  ·rcases hg y _ hy with ⟨_, e⟩ | ⟨_, e⟩
   ·exact htk e.symm
   ·exact r.gr.tk hn y e
theorem R.push_new (r : R c ν h s) {q : AO} {o : Ob} {b0 : Nat} (hq : famO (some q) s.n = s.n)
  (hw : ∀ cs e o w p f z, q = .row cs e o w p f z → w = true)
  (held : Held (h.nx + 1) (Nu.set ν h.nx (some (s.n, b0))) h.nx o (s.push q).get) (htk : o ≠ .tok := by intro e; cases e) :
  R c (Nu.set ν h.nx (some (s.n, b0))) ⟨h.nx + 1, h.fz, (h.nx, o) :: h.l⟩ (s.push q) :=
 r.push (by omega)
  (fun y o' B' b' hy hl hB => by
   obtain ⟨r', hr'⟩ := (r.obj y o' hy).here hl hB
   have := get_lt hr'
   have := r.kin B'
   omega)
  (fun b' hG => by
   cases hb : c.G b' with
   | none => rw [hb] at hG; cases hG
   | some a => have := get_lt (r.froz b' a hb); have := r.kin b'; omega)
  (fun D hD => by rw [hq]; exact (r.th D hD).1) (fun D hD _ => by rw [hq]; exact (r.tc D hD).1)
  (fun b' hG => by
   cases hb : ν.G b' with
   | none => rw [hb] at hG; cases hG
   | some a => have := get_lt (r.gr.gl b' a hb); have := r.kin b'; omega) hw held htk
theorem Ex.refl (h : H) (ν : Nu) (s : St) : Ex h ν s h ν s := ⟨Nu.le.refl, Nat.le_refl _, rfl, Nat.le_refl _, fun x B b h1 h2 => by omega⟩
theorem Ex.trans {h h1 h2 : H} {ν ν1 ν2 : Nu} {s s1 s2 : St} (a : Ex h ν s h1 ν1 s1) (b : Ex h1 ν1 s1 h2 ν2 s2) : Ex h ν s h2 ν2 s2 where
 same := a.same.trans b.same a.nx
 nx := Nat.le_trans a.nx b.nx
 fz := b.fz.trans a.fz
 n := Nat.le_trans a.n b.n
 new := fun x B c h1 h2 h3 => by
  rcases Nat.lt_or_ge x _ with e | e
  ·exact a.new x B c h1 e (by rw [← b.same x e]; exact h3)
  ·exact Nat.le_trans a.n (b.new x B c e h2 h3)
theorem Ex.put (h : H) (ν : Nu) (s s' : St) (x : Nat) (o : Ob) (hn : s'.n = s.n) : Ex h ν s ⟨h.nx, h.fz, (x, o) :: h.l⟩ ν s' :=
 ⟨Nu.le.refl, Nat.le_refl _, rfl, by omega, fun x B b h1 h2 => by simp only [] at h2; omega⟩
theorem Ex.push (h : H) (ν : Nu) (s : St) (q : AO) (o : Ob) (b0 : Nat) : Ex h ν s ⟨h.nx + 1, h.fz, (h.nx, o) :: h.l⟩ (Nu.set ν h.nx (some (s.n, b0))) (s.push q) :=
 ⟨Nu.set_lt, Nat.le_succ _, rfl, Nat.le_succ _, fun x B b h1 h2 h3 => by
  have : x = h.nx := by simp only [] at h2; omega
  subst this; rw [Nu.set_self] at h3; cases h3; exact Nat.le_refl _⟩
noncomputable def Px.enter (c : Px) (h : H) (s : St) : Px := { G := c.G, Q := c.Q, nf := c.nf, TH := c.TH, TC := fun D => c.TC D ∧ D ≤ s.dirty, p := h.nx, lo := s.n, n0 := s.n, g0 := s.get }
theorem R.enter (r : R c ν h s) : R (c.enter h s) ν h { s with dirty := s.n } where
 ok := r.ok
 obj := r.obj
 lt := r.lt
 sep := r.sep
 gsep := r.gsep
 froz := r.froz
 kin := r.kin
 th := fun D hD => by obtain ⟨h1, h2, h3, h4⟩ := r.th D hD; exact ⟨h1, h1, h3, h4⟩
 tc := fun D hD => ⟨(r.tc D hD.1).1, fun _ => (r.tc D hD.1).2 hD.2⟩
 p_le := Nat.le_refl _
 lo_le := Nat.le_refl _
 new := fun x B b h1 h2 => by simp only [Px.enter] at h1; omega
 blk := r.blk
 snap := ⟨Nat.le_refl _, fun _ _ _ => rfl⟩
 gr := ⟨r.gr.gl, r.gr.ga, r.gr.gg, r.gr.tk⟩
theorem R.exit {ν' : Nu} {h' : H} {s2 : St} (r : R c ν h s) (r2 : R (c.enter h s) ν' h' s2) (same : Nu.le h.nx ν ν') (hn : s.n ≤ s2.n) : R c ν' h' { s2 with dirty := min s.dirty s2.dirty } where
 ok := r2.ok
 obj := r2.obj
 lt := r2.lt
 sep := r2.sep
 gsep := r2.gsep
 froz := r2.froz
 kin := r2.kin
 th := fun D hD => by
  obtain ⟨h1, h2, h3, h4⟩ := r2.th D hD
  obtain ⟨k1, k2, k3, k4⟩ := r.th D hD
  exact ⟨h1, Nat.le_min.2 ⟨k2, h2⟩, h3, h4⟩
 tc := fun D hD => by
  obtain ⟨k1, k2⟩ := r.tc D hD
  refine ⟨Nat.le_trans k1 hn, fun hd => ?_⟩
  simp only [] at hd
  exact (r2.tc D ⟨hD, by omega⟩).2 (by omega)
 p_le := Nat.le_trans r.p_le r2.p_le
 lo_le := Nat.le_trans r.lo_le hn
 new := fun x B b h1 h2 h3 => by
  rcases Nat.lt_or_ge x h.nx with e | e
  ·exact r.new x B b h1 e (by rw [← same x e]; exact h3)
  ·exact Nat.le_trans r.lo_le (r2.new x B b e h2 h3)
 blk := r2.blk
 snap := by
  refine ⟨Nat.le_trans r.snap.1 hn, fun b hb hd => ?_⟩
  simp only [] at hd
  have h1 := r2.snap.2 b (Nat.lt_of_lt_of_le hb r.snap.1) (by omega)
  have h2 := r.snap.2 b hb (by omega)
  exact h1.trans h2
 gr := ⟨r2.gr.gl, r2.gr.ga, r2.gr.gg, r2.gr.tk⟩
end Go.Vm2
