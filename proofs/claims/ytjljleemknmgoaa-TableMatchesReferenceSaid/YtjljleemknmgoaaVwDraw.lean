/-
 Part of the proof that a machine over named lists stands for the program's runs (VwDraw). No conditions beyond those that its theorems name.
-/
import Derived.Test.YtjljleemknmgoaaVwCode
namespace Go.Vm2
open Go Go.Vm
set_option linter.unusedVariables false
set_option linter.unusedSectionVars false
variable [Facts] [Val] [Sound] {P : Program} {tt : TT} {c : Px} {ν : Nu} {h : H} {s : St}
theorem look_append {α : Type} : ∀ (a b : List (Nat × α)) (x : Nat), look (a ++ b) x = match look a x with | some o => some o | none => look b x
 | [], b, x => rfl
 | (y, o) :: a, b, x => by
  rw [List.cons_append, look_cons, look_cons]
  split
  ·rfl
  ·exact look_append a b x
theorem look_newL (n : Nat) : ∀ (l : List (Nat × Ob)) (x : Nat), look (newL n l) x = if n ≤ x then look l x else none
 | [], x => by simp [newL, look]
 | (y, o) :: l, x => by
  simp only [newL]
  split
  ·rename_i e
   have e := Nat.le_of_ble_eq_true e
   rw [look_cons, look_cons]
   split
   ·rename_i e2; subst e2; rw [if_pos e]
   ·exact look_newL n l x
  ·rename_i e
   have e : ¬ n ≤ y := fun k => by rw [Nat.ble_eq_true_of_le k] at e; cases e
   rw [look_newL n l x, look_cons]
   split
   ·rename_i k
    have : ¬ y = x := by omega
    rw [if_neg this]
   ·rfl
theorem look_hideL (lo hi : Nat) : ∀ (l : List (Nat × Ob)) (x : Nat) (o : Ob), look (hideV.hideL lo hi l) x = some o → (o = .gone ∧ ∃ q, look l x = some q) ∨ (look l x = some o ∧ ¬ (lo ≤ x ∧ x < hi))
 | [], x, o, h => by simp [hideV.hideL, look] at h
 | (y, q) :: l, x, o, h => by
  simp only [hideV.hideL] at h
  split at h
  ·rename_i e1 e2
   rw [look_cons] at h
   split at h
   ·rename_i e; subst e; simp at h; exact .inl ⟨h.symm, q, by rw [look_cons, if_pos rfl]⟩
   ·rename_i e
    rcases look_hideL lo hi l x o h with ⟨k, q', k2⟩ | ⟨k, k2⟩
    ·exact .inl ⟨k, q', by rw [look_cons, if_neg e]; exact k2⟩
    ·exact .inr ⟨by rw [look_cons, if_neg e]; exact k, k2⟩
  ·rename_i hne
   rw [look_cons] at h
   split at h
   ·rename_i e; subst e; simp at h
    refine .inr ⟨by rw [look_cons, if_pos rfl, h], fun k => ?_⟩
    exact hne (Nat.ble_eq_true_of_le k.1) (Nat.ble_eq_true_of_le k.2)
   ·rename_i e
    rcases look_hideL lo hi l x o h with ⟨k, q', k2⟩ | ⟨k, k2⟩
    ·exact .inl ⟨k, q', by rw [look_cons, if_neg e]; exact k2⟩
    ·exact .inr ⟨by rw [look_cons, if_neg e]; exact k, k2⟩
theorem look_hideV (bs : List Nat) (i : Nat) : ∀ (m : List (Nat × Nat × Nat)) (l : List (Nat × Ob)) (x : Nat) (o : Ob), look (hideV bs i m l) x = some o → (o = .gone ∧ ∃ q, look l x = some q) ∨ (look l x = some o ∧ ∀ e ∈ m, tied bs e.1 i = false → ¬ (e.2.1 ≤ x ∧ x < e.2.2))
 | [], l, x, o, h => .inr ⟨h, fun e he => by simp at he⟩
 | (j, lo, hi) :: m, l, x, o, h => by
  simp only [hideV] at h
  split at h
  ·rename_i ht
   rcases look_hideV bs i m l x o h with k | ⟨k1, k2⟩
   ·exact .inl k
   ·refine .inr ⟨k1, fun e he hf => ?_⟩
    rcases List.mem_cons.1 he with e1 | e1
    ·subst e1; rw [ht] at hf; cases hf
    ·exact k2 e e1 hf
  ·rename_i ht
   rcases look_hideV bs i m _ x o h with ⟨k, q, k2⟩ | ⟨k1, k2⟩
   ·rcases look_hideL lo hi l x q k2 with ⟨_, q', k3⟩ | ⟨k3, _⟩
    ·exact .inl ⟨k, q', k3⟩
    ·exact .inl ⟨k, q, k3⟩
   ·rcases look_hideL lo hi l x o k1 with k3 | ⟨k3, k4⟩
    ·exact .inl k3
    ·refine .inr ⟨k3, fun e he hf => ?_⟩
     rcases List.mem_cons.1 he with e1 | e1
     ·subst e1; exact k4
     ·exact k2 e e1 hf
theorem look_noTok : ∀ (l : List (Nat × Ob)) (x : Nat), look (noTok l) x ≠ some .tok
 | [], x, h => by simp [noTok, look] at h
 | (y, o) :: l, x, h => by
  simp only [noTok] at h
  split at h
  ·rw [look_cons] at h
   split at h
   ·cases h
   ·exact look_noTok l x h
  ·rename_i hne
   rw [look_cons] at h
   split at h
   ·cases h; exact hne rfl
   ·exact look_noTok l x h
theorem look_noTok2 : ∀ (l : List (Nat × Ob)) (x : Nat) (o : Ob), look (noTok l) x = some o → (o = .gone ∧ ∃ q, look l x = some q) ∨ look l x = some o
 | [], x, o, h => by simp [noTok, look] at h
 | (y, q) :: l, x, o, h => by
  simp only [noTok] at h
  split at h
  ·rw [look_cons] at h ⊢
   split at h
   ·rename_i e; rw [if_pos e]; cases h; exact .inl ⟨rfl, _, rfl⟩
   ·rename_i e; rw [if_neg e]; exact look_noTok2 l x o h
  ·rw [look_cons] at h ⊢
   split at h
   ·rename_i e; rw [if_pos e]; exact .inr h
   ·rename_i e; rw [if_neg e]; exact look_noTok2 l x o h
theorem look_hideT (bs : List Nat) (i : Nat) (m : List (Nat × Nat × Nat)) (l : List (Nat × Ob)) (x : Nat) (o : Ob) (h : look (hideT bs i m l) x = some o) : (o = .gone ∧ ∃ q, look l x = some q) ∨ (look l x = some o ∧ ∀ e ∈ m, tied bs e.1 i = false → ¬ (e.2.1 ≤ x ∧ x < e.2.2)) := by
 rcases look_noTok2 _ x o h with ⟨k, q, k2⟩ | k
 ·rcases look_hideV bs i m l x q k2 with ⟨_, q', k3⟩ | ⟨k3, _⟩
  ·exact .inl ⟨k, q', k3⟩
  ·exact .inl ⟨k, q, k3⟩
 ·exact look_hideV bs i m l x o k
theorem look_retok (hl : List (Nat × Ob)) : ∀ (xs : List Nat) (l : List (Nat × Ob)) (x : Nat) (o : Ob), look (retok hl xs l) x = some o → (o = .tok ∧ look hl x = some .tok) ∨ look l x = some o
 | [], l, x, o, h => .inr h
 | y :: xs, l, x, o, h => by
  simp only [retok] at h
  split at h
  ·rename_i e
   rw [look_cons] at h
   split at h
   ·rename_i e2; subst e2; cases h; exact .inl ⟨rfl, e⟩
   ·exact look_retok hl xs l x o h
  ·exact look_retok hl xs l x o h
theorem R.retok {nx fz : Nat} {l hl : List (Nat × Ob)} {xs : List Nat} (r : R c ν ⟨nx, fz, l⟩ s) (hlt : ∀ x, look hl x = some .tok → x < nx) (hnf : c.nf → ∀ x, look hl x ≠ some .tok) : R c ν ⟨nx, fz, retok hl xs l⟩ s := by
 have old : ∀ x o, look (Go.Vm2.retok hl xs l) x = some o → o.live = true → look l x = some o := by
  intro x o hx hl'
  rcases look_retok hl xs l x o hx with ⟨e, _⟩ | e
  ·subst e; cases hl'
  ·exact e
 refine ⟨r.ok, ?_, ?_, ?_, ?_, r.froz, r.kin, ?_, r.tc, r.p_le, r.lo_le, r.new, r.blk, r.snap, r.gr.gl, ?_, r.gr.gg, ?_⟩
 ·intro x o hx
  rcases look_retok hl xs l x o hx with ⟨e, _⟩ | e
  ·subst e; trivial
  ·exact r.obj x o e
 ·intro x o hx
  rcases look_retok hl xs l x o hx with ⟨_, e⟩ | e
  ·exact hlt x e
  ·exact r.lt x o e
 ·intro x y o o' B B' b b' hxy hx hy hf ho hl' hB hB'
  exact r.sep x y o o' B B' b b' hxy (old x o hx (own_live _ ho)) (old y o' hy hl') hf ho hl' hB hB'
 ·intro x o B b b' hx hf ho hB hG
  exact r.gsep x o B b b' (old x o hx (own_live _ ho)) hf ho hB hG
 ·intro D hD
  obtain ⟨h1, h2, h3, h4⟩ := r.th D hD
  exact ⟨h1, h2, h3, fun x o B b hx hf ho hB => h4 x o B b (old x o hx (own_live _ ho)) hf ho hB⟩
 ·intro x o B b b' hx hf ho hB hG
  exact r.gr.ga x o B b b' (old x o hx (own_live _ ho)) hf ho hB hG
 ·intro hn x hx
  rcases look_retok hl xs l x _ hx with ⟨_, e⟩ | e
  ·exact hnf hn x e
  ·exact r.gr.tk hn x e
theorem regr {ν1 : Nu} {h1 : H} {sX : St} (r : R c ν h s) (back : ∀ b o, ν1.G b = some o → ν.G b = some o) (backS : ∀ b, (ν1.G b).isSome = true → (ν.G b).isSome = true) (tk : c.nf → ∀ x, h1.get x ≠ some .tok) (xlow : ∀ b, b < s.n → sX.get b = s.get b) :
  (∀ b o, ν1.G b = some o → sX.get b = some o) ∧ (∀ b, (ν1.G b).isSome = true → c.Q b ∨ (¬ c.nf ∧ (∀ b', (c.G b').isSome = true → b ≠ b' ∧ fam sX b ≠ fam sX b') ∧ ∀ D, c.TH D → D ≤ b ∧ D ≤ fam sX b)) ∧ (c.nf → ∀ x, h1.get x ≠ some .tok) := by
 have fe : ∀ b o, s.get b = some o → fam sX b = fam s b := fun b o h1 => by unfold fam; rw [xlow b (get_lt h1)]
 refine ⟨fun b o hb => by rw [xlow b (get_lt (r.gr.gl b o (back b o hb)))]; exact r.gr.gl b o (back b o hb), fun b hb => ?_, tk⟩
 obtain ⟨o, ho⟩ := Option.isSome_iff_exists.1 hb
 have f1 := fe b o (r.gr.gl b o (back b o ho))
 rcases r.gr.gg b (backS b hb) with k | ⟨k1, k2, k3⟩
 ·exact .inl k
 ·refine .inr ⟨k1, fun b' hb' => ?_, fun D hD => ?_⟩
  ·obtain ⟨o', ho'⟩ := Option.isSome_iff_exists.1 hb'
   rw [f1, fe b' o' (r.froz b' o' ho')]; exact k2 b' hb'
  ·rw [f1]; exact k3 D hD
structure MadeR (n00 n nx : Nat) (ν : Nu) (m2 mR : List (Nat × Nat × Nat)) : Prop where
 base : ∀ e ∈ mR, n00 ≤ e.2.1
 top : ∀ e ∈ mR, e.2.2 ≤ n
 rel : ∀ x B b, x < nx → ν x = some (B, b) → ∀ e ∈ mR, e.2.1 ≤ B → B < e.2.2 → ∃ e' ∈ m2, e'.1 = e.1 ∧ e'.2.1 ≤ x ∧ x < e'.2.2
theorem MadeR.next {n00 n nx nx' n' i : Nat} {ν ν1 : Nu} {m2 m2' mR mX : List (Nat × Nat × Nat)} (hm : MadeR n00 n nx ν m2 mR) (h0 : n00 ≤ n) (hn : n ≤ n') (same : Nu.le nx ν ν1) (hnew : ∀ x B b, nx ≤ x → x < nx' → ν1 x = some (B, b) → n ≤ B)
  (hX : mX = mR ∨ mX = (i, n, n') :: mR) (h2 : ∀ e ∈ m2, e ∈ m2') (h2' : nx < nx' → (i, nx, nx') ∈ m2') (hB : ∀ x B b, x < nx → ν x = some (B, b) → B < n) : MadeR n00 n' nx' ν1 m2' mX := by
 have split : ∀ e ∈ mX, e ∈ mR ∨ e = (i, n, n') := by
  intro e he
  rcases hX with e1 | e1
  ·rw [e1] at he; exact .inl he
  ·rw [e1] at he
   rcases List.mem_cons.1 he with e2 | e2
   ·exact .inr e2
   ·exact .inl e2
 refine ⟨fun e he => ?_, fun e he => ?_, fun x B b hx hxB e he k1 k2 => ?_⟩
 ·rcases split e he with e1 | e1
  ·exact hm.base e e1
  ·subst e1; exact h0
 ·rcases split e he with e1 | e1
  ·exact Nat.le_trans (hm.top e e1) hn
  ·subst e1; exact Nat.le_refl _
 ·rcases Nat.lt_or_ge x nx with g | g
  ·have hxB' : ν x = some (B, b) := by rw [← same x g]; exact hxB
   rcases split e he with e1 | e1
   ·obtain ⟨e', p1, p2⟩ := hm.rel x B b g hxB' e e1 k1 k2
    exact ⟨e', h2 e' p1, p2⟩
   ·subst e1
    have := hB x B b g hxB'
    simp only [] at k1; omega
  ·have := hnew x B b g hx hxB
   rcases split e he with e1 | e1
   ·have := hm.top e e1; omega
   ·subst e1
    exact ⟨_, h2' (by omega), rfl, g, hx⟩
theorem hide_sub (bs : List Nat) (i : Nat) (m : List (Nat × Nat × Nat)) (s : St) (b : Nat) (q : AO) (hb : (hide bs i s m).get b = some q) : q = .dead ∨ s.get b = some q := by
 by_cases hq : q = .dead
 ·exact .inl hq
 ·exact .inr (St.get_of_look (hide_look bs i m s b q (St.look_of_get hb hq)).1)
theorem fam_hide {s1 : St} (hs : ∀ b q, s1.get b = some q → q = .dead ∨ s.get b = some q) (hk : ∀ b, fam s b ≤ b) (b : Nat) : fam s1 b ≤ b := by
 unfold fam
 cases hb : s1.get b with
 | none => exact Nat.le_refl _
 | some q =>
  rcases hs b q hb with e | e
  ·subst e; exact Nat.le_refl _
  ·have := hk b; unfold fam at this; rw [e] at this; exact this
theorem newOk_hide {s1 : St} (hs : ∀ b q, s1.get b = some q → q = .dead ∨ s.get b = some q) {D : Nat} (hn : NewOk D s) : NewOk D s1 := by
 intro b cs e o w p f z hb hrow
 rcases hs b _ hrow with e1 | e1
 ·cases e1
 ·exact hn b cs e o w p f z hb e1
theorem stay_none {x : Option AV} {a : AV} {os : Option St} (hx : stay x = some (a, os)) : os = none := by
 cases x <;> simp [stay] at hx; exact hx.2.symm
theorem prim_blind {o : Oper} {t : List AV} {s : St} {a : AV} {os : Option St} (hb : blind o = true) (h : prim P t s o.op = some (a, os)) : os = none := by
 unfold blind at hb
 cases hop : o.op <;> rw [hop] at hb h <;> simp only [] at hb <;> (try cases hb)
 case makeFunc g first captured =>
  cases g <;> simp only [prim] at h
  ·split at h
   ·simp at h; exact h.2.symm
   ·cases h
  all_goals cases h
 case call cl =>
  simp only [prim] at h
  split at h
  ·rename_i b args h1 h2
   rw [h1] at hb
   split at hb
   ·rename_i e; simp at e; subst e
    unfold builtinA at h
    split at h <;> first | exact stay_none h | cases h | (rename_i hh; cases hh)
   ·rename_i e; simp at e; subst e
    unfold builtinA at h
    split at h <;> first | exact stay_none h | cases h | (rename_i hh; cases hh)
   ·cases hb
  ·cases h
 all_goals
  simp only [prim] at h
  first
   | exact stay_none h
   | (repeat' split at h
      all_goals first | exact stay_none h | (simp at h; exact h.2.symm) | cases h)
theorem blind_none {N : Nat} {o : Oper} {F : Fr} {s : St} {a : AV} {os : Option St} (hb : blind o = true) (h : evP P N o F s = some (a, os)) : os = none := by
 cases N with
 | zero => simp [evP] at h
 | succ N =>
  rw [evP_blind hb] at h
  exact prim_blind hb h
theorem R.merge {cq : Px} {ν1 : Nu} {h1 : H} {s1 sX : St} {L : List (Nat × Ob)} (r : R c ν h s) (rq : R cq ν1 h1 s1) (hTH : cq.TH s.n) (hnf : cq.nf) (hQ : ∀ b, cq.Q b → (ν.G b).isSome = true) (same : Nu.le h.nx ν ν1) (hnx : h.nx ≤ h1.nx) (hn : s.n ≤ s1.n) (hnew : ∀ x B b, h.nx ≤ x → x < h1.nx → ν1 x = some (B, b) → s.n ≤ B) (hfz : h1.fz = h.nx)
  (xok : sX.ok) (xn : sX.n = s1.n) (xd : sX.dirty = s.dirty) (xg : ∀ b, sX.get b = if b < s.n then s.get b else s1.get b)
  (hL : ∀ x o, look L x = some o → (x < h.nx ∧ h.get x = some o) ∨ (h.nx ≤ x ∧ h1.get x = some o)) : R c ν1 ⟨h1.nx, h.fz, L⟩ sX := by
 have lo : ∀ b, b < s.n → sX.get b = s.get b := fun b hb => by rw [xg, if_pos hb]
 have hi : ∀ b, s.n ≤ b → sX.get b = s1.get b := fun b hb => by rw [xg, if_neg (by omega)]
 have flo : ∀ b, b < s.n → fam sX b = fam s b := fun b hb => by unfold fam; rw [lo b hb]
 have fhi : ∀ b, s.n ≤ b → fam sX b = fam s1 b := fun b hb => by unfold fam; rw [hi b hb]
 obtain ⟨q1, q2, q3, q4⟩ := rq.th s.n hTH
 have fge : ∀ b, s.n ≤ b → s.n ≤ fam s1 b := by
  intro b hb
  unfold fam famO
  split
  ·rename_i hs; exact (q3 b _ _ _ _ _ _ _ hb hs).2
  ·exact hb
 have oldB : ∀ x o B b, x < h.nx → h.get x = some o → o.live = true → ν1 x = some (B, b) → ν x = some (B, b) ∧ B < s.n := by
  intro x o B b hx ho hl hB
  rw [same x hx] at hB
  obtain ⟨q, hq⟩ := (r.obj x o ho).here hl hB
  exact ⟨hB, get_lt hq⟩
 have newB : ∀ x o B b, h.nx ≤ x → h1.get x = some o → ν1 x = some (B, b) → s.n ≤ B := fun x o B b hx ho hB => hnew x B b hx (rq.lt x o ho) hB
 refine ⟨xok, ?_, ?_, ?_, ?_, ?_, ?_, ?_, ?_, Nat.le_trans r.p_le hnx, by rw [xn]; exact Nat.le_trans r.lo_le hn, ?_, fun x B b h1 h2 => by rw [xn]; exact rq.blk x B b h1 h2, ?_, ?_⟩
 ·intro x o ho
  rcases hL x o ho with ⟨hx, ho⟩ | ⟨hx, ho⟩
  ·by_cases hl : o.live = true
   ·refine (r.obj x o ho).mono hx same hnx (fun B b hB => ?_)
    obtain ⟨q, hq⟩ := (r.obj x o ho).here hl hB
    exact lo B (get_lt hq)
   ·cases o <;> first | trivial | exact absurd rfl hl
  ·by_cases hl : o.live = true
   ·exact (rq.obj x o ho).mono (rq.lt x o ho) Nu.le.refl (Nat.le_refl _) (fun B b hB => hi B (newB x o B b hx ho hB))
   ·cases o <;> first | trivial | exact absurd rfl hl
 ·intro x o ho
  rcases hL x o ho with ⟨hx, ho⟩ | ⟨hx, ho⟩
  ·exact Nat.lt_of_lt_of_le hx hnx
  ·exact rq.lt x o ho
 ·intro x y o o' B B' b b' hxy hx hy hf ho hl hB hB'
  have ho2 := own_live _ ho
  rcases hL x o hx with ⟨hx1, hx2⟩ | ⟨hx1, hx2⟩ <;> rcases hL y o' hy with ⟨hy1, hy2⟩ | ⟨hy1, hy2⟩
  ·obtain ⟨e1, e2⟩ := oldB x o B b hx1 hx2 ho2 hB
   obtain ⟨e3, e4⟩ := oldB y o' B' b' hy1 hy2 hl hB'
   rw [flo B e2, flo B' e4]
   exact r.sep x y o o' B B' b b' hxy hx2 hy2 hf ho hl e1 e3
  ·obtain ⟨e1, e2⟩ := oldB x o B b hx1 hx2 ho2 hB
   have e4 := newB y o' B' b' hy1 hy2 hB'
   refine ⟨by omega, ?_⟩
   rw [flo B e2, fhi B' e4]
   have := r.kin B; have := fge B' e4; omega
  ·have e2 := newB x o B b hx1 hx2 hB
   obtain ⟨e3, e4⟩ := oldB y o' B' b' hy1 hy2 hl hB'
   refine ⟨by omega, ?_⟩
   rw [fhi B e2, flo B' e4]
   have := r.kin B'; have := fge B e2; omega
  ·have e2 := newB x o B b hx1 hx2 hB
   have e4 := newB y o' B' b' hy1 hy2 hB'
   rw [fhi B e2, fhi B' e4]
   exact rq.sep x y o o' B B' b b' hxy hx2 hy2 (by rw [hfz]; exact hx1) ho hl hB hB'
 ·intro x o B b b' hx hf ho hB hG
  have gl : b' < s.n := by
   cases hb : c.G b' with
   | none => rw [hb] at hG; cases hG
   | some a => exact get_lt (r.froz b' a hb)
  rcases hL x o hx with ⟨hx1, hx2⟩ | ⟨hx1, hx2⟩
  ·obtain ⟨e1, e2⟩ := oldB x o B b hx1 hx2 (own_live _ ho) hB
   rw [flo B e2, flo b' gl]
   exact r.gsep x o B b b' hx2 hf ho e1 hG
  ·have e2 := newB x o B b hx1 hx2 hB
   refine ⟨by omega, ?_⟩
   rw [fhi B e2, flo b' gl]
   have := r.kin b'; have := fge B e2; omega
 ·intro b o ho
  have := r.froz b o ho
  rw [lo b (get_lt this)]; exact this
 ·intro b
  rcases Nat.lt_or_ge b s.n with e | e
  ·rw [flo b e]; exact r.kin b
  ·rw [fhi b e]; exact rq.kin b
 ·intro D hD
  obtain ⟨h1', h2, h3, h4⟩ := r.th D hD
  refine ⟨by rw [xn]; exact Nat.le_trans h1' hn, by rw [xd]; exact h2, ?_, ?_⟩
  ·intro b cs e op w p f z hb hrow
   rcases Nat.lt_or_ge b s.n with e1 | e1
   ·rw [lo b e1] at hrow; exact h3 b cs e op w p f z hb hrow
   ·rw [hi b e1] at hrow
    have := q3 b cs e op w p f z e1 hrow
    exact ⟨this.1, by omega⟩
  ·intro x o B b hx hf ho hB
   rcases hL x o hx with ⟨hx1, hx2⟩ | ⟨hx1, hx2⟩
   ·obtain ⟨e1, e2⟩ := oldB x o B b hx1 hx2 (own_live _ ho) hB
    rw [flo B e2]; exact h4 x o B b hx2 hf ho e1
   ·have e2 := newB x o B b hx1 hx2 hB
    rw [fhi B e2]
    have := fge B e2
    exact ⟨by omega, by omega⟩
 ·intro D hD
  obtain ⟨h1', h2⟩ := r.tc D hD
  refine ⟨by rw [xn]; exact Nat.le_trans h1' hn, fun hd => ?_⟩
  rw [xd] at hd
  intro b cs e op w p f z hb hrow
  rcases Nat.lt_or_ge b s.n with e1 | e1
  ·rw [lo b e1] at hrow; exact h2 hd b cs e op w p f z hb hrow
  ·rw [hi b e1] at hrow
   have := q3 b cs e op w p f z e1 hrow
   exact ⟨this.1, by omega⟩
 ·intro x B b h1' h2 h3
  rcases Nat.lt_or_ge x h.nx with e | e
  ·exact r.new x B b h1' e (by rw [← same x e]; exact h3)
  ·exact Nat.le_trans r.lo_le (hnew x B b e h2 h3)
 ·refine ⟨by rw [xn]; exact Nat.le_trans r.snap.1 hn, fun b hb hd => ?_⟩
  rw [xd] at hd
  rw [lo b (Nat.lt_of_lt_of_le hb r.snap.1)]
  exact r.snap.2 b hb hd
 ·have backS : ∀ b, (ν1.G b).isSome = true → (ν.G b).isSome = true := by
   intro b hb
   rcases rq.gr.gg b hb with k | ⟨k, _⟩
   ·exact hQ b k
   ·exact absurd hnf k
  have back : ∀ b o, ν1.G b = some o → ν.G b = some o := by
   intro b o hb
   obtain ⟨o', ho'⟩ := Option.isSome_iff_exists.1 (backS b (by rw [hb]; rfl))
   have := same.G b o' ho'; rw [hb] at this; cases this; exact ho'
  have tk : c.nf → ∀ x, H.get ⟨h1.nx, h.fz, L⟩ x ≠ some .tok := by
   intro hn x hx
   rcases hL x _ hx with ⟨_, e⟩ | ⟨_, e⟩
   ·exact r.gr.tk hn x e
   ·exact rq.gr.tk hnf x e
  obtain ⟨g1, g2, g3⟩ := regr r back backS tk lo
  refine ⟨g1, ?_, g2, g3⟩
  intro x o B b b' hx hf ho hB hG
  obtain ⟨o', ho'⟩ := Option.isSome_iff_exists.1 (backS b' hG)
  have gl := get_lt (r.gr.gl b' o' ho')
  rcases hL x o hx with ⟨hx1, hx2⟩ | ⟨hx1, hx2⟩
  ·obtain ⟨e1, e2⟩ := oldB x o B b hx1 hx2 (own_live _ ho) hB
   rw [flo B e2, flo b' gl]
   exact r.gr.ga x o B b b' hx2 hf ho e1 (backS b' hG)
  ·have e2 := newB x o B b hx1 hx2 hB
   refine ⟨by omega, ?_⟩
   rw [fhi B e2, flo b' gl]
   have := r.kin b'; have := fge B e2; omega
theorem R.swap {cl : Px} {s1 sX : St} (rl : R cl ν h s1) (hp : c.p ≤ h.nx) (hlo : c.lo ≤ sX.n) (hsn : s1.n ≤ sX.n) (hnew : ∀ x B b, c.p ≤ x → x < h.nx → ν x = some (B, b) → c.lo ≤ B)
  (xok : sX.ok) (xg : ∀ x o B b, h.get x = some o → o.live = true → ν x = some (B, b) → sX.get B = s1.get B)
  (xf : ∀ b o, c.G b = some o → sX.get b = some o ∧ s1.get b = some o) (hG : ∀ b o, c.G b = some o → cl.G b = some o) (xk : ∀ b, fam sX b ≤ b)
  (xth : ∀ D, c.TH D → cl.TH D ∧ D ≤ sX.n ∧ D ≤ sX.dirty ∧ NewOk D sX) (xtc : ∀ D, c.TC D → D ≤ sX.n ∧ (D ≤ sX.dirty → NewOk D sX)) (xs : c.n0 ≤ sX.n ∧ ∀ b, b < c.n0 → b < sX.dirty → sX.get b = c.g0 b)
  (xgr : (∀ b o, ν.G b = some o → sX.get b = some o) ∧ (∀ b, (ν.G b).isSome = true → c.Q b ∨ (¬ c.nf ∧ (∀ b', (c.G b').isSome = true → b ≠ b' ∧ fam sX b ≠ fam sX b') ∧ ∀ D, c.TH D → D ≤ b ∧ D ≤ fam sX b)) ∧ (c.nf → ∀ x, h.get x ≠ some .tok)) : R c ν h sX := by
 have xfam : ∀ x o B b, h.get x = some o → o.live = true → ν x = some (B, b) → fam sX B = fam s1 B := fun x o B b h1 h2 h3 => by unfold fam; rw [xg x o B b h1 h2 h3]
 refine ⟨xok, ?_, rl.lt, ?_, ?_, fun b o ho => (xf b o ho).1, xk, ?_, xtc, hp, hlo, hnew, fun x B b h1 h2 => Nat.lt_of_lt_of_le (rl.blk x B b h1 h2) hsn, xs, xgr.1, ?_, xgr.2.1, xgr.2.2⟩
 ·intro x o ho
  by_cases hl : o.live = true
  ·exact (rl.obj x o ho).mono (rl.lt x o ho) Nu.le.refl (Nat.le_refl _) (fun B b hB => xg x o B b ho hl hB)
  ·cases o <;> first | trivial | exact absurd rfl hl
 ·intro x y o o' B B' b b' hxy hx hy hf ho hl hB hB'
  rw [xfam x o B b hx (own_live _ ho) hB, xfam y o' B' b' hy hl hB']
  exact rl.sep x y o o' B B' b b' hxy hx hy hf ho hl hB hB'
 ·intro x o B b b' hx hf ho hB hGb
  rw [xfam x o B b hx (own_live _ ho) hB]
  cases hb : c.G b' with
  | none => rw [hb] at hGb; cases hGb
  | some a =>
   have e1 := xf b' a hb
   have e2 : fam sX b' = fam s1 b' := by unfold fam; rw [e1.1, e1.2]
   rw [e2]
   exact rl.gsep x o B b b' hx hf ho hB (by rw [hG b' a hb]; rfl)
 ·intro D hD
  obtain ⟨h0, h1, h2, h3⟩ := xth D hD
  refine ⟨h1, h2, h3, fun x o B b hx hf ho hB => ?_⟩
  rw [xfam x o B b hx (own_live _ ho) hB]
  exact (rl.th D h0).2.2.2 x o B b hx hf ho hB
 ·intro x o B b b' hx hf ho hB hGb
  rw [xfam x o B b hx (own_live _ ho) hB]
  obtain ⟨a, ha⟩ := Option.isSome_iff_exists.1 hGb
  have e2 : fam sX b' = fam s1 b' := by unfold fam; rw [xgr.1 b' a ha, rl.gr.gl b' a ha]
  rw [e2]
  exact rl.gr.ga x o B b b' hx hf ho hB hGb
theorem drawOk_sub {ops : List Oper} {e1 e2 : List Nat} (hs : ∀ i ∈ e1, i ∈ e2) (h : drawOk ops e2 = true) : drawOk ops e1 = true := by
 simp only [drawOk, Bool.and_eq_true] at h ⊢
 refine ⟨h.1, ?_⟩
 have h2 := h.2
 unfold effOk at h2 ⊢
 rw [List.all_eq_true] at h2 ⊢
 exact fun i hi => h2 i (hs i hi)
theorem newOk_list {n : Nat} : ∀ (l : List AO), (∀ x ∈ l, ∀ cs e op w sp f z, x = .row cs e op w sp f z → w = true ∧ n ≤ f) → newOk n l = true
 | [], _ => rfl
 | x :: l, h => by
  have ih := newOk_list l (fun y hy => h y (by simp [hy]))
  cases x with
  | row cs e op w sp f z =>
   obtain ⟨h1, h2⟩ := h _ (by simp) cs e op w sp f z rfl
   simp [newOk, h1, h2, ih]
  | _ => simp [newOk, ih]
theorem newOk_take {s s' : St} (hok : s'.ok) (hn : s.n ≤ s'.n) (hN : NewOk s.n s') : newOk s.n (s'.h.take (s'.n - s.n)) = true := by
 refine newOk_list _ (fun x hx cs e op w sp f z hxe => ?_)
 obtain ⟨i, hi, hxi⟩ := List.getElem_of_mem hx
 simp only [List.length_take] at hi
 unfold St.ok at hok
 have hg : s'.get (s'.n - 1 - i) = some x := by
  rw [St.get_def]
  rw [if_pos (by omega)]
  have e1 : s'.n - 1 - (s'.n - 1 - i) = i := by omega
  rw [e1]
  rw [List.getElem_take] at hxi
  rw [← hxi]
  simp
 subst hxe
 exact hN _ cs e op w sp f z (by omega) hg
theorem draw_ok (ht : TTok P tt) {bs : List Nat} {all : List Oper} {n00 : Nat} (hG : ∀ b o, c.G b = some o → b < n00) (hn0 : c.n0 ≤ n00) : ∀ {l : List Oper} {i : Nat} {ν : Nu} {h : H} {s : St} {f : Frm} {F : Fr} {m2 mR : List (Nat × Nat × Nat)} {eff2 effR : List Nat} {K : Frm → H → List Nat → Prop},
  R c ν h s → (∀ b o, ν.G b = some o → b < n00) → n00 ≤ s.n → MadeR n00 s.n h.nx ν m2 mR → FrRel h.nx ν f.nt f.l F.t → (∀ i ∈ effR, i ∈ eff2) → drawV P tt bs all l i f h m2 eff2 K →
  ∃ N F' s' effR' f' h' ν' eff2', evD P bs N all l i F s mR effR = some (F', s', effR') ∧ (∀ i ∈ effR', i ∈ eff2') ∧ K f' h' eff2' ∧ R c ν' h' s' ∧ FrRel h'.nx ν' f'.nt f'.l F'.t ∧ F'.d = F.d ∧ f'.d = f.d ∧ Ex h ν s h' ν' s'
 | [], i, ν, h, s, f, F, m2, mR, eff2, effR, K, r, hν, hn, hm, hf, he, hK => ⟨1, F, s, effR, f, h, ν, eff2, rfl, he, hK, r, hf, rfl, rfl, Ex.refl h ν s⟩
 | o :: l, i, ν, ⟨nx, fz, hl⟩, s, f, F, m2, mR, eff2, effR, K, r, hν, hn, hm, hf, he, hK => by
  rw [drawV_cons] at hK
  rcases wanted_ok hf hK with ⟨hw, f1, k1, k2, k3, k4⟩ | ⟨hw, f1, k1, k2, k3, k4⟩
  ·replace k1 : (match kindD o with
    | some false => (operV P tt o f1 ⟨nx, nx, hideT bs i m2 hl⟩ fun v h' => match h' with
     | ⟨nx', _, l'⟩ => match Nat.beq nx' nx with
      | true => f1.put o.dst v fun f' => drawV P tt bs all l (i + 1) f' ⟨nx, fz, hl⟩ m2 eff2 K
      | false => match blind o with
       | true => False
       | false => forceL (app (newL nx l') hl) fun l'' => f1.put o.dst v fun f' => drawV P tt bs all l (i + 1) f' ⟨nx', fz, l''⟩ ((i, nx, nx') :: m2) eff2 K)
    | some true => (operV P tt o f1 ⟨nx, fz, hideT bs i m2 hl⟩ fun v h' => match blind o, h' with
     | false, ⟨nx', fz', l'⟩ => forceL (retok hl (toks hl) l') fun l'' => f1.put o.dst v fun f' => drawV P tt bs all l (i + 1) f' ⟨nx', fz', l''⟩ ((i, nx, nx') :: m2) (i :: eff2) K
     | _, _ => False)
    | none => Node ((operV P tt o f1 ⟨nx, nx, hideT bs i m2 hl⟩ fun v h' => match h' with
     | ⟨nx', _, l'⟩ => match Nat.beq nx' nx with
      | true => f1.put o.dst v fun f' => drawV P tt bs all l (i + 1) f' ⟨nx, fz, hl⟩ m2 eff2 K
      | false => match blind o with
       | true => False
       | false => forceL (app (newL nx l') hl) fun l'' => f1.put o.dst v fun f' => drawV P tt bs all l (i + 1) f' ⟨nx', fz, l''⟩ ((i, nx, nx') :: m2) eff2 K) ∨ (operV P tt o f1 ⟨nx, fz, hideT bs i m2 hl⟩ fun v h' => match blind o, h' with
     | false, ⟨nx', fz', l'⟩ => forceL (retok hl (toks hl) l') fun l'' => f1.put o.dst v fun f' => drawV P tt bs all l (i + 1) f' ⟨nx', fz', l''⟩ ((i, nx, nx') :: m2) (i :: eff2) K
     | _, _ => False))) := (forceL_eq _ _).1 k1
   have hsub := hide_sub bs i mR { s with dirty := s.n }
   obtain ⟨en, ed, el⟩ := hide_n bs i mR { s with dirty := s.n }
   have eok : (hide bs i { s with dirty := s.n } mR).ok := by
    unfold St.ok; rw [el, en]; exact r.ok
   have hlook := look_hideT bs i m2 hl
   have hlt : ∀ x q, look (hideT bs i m2 hl) x = some q → x < nx := by
    intro x q hx
    rcases hlook x q hx with ⟨_, q', e⟩ | ⟨e, _⟩
    ·exact r.lt x q' e
    ·exact r.lt x q e
   have hkey : ∀ x q B b, look (hideT bs i m2 hl) x = some q → q.live = true → ν x = some (B, b) → look hl x = some q ∧ (hide bs i { s with dirty := s.n } mR).get B = s.get B := by
    intro x q B b hx hq hB
    have hxl := hlt x q hx
    rcases hlook x q hx with ⟨e, _⟩ | ⟨e1, e2⟩
    ·subst e; cases hq
    ·refine ⟨e1, ?_⟩
     have := hide_get bs i B mR { s with dirty := s.n } (fun e he hte hin => ?_)
     ·rw [this]; rfl
     ·obtain ⟨e', k1', k2', k3', k4'⟩ := hm.rel x B b hxl hB e he hin.1 hin.2
      exact e2 e' k1' (by rw [k2']; exact hte) ⟨k3', k4'⟩
   have hlow : ∀ b, b < n00 → (hide bs i { s with dirty := s.n } mR).get b = s.get b := by
    intro b hb
    have := hide_get bs i b mR { s with dirty := s.n } (fun e he _ hin => by have := hm.base e he; omega)
    rw [this]; rfl
   have hold : ∀ x B b, x < nx → ν x = some (B, b) → B < s.n := r.blk
   generalize hsh : hide bs i { s with dirty := s.n } mR = sh at *
   have esn : sh.n = s.n := en
   have esd : sh.dirty = s.n := ed
   have hheld : ∀ x q, look (hideT bs i m2 hl) x = some q → Held nx ν x q sh.get := by
    intro x q hx
    by_cases hq : q.live = true
    ·rcases hlook x q hx with ⟨e, _⟩ | ⟨e1, _⟩
     ·subst e; trivial
     ·exact (r.obj x q e1).mono (r.lt x q e1) Nu.le.refl (Nat.le_refl _) (fun B b hB => (hkey x q B b hx hq hB).2)
    ·cases q <;> first | trivial | exact absurd rfl hq
   have hkin : ∀ b, fam sh b ≤ b := fam_hide hsub r.kin
   have hgl : ∀ b o, ν.G b = some o → sh.get b = some o := fun b o hb => by rw [hlow b (hν b o hb)]; exact r.gr.gl b o hb
   have hfamG : ∀ b, (ν.G b).isSome = true → fam sh b = fam s b := fun b hb => by
    cases hh : ν.G b with
    | none => rw [hh] at hb; cases hb
    | some a => unfold fam; rw [hgl b a hh, r.gr.gl b a hh]
   have hnt : ∀ x, look (hideT bs i m2 hl) x ≠ some .tok := fun x => look_noTok _ x
   have step : ∀ N1 a os, evP P N1 o F sh = some (a, os) → ∀ N res, (match (some (a, os) : Res) with
     | some (v, none) => evD P bs (max N1 N) all l (i + 1) (F.put o.dst v) s mR effR
     | some (v, some s') =>
      if s'.h.length = s'.n ∧ s.n ≤ s'.n ∧ blind o = false then
       if s.n ≤ s'.dirty then
        if newOk s.n (s'.h.take (s'.n - s.n)) then evD P bs (max N1 N) all l (i + 1) (F.put o.dst v) { n := s'.n, h := s'.h.take (s'.n - s.n) ++ s.h, dirty := s.dirty } ((i, s.n, s'.n) :: mR) effR
        else none
       else evD P bs (max N1 N) all l (i + 1) (F.put o.dst v) { s' with dirty := min s.dirty s'.dirty } mR (i :: effR)
      else none
     | none => none) = some res → evD P bs (max N1 N + 1) all (o :: l) i F s mR effR = some res := by
    intro N1 a os e1 N res hres
    rw [evD]
    simp only [hw, if_true, hsh]
    rw [evP_le e1 (Nat.le_max_left _ _)]
    exact hres
   have bl : ∀ {N1 a s'}, evP P N1 o F sh = some (a, some s') → blind o = false := by
    intro N1 a s' e1
    cases hb : blind o with
    | false => rfl
    | true => have := blind_none hb e1; cases this
   have xnone : ∀ b, ¬ b < s.n → s.get b = none ∧ sh.get b = none := by
    intro b hb
    refine ⟨?_, ?_⟩
    ·cases hh : s.get b with
     | none => rfl
     | some q => have := get_lt hh; omega
    ·cases hh : sh.get b with
     | none => rfl
     | some q => have := get_lt hh; omega
   have hquiet : (operV P tt o f1 ⟨nx, nx, hideT bs i m2 hl⟩ fun v h' => match h' with
     | ⟨nx', _, l'⟩ => match Nat.beq nx' nx with
      | true => f1.put o.dst v fun f' => drawV P tt bs all l (i + 1) f' ⟨nx, fz, hl⟩ m2 eff2 K
      | false => match blind o with
       | true => False
       | false => forceL (app (newL nx l') hl) fun l'' => f1.put o.dst v fun f' => drawV P tt bs all l (i + 1) f' ⟨nx', fz, l''⟩ ((i, nx, nx') :: m2) eff2 K) →
     ∃ N F' s' effR' f' h' ν' eff2', evD P bs N all (o :: l) i F s mR effR = some (F', s', effR') ∧ (∀ i ∈ effR', i ∈ eff2') ∧ K f' h' eff2' ∧ R c ν' h' s' ∧ FrRel h'.nx ν' f'.nt f'.l F'.t ∧ F'.d = F.d ∧ f'.d = f.d ∧ Ex ⟨nx, fz, hl⟩ ν s h' ν' s' := by
    intro hq
    have rq : R { G := sh.get, Q := fun b => (ν.G b).isSome = true, nf := True, TH := fun D => D = s.n, TC := fun _ => False, p := c.p, lo := c.lo, n0 := s.n, g0 := sh.get } ν ⟨nx, nx, hideT bs i m2 hl⟩ sh := by
     refine ⟨eok, hheld, hlt, ?_, ?_, fun _ _ e => e, hkin, ?_, fun D hD => hD.elim, r.p_le, by rw [esn]; exact r.lo_le, r.new, fun x B b h1 h2 => by rw [esn]; exact r.blk x B b h1 h2, ⟨by rw [esn]; exact Nat.le_refl _, fun _ _ _ => rfl⟩, hgl, ?_, fun b hb => .inl hb, fun _ x => hnt x⟩
     ·intro x y q q' B B' b b' _ hx _ hf' _ _ _ _
      have := hlt x q hx; simp only [] at hf'; omega
     ·intro x q B b b' hx hf' _ _ _
      have := hlt x q hx; simp only [] at hf'; omega
     ·intro D hD
      subst hD
      refine ⟨by rw [esn]; exact Nat.le_refl _, by rw [esd]; exact Nat.le_refl _, fun b cs e op w p f z hb hrow => ?_, fun x q B b hx hf' _ _ => ?_⟩
      ·have := get_lt hrow; omega
      ·have := hlt x q hx; simp only [] at hf'; omega
     ·intro x q B b b' hx hf' _ _ _
      have := hlt x q hx; simp only [] at hf'; omega
    obtain ⟨N1, a, os, v, h1, ν1, e1, e2, e3, e4, e5⟩ := oper_ok ht rq k2 hq
    obtain ⟨nx', fz', l'⟩ := h1
    have xfz : fz' = nx := e5.fz
    have back : ∀ b o, ν1.G b = some o → ν.G b = some o := by
     intro b o hb
     have k : (ν.G b).isSome = true := by
      rcases e3.gr.gg b (by rw [hb]; rfl) with k | ⟨k, _⟩
      ·exact k
      ·exact absurd trivial k
     cases hh : ν.G b with
     | none => rw [hh] at k; cases k
     | some o' => have := e5.same.G b o' hh; rw [hb] at this; cases this; rfl
    have hν1 : ∀ b o, ν1.G b = some o → b < n00 := fun b o hb => hν b o (back b o hb)
    have hnx : nx ≤ nx' := e5.nx
    have hno : s.n ≤ (os.getD sh).n := by rw [← esn]; exact e5.n
    have hnew : ∀ x B b, nx ≤ x → x < nx' → ν1 x = some (B, b) → s.n ≤ B := fun x B b q1 q2 q3 => by rw [← esn]; exact e5.new x B b q1 q2 q3
    have goOn : ∃ sX mX, sX.ok ∧ sX.n = (os.getD sh).n ∧ sX.dirty = s.dirty ∧ (∀ b, sX.get b = if b < s.n then s.get b else (os.getD sh).get b) ∧ (mX = mR ∨ mX = (i, s.n, sX.n) :: mR) ∧
      (∀ N F2 res, F2 = F.put o.dst a → evD P bs N all l (i + 1) F2 sX mX effR = some res → evD P bs (max N1 N + 1) all (o :: l) i F s mR effR = some res) := by
     cases os with
     | none =>
      refine ⟨s, mR, r.ok, esn.symm, rfl, fun b => ?_, .inl rfl, fun N F2 res hF2 hres => step N1 a none e1 N res ?_⟩
      ·split
       ·rfl
       ·rename_i hb
        simp only [Option.getD_none]
        rw [(xnone b hb).1, (xnone b hb).2]
      ·simp only []
       rw [← hF2]
       exact evD_le hres (Nat.le_max_right _ _)
     | some s' =>
      simp only [Option.getD_some] at e3 hno
      obtain ⟨t1, t2, t3, t4⟩ := e3.th s.n rfl
      refine ⟨⟨s'.n, s'.h.take (s'.n - s.n) ++ s.h, s.dirty⟩, (i, s.n, s'.n) :: mR, ?_, rfl, rfl, fun b => ?_, .inr rfl, fun N F2 res hF2 hres => step N1 a (some s') e1 N res ?_⟩
      ·have z1 : s'.h.length = s'.n := e3.ok
       have z2 : s.h.length = s.n := r.ok
       show (s'.h.take (s'.n - s.n) ++ s.h).length = s'.n
       rw [List.length_append, List.length_take]; omega
      ·simp only [Option.getD_some]
       exact grown_get r.ok e3.ok hno _ b
      ·simp only []
       rw [if_pos ⟨e3.ok, hno, bl e1⟩, if_pos t2, if_pos (newOk_take e3.ok hno t3), ← hF2]
       exact evD_le hres (Nat.le_max_right _ _)
    obtain ⟨sX, mX, xok, xn, xd, xg, hmX, hgo⟩ := goOn
    have fin : ∀ (L : List (Nat × Ob)) (m2' : List (Nat × Nat × Nat)), (∀ x q, look L x = some q → (x < nx ∧ look hl x = some q) ∨ (nx ≤ x ∧ look l' x = some q)) → (∀ e ∈ m2, e ∈ m2') → (nx < nx' → (i, nx, nx') ∈ m2') →
      (f1.put o.dst v fun f' => drawV P tt bs all l (i + 1) f' ⟨nx', fz, L⟩ m2' eff2 K) →
      ∃ N F' s' effR' f' h' ν' eff2', evD P bs N all (o :: l) i F s mR effR = some (F', s', effR') ∧ (∀ i ∈ effR', i ∈ eff2') ∧ K f' h' eff2' ∧ R c ν' h' s' ∧ FrRel h'.nx ν' f'.nt f'.l F'.t ∧ F'.d = F.d ∧ f'.d = f.d ∧ Ex ⟨nx, fz, hl⟩ ν s h' ν' s' := by
     intro L m2' hL h2 h2' hput
     have rX : R c ν1 ⟨nx', fz, L⟩ sX := r.merge e3 rfl trivial (fun b hb => hb) e5.same hnx hno hnew xfz xok xn xd xg hL
     have hfX : FrRel nx' ν1 f1.nt f1.l F.t := k2.mono e5.same hnx
     obtain ⟨f2, g1, g2, g3, g4⟩ := put_ok hfX e4 hput
     have hnX : s.n ≤ sX.n := by rw [xn]; exact hno
     obtain ⟨N2, F', s', effR', f', h', ν', eff2', m1, m2'', m3, m4, m5, m6, m7, m8⟩ := draw_ok ht hG hn0 rX hν1 (Nat.le_trans hn hnX) (hm.next hn hnX e5.same hnew hmX h2 h2' hold) g2 he g1
     refine ⟨_, F', s', effR', f', h', ν', eff2', hgo N2 _ _ rfl m1, m2'', m3, m4, m5, by rw [m6, put_d], by rw [m7, g3, k3], ?_⟩
     exact Ex.trans (h1 := ⟨nx', fz, L⟩) (ν1 := ν1) (s1 := sX) ⟨e5.same, hnx, rfl, hnX, hnew⟩ m8
    simp only [] at e2
    split at e2
    ·rename_i hb
     have hb := Nat.eq_of_beq_eq_true hb
     subst hb
     exact fin hl m2 (fun x q hx => .inl ⟨r.lt x q hx, hx⟩) (fun _ e => e) (fun hh => by omega) e2
    ·split at e2
     ·exact e2.elim
     ·rw [forceL_eq, app_eq] at e2
      refine fin _ _ (fun x q hx => ?_) (fun e he => by simp [he]) (fun _ => by simp) e2
      rw [look_append, look_newL] at hx
      split at hx
      ·rename_i q' hq'
       split at hq'
       ·simp at hx; subst hx; exact .inr ⟨by assumption, hq'⟩
       ·cases hq'
      ·exact .inl ⟨r.lt x q hx, hx⟩
   have hloud : (operV P tt o f1 ⟨nx, fz, hideT bs i m2 hl⟩ fun v h' => match blind o, h' with
     | false, ⟨nx', fz', l'⟩ => forceL (retok hl (toks hl) l') fun l'' => f1.put o.dst v fun f' => drawV P tt bs all l (i + 1) f' ⟨nx', fz', l''⟩ ((i, nx, nx') :: m2) (i :: eff2) K
     | _, _ => False) →
     ∃ N F' s' effR' f' h' ν' eff2', evD P bs N all (o :: l) i F s mR effR = some (F', s', effR') ∧ (∀ i ∈ effR', i ∈ eff2') ∧ K f' h' eff2' ∧ R c ν' h' s' ∧ FrRel h'.nx ν' f'.nt f'.l F'.t ∧ F'.d = F.d ∧ f'.d = f.d ∧ Ex ⟨nx, fz, hl⟩ ν s h' ν' s' := by
    intro hq
    have ffar : ∀ x q B b, look (hideT bs i m2 hl) x = some q → q.live = true → ν x = some (B, b) → fam sh B = fam s B := fun x q B b h1 h2 h3 => by unfold fam; rw [(hkey x q B b h1 h2 h3).2]
    have fG : ∀ b o, c.G b = some o → sh.get b = s.get b := fun b o ho => hlow b (hG b o ho)
    have rl : R { G := c.G, Q := fun b => (ν.G b).isSome = true, nf := True, TH := c.TH, TC := fun D => (c.TC D ∧ D ≤ s.dirty) ∨ D = s.n, p := c.p, lo := c.lo, n0 := s.n, g0 := sh.get } ν ⟨nx, fz, hideT bs i m2 hl⟩ sh := by
     refine ⟨eok, hheld, hlt, ?_, ?_, fun b q hb => by rw [fG b q hb]; exact r.froz b q hb, hkin, ?_, ?_, r.p_le, by rw [esn]; exact r.lo_le, r.new, fun x B b h1 h2 => by rw [esn]; exact r.blk x B b h1 h2, ⟨by rw [esn]; exact Nat.le_refl _, fun _ _ _ => rfl⟩, hgl, ?_, fun b hb => .inl hb, fun _ x => hnt x⟩
     ·intro x y q q' B B' b b' hxy hx hy hf' ho hlv hB hB'
      have a1 := hkey x q B b hx (own_live _ ho) hB
      have a2 := hkey y q' B' b' hy hlv hB'
      rw [ffar x q B b hx (own_live _ ho) hB, ffar y q' B' b' hy hlv hB']
      exact r.sep x y q q' B B' b b' hxy a1.1 a2.1 hf' ho hlv hB hB'
     ·intro x q B b b' hx hf' ho hB hGb
      have a1 := hkey x q B b hx (own_live _ ho) hB
      rw [ffar x q B b hx (own_live _ ho) hB]
      have e1 : fam sh b' = fam s b' := by
       cases hc : c.G b' with
       | none => simp only [hc] at hGb; cases hGb
       | some a => unfold fam; rw [fG b' a hc]
      rw [e1]
      exact r.gsep x q B b b' a1.1 hf' ho hB hGb
     ·intro D hD
      obtain ⟨t1, t2, t3, t4⟩ := r.th D hD
      refine ⟨by rw [esn]; exact t1, by rw [esd]; exact t1, newOk_hide hsub t3, fun x q B b hx hf' ho hB => ?_⟩
      have a1 := hkey x q B b hx (own_live _ ho) hB
      rw [ffar x q B b hx (own_live _ ho) hB]
      exact t4 x q B b a1.1 hf' ho hB
     ·intro D hD
      rcases hD with ⟨d1, d2⟩ | d1
      ·obtain ⟨t1, t2⟩ := r.tc D d1
       exact ⟨by rw [esn]; exact t1, fun _ => newOk_hide hsub (t2 d2)⟩
      ·subst d1
       exact ⟨by rw [esn]; exact Nat.le_refl _, fun _ b cs e op w p f z hb hrow => by have := get_lt hrow; omega⟩
     ·intro x q B b b' hx hf' ho hB hGb
      have a1 := hkey x q B b hx (own_live _ ho) hB
      rw [ffar x q B b hx (own_live _ ho) hB, hfamG b' hGb]
      exact r.gr.ga x q B b b' a1.1 hf' ho hB hGb
    obtain ⟨N1, a, os, v, h1, ν1, e1, e2, e3, e4, e5⟩ := oper_ok ht rl k2 hq
    obtain ⟨nx', fz', l'⟩ := h1
    have hnx : nx ≤ nx' := e5.nx
    have xfz : fz' = fz := e5.fz
    have back : ∀ b o, ν1.G b = some o → ν.G b = some o := by
     intro b o hb
     have k : (ν.G b).isSome = true := by
      rcases e3.gr.gg b (by rw [hb]; rfl) with k | ⟨k, _⟩
      ·exact k
      ·exact absurd trivial k
     cases hh : ν.G b with
     | none => rw [hh] at k; cases k
     | some o' => have := e5.same.G b o' hh; rw [hb] at this; cases this; rfl
    have hν1 : ∀ b o, ν1.G b = some o → b < n00 := fun b o hb => hν b o (back b o hb)
    have hno : s.n ≤ (os.getD sh).n := by rw [← esn]; exact e5.n
    have hnew : ∀ x B b, nx ≤ x → x < nx' → ν1 x = some (B, b) → s.n ≤ B := fun x B b q1 q2 q3 => by rw [← esn]; exact e5.new x B b q1 q2 q3
    have hnew2 : ∀ x B b, c.p ≤ x → x < nx' → ν1 x = some (B, b) → c.lo ≤ B := by
     intro x B b q1 q2 q3
     rcases Nat.lt_or_ge x nx with g | g
     ·exact r.new x B b q1 g (by rw [← e5.same x g]; exact q3)
     ·exact Nat.le_trans r.lo_le (hnew x B b g q2 q3)
    split at e2
    rotate_left
    ·exact e2.elim
    rename_i nx2 fz2 l2 hbl heq
    cases heq
    rw [forceL_eq] at e2
    have backS : ∀ b, (ν1.G b).isSome = true → (ν.G b).isSome = true := fun b hb => by
     obtain ⟨o, ho⟩ := Option.isSome_iff_exists.1 hb
     rw [back b o ho]; rfl
    have goOn : ∃ sX mX effX, sX.n = (os.getD sh).n ∧ R c ν1 ⟨nx', fz', l'⟩ sX ∧ (mX = mR ∨ mX = (i, s.n, sX.n) :: mR) ∧ (∀ j ∈ effX, j ∈ i :: eff2) ∧
      (∀ N F2 res, F2 = F.put o.dst a → evD P bs N all l (i + 1) F2 sX mX effX = some res → evD P bs (max N1 N + 1) all (o :: l) i F s mR effR = some res) := by
     have alive : ∀ x q B b, look l' x = some q → q.live = true → ν1 x = some (B, b) → ∃ r', (os.getD sh).get B = some r' ∧ r' ≠ .dead := by
      intro x q B b hx hq hB
      obtain ⟨r', hr'⟩ := (e3.obj x q hx).here hq hB
      exact ⟨r', hr', fun e => (e3.obj x q hx).alive hq hB (e ▸ hr')⟩
     have he2 : ∀ j ∈ effR, j ∈ i :: eff2 := fun j hj => by simp [he j hj]
     cases os with
     | none =>
      simp only [Option.getD_none] at e3 alive hno
      refine ⟨s, mR, effR, esn.symm, ?_, .inl rfl, he2, fun N F2 res hF2 hres => step N1 a none e1 N res ?_⟩
      ·refine e3.swap (Nat.le_trans r.p_le hnx) r.lo_le (by rw [esn]; exact Nat.le_refl _) hnew2 r.ok ?_ (fun b q hb => ⟨r.froz b q hb, by rw [fG b q hb]; exact r.froz b q hb⟩) (fun _ _ e => e) r.kin ?_ ?_ r.snap ?_
       ·intro x q B b hx hq hB
        obtain ⟨r', h1, h2⟩ := alive x q B b hx hq hB
        rw [h1]
        rcases hsub B r' h1 with e | e
        ·exact absurd e h2
        ·exact e
       ·intro D hD
        obtain ⟨t1, t2, t3, t4⟩ := r.th D hD
        exact ⟨hD, t1, t2, t3⟩
       ·exact r.tc
       ·exact ⟨fun b o hb => r.gr.gl b o (back b o hb), fun b hb => r.gr.gg b (backS b hb), fun _ x => e3.gr.tk trivial x⟩
      ·simp only []
       rw [← hF2]
       exact evD_le hres (Nat.le_max_right _ _)
     | some s' =>
      simp only [Option.getD_some] at e3 alive hno
      by_cases hd : s.n ≤ s'.dirty
      ·have hN : NewOk s.n s' := (e3.tc s.n (.inr rfl)).2 hd
       have xg : ∀ b, (St.mk s'.n (s'.h.take (s'.n - s.n) ++ s.h) s.dirty).get b = if b < s.n then s.get b else s'.get b := grown_get r.ok e3.ok hno _
       refine ⟨⟨s'.n, s'.h.take (s'.n - s.n) ++ s.h, s.dirty⟩, (i, s.n, s'.n) :: mR, effR, rfl, ?_, .inr rfl, he2, fun N F2 res hF2 hres => step N1 a (some s') e1 N res ?_⟩
       ·refine e3.swap (Nat.le_trans r.p_le hnx) (Nat.le_trans r.lo_le hno) (Nat.le_refl _) hnew2 ?_ ?_ ?_ (fun _ _ e => e) ?_ ?_ ?_ ?_ ?_
        ·have z1 : s'.h.length = s'.n := e3.ok
         have z2 : s.h.length = s.n := r.ok
         show (s'.h.take (s'.n - s.n) ++ s.h).length = s'.n
         rw [List.length_append, List.length_take]; omega
        ·intro x q B b hx hq hB
         obtain ⟨r', h1, h2⟩ := alive x q B b hx hq hB
         rw [xg]
         split
         ·rename_i hlt2
          have h3 := e3.snap.2 B hlt2 (by omega)
          rw [h1] at h3
          rcases hsub B r' h3.symm with e | e
          ·exact absurd e h2
          ·rw [h1]; exact e
         ·rfl
        ·intro b q hb
         refine ⟨?_, e3.froz b q hb⟩
         rw [xg, if_pos (get_lt (r.froz b q hb))]; exact r.froz b q hb
        ·intro b
         unfold fam
         rw [xg]
         split
         ·exact r.kin b
         ·exact e3.kin b
        ·intro D hD
         obtain ⟨t1, t2, t3, t4⟩ := r.th D hD
         refine ⟨hD, Nat.le_trans t1 hno, t2, ?_⟩
         intro b cs e op w p f z hb hrow
         rw [xg] at hrow
         split at hrow
         ·exact t3 b cs e op w p f z hb hrow
         ·exact (e3.th D hD).2.2.1 b cs e op w p f z hb hrow
        ·intro D hD
         obtain ⟨t1, t2⟩ := r.tc D hD
         refine ⟨Nat.le_trans t1 hno, fun hd2 => ?_⟩
         intro b cs e op w p f z hb hrow
         rw [xg] at hrow
         split at hrow
         ·exact t2 hd2 b cs e op w p f z hb hrow
         ·have := hN b cs e op w p f z (by omega) hrow
          exact ⟨this.1, by omega⟩
        ·refine ⟨Nat.le_trans r.snap.1 hno, fun b hb hd2 => ?_⟩
         rw [xg, if_pos (Nat.lt_of_lt_of_le hb r.snap.1)]
         exact r.snap.2 b hb hd2
        ·have xlow : ∀ b, b < s.n → (St.mk s'.n (s'.h.take (s'.n - s.n) ++ s.h) s.dirty).get b = s.get b := fun b hb => by rw [xg, if_pos hb]
         exact regr r back backS (fun _ x => e3.gr.tk trivial x) xlow
       ·simp only []
        rw [if_pos ⟨e3.ok, hno, bl e1⟩, if_pos hd, if_pos (newOk_take e3.ok hno hN), ← hF2]
        exact evD_le hres (Nat.le_max_right _ _)
      ·refine ⟨{ s' with dirty := min s.dirty s'.dirty }, mR, i :: effR, rfl, ?_, .inl rfl, fun j hj => by rcases List.mem_cons.1 hj with e | e <;> simp [e, he j], fun N F2 res hF2 hres => step N1 a (some s') e1 N res ?_⟩
       ·refine e3.swap (Nat.le_trans r.p_le hnx) (Nat.le_trans r.lo_le hno) (Nat.le_refl _) hnew2 e3.ok (fun _ _ _ _ _ _ _ => rfl) (fun b q hb => ⟨e3.froz b q hb, e3.froz b q hb⟩) (fun _ _ e => e) e3.kin ?_ ?_ ?_ ?_
        ·intro D hD
         obtain ⟨t1, t2, t3, t4⟩ := e3.th D hD
         exact ⟨hD, t1, Nat.le_min.2 ⟨(r.th D hD).2.1, t2⟩, t3⟩
        ·intro D hD
         refine ⟨Nat.le_trans (r.tc D hD).1 hno, fun hd2 => ?_⟩
         simp only [] at hd2
         exact (e3.tc D (.inl ⟨hD, by omega⟩)).2 (by omega)
        ·refine ⟨Nat.le_trans r.snap.1 hno, fun b hb hd2 => ?_⟩
         simp only [] at hd2
         have h1 := e3.snap.2 b (Nat.lt_of_lt_of_le hb r.snap.1) (by omega)
         have h2 := r.snap.2 b hb (by omega)
         have h3 := hlow b (Nat.lt_of_lt_of_le hb hn0)
         exact h1.trans (h3.trans h2)
        ·refine ⟨fun b o hb => e3.gr.gl b o hb, fun b hb => ?_, fun _ x => e3.gr.tk trivial x⟩
         have fe : ∀ b o, s.get b = some o → s'.get b = some o → fam s' b = fam s b := fun b o h1 h2 => by unfold fam; rw [h1, h2]
         obtain ⟨o, ho⟩ := Option.isSome_iff_exists.1 hb
         have f1 := fe b o (r.gr.gl b o (back b o ho)) (e3.gr.gl b o ho)
         rcases r.gr.gg b (backS b hb) with k | ⟨k1, k2, k3⟩
         ·exact .inl k
         ·refine .inr ⟨k1, fun b' hb' => ?_, fun D hD => ?_⟩
          ·obtain ⟨o', ho'⟩ := Option.isSome_iff_exists.1 hb'
           have f2 := fe b' o' (r.froz b' o' ho') (e3.froz b' o' ho')
           show b ≠ b' ∧ fam s' b ≠ fam s' b'
           rw [f1, f2]; exact k2 b' hb'
          ·show D ≤ b ∧ D ≤ fam s' b
           rw [f1]; exact k3 D hD
       ·simp only []
        rw [if_pos ⟨e3.ok, hno, bl e1⟩, if_neg hd, ← hF2]
        exact evD_le hres (Nat.le_max_right _ _)
    obtain ⟨sX, mX, effX, xn, rX0, hmX, heX, hgo⟩ := goOn
    have rX : R c ν1 ⟨nx', fz', retok hl (toks hl) l'⟩ sX := rX0.retok (fun x hx => Nat.lt_of_lt_of_le (r.lt x _ hx) hnx) (fun hn x hx => r.gr.tk hn x hx)
    have hfX : FrRel nx' ν1 f1.nt f1.l F.t := k2.mono e5.same hnx
    obtain ⟨f2, g1, g2, g3, g4⟩ := put_ok hfX e4 e2
    have hnX : s.n ≤ sX.n := by rw [xn]; exact hno
    obtain ⟨N2, F', s', effR', f', h', ν', eff2', m1, m2'', m3, m4, m5, m6, m7, m8⟩ := draw_ok ht hG hn0 rX hν1 (Nat.le_trans hn hnX) (hm.next hn hnX e5.same hnew hmX (fun e he => by simp [he]) (fun _ => by simp) hold) g2 heX g1
    refine ⟨_, F', s', effR', f', h', ν', eff2', hgo N2 _ _ rfl m1, m2'', m3, m4, m5, by rw [m6, put_d], by rw [m7, g3, k3], ?_⟩
    exact Ex.trans (h1 := ⟨nx', fz', retok hl (toks hl) l'⟩) (ν1 := ν1) (s1 := sX) ⟨e5.same, hnx, xfz, hnX, hnew⟩ m8
   split at k1
   ·exact hquiet k1
   ·exact hloud k1
   ·rcases k1 () with k1 | k1
    ·exact hquiet k1
    ·exact hloud k1
  ·obtain ⟨f2, g1, g2, g3, g4⟩ := put_ok k2 aundef_cv k1
   obtain ⟨N2, F', s', effR', f', h', ν', eff2', m1, m2', m3, m4, m5, m6, m7, m8⟩ := draw_ok ht hG hn0 r hν hn hm g2 he g1
   refine ⟨N2 + 1, F', s', effR', f', h', ν', eff2', ?_, m2', m3, m4, m5, by rw [m6, put_d], by rw [m7, g3, k3], m8⟩
   rw [evD]
   simp only [hw, Bool.false_eq_true, if_false]
   exact m1
theorem evD_nodup {bs : List Nat} {all : List Oper} : ∀ {N : Nat} {l : List Oper} {i : Nat} {F : Fr} {s : St} {mR : List (Nat × Nat × Nat)} {eff : List Nat} {F' : Fr} {s' : St} {eff' : List Nat},
  evD P bs N all l i F s mR eff = some (F', s', eff') → (∀ j ∈ eff, j < i) → eff.Nodup → eff'.Nodup
 | 0, l, i, F, s, mR, eff, F', s', eff', h, h1, h2 => by simp [evD] at h
 | N + 1, [], i, F, s, mR, eff, F', s', eff', h, h1, h2 => by
  simp only [evD, Option.some.injEq, Prod.mk.injEq] at h
  rw [← h.2.2]; exact h2
 | N + 1, o :: os, i, F, s, mR, eff, F', s', eff', h, h1, h2 => by
  have lt : ∀ j ∈ eff, j < i + 1 := fun j hj => Nat.lt_succ_of_lt (h1 j hj)
  rw [evD] at h
  split at h
  ·split at h
   ·exact evD_nodup h lt h2
   ·split at h
    ·split at h
     ·split at h
      ·exact evD_nodup h lt h2
      ·cases h
     ·exact evD_nodup h (fun j hj => by
       rcases List.mem_cons.1 hj with e | e
       ·subst e; exact Nat.lt_succ_self _
       ·exact lt j e) (List.nodup_cons.2 ⟨fun k => Nat.lt_irrefl _ (h1 i k), h2⟩)
    ·cases h
   ·cases h
  ·exact evD_nodup h lt h2
theorem one_older {n m : Nat} {ν : Nu} {v : V} {a : AV} (h1 : oneV v = true) (h : Cv n ν v a) : a.older m = true := by
 cases v <;> first
  | (simp only [Cv] at h; subst h; rfl)
  | (simp [oneV] at h1; done)
theorem ones_older {n m : Nat} {ν : Nu} : ∀ {vs : List V} {as : List AV}, onesV vs = true → Cvs n ν vs as → AV.olders m as = true
 | [], as, h1, h => by rw [h.inv0]; rfl
 | v :: vs, as, h1, h => by
  obtain ⟨a, as', rfl, h2, h3⟩ := h.inv
  simp only [onesV, Bool.and_eq_true] at h1
  simp only [AV.olders, Bool.and_eq_true]
  exact ⟨one_older h1.1 h2, ones_older h1.2 h3⟩
theorem flat_older {n m : Nat} {ν : Nu} {v : V} {a : AV} (h1 : flatV v = true) (h : Cv n ν v a) : a.older m = true := by
 cases v
 case agg cs =>
  simp only [Cv] at h
  obtain ⟨as, rfl, h2⟩ := h
  simp only [AV.older]
  exact ones_older h1 h2
 all_goals first | (refine one_older ?_ h; exact h1) | (simp [flatV, oneV] at h1; done)
theorem place_cv {n : Nat} {ν : Nu} {v : V} {a : AV} {x : Nat} (h1 : placeOf v = some x) (h : Cv n ν v a) : ∃ B b0 o, x < n ∧ ν x = some (B, b0) ∧ a = .ptr B o := by
 cases v <;> first
  | (cases h1; simp only [Cv] at h; obtain ⟨h0, B, b0, h2, rfl⟩ := h; exact ⟨B, b0, _, h0, h2, rfl⟩)
  | (simp [placeOf] at h1; done)
theorem softV_inv {ops : List Oper} {l : List (Nat × V)} {nx fz : Nat} {hl : List (Nat × Ob)} {i x : Nat} (h : softW ops l ⟨nx, fz, hl⟩ i = some x) : ∃ o ty t x0 ob, ops[i]? = some o ∧ o.op = .store ty (.tmp t) x0 ∧ lastSet ops i t = true ∧ look hl x = some ob ∧ fz ≤ x ∧ ((∃ o0 cs, look l t = some (.ptr x o0) ∧ ob = .cells cs) ∨ (∃ a b d ks m ac, look l t = some (.eptr x a b d) ∧ ob = .arr ks m ac ∧ (m = .own ∨ m = .grow))) := by
 unfold softW at h
 split at h
 ·rename_i o ho
  split at h
  ·rename_i ty t x0 hop
   split at h
   ·rename_i x' o0 nx' fz' hl' hlast hx heq
    cases heq
    split at h
    ·rename_i cs hcs hfz
     cases h
     exact ⟨o, ty, t, x0, _, ho, hop, hlast, hcs, Nat.le_of_ble_eq_true hfz, .inl ⟨_, _, hx, rfl⟩⟩
    ·cases h
   ·rename_i x' a b d nx' fz' hl' hlast hx heq
    cases heq
    split at h
    ·rename_i ks ac hcs hfz
     cases h
     exact ⟨o, ty, t, x0, _, ho, hop, hlast, hcs, Nat.le_of_ble_eq_true hfz, .inr ⟨_, _, _, _, _, _, hx, rfl, .inl rfl⟩⟩
    ·rename_i ks ac hcs hfz
     cases h
     exact ⟨o, ty, t, x0, _, ho, hop, hlast, hcs, Nat.le_of_ble_eq_true hfz, .inr ⟨_, _, _, _, _, _, hx, rfl, .inr rfl⟩⟩
    ·cases h
   ·cases h
  ·cases h
 ·cases h
theorem softN_inv {ops : List Oper} {l : List (Nat × V)} {nx fz : Nat} {hl : List (Nat × Ob)} {i x : Nat} (h : softN ops l ⟨nx, fz, hl⟩ i = some x) : ∃ o ty t x0 o0, ops[i]? = some o ∧ o.op = .store ty (.tmp t) x0 ∧ lastSet ops i t = true ∧ look l t = some (.ptr x o0) ∧ nx ≤ x := by
 unfold softN at h
 split at h
 ·rename_i o ho
  split at h
  ·rename_i ty t x0 hop
   split at h
   ·rename_i x' o0 nx' fz' hl' hlast hx heq
    cases heq
    split at h
    ·rename_i hle
     cases h
     exact ⟨o, ty, t, x0, o0, ho, hop, hlast, hx, Nat.le_of_ble_eq_true hle⟩
    ·cases h
   ·cases h
  ·cases h
 ·cases h
theorem softVs_spec {ops : List Oper} {l : List (Nat × V)} {h : H} : ∀ {is xs : List Nat}, softVs ops l h is = some xs → ∀ i ∈ is, ∃ x, softV ops l h i = some x ∧ x ∈ xs
 | [], xs, _, i, hi => by cases hi
 | i0 :: is, xs, e, i, hi => by
  simp only [softVs] at e
  split at e
  ·rename_i x hx
   split at e
   ·rename_i xs' hxs
    simp at e; subst e
    rcases List.mem_cons.1 hi with e | e
    ·subst e; exact ⟨x, hx, by simp⟩
    ·obtain ⟨y, k1, k2⟩ := softVs_spec hxs i e
     exact ⟨y, k1, by simp [k2]⟩
   ·cases e
  ·cases e
theorem inN_mem {y : Nat} : ∀ {xs : List Nat}, y ∈ xs → inN y xs = true
 | [], h => by cases h
 | x :: xs, h => by
  simp only [inN, Bool.or_eq_true]
  rcases List.mem_cons.1 h with e | e
  ·subst e; exact .inl (Nat.beq_refl _)
  ·exact .inr (inN_mem e)
theorem tieAll_of {bs : List Nat} {j : Nat} : ∀ {is : List Nat}, (∀ i ∈ is, (if j = i then true else if j < i then tied bs j i else tied bs i j) = true) → tieAll bs j is = true
 | [], _ => rfl
 | i0 :: is, h => by
  simp only [tieAll, Bool.and_eq_true]
  exact ⟨h i0 (by simp), tieAll_of (fun i hi => h i (by simp [hi]))⟩
theorem inB_not {b k : Nat} : ∀ {Bs : List (Nat × Nat)}, (∀ p ∈ Bs, b ≠ p.1 ∧ k ≠ p.2) → inB b k Bs = false
 | [], _ => rfl
 | (B, f) :: Bs, h => by
  simp only [inB, Bool.or_eq_false_iff]
  obtain ⟨h1, h2⟩ := h (B, f) (by simp)
  refine ⟨⟨?_, ?_⟩, inB_not (fun C hC => h C (by simp [hC]))⟩
  ·cases hb : Nat.beq b B with
   | false => rfl
   | true => exact absurd (Nat.eq_of_beq_eq_true hb) h1
  ·cases hb : Nat.beq k f with
   | false => rfl
   | true => exact absurd (Nat.eq_of_beq_eq_true hb) h2
theorem kinA_fam (s : St) (b : Nat) : kinA s b = fam s b := by
 unfold kinA fam famO
 cases s.get b with
 | none => rfl
 | some q => cases q <;> rfl
theorem drawS_ok {ops : List Oper} {ν' : Nu} {h' : H} {s' : St} {f' : Frm} {F' : Fr} {eff2 effR : List Nat} (r : R c ν h s) (hf : FrRel h'.nx ν' f'.nt f'.l F'.t) (ex : Ex h ν s h' ν' s') (hs : ∀ i ∈ effR, i ∈ eff2) (hd : effR.Nodup) (hk : drawOkS ops f'.l h eff2 = true) :
  (drawOk ops effR || drawOk2 ops F' s effR) = true := by
 obtain ⟨nx, fz, hl⟩ := h
 unfold drawOkS at hk
 split at hk
 ·rename_i xs hxs
  simp only [Bool.and_eq_true] at hk
  obtain ⟨⟨⟨hdist, hedge⟩, hread⟩, hall⟩ := hk
  have hspec := softVs_spec hxs
  rw [Bool.or_eq_true]; right
  have soft : ∀ (is : List Nat), (∀ i ∈ is, i ∈ eff2) → ∃ Bs, softBs ops F' s is = some Bs ∧ ∀ B ∈ Bs, (∃ x o b, x ∈ xs ∧ H.get ⟨nx, fz, hl⟩ x = some o ∧ o.own = true ∧ fz ≤ x ∧ ν x = some (B.1, b) ∧ B.2 = fam s B.1) ∨ (s.n ≤ B.1 ∧ s.n ≤ B.2) := by
   intro is
   induction is with
   | nil => intro _; exact ⟨[], rfl, fun B hB => by cases hB⟩
   | cons i is ih =>
    intro hi
    obtain ⟨Bs, k1, k2⟩ := ih (fun j hj => hi j (by simp [hj]))
    obtain ⟨x, hx, hxm⟩ := hspec i (hi i (by simp))
    unfold softV at hx
    split at hx
    rotate_left
    ·obtain ⟨o, ty, t, x0, o0, ho, hop, hlast, hlk, hnx⟩ := softN_inv hx
     obtain ⟨av, ha, hca⟩ := hf.2 _ _ hlk
     simp only [Cv] at hca
     obtain ⟨hxl, B', b0, g4, rfl⟩ := hca
     have hB' : s.n ≤ B' := ex.new x B' b0 hnx hxl g4
     have hno : s.get B' = none := by rw [St.get_def, if_neg (by omega)]
     have key : softB ops F' s i o = some (B', B') := by
      unfold softB
      rw [hop]
      simp only [hlast, if_true, ha, hno]
      rw [if_pos hB']
     refine ⟨(B', B') :: Bs, by simp only [softBs, ho, key, k1], fun C hC => ?_⟩
     rcases List.mem_cons.1 hC with e | e
     ·subst e; exact .inr ⟨hB', hB'⟩
     ·exact k2 C e
    rename_i x1 hx1
    cases hx
    obtain ⟨o, ty, t, x0, ob, ho, hop, hlast, hob, hfz, hcase⟩ := softV_inv hx1
    have hob' : H.get ⟨nx, fz, hl⟩ x = some ob := hob
    have hxn := r.lt x _ hob'
    have key : ∃ B b, softB ops F' s i o = some (B, fam s B) ∧ ν x = some (B, b) ∧ ob.own = true := by
     rcases hcase with ⟨o0, cs, hlk, rfl⟩ | ⟨a, b, d, ks, m, ac, hlk, rfl, hm⟩
     ·obtain ⟨B, as, e, z, g1, g2, g3⟩ := r.obj x _ hob'
      obtain ⟨av, ha, hca⟩ := hf.2 _ _ hlk
      simp only [Cv] at hca
      obtain ⟨_, B', b0, g4, rfl⟩ := hca
      rw [ex.same x hxn, g1] at g4
      cases g4
      refine ⟨B, 0, ?_, g1, rfl⟩
      unfold softB
      rw [hop]
      simp only [hlast, if_true, ha, g2]
      simp [fam, famO, g2]
     ·obtain ⟨av, ha, hca⟩ := hf.2 _ _ hlk
      simp only [Cv] at hca
      obtain ⟨_, B', b0, g4, rfl⟩ := hca
      rw [ex.same x hxn] at g4
      obtain ⟨hkk, hn | ⟨B, b1, rr, g1, g2, g3⟩⟩ := r.obj x _ hob'
      ·rw [g4] at hn; cases hn.1
      ·rw [g4] at g1; cases g1
       cases rr <;> simp only [RowOk] at g3
       rename_i cs e op w sp f z
       refine ⟨B', b0, ?_, g4, by rcases hm with rfl | rfl <;> rfl⟩
       unfold softB
       rw [hop]
       simp only [hlast, if_true, ha, g2]
       simp [fam, famO, g2]
    obtain ⟨B, b, k3, k4, k5⟩ := key
    refine ⟨(B, fam s B) :: Bs, by simp only [softBs, ho, k3, k1], fun C hC => ?_⟩
    rcases List.mem_cons.1 hC with e | e
    ·subst e; exact .inl ⟨x, ob, b, hxm, hob', k5, hfz, k4, rfl⟩
    ·exact k2 C e
  obtain ⟨Bs, hBs, hBsp⟩ := soft effR hs
  simp only [drawOk2, hBs, hdist, hedge, hread, Bool.true_and]
  rw [List.all_eq_true] at hall ⊢
  intro e2 he2
  have hq := hall e2 he2
  obtain ⟨q, m⟩ := e2
  simp only [] at hq ⊢
  split
  ·rfl
  ·rename_i n1
   rw [if_neg n1] at hq
   by_cases ht : tieAll (befores [] ops) m eff2 = true
   ·rw [if_pos (tieAll_of (fun i hi => tieAll_spec ht i (hs i hi)))]
   ·rw [if_neg ht] at hq
    split
    ·rfl
    ·have hb := hq
     unfold freeV at hb
     unfold freeB
     rw [Bool.or_eq_true] at hb ⊢
     rcases hb with hb | hb
     ·left
      split at hb
      ·rename_i g2 want2 hg2
       rw [hg2]
       simp only []
       rw [nth_eq] at hb
       rw [getF_eq]
       split at hb
       ·rename_i p2 hp2
        rw [hp2]
        simp only []
        split at hb
        ·rename_i i2 hi2
         rw [hi2]
         simp only []
         rw [Bool.and_eq_true] at hb
         obtain ⟨hl2, hb⟩ := hb
         split at hb
         ·rename_i b2 hb2
          obtain ⟨A, hA, hcA⟩ := hf.2 _ _ hb2
          have := cv_bool hcA; subst this
          simp only [hl2, hA, hb, Bool.and_self]
         ·cases hb
        ·cases hb
       ·cases hb
      ·cases hb
     right
     split at hb
     ·rename_i ty2 t2 d2 hop2 hdst2
      rw [hop2, hdst2]
      simp only []
      rw [Bool.and_eq_true] at hb
      obtain ⟨hl2, hb⟩ := hb
      rw [hl2, Bool.true_and]
      split at hb
      ·rename_i a2 v2 ha2 hv2
       split at hb
       ·rename_i y hy
        simp only [Bool.and_eq_true] at hb
        obtain ⟨⟨⟨b1, b2⟩, b3⟩, b4⟩ := hb
        split at b4
        ·rename_i oy hoy
         have hoy' : H.get ⟨nx, fz, hl⟩ y = some oy := hoy
         have hyn : y < nx := r.lt y _ hoy'
         have hyx : y ∉ xs := fun hm => by rw [inN_mem hm] at b1; cases b1
         obtain ⟨A, hA, hcA⟩ := hf.2 _ _ ha2
         obtain ⟨VA, hVA, hcV⟩ := hf.2 _ _ hv2
         obtain ⟨B2, b02, o2, k1, k2, rfl⟩ := place_cv hy hcA
         rw [ex.same y hyn] at k2
         have hlt := r.blk y B2 b02 hyn k2
         have hno : inB B2 (kinA s B2) Bs = false := inB_not (fun B hB => by
          rcases hBsp B hB with ⟨x, o, b, g1, g2, g3, g4, g5, g6⟩ | ⟨n1, n2⟩
          rotate_left
          ·have := r.kin B2
           rw [kinA_fam]
           exact ⟨by omega, by omega⟩
          have hsep := r.sep x y _ oy B.1 B2 b b02 (fun e3 => hyx (e3 ▸ g1)) g2 hoy' g4 g3 b4 g5 k2
          rw [kinA_fam, g6]
          exact ⟨fun e3 => hsep.1 e3.symm, fun e3 => hsep.2 e3.symm⟩)
         simp only [hA, hVA, hno]
         simp only [Bool.not_false, Bool.true_and, Bool.and_eq_true, decide_eq_true_eq]
         refine ⟨⟨hlt, by rw [kinA_fam]; have := r.kin B2; omega⟩, ?_⟩
         rw [Bool.or_eq_true] at b3
         rcases b3 with b3 | b3
         ·exact flat_older b3 hcV
         ·unfold oldV at b3
          split at b3
          ·rename_i x3 len3
           have hx3 : x3 < nx := Nat.lt_of_succ_le (Nat.le_of_ble_eq_true b3)
           simp only [Cv] at hcV
           obtain ⟨_, ⟨_, _, rfl⟩ | ⟨B3, g3, rfl⟩⟩ := hcV
           ·rfl
           ·rw [ex.same x3 hx3] at g3
            have h3 := r.blk x3 B3 0 hx3 g3
            simp only [AV.older, decide_eq_true_eq]; exact h3
          ·rename_i x3 z3 o3 len3
           have hx3 : x3 < nx := Nat.lt_of_succ_le (Nat.le_of_ble_eq_true b3)
           simp only [Cv] at hcV
           obtain ⟨_, ⟨_, _, rfl⟩ | ⟨B3, b03, cap3, o3', g3, _, _, _, rfl⟩⟩ := hcV
           ·rfl
           ·rw [ex.same x3 hx3] at g3
            have h3 := r.blk x3 B3 b03 hx3 g3
            simp only [AV.older, decide_eq_true_eq]; exact h3
          ·cases b3
        ·cases b4
       ·cases hb
      ·cases hb
     ·rename_i hno
      have hno' : ∀ ty2 t2 d2, q.op = .load ty2 (.tmp t2) → q.dst = some d2 → False := fun ty2 t2 d2 e1 e2 => hno ty2 t2 d2 e1 e2
      split at hb
      ·rename_i t2 ht2
       rw [Bool.and_eq_true] at hb
       obtain ⟨hl2, hb⟩ := hb
       have key : lenFree (F'.t[t2]?) = true := by
        cases hlk : look f'.l t2 with
        | none => rw [hlk] at hb; cases hb
        | some a2 =>
         rw [hlk] at hb
         obtain ⟨A, hA, hcA⟩ := hf.2 _ _ hlk
         rw [hA]
         unfold lenFreeV at hb
         split at hb
         ·rename_i e; cases e; simp only [Cv] at hcA; subst hcA; rfl
         ·rename_i e; cases e; simp only [Cv] at hcA
          obtain ⟨_, ⟨_, _, rfl⟩ | ⟨B3, g3, rfl⟩⟩ := hcA <;> rfl
         ·rename_i e; cases e; simp only [Cv] at hcA
          obtain ⟨_, ⟨_, _, rfl⟩ | ⟨B3, b03, cap3, o3', g3, _, _, _, rfl⟩⟩ := hcA <;> rfl
         ·cases hb
       obtain ⟨c2, hc2, _⟩ := lenArg_spec ht2
       rw [hc2]
       simp only [ht2, hl2, key, Bool.and_self]
      ·cases hb
 ·cases hk
theorem reg_ok (ht : TTok P tt) : RegD P tt := by
 intro ops c ν h s f F K r hf hK
 obtain ⟨N, F', s', effR', f', h', ν', eff2', m1, m2, m3, m4, m5, m6, m7, m8⟩ := draw_ok ht (n00 := s.n) (fun b o ho => get_lt (r.froz b o ho)) r.snap.1 r (fun b o ho => get_lt (r.gr.gl b o ho)) (Nat.le_refl _) ⟨fun e he => (List.not_mem_nil he).elim, fun e he => (List.not_mem_nil he).elim, fun x B b _ _ e he => (List.not_mem_nil he).elim⟩ hf (fun i hi => hi) hK
 refine ⟨N, F', s', effR', f', h', ν', m1, ?_, (m3 ()).2, m4, m5, m6, m7, m8⟩
 have k := (m3 ()).1
 unfold drawOkV at k
 rw [Bool.or_eq_true] at k
 rcases k with k | k
 ·rw [drawOk_sub m2 k]; rfl
 ·exact drawS_ok r m5 m8 m2 (evD_nodup m1 (fun j hj => (List.not_mem_nil hj).elim) List.nodup_nil) k
end Go.Vm2
