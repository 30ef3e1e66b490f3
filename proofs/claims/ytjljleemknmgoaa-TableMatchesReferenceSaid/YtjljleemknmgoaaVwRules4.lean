/-
 Part of the proof that a machine over named lists stands for the program's runs (VwRules4). No conditions beyond those that its theorems name.
-/
import Derived.Test.YtjljleemknmgoaaVwRules3
namespace Go.Vm2
open Go Go.Vm
set_option linter.unusedVariables false
set_option linter.unusedSectionVars false
variable [Facts] [Val] [Sound] {P : Program} {tt : TT} {c : Px} {ν : Nu}
def finV (pend : Option AX) (f : Frm) (mark : List Nat) (K : Post) (h : H) : Prop :=
 match pend with
 | none => K .normal ⟨f.nt, f.l, app mark f.d⟩ h
 | some x => K x ⟨f.nt, f.l, app mark f.d⟩ h
def backV (L : Nat) (f : Frm) (mark : List Nat) (K : Post) (h3 : H) : Prop :=
 h3.getK L fun ob => match ob with
  | .loop st pend t nt ps as bo D => match st with
   | .busy => False
   | _ => h3.putK L (.loop .exhausted pend t nt ps as bo D) fun h4 => finV pend f mark K h4
  | _ => False
def memN : List Nat → Nat → Bool
 | [], _ => false
 | y :: l, x => match Nat.beq y x with
  | true => true
  | false => memN l x
def nubL {α : Type} : List Nat → List (Nat × α) → List (Nat × α)
 | _, [] => []
 | seen, (x, a) :: l => match memN seen x with
  | true => nubL seen l
  | false => (x, a) :: nubL (x :: seen) l
theorem look_nub {α : Type} : ∀ (l : List (Nat × α)) (seen : List Nat) (x : Nat), memN seen x = false → look (nubL seen l) x = look l x
 | [], seen, x, h => rfl
 | (y, a) :: l, seen, x, h => by
  simp only [nubL]
  split
  ·rename_i hm
   rw [look_nub l seen x h, look_cons]
   split
   ·rename_i e; subst e; rw [hm] at h; cases h
   ·rfl
  ·rename_i hm
   rw [look_cons, look_cons]
   split
   ·rfl
   ·rename_i e
    refine look_nub l (y :: seen) x ?_
    simp only [memN]
    cases hb : Nat.beq y x with
    | true => exact absurd (Nat.eq_of_beq_eq_true hb) e
    | false => exact h
theorem FrRel.nub {n : Nat} {ν : Nu} {nt : Nat} {l : List (Nat × V)} {t : List AV} (hf : FrRel n ν nt l t) : FrRel n ν nt (nubL [] l) t :=
 ⟨hf.1, fun i v hv => hf.2 i v (by rw [look_nub l [] i rfl] at hv; exact hv)⟩
def rangeGo (P : Program) [Facts] (g : Operand) (ps : List Tmp) (as bo : Code) (f : Frm) (K : Post) (D : Nat) (mark : List Nat) (h1 : H) : Prop :=
 match f with
 | ⟨nt, l, d⟩ => match eval l g with
  | some (.fn gid fst cap) => forceL (nubL [] l) fun l' => h1.newK (.loop .ready none l' nt ps as bo D) fun L h2 => appV fst [.yld L] cap fun args => Node (SemF P gid args h2 fun _ h3 => backV L ⟨nt, l, d⟩ mark K h3)
  | _ => False
def rangeV (P : Program) [Facts] (rnd : Option Nat) (g : Operand) (ps : List Tmp) (as bo : Code) (f : Frm) (h : H) (K : Post) : Prop :=
 match rnd with
 | none => h.newK .dfr fun D h1 => rangeGo P g ps as bo f K D [D] h1
 | some x => h.getK x fun ob => match ob with
  | .loop _ _ _ _ _ _ _ D => rangeGo P g ps as bo f K D [] h
  | _ => False
theorem loop_upd {s : St} (hok : s.ok) {B : Nat} {st st' : LoopState} {pend pend' : Option AX} {ts ts' : List AV} {ps ps' : List Tmp} {as bo as' bo' : Code} {D D' : Nat} (hB : s.get B = some (.loop st pend ts ps as bo D)) :
  Upd s (s.set B (.loop st' pend' ts' ps' as' bo' D')) B ∧ (s.set B (.loop st' pend' ts' ps' as' bo' D')).get B = some (.loop st' pend' ts' ps' as' bo' D') := by
 have hlt := get_lt hB
 refine ⟨⟨rfl, sok_set _ _ hok, ?_, ?_, ?_, minF_l _ _, minF_r _ _, fun D h1 h2 h3 => le_minF h1 h2⟩, by rw [sget_set _ _ _ hok hlt, if_pos rfl]⟩
 ·unfold fam; rw [sget_set _ _ _ hok hlt, if_pos rfl, hB]; rfl
 ·intro cs e o w p f z hh; rw [sget_set _ _ _ hok hlt, if_pos rfl] at hh; cases hh
 ·intro b hb; left; rw [sget_set _ _ _ hok hlt, if_neg hb]
theorem mark_app {n : Nat} {ν : Nu} {xs ys a b : List Nat} (h : MarkRel n ν xs a) (k : MarkRel n ν ys b) : MarkRel n ν (xs ++ ys) (a ++ b) := by
 induction xs generalizing a with
 | nil => cases h; exact k
 | cons x xs ih =>
  obtain ⟨h0, B, b0, bs, h1, rfl, h3⟩ := h
  exact ⟨h0, B, b0, bs ++ b, h1, rfl, ih h3⟩
theorem range_ok {p : Nat} {rnd : Option Nat} {g : Operand} {ps : Array Tmp} {as bo : Code} {f : Frm} {h : H} {K : Post} (hK : rangeV P rnd g ps.toList as bo f h K) : SemC P p rnd (.rangeFunc g ps as bo) f h K := by
 obtain ⟨nt, l, d⟩ := f
 refine ⟨fun c ν s F r hp hR hf hm hrr => ?_⟩
 have go : ∀ (D : Nat) (mark : List Nat) (h1 : H) (s1 : St) (ν1 : Nu) (Dr : Nat) (rmark : List Nat), R c ν1 h1 s1 → Ex h ν s h1 ν1 s1 → D < h1.nx → (∃ d0, ν1 D = some (Dr, d0)) → MarkRel h1.nx ν1 mark rmark →
   rangeGo P g ps.toList as bo ⟨nt, l, d⟩ K D mark h1 →
   ∃ N a os gid fst cap, aEval F.t g = some (.fn gid fst cap) ∧ evF P N gid (fst ++ [.yld s1.n] ++ cap) (s1.push (.loop .ready none F.t ps.toList as bo Dr)) = some (a, os) ∧
    ∃ st pend ts ps' as' bo' D', (os.getD (s1.push (.loop .ready none F.t ps.toList as bo Dr))).get s1.n = some (.loop st pend ts ps' as' bo' D') ∧ st ≠ .busy ∧
     ∃ f' h' ν', K (pend.getD .normal) f' h' ∧ R c ν' h' ((os.getD (s1.push (.loop .ready none F.t ps.toList as bo Dr))).set s1.n (.loop .exhausted pend ts ps' as' bo' D')) ∧ FrRel h'.nx ν' f'.nt f'.l F.t ∧ MarkRel h'.nx ν' f'.d (rmark ++ F.d) ∧
      Nu.le p ν ν' ∧ s.n ≤ ((os.getD (s1.push (.loop .ready none F.t ps.toList as bo Dr))).set s1.n (.loop .exhausted pend ts ps' as' bo' D')).n ∧ h'.fz = h.fz := by
  intro D mark h1 s1 ν1 Dr rmark r1 ex1 hD hν hmk hgo
  obtain ⟨d0, hν⟩ := hν
  simp only [rangeGo] at hgo
  split at hgo
  ·rename_i gid fst cap hg
   have hf1 : FrRel h1.nx ν1 nt l F.t := hf.mono ex1.same ex1.nx
   obtain ⟨a0, k1, k2⟩ := eval_cv hf1 hg
   simp only [Cv] at k2
   obtain ⟨fs, cs, rfl, k3, k4⟩ := k2
   rw [forceL_eq] at hgo
   have hgo := newK_inv hgo
   have hgo := appV_ok hgo
   have r2 := r1.push_new (q := .loop .ready none F.t ps.toList as bo Dr) (o := .loop .ready none (nubL [] l) nt ps.toList as bo D) (b0 := 0) rfl (fun cs e o w p f z hh => by cases hh)
    (by
     refine ⟨s1.n, 0, F.t, Dr, d0, Nu.set_self, Nat.lt_succ_of_lt hD, by rw [Nu.set_lt D hD]; exact hν, by rw [sget_push, if_pos rfl], ?_⟩
     exact hf1.nub.mono Nu.set_lt (Nat.le_succ _))
   have ex2 := Ex.push h1 ν1 s1 (.loop .ready none F.t ps.toList as bo Dr) (.loop .ready none (nubL [] l) nt ps.toList as bo D) 0
   have ex12 := ex1.trans ex2
   have hargs : Cvs (h1.nx + 1) (Nu.set ν1 h1.nx (some (s1.n, 0))) (fst ++ [.yld h1.nx] ++ cap) (fs ++ [.yld s1.n] ++ cs) := by
    refine Cvs.append (Cvs.append (Cvs.mono Nu.set_lt (Nat.le_succ _) _ _ k3) ?_) (Cvs.mono Nu.set_lt (Nat.le_succ _) _ _ k4)
    refine Cvs.cons ?_ Cvs.nil
    simp only [Cv]
    exact ⟨Nat.lt_succ_self _, s1.n, 0, Nu.set_self, rfl⟩
   obtain ⟨N, a, s', v, h3, ν3, ⟨os, q1, rfl⟩, q3, q4, q5, q6⟩ := (hgo ()).run c _ _ _ r2 hargs
   simp only [backV] at q3
   have hq := getK_inv q3
   clear q3
   obtain ⟨ob, hob, q3⟩ := hq
   split at q3
   ·rename_i st pend t nt' ps' as' bo' D'
    obtain ⟨B, b0, ts, Dr', d0', e1, e2, e3, e4, e5⟩ := q4.obj _ _ hob
    have hL : ν3 h1.nx = some (s1.n, 0) := by rw [q6.same h1.nx (Nat.lt_succ_self _)]; exact Nu.set_self
    rw [hL] at e1; cases e1
    have hst : st ≠ .busy := by intro e; subst e; exact q3
    have q3 : h3.putK h1.nx (.loop .exhausted pend t nt' ps' as' bo' D') fun h4 => finV pend ⟨nt, l, d⟩ mark K h4 := by
     cases st with
     | busy => exact absurd rfl hst
     | ready => exact q3
     | done => exact q3
     | exhausted => exact q3
    obtain ⟨hfz, q3⟩ := putK_inv q3
    obtain ⟨u1, u2⟩ := loop_upd q4.ok e4 (st' := .exhausted) (pend' := pend) (ts' := ts) (ps' := ps') (as' := as') (bo' := bo') (D' := Dr')
    have r4 := q4.put (o' := .loop .exhausted pend t nt' ps' as' bo' D') hob hfz rfl hL u1 ⟨s1.n, 0, ts, Dr', d0', hL, e2, e3, u2, e5⟩
    have ex3 := ex12.trans q6
    refine ⟨N, a, os, gid, fs, cs, k1, q1, st, pend, ts, ps', as', bo', Dr', e4, hst, ⟨nt, l, app mark d⟩, _, ν3, ?_, r4, hf.mono ex3.same ex3.nx, ?_, ex3.same.sub (by have := hR.p_le; omega), ex3.n, ex3.fz⟩
    ·cases pend with
     | none => exact q3
     | some x => exact q3
    ·rw [app_eq]
     exact mark_app (hmk.mono (Nu.set_lt.trans q6.same (Nat.le_succ _)) (Nat.le_trans (Nat.le_succ _) q6.nx)) (hm.mono ex3.same ex3.nx)
   ·exact q3.elim
  ·exact hgo.elim
 cases rnd with
 | none =>
  simp only [rangeV] at hK
  have hK := newK_inv hK
  have hr0 : r = none := hrr
  subst hr0
  have r1 := hR.push_new (q := .dfr) (o := .dfr) (b0 := 0) rfl (fun cs e o w p f z hh => by cases hh) ⟨s.n, 0, Nu.set_self, by rw [sget_push, if_pos rfl]⟩
  have ex1 := Ex.push h ν s .dfr .dfr 0
  obtain ⟨N, a, os, gid, fst, cap, k1, k2, st, pend, ts, ps', as', bo', D', k3, k4, f', h', ν', k5, k6, k7, k8, k9, k10, k11⟩ := go h.nx [h.nx] _ _ _ s.n [s.n] r1 ex1 (Nat.lt_succ_self _) ⟨0, Nu.set_self⟩ ⟨Nat.lt_succ_self _, s.n, 0, [], Nu.set_self, rfl, rfl⟩ hK
  refine ⟨N + 1, pend.getD .normal, { F with d := [s.n] ++ F.d }, _, f', h', ν', ?_, k5, k6, k7, k8, k9, k10, k11⟩
  rw [evC]
  simp only [k1, k2, k3, if_neg k4]
  cases pend <;> rfl
 | some x =>
  simp only [rangeV] at hK
  have hq := getK_inv hK
  clear hK
  obtain ⟨ob, hob, hK⟩ := hq
  split at hK
  ·rename_i st0 pend0 t0 nt0 ps0 as0 bo0 D
   obtain ⟨hx, B, b0, hB, rfl⟩ := hrr
   obtain ⟨B', b0', ts0, Dr, d0, e1, e2, e3, e4, e5⟩ := hR.obj _ _ hob
   rw [hB] at e1; cases e1
   obtain ⟨N, a, os, gid, fst, cap, k1, k2, st, pend, ts, ps', as', bo', D', k3, k4, f', h', ν', k5, k6, k7, k8, k9, k10, k11⟩ := go D [] h s ν Dr [] hR (Ex.refl _ _ _) e2 ⟨d0, e3⟩ rfl hK
   refine ⟨N + 1, pend.getD .normal, { F with d := [] ++ F.d }, _, f', h', ν', ?_, k5, k6, k7, k8, k9, k10, k11⟩
   rw [evC]
   simp only [e4, k1, k2, k3, if_neg k4]
   cases pend <;> rfl
  ·exact hK.elim
def setPs (nt : Nat) : List Tmp → List V → List (Nat × V) → (List (Nat × V) → Prop) → Prop
 | [], [], l, K => K l
 | p :: ps, v :: vs, l, K => match Nat.blt p nt with
  | true => setPs nt ps vs ((p, v) :: l) K
  | false => False
 | _, _, _, _ => False
theorem setPs_ok {n : Nat} {ν : Nu} {nt : Nat} : ∀ {ps : List Tmp} {vs : List V} {as : List AV} {l : List (Nat × V)} {t : List AV} {K : List (Nat × V) → Prop}, Cvs n ν vs as → FrRel n ν nt l t → setPs nt ps vs l K → as.length = ps.length ∧ ∃ l', K l' ∧ FrRel n ν nt l' (setParams t ps as)
 | [], [], as, l, t, K, hv, hf, hK => by rw [hv.inv0]; exact ⟨rfl, l, hK, hf⟩
 | [], v :: vs, as, l, t, K, hv, hf, hK => by simp only [setPs] at hK
 | p :: ps, [], as, l, t, K, hv, hf, hK => by simp only [setPs] at hK
 | p :: ps, v :: vs, as, l, t, K, hv, hf, hK => by
  obtain ⟨a, as', rfl, h2, h3⟩ := hv.inv
  simp only [setPs] at hK
  split at hK
  ·rename_i e
   obtain ⟨k1, l', k2, k3⟩ := setPs_ok h3 (hf.put (Nat.lt_of_succ_le (Nat.le_of_ble_eq_true e)) h2) hK
   exact ⟨by simp [k1], l', k2, k3⟩
  ·exact hK.elim
def roundV (L : Nat) (K : V → H → Prop) : Post := fun x _ h =>
 h.getK L fun ob => match ob with
  | .loop _ _ t nt ps as bo D => match x with
   | .normal => h.putK L (.loop .ready none t nt ps as bo D) fun h' => Node (K (.bool true) h')
   | .ret => h.putK L (.loop .done (some .ret) t nt ps as bo D) fun h' => Node (K (.bool false) h')
   | .exit i => h.putK L (.loop .done (some (.exit i)) t nt ps as bo D) fun h' => Node (K (.bool false) h')
  | _ => False
def bodyV (P : Program) [Facts] (tt : TT) (p L : Nat) (bo : Code) (K : V → H → Prop) : Post := fun x f h =>
 match x with
 | .normal => h.getK L fun ob => match ob with
  | .loop st pend t nt ps as bo' D => match st with
   | .ready => h.putK L (.loop .busy pend t nt ps as bo' D) fun h' => W P tt p (some L) bo f h' (roundV L K)
   | _ => False
  | _ => False
 | _ => False
def yieldV (P : Program) [Facts] (tt : TT) (L : Nat) (args : List V) (h : H) (K : V → H → Prop) : Prop :=
 match h with
 | ⟨nx, fz, l⟩ => match look l L with
  | some (.loop st _ t nt ps as bo _) => match st with
   | .ready => setPs nt ps args t fun t' => W P tt nx (some L) as ⟨nt, t', []⟩ ⟨nx, fz, l⟩ (bodyV P tt nx L bo K)
   | _ => False
  | _ => False
theorem yield_ok (ht : TTok P tt) {L : Nat} {args : List V} {h : H} {K : V → H → Prop} (hK : yieldV P tt L args h K) : SemY P L args h K := by
 refine ⟨fun c ν s as B b0 r has hL hB => ?_⟩
 obtain ⟨nx, fz, l⟩ := h
 simp only [yieldV] at hK
 split at hK
 ·rename_i st pend t nt ps asg bo D hob
  split at hK
  ·obtain ⟨B', b0', ts, Dr, d0, e1, e2, e3, e4, e5⟩ := r.obj L _ hob
   rw [hB] at e1; cases e1
   obtain ⟨hlen, t', hW, hft⟩ := setPs_ok has e5 hK
   have r1 : R { c with p := nx, lo := s.n } ν ⟨nx, fz, l⟩ s := ⟨r.ok, r.obj, r.lt, r.sep, r.gsep, r.froz, r.kin, r.th, r.tc, Nat.le_refl _, Nat.le_refl _, fun x B b h1 h2 => by simp only [] at h1 h2; omega, r.blk, r.snap, r.gr.gl, r.gr.ga, r.gr.gg, r.gr.tk⟩
   have hrnd : RndRel nx ν (some L) (some B) := ⟨hL, B, _, hB, rfl⟩
   obtain ⟨N1, x1, F1, s1, f1, h1, ν1, k1, k2, k3, k4, k5, k6, k7, k8⟩ := (W_ok ht (reg_ok ht) hW).run { c with p := nx, lo := s.n } ν s ⟨setParams ts ps as, []⟩ (some B) rfl r1 hft rfl hrnd
   cases x1 with
   | ret => exact k2.elim
   | exit i => exact k2.elim
   | normal =>
    simp only [bodyV] at k2
    have hq := getK_inv k2
    clear k2
    obtain ⟨ob, hob1, k2⟩ := hq
    split at k2
    ·rename_i st1 pend1 t1 nt1 ps1 as1 bo1 D1
     split at k2
     ·obtain ⟨hfz, k2⟩ := putK_inv k2
      obtain ⟨B1, b1, ts1, Dr1, d1, g1, g2, g3, g4, g5⟩ := k3.obj L _ hob1
      have hL1 : ν1 L = some (B, b0) := by rw [k6 L hL]; exact hB
      rw [hL1] at g1; cases g1
      obtain ⟨u1, u2⟩ := loop_upd k3.ok g4 (st' := .busy) (pend' := pend1) (ts' := ts1) (ps' := ps1) (as' := as1) (bo' := bo1) (D' := Dr1)
      have r2 := k3.put (o' := .loop .busy pend1 t1 nt1 ps1 as1 bo1 D1) hob1 hfz rfl hL1 u1 ⟨B, _, ts1, Dr1, d1, hL1, g2, g3, u2, g5⟩
      obtain ⟨N2, x2, F2, s2, f2, h2, ν2, m1, m2, m3, m4, m5, m6, m7, m8⟩ := (W_ok ht (reg_ok ht) k2).run { c with p := nx, lo := s.n } ν1 _ F1 (some B) rfl r2 k4 k5 (rnd_mono k6 hrnd)
      simp only [roundV] at m2
      have hq := getK_inv m2
      clear m2
      obtain ⟨ob2, hob2, m2⟩ := hq
      split at m2
      ·rename_i st2 pend2 t2 nt2 ps2 as2 bo2 D2
       obtain ⟨B2, b2, ts2, Dr2, d2, n1, n2, n3, n4, n5⟩ := m3.obj L _ hob2
       have hL2 : ν2 L = some (B, b0) := by rw [m6 L hL]; exact hL1
       rw [hL2] at n1; cases n1
       have fin : ∀ (st' : LoopState) (pend' : Option AX) (b : Bool), h2.putK L (.loop st' pend' t2 nt2 ps2 as2 bo2 D2) (fun h' => Node (K (.bool b) h')) →
         evR P (max N1 N2 + 1) B as s = some (.bool b, some (s2.set B (.loop st' pend' ts2 ps2 as2 bo2 Dr2))) →
         ∃ N a s' v h' ν', (∃ os, evR P N B as s = some (a, os) ∧ s' = os.getD s) ∧ K v h' ∧ R c ν' h' s' ∧ Cv h'.nx ν' v a ∧ Ex ⟨nx, fz, l⟩ ν s h' ν' s' := by
        intro st' pend' b hput hev
        obtain ⟨hfz2, hput⟩ := putK_inv hput
        obtain ⟨w1, w2⟩ := loop_upd m3.ok n4 (st' := st') (pend' := pend') (ts' := ts2) (ps' := ps2) (as' := as2) (bo' := bo2) (D' := Dr2)
        have r3 := m3.put (o' := .loop st' pend' t2 nt2 ps2 as2 bo2 D2) hob2 hfz2 rfl hL2 w1 ⟨B, _, ts2, Dr2, d2, hL2, n2, n3, w2, n5⟩
        have hsame : Nu.le nx ν ν2 := k6.trans m6 (Nat.le_refl _)
        have hn2 : s.n ≤ s2.n := Nat.le_trans k7 m7
        refine ⟨_, .bool b, _, .bool b, _, ν2, ⟨_, hev, rfl⟩, hput (), ?_, mk_bool, ⟨hsame, r3.p_le, ?_, hn2, fun x B b h1 h2 h3 => r3.new x B b h1 h2 h3⟩⟩
        ·refine ⟨r3.ok, r3.obj, r3.lt, r3.sep, r3.gsep, r3.froz, r3.kin, r3.th, r3.tc, Nat.le_trans r.p_le r3.p_le, Nat.le_trans r.lo_le hn2, ?_, r3.blk, r3.snap, r3.gr.gl, r3.gr.ga, r3.gr.gg, r3.gr.tk⟩
         intro x B b h1 h2 h3
         rcases Nat.lt_or_ge x nx with e | e
         ·exact r.new x B b h1 e (by rw [← hsame x e]; exact h3)
         ·exact Nat.le_trans r.lo_le (r3.new x B b e h2 h3)
        ·show h2.fz = fz
         rw [m8]; exact k8
       have base : evR P (max N1 N2 + 1) B as s = (match x2 with
         | .normal => some (.bool true, some (s2.set B (.loop .ready none ts2 ps2 as2 bo2 Dr2)))
         | x => some (.bool false, some (s2.set B (.loop .done (some x) ts2 ps2 as2 bo2 Dr2)))) := by
        rw [evR]
        simp only [e4]
        rw [if_pos hlen, evC_le k1 (Nat.le_max_left _ _)]
        simp only [g4]
        rw [evC_le m1 (Nat.le_max_right _ _)]
        simp only [n4]
        cases x2 <;> rfl
       cases x2 with
       | normal => exact fin .ready none true m2 base
       | ret => exact fin .done (some .ret) false m2 base
       | exit i => exact fin .done (some (.exit i)) false m2 base
      ·exact m2.elim
     ·exact k2.elim
    ·exact k2.elim
  ·exact hK.elim
 ·exact hK.elim
end Go.Vm2
