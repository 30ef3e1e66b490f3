/-
 Part of the proof that a machine over named lists stands for the program's runs (VwRules). No conditions beyond those that its theorems name.
-/
import Derived.Test.YtjljleemknmgoaaVwDraw
namespace Go.Vm2
open Go Go.Vm
set_option linter.unusedVariables false
set_option linter.unusedSectionVars false
variable [Facts] [Val] [Sound] {P : Program} {tt : TT} {c : Px} {ν : Nu} {h : H} {s : St}
theorem shut_ok : ∀ {xs : List Nat} {h : H} {s : St} {ds : List Nat} {K : H → Prop}, R c ν h s → MarkRel h.nx ν xs ds → shutV h xs K → ∃ s' h', shutA s ds = some s' ∧ K h' ∧ R c ν h' s' ∧ h'.nx = h.nx ∧ h'.fz = h.fz ∧ s'.n = s.n
 | [], h, s, ds, K, r, hm, hK => by cases hm; exact ⟨s, h, rfl, hK, r, rfl, rfl, rfl⟩
 | x :: xs, h, s, ds, K, r, hm, hK => by
  obtain ⟨h0, B, b0, bs, h1, rfl, h3⟩ := hm
  simp only [shutV] at hK
  have hq := getK_inv hK
  clear hK
  obtain ⟨ob, hob, hK⟩ := hq
  split at hK
  ·obtain ⟨hfz, hK⟩ := putK_inv hK
   obtain ⟨B', b0', k1, k2⟩ := r.obj x _ hob
   rw [h1] at k1; cases k1
   have hlt := get_lt k2
   have u : Upd s (s.set B .dead) B := by
    refine ⟨rfl, sok_set _ _ r.ok, ?_, ?_, ?_, minF_l _ _, minF_r _ _, fun D h1 h2 h3 => le_minF h1 h2⟩
    ·unfold fam; rw [sget_set _ _ _ r.ok hlt, if_pos rfl, k2]; rfl
    ·intro cs e o w p f z hh; rw [sget_set _ _ _ r.ok hlt, if_pos rfl] at hh; cases hh
    ·intro b hb; left; rw [sget_set _ _ _ r.ok hlt, if_neg hb]
   have r1 := r.put (o' := .gone) hob hfz rfl h1 u trivial
   obtain ⟨s', h', m1, m2, m3, m4, m5, m6⟩ := shut_ok (h := ⟨h.nx, h.fz, (x, .gone) :: h.l⟩) r1 h3 hK
   exact ⟨s', h', by simp only [shutA, k2]; exact m1, m2, m3, m4, m5, by rw [m6]; rfl⟩
  ·exact hK.elim
theorem results_ok (ht : TTok P tt) (r : R c ν h s) {nt : Nat} {l : List (Nat × V)} {t : List AV} (hf : FrRel h.nx ν nt l t) : ∀ {rs : List ResultVar} {K : List V → Prop}, resultsV tt h l rs K → ∃ vs as, resultsA P s t rs = some as ∧ Cvs h.nx ν vs as ∧ K vs
 | [], K, hK => ⟨[], [], rfl, Cvs.nil, hK⟩
 | .tmp i :: rs, K, hK => by
  simp only [resultsV] at hK
  split at hK
  ·rename_i v hv
   obtain ⟨vs, as, k1, k2, k3⟩ := results_ok ht r hf hK
   obtain ⟨a, e1, e2⟩ := hf.2 i v hv
   exact ⟨_, _, by simp [resultsA, k1, e1], Cvs.cons e2 k2, k3⟩
  ·exact hK.elim
 | .cell i ty :: rs, K, hK => by
  simp only [resultsV] at hK
  split at hK
  ·rename_i v hv
   obtain ⟨a, e1, e2⟩ := hf.2 i v hv
   obtain ⟨u, b, m1, m2, m3⟩ := load_ok ht r e2 hK
   obtain ⟨vs, as, k1, k2, k3⟩ := results_ok ht r hf m3
   exact ⟨_, _, by simp [resultsA, k1, e1, m1], Cvs.cons m2 k2, k3⟩
  ·exact hK.elim
theorem args_look {n : Nat} {ν : Nu} : ∀ {args : List V} {as : List AV} {i : Nat}, Cvs n ν args as → ∀ j v, look (argsF i args) j = some v → i ≤ j ∧ ∃ a, as[j - i]? = some a ∧ Cv n ν v a
 | [], as, i, h, j, v, hv => by simp [argsF, look] at hv
 | u :: args, as, i, h, j, v, hv => by
  obtain ⟨a, as', rfl, h2, h3⟩ := h.inv
  simp only [argsF] at hv
  rw [look_cons] at hv
  split at hv
  ·rename_i e; subst e; simp at hv; subst hv
   exact ⟨Nat.le_refl _, a, by simp, h2⟩
  ·obtain ⟨k1, b, k2, k3⟩ := args_look h3 j v hv
   refine ⟨by omega, b, ?_, k3⟩
   have : j - i = (j - (i + 1)) + 1 := by omega
   rw [this]; simpa using k2
theorem enter (ht : TTok P tt) {fid : FuncId} {fn : Func} (hfn : P.funcs[fid]? = some fn) {cd : Code} (hb : fn.body = some cd) {args : List V} {K : V → H → Prop} {nt : Nat} (hnt : args.length + (fn.ntmps - args.length) = nt) (hT : (args.isEmpty && Facts.T.contains fid) = false) (hd : Facts.drop = false)
  (hK : W P tt h.nx none cd ⟨nt, argsF 0 args, []⟩ h (endF tt fn.results.toList K)) : SemF P fid args h K := by
 refine ⟨fun c ν s as r has => ?_⟩
 have hal := has.length
 have hempty : (as.isEmpty && Facts.T.contains fid) = false := by
  cases as <;> cases args <;> simp at hal hT ⊢ <;> exact hT
 have hf : FrRel h.nx ν nt (argsF 0 args) (as ++ List.replicate (fn.ntmps - as.length) aundef) := by
  refine ⟨by rw [List.length_append, List.length_replicate, hal]; exact hnt, fun i v hv => ?_⟩
  obtain ⟨_, a, h1, h2⟩ := args_look has i v hv
  refine ⟨a, ?_, h2⟩
  rw [Nat.sub_zero] at h1
  rw [List.getElem?_append_left (List.getElem?_eq_some_iff.1 h1).1]; exact h1
 have hsem := W_ok ht (reg_ok ht) hK
 obtain ⟨N, x, F', s1, f', h', ν', k1, k2, k3, k4, k5, k6, k7, k8⟩ := hsem.run (c.enter h s) ν { s with dirty := s.n } ⟨as ++ List.replicate (fn.ntmps - as.length) aundef, []⟩ none rfl r.enter hf rfl rfl
 obtain ⟨nt', l', d'⟩ := f'
 have main : (shutV h' d' fun h' => resultsV tt h' l' fn.results.toList fun vs => resultV vs fun v => Node (K v h')) → (∀ i, x ≠ .exit i) → ∃ N a s' v h' ν', (∃ os, evF P N fid as s = some (a, os) ∧ s' = os.getD s) ∧ K v h' ∧ R c ν' h' s' ∧ Cv h'.nx ν' v a ∧ Ex h ν s h' ν' s' := by
  intro hsh hx
  obtain ⟨s2, h2, m1, m2, m3, m4, m5, m6⟩ := shut_ok k3 k5 hsh
  obtain ⟨vs, vas, q1, q2, q3⟩ := results_ok ht m3 (nt := nt') (by rw [m4]; exact k4) m2
  have hres : ∃ v, K v h2 ∧ Cv h2.nx ν' v (resultA vas) := by
   unfold resultV at q3
   split at q3
   ·obtain ⟨a, as', rfl, e1, e2⟩ := q2.inv
    have := e2.inv0; subst this
    exact ⟨_, q3 (), e1⟩
   ·rename_i hne
    refine ⟨_, q3 (), ?_⟩
    simp only [Cv]
    refine ⟨vas, ?_, q2⟩
    unfold resultA
    split
    ·rename_i v
     have hl := q2.length
     cases vs with
     | nil => simp at hl
     | cons u us =>
      cases us with
      | nil => exact absurd rfl (hne u)
      | cons _ _ => simp at hl
    ·rfl
  obtain ⟨v, hv1, hv2⟩ := hres
  have hn2 : s.n ≤ s2.n := by rw [m6]; exact k7
  have hnx : h.nx ≤ h2.nx := by rw [m4]; exact k3.p_le
  refine ⟨N + 1, resultA vas, { s2 with dirty := min s.dirty s2.dirty }, v, h2, ν', ⟨some { s2 with dirty := min s.dirty s2.dirty }, ?_, rfl⟩, hv1, r.exit m3 k6 hn2, hv2, ⟨k6, hnx, by rw [m5]; exact k8, hn2, fun x B b h1 h2' h3 => m3.new x B b h1 h2' h3⟩⟩
  rw [evF]
  simp only [hfn, hb, hempty, Bool.false_eq_true, if_false, k1]
  cases x with
  | exit i => exact absurd rfl (hx i)
  | normal => simp only [m1, q1, hd, Bool.false_and, Bool.false_eq_true, if_false]
  | ret => simp only [m1, q1, hd, Bool.false_and, Bool.false_eq_true, if_false]
 cases x with
 | exit i => exact k2.elim
 | normal => exact main k2 (fun i e => by cases e)
 | ret => exact main k2 (fun i e => by cases e)
theorem head_ok {fid : FuncId} (hT : Facts.T.contains fid = true) {fn : Func} (hfn : P.funcs[fid]? = some fn) {cd : Code} (hb : fn.body = some cd) {K : V → H → Prop} (hK : K (.bool true) h) : SemF P fid [] h K :=
 ⟨fun c ν s as r has => by
  rw [has.inv0]
  refine ⟨1, .bool true, s, .bool true, h, ν, ⟨none, ?_, rfl⟩, hK, r, mk_bool, Ex.refl h ν s⟩
  rw [evF]
  simp only [hfn, hb, List.isEmpty_nil, hT, Bool.and_self, if_true]⟩
theorem SemF.mono {fid : FuncId} {args : List V} {K K' : V → H → Prop} (hs : SemF P fid args h K) (hk : ∀ v h, K v h → K' v h) : SemF P fid args h K' :=
 ⟨fun c ν s as r ha => by
  obtain ⟨N, a, s', v, h', ν', k1, k2, k3⟩ := hs.run c ν s as r ha
  exact ⟨N, a, s', v, h', ν', k1, hk _ _ k2, k3⟩⟩
abbrev Th := List (Nat × Option Nat)
def nameOk (θ : Th) (x y : Nat) : Bool :=
 match look θ x with
 | some (some z) => Nat.beq z y
 | _ => false
def nameNo (θ : Th) (x : Nat) : Bool :=
 match look θ x with
 | some none => true
 | _ => false
def When (b : Bool) (p : Prop) : Prop :=
 match b with
 | true => p
 | false => False
def sameAC : AC → AC → Prop
 | .ints l, .ints l' => l = l'
 | .recs l, .recs l' => l = l'
 | _, _ => False
def nilAC (ks : List CK) : AC → Prop
 | .ints l => match ks with
  | [.int _] => l = []
  | _ => False
 | .recs l => match ks with
  | [] => False
  | _ => l = []
def nilG (ks : List CK) : AC → Prop
 | .ints l => match ks with
  | [.int _] => l = []
  | _ => False
 | .recs l => match ks with
  | [] => False
  | [.int _] => False
  | _ => l = []
mutual
def sameV (θ : Th) : V → V → Prop
 | .int k n, v => match v with
  | .int k' n' => When (kindEq k k') (n = n')
  | _ => False
 | .bool b, v => match v with
  | .bool b' => b = b'
  | .test b' => b = b'
  | _ => False
 | .test b, v => match v with
  | .bool b' => b = b'
  | .test b' => b = b'
  | _ => False
 | .str s, v => match v with
  | .str s' => s = s'
  | _ => False
 | .nilp, v => match v with
  | .nilp => True
  | _ => False
 | .nils, v => match v with
  | .nils => True
  | _ => False
 | .nilm, v => match v with
  | .nilm => True
  | _ => False
 | .nilf, v => match v with
  | .nilf => True
  | _ => False
 | .nili, v => match v with
  | .nili => True
  | _ => False
 | .ptr x o, v => match v with
  | .ptr x' o' => When (nameOk θ x x') (o = o')
  | _ => False
 | .eptr x i z o, v => match v with
  | .eptr x' i' z' o' => When (nameOk θ x x') (i = i' ∧ z = z' ∧ o = o')
  | _ => False
 | .slc x z o len, v => match v with
  | .slc x' z' o' len' => When (nameOk θ x x') (z = z' ∧ o = o' ∧ len = len')
  | .grw x' len' => When (nameOk θ x x') (o = 0 ∧ len = len')
  | .nils => When (nameNo θ x) (len = 0)
  | _ => False
 | .grw x len, v => match v with
  | .grw x' len' => When (nameOk θ x x') (len = len')
  | .nils => When (nameNo θ x) (len = 0)
  | _ => False
 | .mp x, v => match v with
  | .mp x' => When (nameOk θ x x') True
  | _ => False
 | .fn f a d, v => match v with
  | .fn f' a' d' => When (Nat.beq f f') (sameVs θ a a' ∧ sameVs θ d d')
  | _ => False
 | .yld x, v => match v with
  | .yld x' => When (nameOk θ x x') True
  | _ => False
 | .agg cs, v => match v with
  | .agg cs' => sameVs θ cs cs'
  | _ => False
 | .tup cs, v => match v with
  | .tup cs' => sameVs θ cs cs'
  | _ => False
 | .lst κ e a, v => match v with
  | .lst κ' e' a' => κ = κ' ∧ e = e' ∧ sameAC a a'
  | .nils => nilG (kindsK κ e) a
  | _ => False
 | .gptr κ e a i o, v => match v with
  | .gptr κ' e' a' i' o' => κ = κ' ∧ e = e' ∧ sameAC a a' ∧ i = i' ∧ o = o'
  | _ => False
def sameVs (θ : Th) : List V → List V → Prop
 | [], l => match l with
  | [] => True
  | _ => False
 | v :: vs, l => match l with
  | v' :: vs' => sameV θ v v' ∧ sameVs θ vs vs'
  | [] => False
end
def modeLe : Mode → Mode → Bool
 | .rd, _ => true
 | .ro, .ro => true
 | .ro, .own => true
 | .own, .own => true
 | .grow, .grow => true
 | _, _ => false
def sameF (θ : Th) (l' : List (Nat × V)) : List (Nat × V) → Prop
 | [] => True
 | (i, v) :: l => (match look l' i with
  | some v' => sameV θ v v'
  | none => False) ∧ sameF θ l' l
def modeEq : Mode → Mode → Bool
 | .own, .own => true
 | .grow, .grow => true
 | _, _ => false
def sameO (θ : Th) : Ob → Ob → Prop
 | .cells cs, o => match o with
  | .cells cs' => sameVs θ cs cs'
  | _ => False
 | .arr ks m a, o => match o with
  | .arr ks' m' a' => When (cksEq ks ks' && modeLe m m') (sameAC a a')
  | _ => False
 | .loop st pend t nt ps as bo d, o => match o with
  | .loop st' pend' t' nt' ps' as' bo' d' => When (nameOk θ d d') (st = st' ∧ pend = pend' ∧ nt = nt' ∧ ps = ps' ∧ as = as' ∧ bo = bo' ∧ sameF θ t' t)
  | _ => False
 | .dfr, o => match o with
  | .dfr => True
  | _ => False
 | .sit l pos, o => match o with
  | .sit l' pos' => l = l' ∧ pos = pos'
  | _ => False
 | .map kt ks ag l, o => match o with
  | .map kt' ks' ag' l' => When (kindEq kt kt' && cksEq ks ks' && sameB ag ag') (l = l')
  | _ => False
 | .smap ks ag l, o => match o with
  | .smap ks' ag' l' => When (cksEq ks ks' && sameB ag ag') (l = l')
  | _ => False
 | .pmap ks ag l, o => match o with
  | .pmap ks' ag' l' => When (cksEq ks ks' && sameB ag ag') (l = l')
  | _ => False
 | .tarr κ e m a, o => match o with
  | .tarr κ' e' m' a' => When (modeEq m m') (κ = κ' ∧ e = e' ∧ sameAC a a')
  | _ => False
 | .tok, o => match o with
  | .tok => True
  | _ => False
 | .gone, _ => True
def nilO : Ob → Prop
 | .arr ks _ a => nilAC ks a
 | .tarr κ e _ a => nilG (kindsK κ e) a
 | _ => False
def sameH (θ : Th) (l' : List (Nat × Ob)) : List (Nat × Ob) → Prop
 | [] => True
 | (x, o) :: l => (match o with
  | .gone => True
  | o => match look θ x with
   | some (some y) => (match look l' y with
    | some o' => sameO θ o o'
    | none => False)
   | some none => nilO o
   | none => False) ∧ sameH θ l' l
def noDup (y : Nat) : Th → Bool
 | [] => true
 | (_, some z) :: θ => !(Nat.beq z y) && noDup y θ
 | (_, none) :: θ => noDup y θ
def okTh (p n n' fz : Nat) : Th → Bool
 | [] => true
 | (x, none) :: θ => Nat.blt x n && Nat.ble p x && okTh p n n' fz θ
 | (x, some y) :: θ => Nat.blt x n && Nat.blt y n' && (Nat.beq x y || Nat.ble p x && Nat.ble p y) && (Nat.blt x fz || Nat.ble fz y) && noDup y θ && okTh p n n' fz θ
def namesOk (n : Nat) : List (Nat × Ob) → Bool
 | [] => true
 | (x, _) :: l => Nat.blt x n && namesOk n l
def sameD (θ : Th) : List Nat → List Nat → Bool
 | [], [] => true
 | x :: xs, y :: ys => nameOk θ x y && sameD θ xs ys
 | _, _ => false
end Go.Vm2
