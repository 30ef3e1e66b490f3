/-
 Part of the proof that a machine over named lists stands for the program's runs (VwTop). No conditions beyond those that its theorems name.
-/
import Derived.Test.YtjljleemknmgoaaVwRules2
namespace Go.Vm2
open Go Go.Vm
set_option linter.unusedVariables false
set_option linter.unusedSectionVars false
structure Src where
 at_ : Option (Nat × Nat)
 ks : List CK
 ac : AC
def Src.ob (s : Src) : Ob := .arr s.ks .ro s.ac
def objsOf : Nat → List Src → List (Nat × Ob)
 | _, [] => []
 | i, s :: l => (i, s.ob) :: objsOf (i + 1) l
def nuOf (l : List Src) : Nu := ⟨fun j => match l[j]? with
 | some s => match s.at_ with
  | some _ => some (j, 0)
  | none => none
 | none => none, fun _ => none⟩
theorem nuOf_f (l : List Src) (j : Nat) : (nuOf l) j = match l[j]? with
 | some s => match s.at_ with
  | some _ => some (j, 0)
  | none => none
 | none => none := rfl
def rhoOf (l : List Src) : Rho := fun j => match l[j]? with
 | some s => match s.at_ with
  | some (B, o) => some (B, o, none)
  | none => none
 | none => none
def Src.ao (j : Nat) (s : Src) : AO :=
 match s.at_ with
 | some _ => .row (s.ac.avs s.ks) 0 false false false j 0
 | none => .dead
def aosOf (l : List Src) : List AO := l.zipIdx.map fun (s, j) => s.ao j
def stOf (l : List Src) : St := ⟨l.length, (aosOf l).reverse, 0⟩
def IsTrue : V → Prop
 | .bool b => b = true
 | .test b => b = true
 | _ => False
theorem objsOf_look : ∀ (l : List Src) (i x : Nat) (o : Ob), look (objsOf i l) x = some o → i ≤ x ∧ ∃ s, l[x - i]? = some s ∧ o = s.ob
 | [], i, x, o, h => by simp [objsOf, look] at h
 | s :: l, i, x, o, h => by
  simp only [objsOf] at h
  rw [look_cons] at h
  split at h
  ·rename_i e; subst e; simp at h; subst h; exact ⟨Nat.le_refl _, s, by simp, rfl⟩
  ·obtain ⟨h1, s', h2, h3⟩ := objsOf_look l (i + 1) x o h
   refine ⟨by omega, s', ?_, h3⟩
   have : x - i = (x - (i + 1)) + 1 := by omega
   rw [this]; simpa using h2
theorem aosOf_get (l : List Src) (j : Nat) : (aosOf l)[j]? = (l[j]?).map (Src.ao j) := by
 unfold aosOf
 rw [List.getElem?_map, List.getElem?_zipIdx]
 cases l[j]? <;> simp
theorem stOf_get (l : List Src) (b : Nat) : (stOf l).get b = (l[b]?).map (Src.ao b) := by
 rw [St.get_def]; unfold stOf
 simp only []
 have hl : (aosOf l).length = l.length := by simp [aosOf]
 split
 ·rename_i hb
  rw [List.getElem?_reverse (by rw [hl]; omega), hl]
  have : l.length - 1 - (l.length - 1 - b) = b := by omega
  rw [this, aosOf_get]
 ·rename_i hb
  have : l[b]? = none := by rw [List.getElem?_eq_none_iff]; omega
  rw [this]; rfl
variable {P : Program}
def Src.lies (s : Src) (w : World) : Prop :=
 ksOk s.ks s.ac ∧ match s.at_ with
  | none => s.ac.len = 0
  | some (B, o) => ∃ c t fz, w.heap[B]? = some (.cells c t fz) ∧ o + s.ac.len * s.ks.length ≤ c.size ∧
    ∀ i ck d, (s.ac.avs s.ks)[i]? = some (CK.av ck d) → c[o + i]? = some (match ck with | .int k => Value.int k d.int | .bool => .bool d.bool | .str => .string ⟨d.str.toArray⟩ | .nils => .slice none 0 0 | .list _ => .slice none 0 0)
theorem avs_av {ks : List CK} {a : AC} : ksOk ks a → ∀ {i : Nat} {v : AV}, (a.avs ks)[i]? = some v → ∃ ck d, v = CK.av ck d := by
 intro hk i v hv
 have hm := List.mem_of_getElem? hv
 cases a with
 | ints l =>
  obtain ⟨k, rfl⟩ := hk
  simp only [AC.avs] at hm
  obtain ⟨m, _, rfl⟩ := List.mem_map.1 hm
  exact ⟨.int k, .n m, rfl⟩
 | recs l =>
  simp only [AC.avs] at hm
  obtain ⟨ds, _, h2⟩ := List.mem_flatMap.1 hm
  have key : ∀ (ks : List CK) (j : Nat), v ∈ rowAV ks j ds → ∃ ck d, v = CK.av ck d := by
   intro ks
   induction ks with
   | nil => intro j h; simp [rowAV] at h
   | cons c ks ih =>
    intro j h
    simp only [rowAV] at h
    rcases List.mem_cons.1 h with e | e
    ·exact ⟨c, _, e⟩
    ·exact ih _ e
  exact key ks 0 h2
theorem top_run (hp : (P.funcs.all fun f => !(f.name == "runtime.NumGoroutine")) = true) (hm : P.follows .mixedOrders = true) {T : List FuncId}
  (hT : ∀ f ∈ T, ∀ w, Calls P f #[] w fun e w' => e = .returned (.bool true) ∧ Go.RowKit.Below w.heap.size w w') {fid : FuncId} {l : List Src} {args : List V} {as : List AV} {cargs : List Value} (w : World)
  (hl : ∀ s ∈ l, s.lies w) (hargs : Cvs l.length (nuOf l) args as)
  (hconv : @convs ⟨fun _ => 0⟩ (rhoOf l) as = some cargs)
  (hs : @SemF P ⟨[], T, false⟩ fid args ⟨l.length, l.length, objsOf 0 l⟩ (fun v _ => IsTrue v)) :
  Calls P fid cargs.toArray w fun e w' => e = .returned (.bool true) ∧ Go.RowKit.Below w.heap.size w w' := by
 letI : Facts := ⟨[], T, false⟩
 letI : Val := ⟨fun _ => 0⟩
 haveI : Sound := ⟨fun f hf => (List.not_mem_nil hf).elim⟩
 haveI : Trues P := ⟨hT⟩
 let c : Px := { G := fun _ => none, Q := fun _ => False, nf := False, TH := fun _ => False, TC := fun _ => False, p := 0, lo := 0, n0 := 0, g0 := fun _ => none }
 have hok : (stOf l).ok := by simp [St.ok, stOf, aosOf]
 have hfam : ∀ b, fam (stOf l) b ≤ b := by
  intro b
  unfold fam
  rw [stOf_get]
  cases l[b]? with
  | none => exact Nat.le_refl _
  | some s =>
   simp only [Option.map_some, Src.ao]
   cases s.at_ <;> exact Nat.le_refl _
 have r : R c (nuOf l) ⟨l.length, l.length, objsOf 0 l⟩ (stOf l) := by
  have hlt : ∀ x o, look (objsOf 0 l) x = some o → x < l.length := by
   intro x o hx
   obtain ⟨_, s, h1, _⟩ := objsOf_look l 0 x o hx
   exact (List.getElem?_eq_some_iff.1 h1).1
  refine ⟨hok, ?_, hlt, ?_, ?_, (fun b o h => by cases h), hfam, (fun D h => False.elim h), (fun D h => False.elim h), Nat.zero_le _, Nat.zero_le _, (fun _ _ _ _ _ _ => Nat.zero_le _), ?_, ⟨Nat.zero_le _, fun b h => absurd h (Nat.not_lt_zero _)⟩, (fun b o h => by cases h), (fun x o B b b' _ _ _ _ h => by cases h), (fun b h => by cases h), (fun h => False.elim h)⟩
  ·intro x o hx
   obtain ⟨_, s, h1, rfl⟩ := objsOf_look l 0 x o hx
   rw [Nat.sub_zero] at h1
   have hsl := hl s (List.mem_of_getElem? h1)
   obtain ⟨hk, hsl⟩ := hsl
   refine ⟨hk, ?_⟩
   cases hat : s.at_ with
   | none =>
    rw [hat] at hsl
    exact .inl ⟨by simp only [nuOf_f, h1, hat], hsl⟩
   | some q =>
    refine .inr ⟨x, 0, .row (s.ac.avs s.ks) 0 false false false x 0, by simp only [nuOf_f, h1, hat], (by rw [stOf_get, h1]; simp only [Option.map_some, Src.ao, hat]), ?_⟩
    have := avs_length hk
    exact ⟨rfl, by omega, by rw [List.drop_zero, ← this]; exact List.take_length⟩
  ·intro x y o o' B B' b b' _ hx _ hf _ _ _ _
   have := hlt x o hx; simp only [] at hf; omega
  ·intro x o B b b' hx hf _ _ _
   have := hlt x o hx; simp only [] at hf; omega
  ·intro x B b hx hB
   rw [nuOf_f] at hB
   split at hB
   ·split at hB
    ·cases hB; exact hx
    ·cases hB
   ·cases hB
 obtain ⟨N, a, s', v, h', ν', ⟨os, q1, rfl⟩, q3, q4, q5, q6⟩ := hs.run c (nuOf l) (stOf l) as r hargs
 have ha : a = .bool true := by
  cases v <;> simp only [IsTrue] at q3
  ·subst q3; exact cv_bool q5
  ·subst q3; exact cv_test q5
 subst ha
 obtain ⟨_, _, _, hF, _, _⟩ := all_ok (P := P) (plain_of hp) (fun n hP => Go.Vm.draw_ok hm hP) N
 have look_row : ∀ b o, (stOf l).look b = some o → ∃ s B off, l[b]? = some s ∧ s.at_ = some (B, off) ∧ o = .row (s.ac.avs s.ks) 0 false false false b 0 := by
  intro b o h
  have hg := St.get_of_look h
  rw [stOf_get] at hg
  cases hb : l[b]? with
  | none => rw [hb] at hg; cases hg
  | some s =>
   rw [hb] at hg
   simp only [Option.map_some, Option.some.injEq] at hg
   cases hat : s.at_ with
   | none => simp only [Src.ao, hat] at hg; subst hg; exact absurd h (St.look_live _ _)
   | some q => obtain ⟨B, off⟩ := q; exact ⟨s, B, off, rfl, hat, by simp only [Src.ao, hat] at hg; exact hg.symm⟩
 have hrel : Rel w.heap.size (rhoOf l) (stOf l).look w := by
  refine ⟨?_, ?_, ?_, ?_, fun b => St.look_live _ b, Nat.le_refl _⟩
  ·intro b o h
   obtain ⟨s, B, off, h1, h2, rfl⟩ := look_row b o h
   have hsl := hl s (List.mem_of_getElem? h1)
   obtain ⟨hk, hsl⟩ := hsl
   rw [h2] at hsl
   obtain ⟨cs, t, fz, k1, k2, k3⟩ := hsl
   refine ⟨B, off, none, cs, t, fz, (by simp only [rhoOf, h1, h2]), k1, ?_, (fun e => by cases e), (fun e => by cases e), (fun _ => rfl), by rw [avs_length hk]; exact k2⟩
   intro i v hv
   obtain ⟨ck, d, rfl⟩ := avs_av hk hv
   refine ⟨_, ?_, k3 i ck d hv⟩
   cases ck <;> rfl
  ·intro b b' o o' h h' ho
   obtain ⟨s, B, off, h1, h2, rfl⟩ := look_row b o h
   cases ho
  ·intro b o h
   obtain ⟨s, B, off, h1, h2, rfl⟩ := look_row b o h
   exact Nat.le_refl _
  ·intro b o h _ b' o' h' hne
   obtain ⟨s, B, off, h1, h2, rfl⟩ := look_row b' o' h'
   exact hne
 have hfresh : Fresh (stOf l).n (rhoOf l) := by
  intro b hb
  have : l[b]? = none := by rw [List.getElem?_eq_none_iff]; exact hb
  simp only [rhoOf, this]
 have := hF fid as (stOf l) (.bool true) os q1 w.heap.size (rhoOf l) w cargs hfresh hok hrel hconv
 refine callsIn_wide.1 (this.mono fun e w' q => ?_)
 obtain ⟨x, e1, ρ1, o1, o2, o3, o4, o5, o6, o7, o8⟩ := q
 simp only [conv] at o5
 cases o5
 refine ⟨e1, o7.os, o7.tape, o7.output, o7.size, fun k hk => o7.keep k hk (fun b o h ho => ?_)⟩
 obtain ⟨s, B, off, h1, h2, rfl⟩ := look_row b o h
 cases ho
end Go.Vm2
