/-
 Part of the proof that a machine over named lists stands for the program's runs (VwTop2). No conditions beyond those that its theorems name.
-/
import Derived.Test.YtjljleemknmgoaaVwTop
import Derived.Test.YtjljleemknmgoaaVwOpen3
namespace Go.Vm2
open Go Go.Vm
set_option linter.unusedVariables false
set_option linter.unusedSectionVars false
def rhoD (l : List Src) (bs : List Blk) : Rho := fun j => if j < l.length then rhoOf l j else match bs[j - l.length]? with
 | some b => some (b.B, b.o, none)
 | none => none
def aosD (l : List Src) (bs : List Blk) : List AO := aosOf l ++ (bs.zipIdx l.length).map fun (b, j) => .row b.cs 0 false false false j 0
def stD (l : List Src) (bs : List Blk) : St := ⟨l.length + bs.length, (aosD l bs).reverse, 0⟩
def gD (l : List Src) (bs : List Blk) (b : Nat) : Option AO := if l.length ≤ b then (aosD l bs)[b]? else none
def nuD (l : List Src) (bs : List Blk) : Nu := ⟨(nuOf l).f, gD l bs⟩
def objsD (l : List Src) : List (Nat × Ob) := objsOf 0 l ++ [(l.length, .tok)]
theorem aosOf_len (l : List Src) : (aosOf l).length = l.length := by simp [aosOf]
theorem aosD_len (l : List Src) (bs : List Blk) : (aosD l bs).length = l.length + bs.length := by simp [aosD, aosOf_len]
theorem stD_get (l : List Src) (bs : List Blk) (b : Nat) : (stD l bs).get b = (aosD l bs)[b]? := by
 rw [St.get_def]; unfold stD
 simp only []
 have hl := aosD_len l bs
 split
 ·rename_i hb
  rw [List.getElem?_reverse (by rw [hl]; omega), hl]
  congr 1; omega
 ·rename_i hb
  symm; rw [List.getElem?_eq_none_iff, hl]; omega
theorem aosD_get (l : List Src) (bs : List Blk) (b : Nat) : (aosD l bs)[b]? = if b < l.length then (l[b]?).map (Src.ao b) else (bs[b - l.length]?).map fun x => .row x.cs 0 false false false b 0 := by
 unfold aosD
 split
 ·rename_i h
  rw [List.getElem?_append_left (by rw [aosOf_len]; exact h), aosOf_get]
 ·rename_i h
  rw [List.getElem?_append_right (by rw [aosOf_len]; omega), aosOf_len, List.getElem?_map, List.getElem?_zipIdx]
  cases bs[b - l.length]? with
  | none => rfl
  | some x =>
   simp only [Option.map_some]
   have : l.length + (b - l.length) = b := by omega
   rw [this]
theorem agreeD (l : List Src) (bs : List Blk) : Agree (rhoD l bs) l.length bs := fun j b hb => by
 unfold rhoD
 rw [if_neg (by omega), Nat.add_sub_cancel_left, hb]
theorem gagreeD (l : List Src) (bs : List Blk) : GAgree (nuD l bs).G l.length bs := fun j b hb => by
 show gD l bs (l.length + j) = _
 unfold gD
 rw [if_pos (by omega), aosD_get, if_neg (by omega), Nat.add_sub_cancel_left, hb]; rfl
variable {P : Program}
theorem src_cvD {l : List Src} {bs : List Blk} {v : V} {a : AV} (h : Cv l.length ⟨(nuOf l).f, fun _ => none⟩ v a) : Cv (l.length + 1) (nuD l bs) v a :=
 Cv.mono (ν := ⟨(nuOf l).f, fun _ => none⟩) (ν' := nuD l bs) ⟨fun _ _ => rfl, fun b o h => by cases h⟩ (Nat.le_succ _) _ _ h
theorem src_convD [Val] {l : List Src} {bs : List Blk} {j cap : Nat} {s : Src} (hj : l[j]? = some s) : conv (rhoD l bs) (s.av j cap) = some (s.val cap) := by
 have hlt := (List.getElem?_eq_some_iff.1 hj).1
 cases hat : s.at_ with
 | none => simp only [Src.av, Src.val, hat, conv]
 | some q =>
  obtain ⟨B, o⟩ := q
  simp only [Src.av, Src.val, hat, conv, rhoD, if_pos hlt, rhoOf, hj, Nat.add_zero]
theorem top_deep (hp : (P.funcs.all fun f => !(f.name == "runtime.NumGoroutine")) = true) (hm : P.follows .mixedOrders = true) {fid : FuncId} {l : List Src} {bs : List Blk} {args : List V} {as : List AV} {cargs : List Value} (w : World)
  (hl : ∀ s ∈ l, s.lies w) (hbs : ∀ b ∈ bs, @Blk.lies ⟨fun _ => 0⟩ b (rhoD l bs) w) (hargs : Cvs (l.length + 1) (nuD l bs) args as)
  (hconv : @convs ⟨fun _ => 0⟩ (rhoD l bs) as = some cargs)
  (hs : @SemF P ⟨[], [], false⟩ fid args ⟨l.length + 1, l.length, objsD l⟩ (fun v _ => IsTrue v)) :
  Calls P fid cargs.toArray w fun e w' => e = .returned (.bool true) ∧ Go.RowKit.Below w.heap.size w w' := by
 letI : Facts := ⟨[], [], false⟩
 letI : Val := ⟨fun _ => 0⟩
 haveI : Sound := ⟨fun f hf => (List.not_mem_nil hf).elim⟩
 haveI : Trues P := ⟨fun f hf => (List.not_mem_nil hf).elim⟩
 let c : Px := { G := fun _ => none, Q := fun _ => True, nf := False, TH := fun _ => False, TC := fun _ => False, p := 0, lo := 0, n0 := 0, g0 := fun _ => none }
 have hok : (stD l bs).ok := by simp [St.ok, stD, aosD_len]
 have getw : ∀ b cs e o w p f z, (stD l bs).get b = some (.row cs e o w p f z) → f = b := by
  intro b cs e o w p f z h
  rw [stD_get, aosD_get] at h
  split at h
  ·cases hb : l[b]? with
   | none => rw [hb] at h; cases h
   | some s =>
    rw [hb] at h
    simp only [Option.map_some, Src.ao] at h
    cases hat : s.at_ with
    | none => rw [hat] at h; cases h
    | some q => rw [hat] at h; cases h; rfl
  ·cases hb : bs[b - l.length]? with
   | none => rw [hb] at h; cases h
   | some s => rw [hb] at h; cases h; rfl
 have hfam : ∀ b, fam (stD l bs) b ≤ b := by
  intro b
  unfold fam famO
  split
  ·rename_i hs; rw [getw _ _ _ _ _ _ _ _ hs]; exact Nat.le_refl _
  ·exact Nat.le_refl _
 have hlook : ∀ x o, look (objsD l) x = some o → (x < l.length ∧ look (objsOf 0 l) x = some o) ∨ (x = l.length ∧ o = .tok) := by
  intro x o hx
  unfold objsD at hx
  rw [look_append] at hx
  split at hx
  ·rename_i q hq
   cases hx
   obtain ⟨_, s, h1, _⟩ := objsOf_look l 0 x o hq
   exact .inl ⟨(List.getElem?_eq_some_iff.1 h1).1, hq⟩
  ·rw [look_cons] at hx
   split at hx
   ·rename_i e; cases hx; exact .inr ⟨e.symm, rfl⟩
   ·cases hx
 have r : R c (nuD l bs) ⟨l.length + 1, l.length, objsD l⟩ (stD l bs) := by
  have nown : ∀ x o, look (objsD l) x = some o → l.length ≤ x → o.own = true → False := by
   intro x o hx hf ho
   rcases hlook x o hx with ⟨h1, _⟩ | ⟨_, rfl⟩
   ·omega
   ·cases ho
  refine ⟨hok, ?_, ?_, ?_, ?_, (fun b o h => by cases h), hfam, (fun D h => False.elim h), (fun D h => False.elim h), Nat.zero_le _, Nat.zero_le _, (fun _ _ _ _ _ _ => Nat.zero_le _), ?_, ⟨Nat.zero_le _, fun b h => absurd h (Nat.not_lt_zero _)⟩, ?_, ?_, fun b _ => .inl trivial, fun h => False.elim h⟩
  ·intro x o hx
   rcases hlook x o hx with ⟨h1, h2⟩ | ⟨_, rfl⟩
   ·obtain ⟨_, s, h3, rfl⟩ := objsOf_look l 0 x o h2
    rw [Nat.sub_zero] at h3
    obtain ⟨hk, hsl⟩ := hl s (List.mem_of_getElem? h3)
    refine ⟨hk, ?_⟩
    cases hat : s.at_ with
    | none =>
     rw [hat] at hsl
     exact .inl ⟨by show (nuOf l) x = none; simp only [nuOf_f, h3, hat], hsl⟩
    | some q =>
     refine .inr ⟨x, 0, .row (s.ac.avs s.ks) 0 false false false x 0, by show (nuOf l) x = some (x, 0); simp only [nuOf_f, h3, hat], (by rw [stD_get, aosD_get, if_pos h1, h3]; simp only [Option.map_some, Src.ao, hat]), ?_⟩
     have := avs_length hk
     exact ⟨rfl, by omega, by rw [List.drop_zero, ← this]; exact List.take_length⟩
   ·trivial
  ·intro x o hx
   rcases hlook x o hx with ⟨h1, _⟩ | ⟨rfl, _⟩
   ·exact Nat.lt_succ_of_lt h1
   ·exact Nat.lt_succ_self _
  ·intro x y o o' B B' b b' _ hx _ hf ho _ _ _
   exact (nown x o hx hf ho).elim
  ·intro x o B b b' hx hf ho _ _
   exact (nown x o hx hf ho).elim
  ·intro x B b hx hB
   have hB : (nuOf l) x = some (B, b) := hB
   rw [nuOf_f] at hB
   split at hB
   ·rename_i s hs
    split at hB
    ·cases hB
     show x < l.length + bs.length
     have := (List.getElem?_eq_some_iff.1 hs).1
     omega
    ·cases hB
   ·cases hB
  ·intro b o hb
   have hb : gD l bs b = some o := hb
   unfold gD at hb
   split at hb
   ·rw [stD_get]; exact hb
   ·cases hb
  ·intro x o B b b' hx hf ho _ _
   exact (nown x o hx hf ho).elim
 obtain ⟨N, a, s', v, h', ν', ⟨os, q1, rfl⟩, q3, q4, q5, q6⟩ := hs.run c (nuD l bs) (stD l bs) as r hargs
 have ha : a = .bool true := by
  cases v <;> simp only [IsTrue] at q3
  ·subst q3; exact cv_bool q5
  ·subst q3; exact cv_test q5
 subst ha
 obtain ⟨_, _, _, hF, _, _⟩ := all_ok (P := P) (plain_of hp) (fun n hP => Go.Vm.draw_ok hm hP) N
 have hrel : Rel w.heap.size (rhoD l bs) (stD l bs).look w := by
  have look_row : ∀ b o, (stD l bs).look b = some o → (∃ s B off, b < l.length ∧ l[b]? = some s ∧ s.at_ = some (B, off) ∧ o = .row (s.ac.avs s.ks) 0 false false false b 0) ∨ (∃ x, l.length ≤ b ∧ bs[b - l.length]? = some x ∧ o = .row x.cs 0 false false false b 0) := by
   intro b o h
   have hg := St.get_of_look h
   rw [stD_get, aosD_get] at hg
   split at hg
   ·rename_i hlt
    cases hb : l[b]? with
    | none => rw [hb] at hg; cases hg
    | some s =>
     rw [hb] at hg
     simp only [Option.map_some, Option.some.injEq] at hg
     cases hat : s.at_ with
     | none => simp only [Src.ao, hat] at hg; subst hg; exact absurd h (St.look_live _ _)
     | some q => obtain ⟨B, off⟩ := q; exact .inl ⟨s, B, off, hlt, rfl, hat, by simp only [Src.ao, hat] at hg; exact hg.symm⟩
   ·rename_i hge
    cases hb : bs[b - l.length]? with
    | none => rw [hb] at hg; cases hg
    | some x => rw [hb] at hg; simp only [Option.map_some, Option.some.injEq] at hg; exact .inr ⟨x, by omega, rfl, hg.symm⟩
  have noto : ∀ b cs e w p f z, (stD l bs).look b ≠ some (.row cs e true w p f z) ∧ (stD l bs).look b ≠ some (.row cs e false true p f z) := by
   intro b cs e w p f z
   constructor
   ·intro h
    rcases look_row b _ h with ⟨s, B, off, _, _, _, h4⟩ | ⟨x, _, _, h4⟩ <;> cases h4
   ·intro h
    rcases look_row b _ h with ⟨s, B, off, _, _, _, h4⟩ | ⟨x, _, _, h4⟩ <;> cases h4
  refine ⟨?_, ?_, ?_, ?_, fun b => St.look_live _ b, Nat.le_refl _⟩
  ·intro b o h
   rcases look_row b o h with ⟨s, B, off, hlt, h1, h2, rfl⟩ | ⟨x, hge, h1, rfl⟩
   ·obtain ⟨hk, hsl⟩ := hl s (List.mem_of_getElem? h1)
    rw [h2] at hsl
    obtain ⟨cs, t, fz, k1, k2, k3⟩ := hsl
    refine ⟨B, off, none, cs, t, fz, (by simp only [rhoD, if_pos hlt, rhoOf, h1, h2]), k1, ?_, (fun e => by cases e), (fun e => by cases e), (fun _ => rfl), by rw [avs_length hk]; exact k2⟩
    intro i v hv
    obtain ⟨ck, d, rfl⟩ := avs_av hk hv
    refine ⟨_, ?_, k3 i ck d hv⟩
    cases ck <;> rfl
   ·obtain ⟨cs, t, fz, k1, k2, k3⟩ := hbs x (List.mem_of_getElem? h1)
    refine ⟨x.B, x.o, none, cs, t, fz, (by simp only [rhoD, if_neg (by omega : ¬ b < l.length), h1]), k1, ?_, (fun e => by cases e), (fun e => by cases e), (fun _ => rfl), k2⟩
    intro i v hv
    obtain ⟨y, y1, y2⟩ := k3 i v hv
    exact ⟨y, y1, y2⟩
  ·intro b b' o o' h h' ho
   rcases look_row b o h with ⟨s, B, off, _, h1, h2, rfl⟩ | ⟨x, _, h1, rfl⟩ <;> cases ho
  ·intro b o h
   rcases look_row b o h with ⟨s, B, off, _, h1, h2, rfl⟩ | ⟨x, _, h1, rfl⟩ <;> exact Nat.le_refl _
  ·intro b o h _ b' o' h' hne
   rcases look_row b' o' h' with ⟨s, B, off, _, h1, h2, rfl⟩ | ⟨x, _, h1, rfl⟩ <;> exact hne
 have hfresh : Fresh (stD l bs).n (rhoD l bs) := by
  intro b hb
  have hb : l.length + bs.length ≤ b := hb
  have : bs[b - l.length]? = none := by rw [List.getElem?_eq_none_iff]; omega
  simp only [rhoD, if_neg (by omega : ¬ b < l.length), this]
 have := hF fid as (stD l bs) (.bool true) os q1 w.heap.size (rhoD l bs) w cargs hfresh hok hrel hconv
 refine callsIn_wide.1 (this.mono fun e w' q => ?_)
 obtain ⟨x, e1, ρ1, o1, o2, o3, o4, o5, o6, o7, o8⟩ := q
 simp only [conv] at o5
 cases o5
 refine ⟨e1, o7.os, o7.tape, o7.output, o7.size, fun k hk => o7.keep k hk (fun b o h ho => ?_)⟩
 have hg := St.get_of_look h
 rw [stD_get, aosD_get] at hg
 split at hg
 ·cases hb : l[b]? with
  | none => rw [hb] at hg; cases hg
  | some s =>
   rw [hb] at hg
   simp only [Option.map_some, Option.some.injEq, Src.ao] at hg
   cases hat : s.at_ with
   | none => rw [hat] at hg; subst hg; exact absurd h (St.look_live _ _)
   | some q => rw [hat] at hg; subst hg; cases ho
 ·cases hb : bs[b - l.length]? with
  | none => rw [hb] at hg; cases hg
  | some x => rw [hb] at hg; simp only [Option.map_some, Option.some.injEq] at hg; subst hg; cases ho
end Go.Vm2
