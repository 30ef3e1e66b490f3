/-
 Part of the proof that a machine over named lists stands for the program's runs (VmBlind). No conditions beyond those that its theorems name.
-/
import Derived.Test.YtjljleemknmgoaaVmPure
namespace Go.Vm
set_option linter.unusedSectionVars false
variable [Facts] [Val] [Sound]
variable {P : Program}
theorem intBin_run {op : BinOp} {k : IntKind} {x y : Int} {v : AV} (h : intBin op k x y = some v) (t : TypeId) (w : World) (hs : op ≠ .shl ∧ op ≠ .shr) :
  ∃ u, (binOp op t (.int k x) (.int k y)).run P w = .ok u w ∧ ∀ ρ, conv ρ v = some u := by
 cases op
 case shl => exact absurd rfl hs.1
 case shr => exact absurd rfl hs.2
 case quo =>
  simp only [intBin] at h
  split at h
  ·simp at h
  ·rename_i hy; simp at h; subst h; exact ⟨_, by simp only [binOp, ne_eq, not_true_eq_false, if_false, Op.intDiv, hy]; rfl, fun _ => rfl⟩
 case rem =>
  simp only [intBin] at h
  split at h
  ·simp at h
  ·rename_i hy; simp at h; subst h; exact ⟨_, by simp only [binOp, ne_eq, not_true_eq_false, if_false, Op.intDiv, hy]; rfl, fun _ => rfl⟩
 all_goals
  simp only [intBin, Option.some.injEq] at h
  try subst h
  try exact ⟨_, by simp only [binOp, ne_eq, not_true_eq_false, if_false]; rfl, fun _ => rfl⟩
theorem strBin_run {op : BinOp} {x y : List UInt8} {v : AV} (h : strBin op x y = some v) (t : TypeId) (w : World) :
  ∃ u, (binOp op t (.string ⟨x.toArray⟩) (.string ⟨y.toArray⟩)).run P w = .ok u w ∧ ∀ ρ, conv ρ v = some u := by
 have hx : (ByteArray.mk x.toArray).toList = x := by rw [ByteArray.toList_eq]
 have hy : (ByteArray.mk y.toArray).toList = y := by rw [ByteArray.toList_eq]
 cases op
 case add =>
  simp only [strBin] at h
  split at h
  ·rename_i hl; simp at h; subst h
   refine ⟨.string (⟨x.toArray⟩ ++ ⟨y.toArray⟩), ?_, fun _ => ?_⟩
   ·have : ¬ (((⟨x.toArray⟩ : ByteArray).size + (⟨y.toArray⟩ : ByteArray).size : Nat) : Int) > IntKind.i64.max := by
     show ¬ ((x.toArray.size + y.toArray.size : Nat) : Int) > IntKind.i64.max
     have : IntKind.i64.max = 9223372036854775807 := by decide
     rw [this]; simp only [List.size_toArray]; omega
    simp only [binOp, Op.stringOp]
    rw [if_neg this]; rfl
   ·simp only [conv, Option.some.injEq, Value.string.injEq]
    apply ByteArray.ext
    simp
  ·simp at h
 all_goals
  simp only [strBin, Option.some.injEq, reduceCtorEq] at h
  try subst h
  try exact ⟨_, by simp only [binOp, Op.stringOp, hx, hy]; rfl, fun _ => rfl⟩
theorem eqGuard_other (op : BinOp) (t : TypeId) (ox oy : Operand) (x y : Value) (h : ¬ (op = .eql ∨ op = .neq)) (w : World) : (eqGuard op t ox oy x y).run P w = .ok () w := by
 unfold eqGuard
 cases op <;> first | rfl | (exact absurd (Or.inl rfl) h) | (exact absurd (Or.inr rfl) h)
theorem eqGuard_int (op : BinOp) (t : TypeId) (ox oy : Operand) (k k' : IntKind) (a b : Int) (w : World) : (eqGuard op t ox oy (.int k a) (.int k' b)).run P w = .ok () w := by
 unfold eqGuard; cases op <;> rfl
theorem eqGuard_str (op : BinOp) (t : TypeId) (ox oy : Operand) (a b : ByteArray) (w : World) : (eqGuard op t ox oy (.string a) (.string b)).run P w = .ok () w := by
 unfold eqGuard; cases op <;> rfl
theorem eqShape_run {ρ : Rho} {a b : AV} {x y : Value} (h : eqShape a b = true) (hx : conv ρ a = some x) (hy : conv ρ b = some y) (t : TypeId) (hg : P.eqGuardType P.depth t = false) (ox oy : Operand) (w : World) :
  (∀ op, (eqGuard op t ox oy x y).run P w = .ok () w) ∧ binOp .eql t x y = (do pure (.bool (← Op.equal t x y)) : Sem Value) ∧ binOp .neq t x y = (do pure (.bool (!(← Op.equal t x y))) : Sem Value) := by
 unfold eqShape at h
 split at h
 case h_17 => simp at h
 all_goals
  simp only [conv] at hx hy
  revert hx hy
  repeat' split
  all_goals
   intro hx hy
   simp only [Option.some.injEq, reduceCtorEq] at hx hy
   try subst hx
   try subst hy
   try exact ⟨fun op => by unfold eqGuard; cases op <;> first | rfl | simp [hg], rfl, rfl⟩
theorem SI.same_eq : ∀ {a b : SI}, SI.same a b = true → a = b
 | .lit n, .lit m, h => by simp [SI.same] at h; rw [h]
 | .var i, .var j, h => by simp [SI.same] at h; rw [h]
 | .bin o k a b, .bin o' k' a' b', h => by
  simp only [SI.same, Bool.and_eq_true, decide_eq_true_eq] at h
  obtain ⟨⟨⟨h1, h2⟩, h3⟩, h4⟩ := h
  rw [h1, h2, SI.same_eq h3, SI.same_eq h4]
 | .cv k a, .cv k' a', h => by
  simp only [SI.same, Bool.and_eq_true, decide_eq_true_eq] at h
  rw [h.1, SI.same_eq h.2]
 | .lit _, .var _, h => by simp [SI.same] at h
 | .lit _, .bin _ _ _ _, h => by simp [SI.same] at h
 | .lit _, .cv _ _, h => by simp [SI.same] at h
 | .var _, .lit _, h => by simp [SI.same] at h
 | .var _, .bin _ _ _ _, h => by simp [SI.same] at h
 | .var _, .cv _ _, h => by simp [SI.same] at h
 | .bin _ _ _ _, .lit _, h => by simp [SI.same] at h
 | .bin _ _ _ _, .var _, h => by simp [SI.same] at h
 | .bin _ _ _ _, .cv _ _, h => by simp [SI.same] at h
 | .cv _ _, .lit _, h => by simp [SI.same] at h
 | .cv _ _, .var _, h => by simp [SI.same] at h
 | .cv _ _, .bin _ _ _ _, h => by simp [SI.same] at h
theorem known_go {eq : Bool} {a b : SI} {r : Bool} : ∀ {l : List Fact}, known.go eq a b l = some r → ∃ f ∈ l, f.eq = eq ∧ f.a = a ∧ f.b = b ∧ f.r = r
 | [], h => by simp [known.go] at h
 | f :: l, h => by
  simp only [known.go] at h
  split at h
  ·rename_i hs
   simp only [Bool.and_eq_true, beq_iff_eq] at hs
   simp at h
   exact ⟨f, by simp, hs.1.1, SI.same_eq hs.1.2, SI.same_eq hs.2, h⟩
  ·obtain ⟨g, g1, g2⟩ := known_go h
   exact ⟨g, by simp [g1], g2⟩
theorem known_lt {a b : SI} {r : Bool} (h : known false a b = some r) : decide (a.val Val.σ < b.val Val.σ) = r := by
 obtain ⟨f, f1, f2, f3, f4, f5⟩ := known_go h
 have := Sound.ok f f1
 simp only [Fact.holds, f2, f3, f4, f5, Bool.false_eq_true, if_false] at this
 exact this
theorem known_eq {a b : SI} {r : Bool} (h : known true a b = some r) : (a.val Val.σ == b.val Val.σ) = r := by
 obtain ⟨f, f1, f2, f3, f4, f5⟩ := known_go h
 have := Sound.ok f f1
 simp only [Fact.holds, f2, f3, f4, f5, if_true] at this
 exact this
theorem siOf_run {ρ : Rho} {a : AV} {k : IntKind} {e : SI} {x : Value} (h : siOf a = some (k, e)) (hx : conv ρ a = some x) : x = .int k (e.val Val.σ) := by
 cases a <;> simp only [siOf, Option.some.injEq, Prod.mk.injEq, reduceCtorEq] at h
 ·obtain ⟨rfl, rfl⟩ := h; simp [conv] at hx; rw [← hx]; rfl
 ·obtain ⟨rfl, rfl⟩ := h; simp [conv] at hx; rw [← hx]
theorem symDiv {op : BinOp} (ho : op = .quo ∨ op = .rem) {k : IntKind} {a b : SI} {v : AV} (h : symBin op k a b = some v) : b.val Val.σ ≠ 0 ∧ v = .sym k (.bin op k a b) := by
 rcases ho with rfl | rfl <;>
 ·simp only [symBin] at h
  split at h
  ·rename_i n
   split at h
   ·simp at h
   ·rename_i hn; simp at h; exact ⟨hn, h.symm⟩
  ·split at h
   ·rename_i hk
    have := known_eq hk
    simp at h
    refine ⟨fun e => ?_, h.symm⟩
    rw [e] at this
    simp [SI.val] at this
   ·simp at h
theorem symBin_run {op : BinOp} {k : IntKind} {a b : SI} {v : AV} (h : symBin op k a b = some v) : ∃ v', intBin op k (a.val Val.σ) (b.val Val.σ) = some v' ∧ ∀ ρ, conv ρ v' = conv ρ v := by
 cases op
 case quo =>
  obtain ⟨h1, rfl⟩ := symDiv (.inl rfl) h
  exact ⟨.int k (arith .quo k (a.val Val.σ) (b.val Val.σ)), by simp only [intBin, arith]; rw [if_neg h1], fun ρ => rfl⟩
 case rem =>
  obtain ⟨h1, rfl⟩ := symDiv (.inr rfl) h
  exact ⟨.int k (arith .rem k (a.val Val.σ) (b.val Val.σ)), by simp only [intBin, arith]; rw [if_neg h1], fun ρ => rfl⟩
 case shl => simp [symBin] at h
 case shr => simp [symBin] at h
 case eql =>
  simp only [symBin] at h
  cases hk : known true a b with
  | none => rw [hk] at h; simp at h
  | some r => rw [hk] at h; simp at h; subst h; exact ⟨_, rfl, fun ρ => congrArg (fun z => some (Value.bool z)) (known_eq hk)⟩
 case neq =>
  simp only [symBin] at h
  cases hk : known true a b with
  | none => rw [hk] at h; simp at h
  | some r => rw [hk] at h; simp at h; subst h; exact ⟨_, rfl, fun ρ => congrArg (fun z => some (Value.bool !z)) (known_eq hk)⟩
 case lss =>
  simp only [symBin] at h
  cases hk : known false a b with
  | none => rw [hk] at h; simp at h
  | some r => rw [hk] at h; simp at h; subst h; exact ⟨_, rfl, fun ρ => congrArg (fun z => some (Value.bool z)) (known_lt hk)⟩
 case gtr =>
  simp only [symBin] at h
  cases hk : known false b a with
  | none => rw [hk] at h; simp at h
  | some r => rw [hk] at h; simp at h; subst h; exact ⟨_, rfl, fun ρ => congrArg (fun z => some (Value.bool z)) (known_lt hk)⟩
 case leq =>
  simp only [symBin] at h
  cases hk : known false b a with
  | none => rw [hk] at h; simp at h
  | some r =>
   rw [hk] at h; simp at h; subst h
   refine ⟨_, rfl, fun ρ => ?_⟩
   have := known_lt hk
   simp only [conv, Option.some.injEq, Value.bool.injEq]
   rw [← this]
   by_cases e : b.val Val.σ < a.val Val.σ
   ·simp [e]
   ·simp [e]; omega
 case geq =>
  simp only [symBin] at h
  cases hk : known false a b with
  | none => rw [hk] at h; simp at h
  | some r =>
   rw [hk] at h; simp at h; subst h
   refine ⟨_, rfl, fun ρ => ?_⟩
   have := known_lt hk
   simp only [conv, Option.some.injEq, Value.bool.injEq]
   rw [← this]
   by_cases e : a.val Val.σ < b.val Val.σ
   ·simp [e]
   ·simp [e]; omega
 all_goals
  simp only [symBin, Option.some.injEq] at h
  subst h
  exact ⟨_, rfl, fun ρ => rfl⟩
theorem symA_run {ρ : Rho} {op : BinOp} {t : TypeId} {a b : AV} {v : AV} {x y : Value} (h : symA op a b = some v) (hx : conv ρ a = some x) (hy : conv ρ b = some y) (ox oy : Operand) (w : World) :
  ∃ u, (do eqGuard op t ox oy x y; binOp op t x y : Sem Value).run P w = .ok u w ∧ conv ρ v = some u := by
 unfold symA at h
 split at h
 ·rename_i k ea k' eb ha hb
  have e1 := siOf_run ha hx
  have e2 := siOf_run hb hy
  subst e1; subst e2
  split at h
  ·rename_i n
   split at h
   ·simp at h
   ·rename_i hn; simp at h; subst h
    refine ⟨_, ?_, rfl⟩
    rw [Sem.run_bind, eqGuard_int]
    simp [binOp, Op.shift, SI.val, arith, hn]
  ·rename_i n
   split at h
   ·simp at h
   ·rename_i hn; simp at h; subst h
    refine ⟨_, ?_, rfl⟩
    rw [Sem.run_bind, eqGuard_int]
    simp [binOp, Op.shift, SI.val, arith, hn]
  ·split at h
   ·rename_i hk; subst hk
    obtain ⟨v', h1, h2⟩ := symBin_run h
    have hs : op ≠ .shl ∧ op ≠ .shr := by
     constructor <;> (intro e; subst e; simp [symBin] at h)
    obtain ⟨u, hu, hc⟩ := intBin_run (P := P) h1 t w hs
    refine ⟨u, ?_, by rw [← h2]; exact hc ρ⟩
    rw [Sem.run_bind, eqGuard_int]
    exact hu
   ·simp at h
 ·simp at h
theorem binA_run {ρ : Rho} {op : BinOp} {t : TypeId} {a b : AV} {v : AV} {x y : Value} (h : binA P op t a b = some v) (hx : conv ρ a = some x) (hy : conv ρ b = some y) (ox oy : Operand) (w : World) :
  ∃ u, (do eqGuard op t ox oy x y; binOp op t x y : Sem Value).run P w = .ok u w ∧ conv ρ v = some u := by
 unfold binA at h
 split at h
 ·exact symA_run h hx hy ox oy w
 split at h
 ·rename_i k a k' b
  simp [conv] at hx hy; subst hx; subst hy
  split at h
  ·simp at h
  ·rename_i hb; simp at h; subst h
   refine ⟨_, ?_, rfl⟩
   rw [Sem.run_bind, eqGuard_int]
   simp [binOp, Op.shift, hb]
 ·rename_i k a k' b
  simp [conv] at hx hy; subst hx; subst hy
  split at h
  ·simp at h
  ·rename_i hb; simp at h; subst h
   refine ⟨_, ?_, rfl⟩
   rw [Sem.run_bind, eqGuard_int]
   simp [binOp, Op.shift, hb]
 ·rename_i k a k' b h1 h2 _
  simp [conv] at hx hy; subst hx; subst hy
  split at h
  ·rename_i hk; subst hk
   obtain ⟨u, hu, hc⟩ := intBin_run (P := P) h t w ⟨fun e => h1 e, fun e => h2 e⟩
   refine ⟨u, ?_, hc ρ⟩
   rw [Sem.run_bind, eqGuard_int]
   exact hu
  ·simp at h
 ·rename_i a b
  simp [conv] at hx hy; subst hx; subst hy
  obtain ⟨u, hu, hc⟩ := strBin_run (P := P) h t w
  refine ⟨u, ?_, hc ρ⟩
  rw [Sem.run_bind, eqGuard_str]
  exact hu
 ·split at h
  ·rename_i hs
   simp only [Bool.and_eq_true, Bool.not_eq_true'] at hs
   obtain ⟨g1, g2, _⟩ := eqShape_run hs.1 hx hy t hs.2 ox oy w
   split at h
   ·rename_i r he
    simp at h; subst h
    refine ⟨.bool r, ?_, rfl⟩
    have := eqT_run (ρ := ρ) 100 Op.maxDepth t a b r x y (by unfold Op.maxDepth; omega) he hx hy w
    rw [Sem.run_bind, g1, Result.andThen_ok, g2]
    simp [Op.equal, this]
   ·simp at h
  ·simp at h
 ·split at h
  ·rename_i hs
   simp only [Bool.and_eq_true, Bool.not_eq_true'] at hs
   obtain ⟨g1, _, g2⟩ := eqShape_run hs.1 hx hy t hs.2 ox oy w
   split at h
   ·rename_i r he
    simp at h; subst h
    refine ⟨.bool (!r), ?_, rfl⟩
    have := eqT_run (ρ := ρ) 100 Op.maxDepth t a b r x y (by unfold Op.maxDepth; omega) he hx hy w
    rw [Sem.run_bind, g1, Result.andThen_ok, g2]
    simp [Op.equal, this]
   ·simp at h
  ·simp at h
 ·simp at h
theorem unA_run {ρ : Rho} {op : UnOp} {a v : AV} {x : Value} (h : unA op a = some v) (hx : conv ρ a = some x) (w : World) : ∃ u, (Op.unary op x).run P w = .ok u w ∧ conv ρ v = some u := by
 unfold unA at h
 split at h <;> simp only [Option.some.injEq, reduceCtorEq] at h
 all_goals
  subst h
  simp [conv] at hx
  subst hx
  exact ⟨_, rfl, rfl⟩
theorem convA_run {ρ : Rho} {s d : TypeId} {a v : AV} {x : Value} (h : convA P s d a = some v) (hx : conv ρ a = some x) (w : World) : ∃ u, (convert s d x).run P w = .ok u w ∧ conv ρ v = some u := by
 unfold convA at h
 split at h
 ·rename_i ds k k0 n h1 h2
  simp at h; subst h; simp [conv] at hx; subst hx
  refine ⟨.int k (k.wrap n), ?_, rfl⟩
  simp only [convert, Sem.run_bind, run_underlying h1, run_underlying h2, Result.andThen_ok]
  rfl
 ·rename_i ds k k0 n h1 h2
  simp at h; subst h; simp [conv] at hx; subst hx
  refine ⟨.int k (k.wrap (n.val Val.σ)), ?_, rfl⟩
  simp only [convert, Sem.run_bind, run_underlying h1, run_underlying h2, Result.andThen_ok]
  rfl
 ·rename_i ds l h1 h2
  simp at h; subst h; simp [conv] at hx; subst hx
  refine ⟨.string ⟨l.toArray⟩, ?_, rfl⟩
  simp only [convert, Sem.run_bind, run_underlying h1, run_underlying h2, Result.andThen_ok]
  cases ds <;> rfl
 ·simp at h
theorem putCells_length : ∀ (vs : List AV) (cs : List AV) (off : Nat), (putCells cs off vs).length = cs.length
 | [], cs, off => rfl
 | v :: vs, cs, off => by simp [putCells, putCells_length vs]
theorem foldl_put {ρ : Rho} (off : Nat) : ∀ (vs : List AV) (xs : List Value) (k : Nat) (cs : List AV) (l : List Value), convs ρ vs = some xs → convs ρ cs = some l →
  convs ρ (putCells cs (off + k) vs) = some ((xs.zipIdx k).foldl (fun (cs : List Value) (x : Value × Nat) => cs.set (off + x.2) x.1) l)
 | [], xs, k, cs, l, h, hc => by simp [convs] at h; subst h; simpa [putCells] using hc
 | v :: vs, xs, k, cs, l, h, hc => by
  obtain ⟨a, r, h1, h2, rfl⟩ := convs_cons.1 h
  simp only [putCells, List.zipIdx_cons, List.foldl_cons]
  have := foldl_put off vs r (k + 1) (cs.set (off + k) v) (l.set (off + k) a) h2 (convs_set h1 _ hc)
  rw [← Nat.add_assoc] at this
  exact this
theorem foldl_toArray (off : Nat) : ∀ (xs : List (Value × Nat)) (l : List Value),
  (xs.foldl (fun (cs : Array Value) (x : Value × Nat) => cs.setIfInBounds (off + x.2) x.1) l.toArray) = (xs.foldl (fun (cs : List Value) (x : Value × Nat) => cs.set (off + x.2) x.1) l).toArray
 | [], l => rfl
 | x :: xs, l => by
  simp only [List.foldl_cons]
  rw [List.setIfInBounds_toArray]
  exact foldl_toArray off xs _
theorem fill_run {ρ : Rho} (place : Nat → Option (Nat × Nat)) : ∀ (parts : List (Nat × AV)) (ps : List (Nat × Value)) (cs : List AV) (l : List Value) (r : List AV), ps.map (·.1) = parts.map (·.1) → convs ρ (parts.map (·.2)) = some (ps.map (·.2)) → convs ρ cs = some l →
  fillA place cs parts = some r → ∃ q, Instr.fill place l.toArray ps = some q.toArray ∧ convs ρ r = some q
 | [], ps, cs, l, r, hi, hv, hc, h => by
  cases ps with
  | nil => simp [fillA] at h; subst h; exact ⟨l, rfl, hc⟩
  | cons p ps => simp at hi
 | (i, v) :: parts, ps, cs, l, r, hi, hv, hc, h => by
  cases ps with
  | nil => simp at hi
  | cons p ps =>
   obtain ⟨j, x⟩ := p
   simp only [List.map_cons, List.cons.injEq] at hi
   obtain ⟨rfl, hi⟩ := hi
   obtain ⟨a, q, h1, h2, h3⟩ := convs_cons.1 hv
   simp only [List.map_cons, List.cons.injEq] at h3
   obtain ⟨rfl, rfl⟩ := h3
   simp only [fillA] at h
   simp only [Instr.fill]
   have hcl := conv_cells h1
   have hlen := convs_length hcl
   have hll := convs_length hc
   cases hp : place j with
   | none => rw [hp] at h; simp at h
   | some os =>
    obtain ⟨off, size⟩ := os
    rw [hp] at h
    simp only at h ⊢
    simp only [Array.length_toList] at hlen
    simp only [List.size_toArray, hlen, hll]
    split at h
    ·simp at h
    ·rename_i hb
     rw [if_neg hb]
     have := foldl_put off v.cells _ 0 cs l hcl hc
     rw [Nat.add_zero] at this
     have e : (x.cells.zipIdx.foldl (fun (cs : Array Value) (y : Value × Nat) => cs.setIfInBounds (off + y.2) y.1) l.toArray) = ((x.cells.toList.zipIdx 0).foldl (fun (cs : List Value) (y : Value × Nat) => cs.set (off + y.2) y.1) l).toArray := by
      rw [← foldl_toArray, ← Array.foldl_toList, Array.toList_zipIdx]
     obtain ⟨q, hq1, hq2⟩ := fill_run place parts ps _ _ r hi h2 this h
     refine ⟨q, ?_, hq2⟩
     rw [← hq1, ← e]
theorem places_run : ∀ (fs : List Field) (l : List (Nat × Nat)), placesA P fs = some l → ∀ w, (fs.mapM fun f => (do pure (f.offset, ← sizeOf f.type) : Sem (Nat × Nat))).run P w = .ok l w
 | [], l, h, w => by simp [placesA] at h; subst h; rfl
 | f :: fs, l, h, w => by
  simp only [placesA] at h
  split at h
  ·rename_i n r h1 h2
   simp at h; subst h
   simp only [List.mapM_cons, Sem.run_bind, sizeT_run h1, Result.andThen_ok, Sem.run_pure, places_run fs r h2]
  ·simp at h
theorem buildA_run {ρ : Rho} {t : TypeId} {parts : List (Nat × AV)} {v : AV} (h : buildA P t parts = some v) (ps : List (Nat × Value)) (hi : ps.map (·.1) = parts.map (·.1)) (hv : convs ρ (parts.map (·.2)) = some (ps.map (·.2))) (w : World) :
  ∃ u, (Instr.build t ps.toArray).run P w = .ok u w ∧ conv ρ v = some u := by
 unfold buildA at h
 split at h
 ·rename_i z hz
  obtain ⟨z', rz, cz⟩ := zeroOf_run (ρ := ρ) hz w
  have hzc := conv_cells cz
  split at h
  ·rename_i fields hu
   split at h
   ·rename_i pl hpl
    cases hf : fillA (fun i => pl[i]?) z.cells parts with
    | none => rw [hf] at h; simp at h
    | some r =>
     rw [hf] at h; simp at h; subst h
     obtain ⟨q, hq1, hq2⟩ := fill_run (ρ := ρ) (fun i => pl[i]?) parts ps z.cells _ r hi hv hzc hf
     refine ⟨.agg q.toArray, ?_, by simp [conv, hq2]⟩
     simp only [Instr.build, Sem.run_bind, rz, Result.andThen_ok, run_underlying hu]
     rw [Array.mapM_eq_mapM_toList, Sem.run_map, places_run fields.toList pl hpl]
     simp only [Result.andThen_ok, List.getElem?_toArray]
     simp only [Array.toArray_toList] at hq1
     rw [hq1]
     rfl
   ·simp at h
  ·rename_i n e hu
   split at h
   ·rename_i m hm
    cases hf : fillA (fun i => some (i * m, m)) z.cells parts with
    | none => rw [hf] at h; simp at h
    | some r =>
     rw [hf] at h; simp at h; subst h
     obtain ⟨q, hq1, hq2⟩ := fill_run (ρ := ρ) (fun i => some (i * m, m)) parts ps z.cells _ r hi hv hzc hf
     refine ⟨.agg q.toArray, ?_, by simp [conv, hq2]⟩
     simp only [Instr.build, Sem.run_bind, rz, Result.andThen_ok, run_underlying hu, sizeT_run hm]
     simp only [Array.toArray_toList] at hq1
     rw [hq1]
     rfl
   ·simp at h
  ·simp at h
 ·simp at h
theorem add_at (B o n : Nat) : (Addr.add ⟨B, o, none⟩ n) = ⟨B, o + n, none⟩ := by
 simp only [Addr.add]; split
 ·rename_i h; simp [h]
 ·rfl
theorem fieldAddrA_run {ρ : Rho} {t : TypeId} {a v : AV} {x : Value} {f : Nat} (h : fieldAddrA P t a f = some v) (hx : conv ρ a = some x) (w : World) : ∃ u, (Instr.fieldAt t x f).run P w = .ok u w ∧ conv ρ v = some u := by
 unfold fieldAddrA at h
 split at h
 ·rename_i fields b o hu
  split at h
  ·rename_i fd hf
   split at h
   ·rename_i n hn
    simp at h; subst h
    simp only [conv] at hx
    cases hb : ρ b with
    | none => rw [hb] at hx; simp at hx
    | some p =>
     obtain ⟨B, δ, e⟩ := p
     rw [hb] at hx; simp at hx; subst hx
     refine ⟨.pointer (some ⟨B, δ + o + fd.offset, none⟩), ?_, by simp [conv, hb, Nat.add_assoc]⟩
     have hfa : fields[f]? = some fd := by simpa using hf
     simp only [Instr.fieldAt, Sem.run_bind, run_underlying hu, Result.andThen_ok, hfa, Instr.sureAddr, Sem.run_pure, fieldPlace, sizeT_run hn]
     rw [if_neg (by omega)]
     simp only [Sem.run_pure, Result.andThen_ok, add_at]
   ·simp at h
  ·simp at h
 ·simp at h
theorem fieldA_run {ρ : Rho} {t : TypeId} {a v : AV} {x : Value} {f : Nat} (h : fieldA P t a f = some v) (hx : conv ρ a = some x) (w : World) : ∃ u, (Instr.field t x f).run P w = .ok u w ∧ conv ρ v = some u := by
 unfold fieldA at h
 split at h
 ·rename_i fields cs hu
  split at h
  ·rename_i fd hf
   simp only [conv] at hx
   cases hc : convs ρ cs with
   | none => rw [hc] at hx; simp at hx
   | some l =>
    rw [hc] at hx; simp at hx; subst hx
    obtain ⟨u, h1, h2⟩ := part_run h hc w
    refine ⟨u, ?_, h2⟩
    have hfa : fields[f]? = some fd := by simpa using hf
    simp only [Instr.field, Sem.run_bind, run_underlying hu, Result.andThen_ok, hfa, asAgg, Sem.run_pure]
    exact h1
  ·simp at h
 ·simp at h
theorem indexAddrA_run {ρ : Rho} {t : TypeId} {a i v : AV} {x y : Value} (h : indexAddrA P t a i = some v) (hx : conv ρ a = some x) (hy : conv ρ i = some y) (w : World) : ∃ u, (Instr.indexAt t x y).run P w = .ok u w ∧ conv ρ v = some u := by
 unfold indexAddrA at h
 split at h
 ·rename_i len e b o k i hu
  split at h
  ·rename_i n hn
   split at h
   ·rename_i hr
    simp at h; subst h
    simp [conv] at hy; subst hy
    simp only [conv] at hx
    cases hb : ρ b with
    | none => rw [hb] at hx; simp at hx
    | some p =>
     obtain ⟨B, δ, ex⟩ := p
     rw [hb] at hx; simp at hx; subst hx
     refine ⟨.pointer (some ⟨B, δ + o + i.toNat * n, none⟩), ?_, by simp [conv, hb, Nat.add_assoc]⟩
     simp only [Instr.indexAt, Sem.run_bind, asIntOf, Sem.run_pure, Result.andThen_ok, run_underlying hu, Instr.sureAddr, if_pos hr, sizeT_run hn, add_at]
   ·simp at h
  ·simp at h
 ·rename_i e b o len c k i hu
  split at h
  ·rename_i n hn
   split at h
   ·rename_i hr
    simp at h; subst h
    simp [conv] at hy; subst hy
    simp only [conv] at hx
    have key : ∀ (B δ : Nat) (ex : Option (Nat × Nat)) (cc : Nat), ρ b = some (B, δ, ex) → ∃ u, (Instr.indexAt t (.slice (some ⟨B, δ + o, none⟩) len cc) (.int k i)).run P w = .ok u w ∧ conv ρ (.ptr b (o + i.toNat * n)) = some u := by
     intro B δ ex cc hb
     refine ⟨.pointer (some ⟨B, δ + o + i.toNat * n, none⟩), ?_, by simp [conv, hb, Nat.add_assoc]⟩
     simp only [Instr.indexAt, Sem.run_bind, asIntOf, Sem.run_pure, Result.andThen_ok, run_underlying hu, if_pos hr, sizeT_run hn, add_at]
    split at hx
    ·rename_i B δ hb; simp at hx; subst hx; exact key B δ _ _ hb
    ·rename_i B δ z kk hb
     split at hx
     ·rw [if_neg (show ¬ (len = 0 ∧ o / z = kk) by omega)] at hx
      simp at hx; subst hx; exact key B δ _ _ hb
     ·simp at hx
    ·simp at hx
   ·simp at h
  ·simp at h
 ·simp at h
theorem indexA_run {ρ : Rho} {t : TypeId} {a i v : AV} {x y : Value} (h : indexA P t a i = some v) (hx : conv ρ a = some x) (hy : conv ρ i = some y) (w : World) : ∃ u, (Instr.index t x y).run P w = .ok u w ∧ conv ρ v = some u := by
 unfold indexA at h
 split at h
 ·rename_i len e cs k i hu
  split at h
  ·rename_i n hn
   split at h
   ·rename_i hr
    simp [conv] at hy; subst hy
    simp only [conv] at hx
    cases hc : convs ρ cs with
    | none => rw [hc] at hx; simp at hx
    | some l =>
     rw [hc] at hx; simp at hx; subst hx
     obtain ⟨u, h1, h2⟩ := part_run h hc w
     refine ⟨u, ?_, h2⟩
     simp only [Instr.index, Sem.run_bind, asIntOf, Sem.run_pure, Result.andThen_ok, run_underlying hu, if_pos hr, sizeT_run hn]
     exact h1
   ·simp at h
  ·simp at h
 ·rename_i l k i hu
  split at h
  ·rename_i hr
   cases hl : l[i.toNat]? with
   | none => rw [hl] at h; simp at h
   | some c =>
    rw [hl] at h; simp at h; subst h
    simp [conv] at hx hy; subst hx; subst hy
    refine ⟨.int .u8 c.toNat, ?_, rfl⟩
    have : (ByteArray.mk l.toArray)[i.toNat]? = some c := by
     obtain ⟨hlt, he⟩ := List.getElem?_eq_some_iff.1 hl
     have hs : i.toNat < (⟨l.toArray⟩ : ByteArray).size := by show i.toNat < l.toArray.size; simpa using hlt
     rw [getElem?_pos (ByteArray.mk l.toArray) i.toNat hs]
     simp only [Option.some.injEq]
     exact he
    simp only [Instr.index, Sem.run_bind, asIntOf, Sem.run_pure, Result.andThen_ok, run_underlying hu, if_pos hr, this]
  ·simp at h
 ·simp at h
theorem maxA_run {ρ : Rho} : ∀ (r : List AV) (x v : AV) (x' : Value) (r' : List Value), maxA x r = some v → conv ρ x = some x' → convs ρ r = some r' → ∀ w, ∃ u, (r'.foldlM Builtin.max2 x').run P w = .ok u w ∧ conv ρ v = some u
 | [], x, v, x', r', h, hx, hr, w => by simp [maxA] at h; subst h; simp [convs] at hr; subst hr; exact ⟨x', rfl, hx⟩
 | y :: r, x, v, x', r', h, hx, hr, w => by
  obtain ⟨a, q, h1, h2, rfl⟩ := convs_cons.1 hr
  unfold maxA at h
  split at h
  ·rename_i he; cases he
  ·rename_i k n k' m r0 he
   cases he
   simp [conv] at hx h1; subst hx; subst h1
   split at h
   ·rename_i hk; subst hk
    obtain ⟨u, g1, g2⟩ := maxA_run r _ v _ q h rfl h2 w
    refine ⟨u, ?_, g2⟩
    simp only [List.foldlM_cons, Sem.run_bind, Builtin.max2, Sem.run_pure, Result.andThen_ok]
    exact g1
   ·simp at h
  ·rename_i y' r' he0 he
   cases he
   split at h
   ·rename_i k e1 k' e2 hs1 hs2
    have q1 := siOf_run hs1 hx
    have q2 := siOf_run hs2 h1
    subst q1; subst q2
    split at h
    ·rename_i hk; subst hk
     split at h
     ·rename_i hkn
      have hlt := known_lt hkn
      simp only [decide_eq_true_eq] at hlt
      obtain ⟨u, g1, g2⟩ := maxA_run _ _ v _ q h h1 h2 w
      refine ⟨u, ?_, g2⟩
      simp only [List.foldlM_cons, Sem.run_bind, Builtin.max2, Sem.run_pure, Result.andThen_ok, gt_iff_lt, hlt, if_true]
      exact g1
     ·rename_i hkn
      have hlt := known_lt hkn
      simp only [decide_eq_false_iff_not] at hlt
      obtain ⟨u, g1, g2⟩ := maxA_run _ _ v _ q h hx h2 w
      refine ⟨u, ?_, g2⟩
      simp only [List.foldlM_cons, Sem.run_bind, Builtin.max2, Sem.run_pure, Result.andThen_ok, gt_iff_lt, hlt, if_false]
      exact g1
     ·simp at h
    ·simp at h
   ·simp at h
theorem minA_run {ρ : Rho} : ∀ (r : List AV) (x v : AV) (x' : Value) (r' : List Value), minA x r = some v → conv ρ x = some x' → convs ρ r = some r' → ∀ w, ∃ u, (r'.foldlM Builtin.min2 x').run P w = .ok u w ∧ conv ρ v = some u
 | [], x, v, x', r', h, hx, hr, w => by simp [minA] at h; subst h; simp [convs] at hr; subst hr; exact ⟨x', rfl, hx⟩
 | y :: r, x, v, x', r', h, hx, hr, w => by
  obtain ⟨a, q, h1, h2, rfl⟩ := convs_cons.1 hr
  unfold minA at h
  split at h
  ·rename_i he; cases he
  ·rename_i k n k' m r0 he
   cases he
   simp [conv] at hx h1; subst hx; subst h1
   split at h
   ·rename_i hk; subst hk
    obtain ⟨u, g1, g2⟩ := minA_run r _ v _ q h rfl h2 w
    refine ⟨u, ?_, g2⟩
    simp only [List.foldlM_cons, Sem.run_bind, Builtin.min2, Sem.run_pure, Result.andThen_ok]
    exact g1
   ·simp at h
  ·rename_i y' r' he0 he
   cases he
   split at h
   ·rename_i k e1 k' e2 hs1 hs2
    have q1 := siOf_run hs1 hx
    have q2 := siOf_run hs2 h1
    subst q1; subst q2
    split at h
    ·rename_i hk; subst hk
     split at h
     ·rename_i hkn
      have hlt := known_lt hkn
      simp only [decide_eq_true_eq] at hlt
      obtain ⟨u, g1, g2⟩ := minA_run _ _ v _ q h h1 h2 w
      refine ⟨u, ?_, g2⟩
      simp only [List.foldlM_cons, Sem.run_bind, Builtin.min2, Sem.run_pure, Result.andThen_ok, hlt, if_true]
      exact g1
     ·rename_i hkn
      have hlt := known_lt hkn
      simp only [decide_eq_false_iff_not] at hlt
      obtain ⟨u, g1, g2⟩ := minA_run _ _ v _ q h hx h2 w
      refine ⟨u, ?_, g2⟩
      simp only [List.foldlM_cons, Sem.run_bind, Builtin.min2, Sem.run_pure, Result.andThen_ok, hlt, if_false]
      exact g1
     ·simp at h
    ·simp at h
   ·simp at h
theorem partsA_conv {ρ : Rho} {t : List AV} {a : Act} (ht : convs ρ t = some a.tmps.toList) : ∀ {ps : List (Nat × Operand)} {l : List (Nat × AV)}, partsA t ps = some l →
  (ps.map fun p => (p.1, a.eval p.2)).map (·.1) = l.map (·.1) ∧ convs ρ (l.map (·.2)) = some ((ps.map fun p => (p.1, a.eval p.2)).map (·.2))
 | [], l, h => by simp [partsA] at h; subst h; exact ⟨rfl, rfl⟩
 | (i, x) :: ps, l, h => by
  simp only [partsA] at h
  split at h
  ·rename_i v r h1 h2
   simp at h; subst h
   obtain ⟨e1, e2⟩ := partsA_conv ht h2
   exact ⟨by simp only [List.map_cons, e1], convs_cons.2 ⟨_, _, aEval_conv ht h1, e2, by simp⟩⟩
  ·simp at h
theorem run_value (s : Sem Value) {v : Value} {w : World} (h : s.run P w = .ok v w) : (do pure (.value (← s)) : Sem Next).run P w = .ok (.value v) w := by
 simp [h]
theorem blind_sound {ρ : Rho} {t : List AV} {a : Act} (ht : convs ρ t = some a.tmps.toList) {o : Oper} (hb : blind o = true) {s : St} {v : AV} {os : Option St} (h : prim P t s o.op = some (v, os)) :
  os = none ∧ ∀ w, ∃ x, (execOp a.eval o).run P w = .ok (.value x) w ∧ conv ρ v = some x := by
 unfold blind at hb
 have stayed : ∀ {r : Option AV}, stay r = some (v, os) → os = none ∧ r = some v := by
  intro r hr; cases r with
  | none => simp [stay] at hr
  | some u => simp [stay] at hr; exact ⟨hr.2.symm, by rw [hr.1]⟩
 cases ho : o.op <;> rw [ho] at hb h <;> simp only [Bool.false_eq_true] at hb
 case move x =>
  obtain ⟨e, hr⟩ := stayed h
  exact ⟨e, fun w => ⟨_, by unfold execOp; rw [ho]; rfl, aEval_conv ht hr⟩⟩
 case assign x =>
  obtain ⟨e, hr⟩ := stayed h
  exact ⟨e, fun w => ⟨_, by unfold execOp; rw [ho]; rfl, aEval_conv ht hr⟩⟩
 case pick c x y =>
  simp only [prim] at h
  split at h
  ·rename_i hc
   obtain ⟨e, hr⟩ := stayed h
   have := aEval_conv ht hc
   simp [conv] at this
   exact ⟨e, fun w => ⟨_, by unfold execOp; rw [ho]; simp [← this, asBool], aEval_conv ht hr⟩⟩
  ·rename_i hc
   obtain ⟨e, hr⟩ := stayed h
   have := aEval_conv ht hc
   simp [conv] at this
   exact ⟨e, fun w => ⟨_, by unfold execOp; rw [ho]; simp [← this, asBool], aEval_conv ht hr⟩⟩
  ·simp at h
 case build ty parts =>
  simp only [prim] at h
  split at h
  ·rename_i l hl
   obtain ⟨e, hr⟩ := stayed h
   obtain ⟨e1, e2⟩ := partsA_conv ht hl
   refine ⟨e, fun w => ?_⟩
   obtain ⟨u, g1, g2⟩ := buildA_run hr _ e1 e2 w
   refine ⟨u, ?_, g2⟩
   unfold execOp; rw [ho]
   refine run_value _ ?_
   rw [← g1]
   congr 2
   apply Array.ext'
   simp
  ·simp at h
 case nilCheck x =>
  simp only [prim] at h
  split at h
  ·rename_i b off hx
   simp at h; obtain ⟨rfl, rfl⟩ := h
   have := aEval_conv ht hx
   refine ⟨rfl, fun w => ⟨_, ?_, this⟩⟩
   simp only [conv] at this
   cases hb : ρ b with
   | none => rw [hb] at this; simp at this
   | some p =>
    rw [hb] at this; simp at this
    unfold execOp; rw [ho]; simp only [← this, Sem.run_pure]
  ·simp at h
 case binOp op ty x y ty2 =>
  simp only [prim] at h
  split at h
  ·rename_i p q hp hq
   obtain ⟨e, hr⟩ := stayed h
   refine ⟨e, fun w => ?_⟩
   obtain ⟨u, g1, g2⟩ := binA_run hr (aEval_conv ht hp) (aEval_conv ht hq) x y w
   exact ⟨u, by unfold execOp; rw [ho]; exact run_value _ g1, g2⟩
  ·simp at h
 case unOp op ty x =>
  simp only [prim] at h
  split at h
  ·rename_i p hp
   obtain ⟨e, hr⟩ := stayed h
   refine ⟨e, fun w => ?_⟩
   obtain ⟨u, g1, g2⟩ := unA_run (P := P) hr (aEval_conv ht hp) w
   exact ⟨u, by unfold execOp; rw [ho]; exact run_value _ g1, g2⟩
  ·simp at h
 case makeFunc fn first captured =>
  cases fn
  case func f =>
   simp only [prim] at h
   split at h
   ·rename_i p q hp hq
    simp at h; obtain ⟨rfl, rfl⟩ := h
    refine ⟨rfl, fun w => ⟨_, by unfold execOp; rw [ho]; rfl, ?_⟩⟩
    have e1 := aEvals_conv ht hp
    have e2 := aEvals_conv ht hq
    simp only [conv, e1, e2]
    congr 2 <;> (apply Array.ext'; simp)
   ·simp at h
  all_goals simp [prim] at h
 case fieldAddr ty x f =>
  simp only [prim] at h
  split at h
  ·rename_i p hp
   obtain ⟨e, hr⟩ := stayed h
   refine ⟨e, fun w => ?_⟩
   obtain ⟨u, g1, g2⟩ := fieldAddrA_run hr (aEval_conv ht hp) w
   exact ⟨u, by unfold execOp; rw [ho]; exact run_value _ g1, g2⟩
  ·simp at h
 case field ty x f =>
  simp only [prim] at h
  split at h
  ·rename_i p hp
   obtain ⟨e, hr⟩ := stayed h
   refine ⟨e, fun w => ?_⟩
   obtain ⟨u, g1, g2⟩ := fieldA_run hr (aEval_conv ht hp) w
   exact ⟨u, by unfold execOp; rw [ho]; exact run_value _ g1, g2⟩
  ·simp at h
 case indexAddr ty x ix =>
  simp only [prim] at h
  split at h
  ·rename_i p q hp hq
   obtain ⟨e, hr⟩ := stayed h
   refine ⟨e, fun w => ?_⟩
   obtain ⟨u, g1, g2⟩ := indexAddrA_run hr (aEval_conv ht hp) (aEval_conv ht hq) w
   exact ⟨u, by unfold execOp; rw [ho]; exact run_value _ g1, g2⟩
  ·simp at h
 case index ty x ix =>
  simp only [prim] at h
  split at h
  ·rename_i p q hp hq
   obtain ⟨e, hr⟩ := stayed h
   refine ⟨e, fun w => ?_⟩
   obtain ⟨u, g1, g2⟩ := indexA_run hr (aEval_conv ht hp) (aEval_conv ht hq) w
   exact ⟨u, by unfold execOp; rw [ho]; exact run_value _ g1, g2⟩
  ·simp at h
 case extract x i =>
  simp only [prim] at h
  split at h
  ·rename_i vs hx
   obtain ⟨e, hr⟩ := stayed h
   have := aEval_conv ht hx
   simp only [conv] at this
   cases hc : convs ρ vs with
   | none => rw [hc] at this; simp at this
   | some l =>
    rw [hc] at this; simp at this
    obtain ⟨u, g1, g2⟩ := convs_get hc i v hr
    exact ⟨e, fun w => ⟨u, by unfold execOp; rw [ho]; simp [← this, Instr.extract, g2], g1⟩⟩
  ·simp at h
 case call c =>
  simp only [prim] at h
  split at h
  ·rename_i b args hc ha
   have hargs := aEvals_conv ht ha
   simp only [hc] at hb
   have hres : ∀ w, (resolve a.eval c o.type).run P w = .ok { target := .builtin b c.argTypes o.type (c.args.map fun | .const _ => true | _ => false), args := c.args.map a.eval } w := by
    intro w; unfold resolve; rw [hc]; rfl
   have hal : (c.args.map a.eval).toList = c.args.toList.map a.eval := by simp
   cases b <;> simp only [Bool.false_eq_true] at hb
   case max =>
    simp only [builtinA] at h
    split at h <;> try (simp at h; done)
    all_goals first
     | (rename_i hq; cases hq; done)
     | skip
    rename_i x r hb1
    obtain ⟨e, hr⟩ := stayed h
    obtain ⟨x', r', g1, g2, g3⟩ := convs_cons.1 hargs
    refine ⟨e, fun w => ?_⟩
    obtain ⟨u, k1, k2⟩ := maxA_run (P := P) r x v x' r' hr g1 g2 w
    refine ⟨u, ?_, k2⟩
    unfold execOp; rw [ho]
    simp only [Sem.run_bind, hres, Result.andThen_ok, invoke, builtin, Builtin.max_, hal, g3]
    rw [k1]; rfl
   case min =>
    simp only [builtinA] at h
    split at h <;> try (simp at h; done)
    all_goals first
     | (rename_i hq; cases hq; done)
     | skip
    rename_i x r hb1
    obtain ⟨e, hr⟩ := stayed h
    obtain ⟨x', r', g1, g2, g3⟩ := convs_cons.1 hargs
    refine ⟨e, fun w => ?_⟩
    obtain ⟨u, k1, k2⟩ := minA_run (P := P) r x v x' r' hr g1 g2 w
    refine ⟨u, ?_, k2⟩
    unfold execOp; rw [ho]
    simp only [Sem.run_bind, hres, Result.andThen_ok, invoke, builtin, Builtin.min_, hal, g3]
    rw [k1]; rfl
  ·simp at h
end Go.Vm
