/-
  CurveSums: whatever the arguments, the law returns true, and its arguments read as before. No conditions.
-/
import Derived.Test.YtjcfmocpmjeddaaRows
import Derived.Test.YtjcfmocpmjeddaaVwOpen2
import Derived.Test.YtjcfmocpmjeddaaVwRules7
import Derived.WalkKit
import Derived.ProofKit
import Derived.OpenShut
import Derived.Carry
import Derived.Test.YtjcfmocpmjeddaaSrtA
import Derived.Test.YtjcfmocpmjeddaaSrtB
import Derived.Test.YtjcfmocpmjeddaaCrvA
namespace Go.Proofs.Ytjcfmocpmjeddaa.curveSums
open Go.ChangeShapes Go.WideShapes Go.ChangeAt Go.RowKit
open Go.Vm (Facts Val Sound)
open Go.Vm2
set_option linter.unusedVariables false
set_option linter.unusedSectionVars false

open Go.Proofs.Ytjcfmocpmjeddaa.crv
theorem own : ownKnob Try.prog.godebug = none := by kernel_rfl
theorem laidOut : laidOutB Try.prog = true := by kernel_rfl
set_option maxRecDepth 100000
theorem zk_comm {op : Int → Int → Int} (hc : ∀ x y, op x y = op y x) {a b : List Int} (h : a.length = b.length) : zk op a b a.length = zk op b a b.length := by
  apply List.ext_getElem (by rw [zk_len, zk_len, h])
  intro i h1 h2
  have g : ∀ (q : List Int) (hq : i < q.length), q[i] = raw q i := fun q hq => by unfold raw; rw [List.getD_eq_getElem?_getD, List.getElem?_eq_getElem hq]; rfl
  rw [g _ h1, g _ h2]
  rw [zk_len] at h1 h2
  rw [raw_zk _ (Nat.le_refl _), raw_zk _ (Nat.le_refl _), if_pos h1, if_pos h2, hc]
/-- is some sum out of range, so far? -/
def fr (a b : List Int) : Nat → Bool
  | 0 => false
  | k + 1 => fr a b k || decide (raw a k + raw b k > 1000000000) || decide (raw a k + raw b k < -1000000000)
theorem fr_spec (a b : List Int) : ∀ k, fr a b k = true ↔ ∃ i, i < k ∧ ¬ Cd (raw a i + raw b i)
  | 0 => by simp [fr]
  | k + 1 => by
    simp only [fr, Bool.or_eq_true, decide_eq_true_eq, fr_spec a b k]
    constructor
    · rintro ((⟨i, h1, h2⟩ | h) | h)
      · exact ⟨i, by omega, h2⟩
      · exact ⟨k, by omega, fun q => by have := q.2; omega⟩
      · exact ⟨k, by omega, fun q => by have := q.1; omega⟩
    · rintro ⟨i, h1, h2⟩
      by_cases e : i = k
      · subst e
        by_cases c : raw a i + raw b i > 1000000000
        · exact .inl (.inr c)
        · refine .inr ?_
          have : ¬ (-1000000000 ≤ raw a i + raw b i) := fun q => h2 ⟨q, by omega⟩
          omega
      · exact .inl (.inl ⟨i, by omega, h2⟩)

set_option maxHeartbeats 16000000 in
theorem law7 (f : Int) (a b : List Int) (hf : -9223372036854775808 ≤ f ∧ f ≤ 9223372036854775807) (la : a.length ≤ 9223372036854775807) (lb : b.length ≤ 9223372036854775807) : SemF Try.prog 7 [.int .i64 f, .slc 0 1 0 a.length, .slc 1 1 0 b.length] ⟨2, 2, [(0, .arr [.int .i64] .ro (.ints a)), (1, .arr [.int .i64] .ro (.ints b))]⟩ (fun v _ => IsTrue v) := by
  refine enter tt_ok Try.func7 (nt := 209) (cd := body Try.f7) rfl rfl rfl rfl ?_
  intro _
  refine call_pure [] (hd_ok) rfl rfl rfl ?_ ?_ ?_
  · (repeat' first | exact trivial | exact rfl | refine And.intro ?_ ?_)
  · (repeat' first | exact trivial | exact rfl | refine And.intro ?_ ?_)
  intro v hv _
  subst hv
  intro _; refine ⟨fun g => ?_, fun g => ?_⟩
  · intro _
    show true = true
    rfl
  have g1 := of_decide_eq_false (show decide ((a.length : Int) > 40) = false from g)
  intro _; refine ⟨fun g => ?_, fun g => ?_⟩
  · intro _
    show true = true
    rfl
  have g2 := of_decide_eq_false (show decide ((b.length : Int) > 40) = false from g)
  have ee : ∀ (l : List Int), l.length ≤ 40 → (if 4000 < l.length then (2 : Int) else 1) = 1 := fun l h => if_neg (by omega)
  obtain ⟨n, hn⟩ : ∃ n, n = min a.length b.length := ⟨_, rfl⟩
  have na : n ≤ a.length := by omega
  have nb : n ≤ b.length := by omega
  have eN : (min ((a.length : Nat) : Int) (b.length : Int) - 0).toNat = n := by omega
  have tA : (a.take n).length = n := tk_len na
  have tB : (b.take n).length = n := tk_len nb
  intro _; refine ⟨⟨by omega, show (0 : Int) ≤ min ((a.length : Nat) : Int) (b.length : Int) by omega, show min ((a.length : Nat) : Int) (b.length : Int) ≤ (a.length : Int) by omega⟩, ?_⟩
  intro _
  refine call_new [(0, some 0)] (make_pre f a n na la hf) rfl rfl rfl rfl ?_ ?_ ?_
  · (repeat' first | exact trivial | exact rfl | refine And.intro ?_ ?_)
  · (repeat' first | exact trivial | exact rfl | refine And.intro ?_ ?_)
    all_goals exact eN.symm
  intro v h' hv
  rcases hv with ⟨hM, ps, hS, rfl, rfl⟩ | ⟨hM, hv, rfl⟩
  rotate_left
  · rw [ee _ (by omega)] at hv
    subst hv
    refine ⟨[], 2, [], .tup [.nils, .int .i64 1], rfl, rfl, rfl, rfl, rfl, ?_, ?_, ?_⟩
    · (repeat' first | exact trivial | exact rfl | refine And.intro ?_ ?_)
    · (repeat' first | exact trivial | exact rfl | refine And.intro ?_ ?_)
    intro _; refine ⟨⟨by omega, show (0 : Int) ≤ min ((a.length : Nat) : Int) (b.length : Int) by omega, show min ((a.length : Nat) : Int) (b.length : Int) ≤ (b.length : Int) by omega⟩, ?_⟩
    intro _
    refine call_new [(0, some 1)] (make_pre f b n nb lb hf) rfl rfl rfl rfl ?_ ?_ ?_
    · (repeat' first | exact trivial | exact rfl | refine And.intro ?_ ?_)
    · (repeat' first | exact trivial | exact rfl | refine And.intro ?_ ?_)
      all_goals exact eN.symm
    intro v h' hv
    rcases hv with ⟨hM2, qs, hS2, rfl, rfl⟩ | ⟨hM2, hv, rfl⟩
    · refine ⟨[(2, some 1)], 3, [(2, .arr PK .grow (.recs qs))], .tup [.grw 2 qs.length, .int .i64 0], rfl, rfl, rfl, rfl, rfl, ?_, ?_, ?_⟩
      · (repeat' first | exact trivial | exact rfl | refine And.intro ?_ ?_)
      · (repeat' first | exact trivial | exact rfl | refine And.intro ?_ ?_)
      intro _; refine ⟨fun g => ?_, fun g => ?_⟩
      rotate_left
      · exact absurd (show ((1 : Int) != 0) = false from g) (by decide)
      intro _
      show true = true
      rfl
    · rw [ee _ (by omega)] at hv
      subst hv
      refine ⟨[], 2, [], .tup [.nils, .int .i64 1], rfl, rfl, rfl, rfl, rfl, ?_, ?_, ?_⟩
      · (repeat' first | exact trivial | exact rfl | refine And.intro ?_ ?_)
      · (repeat' first | exact trivial | exact rfl | refine And.intro ?_ ?_)
      intro _; refine ⟨fun g => ?_, fun g => ?_⟩
      rotate_left
      · exact absurd (show ((1 : Int) != 0) = false from g) (by decide)
      intro _
      show true = true
      rfl
  refine ⟨[(2, some 1)], 3, [(2, .arr PK .grow (.recs ps))], .tup [.grw 2 ps.length, .int .i64 0], rfl, rfl, rfl, rfl, rfl, ?_, ?_, ?_⟩
  · (repeat' first | exact trivial | exact rfl | refine And.intro ?_ ?_)
  · (repeat' first | exact trivial | exact rfl | refine And.intro ?_ ?_)
  intro _; refine ⟨⟨by omega, show (0 : Int) ≤ min ((a.length : Nat) : Int) (b.length : Int) by omega, show min ((a.length : Nat) : Int) (b.length : Int) ≤ (b.length : Int) by omega⟩, ?_⟩
  intro _
  refine call_new [(0, some 1)] (make_pre f b n nb lb hf) rfl rfl rfl rfl ?_ ?_ ?_
  · (repeat' first | exact trivial | exact rfl | refine And.intro ?_ ?_)
  · (repeat' first | exact trivial | exact rfl | refine And.intro ?_ ?_)
    all_goals exact eN.symm
  intro v h' hv
  rcases hv with ⟨hM2, qs, hS2, rfl, rfl⟩ | ⟨hM2, hv, rfl⟩
  rotate_left
  · rw [ee _ (by omega)] at hv
    subst hv
    refine ⟨[], 3, [], .tup [.nils, .int .i64 1], rfl, rfl, rfl, rfl, rfl, ?_, ?_, ?_⟩
    · (repeat' first | exact trivial | exact rfl | refine And.intro ?_ ?_)
    · (repeat' first | exact trivial | exact rfl | refine And.intro ?_ ?_)
    intro _; refine ⟨fun g => ?_, fun g => ?_⟩
    · exact absurd (show ((0 : Int) != 0) = true from g) (by decide)
    intro _; refine ⟨fun g => ?_, fun g => ?_⟩
    rotate_left
    · exact absurd (show ((1 : Int) != 0) = false from g) (by decide)
    intro _
    show true = true
    rfl
  refine ⟨[(3, some 1)], 4, [(3, .arr PK .grow (.recs qs))], .tup [.grw 3 qs.length, .int .i64 0], rfl, rfl, rfl, rfl, rfl, ?_, ?_, ?_⟩
  · (repeat' first | exact trivial | exact rfl | refine And.intro ?_ ?_)
  · (repeat' first | exact trivial | exact rfl | refine And.intro ?_ ?_)
  intro _; refine ⟨fun g => ?_, fun g => ?_⟩
  · exact absurd (show ((0 : Int) != 0) = true from g) (by decide)
  intro _; refine ⟨fun g => ?_, fun g => ?_⟩
  · exact absurd (show ((0 : Int) != 0) = true from g) (by decide)
  obtain ⟨hV, eV, eF⟩ := hS.vd hM
  obtain ⟨hV2, eV2, eF2⟩ := hS2.vd hM2
  have pl := hS.len
  have ql := hS2.len
  have hbp : gb ps := gbp eF (by omega) hf
  have hbq : gb qs := gbp eF2 (by omega) hf
  have hJ : JOk ps qs := ⟨hV, hV2, by rw [eF, eF2], by rw [eV, eV2, tA, tB]⟩
  have hJ2 : JOk qs ps := ⟨hV2, hV, by rw [eF, eF2], by rw [eV, eV2, tA, tB]⟩
  have m1 := hM.1.1; have m3 := hM.2.1; have m4 := hM.2.2
  have eZ : zz (· + ·) qs ps = zz (· + ·) ps qs := by
    show zk _ (vals qs) (vals ps) (vals qs).length = zk _ (vals ps) (vals qs) (vals ps).length
    exact zk_comm (fun x y => Int.add_comm x y) (by rw [eV, eV2, tA, tB])
  have eX : zz max qs ps = zz max ps qs := by
    show zk _ (vals qs) (vals ps) (vals qs).length = zk _ (vals ps) (vals qs) (vals ps).length
    exact zk_comm (fun x y => by omega) (by rw [eV, eV2, tA, tB])
  have zl : (zz (· + ·) ps qs).length = n := by rw [zk_len, eV, tA]
  have xl : (zz max ps qs).length = n := by rw [zk_len, eV, tA]
  have zr : ∀ i, i < n → raw (zz (· + ·) ps qs) i = raw a i + raw b i := fun i hi => by
    show raw (zk _ (vals ps) (vals qs) (vals ps).length) i = _
    rw [raw_zk _ (Nat.le_refl _), if_pos (by rw [eV, tA]; exact hi), eV, eV2, raw_take hi, raw_take hi]
  have xr : ∀ i, i < n → raw (zz max ps qs) i = max (raw a i) (raw b i) := fun i hi => by
    show raw (zk _ (vals ps) (vals qs) (vals ps).length) i = _
    rw [raw_zk _ (Nat.le_refl _), if_pos (by rw [eV, tA]; exact hi), eV, eV2, raw_take hi, raw_take hi]
  have hA : ∀ i, i < n → Cd (raw a i) := fun i hi => by have := hM.1.2.2 i (by omega); rwa [raw_take hi] at this
  have hB : ∀ i, i < n → Cd (raw b i) := fun i hi => by have := hM2.1.2.2 i (by omega); rwa [raw_take hi] at this
  have hXC := hJ.mxC
  have hXM := hJ.mok max hXC
  rw [eF] at hXM
  have hfar : fr a b n = true ↔ ¬ AllC (zz (· + ·) ps qs) := by
    rw [fr_spec]
    constructor
    · rintro ⟨i, h1, h2⟩ q
      exact h2 (by rw [← zr i h1]; exact q i (by omega))
    · intro q
      have : ∃ i, ¬ (i < n → Cd (raw a i + raw b i)) := by
        apply Classical.byContradiction
        intro c
        have c : ∀ i, i < n → Cd (raw a i + raw b i) := fun i hi => Classical.byContradiction fun h => c ⟨i, fun k => h (k hi)⟩
        exact q (fun i hi => by rw [zl] at hi; rw [zr i hi]; exact c i hi)
      obtain ⟨i, hi⟩ := this
      have h1 : i < n := Classical.byContradiction fun h => hi (fun k => absurd k h)
      exact ⟨i, h1, fun k => hi (fun _ => k)⟩
  by_cases hZ : AllC (zz (· + ·) ps qs)
  · have hfF : fr a b n = false := by cases e : fr a b n with | false => rfl | true => exact absurd hZ (hfar.1 e)
    have hZM := hJ.mok (· + ·) hZ
    rw [eF] at hZM
    intro _
    refine call_new [(0, some 2), (1, some 3)] (sum_ok ps qs hbp hbq) rfl rfl rfl rfl ?_ ?_ ?_
    · (repeat' first | exact trivial | exact rfl | refine And.intro ?_ ?_)
    · (repeat' first | exact trivial | exact rfl | refine And.intro ?_ ?_)
    intro v h' hv
    rcases hv with ⟨_, _, s1, hS4, rfl, rfl⟩ | ⟨_, hn, _⟩ | ⟨hn, _⟩
    rotate_left
    · exact absurd hZ hn
    · exact absurd hJ hn
    refine ⟨[(4, some 2)], 5, [(4, .arr PK .grow (.recs s1))], .tup [.grw 4 s1.length, .int .i64 0], rfl, rfl, rfl, rfl, rfl, ?_, ?_, ?_⟩
    · (repeat' first | exact trivial | exact rfl | refine And.intro ?_ ?_)
    · (repeat' first | exact trivial | exact rfl | refine And.intro ?_ ?_)
    rw [eF] at hS4
    intro _
    refine call_new [(0, some 3), (1, some 2)] (sum_ok qs ps hbq hbp) rfl rfl rfl rfl ?_ ?_ ?_
    · (repeat' first | exact trivial | exact rfl | refine And.intro ?_ ?_)
    · (repeat' first | exact trivial | exact rfl | refine And.intro ?_ ?_)
    intro v h' hv
    rcases hv with ⟨_, _, s2, hS5, rfl, rfl⟩ | ⟨_, hn, _⟩ | ⟨hn, _⟩
    rotate_left
    · exact absurd (by rw [eZ]; exact hZ) hn
    · exact absurd hJ2 hn
    refine ⟨[(5, some 2)], 6, [(5, .arr PK .grow (.recs s2))], .tup [.grw 5 s2.length, .int .i64 0], rfl, rfl, rfl, rfl, rfl, ?_, ?_, ?_⟩
    · (repeat' first | exact trivial | exact rfl | refine And.intro ?_ ?_)
    · (repeat' first | exact trivial | exact rfl | refine And.intro ?_ ?_)
    rw [eF2, eZ] at hS5
    have es : s2 = s1 := hS5.uniq hZ (by omega) hS4
    subst es
    intro _
    refine call_new [(0, some 2), (1, some 3)] (max_ok ps qs hbp hbq) rfl rfl rfl rfl ?_ ?_ ?_
    · (repeat' first | exact trivial | exact rfl | refine And.intro ?_ ?_)
    · (repeat' first | exact trivial | exact rfl | refine And.intro ?_ ?_)
    intro v h' hv
    rcases hv with ⟨_, x1, hX1, rfl, rfl⟩ | ⟨hn, _⟩
    rotate_left
    · exact absurd hJ hn
    refine ⟨[(6, some 2)], 7, [(6, .arr PK .grow (.recs x1))], .tup [.grw 6 x1.length, .int .i64 0], rfl, rfl, rfl, rfl, rfl, ?_, ?_, ?_⟩
    · (repeat' first | exact trivial | exact rfl | refine And.intro ?_ ?_)
    · (repeat' first | exact trivial | exact rfl | refine And.intro ?_ ?_)
    rw [eF] at hX1
    intro _
    refine call_new [(0, some 3), (1, some 2)] (max_ok qs ps hbq hbp) rfl rfl rfl rfl ?_ ?_ ?_
    · (repeat' first | exact trivial | exact rfl | refine And.intro ?_ ?_)
    · (repeat' first | exact trivial | exact rfl | refine And.intro ?_ ?_)
    intro v h' hv
    rcases hv with ⟨_, x2, hX2, rfl, rfl⟩ | ⟨hn, _⟩
    rotate_left
    · exact absurd hJ2 hn
    refine ⟨[(7, some 2)], 8, [(7, .arr PK .grow (.recs x2))], .tup [.grw 7 x2.length, .int .i64 0], rfl, rfl, rfl, rfl, rfl, ?_, ?_, ?_⟩
    · (repeat' first | exact trivial | exact rfl | refine And.intro ?_ ?_)
    · (repeat' first | exact trivial | exact rfl | refine And.intro ?_ ?_)
    rw [eF2, eX] at hX2
    have ex : x2 = x1 := hX2.uniq hXC (by omega) hX1
    subst ex
    have sl := hS4.len
    have hbs : gb s2 := gbp (hS4.first (by omega)) (by omega) hf
    obtain ⟨vS, eS, fS⟩ := hS4.vd hZM
    have xll := hX1.len
    have hbx : gb x2 := gbp (hX1.first (by omega)) (by omega) hf
    obtain ⟨vX, eXX, fX⟩ := hX1.vd hXM
    intro _; refine ⟨fun g => ?_, fun g => ?_⟩
    · exact absurd (show ((0 : Int) != 0) = true from g) (by decide)
    intro _; refine ⟨fun g => ?_, fun g => ?_⟩
    · exact absurd (show ((0 : Int) != 0) = true from g) (by decide)
    intro _; refine ⟨fun g => ?_, fun g => ?_⟩
    · exact absurd (show ((0 : Int) != 0) = true from g) (by decide)
    intro _
    refine call_pure [(0, some 4), (1, some 5)] (same_ok s2 s2 s2.length s2.length (Nat.le_refl _) (Nat.le_refl _) (by omega) (by omega)) rfl rfl rfl ?_ ?_ ?_
    · (repeat' first | exact trivial | exact rfl | refine And.intro ?_ ?_)
    · (repeat' first | exact trivial | exact rfl | refine And.intro ?_ ?_)
    intro v hv _
    subst hv
    intro _; refine ⟨fun g => ?_, fun g => ?_⟩
    · exact absurd (show (!decide (NI (s2.take s2.length) = NI (s2.take s2.length))) = true from g) (by simp)
    intro _
    refine call_pure [(0, some 6), (1, some 7)] (same_ok x2 x2 x2.length x2.length (Nat.le_refl _) (Nat.le_refl _) (by omega) (by omega)) rfl rfl rfl ?_ ?_ ?_
    · (repeat' first | exact trivial | exact rfl | refine And.intro ?_ ?_)
    · (repeat' first | exact trivial | exact rfl | refine And.intro ?_ ?_)
    intro v hv _
    subst hv
    intro _; refine ⟨fun g => ?_, fun g => ?_⟩
    · exact absurd (show (!decide (NI (x2.take x2.length) = NI (x2.take x2.length))) = true from g) (by simp)
    intro _
    refine loop2 tt_ok [21, 22] [] 8 (fun k : { k : Nat // k ≤ n } => [(21, .test (fr a b k.1)), (22, .int .i64 (k.1 : Nat))]) (fun _ => []) (fun k => n - k.1) ⟨0, Nat.zero_le _⟩ ?_
    intro _
    refine ⟨⟨th [] 8, rfl, rfl, rfl, rfl, rfl, rfl, ?_, ?_⟩, ?_⟩
    · (repeat' first | exact trivial | exact rfl | refine And.intro ?_ ?_)
    · (repeat' first | exact trivial | exact rfl | refine And.intro ?_ ?_)
    intro ⟨k, hk⟩
    have hk : k ≤ n := hk
    intro _; refine ⟨fun g => ?_, fun g => ?_⟩
    rotate_left
    · have g : decide ((k : Int) < min ((a.length : Nat) : Int) (b.length : Int)) = false := g
      have g := of_decide_eq_false g
      have e : k = n := by omega
      subst e
      intro _; refine ⟨fun g => ?_, fun g => ?_⟩
      rotate_left
      · have g : (((0 : Int) == 3) == fr a b k) = false := g
        rw [hfF] at g
        exact absurd g (by decide)
      intro _; refine ⟨fun g => ?_, fun g => ?_⟩
      rotate_left
      · exact absurd (show ((0 : Int) == 0) = false from g) (by decide)
      intro _
      show true = true
      rfl
    have g : decide ((k : Int) < min ((a.length : Nat) : Int) (b.length : Int)) = true := g
    have g := of_decide_eq_true g
    have kn : k < n := by omega
    have z : 0 + ((k : Nat) : Int).toNat = k := by omega
    have cA := hA k kn
    have cB := hB k kn
    have ca1 := cA.1; have ca2 := cA.2; have cb1 := cB.1; have cb2 := cB.2
    have es : IntKind.i64.wrap (raw a (0 + ((k : Nat) : Int).toNat) + raw b (0 + ((k : Nat) : Int).toNat)) = raw a k + raw b k := by rw [z]; exact wrapS _ ⟨by omega, by omega⟩
    have ef : IntKind.i64.wrap (f + (k : Int)) = f + k := wrapS _ ⟨by omega, by omega⟩
    have aX : AtR x2 (f + k) (.tup [.int .i64 (max (raw a k) (raw b k)), .int .i64 0]) := .inl ⟨vX, by omega, by rw [eXX]; omega, by rw [eXX, fX, show (f + (k : Int) - f).toNat = k by omega, xr k kn]⟩
    have aS : AtR s2 (f + k) (.tup [.int .i64 (raw a k + raw b k), .int .i64 0]) := .inl ⟨vS, by omega, by rw [eS]; omega, by rw [eS, fS, show (f + (k : Int) - f).toNat = k by omega, zr k kn]⟩
    intro _; refine ⟨fun g => ?_, fun g => ?_⟩
    · have gf : fr a b k = true := g
      intro _; refine ⟨by kernel_rfl, ?_⟩
      intro _
      refine call_pure [(0, some 6)] (atf_ok x2 (f + k) hbx) rfl rfl rfl ?_ ?_ ?_
      · (repeat' first | exact trivial | exact rfl | refine And.intro ?_ ?_)
      · (repeat' first | exact trivial | exact rfl | refine And.intro ?_ ?_)
        exact ef.symm
      intro v hv _
      have hv := hv.uniq aX
      subst hv
      intro _
      refine call_pure [(0, some 4)] (atf_ok s2 (f + k) hbs) rfl rfl rfl ?_ ?_ ?_
      · (repeat' first | exact trivial | exact rfl | refine And.intro ?_ ?_)
      · (repeat' first | exact trivial | exact rfl | refine And.intro ?_ ?_)
        exact ef.symm
      intro v hv _
      have hv := hv.uniq aS
      subst hv
      intro _; refine ⟨fun g => ?_, fun g => ?_⟩
      · exact absurd (show ((0 : Int) != 0) = true from g) (by decide)
      intro _; refine ⟨show 0 ≤ (k : Int) ∧ (k : Int) < (a.length : Int) by omega, ?_⟩
      intro _; refine ⟨show 0 + (k : Int).toNat < a.length by omega, ?_⟩
      intro _; refine ⟨show 0 ≤ (k : Int) ∧ (k : Int) < (b.length : Int) by omega, ?_⟩
      intro _; refine ⟨show 0 + (k : Int).toNat < b.length by omega, ?_⟩
      intro _; refine ⟨fun g => ?_, fun g => ?_⟩
      · have g : (max (raw a k) (raw b k) != max (raw a (0 + ((k : Nat) : Int).toNat)) (raw b (0 + ((k : Nat) : Int).toNat))) = true := g
        rw [z] at g
        simp at g
      intro _; refine ⟨fun g => ?_, fun g => ?_⟩
      rotate_left
      · exact absurd (show ((0 : Int) == 0) = false from g) (by decide)
      intro _; refine ⟨fun g => ?_, fun g => ?_⟩
      · exact absurd (show ((0 : Int) != 0) = true from g) (by decide)
      intro _; refine ⟨show 0 ≤ (k : Int) ∧ (k : Int) < (a.length : Int) by omega, ?_⟩
      intro _; refine ⟨show 0 + (k : Int).toNat < a.length by omega, ?_⟩
      intro _; refine ⟨show 0 ≤ (k : Int) ∧ (k : Int) < (b.length : Int) by omega, ?_⟩
      intro _; refine ⟨show 0 + (k : Int).toNat < b.length by omega, ?_⟩
      intro _; refine ⟨by kernel_rfl, ?_⟩
      intro _; refine ⟨fun g => ?_, fun g => ?_⟩
      · have g : (raw a k + raw b k != IntKind.i64.wrap (raw a (0 + ((k : Nat) : Int).toNat) + raw b (0 + ((k : Nat) : Int).toNat))) = true := g
        rw [es] at g
        simp at g
      refine ⟨⟨k + 1, by omega⟩, by show n - (k + 1) < n - k; omega, th [] 8, rfl, rfl, rfl, rfl, rfl, rfl, ?_, ?_⟩
      · (repeat' first | exact trivial | exact rfl | refine And.intro ?_ ?_)
        · show fr a b (k + 1) = true
          simp only [fr, gf, Bool.true_or]
        · exact (wrap_nat k (by omega)).symm
      · (repeat' first | exact trivial | exact rfl | refine And.intro ?_ ?_)

    have gf : fr a b k = false := g
    intro _; refine ⟨show 0 ≤ (k : Int) ∧ (k : Int) < (a.length : Int) by omega, ?_⟩
    intro _; refine ⟨show 0 + (k : Int).toNat < a.length by omega, ?_⟩
    intro _; refine ⟨show 0 ≤ (k : Int) ∧ (k : Int) < (b.length : Int) by omega, ?_⟩
    intro _; refine ⟨show 0 + (k : Int).toNat < b.length by omega, ?_⟩
    intro _; refine ⟨fun g => ?_, fun g => ?_⟩
    · have g1 : decide (IntKind.i64.wrap (raw a (0 + ((k : Nat) : Int).toNat) + raw b (0 + ((k : Nat) : Int).toNat)) > 1000000000) = true := g
      rw [es] at g1
      intro _; refine ⟨by kernel_rfl, ?_⟩
      intro _
      refine call_pure [(0, some 6)] (atf_ok x2 (f + k) hbx) rfl rfl rfl ?_ ?_ ?_
      · (repeat' first | exact trivial | exact rfl | refine And.intro ?_ ?_)
      · (repeat' first | exact trivial | exact rfl | refine And.intro ?_ ?_)
        exact ef.symm
      intro v hv _
      have hv := hv.uniq aX
      subst hv
      intro _
      refine call_pure [(0, some 4)] (atf_ok s2 (f + k) hbs) rfl rfl rfl ?_ ?_ ?_
      · (repeat' first | exact trivial | exact rfl | refine And.intro ?_ ?_)
      · (repeat' first | exact trivial | exact rfl | refine And.intro ?_ ?_)
        exact ef.symm
      intro v hv _
      have hv := hv.uniq aS
      subst hv
      intro _; refine ⟨fun g => ?_, fun g => ?_⟩
      · exact absurd (show ((0 : Int) != 0) = true from g) (by decide)
      intro _; refine ⟨show 0 ≤ (k : Int) ∧ (k : Int) < (a.length : Int) by omega, ?_⟩
      intro _; refine ⟨show 0 + (k : Int).toNat < a.length by omega, ?_⟩
      intro _; refine ⟨show 0 ≤ (k : Int) ∧ (k : Int) < (b.length : Int) by omega, ?_⟩
      intro _; refine ⟨show 0 + (k : Int).toNat < b.length by omega, ?_⟩
      intro _; refine ⟨fun g => ?_, fun g => ?_⟩
      · have g : (max (raw a k) (raw b k) != max (raw a (0 + ((k : Nat) : Int).toNat)) (raw b (0 + ((k : Nat) : Int).toNat))) = true := g
        rw [z] at g
        simp at g
      intro _; refine ⟨fun g => ?_, fun g => ?_⟩
      rotate_left
      · exact absurd (show ((0 : Int) == 0) = false from g) (by decide)
      intro _; refine ⟨fun g => ?_, fun g => ?_⟩
      · exact absurd (show ((0 : Int) != 0) = true from g) (by decide)
      intro _; refine ⟨show 0 ≤ (k : Int) ∧ (k : Int) < (a.length : Int) by omega, ?_⟩
      intro _; refine ⟨show 0 + (k : Int).toNat < a.length by omega, ?_⟩
      intro _; refine ⟨show 0 ≤ (k : Int) ∧ (k : Int) < (b.length : Int) by omega, ?_⟩
      intro _; refine ⟨show 0 + (k : Int).toNat < b.length by omega, ?_⟩
      intro _; refine ⟨by kernel_rfl, ?_⟩
      intro _; refine ⟨fun g => ?_, fun g => ?_⟩
      · have g : (raw a k + raw b k != IntKind.i64.wrap (raw a (0 + ((k : Nat) : Int).toNat) + raw b (0 + ((k : Nat) : Int).toNat))) = true := g
        rw [es] at g
        simp at g
      refine ⟨⟨k + 1, by omega⟩, by show n - (k + 1) < n - k; omega, th [] 8, rfl, rfl, rfl, rfl, rfl, rfl, ?_, ?_⟩
      · (repeat' first | exact trivial | exact rfl | refine And.intro ?_ ?_)
        · show fr a b (k + 1) = true
          simp only [fr, g1, Bool.or_true, Bool.true_or]
        · exact (wrap_nat k (by omega)).symm
      · (repeat' first | exact trivial | exact rfl | refine And.intro ?_ ?_)

    have g1 : decide (IntKind.i64.wrap (raw a (0 + ((k : Nat) : Int).toNat) + raw b (0 + ((k : Nat) : Int).toNat)) > 1000000000) = false := g
    rw [es] at g1
    intro _; refine ⟨show 0 ≤ (k : Int) ∧ (k : Int) < (a.length : Int) by omega, ?_⟩
    intro _; refine ⟨show 0 + (k : Int).toNat < a.length by omega, ?_⟩
    intro _; refine ⟨show 0 ≤ (k : Int) ∧ (k : Int) < (b.length : Int) by omega, ?_⟩
    intro _; refine ⟨show 0 + (k : Int).toNat < b.length by omega, ?_⟩
    intro _; refine ⟨by kernel_rfl, ?_⟩
    intro _
    refine call_pure [(0, some 6)] (atf_ok x2 (f + k) hbx) rfl rfl rfl ?_ ?_ ?_
    · (repeat' first | exact trivial | exact rfl | refine And.intro ?_ ?_)
    · (repeat' first | exact trivial | exact rfl | refine And.intro ?_ ?_)
      exact ef.symm
    intro v hv _
    have hv := hv.uniq aX
    subst hv
    intro _
    refine call_pure [(0, some 4)] (atf_ok s2 (f + k) hbs) rfl rfl rfl ?_ ?_ ?_
    · (repeat' first | exact trivial | exact rfl | refine And.intro ?_ ?_)
    · (repeat' first | exact trivial | exact rfl | refine And.intro ?_ ?_)
      exact ef.symm
    intro v hv _
    have hv := hv.uniq aS
    subst hv
    intro _; refine ⟨fun g => ?_, fun g => ?_⟩
    · exact absurd (show ((0 : Int) != 0) = true from g) (by decide)
    intro _; refine ⟨show 0 ≤ (k : Int) ∧ (k : Int) < (a.length : Int) by omega, ?_⟩
    intro _; refine ⟨show 0 + (k : Int).toNat < a.length by omega, ?_⟩
    intro _; refine ⟨show 0 ≤ (k : Int) ∧ (k : Int) < (b.length : Int) by omega, ?_⟩
    intro _; refine ⟨show 0 + (k : Int).toNat < b.length by omega, ?_⟩
    intro _; refine ⟨fun g => ?_, fun g => ?_⟩
    · have g : (max (raw a k) (raw b k) != max (raw a (0 + ((k : Nat) : Int).toNat)) (raw b (0 + ((k : Nat) : Int).toNat))) = true := g
      rw [z] at g
      simp at g
    intro _; refine ⟨fun g => ?_, fun g => ?_⟩
    rotate_left
    · exact absurd (show ((0 : Int) == 0) = false from g) (by decide)
    intro _; refine ⟨fun g => ?_, fun g => ?_⟩
    · exact absurd (show ((0 : Int) != 0) = true from g) (by decide)
    intro _; refine ⟨show 0 ≤ (k : Int) ∧ (k : Int) < (a.length : Int) by omega, ?_⟩
    intro _; refine ⟨show 0 + (k : Int).toNat < a.length by omega, ?_⟩
    intro _; refine ⟨show 0 ≤ (k : Int) ∧ (k : Int) < (b.length : Int) by omega, ?_⟩
    intro _; refine ⟨show 0 + (k : Int).toNat < b.length by omega, ?_⟩
    intro _; refine ⟨by kernel_rfl, ?_⟩
    intro _; refine ⟨fun g => ?_, fun g => ?_⟩
    · have g : (raw a k + raw b k != IntKind.i64.wrap (raw a (0 + ((k : Nat) : Int).toNat) + raw b (0 + ((k : Nat) : Int).toNat))) = true := g
      rw [es] at g
      simp at g
    refine ⟨⟨k + 1, by omega⟩, by show n - (k + 1) < n - k; omega, th [] 8, rfl, rfl, rfl, rfl, rfl, rfl, ?_, ?_⟩
    · (repeat' first | exact trivial | exact rfl | refine And.intro ?_ ?_)
      · show fr a b (k + 1) = decide (IntKind.i64.wrap (raw a (0 + ((k : Nat) : Int).toNat) + raw b (0 + ((k : Nat) : Int).toNat)) < -1000000000)
        rw [es]
        simp only [fr, gf, g1, Bool.false_or]
      · exact (wrap_nat k (by omega)).symm
    · (repeat' first | exact trivial | exact rfl | refine And.intro ?_ ?_)

  have hfF : fr a b n = true := hfar.2 hZ
  intro _
  refine call_new [(0, some 2), (1, some 3)] (sum_ok ps qs hbp hbq) rfl rfl rfl rfl ?_ ?_ ?_
  · (repeat' first | exact trivial | exact rfl | refine And.intro ?_ ?_)
  · (repeat' first | exact trivial | exact rfl | refine And.intro ?_ ?_)
  intro v h' hv
  rcases hv with ⟨_, hn, _⟩ | ⟨_, _, rfl, rfl⟩ | ⟨hn, _⟩
  · exact absurd hn hZ
  rotate_left
  · exact absurd hJ hn
  refine ⟨[], 4, [], .tup [.nils, .int .i64 3], rfl, rfl, rfl, rfl, rfl, ?_, ?_, ?_⟩
  · (repeat' first | exact trivial | exact rfl | refine And.intro ?_ ?_)
  · (repeat' first | exact trivial | exact rfl | refine And.intro ?_ ?_)
  intro _
  refine call_new [(0, some 3), (1, some 2)] (sum_ok qs ps hbq hbp) rfl rfl rfl rfl ?_ ?_ ?_
  · (repeat' first | exact trivial | exact rfl | refine And.intro ?_ ?_)
  · (repeat' first | exact trivial | exact rfl | refine And.intro ?_ ?_)
  intro v h' hv
  rcases hv with ⟨_, hn, _⟩ | ⟨_, _, rfl, rfl⟩ | ⟨hn, _⟩
  · exact absurd (by rw [eZ] at hn; exact hn) hZ
  rotate_left
  · exact absurd hJ2 hn
  refine ⟨[], 4, [], .tup [.nils, .int .i64 3], rfl, rfl, rfl, rfl, rfl, ?_, ?_, ?_⟩
  · (repeat' first | exact trivial | exact rfl | refine And.intro ?_ ?_)
  · (repeat' first | exact trivial | exact rfl | refine And.intro ?_ ?_)
  intro _
  refine call_new [(0, some 2), (1, some 3)] (max_ok ps qs hbp hbq) rfl rfl rfl rfl ?_ ?_ ?_
  · (repeat' first | exact trivial | exact rfl | refine And.intro ?_ ?_)
  · (repeat' first | exact trivial | exact rfl | refine And.intro ?_ ?_)
  intro v h' hv
  rcases hv with ⟨_, x1, hX1, rfl, rfl⟩ | ⟨hn, _⟩
  rotate_left
  · exact absurd hJ hn
  refine ⟨[(4, some 2)], 5, [(4, .arr PK .grow (.recs x1))], .tup [.grw 4 x1.length, .int .i64 0], rfl, rfl, rfl, rfl, rfl, ?_, ?_, ?_⟩
  · (repeat' first | exact trivial | exact rfl | refine And.intro ?_ ?_)
  · (repeat' first | exact trivial | exact rfl | refine And.intro ?_ ?_)
  rw [eF] at hX1
  intro _
  refine call_new [(0, some 3), (1, some 2)] (max_ok qs ps hbq hbp) rfl rfl rfl rfl ?_ ?_ ?_
  · (repeat' first | exact trivial | exact rfl | refine And.intro ?_ ?_)
  · (repeat' first | exact trivial | exact rfl | refine And.intro ?_ ?_)
  intro v h' hv
  rcases hv with ⟨_, x2, hX2, rfl, rfl⟩ | ⟨hn, _⟩
  rotate_left
  · exact absurd hJ2 hn
  refine ⟨[(5, some 2)], 6, [(5, .arr PK .grow (.recs x2))], .tup [.grw 5 x2.length, .int .i64 0], rfl, rfl, rfl, rfl, rfl, ?_, ?_, ?_⟩
  · (repeat' first | exact trivial | exact rfl | refine And.intro ?_ ?_)
  · (repeat' first | exact trivial | exact rfl | refine And.intro ?_ ?_)
  rw [eF2, eX] at hX2
  have ex : x2 = x1 := hX2.uniq hXC (by omega) hX1
  subst ex
  have xll := hX1.len
  have hbx : gb x2 := gbp (hX1.first (by omega)) (by omega) hf
  obtain ⟨vX, eXX, fX⟩ := hX1.vd hXM
  intro _; refine ⟨fun g => ?_, fun g => ?_⟩
  · exact absurd (show ((3 : Int) != 3) = true from g) (by decide)
  intro _; refine ⟨fun g => ?_, fun g => ?_⟩
  · exact absurd (show ((0 : Int) != 0) = true from g) (by decide)
  intro _; refine ⟨fun g => ?_, fun g => ?_⟩
  · exact absurd (show ((0 : Int) != 0) = true from g) (by decide)
  intro _
  refine call_pure [(0, none), (1, none)] (same_ok [] [] 0 0 (by decide) (by decide) (by decide) (by decide)) rfl rfl rfl ?_ ?_ ?_
  · (repeat' first | exact trivial | exact rfl | refine And.intro ?_ ?_)
  · (repeat' first | exact trivial | exact rfl | refine And.intro ?_ ?_)
  intro v hv _
  subst hv
  intro _; refine ⟨fun g => ?_, fun g => ?_⟩
  · exact absurd (show (!decide (NI ([].take 0) = NI ([].take 0))) = true from g) (by decide)
  intro _
  refine call_pure [(0, some 4), (1, some 5)] (same_ok x2 x2 x2.length x2.length (Nat.le_refl _) (Nat.le_refl _) (by omega) (by omega)) rfl rfl rfl ?_ ?_ ?_
  · (repeat' first | exact trivial | exact rfl | refine And.intro ?_ ?_)
  · (repeat' first | exact trivial | exact rfl | refine And.intro ?_ ?_)
  intro v hv _
  subst hv
  intro _; refine ⟨fun g => ?_, fun g => ?_⟩
  · exact absurd (show (!decide (NI (x2.take x2.length) = NI (x2.take x2.length))) = true from g) (by simp)
  intro _
  refine loop2 tt_ok [21, 22] [] 6 (fun k : { k : Nat // k ≤ n } => [(21, .test (fr a b k.1)), (22, .int .i64 (k.1 : Nat))]) (fun _ => []) (fun k => n - k.1) ⟨0, Nat.zero_le _⟩ ?_
  intro _
  refine ⟨⟨th [] 6, rfl, rfl, rfl, rfl, rfl, rfl, ?_, ?_⟩, ?_⟩
  · (repeat' first | exact trivial | exact rfl | refine And.intro ?_ ?_)
  · (repeat' first | exact trivial | exact rfl | refine And.intro ?_ ?_)
  intro ⟨k, hk⟩
  have hk : k ≤ n := hk
  intro _; refine ⟨fun g => ?_, fun g => ?_⟩
  rotate_left
  · have g : decide ((k : Int) < min ((a.length : Nat) : Int) (b.length : Int)) = false := g
    have g := of_decide_eq_false g
    have e : k = n := by omega
    subst e
    intro _; refine ⟨fun g => ?_, fun g => ?_⟩
    rotate_left
    · have g : (((3 : Int) == 3) == fr a b k) = false := g
      rw [hfF] at g
      exact absurd g (by decide)
    intro _; refine ⟨fun g => ?_, fun g => ?_⟩
    · exact absurd (show ((3 : Int) == 0) = true from g) (by decide)
    intro _
    show ((3 : Int) == 3) = true
    rfl
  have g : decide ((k : Int) < min ((a.length : Nat) : Int) (b.length : Int)) = true := g
  have g := of_decide_eq_true g
  have kn : k < n := by omega
  have z : 0 + ((k : Nat) : Int).toNat = k := by omega
  have cA := hA k kn
  have cB := hB k kn
  have ca1 := cA.1; have ca2 := cA.2; have cb1 := cB.1; have cb2 := cB.2
  have es : IntKind.i64.wrap (raw a (0 + ((k : Nat) : Int).toNat) + raw b (0 + ((k : Nat) : Int).toNat)) = raw a k + raw b k := by rw [z]; exact wrapS _ ⟨by omega, by omega⟩
  have ef : IntKind.i64.wrap (f + (k : Int)) = f + k := wrapS _ ⟨by omega, by omega⟩
  have aX : AtR x2 (f + k) (.tup [.int .i64 (max (raw a k) (raw b k)), .int .i64 0]) := .inl ⟨vX, by omega, by rw [eXX]; omega, by rw [eXX, fX, show (f + (k : Int) - f).toNat = k by omega, xr k kn]⟩
  have aS : AtR [] (f + k) (.tup [.int .i64 0, .int .i64 1]) := .inr ⟨fun h => absurd h.1.1.1.1 (by decide), rfl⟩
  intro _; refine ⟨fun g => ?_, fun g => ?_⟩
  · have gf : fr a b k = true := g
    intro _; refine ⟨by kernel_rfl, ?_⟩
    intro _
    refine call_pure [(0, some 4)] (atf_ok x2 (f + k) hbx) rfl rfl rfl ?_ ?_ ?_
    · (repeat' first | exact trivial | exact rfl | refine And.intro ?_ ?_)
    · (repeat' first | exact trivial | exact rfl | refine And.intro ?_ ?_)
      exact ef.symm
    intro v hv _
    have hv := hv.uniq aX
    subst hv
    intro _
    refine call_pure [(0, none)] (atf_ok [] (f + k) (by decide)) rfl rfl rfl ?_ ?_ ?_
    · (repeat' first | exact trivial | exact rfl | refine And.intro ?_ ?_)
    · (repeat' first | exact trivial | exact rfl | refine And.intro ?_ ?_)
      exact ef.symm
    intro v hv _
    have hv := hv.uniq aS
    subst hv
    intro _; refine ⟨fun g => ?_, fun g => ?_⟩
    · exact absurd (show ((0 : Int) != 0) = true from g) (by decide)
    intro _; refine ⟨show 0 ≤ (k : Int) ∧ (k : Int) < (a.length : Int) by omega, ?_⟩
    intro _; refine ⟨show 0 + (k : Int).toNat < a.length by omega, ?_⟩
    intro _; refine ⟨show 0 ≤ (k : Int) ∧ (k : Int) < (b.length : Int) by omega, ?_⟩
    intro _; refine ⟨show 0 + (k : Int).toNat < b.length by omega, ?_⟩
    intro _; refine ⟨fun g => ?_, fun g => ?_⟩
    · have g : (max (raw a k) (raw b k) != max (raw a (0 + ((k : Nat) : Int).toNat)) (raw b (0 + ((k : Nat) : Int).toNat))) = true := g
      rw [z] at g
      simp at g
    intro _; refine ⟨fun g => ?_, fun g => ?_⟩
    · exact absurd (show ((3 : Int) == 0) = true from g) (by decide)
    intro _; refine ⟨by kernel_rfl, ?_⟩
    refine ⟨⟨k + 1, by omega⟩, by show n - (k + 1) < n - k; omega, th [] 6, rfl, rfl, rfl, rfl, rfl, rfl, ?_, ?_⟩
    · (repeat' first | exact trivial | exact rfl | refine And.intro ?_ ?_)
      · show fr a b (k + 1) = true
        simp only [fr, gf, Bool.true_or]
      · exact (wrap_nat k (by omega)).symm
    · (repeat' first | exact trivial | exact rfl | refine And.intro ?_ ?_)

  have gf : fr a b k = false := g
  intro _; refine ⟨show 0 ≤ (k : Int) ∧ (k : Int) < (a.length : Int) by omega, ?_⟩
  intro _; refine ⟨show 0 + (k : Int).toNat < a.length by omega, ?_⟩
  intro _; refine ⟨show 0 ≤ (k : Int) ∧ (k : Int) < (b.length : Int) by omega, ?_⟩
  intro _; refine ⟨show 0 + (k : Int).toNat < b.length by omega, ?_⟩
  intro _; refine ⟨fun g => ?_, fun g => ?_⟩
  · have g1 : decide (IntKind.i64.wrap (raw a (0 + ((k : Nat) : Int).toNat) + raw b (0 + ((k : Nat) : Int).toNat)) > 1000000000) = true := g
    rw [es] at g1
    intro _; refine ⟨by kernel_rfl, ?_⟩
    intro _
    refine call_pure [(0, some 4)] (atf_ok x2 (f + k) hbx) rfl rfl rfl ?_ ?_ ?_
    · (repeat' first | exact trivial | exact rfl | refine And.intro ?_ ?_)
    · (repeat' first | exact trivial | exact rfl | refine And.intro ?_ ?_)
      exact ef.symm
    intro v hv _
    have hv := hv.uniq aX
    subst hv
    intro _
    refine call_pure [(0, none)] (atf_ok [] (f + k) (by decide)) rfl rfl rfl ?_ ?_ ?_
    · (repeat' first | exact trivial | exact rfl | refine And.intro ?_ ?_)
    · (repeat' first | exact trivial | exact rfl | refine And.intro ?_ ?_)
      exact ef.symm
    intro v hv _
    have hv := hv.uniq aS
    subst hv
    intro _; refine ⟨fun g => ?_, fun g => ?_⟩
    · exact absurd (show ((0 : Int) != 0) = true from g) (by decide)
    intro _; refine ⟨show 0 ≤ (k : Int) ∧ (k : Int) < (a.length : Int) by omega, ?_⟩
    intro _; refine ⟨show 0 + (k : Int).toNat < a.length by omega, ?_⟩
    intro _; refine ⟨show 0 ≤ (k : Int) ∧ (k : Int) < (b.length : Int) by omega, ?_⟩
    intro _; refine ⟨show 0 + (k : Int).toNat < b.length by omega, ?_⟩
    intro _; refine ⟨fun g => ?_, fun g => ?_⟩
    · have g : (max (raw a k) (raw b k) != max (raw a (0 + ((k : Nat) : Int).toNat)) (raw b (0 + ((k : Nat) : Int).toNat))) = true := g
      rw [z] at g
      simp at g
    intro _; refine ⟨fun g => ?_, fun g => ?_⟩
    · exact absurd (show ((3 : Int) == 0) = true from g) (by decide)
    intro _; refine ⟨by kernel_rfl, ?_⟩
    refine ⟨⟨k + 1, by omega⟩, by show n - (k + 1) < n - k; omega, th [] 6, rfl, rfl, rfl, rfl, rfl, rfl, ?_, ?_⟩
    · (repeat' first | exact trivial | exact rfl | refine And.intro ?_ ?_)
      · show fr a b (k + 1) = true
        simp only [fr, g1, Bool.or_true, Bool.true_or]
      · exact (wrap_nat k (by omega)).symm
    · (repeat' first | exact trivial | exact rfl | refine And.intro ?_ ?_)

  have g1 : decide (IntKind.i64.wrap (raw a (0 + ((k : Nat) : Int).toNat) + raw b (0 + ((k : Nat) : Int).toNat)) > 1000000000) = false := g
  rw [es] at g1
  intro _; refine ⟨show 0 ≤ (k : Int) ∧ (k : Int) < (a.length : Int) by omega, ?_⟩
  intro _; refine ⟨show 0 + (k : Int).toNat < a.length by omega, ?_⟩
  intro _; refine ⟨show 0 ≤ (k : Int) ∧ (k : Int) < (b.length : Int) by omega, ?_⟩
  intro _; refine ⟨show 0 + (k : Int).toNat < b.length by omega, ?_⟩
  intro _; refine ⟨by kernel_rfl, ?_⟩
  intro _
  refine call_pure [(0, some 4)] (atf_ok x2 (f + k) hbx) rfl rfl rfl ?_ ?_ ?_
  · (repeat' first | exact trivial | exact rfl | refine And.intro ?_ ?_)
  · (repeat' first | exact trivial | exact rfl | refine And.intro ?_ ?_)
    exact ef.symm
  intro v hv _
  have hv := hv.uniq aX
  subst hv
  intro _
  refine call_pure [(0, none)] (atf_ok [] (f + k) (by decide)) rfl rfl rfl ?_ ?_ ?_
  · (repeat' first | exact trivial | exact rfl | refine And.intro ?_ ?_)
  · (repeat' first | exact trivial | exact rfl | refine And.intro ?_ ?_)
    exact ef.symm
  intro v hv _
  have hv := hv.uniq aS
  subst hv
  intro _; refine ⟨fun g => ?_, fun g => ?_⟩
  · exact absurd (show ((0 : Int) != 0) = true from g) (by decide)
  intro _; refine ⟨show 0 ≤ (k : Int) ∧ (k : Int) < (a.length : Int) by omega, ?_⟩
  intro _; refine ⟨show 0 + (k : Int).toNat < a.length by omega, ?_⟩
  intro _; refine ⟨show 0 ≤ (k : Int) ∧ (k : Int) < (b.length : Int) by omega, ?_⟩
  intro _; refine ⟨show 0 + (k : Int).toNat < b.length by omega, ?_⟩
  intro _; refine ⟨fun g => ?_, fun g => ?_⟩
  · have g : (max (raw a k) (raw b k) != max (raw a (0 + ((k : Nat) : Int).toNat)) (raw b (0 + ((k : Nat) : Int).toNat))) = true := g
    rw [z] at g
    simp at g
  intro _; refine ⟨fun g => ?_, fun g => ?_⟩
  · exact absurd (show ((3 : Int) == 0) = true from g) (by decide)
  intro _; refine ⟨by kernel_rfl, ?_⟩
  refine ⟨⟨k + 1, by omega⟩, by show n - (k + 1) < n - k; omega, th [] 6, rfl, rfl, rfl, rfl, rfl, rfl, ?_, ?_⟩
  · (repeat' first | exact trivial | exact rfl | refine And.intro ?_ ?_)
    · show fr a b (k + 1) = decide (IntKind.i64.wrap (raw a (0 + ((k : Nat) : Int).toNat) + raw b (0 + ((k : Nat) : Int).toNat)) < -1000000000)
      rw [es]
      simp only [fr, gf, g1, Bool.false_or]
    · exact (wrap_nat k (by omega)).symm
  · (repeat' first | exact trivial | exact rfl | refine And.intro ?_ ?_)

theorem walk (w : World) (f : Int) (w_f : (Lit.int .i64 f).wf = true) (v_a : Value) (s_a : Src) (a : List Int) (cap_a : Nat) (hk_a : s_a.ks = [.int .i64]) (ha_a : s_a.ac = .ints a) (hs_a : s_a.lies w) (hn_a : s_a.at_ = none → a.length = 0) (hc_a : a.length ≤ cap_a) (hv_a : v_a = s_a.val cap_a) (hm_a : a.length ≤ maxLen) (w_a : ∀ n ∈ a, (Lit.int .i64 n).wf = true) (v_b : Value) (s_b : Src) (b : List Int) (cap_b : Nat) (hk_b : s_b.ks = [.int .i64]) (ha_b : s_b.ac = .ints b) (hs_b : s_b.lies w) (hn_b : s_b.at_ = none → b.length = 0) (hc_b : b.length ≤ cap_b) (hv_b : v_b = s_b.val cap_b) (hm_b : b.length ≤ maxLen) (w_b : ∀ n ∈ b, (Lit.int .i64 n).wf = true) :
    Calls Try.prog 7 #[.int .i64 f, v_a, v_b] w fun e w' => e = .returned (.bool true) ∧ Below w.heap.size w w' := by
  obtain ⟨at_a, ks_a, ac_a⟩ := s_a
  simp only [] at hk_a ha_a
  subst hk_a ha_a
  have h_a : a.length ≤ 9223372036854775807 := by unfold maxLen at hm_a; omega
  obtain ⟨at_b, ks_b, ac_b⟩ := s_b
  simp only [] at hk_b ha_b
  subst hk_b ha_b
  have h_b : b.length ≤ 9223372036854775807 := by unfold maxLen at hm_b; omega
  have b_f := w_f
  simp [Lit.wf, IntKind.min, IntKind.max, IntKind.signed, IntKind.bits] at b_f
  exact top_run (by kernel_rfl) (by kernel_rfl) (T := []) (fun f hf w => by
      exact (List.not_mem_nil hf).elim) (l := [⟨at_a, [.int .i64], .ints a⟩, ⟨at_b, [.int .i64], .ints b⟩]) (args := [.int .i64 f, .slc 0 1 0 a.length, .slc 1 1 0 b.length]) («as» := [.int .i64 f, Src.av 0 cap_a ⟨at_a, [.int .i64], .ints a⟩, Src.av 1 cap_b ⟨at_b, [.int .i64], .ints b⟩]) (cargs := [.int .i64 f, v_a, v_b]) w
    (fun s h => by
      rcases List.mem_cons.1 h with e | h
      · subst e; exact hs_a
      · rcases List.mem_cons.1 h with e | h
        · subst e; exact hs_b
        · exact (List.not_mem_nil h).elim)
    (Cvs.cons mk_int (Cvs.cons (src_cv (s := ⟨at_a, [.int .i64], .ints a⟩) rfl 1 hc_a hn_a) (Cvs.cons (src_cv (s := ⟨at_b, [.int .i64], .ints b⟩) rfl 1 hc_b hn_b) Cvs.nil)))
    (by simp only [Go.Vm.convs, Go.Vm.conv]; rw [src_conv (j := 0) (s := ⟨at_a, [.int .i64], .ints a⟩) rfl, src_conv (j := 1) (s := ⟨at_b, [.int .i64], .ints b⟩) rfl, hv_a, hv_b])
    (law7 f a b b_f h_a h_b)

set_option maxRecDepth 100000 in
theorem lifted (os : Os) (started : os.Started) (H : Type) (enc : TypeId × Value → H) :
    ReturnsInHanded {} Try.checked os 7 .any (Rows.curveSumsSpec.pre6 enc Try.prog Try.f7 Rows.curveSumsRow.domain false) (Rows.curveSumsSpec.post enc Try.prog Try.f7 false true false false) := by
  refine returnsInHanded_of_change (C := Try.checked) own started (by kernel_rfl) Try.func7
    (ChangeSpec.witness6 (enc := enc) (C := Try.checked) false ⟨#[], #[.int .i64 0, .slice none 0 0, .slice none 0 0], []⟩ 8 (by kernel_rfl) (by kernel_rfl) (by kernel_rfl) (by kernel_rfl)) ?_
  intro W base args ds gs before hval0 hW hcnd _
  have hval : ∀ (j : Nat) t v, Try.f7.params[j]? = some t → args[j]? = some v → Value.okWide Try.prog W .any base t v := hval0
  have hW' := hW
  obtain ⟨p, q, hA0, hV, rfl, hfz, hnd⟩ := hW
  have hA : DataW.TrodAll enc Try.prog W 0 (fun _ => true) true Try.f7.params.toList args.toList ds p := hA0
  rw [Try.params7] at hA hval
  obtain ⟨v0, vs0, d0, ds0, p0, q0, hargs, rfl, rfl, h0, r0⟩ := trodAll_cons hA
  obtain ⟨v1, vs1, d1, ds1, p1, q1, rfl, rfl, rfl, h1, r1⟩ := trodAll_cons r0
  obtain ⟨v2, vs2, d2, ds2, p2, q2, rfl, rfl, rfl, h2, r2⟩ := trodAll_cons r1
  obtain ⟨rfl, rfl, rfl⟩ := trodAll_nil r2
  obtain rfl : args = #[v0, v1, v2] := by cases args; simp_all
  obtain ⟨rfl, rfl⟩ := trodVars_none hV
  obtain ⟨f, rfl, rfl, rfl, w_f⟩ := open_int Try.underlying3 (hval 0 3 v0 rfl rfl) h0
  obtain ⟨s_a, a, cap_a, hk_a, ha_a, hs_a, hn_a, hc_a, hv_a, hm_a, w_a⟩ := Go.Vm2.open_list Try.underlying23 Try.underlying3 (by kernel_rfl) (hval 1 23 v1 rfl rfl) h1
  have hlt1 : ∀ x ∈ p1, x.block < W.heap.size := fun x hx => by simpa using hW'.lt x (by simp [hx])
  obtain ⟨s_b, b, cap_b, hk_b, ha_b, hs_b, hn_b, hc_b, hv_b, hm_b, w_b⟩ := Go.Vm2.open_list Try.underlying23 Try.underlying3 (by kernel_rfl) (hval 2 23 v2 rfl rfl) h2
  have hlt2 : ∀ x ∈ p2, x.block < W.heap.size := fun x hx => by simpa using hW'.lt x (by simp [hx])
  clear hA0 hval0
  refine (walk W f w_f v1 s_a a cap_a hk_a ha_a hs_a hn_a hc_a hv_a hm_a w_a v2 s_b b cap_b hk_b ha_b hs_b hn_b hc_b hv_b hm_b w_b).mono fun e W' ⟨he, hg⟩ => ?_
  subst he
  exact ⟨_, rfl, _, _, _, [], _, [], hW', trodAll_cons_mk (shut_bool Try.underlying4 _) trodAll_mk0, (trodAll_cons_mk (shut_int Try.underlying3 w_f) (trodAll_cons_mk (Below.trod laidOut (by kernel_rfl) (of_decide_eq_true (by kernel_rfl)) h1 hg hlt1) (trodAll_cons_mk (Below.trod laidOut (by kernel_rfl) (of_decide_eq_true (by kernel_rfl)) h2 hg hlt2) trodAll_mk0))), rfl, hg.frame _, fun h => by cases h⟩

theorem over : Rows.curveSumsRow.holds Try.pinned (OpenSpec.ofChange Rows.curveSumsSpec) :=
  OpenClaim.holds_of_wide 7 Try.f7 rfl rfl rfl rfl rfl rfl rfl ⟨rfl, rfl, rfl, rfl, rfl⟩ rfl rfl rfl rfl rfl (by kernel_rfl) Try.func7 (by kernel_rfl)
    (of_decide_eq_true (by kernel_rfl)) (by unfold Func.isWrapper; first | (rw [if_pos (by decide +kernel)]; kernel_rfl) | (rw [if_neg (by decide +kernel)]; exact ⟨rfl, rfl⟩))
    (fun os started H enc _ => lifted os started H enc)

/-- the statement -/
theorem proved : Rows.CurveSumsSaid :=
  over
#print axioms proved
end Go.Proofs.Ytjcfmocpmjeddaa.curveSums
