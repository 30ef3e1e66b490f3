/-
  Floats that are placed: contracts of package floats and of its reference. No conditions beyond those that its theorems name.
-/
import Derived.Test.YtfkpnondknfmeaaRows
import Derived.Test.YtfkpnondknfmeaaVwOpen2
import Derived.Test.YtfkpnondknfmeaaVwRules7
import Derived.Test.YtfkpnondknfmeaaVmFast3
import Derived.WalkKit
import Derived.ProofKit
import Derived.OpenShut
import Derived.Carry
import Derived.Test.YtfkpnondknfmeaaSrtA
namespace Go.Proofs.Ytfkpnondknfmeaa.floatsApart
open Go.ChangeShapes Go.WideShapes Go.ChangeAt Go.RowKit
open Go.Vm (Facts Val Sound)
open Go.Vm2
set_option linter.unusedVariables false
set_option linter.unusedSectionVars false

set_option maxRecDepth 100000
theorem wrapU (n : Int) (h : 0 ≤ n ∧ n < 18446744073709551616) : IntKind.u64.wrap n = n := by
  have : IntKind.u64.wrap n = n % 18446744073709551616 := by simp [IntKind.wrap, IntKind.bits, IntKind.signed]
  rw [this]; omega
theorem wrapB (n : Int) (h : 0 ≤ n ∧ n < 256) : IntKind.u8.wrap n = n := by
  have : IntKind.u8.wrap n = n % 256 := by simp [IntKind.wrap, IntKind.bits, IntKind.signed]
  rw [this]; omega
def tab8 : List UInt8 := [0, 1, 2, 2, 3, 3, 3, 3, 4, 4, 4, 4, 4, 4, 4, 4, 5, 5, 5, 5, 5, 5, 5, 5, 5, 5, 5, 5, 5, 5, 5, 5, 6, 6, 6, 6, 6, 6, 6, 6, 6, 6, 6, 6, 6, 6, 6, 6, 6, 6, 6, 6, 6, 6, 6, 6, 6, 6, 6, 6, 6, 6, 6, 6, 7, 7, 7, 7, 7, 7, 7, 7, 7, 7, 7, 7, 7, 7, 7, 7, 7, 7, 7, 7, 7, 7, 7, 7, 7, 7, 7, 7, 7, 7, 7, 7, 7, 7, 7, 7, 7, 7, 7, 7, 7, 7, 7, 7, 7, 7, 7, 7, 7, 7, 7, 7, 7, 7, 7, 7, 7, 7, 7, 7, 7, 7, 7, 7, 8, 8, 8, 8, 8, 8, 8, 8, 8, 8, 8, 8, 8, 8, 8, 8, 8, 8, 8, 8, 8, 8, 8, 8, 8, 8, 8, 8, 8, 8, 8, 8, 8, 8, 8, 8, 8, 8, 8, 8, 8, 8, 8, 8, 8, 8, 8, 8, 8, 8, 8, 8, 8, 8, 8, 8, 8, 8, 8, 8, 8, 8, 8, 8, 8, 8, 8, 8, 8, 8, 8, 8, 8, 8, 8, 8, 8, 8, 8, 8, 8, 8, 8, 8, 8, 8, 8, 8, 8, 8, 8, 8, 8, 8, 8, 8, 8, 8, 8, 8, 8, 8, 8, 8, 8, 8, 8, 8, 8, 8, 8, 8, 8, 8, 8, 8, 8, 8, 8, 8, 8, 8, 8, 8, 8, 8, 8, 8]
theorem tab8_ok : ∀ x, x < 256 → (tab8.getD x 0).toNat ≤ 8 ∧ (1 ≤ x → x < 2 ^ (tab8.getD x 0).toNat ∧ 2 ^ (tab8.getD x 0).toNat ≤ 2 * x) := by decide +kernel
theorem len64_ok (n : Nat) (hn : n ≤ 4096) : SemF Try.prog 49 [.int .u64 n] ⟨0, 0, []⟩ (fun v _ => (∃ k : Nat, k ≤ 16 ∧ (1 ≤ n → n < 2 ^ k ∧ 2 ^ k ≤ 2 * n) ∧ v = .int .i64 k) ∧ nameless v = true) := by
  refine enter tt_ok Try.func49 (nt := 25) (cd := body Try.f49) rfl rfl rfl rfl ?_
  intro _; refine ⟨fun g => ?_, fun g => ?_⟩
  · have g := of_decide_eq_true (show decide ((n : Int) ≥ 4294967296) = true from g)
    omega
  intro _; refine ⟨fun g => ?_, fun g => ?_⟩
  · have g := of_decide_eq_true (show decide ((n : Int) ≥ 65536) = true from g)
    omega
  intro _; refine ⟨fun g => ?_, fun g => ?_⟩
  · have g := of_decide_eq_true (show decide ((n : Int) ≥ 256) = true from g)
    have e1 : (n : Int).fdiv (2 ^ (min (8 : Int).toNat 64)) = ((n / 256 : Nat) : Int) := by
      show (n : Int).fdiv 256 = _
      rw [Int.fdiv_eq_ediv_of_nonneg _ (by omega)]; omega
    have e2 : IntKind.u8.wrap ((n : Int).fdiv (2 ^ (min (8 : Int).toNat 64))) = ((n / 256 : Nat) : Int) := by rw [e1]; exact wrapB _ ⟨by omega, by omega⟩
    intro _; refine ⟨by omega, ?_⟩
    intro _; refine ⟨show 0 ≤ IntKind.u8.wrap ((n : Int).fdiv (2 ^ (min (8 : Int).toNat 64))) ∧ IntKind.u8.wrap ((n : Int).fdiv (2 ^ (min (8 : Int).toNat 64))) < (tab8.length : Int) by
      rw [e2]; show _ ∧ _ < (256 : Int); omega, ?_⟩
    intro _
    obtain ⟨t1, t2⟩ := tab8_ok (n / 256) (by omega)
    have t2 := t2 (by omega)
    obtain ⟨k, hk⟩ : ∃ k, k = (tab8.getD (n / 256) 0).toNat := ⟨_, rfl⟩
    rw [← hk] at t1 t2
    refine ⟨⟨8 + k, by omega, fun _ => ?_, ?_⟩, rfl⟩
    · rw [Nat.pow_add]
      constructor
      · show n < 256 * 2 ^ k
        omega
      · show 256 * 2 ^ k ≤ 2 * n
        omega
    · show V.int .i64 (IntKind.i64.wrap (IntKind.i64.wrap (0 + 8) + IntKind.i64.wrap (((tab8.getD (IntKind.u8.wrap ((n : Int).fdiv (2 ^ (min (8 : Int).toNat 64)))).toNat 0).toNat : Nat) : Int))) = V.int .i64 ((8 + k : Nat) : Int)
      rw [e2, show (((n / 256 : Nat) : Int)).toNat = n / 256 from rfl, ← hk, wrapS (0 + 8) ⟨by omega, by omega⟩, wrapS (k : Int) ⟨by omega, by omega⟩, wrapS _ ⟨by omega, by omega⟩]
      congr 1
  have g := of_decide_eq_false (show decide ((n : Int) ≥ 256) = false from g)
  have e2 : IntKind.u8.wrap (n : Int) = ((n : Nat) : Int) := wrapB _ ⟨by omega, by omega⟩
  intro _; refine ⟨show 0 ≤ IntKind.u8.wrap (n : Int) ∧ IntKind.u8.wrap (n : Int) < (tab8.length : Int) by
    rw [e2]; show _ ∧ _ < (256 : Int); omega, ?_⟩
  intro _
  obtain ⟨t1, t2⟩ := tab8_ok n (by omega)
  obtain ⟨k, hk⟩ : ∃ k, k = (tab8.getD n 0).toNat := ⟨_, rfl⟩
  rw [← hk] at t1 t2
  refine ⟨⟨k, by omega, t2, ?_⟩, rfl⟩
  show V.int .i64 (IntKind.i64.wrap (0 + IntKind.i64.wrap (((tab8.getD (IntKind.u8.wrap (n : Int)).toNat 0).toNat : Nat) : Int))) = V.int .i64 (k : Int)
  rw [e2, show ((n : Nat) : Int).toNat = n from rfl, ← hk, wrapS (k : Int) ⟨by omega, by omega⟩, wrapS _ ⟨by omega, by omega⟩, Int.zero_add]
theorem len_ok (n : Nat) (hn : n ≤ 4096) : SemF Try.prog 37 [.int .u64 n] ⟨0, 0, []⟩ (fun v _ => (∃ k : Nat, k ≤ 16 ∧ (1 ≤ n → n < 2 ^ k ∧ 2 ^ k ≤ 2 * n) ∧ v = .int .i64 k) ∧ nameless v = true) := by
  refine enter tt_ok Try.func37 (nt := 8) (cd := body Try.f37) rfl rfl rfl rfl ?_
  intro _
  refine call_pure [] (len64_ok n hn) rfl rfl rfl ?_ ?_ ?_
  · (repeat' first | exact trivial | exact rfl | refine And.intro ?_ ?_)
  · (repeat' first | exact trivial | exact rfl | refine And.intro ?_ ?_)
  intro v hv _
  obtain ⟨k, k1, k2, rfl⟩ := hv
  intro _
  exact ⟨⟨k, k1, k2, rfl⟩, rfl⟩
theorem npow_ok (n : Nat) (h1 : 1 ≤ n) (hn : n ≤ 4096) : SemF Try.prog 51 [.int .i64 n] ⟨0, 0, []⟩ (fun v _ => (∃ m : Nat, (n ≤ m ∧ m ≤ 2 * n) ∧ v = .int .u64 m) ∧ nameless v = true) := by
  refine enter tt_ok Try.func51 (nt := 7) (cd := body Try.f51) rfl rfl rfl rfl ?_
  intro _
  refine call_pure [] (len_ok n hn) rfl rfl rfl ?_ ?_ ?_
  · (repeat' first | exact trivial | exact rfl | refine And.intro ?_ ?_)
  · (repeat' first | exact trivial | exact rfl | refine And.intro ?_ ?_)
    exact (wrapU (n : Int) ⟨by omega, by omega⟩).symm
  intro v hv _
  obtain ⟨k, k1, k2, rfl⟩ := hv
  obtain ⟨k3, k4⟩ := k2 h1
  intro _; refine ⟨by omega, ?_⟩
  intro _
  refine ⟨⟨2 ^ k, by omega, ?_⟩, rfl⟩
  have : min (k : Int).toNat 64 = k := by omega
  show V.int .u64 (IntKind.u64.wrap (1 * 2 ^ (min (k : Int).toNat 64))) = V.int .u64 ((2 ^ k : Nat) : Int)
  rw [this, Int.one_mul]
  have e : ((2 : Int) ^ k) = ((2 ^ k : Nat) : Int) := by rw [Int.natCast_pow]; rfl
  rw [e, wrapU _ ⟨by omega, by omega⟩]
theorem next_ok (s : Int) : SemF Try.prog 52 [.ptr 0 0] ⟨1, 0, [(0, .cells [.int .u64 s])]⟩ (fun v h' => ∃ s' : Int, v = .int .u64 s' ∧ Go.Vm2.look h'.l 0 = some (.cells [.int .u64 s'])) := by
  refine enter tt_ok Try.func52 (nt := 33) (cd := body Try.f52) rfl rfl rfl rfl ?_
  intro _; refine ⟨by omega, ?_⟩
  intro _; refine ⟨by kernel_rfl, ?_⟩
  intro _; refine ⟨by omega, ?_⟩
  intro _; refine ⟨by kernel_rfl, ?_⟩
  intro _; refine ⟨by omega, ?_⟩
  intro _; refine ⟨by kernel_rfl, ?_⟩
  intro _
  exact ⟨_, rfl, rfl⟩
theorem and_bd (x m : Int) (hm : 0 ≤ m ∧ m < 18446744073709551616) : 0 ≤ Go.Vm.arith .and .u64 x m ∧ Go.Vm.arith .and .u64 x m ≤ m := by
  unfold Go.Vm.arith
  have h1 : ((BitVec.ofInt IntKind.u64.bits x &&& BitVec.ofInt IntKind.u64.bits m).toNat : Int) ≤ m := by
    rw [BitVec.toNat_and]
    have h2 := Nat.and_le_right (n := (BitVec.ofInt IntKind.u64.bits x).toNat) (m := (BitVec.ofInt IntKind.u64.bits m).toNat)
    have h3 : ((BitVec.ofInt IntKind.u64.bits m).toNat : Int) = m := by
      rw [BitVec.toNat_ofInt]
      show (((m % (2 ^ 64 : Nat)).toNat : Nat) : Int) = m
      have : ((2 ^ 64 : Nat) : Int) = 18446744073709551616 := rfl
      rw [this, Int.emod_eq_of_lt hm.1 hm.2]; omega
    omega
  have h0 : (0 : Int) ≤ ((BitVec.ofInt IntKind.u64.bits x &&& BitVec.ofInt IntKind.u64.bits m).toNat : Int) := Int.natCast_nonneg _
  rw [wrapU _ ⟨h0, by omega⟩]
  exact ⟨h0, h1⟩
theorem mut1c {y : Nat} {s s' : Int} {h' : H} (hd : Go.Vm2.look h'.l 0 = some (.cells [.int .u64 s'])) : mutNew [(0, some y)] h'.l [(0, .cells [.int .u64 s])] = some [(y, .cells [.int .u64 s'])] := by
  have e0 : Go.Vm2.look [((0 : Nat), some y)] 0 = some (some y) := rfl
  simp [mutNew, Ob.own, hd, e0, plainO, namelesss, nameless]
theorem break_ok (l : List Int) (a b : Nat) (hab : a + 12 < b) (hb : b ≤ l.length) (hl : l.length ≤ 4096) : SemF Try.prog 41 [.grw 0 l.length, .int .i64 a, .int .i64 b] ⟨1, 0, DA l⟩ (fun v h' => ∃ l', Pm a b l l' ∧ v = .tup [] ∧ Dat l' h') := by
  obtain ⟨n, hn⟩ : ∃ n, n = b - a := ⟨_, rfl⟩
  have e0 : IntKind.i64.wrap ((b : Int) - (a : Int)) = ((n : Nat) : Int) := by rw [wrapS _ ⟨by omega, by omega⟩]; omega
  obtain ⟨q, hq⟩ : ∃ q, q = n / 4 := ⟨_, rfl⟩
  have eq4 : IntKind.i64.wrap ((IntKind.i64.wrap ((b : Int) - (a : Int))).tdiv 4) = ((q : Nat) : Int) := by
    rw [e0, Int.tdiv_eq_ediv_of_nonneg (by omega), wrapS _ ⟨by omega, by omega⟩]; omega
  have ej : IntKind.i64.wrap ((a : Int) + IntKind.i64.wrap (IntKind.i64.wrap ((IntKind.i64.wrap ((b : Int) - (a : Int))).tdiv 4) * 2)) = ((a + 2 * q : Nat) : Int) := by
    rw [eq4, wrapS ((q : Int) * 2) ⟨by omega, by omega⟩, wrapS _ ⟨by omega, by omega⟩]; omega
  refine enter tt_ok Try.func41 (nt := 65) (cd := body Try.f41) rfl rfl rfl rfl ?_
  intro _; refine ⟨fun g => ?_, fun g => ?_⟩
  rotate_left
  · have g := of_decide_eq_false (show decide (IntKind.i64.wrap ((b : Int) - (a : Int)) ≥ 8) = false from g)
    rw [e0] at g
    omega
  intro _
  refine call_pure [] (npow_ok n (by omega) (by omega)) rfl rfl rfl ?_ ?_ ?_
  · (repeat' first | exact trivial | exact rfl | refine And.intro ?_ ?_)
  · (repeat' first | exact trivial | exact rfl | refine And.intro ?_ ?_)
    exact e0.symm
  intro v hv _
  obtain ⟨m, hm, rfl⟩ := hv
  intro _; refine ⟨by omega, ?_⟩
  intro _
  refine loop2 tt_ok [9] [0, 1] 2 (fun x : { x : Nat × List Int × Int // (a + 2 * q ≤ x.1 + 1 ∧ x.1 ≤ a + 2 * q + 2) ∧ Pm a b l x.2.1 } => [(9, .int .i64 (x.1.1 : Nat))]) (fun x => [(0, .arr [.int .i64] .grow (.ints x.1.2.1)), (1, .cells [.int .u64 x.1.2.2])]) (fun x => a + 2 * q + 2 - x.1.1) ⟨(a + 2 * q - 1, l, IntKind.u64.wrap (IntKind.i64.wrap ((b : Int) - (a : Int)))), ⟨by show a + 2 * q ≤ a + 2 * q - 1 + 1; omega, by show a + 2 * q - 1 ≤ _; omega⟩, Pm.refl _ _ _⟩ ?_
  intro _
  refine ⟨⟨th [] 2, rfl, rfl, rfl, rfl, rfl, rfl, ?_, ?_⟩, ?_⟩
  · (repeat' first | exact trivial | exact rfl | refine And.intro ?_ ?_)
    show ((a + 2 * q - 1 : Nat) : Int) = IntKind.i64.wrap (IntKind.i64.wrap ((a : Int) + IntKind.i64.wrap (IntKind.i64.wrap ((IntKind.i64.wrap ((b : Int) - (a : Int))).tdiv 4) * 2)) - 1)
    rw [ej, wrapS _ ⟨by omega, by omega⟩]; omega
  · (repeat' first | exact trivial | exact rfl | refine And.intro ?_ ?_)
  intro ⟨⟨i, c, s⟩, ⟨hi1, hi2⟩, hc⟩
  have hi1 : a + 2 * q ≤ i + 1 := hi1
  have hi2 : i ≤ a + 2 * q + 2 := hi2
  have hc : Pm a b l c := hc
  have hcl : c.length = l.length := hc.len
  intro _; refine ⟨by omega, ?_⟩
  intro _; refine ⟨fun g => ?_, fun g => ?_⟩
  rotate_left
  · intro _
    exact ⟨c, hc, rfl, rfl⟩
  have g := of_decide_eq_true (show decide ((i : Int) ≤ IntKind.i64.wrap (IntKind.i64.wrap ((a : Int) + IntKind.i64.wrap (IntKind.i64.wrap ((IntKind.i64.wrap ((b : Int) - (a : Int))).tdiv 4) * 2)) + 1)) = true from g)
  rw [ej, wrapS _ ⟨by omega, by omega⟩] at g
  intro _
  refine call_mut [(0, some 1)] (next_ok s) rfl rfl rfl rfl ?_ ?_ ?_
  · (repeat' first | exact trivial | exact rfl | refine And.intro ?_ ?_)
  · (repeat' first | exact trivial | exact rfl | refine And.intro ?_ ?_)
  intro v h' ⟨s', hv, hd⟩
  subst hv
  refine ⟨_, mut1c hd, rfl, ?_⟩
  have em : IntKind.u64.wrap ((m : Int) - 1) = (m : Int) - 1 := wrapU _ ⟨by omega, by omega⟩
  obtain ⟨b1, b2⟩ := and_bd s' ((m : Int) - 1) ⟨by omega, by omega⟩
  obtain ⟨o, ho⟩ : ∃ o : Nat, IntKind.i64.wrap (Go.Vm.arith .and .u64 s' (IntKind.u64.wrap ((m : Int) - 1))) = (o : Int) := by
    rw [em, wrapS _ ⟨by omega, by omega⟩]
    exact ⟨(Go.Vm.arith .and .u64 s' ((m : Int) - 1)).toNat, by omega⟩
  have ho2 : (o : Int) ≤ (m : Int) - 1 := by
    rw [← ho, em, wrapS _ ⟨by omega, by omega⟩]; exact b2
  intro _; refine ⟨fun g => ?_, fun g => ?_⟩
  · have g2 := of_decide_eq_true (show decide (IntKind.i64.wrap (Go.Vm.arith .and .u64 s' (IntKind.u64.wrap ((m : Int) - 1))) ≥ IntKind.i64.wrap ((b : Int) - (a : Int))) = true from g)
    rw [ho, e0] at g2
    obtain ⟨o', eo1⟩ : ∃ o', o' = o - n := ⟨_, rfl⟩
    have eo' : IntKind.i64.wrap (IntKind.i64.wrap (Go.Vm.arith .and .u64 s' (IntKind.u64.wrap ((m : Int) - 1))) - IntKind.i64.wrap ((b : Int) - (a : Int))) = ((o' : Nat) : Int) := by rw [ho, e0, wrapS _ ⟨by omega, by omega⟩]; omega
    have eQ : IntKind.i64.wrap ((a : Int) + IntKind.i64.wrap (IntKind.i64.wrap (Go.Vm.arith .and .u64 s' (IntKind.u64.wrap ((m : Int) - 1))) - IntKind.i64.wrap ((b : Int) - (a : Int)))) = ((a + o' : Nat) : Int) := by rw [eo', wrapS _ ⟨by omega, by omega⟩]; omega
    have nQ : (IntKind.i64.wrap ((a : Int) + IntKind.i64.wrap (IntKind.i64.wrap (Go.Vm.arith .and .u64 s' (IntKind.u64.wrap ((m : Int) - 1))) - IntKind.i64.wrap ((b : Int) - (a : Int))))).toNat = a + o' := by rw [eQ]; rfl
    have iP : 0 ≤ (i : Int) ∧ (i : Int) < (l.length : Int) := by omega
    have iQ : 0 ≤ IntKind.i64.wrap ((a : Int) + IntKind.i64.wrap (IntKind.i64.wrap (Go.Vm.arith .and .u64 s' (IntKind.u64.wrap ((m : Int) - 1))) - IntKind.i64.wrap ((b : Int) - (a : Int)))) ∧ IntKind.i64.wrap ((a : Int) + IntKind.i64.wrap (IntKind.i64.wrap (Go.Vm.arith .and .u64 s' (IntKind.u64.wrap ((m : Int) - 1))) - IntKind.i64.wrap ((b : Int) - (a : Int)))) < (l.length : Int) := by rw [eQ]; omega
    have jP : (i : Int).toNat < c.length := by omega
    have jQ : (IntKind.i64.wrap ((a : Int) + IntKind.i64.wrap (IntKind.i64.wrap (Go.Vm.arith .and .u64 s' (IntKind.u64.wrap ((m : Int) - 1))) - IntKind.i64.wrap ((b : Int) - (a : Int))))).toNat < c.length := by rw [nQ]; omega
    intro _; refine ⟨iQ, ?_⟩
    intro _; refine ⟨jQ, ?_⟩
    intro _; refine ⟨iP, ?_⟩
    intro _; refine ⟨jP, ?_⟩
    intro _; refine ⟨iP, ?_⟩
    intro _; refine ⟨jP, ?_⟩
    intro _; refine ⟨iQ, ?_⟩
    intro _; refine ⟨show (IntKind.i64.wrap ((a : Int) + IntKind.i64.wrap (IntKind.i64.wrap (Go.Vm.arith .and .u64 s' (IntKind.u64.wrap ((m : Int) - 1))) - IntKind.i64.wrap ((b : Int) - (a : Int))))).toNat < (c.set _ _).length by rw [List.length_set]; exact jQ, ?_⟩
    intro _; refine ⟨by kernel_rfl, ?_⟩
    refine ⟨⟨(i + 1, sw c i (a + o'), s'), ⟨by show a + 2 * q ≤ i + 1 + 1; omega, by show i + 1 ≤ a + 2 * q + 2; omega⟩, hc.trans (sw_pm ⟨by omega, by omega⟩ ⟨by omega, by omega⟩ (by omega))⟩, by show a + 2 * q + 2 - (i + 1) < a + 2 * q + 2 - i; omega, th [] 2, rfl, rfl, rfl, rfl, rfl, rfl, ?_, ?_⟩
    · (repeat' first | exact trivial | exact rfl | refine And.intro ?_ ?_)
      show ((i + 1 : Nat) : Int) = IntKind.i64.wrap ((i : Int) + 1)
      rw [wrapS _ ⟨by omega, by omega⟩]; omega
    · (repeat' first | exact trivial | exact rfl | refine And.intro ?_ ?_)
      show sw c i (a + o') = (c.set ((i : Nat) : Int).toNat (c.getD (IntKind.i64.wrap ((a : Int) + IntKind.i64.wrap (IntKind.i64.wrap (Go.Vm.arith .and .u64 s' (IntKind.u64.wrap ((m : Int) - 1))) - IntKind.i64.wrap ((b : Int) - (a : Int))))).toNat 0)).set (IntKind.i64.wrap ((a : Int) + IntKind.i64.wrap (IntKind.i64.wrap (Go.Vm.arith .and .u64 s' (IntKind.u64.wrap ((m : Int) - 1))) - IntKind.i64.wrap ((b : Int) - (a : Int))))).toNat (c.getD ((i : Nat) : Int).toNat 0)
      rw [nQ]; rfl
  have g2 := of_decide_eq_false (show decide (IntKind.i64.wrap (Go.Vm.arith .and .u64 s' (IntKind.u64.wrap ((m : Int) - 1))) ≥ IntKind.i64.wrap ((b : Int) - (a : Int))) = false from g)
  rw [ho, e0] at g2
  obtain ⟨o', eo1⟩ : ∃ o', o' = o := ⟨_, rfl⟩
  have eo' : IntKind.i64.wrap (Go.Vm.arith .and .u64 s' (IntKind.u64.wrap ((m : Int) - 1))) = ((o' : Nat) : Int) := by rw [ho, eo1]
  have eQ : IntKind.i64.wrap ((a : Int) + IntKind.i64.wrap (Go.Vm.arith .and .u64 s' (IntKind.u64.wrap ((m : Int) - 1)))) = ((a + o' : Nat) : Int) := by rw [eo', wrapS _ ⟨by omega, by omega⟩]; omega
  have nQ : (IntKind.i64.wrap ((a : Int) + IntKind.i64.wrap (Go.Vm.arith .and .u64 s' (IntKind.u64.wrap ((m : Int) - 1))))).toNat = a + o' := by rw [eQ]; rfl
  have iP : 0 ≤ (i : Int) ∧ (i : Int) < (l.length : Int) := by omega
  have iQ : 0 ≤ IntKind.i64.wrap ((a : Int) + IntKind.i64.wrap (Go.Vm.arith .and .u64 s' (IntKind.u64.wrap ((m : Int) - 1)))) ∧ IntKind.i64.wrap ((a : Int) + IntKind.i64.wrap (Go.Vm.arith .and .u64 s' (IntKind.u64.wrap ((m : Int) - 1)))) < (l.length : Int) := by rw [eQ]; omega
  have jP : (i : Int).toNat < c.length := by omega
  have jQ : (IntKind.i64.wrap ((a : Int) + IntKind.i64.wrap (Go.Vm.arith .and .u64 s' (IntKind.u64.wrap ((m : Int) - 1))))).toNat < c.length := by rw [nQ]; omega
  intro _; refine ⟨iQ, ?_⟩
  intro _; refine ⟨jQ, ?_⟩
  intro _; refine ⟨iP, ?_⟩
  intro _; refine ⟨jP, ?_⟩
  intro _; refine ⟨iP, ?_⟩
  intro _; refine ⟨jP, ?_⟩
  intro _; refine ⟨iQ, ?_⟩
  intro _; refine ⟨show (IntKind.i64.wrap ((a : Int) + IntKind.i64.wrap (Go.Vm.arith .and .u64 s' (IntKind.u64.wrap ((m : Int) - 1))))).toNat < (c.set _ _).length by rw [List.length_set]; exact jQ, ?_⟩
  intro _; refine ⟨by kernel_rfl, ?_⟩
  refine ⟨⟨(i + 1, sw c i (a + o'), s'), ⟨by show a + 2 * q ≤ i + 1 + 1; omega, by show i + 1 ≤ a + 2 * q + 2; omega⟩, hc.trans (sw_pm ⟨by omega, by omega⟩ ⟨by omega, by omega⟩ (by omega))⟩, by show a + 2 * q + 2 - (i + 1) < a + 2 * q + 2 - i; omega, th [] 2, rfl, rfl, rfl, rfl, rfl, rfl, ?_, ?_⟩
  · (repeat' first | exact trivial | exact rfl | refine And.intro ?_ ?_)
    show ((i + 1 : Nat) : Int) = IntKind.i64.wrap ((i : Int) + 1)
    rw [wrapS _ ⟨by omega, by omega⟩]; omega
  · (repeat' first | exact trivial | exact rfl | refine And.intro ?_ ?_)
    show sw c i (a + o') = (c.set ((i : Nat) : Int).toNat (c.getD (IntKind.i64.wrap ((a : Int) + IntKind.i64.wrap (Go.Vm.arith .and .u64 s' (IntKind.u64.wrap ((m : Int) - 1))))).toNat 0)).set (IntKind.i64.wrap ((a : Int) + IntKind.i64.wrap (Go.Vm.arith .and .u64 s' (IntKind.u64.wrap ((m : Int) - 1))))).toNat (c.getD ((i : Nat) : Int).toNat 0)
    rw [nQ]; rfl
def Lb (l : List Int) (a b : Nat) : Prop := 0 < a → ∀ k, a ≤ k → k < b → at' l (a - 1) ≤ at' l k
theorem Lb.pm {l c : List Int} {a b : Nat} (h : Lb l a b) (hp : Pm a b l c) (hab : a ≤ b) (hb : b ≤ l.length) : Lb c a b := fun h0 k h1 h2 => by
  rw [hp.out (a - 1) (.inl (by omega))]
  exact hp.all hab hb (fun x => at' l (a - 1) ≤ x) (h h0) k h1 h2
theorem Srt.ext {l : List Int} {a i : Nat} (h : Srt l a i) (g : at' l (i - 1) ≤ at' l i) : Srt l a (i + 1) := h.ins.done (.inr g)
theorem Srt.sw {l : List Int} {a i p q : Nat} (h : Srt l a i) (hp : i ≤ p) (hq : i ≤ q) (hpl : p < l.length) (hql : q < l.length) : Srt (sw l p q) a i := fun x y h1 h2 h3 => by
  rw [at_sw hpl hql, at_sw hpl hql, if_neg (by omega), if_neg (by omega), if_neg (by omega), if_neg (by omega)]
  exact h x y h1 h2 h3
theorem Srt.less {l : List Int} {a i j : Nat} (h : Srt l a i) (hj : j ≤ i) : Srt l a j := fun x y h1 h2 h3 => h x y h1 h2 (by omega)
set_option maxHeartbeats 1000000 in
theorem pins_ok (l : List Int) (a b : Nat) (hab : a + 12 < b) (hb : b ≤ l.length) (hl : l.length ≤ 4096) (hlb : Lb l a b) : SemF Try.prog 44 [.grw 0 l.length, .int .i64 a, .int .i64 b] ⟨1, 0, DA l⟩ (fun v h' => ∃ l' q, (Pm a b l l' ∧ (q = true → Srt l' a b)) ∧ v = .bool q ∧ Dat l' h') := by
  refine enter tt_ok Try.func44 (nt := 133) (cd := body Try.f44) rfl rfl rfl rfl ?_
  intro _
  refine loop2 tt_ok [7, 8] [0] 1 (fun x : { x : Nat × Nat × List Int // (a + 1 ≤ x.1 ∧ x.1 ≤ b) ∧ Pm a b l x.2.2 ∧ Srt x.2.2 a x.1 ∧ x.2.1 ≤ 5 } => [(7, .int .i64 (x.1.1 : Nat)), (8, .int .i64 (x.1.2.1 : Nat))]) (fun x => DA x.1.2.2) (fun x => 5 - x.1.2.1) ⟨(a + 1, 0, l), ⟨Nat.le_refl _, by show a + 1 ≤ b; omega⟩, Pm.refl _ _ _, fun p q h1 h2 h3 => by omega, by show 0 ≤ 5; omega⟩ ?_
  intro _
  refine ⟨⟨th [] 1, rfl, rfl, rfl, rfl, rfl, rfl, ?_, ?_⟩, ?_⟩
  · (repeat' first | exact trivial | exact rfl | refine And.intro ?_ ?_)
    show ((a + 1 : Nat) : Int) = IntKind.i64.wrap ((a : Int) + 1)
    rw [wrapS _ ⟨by omega, by omega⟩]; omega
  · (repeat' first | exact trivial | exact rfl | refine And.intro ?_ ?_)
  intro ⟨⟨i, t, c⟩, ⟨hi1, hi2⟩, hc, hs, ht⟩
  have hi1 : a + 1 ≤ i := hi1
  have hi2 : i ≤ b := hi2
  have hc : Pm a b l c := hc
  have hcl : c.length = l.length := hc.len
  have hs : Srt c a i := hs
  have ht : t ≤ 5 := ht
  intro _; refine ⟨fun g => ?_, fun g => ?_⟩
  rotate_left
  · intro _
    exact ⟨c, false, ⟨hc, fun h => by cases h⟩, rfl, rfl⟩
  have gt := of_decide_eq_true (show decide ((t : Int) < 5) = true from g)
  intro _
  refine meet2 [7] [0] 1 (.exit 2) (fun x : { x : Nat // (a + 1 ≤ x ∧ x ≤ b) ∧ Srt c a x ∧ (x = b ∨ at' c x < at' c (x - 1)) } => [(7, .int .i64 (x.1 : Nat))]) (fun _ => DA c) ?_
  intro _
  refine ⟨?_, fun ⟨i2, ⟨hi1, hi2⟩, hs, hx⟩ => ?_⟩
  · refine loop2 tt_ok [7] [0] 1 (fun x : { x : Nat // (a + 1 ≤ x ∧ x ≤ b) ∧ Srt c a x } => [(7, .int .i64 (x.1 : Nat))]) (fun _ => DA c) (fun x => b - x.1) ⟨i, ⟨hi1, hi2⟩, hs⟩ ?_
    intro _
    refine ⟨⟨th [] 1, rfl, rfl, rfl, rfl, rfl, rfl, ?_, ?_⟩, ?_⟩
    · (repeat' first | exact trivial | exact rfl | refine And.intro ?_ ?_)
    · (repeat' first | exact trivial | exact rfl | refine And.intro ?_ ?_)
    intro ⟨k, ⟨hk1, hk2⟩, hks⟩
    intro _; refine ⟨fun g => ?_, fun g => ?_⟩
    rotate_left
    · have g := of_decide_eq_false (show decide ((k : Int) < (b : Int)) = false from g)
      intro _; refine ⟨by kernel_rfl, ?_⟩
      refine Or.inl ⟨⟨k, ⟨hk1, hk2⟩, hks, .inl (by omega)⟩, rfl, th [] 1, rfl, rfl, rfl, rfl, rfl, rfl, ?_, ?_⟩
      · (repeat' first | exact trivial | exact rfl | refine And.intro ?_ ?_)
      · (repeat' first | exact trivial | exact rfl | refine And.intro ?_ ?_)
    have g := of_decide_eq_true (show decide ((k : Int) < (b : Int)) = true from g)
    have ej : IntKind.i64.wrap ((k : Int) - 1) = (k : Int) - 1 := wrapS _ ⟨by omega, by omega⟩
    have n1 : (IntKind.i64.wrap ((k : Int) - 1)).toNat = k - 1 := by rw [ej]; omega
    have fi1 : 0 ≤ (k : Int) ∧ (k : Int) < (l.length : Int) := by omega
    have fi2 : 0 ≤ IntKind.i64.wrap ((k : Int) - 1) ∧ IntKind.i64.wrap ((k : Int) - 1) < (l.length : Int) := by rw [ej]; omega
    have fj1 : ((k : Int)).toNat < c.length := by omega
    have fj2 : (IntKind.i64.wrap ((k : Int) - 1)).toNat < c.length := by rw [n1]; omega
    intro _; refine ⟨fi1, ?_⟩
    intro _; refine ⟨fj1, ?_⟩
    intro _; refine ⟨fi2, ?_⟩
    intro _; refine ⟨fj2, ?_⟩
    intro _
    refine Or.inl ?_
    intro _
    refine call_pure [] (less_ok (at' c k) (at' c (k - 1))) rfl rfl rfl ?_ ?_ ?_
    · (repeat' first | exact trivial | exact rfl | refine And.intro ?_ ?_)
    · (repeat' first | exact trivial | exact rfl | refine And.intro ?_ ?_)
      show at' c (k - 1) = c.getD (IntKind.i64.wrap ((k : Int) - 1)).toNat 0
      rw [n1]; rfl
    intro v hv _
    subst hv
    intro _; refine ⟨by kernel_rfl, ?_⟩
    intro _; refine ⟨fun g => ?_, fun g => ?_⟩
    rotate_left
    · have g2 : (!decide (at' c k < at' c (k - 1))) = false := g
      rw [Bool.not_eq_false'] at g2
      have g2 := of_decide_eq_true g2
      refine Or.inl ⟨⟨k, ⟨hk1, hk2⟩, hks, .inr g2⟩, rfl, th [] 1, rfl, rfl, rfl, rfl, rfl, rfl, ?_, ?_⟩
      · (repeat' first | exact trivial | exact rfl | refine And.intro ?_ ?_)
      · (repeat' first | exact trivial | exact rfl | refine And.intro ?_ ?_)
    have g2 : (!decide (at' c k < at' c (k - 1))) = true := g
    rw [Bool.not_eq_true'] at g2
    have g2 := of_decide_eq_false g2
    refine ⟨⟨k + 1, ⟨by omega, by omega⟩, hks.ext (by omega)⟩, by show b - (k + 1) < b - k; omega, th [] 1, rfl, rfl, rfl, rfl, rfl, rfl, ?_, ?_⟩
    · (repeat' first | exact trivial | exact rfl | refine And.intro ?_ ?_)
      show ((k + 1 : Nat) : Int) = IntKind.i64.wrap ((k : Int) + 1)
      rw [wrapS _ ⟨by omega, by omega⟩]; omega
    · (repeat' first | exact trivial | exact rfl | refine And.intro ?_ ?_)
  have hi1 : a + 1 ≤ i2 := hi1
  have hi2 : i2 ≤ b := hi2
  have hs : Srt c a i2 := hs
  intro _; refine ⟨fun g => ?_, fun g => ?_⟩
  · have g : ((i2 : Int) == (b : Int)) = true := g
    have g := beq_iff_eq.1 g
    have e : i2 = b := by omega
    subst e
    intro _
    exact ⟨c, true, ⟨hc, fun _ => hs⟩, rfl, rfl⟩
  have g : ((i2 : Int) == (b : Int)) = false := g
  have g := beq_eq_false_iff_ne.1 g
  have hib : i2 < b := by omega
  have hlt : at' c i2 < at' c (i2 - 1) := hx.resolve_left (by omega)
  intro _; refine ⟨fun g => ?_, fun g => ?_⟩
  · intro _
    exact ⟨c, false, ⟨hc, fun h => by cases h⟩, rfl, rfl⟩
  have ej : IntKind.i64.wrap ((i2 : Int) - 1) = (i2 : Int) - 1 := wrapS _ ⟨by omega, by omega⟩
  have n1 : (IntKind.i64.wrap ((i2 : Int) - 1)).toNat = i2 - 1 := by rw [ej]; omega
  have fi1 : 0 ≤ (i2 : Int) ∧ (i2 : Int) < (l.length : Int) := by omega
  have fi2 : 0 ≤ IntKind.i64.wrap ((i2 : Int) - 1) ∧ IntKind.i64.wrap ((i2 : Int) - 1) < (l.length : Int) := by rw [ej]; omega
  have fj1 : ((i2 : Int)).toNat < c.length := by omega
  have fj2 : (IntKind.i64.wrap ((i2 : Int) - 1)).toNat < c.length := by rw [n1]; omega
  intro _; refine ⟨fi2, ?_⟩
  intro _; refine ⟨fj2, ?_⟩
  intro _; refine ⟨fi1, ?_⟩
  intro _; refine ⟨fj1, ?_⟩
  intro _; refine ⟨fi1, ?_⟩
  intro _; refine ⟨fj1, ?_⟩
  intro _; refine ⟨fi2, ?_⟩
  intro _; refine ⟨show (IntKind.i64.wrap ((i2 : Int) - 1)).toNat < (c.set _ _).length by rw [List.length_set]; exact fj2, ?_⟩
  intro _; refine ⟨by kernel_rfl, ?_⟩
  have hc1 : Pm a b l (sw c i2 (i2 - 1)) := hc.trans (sw_pm ⟨by omega, by omega⟩ ⟨by omega, by omega⟩ (by omega))
  have hs1 : Srt (sw c i2 (i2 - 1)) a (i2 - 1) := (hs.less (by omega)).sw (by omega) (by omega) (by omega) (by omega)
  have eraw : sw c i2 (i2 - 1) = (c.set ((i2 : Int)).toNat (c.getD (IntKind.i64.wrap ((i2 : Int) - 1)).toNat 0)).set (IntKind.i64.wrap ((i2 : Int) - 1)).toNat (c.getD ((i2 : Int)).toNat 0) := by rw [n1]; rfl
  obtain ⟨c1, hc1e⟩ : ∃ c1, c1 = sw c i2 (i2 - 1) := ⟨_, rfl⟩
  rw [← hc1e] at hc1 hs1
  have hc1l : c1.length = l.length := hc1.len
  have es : IntKind.i64.wrap ((i2 : Int) - (a : Int)) = (i2 : Int) - a := wrapS _ ⟨by omega, by omega⟩
  intro _; refine ⟨fun g => ?_, fun g => ?_⟩
  · have g := of_decide_eq_true (show decide (IntKind.i64.wrap ((i2 : Int) - (a : Int)) ≥ 2) = true from g)
    rw [es] at g
    intro _
    refine meet2 [9] [0] 1 (.exit 4) (fun x : { x : List Int // Pm a b l x ∧ Srt x a i2 } => []) (fun x => DA x.1) ?_
    intro _
    refine ⟨?_, fun ⟨d1, hd1, hds1⟩ => ?_⟩
    · refine loop2 tt_ok [9] [0] 1 (fun x : { x : Nat × List Int // (a ≤ x.1 ∧ x.1 ≤ i2 - 1) ∧ Pm a b l x.2 ∧ Ins x.2 a (i2 - 1) x.1 } => [(9, .int .i64 (x.1.1 : Nat))]) (fun x => DA x.1.2) (fun x => x.1.1) ⟨(i2 - 1, c1), ⟨by show a ≤ i2 - 1; omega, Nat.le_refl _⟩, hc1, hs1.ins⟩ ?_
      intro _
      refine ⟨⟨th [] 1, rfl, rfl, rfl, rfl, rfl, rfl, ?_, ?_⟩, ?_⟩
      · (repeat' first | exact trivial | exact rfl | refine And.intro ?_ ?_)
        show ((i2 - 1 : Nat) : Int) = IntKind.i64.wrap ((i2 : Int) - 1)
        rw [ej]; omega
      · (repeat' first | exact trivial | exact rfl | refine And.intro ?_ ?_)
        show c1 = _
        rw [hc1e]; exact eraw
      clear ej n1 fi1 fi2 fj1 fj2 eraw
      intro ⟨⟨j, d⟩, ⟨hj1, hj2⟩, hd, hins⟩
      have hj1 : a ≤ j := hj1
      have hj2 : j ≤ i2 - 1 := hj2
      have hd : Pm a b l d := hd
      have hdl : d.length = l.length := hd.len
      have hins : Ins d a (i2 - 1) j := hins
      have hdn : (j ≤ a ∨ at' d (j - 1) ≤ at' d j) → Srt d a i2 := fun h => by
        have := hins.done h
        rw [show i2 - 1 + 1 = i2 by omega] at this
        exact this
      have hlbd : Lb d a b := hlb.pm hd (by omega) hb
      intro _; refine ⟨fun g => ?_, fun g => ?_⟩
      rotate_left
      · have g := of_decide_eq_false (show decide ((j : Int) ≥ 1) = false from g)
        refine Or.inl ⟨⟨d, hd, hdn (.inl (by omega))⟩, rfl, th [] 1, rfl, rfl, rfl, rfl, rfl, rfl, ?_, ?_⟩
        · (repeat' first | exact trivial | exact rfl | refine And.intro ?_ ?_)
        · (repeat' first | exact trivial | exact rfl | refine And.intro ?_ ?_)
      have g := of_decide_eq_true (show decide ((j : Int) ≥ 1) = true from g)
      have ej : IntKind.i64.wrap ((j : Int) - 1) = (j : Int) - 1 := wrapS _ ⟨by omega, by omega⟩
      have n1 : (IntKind.i64.wrap ((j : Int) - 1)).toNat = j - 1 := by rw [ej]; omega
      have fi1 : 0 ≤ (j : Int) ∧ (j : Int) < (l.length : Int) := by omega
      have fi2 : 0 ≤ IntKind.i64.wrap ((j : Int) - 1) ∧ IntKind.i64.wrap ((j : Int) - 1) < (l.length : Int) := by rw [ej]; omega
      have fj1 : ((j : Int)).toNat < d.length := by omega
      have fj2 : (IntKind.i64.wrap ((j : Int) - 1)).toNat < d.length := by rw [n1]; omega
      intro _; refine ⟨fi1, ?_⟩
      intro _; refine ⟨fj1, ?_⟩
      intro _; refine ⟨fi2, ?_⟩
      intro _; refine ⟨fj2, ?_⟩
      intro _
      refine Or.inl ?_
      intro _
      refine call_pure [] (less_ok (at' d j) (at' d (j - 1))) rfl rfl rfl ?_ ?_ ?_
      · (repeat' first | exact trivial | exact rfl | refine And.intro ?_ ?_)
      · (repeat' first | exact trivial | exact rfl | refine And.intro ?_ ?_)
        show at' d (j - 1) = d.getD (IntKind.i64.wrap ((j : Int) - 1)).toNat 0
        rw [n1]; rfl
      intro v hv _
      subst hv
      intro _; refine ⟨by kernel_rfl, ?_⟩
      intro _; refine ⟨fun g => ?_, fun g => ?_⟩
      · have g2 : (!decide (at' d j < at' d (j - 1))) = true := g
        rw [Bool.not_eq_true'] at g2
        have g2 := of_decide_eq_false g2
        refine Or.inl ⟨⟨d, hd, hdn (.inr (by omega))⟩, rfl, th [] 1, rfl, rfl, rfl, rfl, rfl, rfl, ?_, ?_⟩
        · (repeat' first | exact trivial | exact rfl | refine And.intro ?_ ?_)
        · (repeat' first | exact trivial | exact rfl | refine And.intro ?_ ?_)
      have g2 : (!decide (at' d j < at' d (j - 1))) = false := g
      rw [Bool.not_eq_false'] at g2
      have g2 := of_decide_eq_true g2
      have hja : a < j := by
        by_cases e : j = a
        · subst e
          have := hlbd (by omega) j (Nat.le_refl _) (by omega)
          omega
        · omega
      intro _; refine ⟨fi2, ?_⟩
      intro _; refine ⟨fj2, ?_⟩
      intro _; refine ⟨fi1, ?_⟩
      intro _; refine ⟨fj1, ?_⟩
      intro _; refine ⟨fi1, ?_⟩
      intro _; refine ⟨fj1, ?_⟩
      intro _; refine ⟨fi2, ?_⟩
      intro _; refine ⟨show (IntKind.i64.wrap ((j : Int) - 1)).toNat < (d.set _ _).length by rw [List.length_set]; exact fj2, ?_⟩
      intro _; refine ⟨by kernel_rfl, ?_⟩
      refine ⟨⟨(j - 1, sw d j (j - 1)), ⟨by show a ≤ j - 1; omega, by show j - 1 ≤ i2 - 1; omega⟩, hd.trans (sw_pm ⟨by omega, by omega⟩ ⟨by omega, by omega⟩ (by omega)), hins.step hja hj2 (by omega) g2⟩, by show j - 1 < j; omega, th [] 1, rfl, rfl, rfl, rfl, rfl, rfl, ?_, ?_⟩
      · (repeat' first | exact trivial | exact rfl | refine And.intro ?_ ?_)
        show ((j - 1 : Nat) : Int) = IntKind.i64.wrap ((j : Int) - 1)
        rw [ej]; omega
      · (repeat' first | exact trivial | exact rfl | refine And.intro ?_ ?_)
        show sw d j (j - 1) = (d.set ((j : Int)).toNat (d.getD (IntKind.i64.wrap ((j : Int) - 1)).toNat 0)).set (IntKind.i64.wrap ((j : Int) - 1)).toNat (d.getD ((j : Int)).toNat 0)
        rw [n1]; rfl
    have hd1 : Pm a b l d1 := hd1
    have hds1 : Srt d1 a i2 := hds1
    intro _; refine ⟨fun g => ?_, fun g => ?_⟩
    · intro _
      refine meet2 [10] [0] 1 (.exit 6) (fun x : { x : List Int // Pm a b l x ∧ Srt x a i2 } => []) (fun x => DA x.1) ?_
      intro _
      refine ⟨?_, fun ⟨d2, hd2, hs2⟩ => ?_⟩
      · refine loop2 tt_ok [10] [0] 1 (fun x : { x : Nat × List Int // i2 + 1 ≤ x.1 ∧ Pm a b l x.2 ∧ Srt x.2 a i2 } => [(10, .int .i64 (x.1.1 : Nat))]) (fun x => DA x.1.2) (fun x => b - x.1.1) ⟨(i2 + 1, d1), Nat.le_refl _, hd1, hds1⟩ ?_
        intro _
        refine ⟨⟨th [] 1, rfl, rfl, rfl, rfl, rfl, rfl, ?_, ?_⟩, ?_⟩
        · (repeat' first | exact trivial | exact rfl | refine And.intro ?_ ?_)
          show ((i2 + 1 : Nat) : Int) = IntKind.i64.wrap ((i2 : Int) + 1)
          rw [wrapS _ ⟨by omega, by omega⟩]; omega
        · (repeat' first | exact trivial | exact rfl | refine And.intro ?_ ?_)
        intro ⟨⟨j, d⟩, hj, hd, hds⟩
        have hj : i2 + 1 ≤ j := hj
        have hd : Pm a b l d := hd
        have hdl : d.length = l.length := hd.len
        have hds : Srt d a i2 := hds
        intro _; refine ⟨fun g => ?_, fun g => ?_⟩
        rotate_left
        · refine Or.inl ⟨⟨d, hd, hds⟩, rfl, th [] 1, rfl, rfl, rfl, rfl, rfl, rfl, ?_, ?_⟩
          · (repeat' first | exact trivial | exact rfl | refine And.intro ?_ ?_)
          · (repeat' first | exact trivial | exact rfl | refine And.intro ?_ ?_)
        have g := of_decide_eq_true (show decide ((j : Int) < (b : Int)) = true from g)
        have ej : IntKind.i64.wrap ((j : Int) - 1) = (j : Int) - 1 := wrapS _ ⟨by omega, by omega⟩
        have n1 : (IntKind.i64.wrap ((j : Int) - 1)).toNat = j - 1 := by rw [ej]; omega
        have fi1 : 0 ≤ (j : Int) ∧ (j : Int) < (l.length : Int) := by omega
        have fi2 : 0 ≤ IntKind.i64.wrap ((j : Int) - 1) ∧ IntKind.i64.wrap ((j : Int) - 1) < (l.length : Int) := by rw [ej]; omega
        have fj1 : ((j : Int)).toNat < d.length := by omega
        have fj2 : (IntKind.i64.wrap ((j : Int) - 1)).toNat < d.length := by rw [n1]; omega
        intro _; refine ⟨fi1, ?_⟩
        intro _; refine ⟨fj1, ?_⟩
        intro _; refine ⟨fi2, ?_⟩
        intro _; refine ⟨fj2, ?_⟩
        intro _
        refine Or.inl ?_
        intro _
        refine call_pure [] (less_ok (at' d j) (at' d (j - 1))) rfl rfl rfl ?_ ?_ ?_
        · (repeat' first | exact trivial | exact rfl | refine And.intro ?_ ?_)
        · (repeat' first | exact trivial | exact rfl | refine And.intro ?_ ?_)
          show at' d (j - 1) = d.getD (IntKind.i64.wrap ((j : Int) - 1)).toNat 0
          rw [n1]; rfl
        intro v hv _
        subst hv
        intro _; refine ⟨by kernel_rfl, ?_⟩
        intro _; refine ⟨fun g => ?_, fun g => ?_⟩
        · refine Or.inl ⟨⟨d, hd, hds⟩, rfl, th [] 1, rfl, rfl, rfl, rfl, rfl, rfl, ?_, ?_⟩
          · (repeat' first | exact trivial | exact rfl | refine And.intro ?_ ?_)
          · (repeat' first | exact trivial | exact rfl | refine And.intro ?_ ?_)
        intro _; refine ⟨fi2, ?_⟩
        intro _; refine ⟨fj2, ?_⟩
        intro _; refine ⟨fi1, ?_⟩
        intro _; refine ⟨fj1, ?_⟩
        intro _; refine ⟨fi1, ?_⟩
        intro _; refine ⟨fj1, ?_⟩
        intro _; refine ⟨fi2, ?_⟩
        intro _; refine ⟨show (IntKind.i64.wrap ((j : Int) - 1)).toNat < (d.set _ _).length by rw [List.length_set]; exact fj2, ?_⟩
        intro _; refine ⟨by kernel_rfl, ?_⟩
        refine ⟨⟨(j + 1, sw d j (j - 1)), by show i2 + 1 ≤ j + 1; omega, hd.trans (sw_pm ⟨by omega, by omega⟩ ⟨by omega, by omega⟩ (by omega)), hds.sw (by omega) (by omega) (by omega) (by omega)⟩, by show b - (j + 1) < b - j; omega, th [] 1, rfl, rfl, rfl, rfl, rfl, rfl, ?_, ?_⟩
        · (repeat' first | exact trivial | exact rfl | refine And.intro ?_ ?_)
          show ((j + 1 : Nat) : Int) = IntKind.i64.wrap ((j : Int) + 1)
          rw [wrapS _ ⟨by omega, by omega⟩]; omega
        · (repeat' first | exact trivial | exact rfl | refine And.intro ?_ ?_)
          show sw d j (j - 1) = (d.set ((j : Int)).toNat (d.getD (IntKind.i64.wrap ((j : Int) - 1)).toNat 0)).set (IntKind.i64.wrap ((j : Int) - 1)).toNat (d.getD ((j : Int)).toNat 0)
          rw [n1]; rfl
      have hd2 : Pm a b l d2 := hd2
      have hs2 : Srt d2 a i2 := hs2
      refine ⟨⟨(i2, t + 1, d2), ⟨by omega, by omega⟩, hd2, hs2, by show t + 1 ≤ 5; omega⟩, by show 5 - (t + 1) < 5 - t; omega, th [] 1, rfl, rfl, rfl, rfl, rfl, rfl, ?_, ?_⟩
      · (repeat' first | exact trivial | exact rfl | refine And.intro ?_ ?_)
        show ((t + 1 : Nat) : Int) = IntKind.i64.wrap ((t : Int) + 1)
        rw [wrapS _ ⟨by omega, by omega⟩]; omega
      · (repeat' first | exact trivial | exact rfl | refine And.intro ?_ ?_)
    refine ⟨⟨(i2, t + 1, d1), ⟨by omega, by omega⟩, hd1, hds1, by show t + 1 ≤ 5; omega⟩, by show 5 - (t + 1) < 5 - t; omega, th [] 1, rfl, rfl, rfl, rfl, rfl, rfl, ?_, ?_⟩
    · (repeat' first | exact trivial | exact rfl | refine And.intro ?_ ?_)
      show ((t + 1 : Nat) : Int) = IntKind.i64.wrap ((t : Int) + 1)
      rw [wrapS _ ⟨by omega, by omega⟩]; omega
    · (repeat' first | exact trivial | exact rfl | refine And.intro ?_ ?_)
  have g := of_decide_eq_false (show decide (IntKind.i64.wrap ((i2 : Int) - (a : Int)) ≥ 2) = false from g)
  rw [es] at g
  have hs3 : Srt c1 a i2 := fun p q h1 h2 h3 => by omega
  intro _; refine ⟨fun g => ?_, fun g => ?_⟩
  · intro _
    refine meet2 [10] [0] 1 (.exit 6) (fun x : { x : List Int // Pm a b l x ∧ Srt x a i2 } => []) (fun x => DA x.1) ?_
    intro _
    refine ⟨?_, fun ⟨d2, hd2, hs2⟩ => ?_⟩
    · refine loop2 tt_ok [10] [0] 1 (fun x : { x : Nat × List Int // i2 + 1 ≤ x.1 ∧ Pm a b l x.2 ∧ Srt x.2 a i2 } => [(10, .int .i64 (x.1.1 : Nat))]) (fun x => DA x.1.2) (fun x => b - x.1.1) ⟨(i2 + 1, c1), Nat.le_refl _, hc1, hs3⟩ ?_
      intro _
      refine ⟨⟨th [] 1, rfl, rfl, rfl, rfl, rfl, rfl, ?_, ?_⟩, ?_⟩
      · (repeat' first | exact trivial | exact rfl | refine And.intro ?_ ?_)
        show ((i2 + 1 : Nat) : Int) = IntKind.i64.wrap ((i2 : Int) + 1)
        rw [wrapS _ ⟨by omega, by omega⟩]; omega
      · (repeat' first | exact trivial | exact rfl | refine And.intro ?_ ?_)
        show c1 = _
        rw [hc1e]; exact eraw
      intro ⟨⟨j, d⟩, hj, hd, hds⟩
      have hj : i2 + 1 ≤ j := hj
      have hd : Pm a b l d := hd
      have hdl : d.length = l.length := hd.len
      have hds : Srt d a i2 := hds
      intro _; refine ⟨fun g => ?_, fun g => ?_⟩
      rotate_left
      · refine Or.inl ⟨⟨d, hd, hds⟩, rfl, th [] 1, rfl, rfl, rfl, rfl, rfl, rfl, ?_, ?_⟩
        · (repeat' first | exact trivial | exact rfl | refine And.intro ?_ ?_)
        · (repeat' first | exact trivial | exact rfl | refine And.intro ?_ ?_)
      have g := of_decide_eq_true (show decide ((j : Int) < (b : Int)) = true from g)
      have ej : IntKind.i64.wrap ((j : Int) - 1) = (j : Int) - 1 := wrapS _ ⟨by omega, by omega⟩
      have n1 : (IntKind.i64.wrap ((j : Int) - 1)).toNat = j - 1 := by rw [ej]; omega
      have fi1 : 0 ≤ (j : Int) ∧ (j : Int) < (l.length : Int) := by omega
      have fi2 : 0 ≤ IntKind.i64.wrap ((j : Int) - 1) ∧ IntKind.i64.wrap ((j : Int) - 1) < (l.length : Int) := by rw [ej]; omega
      have fj1 : ((j : Int)).toNat < d.length := by omega
      have fj2 : (IntKind.i64.wrap ((j : Int) - 1)).toNat < d.length := by rw [n1]; omega
      intro _; refine ⟨fi1, ?_⟩
      intro _; refine ⟨fj1, ?_⟩
      intro _; refine ⟨fi2, ?_⟩
      intro _; refine ⟨fj2, ?_⟩
      intro _
      refine Or.inl ?_
      intro _
      refine call_pure [] (less_ok (at' d j) (at' d (j - 1))) rfl rfl rfl ?_ ?_ ?_
      · (repeat' first | exact trivial | exact rfl | refine And.intro ?_ ?_)
      · (repeat' first | exact trivial | exact rfl | refine And.intro ?_ ?_)
        show at' d (j - 1) = d.getD (IntKind.i64.wrap ((j : Int) - 1)).toNat 0
        rw [n1]; rfl
      intro v hv _
      subst hv
      intro _; refine ⟨by kernel_rfl, ?_⟩
      intro _; refine ⟨fun g => ?_, fun g => ?_⟩
      · refine Or.inl ⟨⟨d, hd, hds⟩, rfl, th [] 1, rfl, rfl, rfl, rfl, rfl, rfl, ?_, ?_⟩
        · (repeat' first | exact trivial | exact rfl | refine And.intro ?_ ?_)
        · (repeat' first | exact trivial | exact rfl | refine And.intro ?_ ?_)
      intro _; refine ⟨fi2, ?_⟩
      intro _; refine ⟨fj2, ?_⟩
      intro _; refine ⟨fi1, ?_⟩
      intro _; refine ⟨fj1, ?_⟩
      intro _; refine ⟨fi1, ?_⟩
      intro _; refine ⟨fj1, ?_⟩
      intro _; refine ⟨fi2, ?_⟩
      intro _; refine ⟨show (IntKind.i64.wrap ((j : Int) - 1)).toNat < (d.set _ _).length by rw [List.length_set]; exact fj2, ?_⟩
      intro _; refine ⟨by kernel_rfl, ?_⟩
      refine ⟨⟨(j + 1, sw d j (j - 1)), by show i2 + 1 ≤ j + 1; omega, hd.trans (sw_pm ⟨by omega, by omega⟩ ⟨by omega, by omega⟩ (by omega)), hds.sw (by omega) (by omega) (by omega) (by omega)⟩, by show b - (j + 1) < b - j; omega, th [] 1, rfl, rfl, rfl, rfl, rfl, rfl, ?_, ?_⟩
      · (repeat' first | exact trivial | exact rfl | refine And.intro ?_ ?_)
        show ((j + 1 : Nat) : Int) = IntKind.i64.wrap ((j : Int) + 1)
        rw [wrapS _ ⟨by omega, by omega⟩]; omega
      · (repeat' first | exact trivial | exact rfl | refine And.intro ?_ ?_)
        show sw d j (j - 1) = (d.set ((j : Int)).toNat (d.getD (IntKind.i64.wrap ((j : Int) - 1)).toNat 0)).set (IntKind.i64.wrap ((j : Int) - 1)).toNat (d.getD ((j : Int)).toNat 0)
        rw [n1]; rfl
    have hd2 : Pm a b l d2 := hd2
    have hs2 : Srt d2 a i2 := hs2
    refine ⟨⟨(i2, t + 1, d2), ⟨by omega, by omega⟩, hd2, hs2, by show t + 1 ≤ 5; omega⟩, by show 5 - (t + 1) < 5 - t; omega, th [] 1, rfl, rfl, rfl, rfl, rfl, rfl, ?_, ?_⟩
    · (repeat' first | exact trivial | exact rfl | refine And.intro ?_ ?_)
      show ((t + 1 : Nat) : Int) = IntKind.i64.wrap ((t : Int) + 1)
      rw [wrapS _ ⟨by omega, by omega⟩]; omega
    · (repeat' first | exact trivial | exact rfl | refine And.intro ?_ ?_)
  refine ⟨⟨(i2, t + 1, c1), ⟨by omega, by omega⟩, hc1, hs3, by show t + 1 ≤ 5; omega⟩, by show 5 - (t + 1) < 5 - t; omega, th [] 1, rfl, rfl, rfl, rfl, rfl, rfl, ?_, ?_⟩
  · (repeat' first | exact trivial | exact rfl | refine And.intro ?_ ?_)
    show ((t + 1 : Nat) : Int) = IntKind.i64.wrap ((t : Int) + 1)
    rw [wrapS _ ⟨by omega, by omega⟩]; omega
  · (repeat' first | exact trivial | exact rfl | refine And.intro ?_ ?_)
    show c1 = _
    rw [hc1e]; exact eraw
structure Ou (a b x y : Nat) (c : List Int) : Prop where
  aa : a ≤ x
  ab : x ≤ y
  bb : y ≤ b
  s1 : Srt c a x
  p1 : ∀ p q, a ≤ p → p < x → x ≤ q → q < b → at' c p ≤ at' c q
  s2 : Srt c y b
  p2 : ∀ p q, a ≤ p → p < y → y ≤ q → q < b → at' c p ≤ at' c q
section
variable {a b x y : Nat} {c d : List Int}
theorem Ou.start (hab : a ≤ b) : Ou a b a b c := ⟨Nat.le_refl _, hab, Nat.le_refl _, fun p q h1 h2 h3 => by omega, fun p q h1 h2 => by omega, fun p q h1 h2 h3 => by omega, fun p q h1 h2 h3 h4 => by omega⟩
theorem Ou.pm (h : Ou a b x y c) (hb : b ≤ c.length) (hp : Pm x y c d) : Ou a b x y d := by
  have h1 := h.aa
  have h2 := h.ab
  have h3 := h.bb
  have out := hp.out
  refine ⟨h1, h2, h3, fun p q k1 k2 k3 => ?_, fun p q k1 k2 k3 k4 => ?_, fun p q k1 k2 k3 => ?_, fun p q k1 k2 k3 k4 => ?_⟩
  · rw [out p (.inl (by omega)), out q (.inl (by omega))]; exact h.s1 p q k1 k2 k3
  · rw [out p (.inl k2)]
    by_cases e : q < y
    · exact hp.all h2 (by omega) (fun v => at' c p ≤ v) (fun k j1 j2 => h.p1 p k k1 k2 j1 (by omega)) q k3 e
    · rw [out q (.inr (by omega))]; exact h.p1 p q k1 k2 k3 k4
  · rw [out p (.inr k1), out q (.inr (by omega))]; exact h.s2 p q k1 k2 k3
  · rw [out q (.inr k3)]
    by_cases e : x ≤ p
    · exact hp.all h2 (by omega) (fun v => v ≤ at' c q) (fun k j1 j2 => h.p2 k q (by omega) j2 k3 k4) p e k2
    · rw [out p (.inl (by omega))]; exact h.p2 p q k1 k2 k3 k4
theorem Ou.lb (h : Ou a b x y c) (hl : Lb c a b) : Lb c x y := fun h0 k k1 k2 => by
  have h1 := h.aa
  have h3 := h.bb
  by_cases e : x = a
  · subst e; exact hl h0 k k1 (by omega)
  · exact h.p1 (x - 1) k (by omega) (by omega) k1 (by omega)
theorem Ou.fin (h : Ou a b x y c) (hs : Srt c x y) : Srt c a b := fun p q k1 k2 k3 => by
  by_cases e1 : p < x
  · by_cases e2 : q < x
    · exact h.s1 p q k1 k2 e2
    · exact h.p1 p q k1 e1 (by omega) k3
  · by_cases e2 : p < y
    · by_cases e3 : q < y
      · exact hs p q (by omega) k2 e3
      · exact h.p2 p q k1 e2 (by omega) k3
    · exact h.s2 p q (by omega) k2 k3
theorem Pt.left' {m : Nat} (hp : Pt x y m c) (hb : y ≤ c.length) (hq : Pm x m c d) : Pt x y m d := by
  have h1 := hp.am
  have h2 := hp.mb
  have e : at' d m = at' c m := hq.out m (.inr (Nat.le_refl _))
  refine ⟨h1, h2, fun k k1 k2 => ?_, fun k k1 k2 => ?_⟩
  · rw [e]; exact hq.all h1 (by omega) (fun v => v ≤ at' c m) hp.left k k1 k2
  · rw [e, hq.out k (.inr (by omega))]; exact hp.right k k1 k2
theorem Pt.right' {m : Nat} (hp : Pt x y m c) (hb : y ≤ c.length) (hq : Pm (m + 1) y c d) : Pt x y m d := by
  have h1 := hp.am
  have h2 := hp.mb
  have e : at' d m = at' c m := hq.out m (.inl (by omega))
  refine ⟨h1, h2, fun k k1 k2 => ?_, fun k k1 k2 => ?_⟩
  · rw [e, hq.out k (.inl (by omega))]; exact hp.left k k1 k2
  · rw [e]; exact hq.all (by omega) hb (fun v => at' c m ≤ v) (fun k j1 j2 => hp.right k (by omega) j2) k (by omega) k2
theorem Ou.left {m : Nat} (h : Ou a b x y c) (hp : Pt x y m c) (hs : Srt c x m) : Ou a b (m + 1) y c := by
  have h1 := h.aa
  have h2 := h.ab
  have h3 := h.bb
  have m1 := hp.am
  have m2 := hp.mb
  refine ⟨by omega, by omega, h3, fun p q k1 k2 k3 => ?_, fun p q k1 k2 k3 k4 => ?_, h.s2, h.p2⟩
  · by_cases e1 : p < x
    · by_cases e2 : q < x
      · exact h.s1 p q k1 k2 e2
      · exact h.p1 p q k1 e1 (by omega) (by omega)
    · by_cases e2 : q = m
      · subst e2; exact hp.left p (by omega) k2
      · exact hs p q (by omega) k2 (by omega)
  · by_cases e1 : p < x
    · exact h.p1 p q k1 e1 (by omega) k4
    · by_cases e3 : q < y
      · have g1 := hp.right q (by omega) e3
        by_cases e2 : p = m
        · subst e2; exact g1
        · have := hp.left p (by omega) (by omega); omega
      · exact h.p2 p q k1 (by omega) (by omega) k4
theorem Ou.right {m : Nat} (h : Ou a b x y c) (hp : Pt x y m c) (hs : Srt c (m + 1) y) : Ou a b x m c := by
  have h1 := h.aa
  have h2 := h.ab
  have h3 := h.bb
  have m1 := hp.am
  have m2 := hp.mb
  refine ⟨h1, m1, by omega, h.s1, h.p1, fun p q k1 k2 k3 => ?_, fun p q k1 k2 k3 k4 => ?_⟩
  · by_cases e3 : q < y
    · by_cases e2 : p = m
      · subst e2; exact hp.right q k2 e3
      · exact hs p q (by omega) k2 e3
    · by_cases e4 : p < y
      · exact h.p2 p q (by omega) e4 (by omega) k3
      · exact h.s2 p q (by omega) k2 k3
  · by_cases e1 : p < x
    · exact h.p1 p q k1 e1 (by omega) k4
    · by_cases e3 : q < y
      · have g1 := hp.left p (by omega) (by omega)
        by_cases e2 : q = m
        · subst e2; exact g1
        · have := hp.right q (by omega) e3; omega
      · exact h.p2 p q k1 (by omega) (by omega) k4
theorem Ou.eq {m : Nat} {v : Int} (h : Ou a b x y c) (hl : Lb c x y) (h0 : 0 < x) (hm1 : x < m) (hm2 : m ≤ y) (hv : v ≤ at' c (x - 1)) (g1 : ∀ k, x ≤ k → k < m → at' c k ≤ v) (g2 : ∀ k, m ≤ k → k < y → v < at' c k) : Ou a b m y c := by
  have h1 := h.aa
  have h2 := h.ab
  have h3 := h.bb
  have lo : ∀ k, x ≤ k → k < y → v ≤ at' c k := fun k k1 k2 => Int.le_trans hv (hl h0 k k1 k2)
  refine ⟨by omega, hm2, h3, fun p q k1 k2 k3 => ?_, fun p q k1 k2 k3 k4 => ?_, h.s2, h.p2⟩
  · by_cases e1 : p < x
    · by_cases e2 : q < x
      · exact h.s1 p q k1 k2 e2
      · exact h.p1 p q k1 e1 (by omega) (by omega)
    · exact Int.le_trans (g1 p (by omega) (by omega)) (lo q (by omega) (by omega))
  · by_cases e1 : p < x
    · exact h.p1 p q k1 e1 (by omega) k4
    · by_cases e3 : q < y
      · exact Int.le_trans (g1 p (by omega) k2) (lo q (by omega) e3)
      · exact h.p2 p q k1 (by omega) (by omega) k4
end
set_option maxHeartbeats 4000000 in
theorem pdq_ok (N : Nat) : ∀ (l : List Int) (a b : Nat) (lim : Int), b - a ≤ N → a ≤ b → b ≤ l.length → l.length ≤ 4096 → Lb l a b → SemF Try.prog 36 [.grw 0 l.length, .int .i64 a, .int .i64 b, .int .i64 lim] ⟨1, 0, DA l⟩ (fun v h' => ∃ l', (Pm a b l l' ∧ Srt l' a b) ∧ v = .tup [] ∧ Dat l' h') := by
  induction N using Nat.strongRecOn with
  | _ N ih =>
  intro l a b lim hN hab hb hl hlb
  refine enter tt_ok Try.func36 (nt := 134) (cd := body Try.f36) rfl rfl rfl rfl ?_
  intro _
  refine loop2 tt_ok [1, 2, 3, 8, 9] [0] 1 (fun z : { z : Nat × Nat × Int × Bool × Bool × List Int // Pm a b l z.2.2.2.2.2 ∧ Ou a b z.1 z.2.1 z.2.2.2.2.2 } => [(1, .int .i64 (z.1.1 : Nat)), (2, .int .i64 (z.1.2.1 : Nat)), (3, .int .i64 z.1.2.2.1), (8, .test z.1.2.2.2.1), (9, .test z.1.2.2.2.2.1)]) (fun z => DA z.1.2.2.2.2.2) (fun z => z.1.2.1 - z.1.1) ⟨(a, b, lim, true, true, l), Pm.refl _ _ _, Ou.start hab⟩ ?_
  intro _
  refine ⟨⟨th [] 1, rfl, rfl, rfl, rfl, rfl, rfl, ?_, ?_⟩, ?_⟩
  · (repeat' first | exact trivial | exact rfl | refine And.intro ?_ ?_)
  · (repeat' first | exact trivial | exact rfl | refine And.intro ?_ ?_)
  intro ⟨⟨x, y, lm, wb, wp, c⟩, hc, hO⟩
  have hc : Pm a b l c := hc
  have hO : Ou a b x y c := hO
  have hcl : c.length = l.length := hc.len
  have hlbx : Lb c x y := hO.lb (hlb.pm hc hab hb)
  have hax := hO.aa
  have hxy := hO.ab
  have hyb := hO.bb
  have eN : IntKind.i64.wrap ((y : Int) - (x : Int)) = ((y - x : Nat) : Int) := by rw [wrapS _ ⟨by omega, by omega⟩]; omega
  intro _; refine ⟨fun g => ?_, fun g => ?_⟩
  · intro _
    refine call_mut [(0, some 0)] (ins_ok c x y (by omega) (by omega) (by omega)) rfl rfl rfl rfl ?_ ?_ ?_
    · (repeat' first | exact trivial | exact rfl | refine And.intro ?_ ?_)
    · (repeat' first | exact trivial | exact rfl | refine And.intro ?_ ?_)
      exact hcl
    intro v h' ⟨c2, ⟨hp2, hs2⟩, hv, hd⟩
    subst hv
    refine ⟨_, mut1 hd, rfl, ?_⟩
    have hO : Ou a b x y c2 := hO.pm (by omega) hp2
    have hc : Pm a b l c2 := hc.trans (hp2.wide hO.aa hO.bb)
    have hcl : c2.length = l.length := hc.len
    have hlbx : Lb c2 x y := hO.lb (hlb.pm hc hab hb)
    intro _
    exact ⟨c2, ⟨hc, hO.fin hs2⟩, rfl, rfl⟩
  have g := of_decide_eq_false (show decide (IntKind.i64.wrap ((y : Int) - (x : Int)) ≤ 12) = false from g)
  rw [eN] at g
  have hn : x + 12 < y := by omega
  clear g
  intro _; refine ⟨fun g => ?_, fun g => ?_⟩
  · intro _
    refine call_mut [(0, some 0)] (heap_ok c x y (by omega) (by omega) (by omega)) rfl rfl rfl rfl ?_ ?_ ?_
    · (repeat' first | exact trivial | exact rfl | refine And.intro ?_ ?_)
    · (repeat' first | exact trivial | exact rfl | refine And.intro ?_ ?_)
      exact hcl
    intro v h' ⟨c2, ⟨hp2, hs2⟩, hv, hd⟩
    subst hv
    refine ⟨_, mut1 hd, rfl, ?_⟩
    have hO : Ou a b x y c2 := hO.pm (by omega) hp2
    have hc : Pm a b l c2 := hc.trans (hp2.wide hO.aa hO.bb)
    have hcl : c2.length = l.length := hc.len
    have hlbx : Lb c2 x y := hO.lb (hlb.pm hc hab hb)
    intro _
    exact ⟨c2, ⟨hc, hO.fin hs2⟩, rfl, rfl⟩
  intro _; refine ⟨fun g => ?_, fun g => ?_⟩
  · have g : (!wb) = true := g
    rw [Bool.not_eq_true'] at g
    have hwb : wb = false := g
    intro _
    refine call_mut [(0, some 0)] (break_ok c x y (by omega) (by omega) (by omega)) rfl rfl rfl rfl ?_ ?_ ?_
    · (repeat' first | exact trivial | exact rfl | refine And.intro ?_ ?_)
    · (repeat' first | exact trivial | exact rfl | refine And.intro ?_ ?_)
      exact hcl
    intro v h' ⟨c1, hp1, hv, hd⟩
    subst hv
    refine ⟨_, mut1 hd, rfl, ?_⟩
    have hO : Ou a b x y c1 := hO.pm (by omega) hp1
    have hc : Pm a b l c1 := hc.trans (hp1.wide hO.aa hO.bb)
    have hcl : c1.length = l.length := hc.len
    have hlbx : Lb c1 x y := hO.lb (hlb.pm hc hab hb)
    intro _
    refine call_mut [(0, some 0)] (pivot_ok c1 x y (by omega) (by omega) (by omega)) rfl rfl rfl rfl ?_ ?_ ?_
    · (repeat' first | exact trivial | exact rfl | refine And.intro ?_ ?_)
    · (repeat' first | exact trivial | exact rfl | refine And.intro ?_ ?_)
      exact hcl
    intro v h' ⟨p, k, hpp, hk, hv, hd⟩
    subst hv
    refine ⟨_, mut1 hd, rfl, ?_⟩
    intro _; refine ⟨fun g => ?_, fun g => ?_⟩
    · intro _
      refine call_mut [(0, some 0)] (rev_ok c1 x y (by omega) (by omega) (by omega)) rfl rfl rfl rfl ?_ ?_ ?_
      · (repeat' first | exact trivial | exact rfl | refine And.intro ?_ ?_)
      · (repeat' first | exact trivial | exact rfl | refine And.intro ?_ ?_)
        exact hcl
      intro v h' ⟨c5, hp5, hv, hd⟩
      subst hv
      refine ⟨_, mut1 hd, rfl, ?_⟩
      have hO : Ou a b x y c5 := hO.pm (by omega) hp5
      have hc : Pm a b l c5 := hc.trans (hp5.wide hO.aa hO.bb)
      have hcl : c5.length = l.length := hc.len
      have hlbx : Lb c5 x y := hO.lb (hlb.pm hc hab hb)
      have eqP : ((y - 1 - (p - x) : Nat) : Int) = IntKind.i64.wrap (IntKind.i64.wrap ((y : Int) - 1) - IntKind.i64.wrap ((p : Int) - (x : Int))) := by
        rw [wrapS ((y : Int) - 1) ⟨by omega, by omega⟩, wrapS ((p : Int) - (x : Int)) ⟨by omega, by omega⟩, wrapS _ ⟨by omega, by omega⟩]; omega
      intro _; refine ⟨fun g => ?_, fun g => ?_⟩
      · exact absurd (show wb = true from g) (by rw [hwb]; decide)
      intro _; refine ⟨fun g => ?_, fun g => ?_⟩
      · have g0 := of_decide_eq_true (show decide ((x : Int) > 0) = true from g)
        have ex : IntKind.i64.wrap ((x : Int) - 1) = (x : Int) - 1 := wrapS _ ⟨by omega, by omega⟩
        have n1 : (IntKind.i64.wrap ((x : Int) - 1)).toNat = x - 1 := by rw [ex]; omega
        have eP : IntKind.i64.wrap (IntKind.i64.wrap ((y : Int) - 1) - IntKind.i64.wrap ((p : Int) - (x : Int))) = ((y - 1 - (p - x) : Nat) : Int) := (eqP).symm
        have nP : (IntKind.i64.wrap (IntKind.i64.wrap ((y : Int) - 1) - IntKind.i64.wrap ((p : Int) - (x : Int)))).toNat = y - 1 - (p - x) := by rw [eP]; rfl
        intro _; refine ⟨show 0 ≤ IntKind.i64.wrap ((x : Int) - 1) ∧ IntKind.i64.wrap ((x : Int) - 1) < (l.length : Int) by rw [ex]; omega, ?_⟩
        intro _; refine ⟨show (IntKind.i64.wrap ((x : Int) - 1)).toNat < c5.length by rw [n1]; omega, ?_⟩
        intro _; refine ⟨show 0 ≤ IntKind.i64.wrap (IntKind.i64.wrap ((y : Int) - 1) - IntKind.i64.wrap ((p : Int) - (x : Int))) ∧ IntKind.i64.wrap (IntKind.i64.wrap ((y : Int) - 1) - IntKind.i64.wrap ((p : Int) - (x : Int))) < (l.length : Int) by rw [eP]; omega, ?_⟩
        intro _; refine ⟨show (IntKind.i64.wrap (IntKind.i64.wrap ((y : Int) - 1) - IntKind.i64.wrap ((p : Int) - (x : Int)))).toNat < c5.length by rw [nP]; omega, ?_⟩
        intro _
        refine Or.inl ?_
        intro _
        refine call_pure [] (less_ok (at' c5 (x - 1)) (at' c5 (y - 1 - (p - x)))) rfl rfl rfl ?_ ?_ ?_
        · (repeat' first | exact trivial | exact rfl | refine And.intro ?_ ?_)
        · (repeat' first | exact trivial | exact rfl | refine And.intro ?_ ?_)
          show at' c5 (x - 1) = c5.getD (IntKind.i64.wrap ((x : Int) - 1)).toNat 0
          rw [n1]; rfl
          show at' c5 (y - 1 - (p - x)) = c5.getD (IntKind.i64.wrap (IntKind.i64.wrap ((y : Int) - 1) - IntKind.i64.wrap ((p : Int) - (x : Int)))).toNat 0
          rw [nP]; rfl
        intro v hv _
        subst hv
        intro _; refine ⟨by kernel_rfl, ?_⟩
        intro _; refine ⟨fun g => ?_, fun g => ?_⟩
        · have g2 : (!decide (at' c5 (x - 1) < at' c5 (y - 1 - (p - x)))) = true := g
          rw [Bool.not_eq_true'] at g2
          have g2 := of_decide_eq_false g2
          intro _
          refine call_mut [(0, some 0)] (parteq_ok c5 x y (y - 1 - (p - x)) (by omega) (by omega) (by omega) (by omega)) rfl rfl rfl rfl ?_ ?_ ?_
          · (repeat' first | exact trivial | exact rfl | refine And.intro ?_ ?_)
          · (repeat' first | exact trivial | exact rfl | refine And.intro ?_ ?_)
            · exact hcl
            · exact eqP
          intro v h' ⟨c2, m, ⟨hp2, hm1, hm2, hq1, hq2⟩, hv, hd⟩
          subst hv
          refine ⟨_, mut1 hd, rfl, ?_⟩
          have hvx : at' c5 (y - 1 - (p - x)) ≤ at' c2 (x - 1) := by rw [hp2.out (x - 1) (.inl (by omega))]; omega
          have hO : Ou a b x y c2 := hO.pm (by omega) hp2
          have hc : Pm a b l c2 := hc.trans (hp2.wide hO.aa hO.bb)
          have hcl : c2.length = l.length := hc.len
          have hlbx : Lb c2 x y := hO.lb (hlb.pm hc hab hb)
          have hOe : Ou a b m y c2 := hO.eq hlbx (by omega) hm1 hm2 hvx hq1 hq2
          refine ⟨⟨(m, y, IntKind.i64.wrap (lm - 1), wb, wp, c2), hc, hOe⟩, by show y - m < y - x; omega, th [] 1, rfl, rfl, rfl, rfl, rfl, rfl, ?_, ?_⟩
          · (repeat' first | exact trivial | exact rfl | refine And.intro ?_ ?_)
          · (repeat' first | exact trivial | exact rfl | refine And.intro ?_ ?_)
        intro _
        refine call_mut [(0, some 0)] (part_ok c5 x y (y - 1 - (p - x)) (by omega) (by omega) (by omega) (by omega)) rfl rfl rfl rfl ?_ ?_ ?_
        · (repeat' first | exact trivial | exact rfl | refine And.intro ?_ ?_)
        · (repeat' first | exact trivial | exact rfl | refine And.intro ?_ ?_)
          · exact hcl
          · exact eqP
        intro v h' ⟨c2, m, q, ⟨hp2, hPt⟩, hv, hd⟩
        subst hv
        refine ⟨_, mut1 hd, rfl, ?_⟩
        have hO : Ou a b x y c2 := hO.pm (by omega) hp2
        have hc : Pm a b l c2 := hc.trans (hp2.wide hO.aa hO.bb)
        have hcl : c2.length = l.length := hc.len
        have hlbx : Lb c2 x y := hO.lb (hlb.pm hc hab hb)
        have m1 := hPt.am
        have m2 := hPt.mb
        have eL : IntKind.i64.wrap ((m : Int) - (x : Int)) = ((m - x : Nat) : Int) := by rw [wrapS _ ⟨by omega, by omega⟩]; omega
        have eR : IntKind.i64.wrap ((y : Int) - (m : Int)) = ((y - m : Nat) : Int) := by rw [wrapS _ ⟨by omega, by omega⟩]; omega
        have em1 : IntKind.i64.wrap ((m : Int) + 1) = ((m + 1 : Nat) : Int) := by rw [wrapS _ ⟨by omega, by omega⟩]; omega
        have lbL : Lb c2 x m := fun h0 k k1 k2 => hlbx h0 k k1 (by omega)
        have lbR : Lb c2 (m + 1) y := fun h0 k k1 k2 => hPt.right k (by omega) k2
        intro _; refine ⟨by omega, ?_⟩
        intro _; refine ⟨fun g => ?_, fun g => ?_⟩
        · intro _
          refine call_mut [(0, some 0)] (ih (m - x) (by omega) c2 x m (IntKind.i64.wrap (lm - 1)) (Nat.le_refl _) (by omega) (by omega) (by omega) lbL) rfl rfl rfl rfl ?_ ?_ ?_
          · (repeat' first | exact trivial | exact rfl | refine And.intro ?_ ?_)
          · (repeat' first | exact trivial | exact rfl | refine And.intro ?_ ?_)
            exact hcl
          intro v h' ⟨c3, ⟨hp3, hs3⟩, hv, hd⟩
          subst hv
          refine ⟨_, mut1 hd, rfl, ?_⟩
          have hPt3 : Pt x y m c3 := hPt.left' (by omega) hp3
          have hO3 : Ou a b x y c3 := hO.pm (by omega) (hp3.wide (Nat.le_refl _) (by omega))
          have hc3 : Pm a b l c3 := hc.trans (hp3.wide hO.aa (by omega))
          refine ⟨⟨(m + 1, y, IntKind.i64.wrap (lm - 1), decide (IntKind.i64.wrap ((m : Int) - (x : Int)) ≥ IntKind.i64.wrap ((IntKind.i64.wrap ((y : Int) - (x : Int))).tdiv 8)), q, c3), hc3, hO3.left hPt3 hs3⟩, by show y - (m + 1) < y - x; omega, th [] 1, rfl, rfl, rfl, rfl, rfl, rfl, ?_, ?_⟩
          · (repeat' first | exact trivial | exact rfl | refine And.intro ?_ ?_)
            exact em1.symm
          · (repeat' first | exact trivial | exact rfl | refine And.intro ?_ ?_)
        intro _
        refine call_mut [(0, some 0)] (ih (y - (m + 1)) (by omega) c2 (m + 1) y (IntKind.i64.wrap (lm - 1)) (Nat.le_refl _) (by omega) (by omega) (by omega) lbR) rfl rfl rfl rfl ?_ ?_ ?_
        · (repeat' first | exact trivial | exact rfl | refine And.intro ?_ ?_)
        · (repeat' first | exact trivial | exact rfl | refine And.intro ?_ ?_)
          · exact hcl
          · exact em1.symm
        intro v h' ⟨c3, ⟨hp3, hs3⟩, hv, hd⟩
        subst hv
        refine ⟨_, mut1 hd, rfl, ?_⟩
        have hPt3 : Pt x y m c3 := hPt.right' (by omega) hp3
        have hO3 : Ou a b x y c3 := hO.pm (by omega) (hp3.wide (by omega) (Nat.le_refl _))
        have hc3 : Pm a b l c3 := hc.trans (hp3.wide (by omega) hO.bb)
        refine ⟨⟨(x, m, IntKind.i64.wrap (lm - 1), decide (IntKind.i64.wrap ((y : Int) - (m : Int)) ≥ IntKind.i64.wrap ((IntKind.i64.wrap ((y : Int) - (x : Int))).tdiv 8)), q, c3), hc3, hO3.right hPt3 hs3⟩, by show m - x < y - x; omega, th [] 1, rfl, rfl, rfl, rfl, rfl, rfl, ?_, ?_⟩
        · (repeat' first | exact trivial | exact rfl | refine And.intro ?_ ?_)
        · (repeat' first | exact trivial | exact rfl | refine And.intro ?_ ?_)
      intro _; refine ⟨by kernel_rfl, ?_⟩
      intro _
      refine call_mut [(0, some 0)] (part_ok c5 x y (y - 1 - (p - x)) (by omega) (by omega) (by omega) (by omega)) rfl rfl rfl rfl ?_ ?_ ?_
      · (repeat' first | exact trivial | exact rfl | refine And.intro ?_ ?_)
      · (repeat' first | exact trivial | exact rfl | refine And.intro ?_ ?_)
        · exact hcl
        · exact eqP
      intro v h' ⟨c2, m, q, ⟨hp2, hPt⟩, hv, hd⟩
      subst hv
      refine ⟨_, mut1 hd, rfl, ?_⟩
      have hO : Ou a b x y c2 := hO.pm (by omega) hp2
      have hc : Pm a b l c2 := hc.trans (hp2.wide hO.aa hO.bb)
      have hcl : c2.length = l.length := hc.len
      have hlbx : Lb c2 x y := hO.lb (hlb.pm hc hab hb)
      have m1 := hPt.am
      have m2 := hPt.mb
      have eL : IntKind.i64.wrap ((m : Int) - (x : Int)) = ((m - x : Nat) : Int) := by rw [wrapS _ ⟨by omega, by omega⟩]; omega
      have eR : IntKind.i64.wrap ((y : Int) - (m : Int)) = ((y - m : Nat) : Int) := by rw [wrapS _ ⟨by omega, by omega⟩]; omega
      have em1 : IntKind.i64.wrap ((m : Int) + 1) = ((m + 1 : Nat) : Int) := by rw [wrapS _ ⟨by omega, by omega⟩]; omega
      have lbL : Lb c2 x m := fun h0 k k1 k2 => hlbx h0 k k1 (by omega)
      have lbR : Lb c2 (m + 1) y := fun h0 k k1 k2 => hPt.right k (by omega) k2
      intro _; refine ⟨by omega, ?_⟩
      intro _; refine ⟨fun g => ?_, fun g => ?_⟩
      · intro _
        refine call_mut [(0, some 0)] (ih (m - x) (by omega) c2 x m (IntKind.i64.wrap (lm - 1)) (Nat.le_refl _) (by omega) (by omega) (by omega) lbL) rfl rfl rfl rfl ?_ ?_ ?_
        · (repeat' first | exact trivial | exact rfl | refine And.intro ?_ ?_)
        · (repeat' first | exact trivial | exact rfl | refine And.intro ?_ ?_)
          exact hcl
        intro v h' ⟨c3, ⟨hp3, hs3⟩, hv, hd⟩
        subst hv
        refine ⟨_, mut1 hd, rfl, ?_⟩
        have hPt3 : Pt x y m c3 := hPt.left' (by omega) hp3
        have hO3 : Ou a b x y c3 := hO.pm (by omega) (hp3.wide (Nat.le_refl _) (by omega))
        have hc3 : Pm a b l c3 := hc.trans (hp3.wide hO.aa (by omega))
        refine ⟨⟨(m + 1, y, IntKind.i64.wrap (lm - 1), decide (IntKind.i64.wrap ((m : Int) - (x : Int)) ≥ IntKind.i64.wrap ((IntKind.i64.wrap ((y : Int) - (x : Int))).tdiv 8)), q, c3), hc3, hO3.left hPt3 hs3⟩, by show y - (m + 1) < y - x; omega, th [] 1, rfl, rfl, rfl, rfl, rfl, rfl, ?_, ?_⟩
        · (repeat' first | exact trivial | exact rfl | refine And.intro ?_ ?_)
          exact em1.symm
        · (repeat' first | exact trivial | exact rfl | refine And.intro ?_ ?_)
      intro _
      refine call_mut [(0, some 0)] (ih (y - (m + 1)) (by omega) c2 (m + 1) y (IntKind.i64.wrap (lm - 1)) (Nat.le_refl _) (by omega) (by omega) (by omega) lbR) rfl rfl rfl rfl ?_ ?_ ?_
      · (repeat' first | exact trivial | exact rfl | refine And.intro ?_ ?_)
      · (repeat' first | exact trivial | exact rfl | refine And.intro ?_ ?_)
        · exact hcl
        · exact em1.symm
      intro v h' ⟨c3, ⟨hp3, hs3⟩, hv, hd⟩
      subst hv
      refine ⟨_, mut1 hd, rfl, ?_⟩
      have hPt3 : Pt x y m c3 := hPt.right' (by omega) hp3
      have hO3 : Ou a b x y c3 := hO.pm (by omega) (hp3.wide (by omega) (Nat.le_refl _))
      have hc3 : Pm a b l c3 := hc.trans (hp3.wide (by omega) hO.bb)
      refine ⟨⟨(x, m, IntKind.i64.wrap (lm - 1), decide (IntKind.i64.wrap ((y : Int) - (m : Int)) ≥ IntKind.i64.wrap ((IntKind.i64.wrap ((y : Int) - (x : Int))).tdiv 8)), q, c3), hc3, hO3.right hPt3 hs3⟩, by show m - x < y - x; omega, th [] 1, rfl, rfl, rfl, rfl, rfl, rfl, ?_, ?_⟩
      · (repeat' first | exact trivial | exact rfl | refine And.intro ?_ ?_)
      · (repeat' first | exact trivial | exact rfl | refine And.intro ?_ ?_)
    intro _; refine ⟨fun g => ?_, fun g => ?_⟩
    · exact absurd (show wb = true from g) (by rw [hwb]; decide)
    intro _; refine ⟨fun g => ?_, fun g => ?_⟩
    · have g0 := of_decide_eq_true (show decide ((x : Int) > 0) = true from g)
      have ex : IntKind.i64.wrap ((x : Int) - 1) = (x : Int) - 1 := wrapS _ ⟨by omega, by omega⟩
      have n1 : (IntKind.i64.wrap ((x : Int) - 1)).toNat = x - 1 := by rw [ex]; omega
      have eP : (p : Int) = ((p : Nat) : Int) := rfl
      have nP : ((p : Int)).toNat = p := by rw [eP]; rfl
      intro _; refine ⟨show 0 ≤ IntKind.i64.wrap ((x : Int) - 1) ∧ IntKind.i64.wrap ((x : Int) - 1) < (l.length : Int) by rw [ex]; omega, ?_⟩
      intro _; refine ⟨show (IntKind.i64.wrap ((x : Int) - 1)).toNat < c1.length by rw [n1]; omega, ?_⟩
      intro _; refine ⟨show 0 ≤ (p : Int) ∧ (p : Int) < (l.length : Int) by rw [eP]; omega, ?_⟩
      intro _; refine ⟨show ((p : Int)).toNat < c1.length by rw [nP]; omega, ?_⟩
      intro _
      refine Or.inl ?_
      intro _
      refine call_pure [] (less_ok (at' c1 (x - 1)) (at' c1 (p))) rfl rfl rfl ?_ ?_ ?_
      · (repeat' first | exact trivial | exact rfl | refine And.intro ?_ ?_)
      · (repeat' first | exact trivial | exact rfl | refine And.intro ?_ ?_)
        show at' c1 (x - 1) = c1.getD (IntKind.i64.wrap ((x : Int) - 1)).toNat 0
        rw [n1]; rfl
      intro v hv _
      subst hv
      intro _; refine ⟨by kernel_rfl, ?_⟩
      intro _; refine ⟨fun g => ?_, fun g => ?_⟩
      · have g2 : (!decide (at' c1 (x - 1) < at' c1 (p))) = true := g
        rw [Bool.not_eq_true'] at g2
        have g2 := of_decide_eq_false g2
        intro _
        refine call_mut [(0, some 0)] (parteq_ok c1 x y (p) (by omega) (by omega) (by omega) (by omega)) rfl rfl rfl rfl ?_ ?_ ?_
        · (repeat' first | exact trivial | exact rfl | refine And.intro ?_ ?_)
        · (repeat' first | exact trivial | exact rfl | refine And.intro ?_ ?_)
          exact hcl
        intro v h' ⟨c2, m, ⟨hp2, hm1, hm2, hq1, hq2⟩, hv, hd⟩
        subst hv
        refine ⟨_, mut1 hd, rfl, ?_⟩
        have hvx : at' c1 (p) ≤ at' c2 (x - 1) := by rw [hp2.out (x - 1) (.inl (by omega))]; omega
        have hO : Ou a b x y c2 := hO.pm (by omega) hp2
        have hc : Pm a b l c2 := hc.trans (hp2.wide hO.aa hO.bb)
        have hcl : c2.length = l.length := hc.len
        have hlbx : Lb c2 x y := hO.lb (hlb.pm hc hab hb)
        have hOe : Ou a b m y c2 := hO.eq hlbx (by omega) hm1 hm2 hvx hq1 hq2
        refine ⟨⟨(m, y, IntKind.i64.wrap (lm - 1), wb, wp, c2), hc, hOe⟩, by show y - m < y - x; omega, th [] 1, rfl, rfl, rfl, rfl, rfl, rfl, ?_, ?_⟩
        · (repeat' first | exact trivial | exact rfl | refine And.intro ?_ ?_)
        · (repeat' first | exact trivial | exact rfl | refine And.intro ?_ ?_)
      intro _
      refine call_mut [(0, some 0)] (part_ok c1 x y (p) (by omega) (by omega) (by omega) (by omega)) rfl rfl rfl rfl ?_ ?_ ?_
      · (repeat' first | exact trivial | exact rfl | refine And.intro ?_ ?_)
      · (repeat' first | exact trivial | exact rfl | refine And.intro ?_ ?_)
        exact hcl
      intro v h' ⟨c2, m, q, ⟨hp2, hPt⟩, hv, hd⟩
      subst hv
      refine ⟨_, mut1 hd, rfl, ?_⟩
      have hO : Ou a b x y c2 := hO.pm (by omega) hp2
      have hc : Pm a b l c2 := hc.trans (hp2.wide hO.aa hO.bb)
      have hcl : c2.length = l.length := hc.len
      have hlbx : Lb c2 x y := hO.lb (hlb.pm hc hab hb)
      have m1 := hPt.am
      have m2 := hPt.mb
      have eL : IntKind.i64.wrap ((m : Int) - (x : Int)) = ((m - x : Nat) : Int) := by rw [wrapS _ ⟨by omega, by omega⟩]; omega
      have eR : IntKind.i64.wrap ((y : Int) - (m : Int)) = ((y - m : Nat) : Int) := by rw [wrapS _ ⟨by omega, by omega⟩]; omega
      have em1 : IntKind.i64.wrap ((m : Int) + 1) = ((m + 1 : Nat) : Int) := by rw [wrapS _ ⟨by omega, by omega⟩]; omega
      have lbL : Lb c2 x m := fun h0 k k1 k2 => hlbx h0 k k1 (by omega)
      have lbR : Lb c2 (m + 1) y := fun h0 k k1 k2 => hPt.right k (by omega) k2
      intro _; refine ⟨by omega, ?_⟩
      intro _; refine ⟨fun g => ?_, fun g => ?_⟩
      · intro _
        refine call_mut [(0, some 0)] (ih (m - x) (by omega) c2 x m (IntKind.i64.wrap (lm - 1)) (Nat.le_refl _) (by omega) (by omega) (by omega) lbL) rfl rfl rfl rfl ?_ ?_ ?_
        · (repeat' first | exact trivial | exact rfl | refine And.intro ?_ ?_)
        · (repeat' first | exact trivial | exact rfl | refine And.intro ?_ ?_)
          exact hcl
        intro v h' ⟨c3, ⟨hp3, hs3⟩, hv, hd⟩
        subst hv
        refine ⟨_, mut1 hd, rfl, ?_⟩
        have hPt3 : Pt x y m c3 := hPt.left' (by omega) hp3
        have hO3 : Ou a b x y c3 := hO.pm (by omega) (hp3.wide (Nat.le_refl _) (by omega))
        have hc3 : Pm a b l c3 := hc.trans (hp3.wide hO.aa (by omega))
        refine ⟨⟨(m + 1, y, IntKind.i64.wrap (lm - 1), decide (IntKind.i64.wrap ((m : Int) - (x : Int)) ≥ IntKind.i64.wrap ((IntKind.i64.wrap ((y : Int) - (x : Int))).tdiv 8)), q, c3), hc3, hO3.left hPt3 hs3⟩, by show y - (m + 1) < y - x; omega, th [] 1, rfl, rfl, rfl, rfl, rfl, rfl, ?_, ?_⟩
        · (repeat' first | exact trivial | exact rfl | refine And.intro ?_ ?_)
          exact em1.symm
        · (repeat' first | exact trivial | exact rfl | refine And.intro ?_ ?_)
      intro _
      refine call_mut [(0, some 0)] (ih (y - (m + 1)) (by omega) c2 (m + 1) y (IntKind.i64.wrap (lm - 1)) (Nat.le_refl _) (by omega) (by omega) (by omega) lbR) rfl rfl rfl rfl ?_ ?_ ?_
      · (repeat' first | exact trivial | exact rfl | refine And.intro ?_ ?_)
      · (repeat' first | exact trivial | exact rfl | refine And.intro ?_ ?_)
        · exact hcl
        · exact em1.symm
      intro v h' ⟨c3, ⟨hp3, hs3⟩, hv, hd⟩
      subst hv
      refine ⟨_, mut1 hd, rfl, ?_⟩
      have hPt3 : Pt x y m c3 := hPt.right' (by omega) hp3
      have hO3 : Ou a b x y c3 := hO.pm (by omega) (hp3.wide (by omega) (Nat.le_refl _))
      have hc3 : Pm a b l c3 := hc.trans (hp3.wide (by omega) hO.bb)
      refine ⟨⟨(x, m, IntKind.i64.wrap (lm - 1), decide (IntKind.i64.wrap ((y : Int) - (m : Int)) ≥ IntKind.i64.wrap ((IntKind.i64.wrap ((y : Int) - (x : Int))).tdiv 8)), q, c3), hc3, hO3.right hPt3 hs3⟩, by show m - x < y - x; omega, th [] 1, rfl, rfl, rfl, rfl, rfl, rfl, ?_, ?_⟩
      · (repeat' first | exact trivial | exact rfl | refine And.intro ?_ ?_)
      · (repeat' first | exact trivial | exact rfl | refine And.intro ?_ ?_)
    intro _; refine ⟨by kernel_rfl, ?_⟩
    intro _
    refine call_mut [(0, some 0)] (part_ok c1 x y (p) (by omega) (by omega) (by omega) (by omega)) rfl rfl rfl rfl ?_ ?_ ?_
    · (repeat' first | exact trivial | exact rfl | refine And.intro ?_ ?_)
    · (repeat' first | exact trivial | exact rfl | refine And.intro ?_ ?_)
      exact hcl
    intro v h' ⟨c2, m, q, ⟨hp2, hPt⟩, hv, hd⟩
    subst hv
    refine ⟨_, mut1 hd, rfl, ?_⟩
    have hO : Ou a b x y c2 := hO.pm (by omega) hp2
    have hc : Pm a b l c2 := hc.trans (hp2.wide hO.aa hO.bb)
    have hcl : c2.length = l.length := hc.len
    have hlbx : Lb c2 x y := hO.lb (hlb.pm hc hab hb)
    have m1 := hPt.am
    have m2 := hPt.mb
    have eL : IntKind.i64.wrap ((m : Int) - (x : Int)) = ((m - x : Nat) : Int) := by rw [wrapS _ ⟨by omega, by omega⟩]; omega
    have eR : IntKind.i64.wrap ((y : Int) - (m : Int)) = ((y - m : Nat) : Int) := by rw [wrapS _ ⟨by omega, by omega⟩]; omega
    have em1 : IntKind.i64.wrap ((m : Int) + 1) = ((m + 1 : Nat) : Int) := by rw [wrapS _ ⟨by omega, by omega⟩]; omega
    have lbL : Lb c2 x m := fun h0 k k1 k2 => hlbx h0 k k1 (by omega)
    have lbR : Lb c2 (m + 1) y := fun h0 k k1 k2 => hPt.right k (by omega) k2
    intro _; refine ⟨by omega, ?_⟩
    intro _; refine ⟨fun g => ?_, fun g => ?_⟩
    · intro _
      refine call_mut [(0, some 0)] (ih (m - x) (by omega) c2 x m (IntKind.i64.wrap (lm - 1)) (Nat.le_refl _) (by omega) (by omega) (by omega) lbL) rfl rfl rfl rfl ?_ ?_ ?_
      · (repeat' first | exact trivial | exact rfl | refine And.intro ?_ ?_)
      · (repeat' first | exact trivial | exact rfl | refine And.intro ?_ ?_)
        exact hcl
      intro v h' ⟨c3, ⟨hp3, hs3⟩, hv, hd⟩
      subst hv
      refine ⟨_, mut1 hd, rfl, ?_⟩
      have hPt3 : Pt x y m c3 := hPt.left' (by omega) hp3
      have hO3 : Ou a b x y c3 := hO.pm (by omega) (hp3.wide (Nat.le_refl _) (by omega))
      have hc3 : Pm a b l c3 := hc.trans (hp3.wide hO.aa (by omega))
      refine ⟨⟨(m + 1, y, IntKind.i64.wrap (lm - 1), decide (IntKind.i64.wrap ((m : Int) - (x : Int)) ≥ IntKind.i64.wrap ((IntKind.i64.wrap ((y : Int) - (x : Int))).tdiv 8)), q, c3), hc3, hO3.left hPt3 hs3⟩, by show y - (m + 1) < y - x; omega, th [] 1, rfl, rfl, rfl, rfl, rfl, rfl, ?_, ?_⟩
      · (repeat' first | exact trivial | exact rfl | refine And.intro ?_ ?_)
        exact em1.symm
      · (repeat' first | exact trivial | exact rfl | refine And.intro ?_ ?_)
    intro _
    refine call_mut [(0, some 0)] (ih (y - (m + 1)) (by omega) c2 (m + 1) y (IntKind.i64.wrap (lm - 1)) (Nat.le_refl _) (by omega) (by omega) (by omega) lbR) rfl rfl rfl rfl ?_ ?_ ?_
    · (repeat' first | exact trivial | exact rfl | refine And.intro ?_ ?_)
    · (repeat' first | exact trivial | exact rfl | refine And.intro ?_ ?_)
      · exact hcl
      · exact em1.symm
    intro v h' ⟨c3, ⟨hp3, hs3⟩, hv, hd⟩
    subst hv
    refine ⟨_, mut1 hd, rfl, ?_⟩
    have hPt3 : Pt x y m c3 := hPt.right' (by omega) hp3
    have hO3 : Ou a b x y c3 := hO.pm (by omega) (hp3.wide (by omega) (Nat.le_refl _))
    have hc3 : Pm a b l c3 := hc.trans (hp3.wide (by omega) hO.bb)
    refine ⟨⟨(x, m, IntKind.i64.wrap (lm - 1), decide (IntKind.i64.wrap ((y : Int) - (m : Int)) ≥ IntKind.i64.wrap ((IntKind.i64.wrap ((y : Int) - (x : Int))).tdiv 8)), q, c3), hc3, hO3.right hPt3 hs3⟩, by show m - x < y - x; omega, th [] 1, rfl, rfl, rfl, rfl, rfl, rfl, ?_, ?_⟩
    · (repeat' first | exact trivial | exact rfl | refine And.intro ?_ ?_)
    · (repeat' first | exact trivial | exact rfl | refine And.intro ?_ ?_)
  have g : (!wb) = false := g
  rw [Bool.not_eq_false'] at g
  have hwb : wb = true := g
  intro _
  refine call_mut [(0, some 0)] (pivot_ok c x y (by omega) (by omega) (by omega)) rfl rfl rfl rfl ?_ ?_ ?_
  · (repeat' first | exact trivial | exact rfl | refine And.intro ?_ ?_)
  · (repeat' first | exact trivial | exact rfl | refine And.intro ?_ ?_)
    exact hcl
  intro v h' ⟨p, k, hpp, hk, hv, hd⟩
  subst hv
  refine ⟨_, mut1 hd, rfl, ?_⟩
  intro _; refine ⟨fun g => ?_, fun g => ?_⟩
  · intro _
    refine call_mut [(0, some 0)] (rev_ok c x y (by omega) (by omega) (by omega)) rfl rfl rfl rfl ?_ ?_ ?_
    · (repeat' first | exact trivial | exact rfl | refine And.intro ?_ ?_)
    · (repeat' first | exact trivial | exact rfl | refine And.intro ?_ ?_)
      exact hcl
    intro v h' ⟨c5, hp5, hv, hd⟩
    subst hv
    refine ⟨_, mut1 hd, rfl, ?_⟩
    have hO : Ou a b x y c5 := hO.pm (by omega) hp5
    have hc : Pm a b l c5 := hc.trans (hp5.wide hO.aa hO.bb)
    have hcl : c5.length = l.length := hc.len
    have hlbx : Lb c5 x y := hO.lb (hlb.pm hc hab hb)
    have eqP : ((y - 1 - (p - x) : Nat) : Int) = IntKind.i64.wrap (IntKind.i64.wrap ((y : Int) - 1) - IntKind.i64.wrap ((p : Int) - (x : Int))) := by
      rw [wrapS ((y : Int) - 1) ⟨by omega, by omega⟩, wrapS ((p : Int) - (x : Int)) ⟨by omega, by omega⟩, wrapS _ ⟨by omega, by omega⟩]; omega
    intro _; refine ⟨fun g => ?_, fun g => ?_⟩
    · intro _; refine ⟨fun g => ?_, fun g => ?_⟩
      · intro _; refine ⟨fun g => ?_, fun g => ?_⟩
        · intro _
          refine call_mut [(0, some 0)] (pins_ok c5 x y (by omega) (by omega) (by omega) hlbx) rfl rfl rfl rfl ?_ ?_ ?_
          · (repeat' first | exact trivial | exact rfl | refine And.intro ?_ ?_)
          · (repeat' first | exact trivial | exact rfl | refine And.intro ?_ ?_)
            exact hcl
          intro v h' ⟨c4, q4, ⟨hp4, hs4⟩, hv, hd⟩
          subst hv
          refine ⟨_, mut1 hd, rfl, ?_⟩
          have hO : Ou a b x y c4 := hO.pm (by omega) hp4
          have hc : Pm a b l c4 := hc.trans (hp4.wide hO.aa hO.bb)
          have hcl : c4.length = l.length := hc.len
          have hlbx : Lb c4 x y := hO.lb (hlb.pm hc hab hb)
          cases q4 with
          | true =>
            intro _
            exact ⟨c4, ⟨hc, hO.fin (hs4 rfl)⟩, rfl, rfl⟩
          | false =>
            intro _; refine ⟨fun g => ?_, fun g => ?_⟩
            · have g0 := of_decide_eq_true (show decide ((x : Int) > 0) = true from g)
              have ex : IntKind.i64.wrap ((x : Int) - 1) = (x : Int) - 1 := wrapS _ ⟨by omega, by omega⟩
              have n1 : (IntKind.i64.wrap ((x : Int) - 1)).toNat = x - 1 := by rw [ex]; omega
              have eP : IntKind.i64.wrap (IntKind.i64.wrap ((y : Int) - 1) - IntKind.i64.wrap ((p : Int) - (x : Int))) = ((y - 1 - (p - x) : Nat) : Int) := (eqP).symm
              have nP : (IntKind.i64.wrap (IntKind.i64.wrap ((y : Int) - 1) - IntKind.i64.wrap ((p : Int) - (x : Int)))).toNat = y - 1 - (p - x) := by rw [eP]; rfl
              intro _; refine ⟨show 0 ≤ IntKind.i64.wrap ((x : Int) - 1) ∧ IntKind.i64.wrap ((x : Int) - 1) < (l.length : Int) by rw [ex]; omega, ?_⟩
              intro _; refine ⟨show (IntKind.i64.wrap ((x : Int) - 1)).toNat < c4.length by rw [n1]; omega, ?_⟩
              intro _; refine ⟨show 0 ≤ IntKind.i64.wrap (IntKind.i64.wrap ((y : Int) - 1) - IntKind.i64.wrap ((p : Int) - (x : Int))) ∧ IntKind.i64.wrap (IntKind.i64.wrap ((y : Int) - 1) - IntKind.i64.wrap ((p : Int) - (x : Int))) < (l.length : Int) by rw [eP]; omega, ?_⟩
              intro _; refine ⟨show (IntKind.i64.wrap (IntKind.i64.wrap ((y : Int) - 1) - IntKind.i64.wrap ((p : Int) - (x : Int)))).toNat < c4.length by rw [nP]; omega, ?_⟩
              intro _
              refine Or.inl ?_
              intro _
              refine call_pure [] (less_ok (at' c4 (x - 1)) (at' c4 (y - 1 - (p - x)))) rfl rfl rfl ?_ ?_ ?_
              · (repeat' first | exact trivial | exact rfl | refine And.intro ?_ ?_)
              · (repeat' first | exact trivial | exact rfl | refine And.intro ?_ ?_)
                show at' c4 (x - 1) = c4.getD (IntKind.i64.wrap ((x : Int) - 1)).toNat 0
                rw [n1]; rfl
                show at' c4 (y - 1 - (p - x)) = c4.getD (IntKind.i64.wrap (IntKind.i64.wrap ((y : Int) - 1) - IntKind.i64.wrap ((p : Int) - (x : Int)))).toNat 0
                rw [nP]; rfl
              intro v hv _
              subst hv
              intro _; refine ⟨by kernel_rfl, ?_⟩
              intro _; refine ⟨fun g => ?_, fun g => ?_⟩
              · have g2 : (!decide (at' c4 (x - 1) < at' c4 (y - 1 - (p - x)))) = true := g
                rw [Bool.not_eq_true'] at g2
                have g2 := of_decide_eq_false g2
                intro _
                refine call_mut [(0, some 0)] (parteq_ok c4 x y (y - 1 - (p - x)) (by omega) (by omega) (by omega) (by omega)) rfl rfl rfl rfl ?_ ?_ ?_
                · (repeat' first | exact trivial | exact rfl | refine And.intro ?_ ?_)
                · (repeat' first | exact trivial | exact rfl | refine And.intro ?_ ?_)
                  · exact hcl
                  · exact eqP
                intro v h' ⟨c2, m, ⟨hp2, hm1, hm2, hq1, hq2⟩, hv, hd⟩
                subst hv
                refine ⟨_, mut1 hd, rfl, ?_⟩
                have hvx : at' c4 (y - 1 - (p - x)) ≤ at' c2 (x - 1) := by rw [hp2.out (x - 1) (.inl (by omega))]; omega
                have hO : Ou a b x y c2 := hO.pm (by omega) hp2
                have hc : Pm a b l c2 := hc.trans (hp2.wide hO.aa hO.bb)
                have hcl : c2.length = l.length := hc.len
                have hlbx : Lb c2 x y := hO.lb (hlb.pm hc hab hb)
                have hOe : Ou a b m y c2 := hO.eq hlbx (by omega) hm1 hm2 hvx hq1 hq2
                refine ⟨⟨(m, y, lm, wb, wp, c2), hc, hOe⟩, by show y - m < y - x; omega, th [] 1, rfl, rfl, rfl, rfl, rfl, rfl, ?_, ?_⟩
                · (repeat' first | exact trivial | exact rfl | refine And.intro ?_ ?_)
                · (repeat' first | exact trivial | exact rfl | refine And.intro ?_ ?_)
              intro _
              refine call_mut [(0, some 0)] (part_ok c4 x y (y - 1 - (p - x)) (by omega) (by omega) (by omega) (by omega)) rfl rfl rfl rfl ?_ ?_ ?_
              · (repeat' first | exact trivial | exact rfl | refine And.intro ?_ ?_)
              · (repeat' first | exact trivial | exact rfl | refine And.intro ?_ ?_)
                · exact hcl
                · exact eqP
              intro v h' ⟨c2, m, q, ⟨hp2, hPt⟩, hv, hd⟩
              subst hv
              refine ⟨_, mut1 hd, rfl, ?_⟩
              have hO : Ou a b x y c2 := hO.pm (by omega) hp2
              have hc : Pm a b l c2 := hc.trans (hp2.wide hO.aa hO.bb)
              have hcl : c2.length = l.length := hc.len
              have hlbx : Lb c2 x y := hO.lb (hlb.pm hc hab hb)
              have m1 := hPt.am
              have m2 := hPt.mb
              have eL : IntKind.i64.wrap ((m : Int) - (x : Int)) = ((m - x : Nat) : Int) := by rw [wrapS _ ⟨by omega, by omega⟩]; omega
              have eR : IntKind.i64.wrap ((y : Int) - (m : Int)) = ((y - m : Nat) : Int) := by rw [wrapS _ ⟨by omega, by omega⟩]; omega
              have em1 : IntKind.i64.wrap ((m : Int) + 1) = ((m + 1 : Nat) : Int) := by rw [wrapS _ ⟨by omega, by omega⟩]; omega
              have lbL : Lb c2 x m := fun h0 k k1 k2 => hlbx h0 k k1 (by omega)
              have lbR : Lb c2 (m + 1) y := fun h0 k k1 k2 => hPt.right k (by omega) k2
              intro _; refine ⟨by omega, ?_⟩
              intro _; refine ⟨fun g => ?_, fun g => ?_⟩
              · intro _
                refine call_mut [(0, some 0)] (ih (m - x) (by omega) c2 x m (lm) (Nat.le_refl _) (by omega) (by omega) (by omega) lbL) rfl rfl rfl rfl ?_ ?_ ?_
                · (repeat' first | exact trivial | exact rfl | refine And.intro ?_ ?_)
                · (repeat' first | exact trivial | exact rfl | refine And.intro ?_ ?_)
                  exact hcl
                intro v h' ⟨c3, ⟨hp3, hs3⟩, hv, hd⟩
                subst hv
                refine ⟨_, mut1 hd, rfl, ?_⟩
                have hPt3 : Pt x y m c3 := hPt.left' (by omega) hp3
                have hO3 : Ou a b x y c3 := hO.pm (by omega) (hp3.wide (Nat.le_refl _) (by omega))
                have hc3 : Pm a b l c3 := hc.trans (hp3.wide hO.aa (by omega))
                refine ⟨⟨(m + 1, y, lm, decide (IntKind.i64.wrap ((m : Int) - (x : Int)) ≥ IntKind.i64.wrap ((IntKind.i64.wrap ((y : Int) - (x : Int))).tdiv 8)), q, c3), hc3, hO3.left hPt3 hs3⟩, by show y - (m + 1) < y - x; omega, th [] 1, rfl, rfl, rfl, rfl, rfl, rfl, ?_, ?_⟩
                · (repeat' first | exact trivial | exact rfl | refine And.intro ?_ ?_)
                  exact em1.symm
                · (repeat' first | exact trivial | exact rfl | refine And.intro ?_ ?_)
              intro _
              refine call_mut [(0, some 0)] (ih (y - (m + 1)) (by omega) c2 (m + 1) y (lm) (Nat.le_refl _) (by omega) (by omega) (by omega) lbR) rfl rfl rfl rfl ?_ ?_ ?_
              · (repeat' first | exact trivial | exact rfl | refine And.intro ?_ ?_)
              · (repeat' first | exact trivial | exact rfl | refine And.intro ?_ ?_)
                · exact hcl
                · exact em1.symm
              intro v h' ⟨c3, ⟨hp3, hs3⟩, hv, hd⟩
              subst hv
              refine ⟨_, mut1 hd, rfl, ?_⟩
              have hPt3 : Pt x y m c3 := hPt.right' (by omega) hp3
              have hO3 : Ou a b x y c3 := hO.pm (by omega) (hp3.wide (by omega) (Nat.le_refl _))
              have hc3 : Pm a b l c3 := hc.trans (hp3.wide (by omega) hO.bb)
              refine ⟨⟨(x, m, lm, decide (IntKind.i64.wrap ((y : Int) - (m : Int)) ≥ IntKind.i64.wrap ((IntKind.i64.wrap ((y : Int) - (x : Int))).tdiv 8)), q, c3), hc3, hO3.right hPt3 hs3⟩, by show m - x < y - x; omega, th [] 1, rfl, rfl, rfl, rfl, rfl, rfl, ?_, ?_⟩
              · (repeat' first | exact trivial | exact rfl | refine And.intro ?_ ?_)
              · (repeat' first | exact trivial | exact rfl | refine And.intro ?_ ?_)
            intro _; refine ⟨by kernel_rfl, ?_⟩
            intro _
            refine call_mut [(0, some 0)] (part_ok c4 x y (y - 1 - (p - x)) (by omega) (by omega) (by omega) (by omega)) rfl rfl rfl rfl ?_ ?_ ?_
            · (repeat' first | exact trivial | exact rfl | refine And.intro ?_ ?_)
            · (repeat' first | exact trivial | exact rfl | refine And.intro ?_ ?_)
              · exact hcl
              · exact eqP
            intro v h' ⟨c2, m, q, ⟨hp2, hPt⟩, hv, hd⟩
            subst hv
            refine ⟨_, mut1 hd, rfl, ?_⟩
            have hO : Ou a b x y c2 := hO.pm (by omega) hp2
            have hc : Pm a b l c2 := hc.trans (hp2.wide hO.aa hO.bb)
            have hcl : c2.length = l.length := hc.len
            have hlbx : Lb c2 x y := hO.lb (hlb.pm hc hab hb)
            have m1 := hPt.am
            have m2 := hPt.mb
            have eL : IntKind.i64.wrap ((m : Int) - (x : Int)) = ((m - x : Nat) : Int) := by rw [wrapS _ ⟨by omega, by omega⟩]; omega
            have eR : IntKind.i64.wrap ((y : Int) - (m : Int)) = ((y - m : Nat) : Int) := by rw [wrapS _ ⟨by omega, by omega⟩]; omega
            have em1 : IntKind.i64.wrap ((m : Int) + 1) = ((m + 1 : Nat) : Int) := by rw [wrapS _ ⟨by omega, by omega⟩]; omega
            have lbL : Lb c2 x m := fun h0 k k1 k2 => hlbx h0 k k1 (by omega)
            have lbR : Lb c2 (m + 1) y := fun h0 k k1 k2 => hPt.right k (by omega) k2
            intro _; refine ⟨by omega, ?_⟩
            intro _; refine ⟨fun g => ?_, fun g => ?_⟩
            · intro _
              refine call_mut [(0, some 0)] (ih (m - x) (by omega) c2 x m (lm) (Nat.le_refl _) (by omega) (by omega) (by omega) lbL) rfl rfl rfl rfl ?_ ?_ ?_
              · (repeat' first | exact trivial | exact rfl | refine And.intro ?_ ?_)
              · (repeat' first | exact trivial | exact rfl | refine And.intro ?_ ?_)
                exact hcl
              intro v h' ⟨c3, ⟨hp3, hs3⟩, hv, hd⟩
              subst hv
              refine ⟨_, mut1 hd, rfl, ?_⟩
              have hPt3 : Pt x y m c3 := hPt.left' (by omega) hp3
              have hO3 : Ou a b x y c3 := hO.pm (by omega) (hp3.wide (Nat.le_refl _) (by omega))
              have hc3 : Pm a b l c3 := hc.trans (hp3.wide hO.aa (by omega))
              refine ⟨⟨(m + 1, y, lm, decide (IntKind.i64.wrap ((m : Int) - (x : Int)) ≥ IntKind.i64.wrap ((IntKind.i64.wrap ((y : Int) - (x : Int))).tdiv 8)), q, c3), hc3, hO3.left hPt3 hs3⟩, by show y - (m + 1) < y - x; omega, th [] 1, rfl, rfl, rfl, rfl, rfl, rfl, ?_, ?_⟩
              · (repeat' first | exact trivial | exact rfl | refine And.intro ?_ ?_)
                exact em1.symm
              · (repeat' first | exact trivial | exact rfl | refine And.intro ?_ ?_)
            intro _
            refine call_mut [(0, some 0)] (ih (y - (m + 1)) (by omega) c2 (m + 1) y (lm) (Nat.le_refl _) (by omega) (by omega) (by omega) lbR) rfl rfl rfl rfl ?_ ?_ ?_
            · (repeat' first | exact trivial | exact rfl | refine And.intro ?_ ?_)
            · (repeat' first | exact trivial | exact rfl | refine And.intro ?_ ?_)
              · exact hcl
              · exact em1.symm
            intro v h' ⟨c3, ⟨hp3, hs3⟩, hv, hd⟩
            subst hv
            refine ⟨_, mut1 hd, rfl, ?_⟩
            have hPt3 : Pt x y m c3 := hPt.right' (by omega) hp3
            have hO3 : Ou a b x y c3 := hO.pm (by omega) (hp3.wide (by omega) (Nat.le_refl _))
            have hc3 : Pm a b l c3 := hc.trans (hp3.wide (by omega) hO.bb)
            refine ⟨⟨(x, m, lm, decide (IntKind.i64.wrap ((y : Int) - (m : Int)) ≥ IntKind.i64.wrap ((IntKind.i64.wrap ((y : Int) - (x : Int))).tdiv 8)), q, c3), hc3, hO3.right hPt3 hs3⟩, by show m - x < y - x; omega, th [] 1, rfl, rfl, rfl, rfl, rfl, rfl, ?_, ?_⟩
            · (repeat' first | exact trivial | exact rfl | refine And.intro ?_ ?_)
            · (repeat' first | exact trivial | exact rfl | refine And.intro ?_ ?_)
        intro _; refine ⟨fun g => ?_, fun g => ?_⟩
        · have g0 := of_decide_eq_true (show decide ((x : Int) > 0) = true from g)
          have ex : IntKind.i64.wrap ((x : Int) - 1) = (x : Int) - 1 := wrapS _ ⟨by omega, by omega⟩
          have n1 : (IntKind.i64.wrap ((x : Int) - 1)).toNat = x - 1 := by rw [ex]; omega
          have eP : IntKind.i64.wrap (IntKind.i64.wrap ((y : Int) - 1) - IntKind.i64.wrap ((p : Int) - (x : Int))) = ((y - 1 - (p - x) : Nat) : Int) := (eqP).symm
          have nP : (IntKind.i64.wrap (IntKind.i64.wrap ((y : Int) - 1) - IntKind.i64.wrap ((p : Int) - (x : Int)))).toNat = y - 1 - (p - x) := by rw [eP]; rfl
          intro _; refine ⟨show 0 ≤ IntKind.i64.wrap ((x : Int) - 1) ∧ IntKind.i64.wrap ((x : Int) - 1) < (l.length : Int) by rw [ex]; omega, ?_⟩
          intro _; refine ⟨show (IntKind.i64.wrap ((x : Int) - 1)).toNat < c5.length by rw [n1]; omega, ?_⟩
          intro _; refine ⟨show 0 ≤ IntKind.i64.wrap (IntKind.i64.wrap ((y : Int) - 1) - IntKind.i64.wrap ((p : Int) - (x : Int))) ∧ IntKind.i64.wrap (IntKind.i64.wrap ((y : Int) - 1) - IntKind.i64.wrap ((p : Int) - (x : Int))) < (l.length : Int) by rw [eP]; omega, ?_⟩
          intro _; refine ⟨show (IntKind.i64.wrap (IntKind.i64.wrap ((y : Int) - 1) - IntKind.i64.wrap ((p : Int) - (x : Int)))).toNat < c5.length by rw [nP]; omega, ?_⟩
          intro _
          refine Or.inl ?_
          intro _
          refine call_pure [] (less_ok (at' c5 (x - 1)) (at' c5 (y - 1 - (p - x)))) rfl rfl rfl ?_ ?_ ?_
          · (repeat' first | exact trivial | exact rfl | refine And.intro ?_ ?_)
          · (repeat' first | exact trivial | exact rfl | refine And.intro ?_ ?_)
            show at' c5 (x - 1) = c5.getD (IntKind.i64.wrap ((x : Int) - 1)).toNat 0
            rw [n1]; rfl
            show at' c5 (y - 1 - (p - x)) = c5.getD (IntKind.i64.wrap (IntKind.i64.wrap ((y : Int) - 1) - IntKind.i64.wrap ((p : Int) - (x : Int)))).toNat 0
            rw [nP]; rfl
          intro v hv _
          subst hv
          intro _; refine ⟨by kernel_rfl, ?_⟩
          intro _; refine ⟨fun g => ?_, fun g => ?_⟩
          · have g2 : (!decide (at' c5 (x - 1) < at' c5 (y - 1 - (p - x)))) = true := g
            rw [Bool.not_eq_true'] at g2
            have g2 := of_decide_eq_false g2
            intro _
            refine call_mut [(0, some 0)] (parteq_ok c5 x y (y - 1 - (p - x)) (by omega) (by omega) (by omega) (by omega)) rfl rfl rfl rfl ?_ ?_ ?_
            · (repeat' first | exact trivial | exact rfl | refine And.intro ?_ ?_)
            · (repeat' first | exact trivial | exact rfl | refine And.intro ?_ ?_)
              · exact hcl
              · exact eqP
            intro v h' ⟨c2, m, ⟨hp2, hm1, hm2, hq1, hq2⟩, hv, hd⟩
            subst hv
            refine ⟨_, mut1 hd, rfl, ?_⟩
            have hvx : at' c5 (y - 1 - (p - x)) ≤ at' c2 (x - 1) := by rw [hp2.out (x - 1) (.inl (by omega))]; omega
            have hO : Ou a b x y c2 := hO.pm (by omega) hp2
            have hc : Pm a b l c2 := hc.trans (hp2.wide hO.aa hO.bb)
            have hcl : c2.length = l.length := hc.len
            have hlbx : Lb c2 x y := hO.lb (hlb.pm hc hab hb)
            have hOe : Ou a b m y c2 := hO.eq hlbx (by omega) hm1 hm2 hvx hq1 hq2
            refine ⟨⟨(m, y, lm, wb, wp, c2), hc, hOe⟩, by show y - m < y - x; omega, th [] 1, rfl, rfl, rfl, rfl, rfl, rfl, ?_, ?_⟩
            · (repeat' first | exact trivial | exact rfl | refine And.intro ?_ ?_)
            · (repeat' first | exact trivial | exact rfl | refine And.intro ?_ ?_)
          intro _
          refine call_mut [(0, some 0)] (part_ok c5 x y (y - 1 - (p - x)) (by omega) (by omega) (by omega) (by omega)) rfl rfl rfl rfl ?_ ?_ ?_
          · (repeat' first | exact trivial | exact rfl | refine And.intro ?_ ?_)
          · (repeat' first | exact trivial | exact rfl | refine And.intro ?_ ?_)
            · exact hcl
            · exact eqP
          intro v h' ⟨c2, m, q, ⟨hp2, hPt⟩, hv, hd⟩
          subst hv
          refine ⟨_, mut1 hd, rfl, ?_⟩
          have hO : Ou a b x y c2 := hO.pm (by omega) hp2
          have hc : Pm a b l c2 := hc.trans (hp2.wide hO.aa hO.bb)
          have hcl : c2.length = l.length := hc.len
          have hlbx : Lb c2 x y := hO.lb (hlb.pm hc hab hb)
          have m1 := hPt.am
          have m2 := hPt.mb
          have eL : IntKind.i64.wrap ((m : Int) - (x : Int)) = ((m - x : Nat) : Int) := by rw [wrapS _ ⟨by omega, by omega⟩]; omega
          have eR : IntKind.i64.wrap ((y : Int) - (m : Int)) = ((y - m : Nat) : Int) := by rw [wrapS _ ⟨by omega, by omega⟩]; omega
          have em1 : IntKind.i64.wrap ((m : Int) + 1) = ((m + 1 : Nat) : Int) := by rw [wrapS _ ⟨by omega, by omega⟩]; omega
          have lbL : Lb c2 x m := fun h0 k k1 k2 => hlbx h0 k k1 (by omega)
          have lbR : Lb c2 (m + 1) y := fun h0 k k1 k2 => hPt.right k (by omega) k2
          intro _; refine ⟨by omega, ?_⟩
          intro _; refine ⟨fun g => ?_, fun g => ?_⟩
          · intro _
            refine call_mut [(0, some 0)] (ih (m - x) (by omega) c2 x m (lm) (Nat.le_refl _) (by omega) (by omega) (by omega) lbL) rfl rfl rfl rfl ?_ ?_ ?_
            · (repeat' first | exact trivial | exact rfl | refine And.intro ?_ ?_)
            · (repeat' first | exact trivial | exact rfl | refine And.intro ?_ ?_)
              exact hcl
            intro v h' ⟨c3, ⟨hp3, hs3⟩, hv, hd⟩
            subst hv
            refine ⟨_, mut1 hd, rfl, ?_⟩
            have hPt3 : Pt x y m c3 := hPt.left' (by omega) hp3
            have hO3 : Ou a b x y c3 := hO.pm (by omega) (hp3.wide (Nat.le_refl _) (by omega))
            have hc3 : Pm a b l c3 := hc.trans (hp3.wide hO.aa (by omega))
            refine ⟨⟨(m + 1, y, lm, decide (IntKind.i64.wrap ((m : Int) - (x : Int)) ≥ IntKind.i64.wrap ((IntKind.i64.wrap ((y : Int) - (x : Int))).tdiv 8)), q, c3), hc3, hO3.left hPt3 hs3⟩, by show y - (m + 1) < y - x; omega, th [] 1, rfl, rfl, rfl, rfl, rfl, rfl, ?_, ?_⟩
            · (repeat' first | exact trivial | exact rfl | refine And.intro ?_ ?_)
              exact em1.symm
            · (repeat' first | exact trivial | exact rfl | refine And.intro ?_ ?_)
          intro _
          refine call_mut [(0, some 0)] (ih (y - (m + 1)) (by omega) c2 (m + 1) y (lm) (Nat.le_refl _) (by omega) (by omega) (by omega) lbR) rfl rfl rfl rfl ?_ ?_ ?_
          · (repeat' first | exact trivial | exact rfl | refine And.intro ?_ ?_)
          · (repeat' first | exact trivial | exact rfl | refine And.intro ?_ ?_)
            · exact hcl
            · exact em1.symm
          intro v h' ⟨c3, ⟨hp3, hs3⟩, hv, hd⟩
          subst hv
          refine ⟨_, mut1 hd, rfl, ?_⟩
          have hPt3 : Pt x y m c3 := hPt.right' (by omega) hp3
          have hO3 : Ou a b x y c3 := hO.pm (by omega) (hp3.wide (by omega) (Nat.le_refl _))
          have hc3 : Pm a b l c3 := hc.trans (hp3.wide (by omega) hO.bb)
          refine ⟨⟨(x, m, lm, decide (IntKind.i64.wrap ((y : Int) - (m : Int)) ≥ IntKind.i64.wrap ((IntKind.i64.wrap ((y : Int) - (x : Int))).tdiv 8)), q, c3), hc3, hO3.right hPt3 hs3⟩, by show m - x < y - x; omega, th [] 1, rfl, rfl, rfl, rfl, rfl, rfl, ?_, ?_⟩
          · (repeat' first | exact trivial | exact rfl | refine And.intro ?_ ?_)
          · (repeat' first | exact trivial | exact rfl | refine And.intro ?_ ?_)
        intro _; refine ⟨by kernel_rfl, ?_⟩
        intro _
        refine call_mut [(0, some 0)] (part_ok c5 x y (y - 1 - (p - x)) (by omega) (by omega) (by omega) (by omega)) rfl rfl rfl rfl ?_ ?_ ?_
        · (repeat' first | exact trivial | exact rfl | refine And.intro ?_ ?_)
        · (repeat' first | exact trivial | exact rfl | refine And.intro ?_ ?_)
          · exact hcl
          · exact eqP
        intro v h' ⟨c2, m, q, ⟨hp2, hPt⟩, hv, hd⟩
        subst hv
        refine ⟨_, mut1 hd, rfl, ?_⟩
        have hO : Ou a b x y c2 := hO.pm (by omega) hp2
        have hc : Pm a b l c2 := hc.trans (hp2.wide hO.aa hO.bb)
        have hcl : c2.length = l.length := hc.len
        have hlbx : Lb c2 x y := hO.lb (hlb.pm hc hab hb)
        have m1 := hPt.am
        have m2 := hPt.mb
        have eL : IntKind.i64.wrap ((m : Int) - (x : Int)) = ((m - x : Nat) : Int) := by rw [wrapS _ ⟨by omega, by omega⟩]; omega
        have eR : IntKind.i64.wrap ((y : Int) - (m : Int)) = ((y - m : Nat) : Int) := by rw [wrapS _ ⟨by omega, by omega⟩]; omega
        have em1 : IntKind.i64.wrap ((m : Int) + 1) = ((m + 1 : Nat) : Int) := by rw [wrapS _ ⟨by omega, by omega⟩]; omega
        have lbL : Lb c2 x m := fun h0 k k1 k2 => hlbx h0 k k1 (by omega)
        have lbR : Lb c2 (m + 1) y := fun h0 k k1 k2 => hPt.right k (by omega) k2
        intro _; refine ⟨by omega, ?_⟩
        intro _; refine ⟨fun g => ?_, fun g => ?_⟩
        · intro _
          refine call_mut [(0, some 0)] (ih (m - x) (by omega) c2 x m (lm) (Nat.le_refl _) (by omega) (by omega) (by omega) lbL) rfl rfl rfl rfl ?_ ?_ ?_
          · (repeat' first | exact trivial | exact rfl | refine And.intro ?_ ?_)
          · (repeat' first | exact trivial | exact rfl | refine And.intro ?_ ?_)
            exact hcl
          intro v h' ⟨c3, ⟨hp3, hs3⟩, hv, hd⟩
          subst hv
          refine ⟨_, mut1 hd, rfl, ?_⟩
          have hPt3 : Pt x y m c3 := hPt.left' (by omega) hp3
          have hO3 : Ou a b x y c3 := hO.pm (by omega) (hp3.wide (Nat.le_refl _) (by omega))
          have hc3 : Pm a b l c3 := hc.trans (hp3.wide hO.aa (by omega))
          refine ⟨⟨(m + 1, y, lm, decide (IntKind.i64.wrap ((m : Int) - (x : Int)) ≥ IntKind.i64.wrap ((IntKind.i64.wrap ((y : Int) - (x : Int))).tdiv 8)), q, c3), hc3, hO3.left hPt3 hs3⟩, by show y - (m + 1) < y - x; omega, th [] 1, rfl, rfl, rfl, rfl, rfl, rfl, ?_, ?_⟩
          · (repeat' first | exact trivial | exact rfl | refine And.intro ?_ ?_)
            exact em1.symm
          · (repeat' first | exact trivial | exact rfl | refine And.intro ?_ ?_)
        intro _
        refine call_mut [(0, some 0)] (ih (y - (m + 1)) (by omega) c2 (m + 1) y (lm) (Nat.le_refl _) (by omega) (by omega) (by omega) lbR) rfl rfl rfl rfl ?_ ?_ ?_
        · (repeat' first | exact trivial | exact rfl | refine And.intro ?_ ?_)
        · (repeat' first | exact trivial | exact rfl | refine And.intro ?_ ?_)
          · exact hcl
          · exact em1.symm
        intro v h' ⟨c3, ⟨hp3, hs3⟩, hv, hd⟩
        subst hv
        refine ⟨_, mut1 hd, rfl, ?_⟩
        have hPt3 : Pt x y m c3 := hPt.right' (by omega) hp3
        have hO3 : Ou a b x y c3 := hO.pm (by omega) (hp3.wide (by omega) (Nat.le_refl _))
        have hc3 : Pm a b l c3 := hc.trans (hp3.wide (by omega) hO.bb)
        refine ⟨⟨(x, m, lm, decide (IntKind.i64.wrap ((y : Int) - (m : Int)) ≥ IntKind.i64.wrap ((IntKind.i64.wrap ((y : Int) - (x : Int))).tdiv 8)), q, c3), hc3, hO3.right hPt3 hs3⟩, by show m - x < y - x; omega, th [] 1, rfl, rfl, rfl, rfl, rfl, rfl, ?_, ?_⟩
        · (repeat' first | exact trivial | exact rfl | refine And.intro ?_ ?_)
        · (repeat' first | exact trivial | exact rfl | refine And.intro ?_ ?_)
      intro _; refine ⟨fun g => ?_, fun g => ?_⟩
      · have g0 := of_decide_eq_true (show decide ((x : Int) > 0) = true from g)
        have ex : IntKind.i64.wrap ((x : Int) - 1) = (x : Int) - 1 := wrapS _ ⟨by omega, by omega⟩
        have n1 : (IntKind.i64.wrap ((x : Int) - 1)).toNat = x - 1 := by rw [ex]; omega
        have eP : IntKind.i64.wrap (IntKind.i64.wrap ((y : Int) - 1) - IntKind.i64.wrap ((p : Int) - (x : Int))) = ((y - 1 - (p - x) : Nat) : Int) := (eqP).symm
        have nP : (IntKind.i64.wrap (IntKind.i64.wrap ((y : Int) - 1) - IntKind.i64.wrap ((p : Int) - (x : Int)))).toNat = y - 1 - (p - x) := by rw [eP]; rfl
        intro _; refine ⟨show 0 ≤ IntKind.i64.wrap ((x : Int) - 1) ∧ IntKind.i64.wrap ((x : Int) - 1) < (l.length : Int) by rw [ex]; omega, ?_⟩
        intro _; refine ⟨show (IntKind.i64.wrap ((x : Int) - 1)).toNat < c5.length by rw [n1]; omega, ?_⟩
        intro _; refine ⟨show 0 ≤ IntKind.i64.wrap (IntKind.i64.wrap ((y : Int) - 1) - IntKind.i64.wrap ((p : Int) - (x : Int))) ∧ IntKind.i64.wrap (IntKind.i64.wrap ((y : Int) - 1) - IntKind.i64.wrap ((p : Int) - (x : Int))) < (l.length : Int) by rw [eP]; omega, ?_⟩
        intro _; refine ⟨show (IntKind.i64.wrap (IntKind.i64.wrap ((y : Int) - 1) - IntKind.i64.wrap ((p : Int) - (x : Int)))).toNat < c5.length by rw [nP]; omega, ?_⟩
        intro _
        refine Or.inl ?_
        intro _
        refine call_pure [] (less_ok (at' c5 (x - 1)) (at' c5 (y - 1 - (p - x)))) rfl rfl rfl ?_ ?_ ?_
        · (repeat' first | exact trivial | exact rfl | refine And.intro ?_ ?_)
        · (repeat' first | exact trivial | exact rfl | refine And.intro ?_ ?_)
          show at' c5 (x - 1) = c5.getD (IntKind.i64.wrap ((x : Int) - 1)).toNat 0
          rw [n1]; rfl
          show at' c5 (y - 1 - (p - x)) = c5.getD (IntKind.i64.wrap (IntKind.i64.wrap ((y : Int) - 1) - IntKind.i64.wrap ((p : Int) - (x : Int)))).toNat 0
          rw [nP]; rfl
        intro v hv _
        subst hv
        intro _; refine ⟨by kernel_rfl, ?_⟩
        intro _; refine ⟨fun g => ?_, fun g => ?_⟩
        · have g2 : (!decide (at' c5 (x - 1) < at' c5 (y - 1 - (p - x)))) = true := g
          rw [Bool.not_eq_true'] at g2
          have g2 := of_decide_eq_false g2
          intro _
          refine call_mut [(0, some 0)] (parteq_ok c5 x y (y - 1 - (p - x)) (by omega) (by omega) (by omega) (by omega)) rfl rfl rfl rfl ?_ ?_ ?_
          · (repeat' first | exact trivial | exact rfl | refine And.intro ?_ ?_)
          · (repeat' first | exact trivial | exact rfl | refine And.intro ?_ ?_)
            · exact hcl
            · exact eqP
          intro v h' ⟨c2, m, ⟨hp2, hm1, hm2, hq1, hq2⟩, hv, hd⟩
          subst hv
          refine ⟨_, mut1 hd, rfl, ?_⟩
          have hvx : at' c5 (y - 1 - (p - x)) ≤ at' c2 (x - 1) := by rw [hp2.out (x - 1) (.inl (by omega))]; omega
          have hO : Ou a b x y c2 := hO.pm (by omega) hp2
          have hc : Pm a b l c2 := hc.trans (hp2.wide hO.aa hO.bb)
          have hcl : c2.length = l.length := hc.len
          have hlbx : Lb c2 x y := hO.lb (hlb.pm hc hab hb)
          have hOe : Ou a b m y c2 := hO.eq hlbx (by omega) hm1 hm2 hvx hq1 hq2
          refine ⟨⟨(m, y, lm, wb, wp, c2), hc, hOe⟩, by show y - m < y - x; omega, th [] 1, rfl, rfl, rfl, rfl, rfl, rfl, ?_, ?_⟩
          · (repeat' first | exact trivial | exact rfl | refine And.intro ?_ ?_)
          · (repeat' first | exact trivial | exact rfl | refine And.intro ?_ ?_)
        intro _
        refine call_mut [(0, some 0)] (part_ok c5 x y (y - 1 - (p - x)) (by omega) (by omega) (by omega) (by omega)) rfl rfl rfl rfl ?_ ?_ ?_
        · (repeat' first | exact trivial | exact rfl | refine And.intro ?_ ?_)
        · (repeat' first | exact trivial | exact rfl | refine And.intro ?_ ?_)
          · exact hcl
          · exact eqP
        intro v h' ⟨c2, m, q, ⟨hp2, hPt⟩, hv, hd⟩
        subst hv
        refine ⟨_, mut1 hd, rfl, ?_⟩
        have hO : Ou a b x y c2 := hO.pm (by omega) hp2
        have hc : Pm a b l c2 := hc.trans (hp2.wide hO.aa hO.bb)
        have hcl : c2.length = l.length := hc.len
        have hlbx : Lb c2 x y := hO.lb (hlb.pm hc hab hb)
        have m1 := hPt.am
        have m2 := hPt.mb
        have eL : IntKind.i64.wrap ((m : Int) - (x : Int)) = ((m - x : Nat) : Int) := by rw [wrapS _ ⟨by omega, by omega⟩]; omega
        have eR : IntKind.i64.wrap ((y : Int) - (m : Int)) = ((y - m : Nat) : Int) := by rw [wrapS _ ⟨by omega, by omega⟩]; omega
        have em1 : IntKind.i64.wrap ((m : Int) + 1) = ((m + 1 : Nat) : Int) := by rw [wrapS _ ⟨by omega, by omega⟩]; omega
        have lbL : Lb c2 x m := fun h0 k k1 k2 => hlbx h0 k k1 (by omega)
        have lbR : Lb c2 (m + 1) y := fun h0 k k1 k2 => hPt.right k (by omega) k2
        intro _; refine ⟨by omega, ?_⟩
        intro _; refine ⟨fun g => ?_, fun g => ?_⟩
        · intro _
          refine call_mut [(0, some 0)] (ih (m - x) (by omega) c2 x m (lm) (Nat.le_refl _) (by omega) (by omega) (by omega) lbL) rfl rfl rfl rfl ?_ ?_ ?_
          · (repeat' first | exact trivial | exact rfl | refine And.intro ?_ ?_)
          · (repeat' first | exact trivial | exact rfl | refine And.intro ?_ ?_)
            exact hcl
          intro v h' ⟨c3, ⟨hp3, hs3⟩, hv, hd⟩
          subst hv
          refine ⟨_, mut1 hd, rfl, ?_⟩
          have hPt3 : Pt x y m c3 := hPt.left' (by omega) hp3
          have hO3 : Ou a b x y c3 := hO.pm (by omega) (hp3.wide (Nat.le_refl _) (by omega))
          have hc3 : Pm a b l c3 := hc.trans (hp3.wide hO.aa (by omega))
          refine ⟨⟨(m + 1, y, lm, decide (IntKind.i64.wrap ((m : Int) - (x : Int)) ≥ IntKind.i64.wrap ((IntKind.i64.wrap ((y : Int) - (x : Int))).tdiv 8)), q, c3), hc3, hO3.left hPt3 hs3⟩, by show y - (m + 1) < y - x; omega, th [] 1, rfl, rfl, rfl, rfl, rfl, rfl, ?_, ?_⟩
          · (repeat' first | exact trivial | exact rfl | refine And.intro ?_ ?_)
            exact em1.symm
          · (repeat' first | exact trivial | exact rfl | refine And.intro ?_ ?_)
        intro _
        refine call_mut [(0, some 0)] (ih (y - (m + 1)) (by omega) c2 (m + 1) y (lm) (Nat.le_refl _) (by omega) (by omega) (by omega) lbR) rfl rfl rfl rfl ?_ ?_ ?_
        · (repeat' first | exact trivial | exact rfl | refine And.intro ?_ ?_)
        · (repeat' first | exact trivial | exact rfl | refine And.intro ?_ ?_)
          · exact hcl
          · exact em1.symm
        intro v h' ⟨c3, ⟨hp3, hs3⟩, hv, hd⟩
        subst hv
        refine ⟨_, mut1 hd, rfl, ?_⟩
        have hPt3 : Pt x y m c3 := hPt.right' (by omega) hp3
        have hO3 : Ou a b x y c3 := hO.pm (by omega) (hp3.wide (by omega) (Nat.le_refl _))
        have hc3 : Pm a b l c3 := hc.trans (hp3.wide (by omega) hO.bb)
        refine ⟨⟨(x, m, lm, decide (IntKind.i64.wrap ((y : Int) - (m : Int)) ≥ IntKind.i64.wrap ((IntKind.i64.wrap ((y : Int) - (x : Int))).tdiv 8)), q, c3), hc3, hO3.right hPt3 hs3⟩, by show m - x < y - x; omega, th [] 1, rfl, rfl, rfl, rfl, rfl, rfl, ?_, ?_⟩
        · (repeat' first | exact trivial | exact rfl | refine And.intro ?_ ?_)
        · (repeat' first | exact trivial | exact rfl | refine And.intro ?_ ?_)
      intro _; refine ⟨by kernel_rfl, ?_⟩
      intro _
      refine call_mut [(0, some 0)] (part_ok c5 x y (y - 1 - (p - x)) (by omega) (by omega) (by omega) (by omega)) rfl rfl rfl rfl ?_ ?_ ?_
      · (repeat' first | exact trivial | exact rfl | refine And.intro ?_ ?_)
      · (repeat' first | exact trivial | exact rfl | refine And.intro ?_ ?_)
        · exact hcl
        · exact eqP
      intro v h' ⟨c2, m, q, ⟨hp2, hPt⟩, hv, hd⟩
      subst hv
      refine ⟨_, mut1 hd, rfl, ?_⟩
      have hO : Ou a b x y c2 := hO.pm (by omega) hp2
      have hc : Pm a b l c2 := hc.trans (hp2.wide hO.aa hO.bb)
      have hcl : c2.length = l.length := hc.len
      have hlbx : Lb c2 x y := hO.lb (hlb.pm hc hab hb)
      have m1 := hPt.am
      have m2 := hPt.mb
      have eL : IntKind.i64.wrap ((m : Int) - (x : Int)) = ((m - x : Nat) : Int) := by rw [wrapS _ ⟨by omega, by omega⟩]; omega
      have eR : IntKind.i64.wrap ((y : Int) - (m : Int)) = ((y - m : Nat) : Int) := by rw [wrapS _ ⟨by omega, by omega⟩]; omega
      have em1 : IntKind.i64.wrap ((m : Int) + 1) = ((m + 1 : Nat) : Int) := by rw [wrapS _ ⟨by omega, by omega⟩]; omega
      have lbL : Lb c2 x m := fun h0 k k1 k2 => hlbx h0 k k1 (by omega)
      have lbR : Lb c2 (m + 1) y := fun h0 k k1 k2 => hPt.right k (by omega) k2
      intro _; refine ⟨by omega, ?_⟩
      intro _; refine ⟨fun g => ?_, fun g => ?_⟩
      · intro _
        refine call_mut [(0, some 0)] (ih (m - x) (by omega) c2 x m (lm) (Nat.le_refl _) (by omega) (by omega) (by omega) lbL) rfl rfl rfl rfl ?_ ?_ ?_
        · (repeat' first | exact trivial | exact rfl | refine And.intro ?_ ?_)
        · (repeat' first | exact trivial | exact rfl | refine And.intro ?_ ?_)
          exact hcl
        intro v h' ⟨c3, ⟨hp3, hs3⟩, hv, hd⟩
        subst hv
        refine ⟨_, mut1 hd, rfl, ?_⟩
        have hPt3 : Pt x y m c3 := hPt.left' (by omega) hp3
        have hO3 : Ou a b x y c3 := hO.pm (by omega) (hp3.wide (Nat.le_refl _) (by omega))
        have hc3 : Pm a b l c3 := hc.trans (hp3.wide hO.aa (by omega))
        refine ⟨⟨(m + 1, y, lm, decide (IntKind.i64.wrap ((m : Int) - (x : Int)) ≥ IntKind.i64.wrap ((IntKind.i64.wrap ((y : Int) - (x : Int))).tdiv 8)), q, c3), hc3, hO3.left hPt3 hs3⟩, by show y - (m + 1) < y - x; omega, th [] 1, rfl, rfl, rfl, rfl, rfl, rfl, ?_, ?_⟩
        · (repeat' first | exact trivial | exact rfl | refine And.intro ?_ ?_)
          exact em1.symm
        · (repeat' first | exact trivial | exact rfl | refine And.intro ?_ ?_)
      intro _
      refine call_mut [(0, some 0)] (ih (y - (m + 1)) (by omega) c2 (m + 1) y (lm) (Nat.le_refl _) (by omega) (by omega) (by omega) lbR) rfl rfl rfl rfl ?_ ?_ ?_
      · (repeat' first | exact trivial | exact rfl | refine And.intro ?_ ?_)
      · (repeat' first | exact trivial | exact rfl | refine And.intro ?_ ?_)
        · exact hcl
        · exact em1.symm
      intro v h' ⟨c3, ⟨hp3, hs3⟩, hv, hd⟩
      subst hv
      refine ⟨_, mut1 hd, rfl, ?_⟩
      have hPt3 : Pt x y m c3 := hPt.right' (by omega) hp3
      have hO3 : Ou a b x y c3 := hO.pm (by omega) (hp3.wide (by omega) (Nat.le_refl _))
      have hc3 : Pm a b l c3 := hc.trans (hp3.wide (by omega) hO.bb)
      refine ⟨⟨(x, m, lm, decide (IntKind.i64.wrap ((y : Int) - (m : Int)) ≥ IntKind.i64.wrap ((IntKind.i64.wrap ((y : Int) - (x : Int))).tdiv 8)), q, c3), hc3, hO3.right hPt3 hs3⟩, by show m - x < y - x; omega, th [] 1, rfl, rfl, rfl, rfl, rfl, rfl, ?_, ?_⟩
      · (repeat' first | exact trivial | exact rfl | refine And.intro ?_ ?_)
      · (repeat' first | exact trivial | exact rfl | refine And.intro ?_ ?_)
    exact absurd (show wb = false from g) (by rw [hwb]; decide)
  intro _; refine ⟨fun g => ?_, fun g => ?_⟩
  · intro _; refine ⟨fun g => ?_, fun g => ?_⟩
    · intro _; refine ⟨fun g => ?_, fun g => ?_⟩
      · intro _
        refine call_mut [(0, some 0)] (pins_ok c x y (by omega) (by omega) (by omega) hlbx) rfl rfl rfl rfl ?_ ?_ ?_
        · (repeat' first | exact trivial | exact rfl | refine And.intro ?_ ?_)
        · (repeat' first | exact trivial | exact rfl | refine And.intro ?_ ?_)
          exact hcl
        intro v h' ⟨c4, q4, ⟨hp4, hs4⟩, hv, hd⟩
        subst hv
        refine ⟨_, mut1 hd, rfl, ?_⟩
        have hO : Ou a b x y c4 := hO.pm (by omega) hp4
        have hc : Pm a b l c4 := hc.trans (hp4.wide hO.aa hO.bb)
        have hcl : c4.length = l.length := hc.len
        have hlbx : Lb c4 x y := hO.lb (hlb.pm hc hab hb)
        cases q4 with
        | true =>
          intro _
          exact ⟨c4, ⟨hc, hO.fin (hs4 rfl)⟩, rfl, rfl⟩
        | false =>
          intro _; refine ⟨fun g => ?_, fun g => ?_⟩
          · have g0 := of_decide_eq_true (show decide ((x : Int) > 0) = true from g)
            have ex : IntKind.i64.wrap ((x : Int) - 1) = (x : Int) - 1 := wrapS _ ⟨by omega, by omega⟩
            have n1 : (IntKind.i64.wrap ((x : Int) - 1)).toNat = x - 1 := by rw [ex]; omega
            have eP : (p : Int) = ((p : Nat) : Int) := rfl
            have nP : ((p : Int)).toNat = p := by rw [eP]; rfl
            intro _; refine ⟨show 0 ≤ IntKind.i64.wrap ((x : Int) - 1) ∧ IntKind.i64.wrap ((x : Int) - 1) < (l.length : Int) by rw [ex]; omega, ?_⟩
            intro _; refine ⟨show (IntKind.i64.wrap ((x : Int) - 1)).toNat < c4.length by rw [n1]; omega, ?_⟩
            intro _; refine ⟨show 0 ≤ (p : Int) ∧ (p : Int) < (l.length : Int) by rw [eP]; omega, ?_⟩
            intro _; refine ⟨show ((p : Int)).toNat < c4.length by rw [nP]; omega, ?_⟩
            intro _
            refine Or.inl ?_
            intro _
            refine call_pure [] (less_ok (at' c4 (x - 1)) (at' c4 (p))) rfl rfl rfl ?_ ?_ ?_
            · (repeat' first | exact trivial | exact rfl | refine And.intro ?_ ?_)
            · (repeat' first | exact trivial | exact rfl | refine And.intro ?_ ?_)
              show at' c4 (x - 1) = c4.getD (IntKind.i64.wrap ((x : Int) - 1)).toNat 0
              rw [n1]; rfl
            intro v hv _
            subst hv
            intro _; refine ⟨by kernel_rfl, ?_⟩
            intro _; refine ⟨fun g => ?_, fun g => ?_⟩
            · have g2 : (!decide (at' c4 (x - 1) < at' c4 (p))) = true := g
              rw [Bool.not_eq_true'] at g2
              have g2 := of_decide_eq_false g2
              intro _
              refine call_mut [(0, some 0)] (parteq_ok c4 x y (p) (by omega) (by omega) (by omega) (by omega)) rfl rfl rfl rfl ?_ ?_ ?_
              · (repeat' first | exact trivial | exact rfl | refine And.intro ?_ ?_)
              · (repeat' first | exact trivial | exact rfl | refine And.intro ?_ ?_)
                exact hcl
              intro v h' ⟨c2, m, ⟨hp2, hm1, hm2, hq1, hq2⟩, hv, hd⟩
              subst hv
              refine ⟨_, mut1 hd, rfl, ?_⟩
              have hvx : at' c4 (p) ≤ at' c2 (x - 1) := by rw [hp2.out (x - 1) (.inl (by omega))]; omega
              have hO : Ou a b x y c2 := hO.pm (by omega) hp2
              have hc : Pm a b l c2 := hc.trans (hp2.wide hO.aa hO.bb)
              have hcl : c2.length = l.length := hc.len
              have hlbx : Lb c2 x y := hO.lb (hlb.pm hc hab hb)
              have hOe : Ou a b m y c2 := hO.eq hlbx (by omega) hm1 hm2 hvx hq1 hq2
              refine ⟨⟨(m, y, lm, wb, wp, c2), hc, hOe⟩, by show y - m < y - x; omega, th [] 1, rfl, rfl, rfl, rfl, rfl, rfl, ?_, ?_⟩
              · (repeat' first | exact trivial | exact rfl | refine And.intro ?_ ?_)
              · (repeat' first | exact trivial | exact rfl | refine And.intro ?_ ?_)
            intro _
            refine call_mut [(0, some 0)] (part_ok c4 x y (p) (by omega) (by omega) (by omega) (by omega)) rfl rfl rfl rfl ?_ ?_ ?_
            · (repeat' first | exact trivial | exact rfl | refine And.intro ?_ ?_)
            · (repeat' first | exact trivial | exact rfl | refine And.intro ?_ ?_)
              exact hcl
            intro v h' ⟨c2, m, q, ⟨hp2, hPt⟩, hv, hd⟩
            subst hv
            refine ⟨_, mut1 hd, rfl, ?_⟩
            have hO : Ou a b x y c2 := hO.pm (by omega) hp2
            have hc : Pm a b l c2 := hc.trans (hp2.wide hO.aa hO.bb)
            have hcl : c2.length = l.length := hc.len
            have hlbx : Lb c2 x y := hO.lb (hlb.pm hc hab hb)
            have m1 := hPt.am
            have m2 := hPt.mb
            have eL : IntKind.i64.wrap ((m : Int) - (x : Int)) = ((m - x : Nat) : Int) := by rw [wrapS _ ⟨by omega, by omega⟩]; omega
            have eR : IntKind.i64.wrap ((y : Int) - (m : Int)) = ((y - m : Nat) : Int) := by rw [wrapS _ ⟨by omega, by omega⟩]; omega
            have em1 : IntKind.i64.wrap ((m : Int) + 1) = ((m + 1 : Nat) : Int) := by rw [wrapS _ ⟨by omega, by omega⟩]; omega
            have lbL : Lb c2 x m := fun h0 k k1 k2 => hlbx h0 k k1 (by omega)
            have lbR : Lb c2 (m + 1) y := fun h0 k k1 k2 => hPt.right k (by omega) k2
            intro _; refine ⟨by omega, ?_⟩
            intro _; refine ⟨fun g => ?_, fun g => ?_⟩
            · intro _
              refine call_mut [(0, some 0)] (ih (m - x) (by omega) c2 x m (lm) (Nat.le_refl _) (by omega) (by omega) (by omega) lbL) rfl rfl rfl rfl ?_ ?_ ?_
              · (repeat' first | exact trivial | exact rfl | refine And.intro ?_ ?_)
              · (repeat' first | exact trivial | exact rfl | refine And.intro ?_ ?_)
                exact hcl
              intro v h' ⟨c3, ⟨hp3, hs3⟩, hv, hd⟩
              subst hv
              refine ⟨_, mut1 hd, rfl, ?_⟩
              have hPt3 : Pt x y m c3 := hPt.left' (by omega) hp3
              have hO3 : Ou a b x y c3 := hO.pm (by omega) (hp3.wide (Nat.le_refl _) (by omega))
              have hc3 : Pm a b l c3 := hc.trans (hp3.wide hO.aa (by omega))
              refine ⟨⟨(m + 1, y, lm, decide (IntKind.i64.wrap ((m : Int) - (x : Int)) ≥ IntKind.i64.wrap ((IntKind.i64.wrap ((y : Int) - (x : Int))).tdiv 8)), q, c3), hc3, hO3.left hPt3 hs3⟩, by show y - (m + 1) < y - x; omega, th [] 1, rfl, rfl, rfl, rfl, rfl, rfl, ?_, ?_⟩
              · (repeat' first | exact trivial | exact rfl | refine And.intro ?_ ?_)
                exact em1.symm
              · (repeat' first | exact trivial | exact rfl | refine And.intro ?_ ?_)
            intro _
            refine call_mut [(0, some 0)] (ih (y - (m + 1)) (by omega) c2 (m + 1) y (lm) (Nat.le_refl _) (by omega) (by omega) (by omega) lbR) rfl rfl rfl rfl ?_ ?_ ?_
            · (repeat' first | exact trivial | exact rfl | refine And.intro ?_ ?_)
            · (repeat' first | exact trivial | exact rfl | refine And.intro ?_ ?_)
              · exact hcl
              · exact em1.symm
            intro v h' ⟨c3, ⟨hp3, hs3⟩, hv, hd⟩
            subst hv
            refine ⟨_, mut1 hd, rfl, ?_⟩
            have hPt3 : Pt x y m c3 := hPt.right' (by omega) hp3
            have hO3 : Ou a b x y c3 := hO.pm (by omega) (hp3.wide (by omega) (Nat.le_refl _))
            have hc3 : Pm a b l c3 := hc.trans (hp3.wide (by omega) hO.bb)
            refine ⟨⟨(x, m, lm, decide (IntKind.i64.wrap ((y : Int) - (m : Int)) ≥ IntKind.i64.wrap ((IntKind.i64.wrap ((y : Int) - (x : Int))).tdiv 8)), q, c3), hc3, hO3.right hPt3 hs3⟩, by show m - x < y - x; omega, th [] 1, rfl, rfl, rfl, rfl, rfl, rfl, ?_, ?_⟩
            · (repeat' first | exact trivial | exact rfl | refine And.intro ?_ ?_)
            · (repeat' first | exact trivial | exact rfl | refine And.intro ?_ ?_)
          intro _; refine ⟨by kernel_rfl, ?_⟩
          intro _
          refine call_mut [(0, some 0)] (part_ok c4 x y (p) (by omega) (by omega) (by omega) (by omega)) rfl rfl rfl rfl ?_ ?_ ?_
          · (repeat' first | exact trivial | exact rfl | refine And.intro ?_ ?_)
          · (repeat' first | exact trivial | exact rfl | refine And.intro ?_ ?_)
            exact hcl
          intro v h' ⟨c2, m, q, ⟨hp2, hPt⟩, hv, hd⟩
          subst hv
          refine ⟨_, mut1 hd, rfl, ?_⟩
          have hO : Ou a b x y c2 := hO.pm (by omega) hp2
          have hc : Pm a b l c2 := hc.trans (hp2.wide hO.aa hO.bb)
          have hcl : c2.length = l.length := hc.len
          have hlbx : Lb c2 x y := hO.lb (hlb.pm hc hab hb)
          have m1 := hPt.am
          have m2 := hPt.mb
          have eL : IntKind.i64.wrap ((m : Int) - (x : Int)) = ((m - x : Nat) : Int) := by rw [wrapS _ ⟨by omega, by omega⟩]; omega
          have eR : IntKind.i64.wrap ((y : Int) - (m : Int)) = ((y - m : Nat) : Int) := by rw [wrapS _ ⟨by omega, by omega⟩]; omega
          have em1 : IntKind.i64.wrap ((m : Int) + 1) = ((m + 1 : Nat) : Int) := by rw [wrapS _ ⟨by omega, by omega⟩]; omega
          have lbL : Lb c2 x m := fun h0 k k1 k2 => hlbx h0 k k1 (by omega)
          have lbR : Lb c2 (m + 1) y := fun h0 k k1 k2 => hPt.right k (by omega) k2
          intro _; refine ⟨by omega, ?_⟩
          intro _; refine ⟨fun g => ?_, fun g => ?_⟩
          · intro _
            refine call_mut [(0, some 0)] (ih (m - x) (by omega) c2 x m (lm) (Nat.le_refl _) (by omega) (by omega) (by omega) lbL) rfl rfl rfl rfl ?_ ?_ ?_
            · (repeat' first | exact trivial | exact rfl | refine And.intro ?_ ?_)
            · (repeat' first | exact trivial | exact rfl | refine And.intro ?_ ?_)
              exact hcl
            intro v h' ⟨c3, ⟨hp3, hs3⟩, hv, hd⟩
            subst hv
            refine ⟨_, mut1 hd, rfl, ?_⟩
            have hPt3 : Pt x y m c3 := hPt.left' (by omega) hp3
            have hO3 : Ou a b x y c3 := hO.pm (by omega) (hp3.wide (Nat.le_refl _) (by omega))
            have hc3 : Pm a b l c3 := hc.trans (hp3.wide hO.aa (by omega))
            refine ⟨⟨(m + 1, y, lm, decide (IntKind.i64.wrap ((m : Int) - (x : Int)) ≥ IntKind.i64.wrap ((IntKind.i64.wrap ((y : Int) - (x : Int))).tdiv 8)), q, c3), hc3, hO3.left hPt3 hs3⟩, by show y - (m + 1) < y - x; omega, th [] 1, rfl, rfl, rfl, rfl, rfl, rfl, ?_, ?_⟩
            · (repeat' first | exact trivial | exact rfl | refine And.intro ?_ ?_)
              exact em1.symm
            · (repeat' first | exact trivial | exact rfl | refine And.intro ?_ ?_)
          intro _
          refine call_mut [(0, some 0)] (ih (y - (m + 1)) (by omega) c2 (m + 1) y (lm) (Nat.le_refl _) (by omega) (by omega) (by omega) lbR) rfl rfl rfl rfl ?_ ?_ ?_
          · (repeat' first | exact trivial | exact rfl | refine And.intro ?_ ?_)
          · (repeat' first | exact trivial | exact rfl | refine And.intro ?_ ?_)
            · exact hcl
            · exact em1.symm
          intro v h' ⟨c3, ⟨hp3, hs3⟩, hv, hd⟩
          subst hv
          refine ⟨_, mut1 hd, rfl, ?_⟩
          have hPt3 : Pt x y m c3 := hPt.right' (by omega) hp3
          have hO3 : Ou a b x y c3 := hO.pm (by omega) (hp3.wide (by omega) (Nat.le_refl _))
          have hc3 : Pm a b l c3 := hc.trans (hp3.wide (by omega) hO.bb)
          refine ⟨⟨(x, m, lm, decide (IntKind.i64.wrap ((y : Int) - (m : Int)) ≥ IntKind.i64.wrap ((IntKind.i64.wrap ((y : Int) - (x : Int))).tdiv 8)), q, c3), hc3, hO3.right hPt3 hs3⟩, by show m - x < y - x; omega, th [] 1, rfl, rfl, rfl, rfl, rfl, rfl, ?_, ?_⟩
          · (repeat' first | exact trivial | exact rfl | refine And.intro ?_ ?_)
          · (repeat' first | exact trivial | exact rfl | refine And.intro ?_ ?_)
      intro _; refine ⟨fun g => ?_, fun g => ?_⟩
      · have g0 := of_decide_eq_true (show decide ((x : Int) > 0) = true from g)
        have ex : IntKind.i64.wrap ((x : Int) - 1) = (x : Int) - 1 := wrapS _ ⟨by omega, by omega⟩
        have n1 : (IntKind.i64.wrap ((x : Int) - 1)).toNat = x - 1 := by rw [ex]; omega
        have eP : (p : Int) = ((p : Nat) : Int) := rfl
        have nP : ((p : Int)).toNat = p := by rw [eP]; rfl
        intro _; refine ⟨show 0 ≤ IntKind.i64.wrap ((x : Int) - 1) ∧ IntKind.i64.wrap ((x : Int) - 1) < (l.length : Int) by rw [ex]; omega, ?_⟩
        intro _; refine ⟨show (IntKind.i64.wrap ((x : Int) - 1)).toNat < c.length by rw [n1]; omega, ?_⟩
        intro _; refine ⟨show 0 ≤ (p : Int) ∧ (p : Int) < (l.length : Int) by rw [eP]; omega, ?_⟩
        intro _; refine ⟨show ((p : Int)).toNat < c.length by rw [nP]; omega, ?_⟩
        intro _
        refine Or.inl ?_
        intro _
        refine call_pure [] (less_ok (at' c (x - 1)) (at' c (p))) rfl rfl rfl ?_ ?_ ?_
        · (repeat' first | exact trivial | exact rfl | refine And.intro ?_ ?_)
        · (repeat' first | exact trivial | exact rfl | refine And.intro ?_ ?_)
          show at' c (x - 1) = c.getD (IntKind.i64.wrap ((x : Int) - 1)).toNat 0
          rw [n1]; rfl
        intro v hv _
        subst hv
        intro _; refine ⟨by kernel_rfl, ?_⟩
        intro _; refine ⟨fun g => ?_, fun g => ?_⟩
        · have g2 : (!decide (at' c (x - 1) < at' c (p))) = true := g
          rw [Bool.not_eq_true'] at g2
          have g2 := of_decide_eq_false g2
          intro _
          refine call_mut [(0, some 0)] (parteq_ok c x y (p) (by omega) (by omega) (by omega) (by omega)) rfl rfl rfl rfl ?_ ?_ ?_
          · (repeat' first | exact trivial | exact rfl | refine And.intro ?_ ?_)
          · (repeat' first | exact trivial | exact rfl | refine And.intro ?_ ?_)
            exact hcl
          intro v h' ⟨c2, m, ⟨hp2, hm1, hm2, hq1, hq2⟩, hv, hd⟩
          subst hv
          refine ⟨_, mut1 hd, rfl, ?_⟩
          have hvx : at' c (p) ≤ at' c2 (x - 1) := by rw [hp2.out (x - 1) (.inl (by omega))]; omega
          have hO : Ou a b x y c2 := hO.pm (by omega) hp2
          have hc : Pm a b l c2 := hc.trans (hp2.wide hO.aa hO.bb)
          have hcl : c2.length = l.length := hc.len
          have hlbx : Lb c2 x y := hO.lb (hlb.pm hc hab hb)
          have hOe : Ou a b m y c2 := hO.eq hlbx (by omega) hm1 hm2 hvx hq1 hq2
          refine ⟨⟨(m, y, lm, wb, wp, c2), hc, hOe⟩, by show y - m < y - x; omega, th [] 1, rfl, rfl, rfl, rfl, rfl, rfl, ?_, ?_⟩
          · (repeat' first | exact trivial | exact rfl | refine And.intro ?_ ?_)
          · (repeat' first | exact trivial | exact rfl | refine And.intro ?_ ?_)
        intro _
        refine call_mut [(0, some 0)] (part_ok c x y (p) (by omega) (by omega) (by omega) (by omega)) rfl rfl rfl rfl ?_ ?_ ?_
        · (repeat' first | exact trivial | exact rfl | refine And.intro ?_ ?_)
        · (repeat' first | exact trivial | exact rfl | refine And.intro ?_ ?_)
          exact hcl
        intro v h' ⟨c2, m, q, ⟨hp2, hPt⟩, hv, hd⟩
        subst hv
        refine ⟨_, mut1 hd, rfl, ?_⟩
        have hO : Ou a b x y c2 := hO.pm (by omega) hp2
        have hc : Pm a b l c2 := hc.trans (hp2.wide hO.aa hO.bb)
        have hcl : c2.length = l.length := hc.len
        have hlbx : Lb c2 x y := hO.lb (hlb.pm hc hab hb)
        have m1 := hPt.am
        have m2 := hPt.mb
        have eL : IntKind.i64.wrap ((m : Int) - (x : Int)) = ((m - x : Nat) : Int) := by rw [wrapS _ ⟨by omega, by omega⟩]; omega
        have eR : IntKind.i64.wrap ((y : Int) - (m : Int)) = ((y - m : Nat) : Int) := by rw [wrapS _ ⟨by omega, by omega⟩]; omega
        have em1 : IntKind.i64.wrap ((m : Int) + 1) = ((m + 1 : Nat) : Int) := by rw [wrapS _ ⟨by omega, by omega⟩]; omega
        have lbL : Lb c2 x m := fun h0 k k1 k2 => hlbx h0 k k1 (by omega)
        have lbR : Lb c2 (m + 1) y := fun h0 k k1 k2 => hPt.right k (by omega) k2
        intro _; refine ⟨by omega, ?_⟩
        intro _; refine ⟨fun g => ?_, fun g => ?_⟩
        · intro _
          refine call_mut [(0, some 0)] (ih (m - x) (by omega) c2 x m (lm) (Nat.le_refl _) (by omega) (by omega) (by omega) lbL) rfl rfl rfl rfl ?_ ?_ ?_
          · (repeat' first | exact trivial | exact rfl | refine And.intro ?_ ?_)
          · (repeat' first | exact trivial | exact rfl | refine And.intro ?_ ?_)
            exact hcl
          intro v h' ⟨c3, ⟨hp3, hs3⟩, hv, hd⟩
          subst hv
          refine ⟨_, mut1 hd, rfl, ?_⟩
          have hPt3 : Pt x y m c3 := hPt.left' (by omega) hp3
          have hO3 : Ou a b x y c3 := hO.pm (by omega) (hp3.wide (Nat.le_refl _) (by omega))
          have hc3 : Pm a b l c3 := hc.trans (hp3.wide hO.aa (by omega))
          refine ⟨⟨(m + 1, y, lm, decide (IntKind.i64.wrap ((m : Int) - (x : Int)) ≥ IntKind.i64.wrap ((IntKind.i64.wrap ((y : Int) - (x : Int))).tdiv 8)), q, c3), hc3, hO3.left hPt3 hs3⟩, by show y - (m + 1) < y - x; omega, th [] 1, rfl, rfl, rfl, rfl, rfl, rfl, ?_, ?_⟩
          · (repeat' first | exact trivial | exact rfl | refine And.intro ?_ ?_)
            exact em1.symm
          · (repeat' first | exact trivial | exact rfl | refine And.intro ?_ ?_)
        intro _
        refine call_mut [(0, some 0)] (ih (y - (m + 1)) (by omega) c2 (m + 1) y (lm) (Nat.le_refl _) (by omega) (by omega) (by omega) lbR) rfl rfl rfl rfl ?_ ?_ ?_
        · (repeat' first | exact trivial | exact rfl | refine And.intro ?_ ?_)
        · (repeat' first | exact trivial | exact rfl | refine And.intro ?_ ?_)
          · exact hcl
          · exact em1.symm
        intro v h' ⟨c3, ⟨hp3, hs3⟩, hv, hd⟩
        subst hv
        refine ⟨_, mut1 hd, rfl, ?_⟩
        have hPt3 : Pt x y m c3 := hPt.right' (by omega) hp3
        have hO3 : Ou a b x y c3 := hO.pm (by omega) (hp3.wide (by omega) (Nat.le_refl _))
        have hc3 : Pm a b l c3 := hc.trans (hp3.wide (by omega) hO.bb)
        refine ⟨⟨(x, m, lm, decide (IntKind.i64.wrap ((y : Int) - (m : Int)) ≥ IntKind.i64.wrap ((IntKind.i64.wrap ((y : Int) - (x : Int))).tdiv 8)), q, c3), hc3, hO3.right hPt3 hs3⟩, by show m - x < y - x; omega, th [] 1, rfl, rfl, rfl, rfl, rfl, rfl, ?_, ?_⟩
        · (repeat' first | exact trivial | exact rfl | refine And.intro ?_ ?_)
        · (repeat' first | exact trivial | exact rfl | refine And.intro ?_ ?_)
      intro _; refine ⟨by kernel_rfl, ?_⟩
      intro _
      refine call_mut [(0, some 0)] (part_ok c x y (p) (by omega) (by omega) (by omega) (by omega)) rfl rfl rfl rfl ?_ ?_ ?_
      · (repeat' first | exact trivial | exact rfl | refine And.intro ?_ ?_)
      · (repeat' first | exact trivial | exact rfl | refine And.intro ?_ ?_)
        exact hcl
      intro v h' ⟨c2, m, q, ⟨hp2, hPt⟩, hv, hd⟩
      subst hv
      refine ⟨_, mut1 hd, rfl, ?_⟩
      have hO : Ou a b x y c2 := hO.pm (by omega) hp2
      have hc : Pm a b l c2 := hc.trans (hp2.wide hO.aa hO.bb)
      have hcl : c2.length = l.length := hc.len
      have hlbx : Lb c2 x y := hO.lb (hlb.pm hc hab hb)
      have m1 := hPt.am
      have m2 := hPt.mb
      have eL : IntKind.i64.wrap ((m : Int) - (x : Int)) = ((m - x : Nat) : Int) := by rw [wrapS _ ⟨by omega, by omega⟩]; omega
      have eR : IntKind.i64.wrap ((y : Int) - (m : Int)) = ((y - m : Nat) : Int) := by rw [wrapS _ ⟨by omega, by omega⟩]; omega
      have em1 : IntKind.i64.wrap ((m : Int) + 1) = ((m + 1 : Nat) : Int) := by rw [wrapS _ ⟨by omega, by omega⟩]; omega
      have lbL : Lb c2 x m := fun h0 k k1 k2 => hlbx h0 k k1 (by omega)
      have lbR : Lb c2 (m + 1) y := fun h0 k k1 k2 => hPt.right k (by omega) k2
      intro _; refine ⟨by omega, ?_⟩
      intro _; refine ⟨fun g => ?_, fun g => ?_⟩
      · intro _
        refine call_mut [(0, some 0)] (ih (m - x) (by omega) c2 x m (lm) (Nat.le_refl _) (by omega) (by omega) (by omega) lbL) rfl rfl rfl rfl ?_ ?_ ?_
        · (repeat' first | exact trivial | exact rfl | refine And.intro ?_ ?_)
        · (repeat' first | exact trivial | exact rfl | refine And.intro ?_ ?_)
          exact hcl
        intro v h' ⟨c3, ⟨hp3, hs3⟩, hv, hd⟩
        subst hv
        refine ⟨_, mut1 hd, rfl, ?_⟩
        have hPt3 : Pt x y m c3 := hPt.left' (by omega) hp3
        have hO3 : Ou a b x y c3 := hO.pm (by omega) (hp3.wide (Nat.le_refl _) (by omega))
        have hc3 : Pm a b l c3 := hc.trans (hp3.wide hO.aa (by omega))
        refine ⟨⟨(m + 1, y, lm, decide (IntKind.i64.wrap ((m : Int) - (x : Int)) ≥ IntKind.i64.wrap ((IntKind.i64.wrap ((y : Int) - (x : Int))).tdiv 8)), q, c3), hc3, hO3.left hPt3 hs3⟩, by show y - (m + 1) < y - x; omega, th [] 1, rfl, rfl, rfl, rfl, rfl, rfl, ?_, ?_⟩
        · (repeat' first | exact trivial | exact rfl | refine And.intro ?_ ?_)
          exact em1.symm
        · (repeat' first | exact trivial | exact rfl | refine And.intro ?_ ?_)
      intro _
      refine call_mut [(0, some 0)] (ih (y - (m + 1)) (by omega) c2 (m + 1) y (lm) (Nat.le_refl _) (by omega) (by omega) (by omega) lbR) rfl rfl rfl rfl ?_ ?_ ?_
      · (repeat' first | exact trivial | exact rfl | refine And.intro ?_ ?_)
      · (repeat' first | exact trivial | exact rfl | refine And.intro ?_ ?_)
        · exact hcl
        · exact em1.symm
      intro v h' ⟨c3, ⟨hp3, hs3⟩, hv, hd⟩
      subst hv
      refine ⟨_, mut1 hd, rfl, ?_⟩
      have hPt3 : Pt x y m c3 := hPt.right' (by omega) hp3
      have hO3 : Ou a b x y c3 := hO.pm (by omega) (hp3.wide (by omega) (Nat.le_refl _))
      have hc3 : Pm a b l c3 := hc.trans (hp3.wide (by omega) hO.bb)
      refine ⟨⟨(x, m, lm, decide (IntKind.i64.wrap ((y : Int) - (m : Int)) ≥ IntKind.i64.wrap ((IntKind.i64.wrap ((y : Int) - (x : Int))).tdiv 8)), q, c3), hc3, hO3.right hPt3 hs3⟩, by show m - x < y - x; omega, th [] 1, rfl, rfl, rfl, rfl, rfl, rfl, ?_, ?_⟩
      · (repeat' first | exact trivial | exact rfl | refine And.intro ?_ ?_)
      · (repeat' first | exact trivial | exact rfl | refine And.intro ?_ ?_)
    intro _; refine ⟨fun g => ?_, fun g => ?_⟩
    · have g0 := of_decide_eq_true (show decide ((x : Int) > 0) = true from g)
      have ex : IntKind.i64.wrap ((x : Int) - 1) = (x : Int) - 1 := wrapS _ ⟨by omega, by omega⟩
      have n1 : (IntKind.i64.wrap ((x : Int) - 1)).toNat = x - 1 := by rw [ex]; omega
      have eP : (p : Int) = ((p : Nat) : Int) := rfl
      have nP : ((p : Int)).toNat = p := by rw [eP]; rfl
      intro _; refine ⟨show 0 ≤ IntKind.i64.wrap ((x : Int) - 1) ∧ IntKind.i64.wrap ((x : Int) - 1) < (l.length : Int) by rw [ex]; omega, ?_⟩
      intro _; refine ⟨show (IntKind.i64.wrap ((x : Int) - 1)).toNat < c.length by rw [n1]; omega, ?_⟩
      intro _; refine ⟨show 0 ≤ (p : Int) ∧ (p : Int) < (l.length : Int) by rw [eP]; omega, ?_⟩
      intro _; refine ⟨show ((p : Int)).toNat < c.length by rw [nP]; omega, ?_⟩
      intro _
      refine Or.inl ?_
      intro _
      refine call_pure [] (less_ok (at' c (x - 1)) (at' c (p))) rfl rfl rfl ?_ ?_ ?_
      · (repeat' first | exact trivial | exact rfl | refine And.intro ?_ ?_)
      · (repeat' first | exact trivial | exact rfl | refine And.intro ?_ ?_)
        show at' c (x - 1) = c.getD (IntKind.i64.wrap ((x : Int) - 1)).toNat 0
        rw [n1]; rfl
      intro v hv _
      subst hv
      intro _; refine ⟨by kernel_rfl, ?_⟩
      intro _; refine ⟨fun g => ?_, fun g => ?_⟩
      · have g2 : (!decide (at' c (x - 1) < at' c (p))) = true := g
        rw [Bool.not_eq_true'] at g2
        have g2 := of_decide_eq_false g2
        intro _
        refine call_mut [(0, some 0)] (parteq_ok c x y (p) (by omega) (by omega) (by omega) (by omega)) rfl rfl rfl rfl ?_ ?_ ?_
        · (repeat' first | exact trivial | exact rfl | refine And.intro ?_ ?_)
        · (repeat' first | exact trivial | exact rfl | refine And.intro ?_ ?_)
          exact hcl
        intro v h' ⟨c2, m, ⟨hp2, hm1, hm2, hq1, hq2⟩, hv, hd⟩
        subst hv
        refine ⟨_, mut1 hd, rfl, ?_⟩
        have hvx : at' c (p) ≤ at' c2 (x - 1) := by rw [hp2.out (x - 1) (.inl (by omega))]; omega
        have hO : Ou a b x y c2 := hO.pm (by omega) hp2
        have hc : Pm a b l c2 := hc.trans (hp2.wide hO.aa hO.bb)
        have hcl : c2.length = l.length := hc.len
        have hlbx : Lb c2 x y := hO.lb (hlb.pm hc hab hb)
        have hOe : Ou a b m y c2 := hO.eq hlbx (by omega) hm1 hm2 hvx hq1 hq2
        refine ⟨⟨(m, y, lm, wb, wp, c2), hc, hOe⟩, by show y - m < y - x; omega, th [] 1, rfl, rfl, rfl, rfl, rfl, rfl, ?_, ?_⟩
        · (repeat' first | exact trivial | exact rfl | refine And.intro ?_ ?_)
        · (repeat' first | exact trivial | exact rfl | refine And.intro ?_ ?_)
      intro _
      refine call_mut [(0, some 0)] (part_ok c x y (p) (by omega) (by omega) (by omega) (by omega)) rfl rfl rfl rfl ?_ ?_ ?_
      · (repeat' first | exact trivial | exact rfl | refine And.intro ?_ ?_)
      · (repeat' first | exact trivial | exact rfl | refine And.intro ?_ ?_)
        exact hcl
      intro v h' ⟨c2, m, q, ⟨hp2, hPt⟩, hv, hd⟩
      subst hv
      refine ⟨_, mut1 hd, rfl, ?_⟩
      have hO : Ou a b x y c2 := hO.pm (by omega) hp2
      have hc : Pm a b l c2 := hc.trans (hp2.wide hO.aa hO.bb)
      have hcl : c2.length = l.length := hc.len
      have hlbx : Lb c2 x y := hO.lb (hlb.pm hc hab hb)
      have m1 := hPt.am
      have m2 := hPt.mb
      have eL : IntKind.i64.wrap ((m : Int) - (x : Int)) = ((m - x : Nat) : Int) := by rw [wrapS _ ⟨by omega, by omega⟩]; omega
      have eR : IntKind.i64.wrap ((y : Int) - (m : Int)) = ((y - m : Nat) : Int) := by rw [wrapS _ ⟨by omega, by omega⟩]; omega
      have em1 : IntKind.i64.wrap ((m : Int) + 1) = ((m + 1 : Nat) : Int) := by rw [wrapS _ ⟨by omega, by omega⟩]; omega
      have lbL : Lb c2 x m := fun h0 k k1 k2 => hlbx h0 k k1 (by omega)
      have lbR : Lb c2 (m + 1) y := fun h0 k k1 k2 => hPt.right k (by omega) k2
      intro _; refine ⟨by omega, ?_⟩
      intro _; refine ⟨fun g => ?_, fun g => ?_⟩
      · intro _
        refine call_mut [(0, some 0)] (ih (m - x) (by omega) c2 x m (lm) (Nat.le_refl _) (by omega) (by omega) (by omega) lbL) rfl rfl rfl rfl ?_ ?_ ?_
        · (repeat' first | exact trivial | exact rfl | refine And.intro ?_ ?_)
        · (repeat' first | exact trivial | exact rfl | refine And.intro ?_ ?_)
          exact hcl
        intro v h' ⟨c3, ⟨hp3, hs3⟩, hv, hd⟩
        subst hv
        refine ⟨_, mut1 hd, rfl, ?_⟩
        have hPt3 : Pt x y m c3 := hPt.left' (by omega) hp3
        have hO3 : Ou a b x y c3 := hO.pm (by omega) (hp3.wide (Nat.le_refl _) (by omega))
        have hc3 : Pm a b l c3 := hc.trans (hp3.wide hO.aa (by omega))
        refine ⟨⟨(m + 1, y, lm, decide (IntKind.i64.wrap ((m : Int) - (x : Int)) ≥ IntKind.i64.wrap ((IntKind.i64.wrap ((y : Int) - (x : Int))).tdiv 8)), q, c3), hc3, hO3.left hPt3 hs3⟩, by show y - (m + 1) < y - x; omega, th [] 1, rfl, rfl, rfl, rfl, rfl, rfl, ?_, ?_⟩
        · (repeat' first | exact trivial | exact rfl | refine And.intro ?_ ?_)
          exact em1.symm
        · (repeat' first | exact trivial | exact rfl | refine And.intro ?_ ?_)
      intro _
      refine call_mut [(0, some 0)] (ih (y - (m + 1)) (by omega) c2 (m + 1) y (lm) (Nat.le_refl _) (by omega) (by omega) (by omega) lbR) rfl rfl rfl rfl ?_ ?_ ?_
      · (repeat' first | exact trivial | exact rfl | refine And.intro ?_ ?_)
      · (repeat' first | exact trivial | exact rfl | refine And.intro ?_ ?_)
        · exact hcl
        · exact em1.symm
      intro v h' ⟨c3, ⟨hp3, hs3⟩, hv, hd⟩
      subst hv
      refine ⟨_, mut1 hd, rfl, ?_⟩
      have hPt3 : Pt x y m c3 := hPt.right' (by omega) hp3
      have hO3 : Ou a b x y c3 := hO.pm (by omega) (hp3.wide (by omega) (Nat.le_refl _))
      have hc3 : Pm a b l c3 := hc.trans (hp3.wide (by omega) hO.bb)
      refine ⟨⟨(x, m, lm, decide (IntKind.i64.wrap ((y : Int) - (m : Int)) ≥ IntKind.i64.wrap ((IntKind.i64.wrap ((y : Int) - (x : Int))).tdiv 8)), q, c3), hc3, hO3.right hPt3 hs3⟩, by show m - x < y - x; omega, th [] 1, rfl, rfl, rfl, rfl, rfl, rfl, ?_, ?_⟩
      · (repeat' first | exact trivial | exact rfl | refine And.intro ?_ ?_)
      · (repeat' first | exact trivial | exact rfl | refine And.intro ?_ ?_)
    intro _; refine ⟨by kernel_rfl, ?_⟩
    intro _
    refine call_mut [(0, some 0)] (part_ok c x y (p) (by omega) (by omega) (by omega) (by omega)) rfl rfl rfl rfl ?_ ?_ ?_
    · (repeat' first | exact trivial | exact rfl | refine And.intro ?_ ?_)
    · (repeat' first | exact trivial | exact rfl | refine And.intro ?_ ?_)
      exact hcl
    intro v h' ⟨c2, m, q, ⟨hp2, hPt⟩, hv, hd⟩
    subst hv
    refine ⟨_, mut1 hd, rfl, ?_⟩
    have hO : Ou a b x y c2 := hO.pm (by omega) hp2
    have hc : Pm a b l c2 := hc.trans (hp2.wide hO.aa hO.bb)
    have hcl : c2.length = l.length := hc.len
    have hlbx : Lb c2 x y := hO.lb (hlb.pm hc hab hb)
    have m1 := hPt.am
    have m2 := hPt.mb
    have eL : IntKind.i64.wrap ((m : Int) - (x : Int)) = ((m - x : Nat) : Int) := by rw [wrapS _ ⟨by omega, by omega⟩]; omega
    have eR : IntKind.i64.wrap ((y : Int) - (m : Int)) = ((y - m : Nat) : Int) := by rw [wrapS _ ⟨by omega, by omega⟩]; omega
    have em1 : IntKind.i64.wrap ((m : Int) + 1) = ((m + 1 : Nat) : Int) := by rw [wrapS _ ⟨by omega, by omega⟩]; omega
    have lbL : Lb c2 x m := fun h0 k k1 k2 => hlbx h0 k k1 (by omega)
    have lbR : Lb c2 (m + 1) y := fun h0 k k1 k2 => hPt.right k (by omega) k2
    intro _; refine ⟨by omega, ?_⟩
    intro _; refine ⟨fun g => ?_, fun g => ?_⟩
    · intro _
      refine call_mut [(0, some 0)] (ih (m - x) (by omega) c2 x m (lm) (Nat.le_refl _) (by omega) (by omega) (by omega) lbL) rfl rfl rfl rfl ?_ ?_ ?_
      · (repeat' first | exact trivial | exact rfl | refine And.intro ?_ ?_)
      · (repeat' first | exact trivial | exact rfl | refine And.intro ?_ ?_)
        exact hcl
      intro v h' ⟨c3, ⟨hp3, hs3⟩, hv, hd⟩
      subst hv
      refine ⟨_, mut1 hd, rfl, ?_⟩
      have hPt3 : Pt x y m c3 := hPt.left' (by omega) hp3
      have hO3 : Ou a b x y c3 := hO.pm (by omega) (hp3.wide (Nat.le_refl _) (by omega))
      have hc3 : Pm a b l c3 := hc.trans (hp3.wide hO.aa (by omega))
      refine ⟨⟨(m + 1, y, lm, decide (IntKind.i64.wrap ((m : Int) - (x : Int)) ≥ IntKind.i64.wrap ((IntKind.i64.wrap ((y : Int) - (x : Int))).tdiv 8)), q, c3), hc3, hO3.left hPt3 hs3⟩, by show y - (m + 1) < y - x; omega, th [] 1, rfl, rfl, rfl, rfl, rfl, rfl, ?_, ?_⟩
      · (repeat' first | exact trivial | exact rfl | refine And.intro ?_ ?_)
        exact em1.symm
      · (repeat' first | exact trivial | exact rfl | refine And.intro ?_ ?_)
    intro _
    refine call_mut [(0, some 0)] (ih (y - (m + 1)) (by omega) c2 (m + 1) y (lm) (Nat.le_refl _) (by omega) (by omega) (by omega) lbR) rfl rfl rfl rfl ?_ ?_ ?_
    · (repeat' first | exact trivial | exact rfl | refine And.intro ?_ ?_)
    · (repeat' first | exact trivial | exact rfl | refine And.intro ?_ ?_)
      · exact hcl
      · exact em1.symm
    intro v h' ⟨c3, ⟨hp3, hs3⟩, hv, hd⟩
    subst hv
    refine ⟨_, mut1 hd, rfl, ?_⟩
    have hPt3 : Pt x y m c3 := hPt.right' (by omega) hp3
    have hO3 : Ou a b x y c3 := hO.pm (by omega) (hp3.wide (by omega) (Nat.le_refl _))
    have hc3 : Pm a b l c3 := hc.trans (hp3.wide (by omega) hO.bb)
    refine ⟨⟨(x, m, lm, decide (IntKind.i64.wrap ((y : Int) - (m : Int)) ≥ IntKind.i64.wrap ((IntKind.i64.wrap ((y : Int) - (x : Int))).tdiv 8)), q, c3), hc3, hO3.right hPt3 hs3⟩, by show m - x < y - x; omega, th [] 1, rfl, rfl, rfl, rfl, rfl, rfl, ?_, ?_⟩
    · (repeat' first | exact trivial | exact rfl | refine And.intro ?_ ?_)
    · (repeat' first | exact trivial | exact rfl | refine And.intro ?_ ?_)
  exact absurd (show wb = false from g) (by rw [hwb]; decide)
def Sd0 (l : List Int) : Prop := ∀ p q, p < q → q < l.length → at' l p ≤ at' l q
theorem sort_ok (l : List Int) (hl : l.length ≤ 4096) : SemF Try.prog 33 [.grw 0 l.length] ⟨1, 0, DA l⟩ (fun v h' => ∃ l', (l'.Perm l ∧ Sd0 l') ∧ v = .tup [] ∧ Dat l' h') := by
  refine enter tt_ok Try.func33 (nt := 11) (cd := body Try.f33) rfl rfl rfl rfl ?_
  intro _
  refine call_pure [] (len_ok l.length hl) rfl rfl rfl ?_ ?_ ?_
  · (repeat' first | exact trivial | exact rfl | refine And.intro ?_ ?_)
  · (repeat' first | exact trivial | exact rfl | refine And.intro ?_ ?_)
    exact (wrapU (l.length : Int) ⟨by omega, by omega⟩).symm
  intro v hv _
  obtain ⟨k, k1, k2, rfl⟩ := hv
  intro _
  refine call_mut [(0, some 0)] (pdq_ok l.length l 0 l.length k (by omega) (by omega) (Nat.le_refl _) hl (fun h => by omega)) rfl rfl rfl rfl ?_ ?_ ?_
  · (repeat' first | exact trivial | exact rfl | refine And.intro ?_ ?_)
  · (repeat' first | exact trivial | exact rfl | refine And.intro ?_ ?_)
  intro v h' ⟨l', ⟨hp, hs⟩, hv, hd⟩
  subst hv
  refine ⟨_, mut1 hd, rfl, ?_⟩
  intro _
  exact ⟨l', ⟨hp.perm, fun p q h1 h2 => hs p q (Nat.zero_le _) h1 (by rw [← hp.len]; exact h2)⟩, rfl, rfl⟩
/-- a list of one number, that was not grown -/
abbrev DO (x : Int) : List (Nat × Ob) := [(0, .arr [.int .i64] .own (.ints [x]))]
theorem ins1_ok (x : Int) : SemF Try.prog 39 [.grw 0 1, .int .i64 0, .int .i64 1] ⟨1, 0, DO x⟩ (fun v h' => v = .tup [] ∧ Go.Vm2.look h'.l 0 = some (.arr [.int .i64] .own (.ints [x]))) := by
  refine enter tt_ok Try.func39 (nt := 49) (cd := body Try.f39) rfl rfl rfl rfl ?_
  intro _
  refine loop_step tt_ok ?_
  intro _; refine ⟨fun g => ?_, fun g => ?_⟩
  · have g := of_decide_eq_true (show decide (IntKind.i64.wrap (0 + 1) < (1 : Int)) = true from g)
    rw [wrapS (0 + 1) ⟨by omega, by omega⟩] at g
    omega
  · intro _
    exact ⟨rfl, rfl⟩
theorem mut1o {y : Nat} {x : Int} {h' : H} (hd : Go.Vm2.look h'.l 0 = some (.arr [.int .i64] .own (.ints [x]))) : mutNew [(0, some y)] h'.l (DO x) = some [(y, .arr [.int .i64] .own (.ints [x]))] := by
  have e0 : Go.Vm2.look [((0 : Nat), some y)] 0 = some (some y) := rfl
  simp [mutNew, Ob.own, hd, e0, plainO]
theorem pdq1_ok (x lim : Int) : SemF Try.prog 36 [.grw 0 1, .int .i64 0, .int .i64 1, .int .i64 lim] ⟨1, 0, DO x⟩ (fun v h' => v = .tup [] ∧ Go.Vm2.look h'.l 0 = some (.arr [.int .i64] .own (.ints [x]))) := by
  refine enter tt_ok Try.func36 (nt := 134) (cd := body Try.f36) rfl rfl rfl rfl ?_
  intro _
  refine loop_step tt_ok ?_
  intro _; refine ⟨fun g => ?_, fun g => ?_⟩
  · intro _
    refine call_mut [(0, some 0)] (ins1_ok x) rfl rfl rfl rfl ?_ ?_ ?_
    · (repeat' first | exact trivial | exact rfl | refine And.intro ?_ ?_)
    · (repeat' first | exact trivial | exact rfl | refine And.intro ?_ ?_)
    intro v h' ⟨hv, hd⟩
    subst hv
    refine ⟨_, mut1o hd, rfl, ?_⟩
    intro _
    exact ⟨rfl, rfl⟩
  · have g := of_decide_eq_false (show decide (IntKind.i64.wrap ((1 : Int) - 0) ≤ 12) = false from g)
    rw [wrapS (1 - 0) ⟨by omega, by omega⟩] at g
    omega
theorem sort1_ok (x : Int) : SemF Try.prog 33 [.grw 0 1] ⟨1, 0, DO x⟩ (fun v h' => v = .tup [] ∧ Go.Vm2.look h'.l 0 = some (.arr [.int .i64] .own (.ints [x]))) := by
  refine enter tt_ok Try.func33 (nt := 11) (cd := body Try.f33) rfl rfl rfl rfl ?_
  intro _
  refine call_pure [] (len_ok 1 (by omega)) rfl rfl rfl ?_ ?_ ?_
  · (repeat' first | exact trivial | exact rfl | refine And.intro ?_ ?_)
  · (repeat' first | exact trivial | exact rfl | refine And.intro ?_ ?_)
  intro v hv _
  obtain ⟨k, k1, k2, rfl⟩ := hv
  intro _
  refine call_mut [(0, some 0)] (pdq1_ok x k) rfl rfl rfl rfl ?_ ?_ ?_
  · (repeat' first | exact trivial | exact rfl | refine And.intro ?_ ?_)
  · (repeat' first | exact trivial | exact rfl | refine And.intro ?_ ?_)
  intro v h' ⟨hv, hd⟩
  subst hv
  refine ⟨_, mut1o hd, rfl, ?_⟩
  intro _
  exact ⟨rfl, rfl⟩
end Go.Proofs.Ytfkpnondknfmeaa.floatsApart
