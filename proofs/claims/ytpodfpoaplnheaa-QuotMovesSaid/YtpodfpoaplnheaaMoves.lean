/-
  QuotMoves: whatever the arguments, the law returns true, and its arguments read as before. No conditions.
-/
import Derived.Test.YtpodfpoaplnheaaRows
import Derived.Test.YtpodfpoaplnheaaVwOpen2
import Derived.Test.YtpodfpoaplnheaaVwRules7
import Derived.Test.YtpodfpoaplnheaaVmFast3
import Derived.WalkKit
import Derived.ProofKit
import Derived.OpenShut
import Derived.Carry
import Derived.Test.YtpodfpoaplnheaaHead
import Derived.Test.YtpodfpoaplnheaaSrtA
import Derived.Test.YtpodfpoaplnheaaSrtB
import Derived.Test.YtpodfpoaplnheaaSrtC
namespace Go.Proofs.Ytpodfpoaplnheaa.quotMoves
open Go.ChangeShapes Go.WideShapes Go.ChangeAt Go.RowKit
open Go.Vm (Facts Val Sound)
open Go.Vm2
set_option linter.unusedVariables false
set_option linter.unusedSectionVars false

open Go.Proofs.Ytpodfpoaplnheaa.srt
theorem own : ownKnob Try.prog.godebug = none := by kernel_rfl
theorem laidOut : laidOutB Try.prog = true := by kernel_rfl
set_option maxRecDepth 100000
def mv (L : List Int) (y : Int) : Nat → List Int
  | 0 => []
  | k + 1 => mv L y k ++ [raw L k + y]
theorem mv_len (L : List Int) (y : Int) : ∀ k, (mv L y k).length = k
  | 0 => rfl
  | k + 1 => by simp [mv, mv_len L y k]
theorem raw_mv {L : List Int} {y : Int} : ∀ (k i : Nat), i < k → raw (mv L y k) i = raw L i + y
  | k + 1, i, h => by
    unfold raw
    rw [List.getD_eq_getElem?_getD]
    simp only [mv]
    by_cases e : i < k
    · rw [List.getElem?_append_left (by rw [mv_len]; exact e)]
      have := raw_mv (L := L) (y := y) k i e
      unfold raw at this
      rw [List.getD_eq_getElem?_getD] at this
      exact this
    · have : i = k := by omega
      subst this
      rw [List.getElem?_append_right (by rw [mv_len]; exact Nat.le_refl _), mv_len, Nat.sub_self]
      rfl
theorem Kx_inj {a b : Int} (h : Kx a = Kx b) : a = b := by
  unfold Kx at h
  split at h <;> split at h <;> omega
section
variable {L : List Int} {y : Int} (hS : ∀ i, i < L.length → -10000000 ≤ raw L i ∧ raw L i ≤ 10000000) (hn : 1 ≤ L.length) (hy : -10000000 ≤ y ∧ y ≤ 10000000)
include hn
theorem rise_mv (d : Int) : rise (mv L y L.length) d = rise L d := by
  unfold rise
  rw [mv_len, raw_mv _ _ (by omega), raw_mv _ _ (by omega)]
  congr 1
  omega
theorem SS_mv (d : Int) : SS (mv L y L.length) d = SS L d := by
  unfold SS slopes cntS fromS untilS
  rw [rise_mv hn, mv_len]
include hS hy
theorem lw_mv {d a : Int} (hd : 1 ≤ d ∧ d ≤ 16) : ∀ k, 1 ≤ k → k ≤ L.length → lw (mv L y L.length) d a k = lw L d a k + d * y ∧ hw (mv L y L.length) d a k = hw L d a k + d * y
  | 0, h, _ => by omega
  | k + 1, _, hk => by
    have e : raw (mv L y L.length) k = raw L k + y := raw_mv _ _ (by omega)
    simp only [lw, hw]
    rw [e, Int.mul_add]
    by_cases k0 : k = 0
    · subst k0
      have h0 := hS 0 (by omega)
      have a1 : d * (-10000000) ≤ d * raw L 0 := Int.mul_le_mul_of_nonneg_left h0.1 (by omega)
      have a2 : d * raw L 0 ≤ d * 10000000 := Int.mul_le_mul_of_nonneg_left h0.2 (by omega)
      have c1 : d * (-10000000) ≤ d * y := Int.mul_le_mul_of_nonneg_left hy.1 (by omega)
      have c2 : d * y ≤ d * 10000000 := Int.mul_le_mul_of_nonneg_left hy.2 (by omega)
      have z : a * ((0 : Nat) : Int) = 0 := by simp
      rw [z]
      simp only [lw, hw]
      omega
    · obtain ⟨i1, i2⟩ := lw_mv hd k (by omega) (by omega)
      rw [i1, i2]
      omega
theorem Fe_mv {d a : Int} (hd : 1 ≤ d ∧ d ≤ 16) : Fe (mv L y L.length) d a ↔ Fe L d a := by
  unfold Fe
  rw [mv_len]
  obtain ⟨i1, i2⟩ := lw_mv hS hn hy (a := a) hd L.length hn (Nat.le_refl _)
  rw [i1, i2]
  omega
theorem Bef_mv {d : Int} (hd : d ≤ 17) : Bef (mv L y L.length) d ↔ Bef L d := by
  unfold Bef
  constructor
  · intro h e a h1 h2 h3 h4
    exact h e a h1 h2 (by rw [SS_mv hn]; exact h3) ((Fe_mv hS hn hy ⟨h1, by omega⟩).2 h4)
  · intro h e a h1 h2 h3 h4
    exact h e a h1 h2 (by rw [SS_mv hn] at h3; exact h3) ((Fe_mv hS hn hy ⟨h1, by omega⟩).1 h4)
end
theorem SS_bd {l : List Int} {d a : Int} (h : a ∈ SS l d) : Cd a := by
  unfold SS at h
  split at h
  · simp at h; subst h; exact ⟨by decide, by decide⟩
  · exact slopes_bd l d a h
def none_ : V := .tup [QV 0 0 0, .bool false, .int .i64 0]
theorem moves {L : List Int} {y : Int} (hS : ∀ i, i < L.length → -10000000 ≤ raw L i ∧ raw L i ≤ 10000000) (hn : 1 ≤ L.length) (hl : L.length ≤ 4000) (hy : -10000000 ≤ y ∧ y ≤ 10000000) {v w : V} (hv : FitR L v) (hw' : FitR (mv L y L.length) w) :
    (∃ a B d, v = .tup [QV a B d, .bool true, .int .i64 0] ∧ w = .tup [QV a (B + y * d) d, .bool true, .int .i64 0] ∧ Qv a B d ∧ Cd (B + y * d)) ∨ (v = none_ ∧ w = none_) := by
  have hC : AllC L := fun i hi => by have := hS i hi; exact ⟨by omega, by omega⟩
  have hCm : AllC (mv L y L.length) := fun i hi => by
    rw [mv_len] at hi
    rw [raw_mv _ _ hi]
    have := hS i hi; exact ⟨by omega, by omega⟩
  unfold FitR at hv hw'
  rw [mv_len] at hw'
  rw [if_neg (by omega), if_neg (fun h => h.elim (fun q => by omega) (fun q => q hC))] at hv
  rw [if_neg (by omega), if_neg (fun h => h.elim (fun q => by omega) (fun q => q hCm))] at hw'
  rcases hv with ⟨d, a, hd, ha, hf, hB, hmin, rfl⟩ | ⟨hB, rfl⟩
  · rcases hw' with ⟨d', a', hd', ha', hf', hB', hmin', rfl⟩ | ⟨hB', rfl⟩
    · rw [SS_mv hn] at ha'
      have hf'' := (Fe_mv hS hn hy hd').1 hf'
      have hB'' := (Bef_mv hS hn hy (by omega)).1 hB'
      have ed : d = d' := by
        rcases Int.lt_trichotomy d d' with q | q | q
        · exact absurd hf (hB'' d a hd.1 q ha)
        · exact q
        · exact absurd hf'' (hB d' a' hd'.1 q ha')
      subst ed
      have ea : a = a' := by
        rcases Int.lt_trichotomy (Kx a) (Kx a') with q | q | q
        · exact absurd ((Fe_mv hS hn hy hd).2 hf) (hmin' a (by rw [SS_mv hn]; exact ha) q)
        · exact Kx_inj q
        · exact absurd hf'' (hmin a' ha' q)
      subst ea
      obtain ⟨i1, i2⟩ := lw_mv hS hn hy (a := a) hd L.length hn (Nat.le_refl _)
      have b1 := lw_bd hC hd (SS_bd ha) hl L.length (Nat.le_refl _)
      have b2 := lw_bd hCm hd (SS_bd ha) (by rw [mv_len]; exact hl) L.length (by rw [mv_len]; exact Nat.le_refl _)
      have hfm : lw (mv L y L.length) d a L.length ≤ hw (mv L y L.length) d a L.length := by
        have := hf'; unfold Fe at this; rw [mv_len] at this; exact this
      have hfl : lw L d a L.length ≤ hw L d a L.length := hf
      refine .inl ⟨a, lw L d a L.length, d, rfl, ?_, ⟨hd, SS_bd ha, by omega, by omega⟩, ?_⟩
      · rw [i1, Int.mul_comm d y]
      · rw [Int.mul_comm y d, ← i1]; exact ⟨by omega, by omega⟩
    · exact absurd hf ((Bef_mv hS hn hy (by omega)).1 hB' d a hd.1 (by omega) ha)
  · rcases hw' with ⟨d', a', hd', ha', hf', hB', hmin', rfl⟩ | ⟨hB', rfl⟩
    · rw [SS_mv hn] at ha'
      exact absurd ((Fe_mv hS hn hy hd').1 hf') (hB d' a' hd'.1 (by omega) ha')
    · exact .inr ⟨rfl, rfl⟩
theorem law6 (l : List Int) (y : Int) (hl : l.length ≤ 9223372036854775807) (hy0 : -9223372036854775808 ≤ y ∧ y ≤ 9223372036854775807) : SemF Try.prog 6 [.slc 0 1 0 l.length, .int .i64 y] ⟨1, 1, [(0, .arr [.int .i64] .ro (.ints l))]⟩ (fun v _ => IsTrue v) := by
  obtain ⟨n, hnn⟩ : ∃ n, n = min l.length 300 := ⟨_, rfl⟩
  have hn : n ≤ l.length := by omega
  refine enter tt_ok Try.func6 (nt := 98) (cd := body Try.f6) rfl rfl rfl rfl ?_
  intro _
  refine head_ok rfl Try.func7 (cd := body Try.f7) rfl ?_
  intro _
  refine enter tt_ok Try.func18 (nt := 12) (cd := body Try.f18) rfl rfl rfl rfl ?_
  intro _; refine ⟨⟨by omega, by omega, by omega⟩, ?_⟩
  intro _
  have eN : (min ((l.length : Nat) : Int) 300 - 0).toNat = n := by omega
  refine call_pure [(0, some 0)] (Vals_pre l n hn hl) rfl rfl rfl ?_ ?_ ?_
  · (repeat' first | exact trivial | exact rfl | refine And.intro ?_ ?_)
  · (repeat' first | exact trivial | exact rfl | refine And.intro ?_ ?_)
    exact eN.symm
  intro v hv _
  subst hv
  intro _
  intro _; refine ⟨fun g => ?_, fun g => ?_⟩
  · intro _
    show true = true
    rfl
  have g : (!decide (Vls (l.take n))) = false := g
  rw [Bool.not_eq_false'] at g
  have hV := of_decide_eq_true g
  have hLl : (l.take n).length = n := tk_len hn
  have hn1 : 1 ≤ n := by have := hV.2.1; omega
  intro _; refine ⟨fun g => ?_, fun g => ?_⟩
  · intro _
    show true = true
    rfl
  have y1 := of_decide_eq_false (show decide (y < -10000000) = false from g)
  intro _; refine ⟨fun g => ?_, fun g => ?_⟩
  · intro _
    show true = true
    rfl
  have y2 := of_decide_eq_false (show decide (y > 10000000) = false from g)
  have hy : -10000000 ≤ y ∧ y ≤ 10000000 := by omega
  intro _
  refine loop2 tt_ok [8, 38] [1] 2 (fun k : { k : Nat // k ≤ n ∧ ∀ i, i < k → -10000000 ≤ raw l i ∧ raw l i ≤ 10000000 } => [(8, .grw 1 (mv (l.take n) y k.1).length), (38, .int .i64 (k.1 : Nat))]) (fun k => [(1, .arr [.int .i64] .grow (.ints (mv (l.take n) y k.1)))]) (fun k => n - k.1) ⟨0, Nat.zero_le _, fun i h => by omega⟩ ?_
  intro _
  refine ⟨⟨th [(1, none)] 2, rfl, rfl, rfl, rfl, rfl, rfl, ?_, ?_⟩, ?_⟩
  · (repeat' first | exact trivial | exact rfl | refine And.intro ?_ ?_)
  · (repeat' first | exact trivial | exact rfl | refine And.intro ?_ ?_)
  intro ⟨k, hk, hm⟩
  have hk : k ≤ n := hk
  have hml := mv_len (l.take n) y k
  intro _; refine ⟨fun g => ?_, fun g => ?_⟩
  · have g := of_decide_eq_true (show decide ((k : Int) < (((min ((l.length : Nat) : Int) 300 - 0).toNat : Nat) : Int)) = true from g)
    rw [eN] at g
    have ev : l.getD (0 + (0 : Int).toNat + ((k : Nat) : Int).toNat) 0 = raw l k := by
      have e0 : 0 + (0 : Int).toNat + ((k : Nat) : Int).toNat = k := by show 0 + 0 + k = k; omega
      rw [e0]; rfl
    intro _; refine ⟨show 0 ≤ (k : Int) ∧ (k : Int) < (((min ((l.length : Nat) : Int) 300 - 0).toNat : Nat) : Int) by rw [eN]; omega, ?_⟩
    intro _; refine ⟨show 0 + (0 : Int).toNat + (k : Int).toNat < l.length by show 0 + 0 + k < l.length; omega, ?_⟩
    intro _; refine ⟨fun g => ?_, fun g => ?_⟩
    · intro _
      show true = true
      rfl
    have v1 : decide (l.getD (0 + (0 : Int).toNat + ((k : Nat) : Int).toNat) 0 < -10000000) = false := g
    rw [ev] at v1
    have v1 := of_decide_eq_false v1
    intro _; refine ⟨fun g => ?_, fun g => ?_⟩
    · intro _
      show true = true
      rfl
    have v2 : decide (l.getD (0 + (0 : Int).toNat + ((k : Nat) : Int).toNat) 0 > 10000000) = false := g
    rw [ev] at v2
    have v2 := of_decide_eq_false v2
    intro _; refine ⟨rfl, ?_⟩
    intro _; refine ⟨fun g3 => by simp at g3, fun _ => ?_⟩
    refine ⟨⟨rfl, show (mv (l.take n) y k).length + 1 ≤ 4611686018427387904 by rw [hml]; omega, show ((mv (l.take n) y k).length + 1) * 8 ≤ 140737488355328 by rw [hml]; omega⟩, ?_⟩
    refine ⟨⟨k + 1, by omega, fun i hi => ?_⟩, by show n - (k + 1) < n - k; omega, th [(1, some 3)] 2, rfl, rfl, rfl, rfl, rfl, rfl, ?_, ?_⟩
    · by_cases e : i = k
      · subst e; omega
      · exact hm i (by omega)
    · (repeat' first | exact trivial | exact rfl | refine And.intro ?_ ?_)
      · show (mv (l.take n) y (k + 1)).length = (mv (l.take n) y k).length + 1
        rw [mv_len, mv_len]
      · exact (wrap_nat k (by omega)).symm
    · (repeat' first | exact trivial | exact rfl | refine And.intro ?_ ?_)
      show mv (l.take n) y k ++ [raw (l.take n) k + y] = mv (l.take n) y k ++ [IntKind.i64.wrap (l.getD (0 + (0 : Int).toNat + ((k : Nat) : Int).toNat) 0 + y)]
      rw [ev, raw_take (by omega), wrapS _ ⟨by omega, by omega⟩]
  have g := of_decide_eq_false (show decide ((k : Int) < (((min ((l.length : Nat) : Int) 300 - 0).toNat : Nat) : Int)) = false from g)
  rw [eN] at g
  have hkn : k = n := by omega
  subst hkn
  have hS : ∀ i, i < (l.take k).length → -10000000 ≤ raw (l.take k) i ∧ raw (l.take k) i ≤ 10000000 := fun i hi => by
    rw [hLl] at hi
    rw [raw_take hi]; exact hm i hi
  intro _
  refine call_pure [(0, some 0)] (Fit_pre l k hn hl) rfl rfl rfl ?_ ?_ ?_
  · (repeat' first | exact trivial | exact rfl | refine And.intro ?_ ?_)
  · (repeat' first | exact trivial | exact rfl | refine And.intro ?_ ?_)
    exact eN.symm
  intro v hv _
  have hv0 := hv
  have form : (∃ a B d, v = .tup [QV a B d, .bool true, .int .i64 0]) ∨ v = none_ := by
    unfold FitR at hv
    rw [if_neg (by rw [hLl]; omega), if_neg (fun h => h.elim (fun q => by rw [hLl] at q; omega) (fun q => q hV.1))] at hv
    rcases hv with ⟨d, a, _, _, _, _, _, rfl⟩ | ⟨_, rfl⟩
    · exact .inl ⟨_, _, _, rfl⟩
    · exact .inr rfl
  clear hv
  rcases form with ⟨a, B, d, rfl⟩ | rfl
  · intro _
    refine call_pure [(0, some 1)] (Fit_ok (mv (l.take k) y k) (by rw [hml]; omega)) rfl rfl rfl ?_ ?_ ?_
    · (repeat' first | exact trivial | exact rfl | refine And.intro ?_ ?_)
    · (repeat' first | exact trivial | exact rfl | refine And.intro ?_ ?_)
    intro v hv _
    have hw2 : FitR (mv (l.take k) y (l.take k).length) v := by rw [hLl]; exact hv
    rcases moves hS (by rw [hLl]; exact hn1) (by rw [hLl]; omega) hy hv0 hw2 with ⟨a2, B2, d2, e1, rfl, hq, hB⟩ | ⟨e1, rfl⟩
    · simp only [V.tup.injEq, List.cons.injEq, V.agg.injEq, V.int.injEq, true_and, and_true] at e1
      obtain ⟨rfl, rfl, rfl⟩ := e1
      intro _; refine ⟨fun g => ?_, fun g => ?_⟩
      · exact absurd (show ((0 : Int) != 0) = true from g) (by decide)
      intro _; refine ⟨fun g => ?_, fun g => ?_⟩
      · exact absurd (show ((0 : Int) != 0) = true from g) (by decide)
      intro _; refine ⟨fun g => ?_, fun g => ?_⟩
      · exact absurd (show (!true == true) = true from g) (by decide)
      intro _
      refine call_pure [] (add_ok a B d y) rfl rfl rfl ?_ ?_ ?_
      · (repeat' first | exact trivial | exact rfl | refine And.intro ?_ ?_)
      · (repeat' first | exact trivial | exact rfl | refine And.intro ?_ ?_)
      intro v hv _
      have ea : addv a B d y = .tup [QV a (B + y * d) d, .int .i64 0] := by
        unfold addv
        rw [if_pos ⟨hq, by omega, by omega⟩, if_pos hB]
      rw [ea] at hv
      subst hv
      intro _; refine ⟨fun g => ?_, fun g => ?_⟩
      rotate_left
      · exact absurd (show ((0 : Int) == 0) = false from g) (by decide)
      intro _
      show _ = true
      simp
    · exact absurd e1 (by simp [none_])
  · intro _
    refine call_pure [(0, some 1)] (Fit_ok (mv (l.take k) y k) (by rw [hml]; omega)) rfl rfl rfl ?_ ?_ ?_
    · (repeat' first | exact trivial | exact rfl | refine And.intro ?_ ?_)
    · (repeat' first | exact trivial | exact rfl | refine And.intro ?_ ?_)
    intro v hv _
    have hw2 : FitR (mv (l.take k) y (l.take k).length) v := by rw [hLl]; exact hv
    rcases moves hS (by rw [hLl]; exact hn1) (by rw [hLl]; omega) hy hv0 hw2 with ⟨a2, B2, d2, e1, rfl, hq, hB⟩ | ⟨e1, rfl⟩
    · exact absurd e1 (by simp [none_])
    · intro _; refine ⟨fun g => ?_, fun g => ?_⟩
      · exact absurd (show ((0 : Int) != 0) = true from g) (by decide)
      intro _; refine ⟨fun g => ?_, fun g => ?_⟩
      · exact absurd (show ((0 : Int) != 0) = true from g) (by decide)
      intro _; refine ⟨fun g => ?_, fun g => ?_⟩
      · exact absurd (show (!false == false) = true from g) (by decide)
      intro _
      show true = true
      rfl

theorem walk (w : World) (v_l : Value) (s_l : Src) (l : List Int) (cap_l : Nat) (hk_l : s_l.ks = [.int .i64]) (ha_l : s_l.ac = .ints l) (hs_l : s_l.lies w) (hn_l : s_l.at_ = none → l.length = 0) (hc_l : l.length ≤ cap_l) (hv_l : v_l = s_l.val cap_l) (hm_l : l.length ≤ maxLen) (w_l : ∀ n ∈ l, (Lit.int .i64 n).wf = true) (y : Int) (w_y : (Lit.int .i64 y).wf = true) :
    Calls Try.prog 6 #[v_l, .int .i64 y] w fun e w' => e = .returned (.bool true) ∧ Below w.heap.size w w' := by
  obtain ⟨at_l, ks_l, ac_l⟩ := s_l
  simp only [] at hk_l ha_l
  subst hk_l ha_l
  have h_l : l.length ≤ 9223372036854775807 := by unfold maxLen at hm_l; omega
  have b_y := w_y
  simp [Lit.wf, IntKind.min, IntKind.max, IntKind.signed, IntKind.bits] at b_y
  exact top_run (by kernel_rfl) (by kernel_rfl) (T := [7]) (fun f hf w => by
      rcases List.mem_cons.1 hf with e | e
      · subst e; exact head w
      · exact (List.not_mem_nil e).elim) (l := [⟨at_l, [.int .i64], .ints l⟩]) (args := [.slc 0 1 0 l.length, .int .i64 y]) («as» := [Src.av 0 cap_l ⟨at_l, [.int .i64], .ints l⟩, .int .i64 y]) (cargs := [v_l, .int .i64 y]) w
    (fun s h => by
      rcases List.mem_cons.1 h with e | h
      · subst e; exact hs_l
      · exact (List.not_mem_nil h).elim)
    (Cvs.cons (src_cv (s := ⟨at_l, [.int .i64], .ints l⟩) rfl 1 hc_l hn_l) (Cvs.cons mk_int Cvs.nil))
    (by simp only [Go.Vm.convs, Go.Vm.conv]; rw [src_conv (j := 0) (s := ⟨at_l, [.int .i64], .ints l⟩) rfl, hv_l])
    (law6 _ _ h_l b_y)

set_option maxRecDepth 100000 in
theorem lifted (os : Os) (started : os.Started) (H : Type) (enc : TypeId × Value → H) :
    ReturnsInHanded {} Try.checked os 6 .any (Rows.quotMovesSpec.pre6 enc Try.prog Try.f6 Rows.quotMovesRow.domain false) (Rows.quotMovesSpec.post enc Try.prog Try.f6 false true false false) := by
  refine returnsInHanded_of_change (C := Try.checked) own started (by kernel_rfl) Try.func6
    (ChangeSpec.witness6 (enc := enc) (C := Try.checked) false ⟨#[], #[.slice none 0 0, .int .i64 0], []⟩ 8 (by kernel_rfl) (by kernel_rfl) (by kernel_rfl) (by kernel_rfl)) ?_
  intro W base args ds gs before hval0 hW hcnd _
  have hval : ∀ (j : Nat) t v, Try.f6.params[j]? = some t → args[j]? = some v → Value.okWide Try.prog W .any base t v := hval0
  have hW' := hW
  obtain ⟨p, q, hA0, hV, rfl, hfz, hnd⟩ := hW
  have hA : DataW.TrodAll enc Try.prog W 0 (fun _ => true) true Try.f6.params.toList args.toList ds p := hA0
  rw [Try.params6] at hA hval
  obtain ⟨v0, vs0, d0, ds0, p0, q0, hargs, rfl, rfl, h0, r0⟩ := trodAll_cons hA
  obtain ⟨v1, vs1, d1, ds1, p1, q1, rfl, rfl, rfl, h1, r1⟩ := trodAll_cons r0
  obtain ⟨rfl, rfl, rfl⟩ := trodAll_nil r1
  obtain rfl : args = #[v0, v1] := by cases args; simp_all
  obtain ⟨rfl, rfl⟩ := trodVars_none hV
  obtain ⟨s_l, l, cap_l, hk_l, ha_l, hs_l, hn_l, hc_l, hv_l, hm_l, w_l⟩ := Go.Vm2.open_list Try.underlying24 Try.underlying3 (by kernel_rfl) (hval 0 24 v0 rfl rfl) h0
  have hlt0 : ∀ x ∈ p0, x.block < W.heap.size := fun x hx => by simpa using hW'.lt x (by simp [hx])
  obtain ⟨y, rfl, rfl, rfl, w_y⟩ := open_int Try.underlying3 (hval 1 3 v1 rfl rfl) h1
  clear hA0 hval0
  refine (walk W v0 s_l l cap_l hk_l ha_l hs_l hn_l hc_l hv_l hm_l w_l y w_y).mono fun e W' ⟨he, hg⟩ => ?_
  subst he
  exact ⟨_, rfl, _, _, _, [], _, [], hW', trodAll_cons_mk (shut_bool Try.underlying4 _) trodAll_mk0, (trodAll_cons_mk (Below.trod laidOut (by kernel_rfl) (of_decide_eq_true (by kernel_rfl)) h0 hg hlt0) (trodAll_cons_mk (shut_int Try.underlying3 w_y) trodAll_mk0)), rfl, hg.frame _, fun h => by cases h⟩

theorem over : Rows.quotMovesRow.holds Try.pinned (OpenSpec.ofChange Rows.quotMovesSpec) :=
  OpenClaim.holds_of_wide 6 Try.f6 rfl rfl rfl rfl rfl rfl rfl ⟨rfl, rfl, rfl, rfl, rfl⟩ rfl rfl rfl rfl rfl (by kernel_rfl) Try.func6 (by kernel_rfl)
    (of_decide_eq_true (by kernel_rfl)) (by unfold Func.isWrapper; first | (rw [if_pos (by decide +kernel)]; kernel_rfl) | (rw [if_neg (by decide +kernel)]; exact ⟨rfl, rfl⟩))
    (fun os started H enc _ => lifted os started H enc)

/-- the statement -/
theorem proved : Rows.QuotMovesSaid :=
  over
#print axioms proved
end Go.Proofs.Ytpodfpoaplnheaa.quotMoves
