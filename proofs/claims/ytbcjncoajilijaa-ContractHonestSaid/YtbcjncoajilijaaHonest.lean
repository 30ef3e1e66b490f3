/-
 ContractHonest: whatever the arguments, the law returns true, and its arguments read as before. No conditions.
-/
import Derived.Test.YtbcjncoajilijaaRows
import Derived.Test.YtbcjncoajilijaaVwOpen2
import Derived.Test.YtbcjncoajilijaaVwRules7
import Derived.WalkKit
import Derived.ProofKit
import Derived.OpenShut
import Derived.Carry
import Derived.Test.YtbcjncoajilijaaSrtA
import Derived.Test.YtbcjncoajilijaaSrtB
import Derived.Test.YtbcjncoajilijaaCrvA
import Derived.Test.YtbcjncoajilijaaConA
import Derived.Test.YtbcjncoajilijaaConB
namespace Go.Proofs.Ytbcjncoajilijaa.contractHonest
open Go.ChangeShapes Go.WideShapes Go.ChangeAt Go.RowKit
open Go.Vm (Facts Val Sound)
open Go.Vm2
set_option linter.unusedVariables false
set_option linter.unusedSectionVars false
open Go.Proofs.Ytbcjncoajilijaa.con
theorem own : ownKnob Try.prog.godebug = none := by kernel_rfl
theorem laidOut : laidOutB Try.prog = true := by kernel_rfl
set_option maxRecDepth 100000
abbrev WK : List CK := [.int .u16]
def HA (nd : Int) (ps L : Rws) (i : Nat) : Prop := gx L i 0 = nd ∧ Ln_ (gx L i 1) ∧ ((gx L i 2 = 1 ∧ gx L i 3 = pr (vals ps) (gx ps 0 0) (gx L i 1)) ∨ (gx L i 2 = 3 ∧ gx L i 3 = 0))
theorem gx_left {a b : Rws} {i j : Nat} (h : i < a.length) : gx (a ++ b) i j = gx a i j := by
 have e : (a ++ b).getD i [] = a.getD i [] := by rw [List.getD_eq_getElem?_getD, List.getD_eq_getElem?_getD, List.getElem?_append_left h]
 unfold gx
 rw [e]
theorem gx_end {a : Rws} {r : List Go.Vm2.D} {j : Nat} : gx (a ++ [r]) a.length j = (r.getD j (.n 0)).int := by
 have e : (a ++ [r]).getD a.length [] = r := by rw [List.getD_eq_getElem?_getD, List.getElem?_append_right (Nat.le_refl _), Nat.sub_self]; rfl
 unfold gx
 rw [e]
theorem HA.push {nd : Int} {ps L : Rws} {w k hh : Int} (h : ∀ i, i < L.length → HA nd ps L i) (hw : Ln_ w) (hk : (k = 1 ∧ hh = pr (vals ps) (gx ps 0 0) w) ∨ (k = 3 ∧ hh = 0)) : ∀ i, i < (L ++ ([[.n nd, .n w, .n k, .n hh]] : Rws)).length → HA nd ps (L ++ ([[.n nd, .n w, .n k, .n hh]] : Rws)) i := by
 intro i hi
 rw [List.length_append] at hi
 by_cases e : i < L.length
 ·unfold HA
  rw [gx_left e, gx_left e, gx_left e, gx_left e]
  exact h i e
 ·have e2 : i = L.length := by
   have : ([[.n nd, .n w, .n k, .n hh]] : Rws).length = 1 := rfl
   omega
  subst e2
  unfold HA
  rw [gx_end, gx_end, gx_end, gx_end]
  exact ⟨rfl, hw, hk⟩
theorem HA.x {nd mo : Int} {ps L : Rws} {i : Nat} (hW : Wc nd mo ps) (h : HA nd ps L i) : Xk nd L i := by
 obtain ⟨h1, h2, h3⟩ := h
 refine ⟨⟨by rw [h1]; exact hW.1, h2, ?_⟩, h1⟩
 rcases h3 with ⟨k1, k2⟩ | ⟨k1, k2⟩
 ·exact .inl ⟨k1, by rw [k2]; exact hW.pr _⟩
 ·exact .inr ⟨.inr k1, k2⟩
theorem ha_acc {nd mo : Int} {ps L : Rws} (hmo : 0 ≤ mo) : ∀ k, (∀ i, i < k → HA nd ps L i) → acc mo ps L (A0 nd) k = A0 nd
 | 0, _ => rfl
 | k + 1, h => by
  show jd _ _ _ mo (acc mo ps L (A0 nd) k) = _
  rw [ha_acc hmo k (fun i hi => h i (by omega))]
  obtain ⟨_, _, h3⟩ := h k (by omega)
  rw [jd_eq (ch := 0) (cg := 0) (la := 0) rfl (by
   rcases h3 with ⟨k1, k2⟩ | ⟨k1, k2⟩
   ·rw [if_neg (fun q => q.elim (fun q => by omega) (fun q => q.2 (by omega)))]
   ·rw [if_neg (fun q => q.elim (fun q => by omega) (fun q => by omega))]) (by
   rcases h3 with ⟨k1, k2⟩ | ⟨k1, k2⟩
   ·rw [if_neg (fun q => q.2 (show gx L k 3 - pr (vals ps) (gx ps 0 0) (gx L k 1) = 0 by omega))]
   ·rw [if_neg (fun q => by omega)]) (by
   rcases h3 with ⟨k1, k2⟩ | ⟨k1, k2⟩
   ·rw [if_neg (fun q => q.2 (show gx L k 3 - pr (vals ps) (gx ps 0 0) (gx L k 1) = 0 by omega))]
   ·rw [if_neg (fun q => by omega)])]
  rw [decide_eq_false (show ¬ (0 : Int) > mo by omega)]
abbrev DW_ (ps : Rws) (ws : List Int) : List (Nat × Ob) := [(0, .arr PK .rd (.recs ps)), (1, .arr WK .rd (.ints ws))]
set_option maxHeartbeats 8000000 in
theorem honest_ok (nd mo : Int) (ps : Rws) (ws : List Int) (late : Int) (hb : gb ps) (hW : Wc nd mo ps) (hl : ws.length ≤ 40) (hw : ∀ i, i < ws.length → 0 ≤ raw ws i ∧ raw ws i ≤ 65535) : SemF Try.prog 21 [CV nd mo ps 0, .slc 1 1 0 ws.length, .int .u32 late] ⟨2, 2, DW_ ps ws⟩ (fun v h' => ∃ L : Rws, L.length = ws.length ∧ (∀ i, i < L.length → HA nd ps L i) ∧ v = .tup [.grw 2 L.length, .bool true] ∧ h' = ⟨3, 2, [(2, .arr AK .grow (.recs L))]⟩) := by
 refine SemF.ret ?_
 refine enter tt_ok Try.func21 (nt := 50) (cd := body Try.f21) rfl rfl rfl rfl ?_
 intro _
 refine loop2 tt_ok [8, 9] [3] 4 (fun x : { L : Rws // L.length ≤ ws.length ∧ ∀ i, i < L.length → HA nd ps L i } => [(8, .grw 3 x.1.length), (9, .int .i64 (x.1.length : Nat))]) (fun x => [(3, .arr AK .grow (.recs x.1))]) (fun x => ws.length - x.1.length) ⟨[], Nat.zero_le _, fun i h => absurd h (Nat.not_lt_zero _)⟩ ?_
 intro _
 refine ⟨⟨th [(3, none)] 4, rfl, rfl, rfl, rfl, rfl, rfl, ?_, ?_⟩, ?_⟩
 ·and_intros<;>try first|exact trivial|exact rfl
 ·and_intros<;>try first|exact trivial|exact rfl
 intro ⟨L, hk, hm⟩
 have hk : L.length ≤ ws.length := hk
 have hm : ∀ i, i < L.length → HA nd ps L i := hm
 intro _; refine ⟨fun g => ?_, fun g => ?_⟩
 rotate_left
 ·have g := of_decide_eq_false (show decide ((L.length : Int) < (ws.length : Int)) = false from g)
  have e : L.length = ws.length := by omega
  intro _
  refine ⟨[(2, some 3)], .tup [.grw 2 L.length, .bool true], ⟨3, 2, [(2, .arr AK .grow (.recs L))]⟩, rfl, rfl, rfl, rfl, ?_, ?_, L, e, hm, rfl, rfl⟩
  ·and_intros<;>try first|exact trivial|exact rfl
  ·and_intros<;>try first|exact trivial|exact rfl
 have g := of_decide_eq_true (show decide ((L.length : Int) < (ws.length : Int)) = true from g)
 have z : 0 + ((L.length : Nat) : Int).toNat = L.length := by omega
 intro _; refine ⟨show 0 ≤ (L.length : Int) ∧ (L.length : Int) < (ws.length : Int) by omega, ?_⟩
 intro _; refine ⟨show 0 + (L.length : Int).toNat < ws.length by omega, ?_⟩
 have hr := hw L.length (by omega)
 have hr' : 0 ≤ raw ws (0 + ((L.length : Nat) : Int).toNat) ∧ raw ws (0 + ((L.length : Nat) : Int).toNat) ≤ 65535 := by rw [z]; exact hr
 have hLn : Ln_ (raw ws (0 + ((L.length : Nat) : Int).toNat)) := ⟨hr'.1, by have := hr'.2; omega⟩
 have eW : IntKind.i64.wrap (raw ws (0 + ((L.length : Nat) : Int).toNat)) = raw ws (0 + ((L.length : Nat) : Int).toNat) := wrapS _ ⟨by have := hr'.1; omega, by have := hr'.2; omega⟩
 intro _; refine ⟨by kernel_rfl, ?_⟩
 intro _
 refine call_pure [(0, some 0)] (promised_ok nd mo ps (raw ws (0 + ((L.length : Nat) : Int).toNat)) hb) rfl rfl rfl ?_ ?_ ?_
 ·and_intros<;>try first|exact trivial|exact rfl
 ·and_intros<;>try first|exact trivial|exact rfl
  exact eW.symm
 intro v hv _
 rcases hv with ⟨_, _, rfl⟩ | ⟨h, _⟩
 rotate_left
 ·exact absurd ⟨hW, hLn⟩ h
 intro _; refine ⟨fun g => ?_, fun g => ?_⟩
 ·exact absurd (show ((0 : Int) != 0) = true from g) (by decide)
 intro _; refine ⟨fun q => absurd q (by decide), ?_⟩
 intro _; refine ⟨show 0 ≤ Int.tmod (L.length : Int) 32 from Int.tmod_nonneg _ (by omega), ?_⟩
 intro _; refine ⟨fun g => ?_, fun g => ?_⟩
 ·intro _; refine ⟨rfl, ?_⟩
  intro _; refine ⟨fun g3 => by simp at g3, fun _ => ?_⟩
  refine ⟨⟨rfl, show L.length + 1 ≤ 4611686018427387904 by omega, show (L.length + 1) * 32 ≤ 140737488355328 by omega⟩, ?_⟩
  refine ⟨⟨L ++ ([[.n nd, .n (raw ws (0 + ((L.length : Nat) : Int).toNat)), .n 1, .n (pr (vals ps) (gx ps 0 0) (raw ws (0 + ((L.length : Nat) : Int).toNat)))]] : Rws), by rw [List.length_append]; show L.length + 1 ≤ ws.length; omega, HA.push hm hLn (.inl ⟨rfl, rfl⟩)⟩, by show ws.length - (L ++ ([_] : Rws)).length < ws.length - L.length; rw [List.length_append]; show ws.length - (L.length + 1) < _; omega, th [(3, some 6)] 4, rfl, rfl, rfl, rfl, rfl, rfl, ?_, ?_⟩
  ·and_intros<;>try first|exact trivial|exact rfl
   ·exact List.length_append
   ·show (((L ++ ([_] : Rws)).length : Nat) : Int) = IntKind.i64.wrap ((L.length : Int) + 1); rw [List.length_append]; exact (wrap_nat L.length (by omega)).symm
  ·and_intros<;>try first|exact trivial|exact rfl
   show _ = L ++ ([[.n nd, .n (IntKind.i64.wrap (raw ws (0 + ((L.length : Nat) : Int).toNat))), .n 1, .n (pr (vals ps) (gx ps 0 0) (raw ws (0 + ((L.length : Nat) : Int).toNat)))]] : Rws); rw [eW]
 intro _; refine ⟨rfl, ?_⟩
 intro _; refine ⟨fun g3 => by simp at g3, fun _ => ?_⟩
 refine ⟨⟨rfl, show L.length + 1 ≤ 4611686018427387904 by omega, show (L.length + 1) * 32 ≤ 140737488355328 by omega⟩, ?_⟩
 refine ⟨⟨L ++ ([[.n nd, .n (raw ws (0 + ((L.length : Nat) : Int).toNat)), .n 3, .n 0]] : Rws), by rw [List.length_append]; show L.length + 1 ≤ ws.length; omega, HA.push hm hLn (.inr ⟨rfl, rfl⟩)⟩, by show ws.length - (L ++ ([_] : Rws)).length < ws.length - L.length; rw [List.length_append]; show ws.length - (L.length + 1) < _; omega, th [(3, some 6)] 4, rfl, rfl, rfl, rfl, rfl, rfl, ?_, ?_⟩
 ·and_intros<;>try first|exact trivial|exact rfl
  ·exact List.length_append
  ·show (((L ++ ([_] : Rws)).length : Nat) : Int) = IntKind.i64.wrap ((L.length : Int) + 1); rw [List.length_append]; exact (wrap_nat L.length (by omega)).symm
 ·and_intros<;>try first|exact trivial|exact rfl
  show _ = L ++ ([[.n nd, .n (IntKind.i64.wrap (raw ws (0 + ((L.length : Nat) : Int).toNat))), .n 3, .n 0]] : Rws); rw [eW]
theorem u16_of {ws : List Int} (w : ∀ n ∈ ws, (Lit.int .u16 n).wf = true) : ∀ i, i < ws.length → 0 ≤ raw ws i ∧ raw ws i ≤ 65535 := by
 intro i hi
 have hm : raw ws i ∈ ws := by
  unfold raw
  rw [List.getD_eq_getElem?_getD, List.getElem?_eq_getElem hi]
  exact List.getElem_mem hi
 have h := w _ hm
 simp [Lit.wf, IntKind.min, IntKind.max, IntKind.signed, IntKind.bits] at h
 exact h
set_option maxHeartbeats 16000000 in
theorem law5 (nd mo : Int) (ps : Rws) (ws : List Int) (late : Int) (hb : gb ps) (hw : ∀ i, i < ws.length → 0 ≤ raw ws i ∧ raw ws i ≤ 65535) : SemF Try.prog 5 [CV nd mo ps 0, .slc 1 1 0 ws.length, .int .u32 late] ⟨2, 2, [(0, .arr PK .ro (.recs ps)), (1, .arr WK .ro (.ints ws))]⟩ (fun v _ => IsTrue v) := by
 refine enter tt_ok Try.func5 (nt := 90) (cd := body Try.f5) rfl rfl rfl rfl ?_
 intro _
 refine call_pure [] (hd_ok) rfl rfl rfl ?_ ?_ ?_
 ·and_intros<;>try first|exact trivial|exact rfl
 ·and_intros<;>try first|exact trivial|exact rfl
 intro v hv _
 subst hv
 intro _
 refine call_pure [(0, some 0)] (rfew_ok nd mo ps hb.1) rfl rfl rfl ?_ ?_ ?_
 ·and_intros<;>try first|exact trivial|exact rfl
 ·and_intros<;>try first|exact trivial|exact rfl
 intro v hv _
 obtain ⟨b0, rfl⟩ := hv
 intro _; refine ⟨fun g => ?_, fun g => ?_⟩
 ·intro _
  show true = true
  rfl
 intro _
 refine call_pure [(0, some 0)] (rcvalid_ok nd mo ps hb) rfl rfl rfl ?_ ?_ ?_
 ·and_intros<;>try first|exact trivial|exact rfl
 ·and_intros<;>try first|exact trivial|exact rfl
 intro v hv _
 rcases hv with ⟨hW, rfl⟩ | ⟨hW, rfl⟩
 rotate_left
 ·intro _
  show true = true
  rfl
 intro _; refine ⟨fun g => ?_, fun g => ?_⟩
 ·intro _
  show true = true
  rfl
 have g40 := of_decide_eq_false (show decide ((ws.length : Int) > 40) = false from g)
 have hmo := hW.2.1.1
 intro _
 refine call_new [(0, some 0), (1, some 1)] (honest_ok nd mo ps ws late hb hW (by omega) hw) rfl rfl rfl rfl ?_ ?_ ?_
 ·and_intros<;>try first|exact trivial|exact rfl
 ·and_intros<;>try first|exact trivial|exact rfl
 intro v h' hv
 obtain ⟨L, eL, hL, rfl, rfl⟩ := hv
 refine ⟨[(3, some 2)], 4, [(3, .arr AK .grow (.recs L))], .tup [.grw 3 L.length, .bool true], rfl, rfl, rfl, rfl, rfl, ?_, ?_, ?_⟩
 ·and_intros<;>try first|exact trivial|exact rfl
 ·and_intros<;>try first|exact trivial|exact rfl
 intro _
 refine call_new [(0, some 0), (1, some 3)] (course_ok nd mo ps L hb (by omega)) rfl rfl rfl rfl ?_ ?_ ?_
 ·and_intros<;>try first|exact trivial|exact rfl
 ·and_intros<;>try first|exact trivial|exact rfl
 intro v h' hv
 have hC : Cok nd mo ps L := ⟨hW, by omega, fun i hi => (hL i hi).x hW⟩
 rcases hv with ⟨_, hv, rfl⟩ | ⟨h, _⟩
 rotate_left
 ·exact absurd hC h
 rw [ha_acc hmo L.length hL] at hv
 subst hv
 refine ⟨[(4, some 2)], 5, [(4, .arr [.int .i64] .grow (.ints (hts ps L L.length)))], .tup [AV_ (A0 nd), .grw 4 L.length, .int .i64 0], rfl, rfl, rfl, rfl, rfl, ?_, ?_, ?_⟩
 ·and_intros<;>try first|exact trivial|exact rfl
 ·and_intros<;>try first|exact trivial|exact rfl
 intro _
 refine loop2 tt_ok [7, 13] [] 6 (fun k : { k : Nat // k ≤ L.length } => [(7, .test true), (13, .int .i64 (k.1 : Nat))]) (fun _ => []) (fun k => L.length - k.1) ⟨0, Nat.zero_le _⟩ ?_
 intro _
 refine ⟨⟨th [] 6, rfl, rfl, rfl, rfl, rfl, rfl, ?_, ?_⟩, ?_⟩
 ·and_intros<;>try first|exact trivial|exact rfl
 ·and_intros<;>try first|exact trivial|exact rfl
 intro ⟨k, hk⟩
 have hk : k ≤ L.length := hk
 intro _; refine ⟨fun g => ?_, fun g => ?_⟩
 rotate_left
 ·intro _; refine ⟨fun g => ?_, fun g => ?_⟩
  rotate_left
  ·exact absurd g (by decide)
  intro _; refine ⟨fun g => ?_, fun g => ?_⟩
  rotate_left
  ·exact absurd g (by decide)
  intro _
  show (((A0 nd).nd == nd) && (((A0 nd).ch == 0) && (((A0 nd).cg == 0) && (((A0 nd).la == 0) && ((A0 nd).fr == false))))) = true
  simp
 have g := of_decide_eq_true (show decide ((k : Int) < (L.length : Int)) = true from g)
 have z : ((k : Nat) : Int).toNat = k := by omega
 intro _; refine ⟨show 0 ≤ (k : Int) ∧ (k : Int) < (L.length : Int) by omega, ?_⟩
 intro _; refine ⟨show (k : Int).toNat < L.length by omega, ?_⟩
 intro _; refine Or.inl ?_
 intro _
 refine call_pure [(0, some 0)] (judge2_ok nd mo ps (A0 nd) (gx L ((k : Nat) : Int).toNat 0) (gx L ((k : Nat) : Int).toNat 1) (gx L ((k : Nat) : Int).toNat 2) (gx L ((k : Nat) : Int).toNat 3) hb) rfl rfl rfl ?_ ?_ ?_
 ·and_intros<;>try first|exact trivial|exact rfl
 ·and_intros<;>try first|exact trivial|exact rfl
 intro v hv _
 rcases hv with ⟨_, rfl⟩ | ⟨h, _⟩
 rotate_left
 ·rw [z] at h
  exact absurd ⟨hW, ⟨hW.1, (by decide : Cn_ 0), (by decide : Cn_ 0), (by decide : (-1000000 : Int) ≤ 0), (by decide : (0 : Int) ≤ 1000000)⟩, ((hL k (by omega)).x hW).1, rfl, (hL k (by omega)).1⟩ h
 intro _; refine ⟨by kernel_rfl, ?_⟩
 intro _; refine ⟨fun g => ?_, fun g => ?_⟩
 rotate_left
 ·exact absurd g (by decide)
 intro _; refine ⟨fun g => ?_, fun g => ?_⟩
 rotate_left
 ·exact absurd g (by decide)
 have hcut : decide (gx L ((k : Nat) : Int).toNat 2 = 1 ∧ gx L ((k : Nat) : Int).toNat 3 > pr (vals ps) (gx ps 0 0) (gx L ((k : Nat) : Int).toNat 1)) = false := by
  rw [z]
  refine decide_eq_false (fun q => ?_)
  rcases (hL k (by omega)).2.2 with ⟨k1, k2⟩ | ⟨k1, k2⟩ <;> omega
 refine ⟨⟨k + 1, by omega⟩, by show L.length - (k + 1) < L.length - k; omega, th [] 6, rfl, rfl, rfl, rfl, rfl, rfl, ?_, ?_⟩
 ·and_intros<;>try first|exact trivial|exact rfl
  ·rw [hcut]; rfl
  ·exact (wrap_nat k (by omega)).symm
 ·and_intros<;>try first|exact trivial|exact rfl
theorem agg_cv {n : Nat} {ν : Nu} {vs : List V} {as' : List Go.Vm.AV} (h : Cvs n ν vs as') : Cv n ν (.agg vs) (.agg as') := by
 simp only [Cv]; exact ⟨as', rfl, h⟩
def fieldsSt (P : Program) : Nat → List Field → List TypeId → Bool
 | _, [], [] => true
 | j, f :: fs, u :: us => Nat.beq f.offset j && Nat.beq (P.cellsOf f.type) 1 && Nat.beq f.type u && fieldsSt P (j + 1) fs us
 | _, _, _ => false
theorem fieldsSt_get {P : Program} : ∀ {fs : List Field} {ts : List TypeId} {j0 : Nat}, fieldsSt P j0 fs ts = true → ∀ (j : Nat) (u : TypeId), ts[j]? = some u → ∃ f, fs[j]? = some f ∧ f.offset = j0 + j ∧ P.cellsOf f.type = 1 ∧ f.type = u
 | [], [], _, _ => fun j u e => by simp at e
 | [], _ :: _, _, h => by simp [fieldsSt] at h
 | _ :: _, [], _, h => by simp [fieldsSt] at h
 | f :: fs, u :: us, j0, h => by
  simp only [fieldsSt, Bool.and_eq_true] at h
  obtain ⟨⟨⟨h1, h2⟩, h3⟩, h4⟩ := h
  intro j u' e
  cases j with
  | zero =>
   simp at e; subst e
   exact ⟨f, rfl, Nat.eq_of_beq_eq_true h1, Nat.eq_of_beq_eq_true h2, Nat.eq_of_beq_eq_true h3⟩
  | succ j =>
   simp at e
   obtain ⟨f', e1, e2, e3⟩ := fieldsSt_get h4 j u' e
   exact ⟨f', by simpa using e1, by rw [e2]; omega, e3⟩
theorem open_st {H : Type} {enc : TypeId × Value → H} {P : Program} {w : World} {base : Nat} {spare : Nat → Bool} {held : Bool} {r : Reach} {t : TypeId} {fs : Array Field} {ts : List TypeId} {v : Value} {d : DataW H} {p : List MemPlace} (ht : P.underlying t = some (.struct fs)) (hts : P.cellTypes P.depth t = some ts) (hC : P.cellsOf t = ts.length) (hf : fieldsSt P 0 fs.toList ts = true)
  (hval : Value.okWide P w r base t v) (h : DataW.Trod enc P w 0 spare held t v d p) :
  ∃ cs : Array Value, v = .agg cs ∧ cs.size = ts.length ∧ ∀ (j : Nat) (u : TypeId), ts[j]? = some u → ∃ x d' p' fuel, cs[j]? = some x ∧ Cell.okWide P w r base u x ∧ DataW.trod enc P w 0 spare held fuel u [x] = some (d', p') := by
 unfold Value.okWide at hval
 rw [ht] at hval
 obtain ⟨cs, rfl, hs, ts', ht', _, hk⟩ := hval
 rw [hts] at ht'
 simp only [Option.some.injEq] at ht'
 subst ht'
 obtain ⟨fuel, h⟩ := h
 obtain ⟨xs, n, _, _, hl, hxl, hf'⟩ := DataW.trod_struct ht h
 refine ⟨cs, rfl, by rw [hs, hC], fun j u hu => ?_⟩
 obtain ⟨f, e1, e2, e3, rfl⟩ := fieldsSt_get hf j u hu
 have hj : j < ts.length := (List.getElem?_eq_some_iff.1 hu).1
 have hjc : j < cs.size := by rw [hs, hC]; exact hj
 obtain ⟨u', hu', hok⟩ := hk j cs[j] (by simp [hjc])
 rw [Nat.mod_eq_of_lt hj, hu] at hu'
 cases hu'
 have e4 := hf' j f (by simpa using e1)
 rw [e2, e3, Nat.zero_add] at e4
 have e5 : ((Value.agg cs).cells.toList.drop j).take 1 = [cs[j]] := by
  show (cs.toList.drop j).take 1 = _
  rw [List.drop_eq_getElem_cons (by simpa using hjc)]; simp
 rw [e5] at e4
 have hjf : j < fs.toList.length := (List.getElem?_eq_some_iff.1 e1).1
 have hjx : j < xs.length := by rw [hxl]; simpa using hjf
 rw [List.getElem?_eq_getElem hjx] at e4
 exact ⟨cs[j], xs[j].1, xs[j].2, n, by simp [hjc], hok, e4⟩
theorem walk (w : World) (nd : Int) (w_nd : (Lit.int .i64 nd).wf = true) (mo : Int) (w_mo : (Lit.int .i64 mo).wf = true) (v_ps : Value) (s_ps : Src) (ps : List (List Go.Vm2.D)) (cap_ps : Nat) (hk_ps : s_ps.ks = [.int .i64, .int .i64, .int .i64, .int .i64, .int .i64]) (ha_ps : s_ps.ac = .recs ps) (hs_ps : s_ps.lies w) (hn_ps : s_ps.at_ = none → ps.length = 0) (hc_ps : ps.length ≤ cap_ps) (hv_ps : v_ps = s_ps.val cap_ps) (hm_ps : ps.length ≤ maxLen) (w_ps : ∀ n ∈ ps, rowWf [.int .i64, .int .i64, .int .i64, .int .i64, .int .i64] n) (v_ws : Value) (s_ws : Src) (ws : List Int) (cap_ws : Nat) (hk_ws : s_ws.ks = [.int .u16]) (ha_ws : s_ws.ac = .ints ws) (hs_ws : s_ws.lies w) (hn_ws : s_ws.at_ = none → ws.length = 0) (hc_ws : ws.length ≤ cap_ws) (hv_ws : v_ws = s_ws.val cap_ws) (hm_ws : ws.length ≤ maxLen) (w_ws : ∀ n ∈ ws, (Lit.int .u16 n).wf = true) (lt : Int) (w_lt : (Lit.int .u32 lt).wf = true) :
  Calls Try.prog 5 #[.agg #[.int .i64 nd, .int .i64 mo, v_ps], v_ws, .int .u32 lt] w fun e w' => e = .returned (.bool true) ∧ Below w.heap.size w w' := by
 obtain ⟨at_ps, ks_ps, ac_ps⟩ := s_ps
 simp only [] at hk_ps ha_ps
 subst hk_ps ha_ps
 have h_ps : ps.length ≤ 9223372036854775807 := by unfold maxLen at hm_ps; omega
 obtain ⟨at_ws, ks_ws, ac_ws⟩ := s_ws
 simp only [] at hk_ws ha_ws
 subst hk_ws ha_ws
 have h_ws : ws.length ≤ 9223372036854775807 := by unfold maxLen at hm_ws; omega
 have b_nd := w_nd
 simp [Lit.wf, IntKind.min, IntKind.max, IntKind.signed, IntKind.bits] at b_nd
 have b_mo := w_mo
 simp [Lit.wf, IntKind.min, IntKind.max, IntKind.signed, IntKind.bits] at b_mo
 have b_lt := w_lt
 simp [Lit.wf, IntKind.min, IntKind.max, IntKind.signed, IntKind.bits] at b_lt
 exact top_run (by kernel_rfl) (by kernel_rfl) (T := []) (fun f hf w => by
   exact (List.not_mem_nil hf).elim) (l := [⟨at_ps, [.int .i64, .int .i64, .int .i64, .int .i64, .int .i64], .recs ps⟩, ⟨at_ws, [.int .u16], .ints ws⟩]) (args := [.agg [.int .i64 nd, .int .i64 mo, .slc 0 5 0 ps.length], .slc 1 1 0 ws.length, .int .u32 lt]) («as» := [.agg [.int .i64 nd, .int .i64 mo, Src.av 0 cap_ps ⟨at_ps, [.int .i64, .int .i64, .int .i64, .int .i64, .int .i64], .recs ps⟩], Src.av 1 cap_ws ⟨at_ws, [.int .u16], .ints ws⟩, .int .u32 lt]) (cargs := [.agg #[.int .i64 nd, .int .i64 mo, v_ps], v_ws, .int .u32 lt]) w
  (fun s h => by
   rcases List.mem_cons.1 h with e | h
   ·subst e; exact hs_ps
   ·rcases List.mem_cons.1 h with e | h
    ·subst e; exact hs_ws
    ·exact (List.not_mem_nil h).elim)
  (Cvs.cons (agg_cv (Cvs.cons mk_int (Cvs.cons mk_int (Cvs.cons (src_cv (s := ⟨at_ps, [.int .i64, .int .i64, .int .i64, .int .i64, .int .i64], .recs ps⟩) rfl 5 hc_ps hn_ps) Cvs.nil)))) (Cvs.cons (src_cv (s := ⟨at_ws, [.int .u16], .ints ws⟩) rfl 1 hc_ws hn_ws) (Cvs.cons mk_int Cvs.nil)))
  (by simp only [Go.Vm.convs, Go.Vm.conv]; rw [src_conv (j := 0) (s := ⟨at_ps, [.int .i64, .int .i64, .int .i64, .int .i64, .int .i64], .recs ps⟩) rfl, src_conv (j := 1) (s := ⟨at_ws, [.int .u16], .ints ws⟩) rfl]; subst hv_ps hv_ws; rfl)
  (law5 nd mo ps ws lt (gb_of h_ps w_ps) (u16_of w_ws))
set_option maxRecDepth 100000 in
theorem lifted (os : Os) (started : os.Started) (H : Type) (enc : TypeId × Value → H) :
  ReturnsInHanded {} Try.checked os 5 .any (Rows.contractHonestSpec.pre6 enc Try.prog Try.f5 Rows.contractHonestRow.domain false) (Rows.contractHonestSpec.post enc Try.prog Try.f5 false true false false) := by
 refine returnsInHanded_of_change (C := Try.checked) own started (by kernel_rfl) Try.func5
  (ChangeSpec.witness6 (enc := enc) (C := Try.checked) false ⟨#[], #[.agg #[.int .i64 0, .int .i64 0, .slice none 0 0], .slice none 0 0, .int .u32 0], []⟩ 8 (by kernel_rfl) (by kernel_rfl) (by kernel_rfl) (by kernel_rfl)) ?_
 intro W base args ds gs before hval0 hW hcnd _
 have hval : ∀ (j : Nat) t v, Try.f5.params[j]? = some t → args[j]? = some v → Value.okWide Try.prog W .any base t v := hval0
 have hW' := hW
 obtain ⟨p, q, hA0, hV, rfl, hfz, hnd⟩ := hW
 have hA : DataW.TrodAll enc Try.prog W 0 (fun _ => true) true Try.f5.params.toList args.toList ds p := hA0
 rw [Try.params5] at hA hval
 obtain ⟨v0, vs0, d0, ds0, p0, q0, hargs, rfl, rfl, h0, r0⟩ := trodAll_cons hA
 obtain ⟨v1, vs1, d1, ds1, p1, q1, rfl, rfl, rfl, h1, r1⟩ := trodAll_cons r0
 obtain ⟨v2, vs2, d2, ds2, p2, q2, rfl, rfl, rfl, h2, r2⟩ := trodAll_cons r1
 obtain ⟨rfl, rfl, rfl⟩ := trodAll_nil r2
 obtain rfl : args = #[v0, v1, v2] := by cases args; simp_all
 obtain ⟨rfl, rfl⟩ := trodVars_none hV
 obtain ⟨cs_c, rfl, hz_c, hs_c⟩ := open_st (ts := [3, 3, 22]) Try.underlying24 (by kernel_rfl) (by kernel_rfl) (by kernel_rfl) (hval 0 24 v0 rfl rfl) h0
 have hlt0 : ∀ x ∈ p0, x.block < W.heap.size := fun x hx => by simpa using hW'.lt x (by simp [hx])
 obtain ⟨x_nd, d_nd, p_nd, fu_nd, hx_nd, hk0_nd, ht_nd⟩ := hs_c 0 3 rfl
 have hkk_nd : Value.okWide Try.prog W .any base 3 x_nd := by unfold Value.okWide; rw [Try.underlying3]; exact hk0_nd
 obtain ⟨x_mo, d_mo, p_mo, fu_mo, hx_mo, hk0_mo, ht_mo⟩ := hs_c 1 3 rfl
 have hkk_mo : Value.okWide Try.prog W .any base 3 x_mo := by unfold Value.okWide; rw [Try.underlying3]; exact hk0_mo
 obtain ⟨x_ps, d_ps, p_ps, fu_ps, hx_ps, hk0_ps, ht_ps⟩ := hs_c 2 22 rfl
 have hkk_ps : Value.okWide Try.prog W .any base 22 x_ps := by unfold Value.okWide; rw [Try.underlying22]; exact hk0_ps
 have hcs_c : cs_c = #[x_nd, x_mo, x_ps] := by
  refine Array.ext (by rw [hz_c]; rfl) fun i h1 h2 => ?_
  have hi : i < 3 := by simpa using h2
  rcases i with _ | _ | _ | i
  ·have := hx_nd; rw [Array.getElem?_eq_getElem h1] at this; exact Option.some.inj this
  ·have := hx_mo; rw [Array.getElem?_eq_getElem h1] at this; exact Option.some.inj this
  ·have := hx_ps; rw [Array.getElem?_eq_getElem h1] at this; exact Option.some.inj this
  ·omega
 subst hcs_c
 obtain ⟨nd, hq_nd, _, w_nd⟩ := DataW.trod_int Try.underlying3 ht_nd
 simp only [List.cons.injEq, and_true] at hq_nd
 subst hq_nd
 obtain ⟨mo, hq_mo, _, w_mo⟩ := DataW.trod_int Try.underlying3 ht_mo
 simp only [List.cons.injEq, and_true] at hq_mo
 subst hq_mo
 have htt_ps : DataW.Trod enc Try.prog W 0 (fun _ => true) true 22 x_ps d_ps p_ps := by obtain ⟨ao, len, cap, rfl⟩ := okWide_slice Try.underlying22 hkk_ps; exact ⟨fu_ps, ht_ps⟩
 obtain ⟨s_ps, ps, cap_ps, hk_ps, ha_ps, hs_ps, hn_ps, hc_ps, hv_ps, hm_ps, w_ps⟩ := Go.Vm2.open_recsN (dp := 3) (ks := [.int .i64, .int .i64, .int .i64, .int .i64, .int .i64]) Try.underlying22 (by kernel_rfl) (by simp) (by kernel_rfl) hkk_ps htt_ps
 obtain ⟨s_ws, ws, cap_ws, hk_ws, ha_ws, hs_ws, hn_ws, hc_ws, hv_ws, hm_ws, w_ws⟩ := Go.Vm2.open_list Try.underlying43 Try.underlying71 (by kernel_rfl) (hval 1 43 v1 rfl rfl) h1
 have hlt1 : ∀ x ∈ p1, x.block < W.heap.size := fun x hx => by simpa using hW'.lt x (by simp [hx])
 obtain ⟨lt, rfl, rfl, rfl, w_lt⟩ := open_int Try.underlying44 (hval 2 44 v2 rfl rfl) h2
 clear hA0 hval0
 refine (walk W nd w_nd mo w_mo x_ps s_ps ps cap_ps hk_ps ha_ps hs_ps hn_ps hc_ps hv_ps hm_ps w_ps v1 s_ws ws cap_ws hk_ws ha_ws hs_ws hn_ws hc_ws hv_ws hm_ws w_ws lt w_lt).mono fun e W' ⟨he, hg⟩ => ?_
 subst he
 exact ⟨_, rfl, _, _, _, [], _, [], hW', trodAll_cons_mk (shut_bool Try.underlying4 _) trodAll_mk0, (trodAll_cons_mk (Below.trod laidOut (by kernel_rfl) (of_decide_eq_true (by kernel_rfl)) h0 hg hlt0) (trodAll_cons_mk (Below.trod laidOut (by kernel_rfl) (of_decide_eq_true (by kernel_rfl)) h1 hg hlt1) (trodAll_cons_mk (shut_int Try.underlying44 w_lt) trodAll_mk0))), rfl, hg.frame _, fun h => by cases h⟩
theorem over : Rows.contractHonestRow.holds Try.pinned (OpenSpec.ofChange Rows.contractHonestSpec) :=
 OpenClaim.holds_of_wide 5 Try.f5 rfl rfl rfl rfl rfl rfl rfl ⟨rfl, rfl, rfl, rfl, rfl⟩ rfl rfl rfl rfl rfl (by kernel_rfl) Try.func5 (by kernel_rfl)
  (of_decide_eq_true (by kernel_rfl)) (by unfold Func.isWrapper; first | (rw [if_pos (by decide +kernel)]; kernel_rfl) | (rw [if_neg (by decide +kernel)]; exact ⟨rfl, rfl⟩))
  (fun os started H enc _ => lifted os started H enc)
theorem proved : Rows.ContractHonestSaid :=
 over
#print axioms proved
end Go.Proofs.Ytbcjncoajilijaa.contractHonest
