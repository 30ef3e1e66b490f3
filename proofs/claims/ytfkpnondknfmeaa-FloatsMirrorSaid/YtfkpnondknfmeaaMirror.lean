/-
  FloatsMirror: whatever the arguments, the law returns true, and its arguments read as before. No conditions.
-/
import Derived.Test.YtfkpnondknfmeaaRows
import Derived.Test.YtfkpnondknfmeaaVwOpen2
import Derived.Test.YtfkpnondknfmeaaVwRules7
import Derived.Test.YtfkpnondknfmeaaVmFast3
import Derived.WalkKit
import Derived.ProofKit
import Derived.OpenShut
import Derived.Carry
import Derived.Test.YtfkpnondknfmeaaSrtA
import Derived.Test.YtfkpnondknfmeaaSrtB
import Derived.Test.YtfkpnondknfmeaaPlcA
namespace Go.Proofs.Ytfkpnondknfmeaa.floatsMirror
open Go.ChangeShapes Go.WideShapes Go.ChangeAt Go.RowKit
open Go.Vm (Facts Val Sound)
open Go.Vm2
set_option linter.unusedVariables false
set_option linter.unusedSectionVars false

open Go.Proofs.Ytfkpnondknfmeaa.floatsApart
theorem own : ownKnob Try.prog.godebug = none := by kernel_rfl
theorem laidOut : laidOutB Try.prog = true := by kernel_rfl
set_option maxRecDepth 100000
abbrev Rows := List (List Go.Vm2.D)
/-- the sides exchanged -/
structure Mr (W : Int) (l r : Rows) (n : Nat) : Prop where
  s : ∀ k, k < n → sd r k = 3 - sd l k
  x : ∀ k, k < n → fx r k = W - fx l k - fw l k
  y : ∀ k, k < n → fy r k = fy l k
  w : ∀ k, k < n → fw r k = fw l k
  h : ∀ k, k < n → fh r k = fh l k
theorem Mr.hs {W : Int} {l r : Rows} {n : Nat} (M : Mr W l r n) (a h : Int) {k : Nat} (hk : k < n) : hs r a h k = hs l a h k := by
  unfold floatsApart.hs
  rw [M.y k hk, M.h k hk]
theorem Mr.fr {W : Int} {l r : Rows} {n : Nat} (M : Mr W l r n) (a h : Int) : ∀ k, k ≤ n → Fr r a h k = Fr l a h k
  | 0, _ => rfl
  | k + 1, hk => by
    show (!floatsApart.hs r a h k && Fr r a h k) = (!floatsApart.hs l a h k && Fr l a h k)
    rw [M.hs a h (by omega), M.fr a h k (by omega)]
theorem Mr.lo {W : Int} {l r : Rows} {n : Nat} (M : Mr W l r n) (hF : ∀ k, k < n → sd l k = 1 ∨ sd l k = 2) (a h : Int) : ∀ k, k ≤ n → Lo r a h k = W - Hi l W a h k ∧ Hi r W a h k = W - Lo l a h k
  | 0, _ => ⟨by show (0 : Int) = W - W; omega, by show W = W - 0; omega⟩
  | k + 1, hk => by
    obtain ⟨i1, i2⟩ := M.lo hF a h k (by omega)
    have e1 := M.s k (by omega)
    have e2 := M.x k (by omega)
    have e3 := M.w k (by omega)
    have f := hF k (by omega)
    show (if floatsApart.hs r a h k = true ∧ sd r k = 1 then max (Lo r a h k) (fx r k + fw r k) else Lo r a h k) = W - (if floatsApart.hs l a h k = true ∧ sd l k ≠ 1 then min (Hi l W a h k) (fx l k) else Hi l W a h k) ∧ (if floatsApart.hs r a h k = true ∧ sd r k ≠ 1 then min (Hi r W a h k) (fx r k) else Hi r W a h k) = W - (if floatsApart.hs l a h k = true ∧ sd l k = 1 then max (Lo l a h k) (fx l k + fw l k) else Lo l a h k)
    rw [M.hs a h (by omega), i1, i2, e1, e2, e3]
    cases c : floatsApart.hs l a h k with
    | false => simp
    | true =>
      rcases f with f | f
      · rw [if_neg (fun q => by have := q.2; omega), if_neg (fun q => q.2 f), if_pos ⟨rfl, by omega⟩, if_pos ⟨rfl, f⟩]
        refine ⟨rfl, ?_⟩; omega
      · rw [if_pos ⟨rfl, by omega⟩, if_pos ⟨rfl, by omega⟩, if_neg (fun q => by have := q.2; omega), if_neg (fun q => by have := q.2; omega)]
        refine ⟨?_, rfl⟩; omega
theorem Mr.mx {W : Int} {l r : Rows} {n : Nat} (M : Mr W l r n) (y : Int) : ∀ k, k ≤ n → mx r y k = mx l y k
  | 0, _ => rfl
  | k + 1, hk => by
    show max (floatsApart.mx r y k) (fy r k) = max (floatsApart.mx l y k) (fy l k)
    rw [M.mx y k (by omega), M.y k (by omega)]
theorem Mr.free {W : Int} {l r : Rows} (M : Mr W l r l.length) (e : r.length = l.length) (hF : ∀ k, k < l.length → sd l k = 1 ∨ sd l k = 2) (a w h : Int) : FreeAt r W a w h ↔ FreeAt l W a w h := by
  obtain ⟨i1, i2⟩ := M.lo hF a h l.length (Nat.le_refl _)
  unfold FreeAt
  rw [e, M.fr a h _ (Nat.le_refl _), i1, i2]
  constructor
  · rintro (q | q)
    · exact .inl q
    · exact .inr (by omega)
  · rintro (q | q)
    · exact .inl q
    · exact .inr (by omega)
theorem Mr.cand {W : Int} {l r : Rows} (M : Mr W l r l.length) (e : r.length = l.length) (y v : Int) : Cand r (floatsApart.mx r y r.length) v ↔ Cand l (floatsApart.mx l y l.length) v := by
  rw [e, M.mx y _ (Nat.le_refl _)]
  unfold Cand
  rw [e]
  constructor
  · rintro (q | ⟨i, i1, i2, i3⟩)
    · exact .inl q
    · exact .inr ⟨i, i1, by rw [i2, M.y i i1, M.h i i1], i3⟩
  · rintro (q | ⟨i, i1, i2, i3⟩)
    · exact .inl q
    · exact .inr ⟨i, i1, by rw [i2, M.y i i1, M.h i i1], i3⟩
theorem Mr.pa {W : Int} {l r : Rows} (M : Mr W l r l.length) (e : r.length = l.length) (hF : ∀ k, k < l.length → sd l k = 1 ∨ sd l k = 2) (y w h : Int) : pa r W y w h = pa l W y w h := by
  obtain ⟨⟨p1, p2⟩, p3⟩ := pa_spec l W y w h
  exact pa_eq ⟨⟨(M.cand e y _).2 p1, (M.free e hF _ w h).2 p2⟩, fun b hb hlt q => p3 b ((M.cand e y b).1 hb) hlt ((M.free e hF b w h).1 q)⟩
section
variable {L : Rows} {W : Int} (hL : Pb L) (hW : 0 ≤ W ∧ W ≤ 65535) (h20 : L.length ≤ 20)
include hL hW h20
theorem mirr : ∀ i, i ≤ L.length → Mr W (pls L W false i) (pls L W true i) i
  | 0, _ => ⟨fun k h => by omega, fun k h => by omega, fun k h => by omega, fun k h => by omega, fun k h => by omega⟩
  | i + 1, hi => by
    have ih := mirr i (by omega)
    have g := Gd.all false hL hW h20 i (by omega)
    have g' := Gd.all true hL hW h20 i (by omega)
    have e0 : (pls L W true i).length = (pls L W false i).length := by rw [g.len, g'.len]
    have ih' : Mr W (pls L W false i) (pls L W true i) (pls L W false i).length := by rw [g.len]; exact ih
    have hF : ∀ k, k < (pls L W false i).length → sd (pls L W false i) k = 1 ∨ sd (pls L W false i) k = 2 := fun k hk => (g.fl k (by rw [g.len] at hk; exact hk)).1
    have eh : hgt L W true i = hgt L W false i := ih'.pa e0 hF _ _ _
    have e1 : pls L W false (i + 1) = pls L W false i ++ [prow (pls L W false i) W (sdm L false i) (hgt L W false i) (wdt L W i) (qh L i)] := g.suc hL hW (by omega) h20
    have e2 : pls L W true (i + 1) = pls L W true i ++ [prow (pls L W true i) W (sdm L true i) (hgt L W true i) (wdt L W i) (qh L i)] := g'.suc hL hW (by omega) h20
    obtain ⟨a1, a2, a3, a4, a5⟩ := prow_get (pls L W false i) W (sdm L false i) (hgt L W false i) (wdt L W i) (qh L i)
    obtain ⟨b1, b2, b3, b4, b5⟩ := prow_get (pls L W true i) W (sdm L true i) (hgt L W true i) (wdt L W i) (qh L i)
    rw [← e1, g.len] at a1 a2 a3 a4 a5
    rw [← e2, g'.len] at b1 b2 b3 b4 b5
    have o1 : ∀ k, k < i → _ := fun k hk => prow_old (l := pls L W false i) (r := prow (pls L W false i) W (sdm L false i) (hgt L W false i) (wdt L W i) (qh L i)) (i := k) (by rw [g.len]; exact hk)
    have o2 : ∀ k, k < i → _ := fun k hk => prow_old (l := pls L W true i) (r := prow (pls L W true i) W (sdm L true i) (hgt L W true i) (wdt L W i) (qh L i)) (i := k) (by rw [g'.len]; exact hk)
    rw [← e1] at o1
    rw [← e2] at o2
    have es : sdm L true i = 3 - sdm L false i := by unfold sdm; simp
    have hs := sdm_bd hL false (i := i) (by omega)
    have hw := wdt_bd hL hW (i := i) (by omega)
    have hV := g.vd (by omega) hW
    have hp := px_in (s := sdm L false i) hV hw (pa_spec (pls L W false i) W (qy L i) (wdt L W i) (qh L i)).1.2 (fun k hk => g.inw k (by rw [g.len] at hk; exact hk))
    have bl := lo_bd (y := hgt L W false i) (h := qh L i) hV (pls L W false i).length (Nat.le_refl _)
    have bh := hi_bd (y := hgt L W false i) (h := qh L i) hV (pls L W false i).length (Nat.le_refl _)
    obtain ⟨m1, m2⟩ := ih'.lo hF (hgt L W false i) (qh L i) (pls L W false i).length (Nat.le_refl _)
    have hp : 0 ≤ px (pls L W false i) W (sdm L false i) (hgt L W false i) (wdt L W i) (qh L i) ∧ px (pls L W false i) W (sdm L false i) (hgt L W false i) (wdt L W i) (qh L i) + wdt L W i ≤ W ∧ Lo (pls L W false i) (hgt L W false i) (qh L i) (pls L W false i).length ≤ px (pls L W false i) W (sdm L false i) (hgt L W false i) (wdt L W i) (qh L i) ∧ (1 ≤ wdt L W i → px (pls L W false i) W (sdm L false i) (hgt L W false i) (wdt L W i) (qh L i) + wdt L W i ≤ Hi (pls L W false i) W (hgt L W false i) (qh L i) (pls L W false i).length) := hp
    have ex : px (pls L W true i) W (sdm L true i) (hgt L W true i) (wdt L W i) (qh L i) = W - px (pls L W false i) W (sdm L false i) (hgt L W false i) (wdt L W i) (qh L i) - wdt L W i := by
      have u1 : px (pls L W true i) W (sdm L true i) (hgt L W true i) (wdt L W i) (qh L i) = if sdm L true i = 2 then max (max (W - Lo (pls L W false i) (hgt L W false i) (qh L i) (pls L W false i).length) (W - Hi (pls L W false i) W (hgt L W false i) (qh L i) (pls L W false i).length) - wdt L W i) 0 else W - Hi (pls L W false i) W (hgt L W false i) (qh L i) (pls L W false i).length := by
        unfold px
        rw [eh, e0, m1, m2]
      have u2 : px (pls L W false i) W (sdm L false i) (hgt L W false i) (wdt L W i) (qh L i) = if sdm L false i = 2 then max (max (Hi (pls L W false i) W (hgt L W false i) (qh L i) (pls L W false i).length) (Lo (pls L W false i) (hgt L W false i) (qh L i) (pls L W false i).length) - wdt L W i) 0 else Lo (pls L W false i) (hgt L W false i) (qh L i) (pls L W false i).length := rfl
      rw [u1, es]
      rw [u2] at hp ⊢
      rcases hs with hs | hs
      · rw [hs] at hp ⊢
        rw [if_neg (by decide)] at hp
        rw [if_pos (by decide), if_neg (by decide)]
        omega
      · rw [hs] at hp ⊢
        rw [if_pos rfl] at hp
        rw [if_neg (by decide), if_pos rfl]
        omega
    refine ⟨fun k hk => ?_, fun k hk => ?_, fun k hk => ?_, fun k hk => ?_, fun k hk => ?_⟩
    · by_cases c : k = i
      · subst c; rw [a1, b1]; exact es
      · rw [(o1 k (by omega)).1, (o2 k (by omega)).1]; exact ih.s k (by omega)
    · by_cases c : k = i
      · subst c; rw [a2, a4, b2]; exact ex
      · rw [(o1 k (by omega)).2.1, (o1 k (by omega)).2.2.2.1, (o2 k (by omega)).2.1]; exact ih.x k (by omega)
    · by_cases c : k = i
      · subst c; rw [a3, b3]; exact eh
      · rw [(o1 k (by omega)).2.2.1, (o2 k (by omega)).2.2.1]; exact ih.y k (by omega)
    · by_cases c : k = i
      · subst c; rw [a4, b4]
      · rw [(o1 k (by omega)).2.2.2.1, (o2 k (by omega)).2.2.2.1]; exact ih.w k (by omega)
    · by_cases c : k = i
      · subst c; rw [a5, b5]
      · rw [(o1 k (by omega)).2.2.2.2, (o2 k (by omega)).2.2.2.2]; exact ih.h k (by omega)
end

theorem pbw {L : Rows} (h : ∀ n ∈ L, rowWf [.int .u8, .int .u16, .int .u16, .int .u16] n) : Pb L := by
  intro i hi
  have hm : L.getD i [] ∈ L := by
    rw [List.getD_eq_getElem?_getD, List.getElem?_eq_getElem hi]; exact List.getElem_mem hi
  obtain ⟨a, ea, wa⟩ := (h _ hm).2 0 (.int .u8) rfl
  obtain ⟨b, eb, wb⟩ := (h _ hm).2 1 (.int .u16) rfl
  obtain ⟨c, ec, wc⟩ := (h _ hm).2 2 (.int .u16) rfl
  obtain ⟨d, ed, wd⟩ := (h _ hm).2 3 (.int .u16) rfl
  simp [Lit.wf, IntKind.min, IntKind.max, IntKind.signed, IntKind.bits] at wa wb wc wd
  unfold qs qy qw qh
  rw [ea, eb, ec, ed]
  exact ⟨⟨by show 0 ≤ a; omega, by show a ≤ 255; omega⟩, ⟨by show 0 ≤ b; omega, by show b ≤ 65535; omega⟩, ⟨by show 0 ≤ c; omega, by show c ≤ 65535; omega⟩, ⟨by show 0 ≤ d; omega, by show d ≤ 65535; omega⟩⟩
set_option maxHeartbeats 4000000 in
theorem law8 (L : Rows) (W : Int) (hl : List.length L ≤ 9223372036854775807) (hL : Pb L) (hW : 0 ≤ W ∧ W ≤ 65535) : SemF Try.prog 8 [.slc 0 4 0 L.length, .int .u16 W] ⟨1, 1, [(0, .arr [.int .u8, .int .u16, .int .u16, .int .u16] .ro (.recs L))]⟩ (fun v _ => IsTrue v) := by
  refine enter tt_ok Try.func8 (nt := 93) (cd := body Try.f8) rfl rfl rfl rfl ?_
  intro _
  refine head_ok rfl Try.func9 (cd := body Try.f9) rfl ?_
  intro _; refine ⟨fun g => ?_, fun g => ?_⟩
  · intro _
    show true = true
    rfl
  have g1 := of_decide_eq_false (show decide ((L.length : Int) > 20) = false from g)
  have h20 : L.length ≤ 20 := by omega
  have eW : W = IntKind.i64.wrap W := (wrapS _ ⟨by omega, by omega⟩).symm
  have gd := Gd.all false hL hW h20 L.length (Nat.le_refl _)
  have gd' := Gd.all true hL hW h20 L.length (Nat.le_refl _)
  have M := mirr hL hW h20 L.length (Nat.le_refl _)
  intro _
  refine call_new [(0, some 0)] (placed_ok L W false hL hW h20) rfl rfl rfl rfl ?_ ?_ ?_
  · (repeat' first | exact trivial | exact rfl | refine And.intro ?_ ?_)
  · (repeat' first | exact trivial | exact rfl | refine And.intro ?_ ?_)
    exact eW
  intro v h' hv
  obtain ⟨rfl, rfl⟩ := hv
  refine ⟨[(1, some 1)], 2, [(1, .arr [.int .i64, .int .i64, .int .i64, .int .i64, .int .i64] .grow (.recs (pls L W false L.length)))], .tup [.grw 1 (pls L W false L.length).length, .bool true], rfl, rfl, rfl, rfl, rfl, ?_, ?_, ?_⟩
  · (repeat' first | exact trivial | exact rfl | refine And.intro ?_ ?_)
  · (repeat' first | exact trivial | exact rfl | refine And.intro ?_ ?_)
  intro _
  refine call_new [(0, some 0)] (placed_ok L W true hL hW h20) rfl rfl rfl rfl ?_ ?_ ?_
  · (repeat' first | exact trivial | exact rfl | refine And.intro ?_ ?_)
  · (repeat' first | exact trivial | exact rfl | refine And.intro ?_ ?_)
    exact eW
  intro v h' hv
  obtain ⟨rfl, rfl⟩ := hv
  refine ⟨[(2, some 1)], 3, [(2, .arr [.int .i64, .int .i64, .int .i64, .int .i64, .int .i64] .grow (.recs (pls L W true L.length)))], .tup [.grw 2 (pls L W true L.length).length, .bool true], rfl, rfl, rfl, rfl, rfl, ?_, ?_, ?_⟩
  · (repeat' first | exact trivial | exact rfl | refine And.intro ?_ ?_)
  · (repeat' first | exact trivial | exact rfl | refine And.intro ?_ ?_)
  have eln := gd.len
  have eln' := gd'.len
  have hV := gd.vd h20 hW
  intro _; refine ⟨fun g => ?_, fun g => ?_⟩
  · exfalso
    have g : (((pls L W false L.length).length : Int) != ((pls L W true L.length).length : Int)) = true := g
    rw [eln, eln'] at g
    simp at g
  intro _
  obtain ⟨p, hp⟩ : ∃ p, p = pls L W false L.length := ⟨_, rfl⟩
  obtain ⟨q, hq⟩ : ∃ q, q = pls L W true L.length := ⟨_, rfl⟩
  rw [← hp, ← hq] at M
  rw [← hp] at hV eln
  rw [← hq] at eln'
  have aI := gd.inw
  rw [← hp] at aI
  refine loop2 tt_ok [11] [] 3 (fun i : { i : Nat // i ≤ L.length } => [(11, .int .i64 (i.1 : Nat))]) (fun _ => []) (fun i => L.length - i.1) ⟨0, by omega⟩ ?_
  intro _
  refine ⟨⟨th [] 3, rfl, rfl, rfl, rfl, rfl, rfl, ?_, ?_⟩, ?_⟩
  · (repeat' first | exact trivial | exact rfl | refine And.intro ?_ ?_)
  · (repeat' first | exact trivial | exact rfl | refine And.intro ?_ ?_)
  intro ⟨i, hi⟩
  rw [← hp, ← hq]
  intro _; refine ⟨fun g => ?_, fun g => ?_⟩
  rotate_left
  · intro _
    show true = true
    rfl
  have hil := of_decide_eq_true (show decide ((i : Int) < (p.length : Int)) = true from g)
  have hin : i < L.length := by omega
  obtain ⟨c1, c2⟩ := aI i hin
  obtain ⟨f0, f1, f2, f3, f4⟩ := hV.2 i (by omega)
  have i1 : 0 ≤ (i : Int) ∧ (i : Int) < (p.length : Int) := by omega
  have i2 : (i : Int).toNat < p.length := by omega
  have i3 : 0 ≤ (i : Int) ∧ (i : Int) < (q.length : Int) := by omega
  have i4 : (i : Int).toNat < q.length := by omega
  intro _; refine ⟨i1, ?_⟩
  intro _; refine ⟨i2, ?_⟩
  intro _; refine ⟨i1, ?_⟩
  intro _; refine ⟨i2, ?_⟩
  intro _; refine ⟨i1, ?_⟩
  intro _; refine ⟨i2, ?_⟩
  intro _; refine ⟨i1, ?_⟩
  intro _; refine ⟨i2, ?_⟩
  intro _; refine ⟨i1, ?_⟩
  intro _; refine ⟨i2, ?_⟩
  intro _; refine ⟨i1, ?_⟩
  intro _; refine ⟨i2, ?_⟩
  intro _; refine ⟨by kernel_rfl, ?_⟩
  intro _; refine ⟨i3, ?_⟩
  intro _; refine ⟨i4, ?_⟩
  intro _; refine ⟨by kernel_rfl, ?_⟩
  intro _; refine ⟨fun g => ?_, fun g => ?_⟩
  · exfalso
    have g : (!(sd q i == IntKind.i64.wrap (3 - sd p i) && (fx q i == IntKind.i64.wrap (IntKind.i64.wrap (IntKind.i64.wrap W - fx p i) - fw p i) && (fy q i == fy p i && (fw q i == fw p i && fh q i == fh p i))))) = true := g
    rw [M.s i hin, M.x i hin, M.y i hin, M.w i hin, M.h i hin, ← eW, wrapS (3 - sd p i) ⟨by omega, by omega⟩, wrapS (W - fx p i) ⟨by omega, by omega⟩, wrapS (W - fx p i - fw p i) ⟨by omega, by omega⟩] at g
    simp at g
  refine ⟨⟨i + 1, by omega⟩, by show L.length - (i + 1) < L.length - i; omega, th [] 3, rfl, rfl, rfl, rfl, rfl, rfl, ?_, ?_⟩
  · (repeat' first | exact trivial | exact rfl | refine And.intro ?_ ?_)
    exact (wrap_nat i (by omega)).symm
  · (repeat' first | exact trivial | exact rfl | refine And.intro ?_ ?_)

theorem walk (w : World) (v_q0 : Value) (s_q0 : Src) (q0 : List (List Go.Vm2.D)) (cap_q0 : Nat) (hk_q0 : s_q0.ks = [.int .u8, .int .u16, .int .u16, .int .u16]) (ha_q0 : s_q0.ac = .recs q0) (hs_q0 : s_q0.lies w) (hn_q0 : s_q0.at_ = none → q0.length = 0) (hc_q0 : q0.length ≤ cap_q0) (hv_q0 : v_q0 = s_q0.val cap_q0) (hm_q0 : q0.length ≤ maxLen) (w_q0 : ∀ n ∈ q0, rowWf [.int .u8, .int .u16, .int .u16, .int .u16] n) (wd : Int) (w_wd : (Lit.int .u16 wd).wf = true) :
    Calls Try.prog 8 #[v_q0, .int .u16 wd] w fun e w' => e = .returned (.bool true) ∧ Below w.heap.size w w' := by
  obtain ⟨at_q0, ks_q0, ac_q0⟩ := s_q0
  simp only [] at hk_q0 ha_q0
  subst hk_q0 ha_q0
  have h_q0 : q0.length ≤ 9223372036854775807 := by unfold maxLen at hm_q0; omega
  have b_wd := w_wd
  simp [Lit.wf, IntKind.min, IntKind.max, IntKind.signed, IntKind.bits] at b_wd
  exact top_run (by kernel_rfl) (by kernel_rfl) (T := [9]) (fun f hf w => by
      rcases List.mem_cons.1 hf with e | e
      · subst e; exact head w
      · exact (List.not_mem_nil e).elim) (l := [⟨at_q0, [.int .u8, .int .u16, .int .u16, .int .u16], .recs q0⟩]) (args := [.slc 0 4 0 q0.length, .int .u16 wd]) («as» := [Src.av 0 cap_q0 ⟨at_q0, [.int .u8, .int .u16, .int .u16, .int .u16], .recs q0⟩, .int .u16 wd]) (cargs := [v_q0, .int .u16 wd]) w
    (fun s h => by
      rcases List.mem_cons.1 h with e | h
      · subst e; exact hs_q0
      · exact (List.not_mem_nil h).elim)
    (Cvs.cons (src_cv (s := ⟨at_q0, [.int .u8, .int .u16, .int .u16, .int .u16], .recs q0⟩) rfl 4 hc_q0 hn_q0) (Cvs.cons mk_int Cvs.nil))
    (by simp only [Go.Vm.convs, Go.Vm.conv]; rw [src_conv (j := 0) (s := ⟨at_q0, [.int .u8, .int .u16, .int .u16, .int .u16], .recs q0⟩) rfl, hv_q0])
    (law8 q0 wd h_q0 (pbw w_q0) (by omega))

set_option maxRecDepth 100000 in
theorem lifted (os : Os) (started : os.Started) (H : Type) (enc : TypeId × Value → H) :
    ReturnsInHanded {} Try.checked os 8 .any (Rows.floatsMirrorSpec.pre6 enc Try.prog Try.f8 Rows.floatsMirrorRow.domain false) (Rows.floatsMirrorSpec.post enc Try.prog Try.f8 false true false false) := by
  refine returnsInHanded_of_change (C := Try.checked) own started (by kernel_rfl) Try.func8
    (ChangeSpec.witness6 (enc := enc) (C := Try.checked) false ⟨#[], #[.slice none 0 0, .int .u16 0], []⟩ 8 (by kernel_rfl) (by kernel_rfl) (by kernel_rfl) (by kernel_rfl)) ?_
  intro W base args ds gs before hval0 hW hcnd _
  have hval : ∀ (j : Nat) t v, Try.f8.params[j]? = some t → args[j]? = some v → Value.okWide Try.prog W .any base t v := hval0
  have hW' := hW
  obtain ⟨p, q, hA0, hV, rfl, hfz, hnd⟩ := hW
  have hA : DataW.TrodAll enc Try.prog W 0 (fun _ => true) true Try.f8.params.toList args.toList ds p := hA0
  rw [Try.params8] at hA hval
  obtain ⟨v0, vs0, d0, ds0, p0, q0, hargs, rfl, rfl, h0, r0⟩ := trodAll_cons hA
  obtain ⟨v1, vs1, d1, ds1, p1, q1, rfl, rfl, rfl, h1, r1⟩ := trodAll_cons r0
  obtain ⟨rfl, rfl, rfl⟩ := trodAll_nil r1
  obtain rfl : args = #[v0, v1] := by cases args; simp_all
  obtain ⟨rfl, rfl⟩ := trodVars_none hV
  obtain ⟨s_q0, q0, cap_q0, hk_q0, ha_q0, hs_q0, hn_q0, hc_q0, hv_q0, hm_q0, w_q0⟩ := Go.Vm2.open_recs (ks := [.int .u8, .int .u16, .int .u16, .int .u16]) Try.underlying36 Try.underlying43 (by kernel_rfl) (by simp) (by kernel_rfl) (hval 0 36 v0 rfl rfl) h0
  have hlt0 : ∀ x ∈ p0, x.block < W.heap.size := fun x hx => by simpa using hW'.lt x (by simp [hx])
  obtain ⟨wd, rfl, rfl, rfl, w_wd⟩ := open_int Try.underlying37 (hval 1 37 v1 rfl rfl) h1
  clear hA0 hval0
  refine (walk W v0 s_q0 q0 cap_q0 hk_q0 ha_q0 hs_q0 hn_q0 hc_q0 hv_q0 hm_q0 w_q0 wd w_wd).mono fun e W' ⟨he, hg⟩ => ?_
  subst he
  exact ⟨_, rfl, _, _, _, [], _, [], hW', trodAll_cons_mk (shut_bool Try.underlying4 _) trodAll_mk0, (trodAll_cons_mk (Below.trod laidOut (by kernel_rfl) (of_decide_eq_true (by kernel_rfl)) h0 hg hlt0) (trodAll_cons_mk (shut_int Try.underlying37 w_wd) trodAll_mk0)), rfl, hg.frame _, fun h => by cases h⟩

theorem over : Rows.floatsMirrorRow.holds Try.pinned (OpenSpec.ofChange Rows.floatsMirrorSpec) :=
  OpenClaim.holds_of_wide 8 Try.f8 rfl rfl rfl rfl rfl rfl rfl ⟨rfl, rfl, rfl, rfl, rfl⟩ rfl rfl rfl rfl rfl (by kernel_rfl) Try.func8 (by kernel_rfl)
    (of_decide_eq_true (by kernel_rfl)) (by unfold Func.isWrapper; first | (rw [if_pos (by decide +kernel)]; kernel_rfl) | (rw [if_neg (by decide +kernel)]; exact ⟨rfl, rfl⟩))
    (fun os started H enc _ => lifted os started H enc)

/-- the statement -/
theorem proved : Rows.FloatsMirrorSaid :=
  over
#print axioms proved
end Go.Proofs.Ytfkpnondknfmeaa.floatsMirror
