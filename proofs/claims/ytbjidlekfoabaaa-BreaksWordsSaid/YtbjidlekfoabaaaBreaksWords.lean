/-
  BreaksWords: whatever the arguments, the law returns true, and its arguments read as before. No conditions.
-/
import Derived.Test.YtbjidlekfoabaaaRows
import Derived.Test.YtbjidlekfoabaaaVwOpen2
import Derived.Test.YtbjidlekfoabaaaVwRules6
import Derived.Test.YtbjidlekfoabaaaVmSym
import Derived.WalkKit
import Derived.ProofKit
import Derived.OpenShut
import Derived.Carry
import Derived.ChangeMaps5
import Derived.Laws.RangeAny
import Derived.Test.YtbjidlekfoabaaaBrkA
import Derived.Test.YtbjidlekfoabaaaBrkB
namespace Go.Proofs.Ytbjidlekfoabaaa.breaksWords
open Go.ChangeShapes Go.WideShapes Go.ChangeAt Go.RowKit
open Go.Vm (Facts Val Sound)
open Go.Vm2
set_option linter.unusedVariables false
set_option linter.unusedSectionVars false

open Go.Proofs.Ytbjidlekfoabaaa.brk
theorem own : ownKnob Try.prog.godebug = none := by kernel_rfl
theorem laidOut : laidOutB Try.prog = true := by kernel_rfl
set_option maxRecDepth 100000
/-! stretches without blanks -/
def gw (s : List UInt8) (f u : Nat) : List UInt8 := (s.drop f).take (u - f)
theorem seg_gw (s : List UInt8) (f u : Nat) : seg s (f : Int) (u : Int) = gw s f u := rfl
theorem gw_len {s : List UInt8} {f u : Nat} (h : u ≤ s.length) : (gw s f u).length = u - f := by unfold gw; simp; omega
theorem gw_by {s : List UInt8} {f u i : Nat} (h : f + i < u) : by' (gw s f u) i = by' s (f + i) := by
  unfold by' gw
  rw [List.getD_eq_getElem?_getD, List.getD_eq_getElem?_getD, List.getElem?_take, if_pos (by omega), List.getElem?_drop]
theorem gw_drop {s : List UInt8} {f u : Nat} (h : f < u) : (gw s f u).drop 1 = gw s (f + 1) u := by
  unfold gw
  rw [List.drop_take, List.drop_drop, show u - f - 1 = u - (f + 1) by omega]
theorem gw_take {s : List UInt8} {f u : Nat} (h : f < u) : (gw s f u).take (u - f - 1) = gw s f (u - 1) := by
  unfold gw
  rw [List.take_take, show min (u - f - 1) (u - f) = u - 1 - f by omega]
theorem trL_gw {s : List UInt8} {a u : Nat} (hau : a ≤ u) (hu : u ≤ s.length) (hn : a < u → by' s a ≠ 32) : ∀ n f : Nat, a - f ≤ n → f ≤ a → (∀ j, f ≤ j → j < a → by' s j = 32) → trL n (gw s f u) = gw s a u
  | 0, f, h1, h2, h3 => by
    have : f = a := by omega
    subst this; rfl
  | n + 1, f, h1, h2, h3 => by
    simp only [trL]
    by_cases q : f = a
    · subst q
      by_cases w : f < u
      · rw [if_neg (fun h => hn w (by have := h.2; rwa [gw_by (by omega), Nat.add_zero] at this))]
      · rw [if_neg (fun h => by have := h.1; rw [gw_len hu] at this; omega)]
    · rw [if_pos ⟨by rw [gw_len hu]; omega, by rw [gw_by (by omega), Nat.add_zero]; exact h3 f (Nat.le_refl _) (by omega)⟩, gw_drop (by omega)]
      exact trL_gw hau hu hn n (f + 1) (by omega) (by omega) (fun j p1 p2 => h3 j (by omega) p2)
theorem trR_gw {s : List UInt8} {a b : Nat} (hab : a ≤ b) (hn : a < b → by' s (b - 1) ≠ 32) : ∀ n u : Nat, u - b ≤ n → b ≤ u → u ≤ s.length → (∀ j, b ≤ j → j < u → by' s j = 32) → trR n (gw s a u) = gw s a b
  | 0, u, h1, h2, h3, h4 => by
    have : u = b := by omega
    subst this; rfl
  | n + 1, u, h1, h2, h3, h4 => by
    simp only [trR]
    rw [gw_len h3]
    by_cases q : u = b
    · subst q
      by_cases w : a < u
      · rw [if_neg (fun h => hn w (by have := h.2; rwa [gw_by (by omega), show a + (u - a - 1) = u - 1 by omega] at this))]
      · rw [if_neg (fun h => by have := h.1; omega)]
    · rw [if_pos ⟨by omega, by rw [gw_by (by omega), show a + (u - a - 1) = u - 1 by omega]; exact h4 (u - 1) (by omega) (by omega)⟩, gw_take (by omega)]
      exact trR_gw hab hn n (u - 1) (by omega) (by omega) (by omega) (fun j p1 p2 => h4 j p1 (by omega))
theorem tr_gw {s : List UInt8} {f a b u : Nat} (hl : s.length ≤ 2000) (h1 : f ≤ a) (h2 : a ≤ b) (h3 : b ≤ u) (h4 : u ≤ s.length) (s1 : ∀ j, f ≤ j → j < a → by' s j = 32) (s2 : ∀ j, a ≤ j → j < b → by' s j ≠ 32) (s3 : ∀ j, b ≤ j → j < u → by' s j = 32) (s4 : a = b → a = u) : tr (gw s f u) = gw s a b := by
  unfold tr
  rw [trL_gw (a := a) (by omega) h4 (fun h => s2 a (Nat.le_refl _) (by omega)) 2000 f (by omega) h1 s1]
  exact trR_gw h2 (fun h => s2 (b - 1) (by omega) (by omega)) 2000 u (by omega) h3 h4 s3
theorem sh_gw {s : List UInt8} (h : ∀ j, j < s.length → by' s j ≠ 126) (f u : Nat) : sh (gw s f u) = gw s f u := by
  unfold sh
  rw [List.filter_eq_self]
  intro b hb
  obtain ⟨j, hj, e⟩ := List.getElem_of_mem (List.mem_of_mem_drop (List.mem_of_mem_take (show b ∈ (s.drop f).take (u - f) from hb)))
  have h := h j hj
  unfold by' at h
  rw [show s.getD j 0 = s[j] by rw [List.getD_eq_getElem?_getD, List.getElem?_eq_getElem hj]; rfl, e] at h
  rw [bne_iff_ne]
  intro q
  rw [q] at h
  exact h rfl
/-! the words, one by one -/
inductive Ch (s : List UInt8) : LD → Nat → Prop
  | nil : Ch s [] 0
  | add {L : LD} {e a b : Nat} : Ch s L e → e ≤ a → a < b → b ≤ s.length → (∀ j, e ≤ j → j < a → by' s j = 32) → (∀ j, a ≤ j → j < b → by' s j ≠ 32) → (b = s.length ∨ by' s b = 32) → Ch s (L ++ [[.s (gw s a b)]]) b
def St (s : List UInt8) (L : LD) (f m : Nat) : Prop := ∃ e a b, Ch s L e ∧ e ≤ f ∧ f ≤ a ∧ a ≤ b ∧ b ≤ m ∧ (∀ j, e ≤ j → j < a → by' s j = 32) ∧ (∀ j, a ≤ j → j < b → by' s j ≠ 32) ∧ (∀ j, b ≤ j → j < m → by' s j = 32) ∧ (a = b → a = m)
theorem Ch_cut {s : List UInt8} {L : LD} {f m : Nat} (hl : s.length ≤ 2000) (hN : ∀ j, j < s.length → by' s j ≠ 126) (h : St s L f m) (hm : m ≤ s.length) (hc : m = s.length ∨ (1 ≤ m ∧ by' s (m - 1) = 32)) : ∃ e, Ch s (L ++ opt (pt (seg s (f : Int) (m : Int)) false)) e ∧ e ≤ m ∧ ∀ j, e ≤ j → j < m → by' s j = 32 := by
  obtain ⟨e, a, b, h0, h1, h2, h3, h4, s1, s2, s3, s4⟩ := h
  have ep : pt (seg s (f : Int) (m : Int)) false = gw s a b := by
    unfold pt
    rw [if_neg (by decide), List.append_nil, seg_gw, sh_gw hN, tr_gw hl h2 h3 h4 hm (fun j p1 p2 => s1 j (by omega) p2) s2 s3 s4]
  rw [ep]
  by_cases q : a = b
  · have := s4 q
    rw [opt_nil (List.eq_nil_of_length_eq_zero (by rw [gw_len (by omega)]; omega)), List.append_nil]
    exact ⟨e, h0, by omega, fun j p1 p2 => s1 j p1 (by omega)⟩
  · rw [opt_one (fun w => by have := gw_len (s := s) (f := a) (u := b) (by omega); rw [w] at this; simp at this; omega)]
    refine ⟨b, Ch.add h0 (by omega) (by omega) (by omega) s1 s2 ?_, h4, s3⟩
    by_cases w : b < m
    · exact .inr (s3 b (Nat.le_refl _) w)
    · rcases hc with c | c
      · exact .inl (by omega)
      · exact absurd c.2 (s2 (m - 1) (by omega) (by omega))
theorem St_step {s : List UInt8} {L : LD} {f m : Nat} (h : St s L f m) (hp : ∀ a b, a < b → b < m → by' s a ≠ 32 → by' s (m - 1) = 32 → by' s m = 32) : St s L f (m + 1) := by
  obtain ⟨e, a, b, h0, h1, h2, h3, h4, s1, s2, s3, s4⟩ := h
  by_cases c : by' s m = 32
  · by_cases q : a = b
    · have := s4 q
      refine ⟨e, m + 1, m + 1, h0, h1, by omega, by omega, by omega, fun j p1 p2 => ?_, fun j p1 p2 => by omega, fun j p1 p2 => by omega, fun _ => rfl⟩
      by_cases w : j = m
      · rw [w]; exact c
      · exact s1 j p1 (by omega)
    · refine ⟨e, a, b, h0, h1, h2, h3, by omega, s1, s2, fun j p1 p2 => ?_, fun w => absurd w q⟩
      by_cases w : j = m
      · rw [w]; exact c
      · exact s3 j p1 (by omega)
  · by_cases q : a = b
    · have := s4 q
      refine ⟨e, m, m + 1, h0, h1, by omega, by omega, by omega, fun j p1 p2 => s1 j p1 (by omega), fun j p1 p2 => ?_, fun j p1 p2 => by omega, fun w => by omega⟩
      have : j = m := by omega
      rw [this]; exact c
    · have e1 : b = m := Decidable.byContradiction fun w => c (hp a b (by omega) (by omega) (s2 a (Nat.le_refl _) (by omega)) (s3 (m - 1) (by omega) (by omega)))
      refine ⟨e, a, m + 1, h0, h1, h2, by omega, by omega, s1, fun j p1 p2 => ?_, fun j p1 p2 => by omega, fun w => by omega⟩
      by_cases w : j = m
      · rw [w]; exact c
      · exact s2 j p1 (by omega)
theorem St_all {bf bh : Int} {kp : LD} {s : List UInt8} (hl : s.length ≤ 2000) (hb : 1 ≤ bh) (hN : ∀ j, j < s.length → by' s j ≠ 45 ∧ by' s j ≠ 126) : ∀ m : Nat, m ≤ s.length → St s (PTm bf bh kp s m) (frm bf bh kp s m).toNat m
  | 0, _ => ⟨0, 0, 0, Ch.nil, by omega, Nat.le_refl _, Nat.le_refl _, Nat.le_refl _, fun j p1 p2 => by omega, fun j p1 p2 => by omega, fun j p1 p2 => by omega, fun _ => rfl⟩
  | m + 1, hm => by
    have ih := St_all (bf := bf) (bh := bh) (kp := kp) hl hb hN m (by omega)
    by_cases h : 1 ≤ m ∧ PL bf bh kp s m
    · have hp := PL_by h.2 hb (by omega)
      have n1 := hN (m - 1) (by omega)
      have e32 : by' s (m - 1) = 32 := by rcases hp.1 with q | q | q; exact q; exact absurd q n1.1; exact absurd q n1.2
      obtain ⟨y1, y2⟩ := frm_yes h
      have yh : decide (HY s m) = false := decide_eq_false (fun q => n1.2 q)
      rw [y1, y2, yh]
      obtain ⟨f0, f1⟩ := frm_bd (bf := bf) (bh := bh) (kp := kp) (s := s) m
      obtain ⟨e, c1, c2, c3⟩ := Ch_cut hl (fun j hj => (hN j hj).2) ih (by omega) (.inr ⟨h.1, e32⟩)
      rw [Int.toNat_of_nonneg f0] at c1
      show St s _ (m : Int).toNat (m + 1)
      rw [Int.toNat_natCast]
      refine ⟨e, m, m + 1, c1, c2, Nat.le_refl _, by omega, Nat.le_refl _, c3, fun j p1 p2 => ?_, fun j p1 p2 => by omega, fun w => by omega⟩
      have : j = m := by omega
      rw [this]; exact hp.2
    · obtain ⟨y1, y2⟩ := frm_no h
      rw [y1, y2]
      refine St_step ih (fun a b q1 q2 q3 q4 => Decidable.byContradiction fun w => h ⟨by omega, (PL32 q4).2 ⟨⟨a, by omega, q3⟩, w⟩⟩)
theorem FT_ch {bf bh : Int} {kp : LD} {s : List UInt8} (hV : VB bf bh kp ∧ VA s) (hN : ∀ j, j < s.length → by' s j ≠ 45 ∧ by' s j ≠ 126) : ∃ e, Ch s (FT bf bh kp s) e ∧ e ≤ s.length ∧ ∀ j, e ≤ j → j < s.length → by' s j = 32 := by
  have h := St_all (bf := bf) (bh := bh) (kp := kp) hV.2.1 hV.1.2.1.1 hN s.length (Nat.le_refl _)
  obtain ⟨f0, f1⟩ := frm_bd (bf := bf) (bh := bh) (kp := kp) (s := s) s.length
  have c := Ch_cut hV.2.1 (fun j hj => (hN j hj).2) h (Nat.le_refl _) (.inl rfl)
  rw [Int.toNat_of_nonneg f0] at c
  unfold FT; rw [if_pos hV]
  exact c
theorem Ch_at {s : List UInt8} {L : LD} {e : Nat} (h : Ch s L e) : ∃ E : Nat → Nat, E 0 = 0 ∧ E L.length = e ∧ ∀ i, i < L.length → ∃ a, E i ≤ a ∧ a < E (i + 1) ∧ E (i + 1) ≤ s.length ∧ (∀ j, E i ≤ j → j < a → by' s j = 32) ∧ (∀ j, a ≤ j → j < E (i + 1) → by' s j ≠ 32) ∧ (E (i + 1) = s.length ∨ by' s (E (i + 1)) = 32) ∧ kS L i = gw s a (E (i + 1)) := by
  induction h with
  | nil => exact ⟨fun _ => 0, rfl, rfl, fun i hi => by simp at hi⟩
  | @add L e a b h0 h1 h2 h3 s1 s2 s3 ih =>
    obtain ⟨E, e0, e1, e2⟩ := ih
    have ln : (L ++ [[D.s (gw s a b)]]).length = L.length + 1 := by simp
    refine ⟨fun i => if i ≤ L.length then E i else b, ?_, ?_, fun i hi => ?_⟩
    · simp only []; rw [if_pos (by omega), e0]
    · simp only []; rw [ln, if_neg (by omega)]
    · rw [ln] at hi
      by_cases q : i = L.length
      · subst q
        simp only []
        rw [if_pos (Nat.le_refl _), if_neg (by omega), e1]
        refine ⟨a, h1, h2, h3, s1, s2, s3, ?_⟩
        have eg : (L ++ [[D.s (gw s a b)]]).getD L.length [] = [D.s (gw s a b)] := by
          rw [List.getD_eq_getElem?_getD, List.getElem?_append_right (Nat.le_refl _), Nat.sub_self]; rfl
        unfold kS
        rw [eg]; rfl
      · obtain ⟨a', p⟩ := e2 i (by omega)
        simp only []
        rw [if_pos (show i ≤ L.length by omega), if_pos (show i + 1 ≤ L.length by omega)]
        refine ⟨a', p.1, p.2.1, p.2.2.1, p.2.2.2.1, p.2.2.2.2.1, p.2.2.2.2.2.1, ?_⟩
        rw [← p.2.2.2.2.2.2]
        have eg : (L ++ [[D.s (gw s a b)]]).getD i [] = L.getD i [] := by
          rw [List.getD_eq_getElem?_getD, List.getElem?_append_left (by omega), ← List.getD_eq_getElem?_getD]
        unfold kS
        rw [eg]
/-! how many -/
theorem wk_gap {s : List UInt8} {e a : Nat} (h : e ≤ a) (hs : ∀ j, e ≤ j → j < a → by' s j = 32) : (wk s a).1 = (wk s e).1 ∧ (e < a → (wk s a).2 = false) := by
  obtain ⟨d, rfl⟩ : ∃ d, a = e + d := ⟨a - e, by omega⟩
  clear h
  induction d with
  | zero => exact ⟨rfl, fun h => by omega⟩
  | succ d ih =>
    have ih := ih (fun j p1 p2 => hs j p1 (by omega))
    have e1 : wk s (e + (d + 1)) = ((wk s (e + d)).1, false) := by
      show stw (wk s (e + d)) (by' s (e + d)) = _
      unfold stw; rw [if_pos (hs _ (by omega) (by omega))]
    rw [e1]; exact ⟨ih.1, fun _ => rfl⟩
theorem wk_word {s : List UInt8} {a b : Nat} (hl : b ≤ s.length) (hN : ∀ j, j < s.length → by' s j ≠ 126) (h : a < b) (hs : ∀ j, a ≤ j → j < b → by' s j ≠ 32) (h0 : (wk s a).2 = false) : (wk s b).1 = (wk s a).1 + 1 := by
  have : wk s b = ((wk s a).1 + 1, true) := by
    obtain ⟨d, rfl⟩ : ∃ d, b = a + 1 + d := ⟨b - a - 1, by omega⟩
    clear h
    induction d with
    | zero =>
      show stw (wk s a) (by' s a) = _
      unfold stw; rw [if_neg (hs a (Nat.le_refl _) (by omega)), if_pos ⟨hN a (by omega), h0⟩]
    | succ d ih =>
      have ih := ih (by omega) (fun j p1 p2 => hs j p1 (by omega))
      show stw (wk s (a + 1 + d)) (by' s (a + 1 + d)) = _
      rw [ih]
      unfold stw; rw [if_neg (hs _ (by omega) (by omega)), if_neg (fun w => by cases w.2)]
  rw [this]
theorem Ch_cnt {s : List UInt8} {L : LD} {e : Nat} (hN : ∀ j, j < s.length → by' s j ≠ 126) (h : Ch s L e) : (wk s e).1 = L.length ∧ (e = 0 ∨ e = s.length ∨ by' s e = 32) := by
  induction h with
  | nil => exact ⟨rfl, .inl rfl⟩
  | @add L e a b h0 h1 h2 h3 s1 s2 s3 ih =>
    refine ⟨?_, .inr s3⟩
    obtain ⟨g1, g2⟩ := wk_gap h1 s1
    have g3 : (wk s a).2 = false := by
      by_cases q : e < a
      · exact g2 q
      · have : e = a := by omega
        subst this
        rcases ih.2 with w | w | w
        · rw [w]; rfl
        · omega
        · exact absurd w (s2 e (Nat.le_refl _) h2)
    rw [wk_word h3 hN h2 s2 g3, g1, ih.1]
    simp
theorem FT_words {bf bh : Int} {kp : LD} {s : List UInt8} (hV : VB bf bh kp ∧ VA s) (hN : ∀ j, j < s.length → by' s j ≠ 45 ∧ by' s j ≠ 126) :
    (wk s s.length).1 = (FT bf bh kp s).length ∧ ∃ E : Nat → Nat, E 0 = 0 ∧ E (FT bf bh kp s).length ≤ s.length ∧ (∀ j, E (FT bf bh kp s).length ≤ j → j < s.length → by' s j = 32) ∧
    ∀ i, i < (FT bf bh kp s).length → ∃ a, E i ≤ a ∧ a < E (i + 1) ∧ E (i + 1) ≤ s.length ∧ (∀ j, E i ≤ j → j < a → by' s j = 32) ∧ (∀ j, a ≤ j → j < E (i + 1) → by' s j ≠ 32) ∧ (E (i + 1) = s.length ∨ by' s (E (i + 1)) = 32) ∧ kS (FT bf bh kp s) i = gw s a (E (i + 1)) := by
  obtain ⟨e, c1, c2, c3⟩ := FT_ch hV hN
  obtain ⟨E, e0, e1, e2⟩ := Ch_at c1
  refine ⟨?_, E, e0, by omega, fun j p1 p2 => c3 j (by omega) p2, e2⟩
  rw [(wk_gap c2 c3).1, (Ch_cnt (fun j hj => (hN j hj).2) c1).1]
set_option maxRecDepth 100000
theorem FT_len (bf bh : Int) (kp : LD) (s : List UInt8) : (FT bf bh kp s).length ≤ 2001 := by
  unfold FT
  split
  · rename_i h
    have := PTm_len (bf := bf) (bh := bh) (kp := kp) (s := s) s.length
    have := opt_len (pt (seg s (frm bf bh kp s s.length) s.length) false)
    have := h.2.1
    rw [List.length_append]; omega
  · simp
theorem wk_ws {s : List UInt8} (hV : VA s) : WQ s = .tup [.int .i64 (wk s s.length).1, .int .i64 0] := by unfold WQ; rw [if_pos hV]
set_option maxHeartbeats 4000000 in
theorem law6 (bf bh : Int) (kp : LD) (s : List UInt8) (hl : s.length ≤ 9223372036854775807) : SemF Try.prog 6 [.agg [.int .i64 bf, .int .i64 bh, .slc 0 1 0 kp.length], .str s] ⟨1, 1, [(0, .arr [.str] .ro (.recs kp))]⟩ (fun v _ => IsTrue v) := by
  refine enter tt_ok Try.func6 (nt := 150) (cd := body Try.f6) rfl rfl rfl rfl ?_
  intro _
  refine head_ok rfl Try.func9 (cd := body Try.f9) rfl ?_
  intro _
  refine call_pure [(0, some 0)] (usable_ok bf bh kp s hl) rfl rfl rfl ?_ ?_ ?_
  · (repeat' first | exact trivial | exact rfl | refine And.intro ?_ ?_)
  · (repeat' first | exact trivial | exact rfl | refine And.intro ?_ ?_)
  intro v hv _
  subst hv
  intro _; refine ⟨fun g => ?_, fun g => ?_⟩
  · intro _
    rfl
  have g : (!decide (US bf bh kp s)) = false := g
  rw [Bool.not_eq_false'] at g
  obtain ⟨hs3, hVB, hVA⟩ := of_decide_eq_true g
  have hFl := FT_len bf bh kp s
  intro _
  refine loop2 tt_ok [6] [] 2 (fun i : { i : Nat // i ≤ s.length ∧ ∀ j, j < i → by' s j ≠ 45 ∧ by' s j ≠ 126 } => [(6, .int .i64 (i.1 : Nat))]) (fun _ => []) (fun i => s.length - i.1) ⟨0, by omega, fun j hj => by omega⟩ ?_
  intro _
  refine ⟨⟨th [] 2, rfl, rfl, rfl, rfl, rfl, rfl, ?_, ?_⟩, ?_⟩
  · (repeat' first | exact trivial | exact rfl | refine And.intro ?_ ?_)
  · (repeat' first | exact trivial | exact rfl | refine And.intro ?_ ?_)
  intro ⟨i, h1, h2⟩
  intro _; refine ⟨fun g => ?_, fun g => ?_⟩
  · have g := of_decide_eq_true (show decide ((i : Int) < (s.length : Int)) = true from g)
    have hi : i < s.length := by omega
    intro _; refine ⟨show 0 ≤ (i : Int) ∧ (i : Int) < (s.length : Int) by omega, ?_⟩
    intro _; refine ⟨fun g1 => ?_, fun g1 => ?_⟩
    · intro _
      rfl
    have g1' : (by' s (i : Int).toNat == 45) = false := g1
    intro _; refine ⟨show 0 ≤ (i : Int) ∧ (i : Int) < (s.length : Int) by omega, ?_⟩
    intro _; refine ⟨fun g => ?_, fun g => ?_⟩
    · intro _
      rfl
    have g2 : (by' s (i : Int).toNat == 126) = false := g
    rw [Int.toNat_natCast] at g1' g2
    refine ⟨⟨i + 1, by omega, step_all h2 ⟨beq_eq_false_iff_ne.1 g1', beq_eq_false_iff_ne.1 g2⟩⟩, by simp only []; omega, th [] 2, rfl, rfl, rfl, rfl, rfl, rfl, ?_, ?_⟩
    · (repeat' first | exact trivial | exact rfl | refine And.intro ?_ ?_)
      exact (wrap_nat i (by omega)).symm
    · (repeat' first | exact trivial | exact rfl | refine And.intro ?_ ?_)
  have g := of_decide_eq_false (show decide ((i : Int) < (s.length : Int)) = false from g)
  have hN : ∀ j, j < s.length → by' s j ≠ 45 ∧ by' s j ≠ 126 := fun j hj => h2 j (by omega)
  obtain ⟨hw, E, hE0, hEn, hEs, hEi⟩ := FT_words (bf := bf) (bh := bh) (kp := kp) ⟨hVB, hVA⟩ hN
  have cF := Least_ok bf bh kp s hl
  have yE : LE bf bh kp s = 0 := by unfold brk.LE; rw [if_pos ⟨hVB, hVA⟩]
  have cW := words_ok s hl
  rw [wk_ws hVA, hw] at cW
  unfold TQ8 at cF
  rw [yE] at cF
  clear yE hw
  generalize FT bf bh kp s = P at cF cW hFl hEn hEs hEi
  intro _
  refine call_new [(0, some 0)] (cF) rfl rfl rfl rfl ?_ ?_ ?_
  · (repeat' first | exact trivial | exact rfl | refine And.intro ?_ ?_)
  · (repeat' first | exact trivial | exact rfl | refine And.intro ?_ ?_)
  intro v h' hv
  obtain ⟨rfl, rfl⟩ := hv
  refine ⟨[(2, some 1)], 3, [(2, .arr [.str] .grow (.recs P))], .tup [.grw 2 P.length, .int .i64 0], rfl, rfl, rfl, rfl, rfl, ?_, ?_, ?_⟩
  · (repeat' first | exact trivial | exact rfl | refine And.intro ?_ ?_)
  · (repeat' first | exact trivial | exact rfl | refine And.intro ?_ ?_)
  intro _
  refine call_pure [] (cW) rfl rfl rfl ?_ ?_ ?_
  · (repeat' first | exact trivial | exact rfl | refine And.intro ?_ ?_)
  · (repeat' first | exact trivial | exact rfl | refine And.intro ?_ ?_)
  intro v hv _
  subst hv
  intro _
  have h0 : E 0 ≤ s.length := by omega
  refine loop2 tt_ok [12, 11] [] 3 (fun i : { i : Nat // i ≤ P.length ∧ E i ≤ s.length } => [(12, .int .i64 (i.1 : Nat)), (11, .int .i64 (E i.1 : Nat))]) (fun _ => []) (fun i => P.length - i.1) ⟨0, by omega, h0⟩ ?_
  intro _
  refine ⟨⟨th [] 3, rfl, rfl, rfl, rfl, rfl, rfl, ?_, ?_⟩, ?_⟩
  · (repeat' first | exact trivial | exact rfl | refine And.intro ?_ ?_)
    exact (show ((E 0 : Nat) : Int) = 0 by rw [hE0]; rfl)
  · (repeat' first | exact trivial | exact rfl | refine And.intro ?_ ?_)
  intro ⟨i, hi, hEl⟩
  intro _; refine ⟨fun g => ?_, fun g => ?_⟩
  · have g := of_decide_eq_true (show decide ((i : Int) < (P.length : Int)) = true from g)
    have hil : i < P.length := by omega
    obtain ⟨a, a1, a2, a3, s1, s2, s3, ek⟩ := hEi i hil
    intro _
    refine loop2 tt_ok [11] [] 3 (fun j : { j : Nat // E i ≤ j ∧ j ≤ a } => [(11, .int .i64 (j.1 : Nat))]) (fun _ => []) (fun j => a - j.1) ⟨E i, Nat.le_refl _, a1⟩ ?_
    intro _
    refine ⟨⟨th [] 3, rfl, rfl, rfl, rfl, rfl, rfl, ?_, ?_⟩, ?_⟩
    · (repeat' first | exact trivial | exact rfl | refine And.intro ?_ ?_)
    · (repeat' first | exact trivial | exact rfl | refine And.intro ?_ ?_)
    intro ⟨j, j1, j2⟩
    intro _; refine ⟨fun g => ?_, fun g => ?_⟩
    rotate_left
    · exfalso
      have g := of_decide_eq_false (show decide ((j : Int) < (s.length : Int)) = false from g)
      omega
    intro _; refine ⟨show 0 ≤ (j : Int) ∧ (j : Int) < (s.length : Int) by omega, ?_⟩
    intro _; refine ⟨fun g => ?_, fun g => ?_⟩
    · have g2 := eq_of_beq (show (by' s (j : Int).toNat == 32) = true from g)
      rw [Int.toNat_natCast] at g2
      have j3 : j ≠ a := fun q => s2 a (Nat.le_refl _) a2 (by rw [← q]; exact g2)
      refine ⟨⟨j + 1, by omega, by omega⟩, by simp only []; omega, th [] 3, rfl, rfl, rfl, rfl, rfl, rfl, ?_, ?_⟩
      · (repeat' first | exact trivial | exact rfl | refine And.intro ?_ ?_)
        exact (wrap_nat j (by omega)).symm
      · (repeat' first | exact trivial | exact rfl | refine And.intro ?_ ?_)
    have g2 := beq_eq_false_iff_ne.1 (show (by' s (j : Int).toNat == 32) = false from g)
    rw [Int.toNat_natCast] at g2
    have j3 : j = a := Decidable.byContradiction fun q => g2 (s1 j j1 (by omega))
    subst j3
    have pl : (kS P i).length = E (i + 1) - j := by rw [ek]; exact gw_len a3
    have ei : (i : Int).toNat = i := Int.toNat_natCast i
    intro _; refine ⟨show 0 ≤ (i : Int) ∧ (i : Int) < (P.length : Int) by omega, ?_⟩
    intro _; refine ⟨show (i : Int).toNat < P.length by omega, ?_⟩
    intro _; refine ⟨fun g => ?_, fun g => ?_⟩
    · exfalso
      have g3 : (kS P (i : Int).toNat == []) = true := g
      rw [ei] at g3
      have g3 := eq_of_beq g3
      rw [g3] at pl
      simp at pl; omega
    intro _; refine ⟨fun g => ?_, fun g => ?_⟩
    · exfalso
      have g4 := of_decide_eq_true (show decide (IntKind.i64.wrap ((s.length : Int) - (j : Int)) < ((kS P (i : Int).toNat).length : Int)) = true from g)
      rw [ei, pl, wrapS _ ⟨by omega, by omega⟩] at g4
      omega
    have ew : IntKind.i64.wrap ((j : Int) + ((kS P (i : Int).toNat).length : Int)) = (E (i + 1) : Int) := by rw [ei, pl, wrapS _ ⟨by omega, by omega⟩]; omega
    intro _; refine ⟨show 0 ≤ (j : Int) ∧ (j : Int) ≤ IntKind.i64.wrap ((j : Int) + ((kS P (i : Int).toNat).length : Int)) ∧ IntKind.i64.wrap ((j : Int) + ((kS P (i : Int).toNat).length : Int)) ≤ (s.length : Int) by rw [ew]; omega, ?_⟩
    intro _; refine ⟨fun g => ?_, fun g => ?_⟩
    · exfalso
      have g5 : (seg s (j : Int) (IntKind.i64.wrap ((j : Int) + ((kS P (i : Int).toNat).length : Int))) != kS P (i : Int).toNat) = true := g
      rw [ew, ei, ek, seg_gw] at g5
      exact absurd rfl (bne_iff_ne.1 g5)
    intro _
    refine loop2 tt_ok [14] [] 3 (fun k : { k : Nat // k ≤ (kS P (i : Int).toNat).length } => [(14, .int .i64 (k.1 : Nat))]) (fun _ => []) (fun k => (kS P (i : Int).toNat).length - k.1) ⟨0, by omega⟩ ?_
    intro _
    refine ⟨⟨th [] 3, rfl, rfl, rfl, rfl, rfl, rfl, ?_, ?_⟩, ?_⟩
    · (repeat' first | exact trivial | exact rfl | refine And.intro ?_ ?_)
    · (repeat' first | exact trivial | exact rfl | refine And.intro ?_ ?_)
    intro ⟨k, k1⟩
    intro _; refine ⟨fun g => ?_, fun g => ?_⟩
    · have g6 := of_decide_eq_true (show decide ((k : Int) < ((kS P (i : Int).toNat).length : Int)) = true from g)
      intro _; refine ⟨show 0 ≤ (k : Int) ∧ (k : Int) < ((kS P (i : Int).toNat).length : Int) by omega, ?_⟩
      intro _; refine ⟨fun g => ?_, fun g => ?_⟩
      · exfalso
        have g7 := eq_of_beq (show (by' (kS P (i : Int).toNat) (k : Int).toNat == 32) = true from g)
        rw [ei] at g6
        rw [ei, Int.toNat_natCast, ek, gw_by (by omega)] at g7
        exact s2 (j + k) (by omega) (by omega) g7
      refine ⟨⟨k + 1, by omega⟩, by simp only []; omega, th [] 3, rfl, rfl, rfl, rfl, rfl, rfl, ?_, ?_⟩
      · (repeat' first | exact trivial | exact rfl | refine And.intro ?_ ?_)
        exact (wrap_nat k (by rw [ei] at g6; omega)).symm
      · (repeat' first | exact trivial | exact rfl | refine And.intro ?_ ?_)
    intro _; refine ⟨fun g => ?_, fun g => ?_⟩
    · have g8 := of_decide_eq_true (show decide (IntKind.i64.wrap ((j : Int) + ((kS P (i : Int).toNat).length : Int)) < (s.length : Int)) = true from g)
      rw [ew] at g8
      intro _; refine ⟨show 0 ≤ IntKind.i64.wrap ((j : Int) + ((kS P (i : Int).toNat).length : Int)) ∧ IntKind.i64.wrap ((j : Int) + ((kS P (i : Int).toNat).length : Int)) < (s.length : Int) by rw [ew]; omega, ?_⟩
      intro _; refine ⟨fun g => ?_, fun g => ?_⟩
      · exfalso
        have g9 := bne_iff_ne.1 (show (by' s (IntKind.i64.wrap ((j : Int) + ((kS P (i : Int).toNat).length : Int))).toNat != 32) = true from g)
        rw [ew, Int.toNat_natCast] at g9
        rcases s3 with q | q
        · omega
        · exact g9 q
      refine ⟨⟨i + 1, by omega, a3⟩, by simp only []; omega, th [] 3, rfl, rfl, rfl, rfl, rfl, rfl, ?_, ?_⟩
      · (repeat' first | exact trivial | exact rfl | refine And.intro ?_ ?_)
        · exact (wrap_nat i (by omega)).symm
        · exact ew.symm
      · (repeat' first | exact trivial | exact rfl | refine And.intro ?_ ?_)
    refine ⟨⟨i + 1, by omega, a3⟩, by simp only []; omega, th [] 3, rfl, rfl, rfl, rfl, rfl, rfl, ?_, ?_⟩
    · (repeat' first | exact trivial | exact rfl | refine And.intro ?_ ?_)
      · exact (wrap_nat i (by omega)).symm
      · exact ew.symm
    · (repeat' first | exact trivial | exact rfl | refine And.intro ?_ ?_)
  have g := of_decide_eq_false (show decide ((i : Int) < (P.length : Int)) = false from g)
  have hie : i = P.length := by omega
  subst hie
  intro _
  refine loop2 tt_ok [11] [] 3 (fun j : { j : Nat // E P.length ≤ j ∧ j ≤ s.length } => [(11, .int .i64 (j.1 : Nat))]) (fun _ => []) (fun j => s.length - j.1) ⟨E P.length, Nat.le_refl _, hEn⟩ ?_
  intro _
  refine ⟨⟨th [] 3, rfl, rfl, rfl, rfl, rfl, rfl, ?_, ?_⟩, ?_⟩
  · (repeat' first | exact trivial | exact rfl | refine And.intro ?_ ?_)
  · (repeat' first | exact trivial | exact rfl | refine And.intro ?_ ?_)
  intro ⟨j, j1, j2⟩
  intro _; refine ⟨fun g => ?_, fun g => ?_⟩
  · have g := of_decide_eq_true (show decide ((j : Int) < (s.length : Int)) = true from g)
    intro _; refine ⟨show 0 ≤ (j : Int) ∧ (j : Int) < (s.length : Int) by omega, ?_⟩
    intro _; refine ⟨fun g => ?_, fun g => ?_⟩
    · refine ⟨⟨j + 1, by omega, by omega⟩, by simp only []; omega, th [] 3, rfl, rfl, rfl, rfl, rfl, rfl, ?_, ?_⟩
      · (repeat' first | exact trivial | exact rfl | refine And.intro ?_ ?_)
        exact (wrap_nat j (by omega)).symm
      · (repeat' first | exact trivial | exact rfl | refine And.intro ?_ ?_)
    exfalso
    have g2 := beq_eq_false_iff_ne.1 (show (by' s (j : Int).toNat == 32) = false from g)
    rw [Int.toNat_natCast] at g2
    exact g2 (hEs j j1 (by omega))
  have g := of_decide_eq_false (show decide ((j : Int) < (s.length : Int)) = false from g)
  have hje : j = s.length := by omega
  intro _; refine ⟨fun _ => ?_, fun g => absurd (show ((0 : Int) == 0) = false from g) (by decide)⟩
  intro _; refine ⟨fun _ => ?_, fun g => absurd (show ((0 : Int) == 0) = false from g) (by decide)⟩
  intro _; refine ⟨fun g => ?_, fun g => ?_⟩
  · intro _
    show ((P.length : Int) == (P.length : Int)) = true
    exact beq_self_eq_true _
  exfalso
  have g9 := beq_eq_false_iff_ne.1 (show ((j : Int) == (s.length : Int)) = false from g)
  omega

theorem open_strs {H : Type} {enc : TypeId × Value → H} {P : Program} {w : World} {base : Nat} {held : Bool} {r : Reach} {t e : TypeId} {v : Value} {d : DataW H} {p : List MemPlace} (ht : P.underlying t = some (.slice e)) (he : P.underlying e = some .string) (hC : P.cellsOf e = 1)
    (hval : Value.okWide P w r base t v) (h : DataW.Trod enc P w 0 (fun _ => true) held t v d p) :
    ∃ (s : Src) (l : List (List Go.Vm2.D)) (cap : Nat), s.ks = [.str] ∧ s.ac = .recs l ∧ s.lies w ∧ (s.at_ = none → l.length = 0) ∧ l.length ≤ cap ∧ v = s.val cap ∧ l.length ≤ maxLen ∧ ∀ x ∈ l, Go.Vm2.rowWf [.str] x := by
  have hne : ([.str] : List CK) ≠ [] := by simp
  letI : Facts := ⟨[], [], false⟩
  obtain ⟨ao, len, cap, rfl⟩ := okWide_slice ht hval
  obtain ⟨fuel, h⟩ := h
  rcases Go.Deep.open_slice ht h with ⟨h1, _⟩ | ⟨a, len', cap', m, n, D', Pl, h1, _, h3, h4, hm, _, hi⟩
  · have h1 : [Value.slice ao len cap] = [.slice none 0 0] := h1
    simp only [List.cons.injEq, Value.slice.injEq, and_true] at h1
    obtain ⟨rfl, rfl, rfl⟩ := h1
    exact ⟨⟨none, ([.str] : List CK), .recs []⟩, [], 0, rfl, rfl, ⟨hne, rfl⟩, fun _ => rfl, Nat.le_refl _, rfl, Nat.zero_le _, fun n hn => (List.not_mem_nil hn).elim⟩
  · have h1 : [Value.slice ao len cap] = [.slice (some a) len' cap'] := h1
    simp only [List.cons.injEq, Value.slice.injEq, and_true] at h1
    obtain ⟨rfl, rfl, rfl⟩ := h1
    have hh : w.has P r base a e cap := by
      simp only [Value.okWide, ht, Cell.okWide, Cell.ok] at hval
      exact hval.2.2
    have hlm : len ≤ m := by rw [hm]; split <;> omega
    have rows : ∀ i, i < len → ∃ ds : List Go.Vm2.D, Go.Vm2.rowWf [.str] ds ∧ ∀ j c, ([.str] : List CK)[j]? = some c → w.cell? (a.add (i * ([.str] : List CK).length + j)) = some (Go.Vm2.valOf c (ds.getD j (.n 0))) := by
      intro i hil
      obtain ⟨cs', hc, ht'⟩ := hi i (by omega)
      rw [hC] at hc
      obtain ⟨_, hcl, hat⟩ := World.cells?_some hc
      obtain ⟨m', h1, _, h3⟩ := DataW.trod_string he ht'
      refine ⟨[.s m'.data.toList], ⟨rfl, fun j c hj => ?_⟩, fun j c hj => ?_⟩
      · match j, hj with
        | 0, hj =>
          simp at hj; subst hj
          exact ⟨_, rfl, by simpa using h3⟩
        | j + 1, hj => simp at hj
      · match j, hj with
        | 0, hj =>
          simp at hj; subst hj
          have := hat 0 (by omega)
          rw [h1] at this
          rw [← Go.Deep.add_add]
          exact this
        | j + 1, hj => simp at hj
    obtain ⟨l, l1, l2⟩ := Go.Vm2.pick_list len rows
    obtain ⟨b, off, spot⟩ := a
    obtain ⟨rfl, c, tt, fz, hb, hoff⟩ := Go.Vm2.has_lies hh
    have hb : w.heap[b]? = some (.cells c tt fz) := hb
    have hz : 0 < ([.str] : List CK).length := List.length_pos_iff.2 hne
    have cellAt : ∀ i j ck, i < len → ([.str] : List CK)[j]? = some ck → c[off + (i * ([.str] : List CK).length + j)]? = some (Go.Vm2.valOf ck (((l.getD i []).getD j (.n 0)))) := by
      intro i j ck hil hck
      have e : l[i]? = some (l.getD i []) := by rw [List.getD_eq_getElem?_getD, List.getElem?_eq_getElem (by omega)]; rfl
      have := (l2 i _ e).2 j ck hck
      rw [add_plain] at this
      unfold World.cell? at this
      rw [hb] at this
      simpa using this
    refine ⟨⟨some (b, off), ([.str] : List CK), .recs l⟩, l, cap, rfl, rfl, ⟨hne, c, tt, fz, hb, ?_, ?_⟩, (fun e => by cases e), by omega, ?_, by omega, fun x hx => ?_⟩
    · show off + l.length * ([.str] : List CK).length ≤ c.size
      rcases Nat.eq_zero_or_pos len with h0 | h0
      · rw [l1, h0, Nat.zero_mul]; exact hoff
      · have hk : ([.str] : List CK)[([.str] : List CK).length - 1]? = some ([.str] : List CK)[([.str] : List CK).length - 1] := List.getElem?_eq_getElem (by omega)
        have := (Array.getElem?_eq_some_iff.1 (cellAt (len - 1) (([.str] : List CK).length - 1) _ (by omega) hk)).1
        rw [l1]
        have e : len * ([.str] : List CK).length = (len - 1) * ([.str] : List CK).length + ([.str] : List CK).length := by
          have : len = (len - 1) + 1 := by omega
          rw [this, Nat.add_mul, Nat.one_mul]; simp
        omega
    · intro i ck dd hii
      simp only [AC.avs] at hii
      have hfl' := Go.Vm2.flat_length (fun x => Go.Vm2.rowAV_length ([.str] : List CK) 0 x) l
      have hil : i < l.length * ([.str] : List CK).length := by rw [← hfl']; exact (List.getElem?_eq_some_iff.1 hii).1
      have q1 := Nat.div_add_mod i ([.str] : List CK).length
      have q2 := Nat.mod_lt i hz
      have q3 : i / ([.str] : List CK).length < l.length := (Nat.div_lt_iff_lt_mul hz).2 hil
      have hi' : i = i / ([.str] : List CK).length * ([.str] : List CK).length + i % ([.str] : List CK).length := by rw [Nat.mul_comm]; omega
      have e : l[i / ([.str] : List CK).length]? = some (l.getD (i / ([.str] : List CK).length) []) := by rw [List.getD_eq_getElem?_getD, List.getElem?_eq_getElem q3]; rfl
      have hk : ([.str] : List CK)[i % ([.str] : List CK).length]? = some ([.str] : List CK)[i % ([.str] : List CK).length] := List.getElem?_eq_getElem q2
      have f1 := Go.Vm2.flat_get (fun x => Go.Vm2.rowAV_length ([.str] : List CK) 0 x) (i / ([.str] : List CK).length) l _ e (i % ([.str] : List CK).length) q2
      rw [← hi', hii, Go.Vm2.rowAV_get ([.str] : List CK) 0 _ _ _ hk, Nat.zero_add] at f1
      have f2 := cellAt (i / ([.str] : List CK).length) (i % ([.str] : List CK).length) _ (by omega) hk
      rw [← hi'] at f2
      show c[off + i]? = some (Go.Vm2.valOf ck dd)
      rw [f2]
      simp only [Option.some.injEq] at f1
      congr 1
      revert f1
      generalize ([.str] : List CK)[i % ([.str] : List CK).length] = c2
      generalize (l.getD (i / ([.str] : List CK).length) []).getD (i % ([.str] : List CK).length) (.n 0) = d2
      intro f1
      cases ck <;> cases c2 <;> simp only [CK.av, Go.Vm.AV.int.injEq, Go.Vm.AV.bool.injEq, Go.Vm.AV.str.injEq, reduceCtorEq] at f1 <;> simp only [Go.Vm2.valOf]
      · rw [f1.1, f1.2]
      · rw [f1]
      · rw [f1]
    · show Value.slice (some ⟨b, off, none⟩) len cap = Value.slice (some ⟨b, off, none⟩) l.length cap
      rw [l1]
    · obtain ⟨i, hi', rfl⟩ := List.getElem_of_mem hx
      exact (l2 i _ (List.getElem?_eq_getElem hi')).1
theorem agg_cv {n : Nat} {ν : Nu} {vs : List V} {as' : List Go.Vm.AV} (h : Cvs n ν vs as') : Cv n ν (.agg vs) (.agg as') := by
  simp only [Cv]; exact ⟨as', rfl, h⟩
def fieldsSt (P : Program) : Nat → List Field → List TypeId → Bool
  | _, [], [] => true
  | j, f :: fs, u :: us => Nat.beq f.offset j && Nat.beq (P.cellsOf f.type) 1 && Nat.beq f.type u && fieldsSt P (j + 1) fs us
  | _, _, _ => false
theorem fieldsSt_get {P : Program} : ∀ {fs : List Field} {ts : List TypeId} {j0 : Nat}, fieldsSt P j0 fs ts = true → ∀ (j : Nat) (u : TypeId), ts[j]? = some u → ∃ f, fs[j]? = some f ∧ f.offset = j0 + j ∧ P.cellsOf f.type = 1 ∧ f.type = u
  | [], [], _, _ => fun j u e => by simp at e
  | [], _ :: _, _, h => by simp [fieldsSt] at h
  | _ :: _, [], _, h => by simp [fieldsSt] at h
  | f :: fs, u :: us, j0, h => by
    simp only [fieldsSt, Bool.and_eq_true] at h
    obtain ⟨⟨⟨h1, h2⟩, h3⟩, h4⟩ := h
    intro j u' e
    cases j with
    | zero =>
      simp at e; subst e
      exact ⟨f, rfl, Nat.eq_of_beq_eq_true h1, Nat.eq_of_beq_eq_true h2, Nat.eq_of_beq_eq_true h3⟩
    | succ j =>
      simp at e
      obtain ⟨f', e1, e2, e3⟩ := fieldsSt_get h4 j u' e
      exact ⟨f', by simpa using e1, by rw [e2]; omega, e3⟩
theorem open_st {H : Type} {enc : TypeId × Value → H} {P : Program} {w : World} {base : Nat} {spare : Nat → Bool} {held : Bool} {r : Reach} {t : TypeId} {fs : Array Field} {ts : List TypeId} {v : Value} {d : DataW H} {p : List MemPlace} (ht : P.underlying t = some (.struct fs)) (hts : P.cellTypes P.depth t = some ts) (hC : P.cellsOf t = ts.length) (hf : fieldsSt P 0 fs.toList ts = true)
    (hval : Value.okWide P w r base t v) (h : DataW.Trod enc P w 0 spare held t v d p) :
    ∃ cs : Array Value, v = .agg cs ∧ cs.size = ts.length ∧ ∀ (j : Nat) (u : TypeId), ts[j]? = some u → ∃ x d' p' fuel, cs[j]? = some x ∧ Cell.okWide P w r base u x ∧ DataW.trod enc P w 0 spare held fuel u [x] = some (d', p') := by
  unfold Value.okWide at hval
  rw [ht] at hval
  obtain ⟨cs, rfl, hs, ts', ht', _, hk⟩ := hval
  rw [hts] at ht'
  simp only [Option.some.injEq] at ht'
  subst ht'
  obtain ⟨fuel, h⟩ := h
  obtain ⟨xs, n, _, _, hl, hxl, hf'⟩ := DataW.trod_struct ht h
  refine ⟨cs, rfl, by rw [hs, hC], fun j u hu => ?_⟩
  obtain ⟨f, e1, e2, e3, rfl⟩ := fieldsSt_get hf j u hu
  have hj : j < ts.length := (List.getElem?_eq_some_iff.1 hu).1
  have hjc : j < cs.size := by rw [hs, hC]; exact hj
  obtain ⟨u', hu', hok⟩ := hk j cs[j] (by simp [hjc])
  rw [Nat.mod_eq_of_lt hj, hu] at hu'
  cases hu'
  have e4 := hf' j f (by simpa using e1)
  rw [e2, e3, Nat.zero_add] at e4
  have e5 : ((Value.agg cs).cells.toList.drop j).take 1 = [cs[j]] := by
    show (cs.toList.drop j).take 1 = _
    rw [List.drop_eq_getElem_cons (by simpa using hjc)]; simp
  rw [e5] at e4
  have hjf : j < fs.toList.length := (List.getElem?_eq_some_iff.1 e1).1
  have hjx : j < xs.length := by rw [hxl]; simpa using hjf
  rw [List.getElem?_eq_getElem hjx] at e4
  exact ⟨cs[j], xs[j].1, xs[j].2, n, by simp [hjc], hok, e4⟩
theorem walk (w : World) (bf : Int) (w_bf : (Lit.int .i64 bf).wf = true) (bh : Int) (w_bh : (Lit.int .i64 bh).wf = true) (v_kp : Value) (s_kp : Src) (kp : List (List Go.Vm2.D)) (cap_kp : Nat) (hk_kp : s_kp.ks = [.str]) (ha_kp : s_kp.ac = .recs kp) (hs_kp : s_kp.lies w) (hn_kp : s_kp.at_ = none → kp.length = 0) (hc_kp : kp.length ≤ cap_kp) (hv_kp : v_kp = s_kp.val cap_kp) (hm_kp : kp.length ≤ maxLen) (w_kp : ∀ n ∈ kp, rowWf [.str] n) (s : List UInt8) (m_s : s.length ≤ maxLen) :
    Calls Try.prog 6 #[.agg #[.int .i64 bf, .int .i64 bh, v_kp], .string ⟨s.toArray⟩] w fun e w' => e = .returned (.bool true) ∧ Below w.heap.size w w' := by
  obtain ⟨at_kp, ks_kp, ac_kp⟩ := s_kp
  simp only [] at hk_kp ha_kp
  subst hk_kp ha_kp
  have h_kp : kp.length ≤ 9223372036854775807 := by unfold maxLen at hm_kp; omega
  have b_bf := w_bf
  simp [Lit.wf, IntKind.min, IntKind.max, IntKind.signed, IntKind.bits] at b_bf
  have b_bh := w_bh
  simp [Lit.wf, IntKind.min, IntKind.max, IntKind.signed, IntKind.bits] at b_bh
  have h_s : s.length ≤ 9223372036854775807 := by unfold maxLen at m_s; omega
  exact top_run (by kernel_rfl) (by kernel_rfl) (T := [9]) (fun f hf w => by
      rcases List.mem_cons.1 hf with e | e
      · subst e; exact head w
      · exact (List.not_mem_nil e).elim) (l := [⟨at_kp, [.str], .recs kp⟩]) (args := [.agg [.int .i64 bf, .int .i64 bh, .slc 0 1 0 kp.length], .str s]) («as» := [.agg [.int .i64 bf, .int .i64 bh, Src.av 0 cap_kp ⟨at_kp, [.str], .recs kp⟩], .str s]) (cargs := [.agg #[.int .i64 bf, .int .i64 bh, v_kp], .string ⟨s.toArray⟩]) w
    (fun s h => by
      rcases List.mem_cons.1 h with e | h
      · subst e; exact hs_kp
      · exact (List.not_mem_nil h).elim)
    (Cvs.cons (agg_cv (Cvs.cons mk_int (Cvs.cons mk_int (Cvs.cons (src_cv (s := ⟨at_kp, [.str], .recs kp⟩) rfl 1 hc_kp hn_kp) Cvs.nil)))) (Cvs.cons mk_str Cvs.nil))
    (by simp only [Go.Vm.convs, Go.Vm.conv]; rw [src_conv (j := 0) (s := ⟨at_kp, [.str], .recs kp⟩) rfl]; subst hv_kp; rfl)
    (law6 bf bh kp s h_s)

set_option maxRecDepth 100000 in
theorem lifted (os : Os) (started : os.Started) (H : Type) (enc : TypeId × Value → H) :
    ReturnsInHanded {} Try.checked os 6 .any (Rows.breaksWordsSpec.pre6 enc Try.prog Try.f6 Rows.breaksWordsRow.domain false) (Rows.breaksWordsSpec.post enc Try.prog Try.f6 false true false false) := by
  refine returnsInHanded_of_change (C := Try.checked) own started (by kernel_rfl) Try.func6
    (ChangeSpec.witness6 (enc := enc) (C := Try.checked) false ⟨#[], #[.agg #[.int .i64 0, .int .i64 0, .slice none 0 0], .string ⟨#[]⟩], []⟩ 8 (by kernel_rfl) (by kernel_rfl) (by kernel_rfl) (by kernel_rfl)) ?_
  intro W base args ds gs before hval0 hW hcnd _
  have hval : ∀ (j : Nat) t v, Try.f6.params[j]? = some t → args[j]? = some v → Value.okWide Try.prog W .any base t v := hval0
  have hW' := hW
  obtain ⟨p, q, hA0, hV, rfl, hfz, hnd⟩ := hW
  have hA : DataW.TrodAll enc Try.prog W 0 (fun _ => true) true Try.f6.params.toList args.toList ds p := hA0
  rw [Try.params6] at hA hval
  obtain ⟨v0, vs0, d0, ds0, p0, q0, hargs, rfl, rfl, h0, r0⟩ := trodAll_cons hA
  obtain ⟨v1, vs1, d1, ds1, p1, q1, rfl, rfl, rfl, h1, r1⟩ := trodAll_cons r0
  obtain ⟨rfl, rfl, rfl⟩ := trodAll_nil r1
  obtain rfl : args = #[v0, v1] := by cases args; simp_all
  obtain ⟨rfl, rfl⟩ := trodVars_none hV
  obtain ⟨cs_b, rfl, hz_b, hs_b⟩ := open_st (ts := [3, 3, 22]) Try.underlying24 (by kernel_rfl) (by kernel_rfl) (by kernel_rfl) (hval 0 24 v0 rfl rfl) h0
  have hlt0 : ∀ x ∈ p0, x.block < W.heap.size := fun x hx => by simpa using hW'.lt x (by simp [hx])
  obtain ⟨x_bf, d_bf, p_bf, fu_bf, hx_bf, hk0_bf, ht_bf⟩ := hs_b 0 3 rfl
  have hkk_bf : Value.okWide Try.prog W .any base 3 x_bf := by unfold Value.okWide; rw [Try.underlying3]; exact hk0_bf
  obtain ⟨x_bh, d_bh, p_bh, fu_bh, hx_bh, hk0_bh, ht_bh⟩ := hs_b 1 3 rfl
  have hkk_bh : Value.okWide Try.prog W .any base 3 x_bh := by unfold Value.okWide; rw [Try.underlying3]; exact hk0_bh
  obtain ⟨x_kp, d_kp, p_kp, fu_kp, hx_kp, hk0_kp, ht_kp⟩ := hs_b 2 22 rfl
  have hkk_kp : Value.okWide Try.prog W .any base 22 x_kp := by unfold Value.okWide; rw [Try.underlying22]; exact hk0_kp
  have hcs_b : cs_b = #[x_bf, x_bh, x_kp] := by
    refine Array.ext (by rw [hz_b]; rfl) fun i h1 h2 => ?_
    have hi : i < 3 := by simpa using h2
    rcases i with _ | _ | _ | i
    · have := hx_bf; rw [Array.getElem?_eq_getElem h1] at this; exact Option.some.inj this
    · have := hx_bh; rw [Array.getElem?_eq_getElem h1] at this; exact Option.some.inj this
    · have := hx_kp; rw [Array.getElem?_eq_getElem h1] at this; exact Option.some.inj this
    · omega
  subst hcs_b
  obtain ⟨bf, hq_bf, _, w_bf⟩ := DataW.trod_int Try.underlying3 ht_bf
  simp only [List.cons.injEq, and_true] at hq_bf
  subst hq_bf
  obtain ⟨bh, hq_bh, _, w_bh⟩ := DataW.trod_int Try.underlying3 ht_bh
  simp only [List.cons.injEq, and_true] at hq_bh
  subst hq_bh
  have htt_kp : DataW.Trod enc Try.prog W 0 (fun _ => true) true 22 x_kp d_kp p_kp := by obtain ⟨ao, len, cap, rfl⟩ := okWide_slice Try.underlying22 hkk_kp; exact ⟨fu_kp, ht_kp⟩
  obtain ⟨s_kp, kp, cap_kp, hk_kp, ha_kp, hs_kp, hn_kp, hc_kp, hv_kp, hm_kp, w_kp⟩ := open_strs Try.underlying22 Try.underlying9 (by kernel_rfl) hkk_kp htt_kp
  obtain ⟨sb_s, rfl, rfl, rfl, m0_s⟩ := Go.ChangeMaps.open_string Try.underlying9 (hval 1 9 v1 rfl rfl) h1
  obtain ⟨s, rfl⟩ : ∃ a : List UInt8, sb_s = ⟨a.toArray⟩ := ⟨sb_s.data.toList, by cases sb_s; simp⟩
  clear hA0 hval0
  refine (walk W bf w_bf bh w_bh x_kp s_kp kp cap_kp hk_kp ha_kp hs_kp hn_kp hc_kp hv_kp hm_kp w_kp s (by simpa [ByteArray.size] using m0_s)).mono fun e W' ⟨he, hg⟩ => ?_
  subst he
  exact ⟨_, rfl, _, _, _, [], _, [], hW', trodAll_cons_mk (shut_bool Try.underlying4 _) trodAll_mk0, (trodAll_cons_mk (Below.trod laidOut (by kernel_rfl) (of_decide_eq_true (by kernel_rfl)) h0 hg hlt0) (trodAll_cons_mk (Go.ChangeMaps.shut_string Try.underlying9 m0_s) trodAll_mk0)), rfl, hg.frame _, fun h => by cases h⟩

theorem over : Rows.breaksWordsRow.holds Try.pinned (OpenSpec.ofChange Rows.breaksWordsSpec) :=
  OpenClaim.holds_of_wide 6 Try.f6 rfl rfl rfl rfl rfl rfl rfl ⟨rfl, rfl, rfl, rfl, rfl⟩ rfl rfl rfl rfl rfl (by kernel_rfl) Try.func6 (by kernel_rfl)
    (of_decide_eq_true (by kernel_rfl)) (by unfold Func.isWrapper; first | (rw [if_pos (by decide +kernel)]; kernel_rfl) | (rw [if_neg (by decide +kernel)]; exact ⟨rfl, rfl⟩))
    (fun os started H enc _ => lifted os started H enc)

/-- the statement -/
theorem proved : Rows.BreaksWordsSaid :=
  over
#print axioms proved
end Go.Proofs.Ytbjidlekfoabaaa.breaksWords
