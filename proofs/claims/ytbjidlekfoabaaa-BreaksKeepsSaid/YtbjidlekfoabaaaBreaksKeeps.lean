/-
  BreaksKeeps: whatever the arguments, the law returns true, and its arguments read as before. No conditions.
-/
import Derived.Test.YtbjidlekfoabaaaRows
import Derived.Test.YtbjidlekfoabaaaVwOpen2
import Derived.Test.YtbjidlekfoabaaaVwRules6
import Derived.Test.YtbjidlekfoabaaaVmSym
import Derived.WalkKit
import Derived.ProofKit
import Derived.OpenShut
import Derived.Carry
import Derived.ChangeMaps5
import Derived.Laws.RangeAny
import Derived.Test.YtbjidlekfoabaaaBrkA
import Derived.Test.YtbjidlekfoabaaaBrkB
namespace Go.Proofs.Ytbjidlekfoabaaa.breaksKeeps
open Go.ChangeShapes Go.WideShapes Go.ChangeAt Go.RowKit
open Go.Vm (Facts Val Sound)
open Go.Vm2
set_option linter.unusedVariables false
set_option linter.unusedSectionVars false

open Go.Proofs.Ytbjidlekfoabaaa.brk
theorem own : ownKnob Try.prog.godebug = none := by kernel_rfl
theorem laidOut : laidOutB Try.prog = true := by kernel_rfl
set_option maxRecDepth 100000
/-! stretches without blanks -/
def gw (s : List UInt8) (f u : Nat) : List UInt8 := (s.drop f).take (u - f)
theorem seg_gw (s : List UInt8) (f u : Nat) : seg s (f : Int) (u : Int) = gw s f u := rfl
theorem gw_len {s : List UInt8} {f u : Nat} (h : u ≤ s.length) : (gw s f u).length = u - f := by unfold gw; simp; omega
theorem gw_by {s : List UInt8} {f u i : Nat} (h : f + i < u) : by' (gw s f u) i = by' s (f + i) := by
  unfold by' gw
  rw [List.getD_eq_getElem?_getD, List.getD_eq_getElem?_getD, List.getElem?_take, if_pos (by omega), List.getElem?_drop]
theorem gw_drop {s : List UInt8} {f u : Nat} (h : f < u) : (gw s f u).drop 1 = gw s (f + 1) u := by
  unfold gw
  rw [List.drop_take, List.drop_drop, show u - f - 1 = u - (f + 1) by omega]
theorem gw_take {s : List UInt8} {f u : Nat} (h : f < u) : (gw s f u).take (u - f - 1) = gw s f (u - 1) := by
  unfold gw
  rw [List.take_take, show min (u - f - 1) (u - f) = u - 1 - f by omega]
theorem trL_gw {s : List UInt8} {a u : Nat} (hau : a ≤ u) (hu : u ≤ s.length) (hn : a < u → by' s a ≠ 32) : ∀ n f : Nat, a - f ≤ n → f ≤ a → (∀ j, f ≤ j → j < a → by' s j = 32) → trL n (gw s f u) = gw s a u
  | 0, f, h1, h2, h3 => by
    have : f = a := by omega
    subst this; rfl
  | n + 1, f, h1, h2, h3 => by
    simp only [trL]
    by_cases q : f = a
    · subst q
      by_cases w : f < u
      · rw [if_neg (fun h => hn w (by have := h.2; rwa [gw_by (by omega), Nat.add_zero] at this))]
      · rw [if_neg (fun h => by have := h.1; rw [gw_len hu] at this; omega)]
    · rw [if_pos ⟨by rw [gw_len hu]; omega, by rw [gw_by (by omega), Nat.add_zero]; exact h3 f (Nat.le_refl _) (by omega)⟩, gw_drop (by omega)]
      exact trL_gw hau hu hn n (f + 1) (by omega) (by omega) (fun j p1 p2 => h3 j (by omega) p2)
theorem trR_gw {s : List UInt8} {a b : Nat} (hab : a ≤ b) (hn : a < b → by' s (b - 1) ≠ 32) : ∀ n u : Nat, u - b ≤ n → b ≤ u → u ≤ s.length → (∀ j, b ≤ j → j < u → by' s j = 32) → trR n (gw s a u) = gw s a b
  | 0, u, h1, h2, h3, h4 => by
    have : u = b := by omega
    subst this; rfl
  | n + 1, u, h1, h2, h3, h4 => by
    simp only [trR]
    rw [gw_len h3]
    by_cases q : u = b
    · subst q
      by_cases w : a < u
      · rw [if_neg (fun h => hn w (by have := h.2; rwa [gw_by (by omega), show a + (u - a - 1) = u - 1 by omega] at this))]
      · rw [if_neg (fun h => by have := h.1; omega)]
    · rw [if_pos ⟨by omega, by rw [gw_by (by omega), show a + (u - a - 1) = u - 1 by omega]; exact h4 (u - 1) (by omega) (by omega)⟩, gw_take (by omega)]
      exact trR_gw hab hn n (u - 1) (by omega) (by omega) (by omega) (fun j p1 p2 => h4 j p1 (by omega))
theorem tr_gw {s : List UInt8} {f a b u : Nat} (hl : s.length ≤ 2000) (h1 : f ≤ a) (h2 : a ≤ b) (h3 : b ≤ u) (h4 : u ≤ s.length) (s1 : ∀ j, f ≤ j → j < a → by' s j = 32) (s2 : ∀ j, a ≤ j → j < b → by' s j ≠ 32) (s3 : ∀ j, b ≤ j → j < u → by' s j = 32) (s4 : a = b → a = u) : tr (gw s f u) = gw s a b := by
  unfold tr
  rw [trL_gw (a := a) (by omega) h4 (fun h => s2 a (Nat.le_refl _) (by omega)) 2000 f (by omega) h1 s1]
  exact trR_gw h2 (fun h => s2 (b - 1) (by omega) (by omega)) 2000 u (by omega) h3 h4 s3
theorem sh_gw {s : List UInt8} (h : ∀ j, j < s.length → by' s j ≠ 126) (f u : Nat) : sh (gw s f u) = gw s f u := by
  unfold sh
  rw [List.filter_eq_self]
  intro b hb
  obtain ⟨j, hj, e⟩ := List.getElem_of_mem (List.mem_of_mem_drop (List.mem_of_mem_take (show b ∈ (s.drop f).take (u - f) from hb)))
  have h := h j hj
  unfold by' at h
  rw [show s.getD j 0 = s[j] by rw [List.getD_eq_getElem?_getD, List.getElem?_eq_getElem hj]; rfl, e] at h
  rw [bne_iff_ne]
  intro q
  rw [q] at h
  exact h rfl
/-! the words, one by one -/
inductive Ch (s : List UInt8) : LD → Nat → Prop
  | nil : Ch s [] 0
  | add {L : LD} {e a b : Nat} : Ch s L e → e ≤ a → a < b → b ≤ s.length → (∀ j, e ≤ j → j < a → by' s j = 32) → (∀ j, a ≤ j → j < b → by' s j ≠ 32) → (b = s.length ∨ by' s b = 32) → Ch s (L ++ [[.s (gw s a b)]]) b
def St (s : List UInt8) (L : LD) (f m : Nat) : Prop := ∃ e a b, Ch s L e ∧ e ≤ f ∧ f ≤ a ∧ a ≤ b ∧ b ≤ m ∧ (∀ j, e ≤ j → j < a → by' s j = 32) ∧ (∀ j, a ≤ j → j < b → by' s j ≠ 32) ∧ (∀ j, b ≤ j → j < m → by' s j = 32) ∧ (a = b → a = m)
theorem Ch_cut {s : List UInt8} {L : LD} {f m : Nat} (hl : s.length ≤ 2000) (hN : ∀ j, j < s.length → by' s j ≠ 126) (h : St s L f m) (hm : m ≤ s.length) (hc : m = s.length ∨ (1 ≤ m ∧ by' s (m - 1) = 32)) : ∃ e, Ch s (L ++ opt (pt (seg s (f : Int) (m : Int)) false)) e ∧ e ≤ m ∧ ∀ j, e ≤ j → j < m → by' s j = 32 := by
  obtain ⟨e, a, b, h0, h1, h2, h3, h4, s1, s2, s3, s4⟩ := h
  have ep : pt (seg s (f : Int) (m : Int)) false = gw s a b := by
    unfold pt
    rw [if_neg (by decide), List.append_nil, seg_gw, sh_gw hN, tr_gw hl h2 h3 h4 hm (fun j p1 p2 => s1 j (by omega) p2) s2 s3 s4]
  rw [ep]
  by_cases q : a = b
  · have := s4 q
    rw [opt_nil (List.eq_nil_of_length_eq_zero (by rw [gw_len (by omega)]; omega)), List.append_nil]
    exact ⟨e, h0, by omega, fun j p1 p2 => s1 j p1 (by omega)⟩
  · rw [opt_one (fun w => by have := gw_len (s := s) (f := a) (u := b) (by omega); rw [w] at this; simp at this; omega)]
    refine ⟨b, Ch.add h0 (by omega) (by omega) (by omega) s1 s2 ?_, h4, s3⟩
    by_cases w : b < m
    · exact .inr (s3 b (Nat.le_refl _) w)
    · rcases hc with c | c
      · exact .inl (by omega)
      · exact absurd c.2 (s2 (m - 1) (by omega) (by omega))
theorem St_step {s : List UInt8} {L : LD} {f m : Nat} (h : St s L f m) (hp : ∀ a b, a < b → b < m → by' s a ≠ 32 → by' s (m - 1) = 32 → by' s m = 32) : St s L f (m + 1) := by
  obtain ⟨e, a, b, h0, h1, h2, h3, h4, s1, s2, s3, s4⟩ := h
  by_cases c : by' s m = 32
  · by_cases q : a = b
    · have := s4 q
      refine ⟨e, m + 1, m + 1, h0, h1, by omega, by omega, by omega, fun j p1 p2 => ?_, fun j p1 p2 => by omega, fun j p1 p2 => by omega, fun _ => rfl⟩
      by_cases w : j = m
      · rw [w]; exact c
      · exact s1 j p1 (by omega)
    · refine ⟨e, a, b, h0, h1, h2, h3, by omega, s1, s2, fun j p1 p2 => ?_, fun w => absurd w q⟩
      by_cases w : j = m
      · rw [w]; exact c
      · exact s3 j p1 (by omega)
  · by_cases q : a = b
    · have := s4 q
      refine ⟨e, m, m + 1, h0, h1, by omega, by omega, by omega, fun j p1 p2 => s1 j p1 (by omega), fun j p1 p2 => ?_, fun j p1 p2 => by omega, fun w => by omega⟩
      have : j = m := by omega
      rw [this]; exact c
    · have e1 : b = m := Decidable.byContradiction fun w => c (hp a b (by omega) (by omega) (s2 a (Nat.le_refl _) (by omega)) (s3 (m - 1) (by omega) (by omega)))
      refine ⟨e, a, m + 1, h0, h1, h2, by omega, by omega, s1, fun j p1 p2 => ?_, fun j p1 p2 => by omega, fun w => by omega⟩
      by_cases w : j = m
      · rw [w]; exact c
      · exact s2 j p1 (by omega)
theorem St_all {bf bh : Int} {kp : LD} {s : List UInt8} (hl : s.length ≤ 2000) (hb : 1 ≤ bh) (hN : ∀ j, j < s.length → by' s j ≠ 45 ∧ by' s j ≠ 126) : ∀ m : Nat, m ≤ s.length → St s (PTm bf bh kp s m) (frm bf bh kp s m).toNat m
  | 0, _ => ⟨0, 0, 0, Ch.nil, by omega, Nat.le_refl _, Nat.le_refl _, Nat.le_refl _, fun j p1 p2 => by omega, fun j p1 p2 => by omega, fun j p1 p2 => by omega, fun _ => rfl⟩
  | m + 1, hm => by
    have ih := St_all (bf := bf) (bh := bh) (kp := kp) hl hb hN m (by omega)
    by_cases h : 1 ≤ m ∧ PL bf bh kp s m
    · have hp := PL_by h.2 hb (by omega)
      have n1 := hN (m - 1) (by omega)
      have e32 : by' s (m - 1) = 32 := by rcases hp.1 with q | q | q; exact q; exact absurd q n1.1; exact absurd q n1.2
      obtain ⟨y1, y2⟩ := frm_yes h
      have yh : decide (HY s m) = false := decide_eq_false (fun q => n1.2 q)
      rw [y1, y2, yh]
      obtain ⟨f0, f1⟩ := frm_bd (bf := bf) (bh := bh) (kp := kp) (s := s) m
      obtain ⟨e, c1, c2, c3⟩ := Ch_cut hl (fun j hj => (hN j hj).2) ih (by omega) (.inr ⟨h.1, e32⟩)
      rw [Int.toNat_of_nonneg f0] at c1
      show St s _ (m : Int).toNat (m + 1)
      rw [Int.toNat_natCast]
      refine ⟨e, m, m + 1, c1, c2, Nat.le_refl _, by omega, Nat.le_refl _, c3, fun j p1 p2 => ?_, fun j p1 p2 => by omega, fun w => by omega⟩
      have : j = m := by omega
      rw [this]; exact hp.2
    · obtain ⟨y1, y2⟩ := frm_no h
      rw [y1, y2]
      refine St_step ih (fun a b q1 q2 q3 q4 => Decidable.byContradiction fun w => h ⟨by omega, (PL32 q4).2 ⟨⟨a, by omega, q3⟩, w⟩⟩)
theorem FT_ch {bf bh : Int} {kp : LD} {s : List UInt8} (hV : VB bf bh kp ∧ VA s) (hN : ∀ j, j < s.length → by' s j ≠ 45 ∧ by' s j ≠ 126) : ∃ e, Ch s (FT bf bh kp s) e ∧ e ≤ s.length ∧ ∀ j, e ≤ j → j < s.length → by' s j = 32 := by
  have h := St_all (bf := bf) (bh := bh) (kp := kp) hV.2.1 hV.1.2.1.1 hN s.length (Nat.le_refl _)
  obtain ⟨f0, f1⟩ := frm_bd (bf := bf) (bh := bh) (kp := kp) (s := s) s.length
  have c := Ch_cut hV.2.1 (fun j hj => (hN j hj).2) h (Nat.le_refl _) (.inl rfl)
  rw [Int.toNat_of_nonneg f0] at c
  unfold FT; rw [if_pos hV]
  exact c
theorem Ch_at {s : List UInt8} {L : LD} {e : Nat} (h : Ch s L e) : ∃ E : Nat → Nat, E 0 = 0 ∧ E L.length = e ∧ ∀ i, i < L.length → ∃ a, E i ≤ a ∧ a < E (i + 1) ∧ E (i + 1) ≤ s.length ∧ (∀ j, E i ≤ j → j < a → by' s j = 32) ∧ (∀ j, a ≤ j → j < E (i + 1) → by' s j ≠ 32) ∧ (E (i + 1) = s.length ∨ by' s (E (i + 1)) = 32) ∧ kS L i = gw s a (E (i + 1)) := by
  induction h with
  | nil => exact ⟨fun _ => 0, rfl, rfl, fun i hi => by simp at hi⟩
  | @add L e a b h0 h1 h2 h3 s1 s2 s3 ih =>
    obtain ⟨E, e0, e1, e2⟩ := ih
    have ln : (L ++ [[D.s (gw s a b)]]).length = L.length + 1 := by simp
    refine ⟨fun i => if i ≤ L.length then E i else b, ?_, ?_, fun i hi => ?_⟩
    · simp only []; rw [if_pos (by omega), e0]
    · simp only []; rw [ln, if_neg (by omega)]
    · rw [ln] at hi
      by_cases q : i = L.length
      · subst q
        simp only []
        rw [if_pos (Nat.le_refl _), if_neg (by omega), e1]
        refine ⟨a, h1, h2, h3, s1, s2, s3, ?_⟩
        have eg : (L ++ [[D.s (gw s a b)]]).getD L.length [] = [D.s (gw s a b)] := by
          rw [List.getD_eq_getElem?_getD, List.getElem?_append_right (Nat.le_refl _), Nat.sub_self]; rfl
        unfold kS
        rw [eg]; rfl
      · obtain ⟨a', p⟩ := e2 i (by omega)
        simp only []
        rw [if_pos (show i ≤ L.length by omega), if_pos (show i + 1 ≤ L.length by omega)]
        refine ⟨a', p.1, p.2.1, p.2.2.1, p.2.2.2.1, p.2.2.2.2.1, p.2.2.2.2.2.1, ?_⟩
        rw [← p.2.2.2.2.2.2]
        have eg : (L ++ [[D.s (gw s a b)]]).getD i [] = L.getD i [] := by
          rw [List.getD_eq_getElem?_getD, List.getElem?_append_left (by omega), ← List.getD_eq_getElem?_getD]
        unfold kS
        rw [eg]
/-! how many -/
theorem wk_gap {s : List UInt8} {e a : Nat} (h : e ≤ a) (hs : ∀ j, e ≤ j → j < a → by' s j = 32) : (wk s a).1 = (wk s e).1 ∧ (e < a → (wk s a).2 = false) := by
  obtain ⟨d, rfl⟩ : ∃ d, a = e + d := ⟨a - e, by omega⟩
  clear h
  induction d with
  | zero => exact ⟨rfl, fun h => by omega⟩
  | succ d ih =>
    have ih := ih (fun j p1 p2 => hs j p1 (by omega))
    have e1 : wk s (e + (d + 1)) = ((wk s (e + d)).1, false) := by
      show stw (wk s (e + d)) (by' s (e + d)) = _
      unfold stw; rw [if_pos (hs _ (by omega) (by omega))]
    rw [e1]; exact ⟨ih.1, fun _ => rfl⟩
theorem wk_word {s : List UInt8} {a b : Nat} (hl : b ≤ s.length) (hN : ∀ j, j < s.length → by' s j ≠ 126) (h : a < b) (hs : ∀ j, a ≤ j → j < b → by' s j ≠ 32) (h0 : (wk s a).2 = false) : (wk s b).1 = (wk s a).1 + 1 := by
  have : wk s b = ((wk s a).1 + 1, true) := by
    obtain ⟨d, rfl⟩ : ∃ d, b = a + 1 + d := ⟨b - a - 1, by omega⟩
    clear h
    induction d with
    | zero =>
      show stw (wk s a) (by' s a) = _
      unfold stw; rw [if_neg (hs a (Nat.le_refl _) (by omega)), if_pos ⟨hN a (by omega), h0⟩]
    | succ d ih =>
      have ih := ih (by omega) (fun j p1 p2 => hs j p1 (by omega))
      show stw (wk s (a + 1 + d)) (by' s (a + 1 + d)) = _
      rw [ih]
      unfold stw; rw [if_neg (hs _ (by omega) (by omega)), if_neg (fun w => by cases w.2)]
  rw [this]
theorem Ch_cnt {s : List UInt8} {L : LD} {e : Nat} (hN : ∀ j, j < s.length → by' s j ≠ 126) (h : Ch s L e) : (wk s e).1 = L.length ∧ (e = 0 ∨ e = s.length ∨ by' s e = 32) := by
  induction h with
  | nil => exact ⟨rfl, .inl rfl⟩
  | @add L e a b h0 h1 h2 h3 s1 s2 s3 ih =>
    refine ⟨?_, .inr s3⟩
    obtain ⟨g1, g2⟩ := wk_gap h1 s1
    have g3 : (wk s a).2 = false := by
      by_cases q : e < a
      · exact g2 q
      · have : e = a := by omega
        subst this
        rcases ih.2 with w | w | w
        · rw [w]; rfl
        · omega
        · exact absurd w (s2 e (Nat.le_refl _) h2)
    rw [wk_word h3 hN h2 s2 g3, g1, ih.1]
    simp
theorem FT_words {bf bh : Int} {kp : LD} {s : List UInt8} (hV : VB bf bh kp ∧ VA s) (hN : ∀ j, j < s.length → by' s j ≠ 45 ∧ by' s j ≠ 126) :
    (wk s s.length).1 = (FT bf bh kp s).length ∧ ∃ E : Nat → Nat, E 0 = 0 ∧ E (FT bf bh kp s).length ≤ s.length ∧ (∀ j, E (FT bf bh kp s).length ≤ j → j < s.length → by' s j = 32) ∧
    ∀ i, i < (FT bf bh kp s).length → ∃ a, E i ≤ a ∧ a < E (i + 1) ∧ E (i + 1) ≤ s.length ∧ (∀ j, E i ≤ j → j < a → by' s j = 32) ∧ (∀ j, a ≤ j → j < E (i + 1) → by' s j ≠ 32) ∧ (E (i + 1) = s.length ∨ by' s (E (i + 1)) = 32) ∧ kS (FT bf bh kp s) i = gw s a (E (i + 1)) := by
  obtain ⟨e, c1, c2, c3⟩ := FT_ch hV hN
  obtain ⟨E, e0, e1, e2⟩ := Ch_at c1
  refine ⟨?_, E, e0, by omega, fun j p1 p2 => c3 j (by omega) p2, e2⟩
  rw [(wk_gap c2 c3).1, (Ch_cnt (fun j hj => (hN j hj).2) c1).1]
theorem by_r (a b : List UInt8) (j : Nat) : by' (a ++ b) (a.length + j) = by' b j := by
  unfold by'
  rw [List.getD_eq_getElem?_getD, List.getD_eq_getElem?_getD, List.getElem?_append_right (by omega), Nat.add_sub_cancel_left]
/-! what stays -/
def dl (l : List UInt8) : List UInt8 := l.dropWhile fun b => b == 32
theorem toNat32 {b : UInt8} : ((b.toNat : Int) = 32) ↔ b = 32 :=
  ⟨fun h => UInt8.toNat_inj.1 (by have : b.toNat = 32 := by omega
                                  rw [this]; rfl), fun h => by rw [h]; rfl⟩
theorem trL_eq : ∀ (n : Nat) (l : List UInt8), l.length ≤ n → trL n l = dl l
  | 0, l, h => by
    have : l = [] := List.eq_nil_of_length_eq_zero (by omega)
    subst this; rfl
  | n + 1, [], _ => by simp only [trL]; rw [if_neg (fun h => by simp at h)]; rfl
  | n + 1, b :: t, h => by
    simp only [trL]
    have e : by' (b :: t) 0 = (b.toNat : Int) := rfl
    rw [e]
    by_cases q : b = 32
    · rw [if_pos ⟨by simp, toNat32.2 q⟩, List.drop_one, List.tail_cons, trL_eq n t (by simpa using h)]
      unfold dl
      rw [List.dropWhile_cons, if_pos (by rw [q]; rfl)]
    · rw [if_neg (fun h => q (toNat32.1 h.2))]
      unfold dl
      rw [List.dropWhile_cons, if_neg (by simpa using q)]
theorem trR_eq : ∀ (n : Nat) (l : List UInt8), l.length ≤ n → trR n l = (dl l.reverse).reverse
  | 0, l, h => by
    have : l = [] := List.eq_nil_of_length_eq_zero (by omega)
    subst this; rfl
  | n + 1, l, h => by
    simp only [trR]
    rcases List.eq_nil_or_concat l with rfl | ⟨t, b, rfl⟩
    · rw [if_neg (fun h => by simp at h)]; rfl
    · simp only [List.concat_eq_append] at h ⊢
      have hl : (t ++ [b]).length = t.length + 1 := by simp
      have e : by' (t ++ [b]) ((t ++ [b]).length - 1) = (b.toNat : Int) := by
        rw [hl, Nat.add_sub_cancel]
        exact by_r t [b] 0
      rw [e, List.reverse_append, List.reverse_singleton, List.singleton_append]
      by_cases q : b = 32
      · rw [if_pos ⟨by omega, toNat32.2 q⟩]
        have e2 : (t ++ [b]).take ((t ++ [b]).length - 1) = t := by
          rw [hl, Nat.add_sub_cancel, List.take_left]
        rw [e2, trR_eq n t (by omega)]
        unfold dl
        rw [List.dropWhile_cons, if_pos (by rw [q]; rfl)]
      · rw [if_neg (fun h => q (toNat32.1 h.2))]
        unfold dl
        rw [List.dropWhile_cons, if_neg (by simpa using q)]
        simp
theorem dl_len (l : List UInt8) : (dl l).length ≤ l.length := (List.dropWhile_sublist _).length_le
theorem tr_eq {s : List UInt8} (h : s.length ≤ 2000) : tr s = (dl (dl s).reverse).reverse := by
  unfold tr
  rw [trL_eq 2000 s h, trR_eq 2000 _ (Nat.le_trans (dl_len s) h)]
theorem dl_sp {x y : List UInt8} (h : ∀ b ∈ x, b = 32) : dl (x ++ y) = dl y := by
  induction x with
  | nil => rfl
  | cons b t ih =>
    unfold dl
    rw [List.cons_append, List.dropWhile_cons, if_pos (by rw [h b (by simp)]; rfl)]
    exact ih (fun c hc => h c (by simp [hc]))
theorem dl_no {y z : List UInt8} (hy : y ≠ []) (h : ∀ b ∈ y, b ≠ 32) : dl (y ++ z) = y ++ z := by
  cases y with
  | nil => exact absurd rfl hy
  | cons b t =>
    unfold dl
    rw [List.cons_append, List.dropWhile_cons, if_neg (by simpa using h b (by simp))]
theorem tr_mid {x y z : List UInt8} (hx : ∀ b ∈ x, b = 32) (hz : ∀ b ∈ z, b = 32) (hy : ∀ b ∈ y, b ≠ 32) (hl : (x ++ y ++ z).length ≤ 2000) : tr (x ++ y ++ z) = y := by
  rw [tr_eq hl, List.append_assoc, dl_sp hx]
  by_cases q : y = []
  · subst q
    have e : dl z = [] := by
      have := dl_sp (y := []) hz
      rw [List.append_nil] at this
      exact this
    rw [List.nil_append, e]; rfl
  · rw [dl_no q hy, List.reverse_append, dl_sp (fun b hb => hz b (List.mem_reverse.1 hb))]
    have e : dl y.reverse = y.reverse := by
      have := dl_no (y := y.reverse) (z := []) (by simpa using q) (fun b hb => hy b (List.mem_reverse.1 hb))
      rwa [List.append_nil] at this
    rw [e, List.reverse_reverse]
def so (l : List UInt8) : List UInt8 := l.filter fun b => b != 32 && b != 126
theorem so_app (x y : List UInt8) : so (x ++ y) = so x ++ so y := List.filter_append ..
theorem so_len (l : List UInt8) : (so l).length ≤ l.length := List.length_filter_le _ _
theorem gw_mem {s : List UInt8} {f u : Nat} {b : UInt8} (hu : u ≤ s.length) (h : b ∈ gw s f u) : ∃ j, f ≤ j ∧ j < u ∧ by' s j = (b.toNat : Int) := by
  obtain ⟨i, hi, e⟩ := List.getElem_of_mem h
  have hl : (gw s f u).length = u - f := gw_len hu
  refine ⟨f + i, by omega, by omega, ?_⟩
  rw [← gw_by (s := s) (f := f) (u := u) (i := i) (by omega), ← e]
  unfold by'
  rw [List.getD_eq_getElem?_getD, List.getElem?_eq_getElem hi]; rfl
theorem gw_cat {s : List UInt8} {f a u : Nat} (h1 : f ≤ a) (h2 : a ≤ u) : gw s f u = gw s f a ++ gw s a u := by
  unfold gw
  rw [show u - f = (a - f) + (u - a) by omega, List.take_add, List.drop_drop, show f + (a - f) = a by omega]
theorem u8_32 {b : UInt8} : ((b.toNat : Int) = 32) ↔ b = 32 := toNat32
theorem u8_126 {b : UInt8} : ((b.toNat : Int) = 126) ↔ b = 126 :=
  ⟨fun h => UInt8.toNat_inj.1 (by have : b.toNat = 126 := by omega
                                  rw [this]; rfl), fun h => by rw [h]; rfl⟩
def Sh (s : List UInt8) (f m : Nat) : Prop := ∃ a b, f ≤ a ∧ a ≤ b ∧ b ≤ m ∧ (∀ j, f ≤ j → j < a → by' s j = 32) ∧ (∀ j, a ≤ j → j < b → by' s j ≠ 32) ∧ (∀ j, b ≤ j → j < m → by' s j = 32) ∧ (a = b → a = m)
theorem tr_so {s : List UInt8} {f m : Nat} (hl : s.length ≤ 2000) (hm : m ≤ s.length) (h : Sh s f m) : tr (sh (gw s f m)) = so (gw s f m) := by
  obtain ⟨a, b, h2, h3, h4, s1, s2, s3, s4⟩ := h
  have p1 : ∀ c ∈ gw s f a, c = 32 := fun c hc => by
    obtain ⟨j, q1, q2, q3⟩ := gw_mem (by omega) hc
    exact u8_32.1 (by rw [← q3]; exact s1 j q1 q2)
  have p3 : ∀ c ∈ gw s b m, c = 32 := fun c hc => by
    obtain ⟨j, q1, q2, q3⟩ := gw_mem (by omega) hc
    exact u8_32.1 (by rw [← q3]; exact s3 j q1 q2)
  have p2 : ∀ c ∈ gw s a b, c ≠ 32 := fun c hc e => by
    obtain ⟨j, q1, q2, q3⟩ := gw_mem (by omega) hc
    exact s2 j q1 q2 (by rw [q3]; exact u8_32.2 e)
  have ex : ∀ {l : List UInt8}, (∀ c ∈ l, c = 32) → so l = [] := fun {l} hh => by
    unfold so
    rw [List.filter_eq_nil_iff]
    intro c hc
    rw [hh c hc]; decide
  have ey : so (gw s a b) = sh (gw s a b) := by
    unfold so sh
    refine List.filter_congr fun c hc => ?_
    rw [show (c != 32) = true from bne_iff_ne.2 (p2 c hc), Bool.true_and]
  have mem : ∀ {l : List UInt8} {c : UInt8}, c ∈ sh l → c ∈ l := fun hc => (List.mem_filter.1 hc).1
  have len : (sh (gw s f m)).length ≤ 2000 := Nat.le_trans (List.length_filter_le _ _) (by rw [gw_len hm]; omega)
  have e0 : sh (gw s f m) = sh (gw s f a) ++ sh (gw s a b) ++ sh (gw s b m) := by
    rw [gw_cat h2 (by omega), gw_cat (s := s) h3 h4]
    unfold sh
    rw [List.filter_append, List.filter_append, List.append_assoc]
  have e1 : so (gw s f m) = so (gw s a b) := by
    rw [gw_cat h2 (by omega), gw_cat (s := s) h3 h4, so_app, so_app, ex p1, ex p3, List.nil_append, List.append_nil]
  rw [e0] at len ⊢
  rw [tr_mid (fun c hc => p1 c (mem hc)) (fun c hc => p3 c (mem hc)) (fun c hc => p2 c (mem hc)) len, e1, ey]
theorem pt_so {s : List UInt8} {f m : Nat} (hy : Bool) (hl : s.length ≤ 2000) (hm : m ≤ s.length) (h : Sh s f m) : pt (seg s (f : Int) (m : Int)) hy = so (gw s f m) ++ (if hy then [45] else []) := by
  unfold pt
  rw [seg_gw, tr_so hl hm h]
theorem Sh_step {s : List UInt8} {f m : Nat} (h : Sh s f m) (hp : ∀ a b, a < b → b < m → by' s a ≠ 32 → by' s (m - 1) = 32 → by' s m = 32) : Sh s f (m + 1) := by
  obtain ⟨a, b, h2, h3, h4, s1, s2, s3, s4⟩ := h
  by_cases c : by' s m = 32
  · by_cases q : a = b
    · have := s4 q
      refine ⟨m + 1, m + 1, by omega, by omega, by omega, fun j p1 p2 => ?_, fun j p1 p2 => by omega, fun j p1 p2 => by omega, fun _ => rfl⟩
      by_cases w : j = m
      · rw [w]; exact c
      · exact s1 j p1 (by omega)
    · refine ⟨a, b, h2, h3, by omega, s1, s2, fun j p1 p2 => ?_, fun w => absurd w q⟩
      by_cases w : j = m
      · rw [w]; exact c
      · exact s3 j p1 (by omega)
  · by_cases q : a = b
    · have := s4 q
      refine ⟨m, m + 1, by omega, by omega, by omega, fun j p1 p2 => s1 j p1 (by omega), fun j p1 p2 => ?_, fun j p1 p2 => by omega, fun w => by omega⟩
      have : j = m := by omega
      rw [this]; exact c
    · have e1 : b = m := Decidable.byContradiction fun w => c (hp a b (by omega) (by omega) (s2 a (Nat.le_refl _) (by omega)) (s3 (m - 1) (by omega) (by omega)))
      refine ⟨a, m + 1, h2, by omega, by omega, s1, fun j p1 p2 => ?_, fun j p1 p2 => by omega, fun w => by omega⟩
      by_cases w : j = m
      · rw [w]; exact c
      · exact s2 j p1 (by omega)
theorem so_head {s : List UInt8} : ∀ (d j : Nat), s.length - j ≤ d → 1 ≤ FB s j → (so (s.drop j)).head? ≠ some 45
  | d, j, hd, h => by
    by_cases c : j < s.length
    · rw [FB_step s c] at h
      rw [drop_by c]
      unfold fo at h
      have eb : by' s j = ((s.getD j 0).toNat : Int) := rfl
      by_cases q : isL (by' s j)
      · have n1 : s.getD j 0 ≠ 32 := fun e => by rw [eb, e] at q; revert q; unfold isL; decide
        have n2 : s.getD j 0 ≠ 126 := fun e => by rw [eb, e] at q; revert q; unfold isL; decide
        have n3 : s.getD j 0 ≠ 45 := fun e => by rw [eb, e] at q; revert q; unfold isL; decide
        unfold so
        rw [List.filter_cons, if_pos (by rw [Bool.and_eq_true]; exact ⟨bne_iff_ne.2 n1, bne_iff_ne.2 n2⟩), List.head?_cons]
        exact fun e => n3 (Option.some.inj e)
      · rw [if_neg q] at h
        by_cases w : by' s j = 126
        · rw [if_pos w] at h
          have e : s.getD j 0 = 126 := u8_126.1 (by rw [← eb]; exact w)
          have : so (s.getD j 0 :: s.drop (j + 1)) = so (s.drop (j + 1)) := by unfold so; rw [List.filter_cons, if_neg (by rw [e]; decide)]
          rw [this]
          cases d with
          | zero => omega
          | succ d => exact so_head d (j + 1) (by omega) h
        · rw [if_neg w] at h; omega
    · rw [FB_end s (by omega)] at h; omega
/-- the parts, one by one, with what of the solid bytes they took and how many hyphens were put -/
inductive Kh (s : List UInt8) : LD → Nat → Nat → Prop
  | nil : Kh s [] 0 0
  | add {L : LD} {A U : Nat} {q r : List UInt8} {hy : Bool} : Kh s L A U → (q ≠ [] ∨ hy = true) → (so s).drop A = q ++ r → (hy = true → r.head? ≠ some 45) → Kh s (L ++ [[.s (q ++ (if hy then [45] else []))]]) (A + q.length) (U + (if hy then 1 else 0))
def hc (L : LD) : Nat → Nat
  | 0 => 0
  | i + 1 => hc L i + (if cB (L.getD i []) 1 = true then 1 else 0)
theorem hc_app {L : LD} {r : List D} : ∀ i, i ≤ L.length → hc (L ++ [r]) i = hc L i
  | 0, _ => rfl
  | i + 1, h => by
    simp only [hc]
    rw [hc_app i (by omega), List.getD_eq_getElem?_getD, List.getElem?_append_left (by omega), ← List.getD_eq_getElem?_getD]
theorem hc_le (L : LD) : ∀ i, hc L i ≤ i
  | 0 => Nat.le_refl _
  | i + 1 => by
    have := hc_le L i
    simp only [hc]; split <;> omega
def HM (bf bh : Int) (kp : LD) (s : List UInt8) (m : Nat) : Nat := hc (lst bf bh kp s m) (lst bf bh kp s m).length
theorem HM_no {bf bh : Int} {kp : LD} {s : List UInt8} {m : Nat} (h : ¬ (1 ≤ m ∧ PL bf bh kp s m)) : HM bf bh kp s (m + 1) = HM bf bh kp s m := by
  have e : lst bf bh kp s (m + 1) = lst bf bh kp s m := by simp only [lst]; rw [if_neg h, List.append_nil]
  unfold HM; rw [e]
theorem HM_yes {bf bh : Int} {kp : LD} {s : List UInt8} {m : Nat} (h : 1 ≤ m ∧ PL bf bh kp s m) : HM bf bh kp s (m + 1) = HM bf bh kp s m + (if decide (HY s m) = true then 1 else 0) := by
  have e : lst bf bh kp s (m + 1) = lst bf bh kp s m ++ [row s m] := by simp only [lst]; rw [if_pos h]; rfl
  have eg : (lst bf bh kp s m ++ [row s m]).getD (lst bf bh kp s m).length [] = row s m := by
    rw [List.getD_eq_getElem?_getD, List.getElem?_append_right (Nat.le_refl _), Nat.sub_self]; rfl
  unfold HM
  rw [e, show (lst bf bh kp s m ++ [row s m]).length = (lst bf bh kp s m).length + 1 by simp]
  simp only [hc]
  rw [eg, hc_app _ (Nat.le_refl _)]
  rfl
theorem Kh_cut {s : List UInt8} {L : LD} {f m U : Nat} {hy : Bool} (hl : s.length ≤ 2000) (hm : m ≤ s.length) (hf : f ≤ m) (h : Sh s f m) (hk : Kh s L (so (gw s 0 f)).length U) (hh : hy = true → (so (s.drop m)).head? ≠ some 45) : Kh s (L ++ opt (pt (seg s (f : Int) (m : Int)) hy)) (so (gw s 0 m)).length (U + (if hy = true then 1 else 0)) := by
  rw [pt_so hy hl hm h]
  have e0 : so (gw s 0 m) = so (gw s 0 f) ++ so (gw s f m) := by rw [gw_cat (Nat.zero_le f) hf, so_app]
  have e1 : (so s).drop (so (gw s 0 f)).length = so (gw s f m) ++ so (s.drop m) := by
    have : s = gw s 0 f ++ (gw s f m ++ s.drop m) := by
      rw [← List.append_assoc, ← gw_cat (Nat.zero_le f) hf]
      unfold gw
      rw [List.drop_zero, Nat.sub_zero, List.take_append_drop]
    have e2 : so s = so (gw s 0 f) ++ (so (gw s f m) ++ so (s.drop m)) := by
      rw [← so_app, ← so_app, ← this]
    rw [e2, List.drop_left]
  by_cases c : so (gw s f m) = [] ∧ hy = false
  · rw [c.1, c.2]
    rw [opt_nil (show (([] : List UInt8) ++ if false = true then [45] else []) = [] from rfl), List.append_nil, e0, c.1, List.append_nil]
    exact hk
  · have ne : so (gw s f m) ≠ [] ∨ hy = true := by
      by_cases q : so (gw s f m) = []
      · right
        cases hy with
        | true => rfl
        | false => exact absurd ⟨q, rfl⟩ c
      · exact .inl q
    rw [opt_one (fun w => by
      rcases ne with q | q
      · exact q (List.append_eq_nil_iff.1 w).1
      · rw [if_pos q] at w
        exact absurd (List.append_eq_nil_iff.1 w).2 (by decide)), e0, List.length_append]
    exact Kh.add hk ne e1 hh
theorem K_all {bf bh : Int} {kp : LD} {s : List UInt8} (hl : s.length ≤ 2000) (hb : 1 ≤ bh) : ∀ m : Nat, m ≤ s.length → Sh s (frm bf bh kp s m).toNat m ∧ Kh s (PTm bf bh kp s m) (so (gw s 0 (frm bf bh kp s m).toNat)).length (HM bf bh kp s m)
  | 0, _ => ⟨⟨0, 0, Nat.le_refl _, Nat.le_refl _, Nat.le_refl _, fun j p1 p2 => by omega, fun j p1 p2 => by omega, fun j p1 p2 => by omega, fun _ => rfl⟩, Kh.nil⟩
  | m + 1, hm => by
    have ih := K_all (bf := bf) (bh := bh) (kp := kp) hl hb m (by omega)
    by_cases h : 1 ≤ m ∧ PL bf bh kp s m
    · have hp := PL_by h.2 hb (by omega)
      obtain ⟨y1, y2⟩ := frm_yes h
      obtain ⟨f0, f1⟩ := frm_bd (bf := bf) (bh := bh) (kp := kp) (s := s) m
      have c := Kh_cut (hy := decide (HY s m)) hl (by omega) (by omega) ih.1 ih.2 (fun q => so_head _ m (Nat.le_refl _) (by
        have q := of_decide_eq_true q
        have := ((PL126 (bf := bf) (bh := bh) (kp := kp) q).1 h.2).2.2.2.1
        omega))
      rw [Int.toNat_of_nonneg f0] at c
      rw [y1, y2, HM_yes h, Int.toNat_natCast]
      refine ⟨⟨m, m + 1, Nat.le_refl _, by omega, Nat.le_refl _, fun j p1 p2 => by omega, fun j p1 p2 => ?_, fun j p1 p2 => by omega, fun w => by omega⟩, c⟩
      have : j = m := by omega
      rw [this]; exact hp.2
    · obtain ⟨y1, y2⟩ := frm_no h
      rw [y1, y2, HM_no h]
      exact ⟨Sh_step ih.1 (fun a b q1 q2 q3 q4 => Decidable.byContradiction fun w => h ⟨by omega, (PL32 q4).2 ⟨⟨a, by omega, q3⟩, w⟩⟩), ih.2⟩
theorem FT_kh {bf bh : Int} {kp : LD} {s : List UInt8} (hV : VB bf bh kp ∧ VA s) : Kh s (FT bf bh kp s) (so s).length (hc (LS bf bh kp s) (LS bf bh kp s).length) := by
  have h := K_all (bf := bf) (bh := bh) (kp := kp) hV.2.1 hV.1.2.1.1 s.length (Nat.le_refl _)
  obtain ⟨f0, f1⟩ := frm_bd (bf := bf) (bh := bh) (kp := kp) (s := s) s.length
  have c := Kh_cut (hy := false) hV.2.1 (Nat.le_refl _) (by omega) h.1 h.2 (fun q => by cases q)
  rw [Int.toNat_of_nonneg f0, if_neg (by decide), Nat.add_zero] at c
  have e : gw s 0 s.length = s := by unfold gw; simp
  rw [e] at c
  unfold FT LS
  rw [if_pos hV, if_pos hV]
  exact c
theorem Kh_at {s : List UInt8} {L : LD} {A U : Nat} (h : Kh s L A U) : ∃ AT PU : Nat → Nat, AT 0 = 0 ∧ PU 0 = 0 ∧ AT L.length = A ∧ PU L.length = U ∧ ∀ i, i < L.length → ∃ (q r : List UInt8) (hy : Bool), kS L i = q ++ (if hy then [45] else []) ∧ (q ≠ [] ∨ hy = true) ∧ AT (i + 1) = AT i + q.length ∧ PU (i + 1) = PU i + (if hy then 1 else 0) ∧ (so s).drop (AT i) = q ++ r ∧ (hy = true → r.head? ≠ some 45) := by
  induction h with
  | nil => exact ⟨fun _ => 0, fun _ => 0, rfl, rfl, rfl, rfl, fun i hi => by simp at hi⟩
  | @add L A U q r hy h0 h1 h2 h3 ih =>
    obtain ⟨E, F, e0, f0, e1, f1, e2⟩ := ih
    have ln : (L ++ [[D.s (q ++ (if hy then [45] else []))]]).length = L.length + 1 := by simp
    refine ⟨fun i => if i ≤ L.length then E i else A + q.length, fun i => if i ≤ L.length then F i else U + (if hy then 1 else 0), ?_, ?_, ?_, ?_, fun i hi => ?_⟩
    · simp only []; rw [if_pos (by omega), e0]
    · simp only []; rw [if_pos (by omega), f0]
    · simp only []; rw [ln, if_neg (by omega)]
    · simp only []; rw [ln, if_neg (by omega)]
    · rw [ln] at hi
      by_cases c : i = L.length
      · subst c
        simp only []
        simp only [if_pos (Nat.le_refl L.length), if_neg (show ¬ L.length + 1 ≤ L.length by omega), e1, f1]
        refine ⟨q, r, hy, ?_, h1, rfl, rfl, h2, h3⟩
        have eg : (L ++ [[D.s (q ++ (if hy then [45] else []))]]).getD L.length [] = [D.s (q ++ (if hy then [45] else []))] := by
          rw [List.getD_eq_getElem?_getD, List.getElem?_append_right (Nat.le_refl _), Nat.sub_self]; rfl
        unfold kS
        rw [eg]; rfl
      · obtain ⟨q', r', hy', p⟩ := e2 i (by omega)
        simp only []
        rw [if_pos (show i ≤ L.length by omega), if_pos (show i + 1 ≤ L.length by omega), if_pos (show i ≤ L.length by omega), if_pos (show i + 1 ≤ L.length by omega)]
        refine ⟨q', r', hy', ?_, p.2⟩
        rw [← p.1]
        have eg : (L ++ [[D.s (q ++ (if hy then [45] else []))]]).getD i [] = L.getD i [] := by
          rw [List.getD_eq_getElem?_getD, List.getElem?_append_left (by omega), ← List.getD_eq_getElem?_getD]
        unfold kS
        rw [eg]
/-- the same, in numbers -/
theorem Kh_rows {s : List UInt8} {L : LD} {A U : Nat} (h : Kh s L A U) : ∃ AT PU N : Nat → Nat, AT 0 = 0 ∧ PU 0 = 0 ∧ AT L.length = A ∧ PU L.length = U ∧ ∀ i, i ≤ L.length → AT i ≤ (so s).length ∧ PU i ≤ i ∧ (i < L.length →
    (kS L i).length ≠ 0 ∧ N i ≤ (kS L i).length ∧ (kS L i).length ≤ N i + 1 ∧ AT (i + 1) = AT i + N i ∧ PU (i + 1) = PU i + ((kS L i).length - N i) ∧
    (∀ k, k < N i → AT i + k < (so s).length ∧ by' (so s) (AT i + k) = by' (kS L i) k) ∧
    (N i < (kS L i).length → by' (kS L i) (N i) = 45 ∧ (AT i + N i < (so s).length → by' (so s) (AT i + N i) ≠ 45))) := by
  obtain ⟨E, F, e0, f0, e1, f1, e2⟩ := Kh_at h
  have hx : ∀ i, ∃ n : Nat, i < L.length → ∃ (q r : List UInt8) (hy : Bool), n = q.length ∧ kS L i = q ++ (if hy then [45] else []) ∧ (q ≠ [] ∨ hy = true) ∧ E (i + 1) = E i + q.length ∧ F (i + 1) = F i + (if hy then 1 else 0) ∧ (so s).drop (E i) = q ++ r ∧ (hy = true → r.head? ≠ some 45) := fun i => by
    by_cases c : i < L.length
    · obtain ⟨q, r, hy, p⟩ := e2 i c
      exact ⟨q.length, fun _ => ⟨q, r, hy, rfl, p⟩⟩
    · exact ⟨0, fun w => absurd w c⟩
  refine ⟨E, F, fun i => (hx i).choose, e0, f0, e1, f1, ?_⟩
  have main : ∀ i, i < L.length → ∃ (q r : List UInt8) (hy : Bool), (hx i).choose = q.length ∧ kS L i = q ++ (if hy then [45] else []) ∧ (q ≠ [] ∨ hy = true) ∧ E (i + 1) = E i + q.length ∧ F (i + 1) = F i + (if hy then 1 else 0) ∧ (so s).drop (E i) = q ++ r ∧ (hy = true → r.head? ≠ some 45) := fun i hi => (hx i).choose_spec hi
  have bd : ∀ i, i ≤ L.length → E i ≤ (so s).length ∧ F i ≤ i := fun i => by
    induction i with
    | zero => intro _; rw [e0, f0]; omega
    | succ i ih =>
      intro hi
      obtain ⟨b1, b2⟩ := ih (by omega)
      obtain ⟨q, r, hy, p0, p1, p2, p3, p4, p5, p6⟩ := main i (by omega)
      have := congrArg List.length p5
      rw [List.length_drop, List.length_append] at this
      rw [p3, p4]
      refine ⟨by omega, ?_⟩
      split <;> omega
  intro i hi
  refine ⟨(bd i hi).1, (bd i hi).2, fun hi2 => ?_⟩
  obtain ⟨q, r, hy, p0, p1, p2, p3, p4, p5, p6⟩ := main i hi2
  have b1 := (bd i hi).1
  have hL := congrArg List.length p5
  rw [List.length_drop, List.length_append] at hL
  have at_ : ∀ k, by' (so s) (E i + k) = by' (q ++ r) k := fun k => by
    rw [← p5]; unfold by'
    rw [List.getD_eq_getElem?_getD, List.getD_eq_getElem?_getD, List.getElem?_drop]
  simp only []
  rw [p0, p1, p3, p4]
  refine ⟨?_, by simp, ?_, rfl, ?_, fun k hk => ⟨by omega, ?_⟩, fun hn => ?_⟩
  · rcases p2 with w | w
    · rw [List.length_append]
      have : q.length ≠ 0 := fun e => w (List.length_eq_zero_iff.1 e)
      omega
    · rw [if_pos w]; simp
  · rw [List.length_append]; split <;> simp
  · rw [List.length_append]; split <;> simp
  · rw [at_ k]; unfold by'
    rw [List.getD_eq_getElem?_getD, List.getD_eq_getElem?_getD, List.getElem?_append_left hk, List.getElem?_append_left hk]
  · have hy1 : hy = true := by
      cases hy with
      | true => rfl
      | false => simp at hn
    subst hy1
    refine ⟨?_, fun hk => ?_⟩
    · unfold by'
      rw [List.getD_eq_getElem?_getD, List.getElem?_append_right (Nat.le_refl _), Nat.sub_self]; rfl
    · rw [at_ q.length]
      intro w
      cases r with
      | nil => simp at hL; omega
      | cons b t =>
        refine p6 rfl ?_
        unfold by' at w
        rw [List.getD_eq_getElem?_getD, List.getElem?_append_right (Nat.le_refl _), Nat.sub_self] at w
        have w : (b.toNat : Int) = 45 := w
        rw [List.head?_cons]
        congr 1
        exact UInt8.toNat_inj.1 (by have : b.toNat = 45 := by omega
                                    rw [this]; rfl)
set_option maxRecDepth 100000
theorem FT_len (bf bh : Int) (kp : LD) (s : List UInt8) : (FT bf bh kp s).length ≤ 2001 := by
  unfold FT
  split
  · rename_i h
    have := PTm_len (bf := bf) (bh := bh) (kp := kp) (s := s) s.length
    have := opt_len (pt (seg s (frm bf bh kp s s.length) s.length) false)
    have := h.2.1
    rw [List.length_append]; omega
  · simp
theorem LS_len (bf bh : Int) (kp : LD) (s : List UInt8) : (LS bf bh kp s).length ≤ 2000 := by
  unfold LS
  split
  · rename_i h
    have := lst_len bf bh kp s s.length
    have := h.2.1
    omega
  · simp
theorem nums_get (l : List UInt8) (j : Nat) : (nums l).getD j 0 = by' l j := by
  unfold nums by'
  rw [List.getD_eq_getElem?_getD, List.getD_eq_getElem?_getD, List.getElem?_map]
  cases l[j]? <;> rfl
theorem so_take {s : List UInt8} {i : Nat} (h : i < s.length) : so (s.take (i + 1)) = so (s.take i) ++ (if by' s i ≠ 32 ∧ by' s i ≠ 126 then [s.getD i 0] else []) := by
  have e : s[i] = s.getD i 0 := by rw [List.getD_eq_getElem?_getD, List.getElem?_eq_getElem h]; rfl
  rw [List.take_succ_eq_append_getElem h, so_app, e]
  congr 1
  have eb : by' s i = ((s.getD i 0).toNat : Int) := rfl
  unfold so
  rw [List.filter_cons, List.filter_nil, eb]
  by_cases c : s.getD i 0 ≠ 32 ∧ s.getD i 0 ≠ 126
  · rw [if_pos (by rw [Bool.and_eq_true]; exact ⟨bne_iff_ne.2 c.1, bne_iff_ne.2 c.2⟩), if_pos ⟨fun w => c.1 (u8_32.1 w), fun w => c.2 (u8_126.1 w)⟩]
  · rw [if_neg (by rw [Bool.and_eq_true]; exact fun w => c ⟨bne_iff_ne.1 w.1, bne_iff_ne.1 w.2⟩), if_neg (fun w => c ⟨fun q => w.1 (u8_32.2 q), fun q => w.2 (u8_126.2 q)⟩)]
set_option maxHeartbeats 4000000 in
theorem law5 (bf bh : Int) (kp : LD) (s : List UInt8) (hl : s.length ≤ 9223372036854775807) : SemF Try.prog 5 [.agg [.int .i64 bf, .int .i64 bh, .slc 0 1 0 kp.length], .str s] ⟨1, 1, [(0, .arr [.str] .ro (.recs kp))]⟩ (fun v _ => IsTrue v) := by
  refine enter tt_ok Try.func5 (nt := 141) (cd := body Try.f5) rfl rfl rfl rfl ?_
  intro _
  refine head_ok rfl Try.func9 (cd := body Try.f9) rfl ?_
  intro _
  refine call_pure [(0, some 0)] (usable_ok bf bh kp s hl) rfl rfl rfl ?_ ?_ ?_
  · (repeat' first | exact trivial | exact rfl | refine And.intro ?_ ?_)
  · (repeat' first | exact trivial | exact rfl | refine And.intro ?_ ?_)
  intro v hv _
  subst hv
  intro _; refine ⟨fun g => ?_, fun g => ?_⟩
  · intro _
    rfl
  have g : (!decide (US bf bh kp s)) = false := g
  rw [Bool.not_eq_false'] at g
  obtain ⟨hs3, hVB, hVA⟩ := of_decide_eq_true g
  have hFl := FT_len bf bh kp s
  have hLl := LS_len bf bh kp s
  have hKh := FT_kh (bf := bf) (bh := bh) (kp := kp) ⟨hVB, hVA⟩
  have cL := List_ok bf bh kp s hl
  have cF := Least_ok bf bh kp s hl
  have yE : LE bf bh kp s = 0 := by unfold brk.LE; rw [if_pos ⟨hVB, hVA⟩]
  unfold LQ at cL
  unfold TQ8 at cF
  rw [yE] at cL cF
  clear yE
  generalize FT bf bh kp s = P at cF hFl hKh
  generalize LS bf bh kp s = L at cL hLl hKh
  have hc0 := hc_le L
  obtain ⟨AT, PU, N, hA0, hP0, hAn, hPn, hrow⟩ := Kh_rows hKh
  clear hKh
  obtain ⟨Q, hQ⟩ : ∃ Q : Nat → List UInt8, Q = fun i => so (s.take i) := ⟨_, rfl⟩
  have hQ0 : Q 0 = [] := by rw [hQ]; rfl
  have hQn : Q s.length = so s := by rw [hQ]; simp only []; rw [List.take_length]
  have hQs : ∀ i, i < s.length → Q (i + 1) = Q i ++ (if by' s i ≠ 32 ∧ by' s i ≠ 126 then [s.getD i 0] else []) := fun i hi => by rw [hQ]; exact so_take hi
  have hQl : ∀ i, i ≤ s.length → (Q i).length ≤ i := fun i hi => by rw [hQ]; exact Nat.le_trans (so_len _) (by simp; omega)
  clear hQ
  intro _
  refine loop2 tt_ok [7, 6] [2] 3 (fun i : { i : Nat // i ≤ s.length } => [(7, .int .i64 (i.1 : Nat)), (6, .grw 2 (Q i.1).length)]) (fun i => [(2, .arr [.int .u8] .grow (.ints (nums (Q i.1))))]) (fun i => s.length - i.1) ⟨0, by omega⟩ ?_
  intro _
  refine ⟨⟨th [(2, none)] 3, rfl, rfl, rfl, rfl, rfl, rfl, ?_, ?_⟩, ?_⟩
  · (repeat' first | exact trivial | exact rfl | refine And.intro ?_ ?_)
    rw [hQ0]; rfl
  · (repeat' first | exact trivial | exact rfl | refine And.intro ?_ ?_)
    rw [hQ0]; rfl
  intro ⟨i, h1⟩
  intro _; refine ⟨fun g => ?_, fun g => ?_⟩
  · have g := of_decide_eq_true (show decide ((i : Int) < (s.length : Int)) = true from g)
    have hi : i < s.length := by omega
    have hq := hQs i hi
    have hq2 := hQl i h1
    intro _; refine ⟨show 0 ≤ (i : Int) ∧ (i : Int) < (s.length : Int) by omega, ?_⟩
    intro _; refine ⟨fun g => ?_, fun g => ?_⟩
    · have g1 := bne_iff_ne.1 (show (by' s (i : Int).toNat != 32) = true from g)
      rw [Int.toNat_natCast] at g1
      intro _; refine ⟨show 0 ≤ (i : Int) ∧ (i : Int) < (s.length : Int) by omega, ?_⟩
      intro _; refine ⟨fun g => ?_, fun g => ?_⟩
      · have g2 := bne_iff_ne.1 (show (by' s (i : Int).toNat != 126) = true from g)
        rw [Int.toNat_natCast] at g2
        rw [if_pos ⟨g1, g2⟩] at hq
        intro _; refine ⟨show 0 ≤ (i : Int) ∧ (i : Int) < (s.length : Int) by omega, ?_⟩
        intro _; refine ⟨rfl, ?_⟩
        intro _; refine ⟨fun g3 => by simp at g3, fun _ => ?_⟩
        refine ⟨⟨(nums_len _).symm, show (Q i).length + 1 ≤ 4611686018427387904 by omega, show ((Q i).length + 1) * 1 ≤ 140737488355328 by omega⟩, ?_⟩
        refine ⟨⟨i + 1, by omega⟩, by simp only []; omega, th [(2, some 4)] 3, rfl, rfl, rfl, rfl, rfl, rfl, ?_, ?_⟩
        · (repeat' first | exact trivial | exact rfl | refine And.intro ?_ ?_)
          · exact (wrap_nat i (by omega)).symm
          · rw [hq, List.length_append]; (repeat' first | exact trivial | exact rfl | refine And.intro ?_ ?_)
        · (repeat' first | exact trivial | exact rfl | refine And.intro ?_ ?_)
          show nums (Q (i + 1)) = nums (Q i) ++ [by' s (i : Int).toNat]
          rw [hq, nums_app, Int.toNat_natCast]; rfl
      have g2 : by' s i = 126 := by
        have := show (by' s (i : Int).toNat != 126) = false from g
        rw [Int.toNat_natCast] at this
        exact bne_eq_false_iff_eq.1 this
      rw [if_neg (fun w => w.2 g2), List.append_nil] at hq
      refine ⟨⟨i + 1, by omega⟩, by simp only []; omega, th [] 3, rfl, rfl, rfl, rfl, rfl, rfl, ?_, ?_⟩
      · (repeat' first | exact trivial | exact rfl | refine And.intro ?_ ?_)
        · exact (wrap_nat i (by omega)).symm
        · rw [hq]; (repeat' first | exact trivial | exact rfl | refine And.intro ?_ ?_)
      · (repeat' first | exact trivial | exact rfl | refine And.intro ?_ ?_)
        rw [hq]; (repeat' first | exact trivial | exact rfl | refine And.intro ?_ ?_)
    have g1 : by' s i = 32 := by
      have := show (by' s (i : Int).toNat != 32) = false from g
      rw [Int.toNat_natCast] at this
      exact bne_eq_false_iff_eq.1 this
    rw [if_neg (fun w => w.1 g1), List.append_nil] at hq
    refine ⟨⟨i + 1, by omega⟩, by simp only []; omega, th [] 3, rfl, rfl, rfl, rfl, rfl, rfl, ?_, ?_⟩
    · (repeat' first | exact trivial | exact rfl | refine And.intro ?_ ?_)
      · exact (wrap_nat i (by omega)).symm
      · rw [hq]; (repeat' first | exact trivial | exact rfl | refine And.intro ?_ ?_)
    · (repeat' first | exact trivial | exact rfl | refine And.intro ?_ ?_)
      rw [hq]; (repeat' first | exact trivial | exact rfl | refine And.intro ?_ ?_)
  have g := of_decide_eq_false (show decide ((i : Int) < (s.length : Int)) = false from g)
  have hie : i = s.length := by omega
  subst hie
  rw [← hQn] at hAn hrow
  have hql := hQl s.length (Nat.le_refl _)
  intro _
  refine call_new [(0, some 0)] (cL) rfl rfl rfl rfl ?_ ?_ ?_
  · (repeat' first | exact trivial | exact rfl | refine And.intro ?_ ?_)
  · (repeat' first | exact trivial | exact rfl | refine And.intro ?_ ?_)
  intro v h' hv
  obtain ⟨rfl, rfl⟩ := hv
  refine ⟨[(3, some 1)], 4, [(3, .arr [.int .i64, .bool] .grow (.recs L))], .tup [.grw 3 L.length, .int .i64 0], rfl, rfl, rfl, rfl, rfl, ?_, ?_, ?_⟩
  · (repeat' first | exact trivial | exact rfl | refine And.intro ?_ ?_)
  · (repeat' first | exact trivial | exact rfl | refine And.intro ?_ ?_)
  intro _
  refine call_new [(0, some 0)] (cF) rfl rfl rfl rfl ?_ ?_ ?_
  · (repeat' first | exact trivial | exact rfl | refine And.intro ?_ ?_)
  · (repeat' first | exact trivial | exact rfl | refine And.intro ?_ ?_)
  intro v h' hv
  obtain ⟨rfl, rfl⟩ := hv
  refine ⟨[(4, some 1)], 5, [(4, .arr [.str] .grow (.recs P))], .tup [.grw 4 P.length, .int .i64 0], rfl, rfl, rfl, rfl, rfl, ?_, ?_, ?_⟩
  · (repeat' first | exact trivial | exact rfl | refine And.intro ?_ ?_)
  · (repeat' first | exact trivial | exact rfl | refine And.intro ?_ ?_)
  intro _
  refine loop2 tt_ok [15, 14] [] 5 (fun i : { i : Nat // i ≤ L.length } => [(15, .int .i64 (i.1 : Nat)), (14, .int .i64 (hc L i.1 : Nat))]) (fun _ => []) (fun i => L.length - i.1) ⟨0, by omega⟩ ?_
  intro _
  refine ⟨⟨th [] 5, rfl, rfl, rfl, rfl, rfl, rfl, ?_, ?_⟩, ?_⟩
  · (repeat' first | exact trivial | exact rfl | refine And.intro ?_ ?_)
  · (repeat' first | exact trivial | exact rfl | refine And.intro ?_ ?_)
  intro ⟨i, hi⟩
  intro _; refine ⟨fun g => ?_, fun g => ?_⟩
  · have g := of_decide_eq_true (show decide ((i : Int) < (L.length : Int)) = true from g)
    have hil : i < L.length := by omega
    have hci := hc0 i
    intro _; refine ⟨show 0 ≤ (i : Int) ∧ (i : Int) < (L.length : Int) by omega, ?_⟩
    intro _; refine ⟨show (i : Int).toNat < L.length by omega, ?_⟩
    intro _; refine ⟨fun g => ?_, fun g => ?_⟩
    · have g1 : cB (L.getD (i : Int).toNat []) 1 = true := g
      rw [Int.toNat_natCast] at g1
      have hh : hc L (i + 1) = hc L i + 1 := by simp only [hc]; rw [if_pos g1]
      refine ⟨⟨i + 1, by omega⟩, by simp only []; omega, th [] 5, rfl, rfl, rfl, rfl, rfl, rfl, ?_, ?_⟩
      · (repeat' first | exact trivial | exact rfl | refine And.intro ?_ ?_)
        · exact (wrap_nat i (by omega)).symm
        · exact (show ((hc L (i + 1) : Nat) : Int) = IntKind.i64.wrap ((hc L i : Int) + 1) by rw [hh]; exact (wrap_nat _ (by omega)).symm)
      · (repeat' first | exact trivial | exact rfl | refine And.intro ?_ ?_)
    have g1 : cB (L.getD (i : Int).toNat []) 1 = false := g
    rw [Int.toNat_natCast] at g1
    have hh : hc L (i + 1) = hc L i := by simp only [hc]; rw [if_neg (by rw [g1]; decide)]; rfl
    refine ⟨⟨i + 1, by omega⟩, by simp only []; omega, th [] 5, rfl, rfl, rfl, rfl, rfl, rfl, ?_, ?_⟩
    · (repeat' first | exact trivial | exact rfl | refine And.intro ?_ ?_)
      · exact (wrap_nat i (by omega)).symm
      · exact (show ((hc L (i + 1) : Nat) : Int) = (hc L i : Int) by rw [hh])
    · (repeat' first | exact trivial | exact rfl | refine And.intro ?_ ?_)
  have g := of_decide_eq_false (show decide ((i : Int) < (L.length : Int)) = false from g)
  have hie : i = L.length := by omega
  subst hie
  intro _
  refine loop2 tt_ok [16, 12, 13] [] 5 (fun i : { i : Nat // i ≤ P.length } => [(16, .int .i64 (i.1 : Nat)), (12, .int .i64 (AT i.1 : Nat)), (13, .int .i64 (PU i.1 : Nat))]) (fun _ => []) (fun i => P.length - i.1) ⟨0, by omega⟩ ?_
  intro _
  refine ⟨⟨th [] 5, rfl, rfl, rfl, rfl, rfl, rfl, ?_, ?_⟩, ?_⟩
  · (repeat' first | exact trivial | exact rfl | refine And.intro ?_ ?_)
    · exact (show ((AT 0 : Nat) : Int) = 0 by rw [hA0]; rfl)
    · exact (show ((PU 0 : Nat) : Int) = 0 by rw [hP0]; rfl)
  · (repeat' first | exact trivial | exact rfl | refine And.intro ?_ ?_)
  intro ⟨i, hi⟩
  obtain ⟨ra, rp, rr⟩ := hrow i hi
  intro _; refine ⟨fun g => ?_, fun g => ?_⟩
  · have g := of_decide_eq_true (show decide ((i : Int) < (P.length : Int)) = true from g)
    have hil : i < P.length := by omega
    obtain ⟨r1, r2, r3, r4, r5, r6, r7⟩ := rr hil
    have ei : (i : Int).toNat = i := Int.toNat_natCast i
    intro _; refine ⟨show 0 ≤ (i : Int) ∧ (i : Int) < (P.length : Int) by omega, ?_⟩
    intro _; refine ⟨show (i : Int).toNat < P.length by omega, ?_⟩
    intro _; refine ⟨fun g => ?_, fun g => ?_⟩
    · exfalso
      have g3 := eq_of_beq (show (kS P (i : Int).toNat == []) = true from g)
      rw [ei] at g3
      rw [g3] at r1
      exact r1 rfl
    have hp : kS P (i : Int).toNat = kS P i := by rw [ei]
    rw [← hp] at r1 r2 r3 r5 r6 r7
    have rN : N i ≤ 300 ∧ AT i + N i ≤ 300 := by
      rcases Nat.eq_zero_or_pos (N i) with q | q
      · omega
      · have := (r6 (N i - 1) (by omega)).1
        omega
    intro _
    refine loop2 tt_ok [18, 12, 13] [] 5 (fun k : { k : Nat // k ≤ (kS P (i : Int).toNat).length } => [(18, .int .i64 (k.1 : Nat)), (12, .int .i64 (AT i + min k.1 (N i) : Nat)), (13, .int .i64 (PU i + (k.1 - N i) : Nat))]) (fun _ => []) (fun k => (kS P (i : Int).toNat).length - k.1) ⟨0, by omega⟩ ?_
    intro _
    refine ⟨⟨th [] 5, rfl, rfl, rfl, rfl, rfl, rfl, ?_, ?_⟩, ?_⟩
    · (repeat' first | exact trivial | exact rfl | refine And.intro ?_ ?_)
      · exact (show ((PU i + (0 - N i) : Nat) : Int) = (PU i : Int) by rw [Nat.zero_sub, Nat.add_zero])
    · (repeat' first | exact trivial | exact rfl | refine And.intro ?_ ?_)
    intro ⟨k, k1⟩
    intro _; refine ⟨fun g => ?_, fun g => ?_⟩
    · have g6 := of_decide_eq_true (show decide ((k : Int) < ((kS P (i : Int).toNat).length : Int)) = true from g)
      have mk1 : k < N i ∨ k = N i := by omega
      have ePk : by' (kS P (i : Int).toNat) (k : Int).toNat = by' (kS P (i : Int).toNat) k := by rw [show (k : Int).toNat = k from Int.toNat_natCast k]
      intro _; refine ⟨fun g => ?_, fun g => ?_⟩
      · have g7 := of_decide_eq_true (show decide (((AT i + min k (N i) : Nat) : Int) < ((Q s.length).length : Int)) = true from g)
        intro _; refine ⟨show 0 ≤ ((AT i + min k (N i) : Nat) : Int) ∧ ((AT i + min k (N i) : Nat) : Int) < ((Q s.length).length : Int) by omega, ?_⟩
        intro _; refine ⟨show (((AT i + min k (N i) : Nat) : Int)).toNat < (nums (Q s.length)).length by rw [nums_len]; omega, ?_⟩
        intro _; refine ⟨show 0 ≤ (k : Int) ∧ (k : Int) < ((kS P (i : Int).toNat).length : Int) by omega, ?_⟩
        intro _; refine ⟨by kernel_rfl, ?_⟩
        have eQ : (nums (Q s.length)).getD (((AT i + min k (N i) : Nat) : Int)).toNat 0 = by' (Q s.length) (AT i + min k (N i)) := by rw [Int.toNat_natCast, nums_get]
        intro _; refine ⟨fun g => ?_, fun g => ?_⟩
        · have g8 := eq_of_beq (show ((nums (Q s.length)).getD (((AT i + min k (N i) : Nat) : Int)).toNat 0 == by' (kS P (i : Int).toNat) (k : Int).toNat) = true from g)
          rw [eQ, ePk] at g8
          have kN : k < N i := by
            rcases mk1 with q | q
            · exact q
            · exfalso
              subst q
              rw [Nat.min_self] at g7 g8
              obtain ⟨w1, w2⟩ := r7 (by omega)
              exact w2 (by omega) (by rw [g8]; exact w1)
          refine ⟨⟨k + 1, by omega⟩, by simp only []; omega, th [] 5, rfl, rfl, rfl, rfl, rfl, rfl, ?_, ?_⟩
          · (repeat' first | exact trivial | exact rfl | refine And.intro ?_ ?_)
            · exact (wrap_nat k (by omega)).symm
            · exact (show ((AT i + min (k + 1) (N i) : Nat) : Int) = IntKind.i64.wrap (((AT i + min k (N i) : Nat) : Int) + 1) by rw [wrap_nat _ (by omega)]; congr 1; omega)
            · exact (show ((PU i + (k + 1 - N i) : Nat) : Int) = ((PU i + (k - N i) : Nat) : Int) by congr 1; omega)
          · (repeat' first | exact trivial | exact rfl | refine And.intro ?_ ?_)
        have g8 := beq_eq_false_iff_ne.1 (show ((nums (Q s.length)).getD (((AT i + min k (N i) : Nat) : Int)).toNat 0 == by' (kS P (i : Int).toNat) (k : Int).toNat) = false from g)
        rw [eQ, ePk] at g8
        have kN : k = N i := by
          rcases mk1 with q | q
          · exfalso
            rw [Nat.min_eq_left (by omega)] at g8
            exact g8 (r6 k q).2
          · exact q
        obtain ⟨w1, w2⟩ := r7 (by omega)
        intro _; refine ⟨show 0 ≤ (k : Int) ∧ (k : Int) < ((kS P (i : Int).toNat).length : Int) by omega, ?_⟩
        intro _; refine ⟨fun g => ?_, fun g => ?_⟩
        rotate_left
        · exfalso
          have g9 := beq_eq_false_iff_ne.1 (show (by' (kS P (i : Int).toNat) (k : Int).toNat == 45) = false from g)
          rw [ePk, kN] at g9
          exact g9 w1
        intro _; refine ⟨fun g => ?_, fun g => ?_⟩
        rotate_left
        · exfalso
          have g9 := beq_eq_false_iff_ne.1 (show ((k : Int) == IntKind.i64.wrap (((kS P (i : Int).toNat).length : Int) - 1)) = false from g)
          refine g9 ?_
          rw [wrapS _ ⟨by omega, by omega⟩]; omega
        refine ⟨⟨k + 1, by omega⟩, by simp only []; omega, th [] 5, rfl, rfl, rfl, rfl, rfl, rfl, ?_, ?_⟩
        · (repeat' first | exact trivial | exact rfl | refine And.intro ?_ ?_)
          · exact (wrap_nat k (by omega)).symm
          · exact (show ((AT i + min (k + 1) (N i) : Nat) : Int) = ((AT i + min k (N i) : Nat) : Int) by congr 1; omega)
          · exact (show ((PU i + (k + 1 - N i) : Nat) : Int) = IntKind.i64.wrap (((PU i + (k - N i) : Nat) : Int) + 1) by rw [wrap_nat _ (by omega)]; congr 1; omega)
        · (repeat' first | exact trivial | exact rfl | refine And.intro ?_ ?_)
      have g7 := of_decide_eq_false (show decide (((AT i + min k (N i) : Nat) : Int) < ((Q s.length).length : Int)) = false from g)
      have kN : k = N i := by
        rcases mk1 with q | q
        · exfalso
          rw [Nat.min_eq_left (by omega)] at g7
          have := (r6 k q).1
          omega
        · exact q
      intro _; refine ⟨by kernel_rfl, ?_⟩
      obtain ⟨w1, w2⟩ := r7 (by omega)
      intro _; refine ⟨show 0 ≤ (k : Int) ∧ (k : Int) < ((kS P (i : Int).toNat).length : Int) by omega, ?_⟩
      intro _; refine ⟨fun g => ?_, fun g => ?_⟩
      rotate_left
      · exfalso
        have g9 := beq_eq_false_iff_ne.1 (show (by' (kS P (i : Int).toNat) (k : Int).toNat == 45) = false from g)
        rw [ePk, kN] at g9
        exact g9 w1
      intro _; refine ⟨fun g => ?_, fun g => ?_⟩
      rotate_left
      · exfalso
        have g9 := beq_eq_false_iff_ne.1 (show ((k : Int) == IntKind.i64.wrap (((kS P (i : Int).toNat).length : Int) - 1)) = false from g)
        refine g9 ?_
        rw [wrapS _ ⟨by omega, by omega⟩]; omega
      refine ⟨⟨k + 1, by omega⟩, by simp only []; omega, th [] 5, rfl, rfl, rfl, rfl, rfl, rfl, ?_, ?_⟩
      · (repeat' first | exact trivial | exact rfl | refine And.intro ?_ ?_)
        · exact (wrap_nat k (by omega)).symm
        · exact (show ((AT i + min (k + 1) (N i) : Nat) : Int) = ((AT i + min k (N i) : Nat) : Int) by congr 1; omega)
        · exact (show ((PU i + (k + 1 - N i) : Nat) : Int) = IntKind.i64.wrap (((PU i + (k - N i) : Nat) : Int) + 1) by rw [wrap_nat _ (by omega)]; congr 1; omega)
      · (repeat' first | exact trivial | exact rfl | refine And.intro ?_ ?_)
    have g6 := of_decide_eq_false (show decide ((k : Int) < ((kS P (i : Int).toNat).length : Int)) = false from g)
    have ke : k = (kS P (i : Int).toNat).length := by omega
    refine ⟨⟨i + 1, by omega⟩, by simp only []; omega, th [] 5, rfl, rfl, rfl, rfl, rfl, rfl, ?_, ?_⟩
    · (repeat' first | exact trivial | exact rfl | refine And.intro ?_ ?_)
      · exact (wrap_nat i (by omega)).symm
      · exact (show ((AT (i + 1) : Nat) : Int) = ((AT i + min k (N i) : Nat) : Int) by rw [r4]; congr 1; omega)
      · exact (show ((PU (i + 1) : Nat) : Int) = ((PU i + (k - N i) : Nat) : Int) by rw [r5, ke])
    · (repeat' first | exact trivial | exact rfl | refine And.intro ?_ ?_)
  have g := of_decide_eq_false (show decide ((i : Int) < (P.length : Int)) = false from g)
  have hie : i = P.length := by omega
  subst hie
  intro _; refine ⟨fun _ => ?_, fun g => absurd (show ((0 : Int) == 0) = false from g) (by decide)⟩
  intro _; refine ⟨fun _ => ?_, fun g => absurd (show ((0 : Int) == 0) = false from g) (by decide)⟩
  intro _; refine ⟨fun g => ?_, fun g => ?_⟩
  · intro _
    show ((PU P.length : Int) == (hc L L.length : Int)) = true
    rw [hPn]
    exact beq_self_eq_true _
  exfalso
  have g9 := beq_eq_false_iff_ne.1 (show ((AT P.length : Int) == ((Q s.length).length : Int)) = false from g)
  exact g9 (by rw [hAn])

theorem open_strs {H : Type} {enc : TypeId × Value → H} {P : Program} {w : World} {base : Nat} {held : Bool} {r : Reach} {t e : TypeId} {v : Value} {d : DataW H} {p : List MemPlace} (ht : P.underlying t = some (.slice e)) (he : P.underlying e = some .string) (hC : P.cellsOf e = 1)
    (hval : Value.okWide P w r base t v) (h : DataW.Trod enc P w 0 (fun _ => true) held t v d p) :
    ∃ (s : Src) (l : List (List Go.Vm2.D)) (cap : Nat), s.ks = [.str] ∧ s.ac = .recs l ∧ s.lies w ∧ (s.at_ = none → l.length = 0) ∧ l.length ≤ cap ∧ v = s.val cap ∧ l.length ≤ maxLen ∧ ∀ x ∈ l, Go.Vm2.rowWf [.str] x := by
  have hne : ([.str] : List CK) ≠ [] := by simp
  letI : Facts := ⟨[], [], false⟩
  obtain ⟨ao, len, cap, rfl⟩ := okWide_slice ht hval
  obtain ⟨fuel, h⟩ := h
  rcases Go.Deep.open_slice ht h with ⟨h1, _⟩ | ⟨a, len', cap', m, n, D', Pl, h1, _, h3, h4, hm, _, hi⟩
  · have h1 : [Value.slice ao len cap] = [.slice none 0 0] := h1
    simp only [List.cons.injEq, Value.slice.injEq, and_true] at h1
    obtain ⟨rfl, rfl, rfl⟩ := h1
    exact ⟨⟨none, ([.str] : List CK), .recs []⟩, [], 0, rfl, rfl, ⟨hne, rfl⟩, fun _ => rfl, Nat.le_refl _, rfl, Nat.zero_le _, fun n hn => (List.not_mem_nil hn).elim⟩
  · have h1 : [Value.slice ao len cap] = [.slice (some a) len' cap'] := h1
    simp only [List.cons.injEq, Value.slice.injEq, and_true] at h1
    obtain ⟨rfl, rfl, rfl⟩ := h1
    have hh : w.has P r base a e cap := by
      simp only [Value.okWide, ht, Cell.okWide, Cell.ok] at hval
      exact hval.2.2
    have hlm : len ≤ m := by rw [hm]; split <;> omega
    have rows : ∀ i, i < len → ∃ ds : List Go.Vm2.D, Go.Vm2.rowWf [.str] ds ∧ ∀ j c, ([.str] : List CK)[j]? = some c → w.cell? (a.add (i * ([.str] : List CK).length + j)) = some (Go.Vm2.valOf c (ds.getD j (.n 0))) := by
      intro i hil
      obtain ⟨cs', hc, ht'⟩ := hi i (by omega)
      rw [hC] at hc
      obtain ⟨_, hcl, hat⟩ := World.cells?_some hc
      obtain ⟨m', h1, _, h3⟩ := DataW.trod_string he ht'
      refine ⟨[.s m'.data.toList], ⟨rfl, fun j c hj => ?_⟩, fun j c hj => ?_⟩
      · match j, hj with
        | 0, hj =>
          simp at hj; subst hj
          exact ⟨_, rfl, by simpa using h3⟩
        | j + 1, hj => simp at hj
      · match j, hj with
        | 0, hj =>
          simp at hj; subst hj
          have := hat 0 (by omega)
          rw [h1] at this
          rw [← Go.Deep.add_add]
          exact this
        | j + 1, hj => simp at hj
    obtain ⟨l, l1, l2⟩ := Go.Vm2.pick_list len rows
    obtain ⟨b, off, spot⟩ := a
    obtain ⟨rfl, c, tt, fz, hb, hoff⟩ := Go.Vm2.has_lies hh
    have hb : w.heap[b]? = some (.cells c tt fz) := hb
    have hz : 0 < ([.str] : List CK).length := List.length_pos_iff.2 hne
    have cellAt : ∀ i j ck, i < len → ([.str] : List CK)[j]? = some ck → c[off + (i * ([.str] : List CK).length + j)]? = some (Go.Vm2.valOf ck (((l.getD i []).getD j (.n 0)))) := by
      intro i j ck hil hck
      have e : l[i]? = some (l.getD i []) := by rw [List.getD_eq_getElem?_getD, List.getElem?_eq_getElem (by omega)]; rfl
      have := (l2 i _ e).2 j ck hck
      rw [add_plain] at this
      unfold World.cell? at this
      rw [hb] at this
      simpa using this
    refine ⟨⟨some (b, off), ([.str] : List CK), .recs l⟩, l, cap, rfl, rfl, ⟨hne, c, tt, fz, hb, ?_, ?_⟩, (fun e => by cases e), by omega, ?_, by omega, fun x hx => ?_⟩
    · show off + l.length * ([.str] : List CK).length ≤ c.size
      rcases Nat.eq_zero_or_pos len with h0 | h0
      · rw [l1, h0, Nat.zero_mul]; exact hoff
      · have hk : ([.str] : List CK)[([.str] : List CK).length - 1]? = some ([.str] : List CK)[([.str] : List CK).length - 1] := List.getElem?_eq_getElem (by omega)
        have := (Array.getElem?_eq_some_iff.1 (cellAt (len - 1) (([.str] : List CK).length - 1) _ (by omega) hk)).1
        rw [l1]
        have e : len * ([.str] : List CK).length = (len - 1) * ([.str] : List CK).length + ([.str] : List CK).length := by
          have : len = (len - 1) + 1 := by omega
          rw [this, Nat.add_mul, Nat.one_mul]; simp
        omega
    · intro i ck dd hii
      simp only [AC.avs] at hii
      have hfl' := Go.Vm2.flat_length (fun x => Go.Vm2.rowAV_length ([.str] : List CK) 0 x) l
      have hil : i < l.length * ([.str] : List CK).length := by rw [← hfl']; exact (List.getElem?_eq_some_iff.1 hii).1
      have q1 := Nat.div_add_mod i ([.str] : List CK).length
      have q2 := Nat.mod_lt i hz
      have q3 : i / ([.str] : List CK).length < l.length := (Nat.div_lt_iff_lt_mul hz).2 hil
      have hi' : i = i / ([.str] : List CK).length * ([.str] : List CK).length + i % ([.str] : List CK).length := by rw [Nat.mul_comm]; omega
      have e : l[i / ([.str] : List CK).length]? = some (l.getD (i / ([.str] : List CK).length) []) := by rw [List.getD_eq_getElem?_getD, List.getElem?_eq_getElem q3]; rfl
      have hk : ([.str] : List CK)[i % ([.str] : List CK).length]? = some ([.str] : List CK)[i % ([.str] : List CK).length] := List.getElem?_eq_getElem q2
      have f1 := Go.Vm2.flat_get (fun x => Go.Vm2.rowAV_length ([.str] : List CK) 0 x) (i / ([.str] : List CK).length) l _ e (i % ([.str] : List CK).length) q2
      rw [← hi', hii, Go.Vm2.rowAV_get ([.str] : List CK) 0 _ _ _ hk, Nat.zero_add] at f1
      have f2 := cellAt (i / ([.str] : List CK).length) (i % ([.str] : List CK).length) _ (by omega) hk
      rw [← hi'] at f2
      show c[off + i]? = some (Go.Vm2.valOf ck dd)
      rw [f2]
      simp only [Option.some.injEq] at f1
      congr 1
      revert f1
      generalize ([.str] : List CK)[i % ([.str] : List CK).length] = c2
      generalize (l.getD (i / ([.str] : List CK).length) []).getD (i % ([.str] : List CK).length) (.n 0) = d2
      intro f1
      cases ck <;> cases c2 <;> simp only [CK.av, Go.Vm.AV.int.injEq, Go.Vm.AV.bool.injEq, Go.Vm.AV.str.injEq, reduceCtorEq] at f1 <;> simp only [Go.Vm2.valOf]
      · rw [f1.1, f1.2]
      · rw [f1]
      · rw [f1]
    · show Value.slice (some ⟨b, off, none⟩) len cap = Value.slice (some ⟨b, off, none⟩) l.length cap
      rw [l1]
    · obtain ⟨i, hi', rfl⟩ := List.getElem_of_mem hx
      exact (l2 i _ (List.getElem?_eq_getElem hi')).1
theorem agg_cv {n : Nat} {ν : Nu} {vs : List V} {as' : List Go.Vm.AV} (h : Cvs n ν vs as') : Cv n ν (.agg vs) (.agg as') := by
  simp only [Cv]; exact ⟨as', rfl, h⟩
def fieldsSt (P : Program) : Nat → List Field → List TypeId → Bool
  | _, [], [] => true
  | j, f :: fs, u :: us => Nat.beq f.offset j && Nat.beq (P.cellsOf f.type) 1 && Nat.beq f.type u && fieldsSt P (j + 1) fs us
  | _, _, _ => false
theorem fieldsSt_get {P : Program} : ∀ {fs : List Field} {ts : List TypeId} {j0 : Nat}, fieldsSt P j0 fs ts = true → ∀ (j : Nat) (u : TypeId), ts[j]? = some u → ∃ f, fs[j]? = some f ∧ f.offset = j0 + j ∧ P.cellsOf f.type = 1 ∧ f.type = u
  | [], [], _, _ => fun j u e => by simp at e
  | [], _ :: _, _, h => by simp [fieldsSt] at h
  | _ :: _, [], _, h => by simp [fieldsSt] at h
  | f :: fs, u :: us, j0, h => by
    simp only [fieldsSt, Bool.and_eq_true] at h
    obtain ⟨⟨⟨h1, h2⟩, h3⟩, h4⟩ := h
    intro j u' e
    cases j with
    | zero =>
      simp at e; subst e
      exact ⟨f, rfl, Nat.eq_of_beq_eq_true h1, Nat.eq_of_beq_eq_true h2, Nat.eq_of_beq_eq_true h3⟩
    | succ j =>
      simp at e
      obtain ⟨f', e1, e2, e3⟩ := fieldsSt_get h4 j u' e
      exact ⟨f', by simpa using e1, by rw [e2]; omega, e3⟩
theorem open_st {H : Type} {enc : TypeId × Value → H} {P : Program} {w : World} {base : Nat} {spare : Nat → Bool} {held : Bool} {r : Reach} {t : TypeId} {fs : Array Field} {ts : List TypeId} {v : Value} {d : DataW H} {p : List MemPlace} (ht : P.underlying t = some (.struct fs)) (hts : P.cellTypes P.depth t = some ts) (hC : P.cellsOf t = ts.length) (hf : fieldsSt P 0 fs.toList ts = true)
    (hval : Value.okWide P w r base t v) (h : DataW.Trod enc P w 0 spare held t v d p) :
    ∃ cs : Array Value, v = .agg cs ∧ cs.size = ts.length ∧ ∀ (j : Nat) (u : TypeId), ts[j]? = some u → ∃ x d' p' fuel, cs[j]? = some x ∧ Cell.okWide P w r base u x ∧ DataW.trod enc P w 0 spare held fuel u [x] = some (d', p') := by
  unfold Value.okWide at hval
  rw [ht] at hval
  obtain ⟨cs, rfl, hs, ts', ht', _, hk⟩ := hval
  rw [hts] at ht'
  simp only [Option.some.injEq] at ht'
  subst ht'
  obtain ⟨fuel, h⟩ := h
  obtain ⟨xs, n, _, _, hl, hxl, hf'⟩ := DataW.trod_struct ht h
  refine ⟨cs, rfl, by rw [hs, hC], fun j u hu => ?_⟩
  obtain ⟨f, e1, e2, e3, rfl⟩ := fieldsSt_get hf j u hu
  have hj : j < ts.length := (List.getElem?_eq_some_iff.1 hu).1
  have hjc : j < cs.size := by rw [hs, hC]; exact hj
  obtain ⟨u', hu', hok⟩ := hk j cs[j] (by simp [hjc])
  rw [Nat.mod_eq_of_lt hj, hu] at hu'
  cases hu'
  have e4 := hf' j f (by simpa using e1)
  rw [e2, e3, Nat.zero_add] at e4
  have e5 : ((Value.agg cs).cells.toList.drop j).take 1 = [cs[j]] := by
    show (cs.toList.drop j).take 1 = _
    rw [List.drop_eq_getElem_cons (by simpa using hjc)]; simp
  rw [e5] at e4
  have hjf : j < fs.toList.length := (List.getElem?_eq_some_iff.1 e1).1
  have hjx : j < xs.length := by rw [hxl]; simpa using hjf
  rw [List.getElem?_eq_getElem hjx] at e4
  exact ⟨cs[j], xs[j].1, xs[j].2, n, by simp [hjc], hok, e4⟩
theorem walk (w : World) (bf : Int) (w_bf : (Lit.int .i64 bf).wf = true) (bh : Int) (w_bh : (Lit.int .i64 bh).wf = true) (v_kp : Value) (s_kp : Src) (kp : List (List Go.Vm2.D)) (cap_kp : Nat) (hk_kp : s_kp.ks = [.str]) (ha_kp : s_kp.ac = .recs kp) (hs_kp : s_kp.lies w) (hn_kp : s_kp.at_ = none → kp.length = 0) (hc_kp : kp.length ≤ cap_kp) (hv_kp : v_kp = s_kp.val cap_kp) (hm_kp : kp.length ≤ maxLen) (w_kp : ∀ n ∈ kp, rowWf [.str] n) (s : List UInt8) (m_s : s.length ≤ maxLen) :
    Calls Try.prog 5 #[.agg #[.int .i64 bf, .int .i64 bh, v_kp], .string ⟨s.toArray⟩] w fun e w' => e = .returned (.bool true) ∧ Below w.heap.size w w' := by
  obtain ⟨at_kp, ks_kp, ac_kp⟩ := s_kp
  simp only [] at hk_kp ha_kp
  subst hk_kp ha_kp
  have h_kp : kp.length ≤ 9223372036854775807 := by unfold maxLen at hm_kp; omega
  have b_bf := w_bf
  simp [Lit.wf, IntKind.min, IntKind.max, IntKind.signed, IntKind.bits] at b_bf
  have b_bh := w_bh
  simp [Lit.wf, IntKind.min, IntKind.max, IntKind.signed, IntKind.bits] at b_bh
  have h_s : s.length ≤ 9223372036854775807 := by unfold maxLen at m_s; omega
  exact top_run (by kernel_rfl) (by kernel_rfl) (T := [9]) (fun f hf w => by
      rcases List.mem_cons.1 hf with e | e
      · subst e; exact head w
      · exact (List.not_mem_nil e).elim) (l := [⟨at_kp, [.str], .recs kp⟩]) (args := [.agg [.int .i64 bf, .int .i64 bh, .slc 0 1 0 kp.length], .str s]) («as» := [.agg [.int .i64 bf, .int .i64 bh, Src.av 0 cap_kp ⟨at_kp, [.str], .recs kp⟩], .str s]) (cargs := [.agg #[.int .i64 bf, .int .i64 bh, v_kp], .string ⟨s.toArray⟩]) w
    (fun s h => by
      rcases List.mem_cons.1 h with e | h
      · subst e; exact hs_kp
      · exact (List.not_mem_nil h).elim)
    (Cvs.cons (agg_cv (Cvs.cons mk_int (Cvs.cons mk_int (Cvs.cons (src_cv (s := ⟨at_kp, [.str], .recs kp⟩) rfl 1 hc_kp hn_kp) Cvs.nil)))) (Cvs.cons mk_str Cvs.nil))
    (by simp only [Go.Vm.convs, Go.Vm.conv]; rw [src_conv (j := 0) (s := ⟨at_kp, [.str], .recs kp⟩) rfl]; subst hv_kp; rfl)
    (law5 bf bh kp s h_s)

set_option maxRecDepth 100000 in
theorem lifted (os : Os) (started : os.Started) (H : Type) (enc : TypeId × Value → H) :
    ReturnsInHanded {} Try.checked os 5 .any (Rows.breaksKeepsSpec.pre6 enc Try.prog Try.f5 Rows.breaksKeepsRow.domain false) (Rows.breaksKeepsSpec.post enc Try.prog Try.f5 false true false false) := by
  refine returnsInHanded_of_change (C := Try.checked) own started (by kernel_rfl) Try.func5
    (ChangeSpec.witness6 (enc := enc) (C := Try.checked) false ⟨#[], #[.agg #[.int .i64 0, .int .i64 0, .slice none 0 0], .string ⟨#[]⟩], []⟩ 8 (by kernel_rfl) (by kernel_rfl) (by kernel_rfl) (by kernel_rfl)) ?_
  intro W base args ds gs before hval0 hW hcnd _
  have hval : ∀ (j : Nat) t v, Try.f5.params[j]? = some t → args[j]? = some v → Value.okWide Try.prog W .any base t v := hval0
  have hW' := hW
  obtain ⟨p, q, hA0, hV, rfl, hfz, hnd⟩ := hW
  have hA : DataW.TrodAll enc Try.prog W 0 (fun _ => true) true Try.f5.params.toList args.toList ds p := hA0
  rw [Try.params5] at hA hval
  obtain ⟨v0, vs0, d0, ds0, p0, q0, hargs, rfl, rfl, h0, r0⟩ := trodAll_cons hA
  obtain ⟨v1, vs1, d1, ds1, p1, q1, rfl, rfl, rfl, h1, r1⟩ := trodAll_cons r0
  obtain ⟨rfl, rfl, rfl⟩ := trodAll_nil r1
  obtain rfl : args = #[v0, v1] := by cases args; simp_all
  obtain ⟨rfl, rfl⟩ := trodVars_none hV
  obtain ⟨cs_b, rfl, hz_b, hs_b⟩ := open_st (ts := [3, 3, 22]) Try.underlying24 (by kernel_rfl) (by kernel_rfl) (by kernel_rfl) (hval 0 24 v0 rfl rfl) h0
  have hlt0 : ∀ x ∈ p0, x.block < W.heap.size := fun x hx => by simpa using hW'.lt x (by simp [hx])
  obtain ⟨x_bf, d_bf, p_bf, fu_bf, hx_bf, hk0_bf, ht_bf⟩ := hs_b 0 3 rfl
  have hkk_bf : Value.okWide Try.prog W .any base 3 x_bf := by unfold Value.okWide; rw [Try.underlying3]; exact hk0_bf
  obtain ⟨x_bh, d_bh, p_bh, fu_bh, hx_bh, hk0_bh, ht_bh⟩ := hs_b 1 3 rfl
  have hkk_bh : Value.okWide Try.prog W .any base 3 x_bh := by unfold Value.okWide; rw [Try.underlying3]; exact hk0_bh
  obtain ⟨x_kp, d_kp, p_kp, fu_kp, hx_kp, hk0_kp, ht_kp⟩ := hs_b 2 22 rfl
  have hkk_kp : Value.okWide Try.prog W .any base 22 x_kp := by unfold Value.okWide; rw [Try.underlying22]; exact hk0_kp
  have hcs_b : cs_b = #[x_bf, x_bh, x_kp] := by
    refine Array.ext (by rw [hz_b]; rfl) fun i h1 h2 => ?_
    have hi : i < 3 := by simpa using h2
    rcases i with _ | _ | _ | i
    · have := hx_bf; rw [Array.getElem?_eq_getElem h1] at this; exact Option.some.inj this
    · have := hx_bh; rw [Array.getElem?_eq_getElem h1] at this; exact Option.some.inj this
    · have := hx_kp; rw [Array.getElem?_eq_getElem h1] at this; exact Option.some.inj this
    · omega
  subst hcs_b
  obtain ⟨bf, hq_bf, _, w_bf⟩ := DataW.trod_int Try.underlying3 ht_bf
  simp only [List.cons.injEq, and_true] at hq_bf
  subst hq_bf
  obtain ⟨bh, hq_bh, _, w_bh⟩ := DataW.trod_int Try.underlying3 ht_bh
  simp only [List.cons.injEq, and_true] at hq_bh
  subst hq_bh
  have htt_kp : DataW.Trod enc Try.prog W 0 (fun _ => true) true 22 x_kp d_kp p_kp := by obtain ⟨ao, len, cap, rfl⟩ := okWide_slice Try.underlying22 hkk_kp; exact ⟨fu_kp, ht_kp⟩
  obtain ⟨s_kp, kp, cap_kp, hk_kp, ha_kp, hs_kp, hn_kp, hc_kp, hv_kp, hm_kp, w_kp⟩ := open_strs Try.underlying22 Try.underlying9 (by kernel_rfl) hkk_kp htt_kp
  obtain ⟨sb_s, rfl, rfl, rfl, m0_s⟩ := Go.ChangeMaps.open_string Try.underlying9 (hval 1 9 v1 rfl rfl) h1
  obtain ⟨s, rfl⟩ : ∃ a : List UInt8, sb_s = ⟨a.toArray⟩ := ⟨sb_s.data.toList, by cases sb_s; simp⟩
  clear hA0 hval0
  refine (walk W bf w_bf bh w_bh x_kp s_kp kp cap_kp hk_kp ha_kp hs_kp hn_kp hc_kp hv_kp hm_kp w_kp s (by simpa [ByteArray.size] using m0_s)).mono fun e W' ⟨he, hg⟩ => ?_
  subst he
  exact ⟨_, rfl, _, _, _, [], _, [], hW', trodAll_cons_mk (shut_bool Try.underlying4 _) trodAll_mk0, (trodAll_cons_mk (Below.trod laidOut (by kernel_rfl) (of_decide_eq_true (by kernel_rfl)) h0 hg hlt0) (trodAll_cons_mk (Go.ChangeMaps.shut_string Try.underlying9 m0_s) trodAll_mk0)), rfl, hg.frame _, fun h => by cases h⟩

theorem over : Rows.breaksKeepsRow.holds Try.pinned (OpenSpec.ofChange Rows.breaksKeepsSpec) :=
  OpenClaim.holds_of_wide 5 Try.f5 rfl rfl rfl rfl rfl rfl rfl ⟨rfl, rfl, rfl, rfl, rfl⟩ rfl rfl rfl rfl rfl (by kernel_rfl) Try.func5 (by kernel_rfl)
    (of_decide_eq_true (by kernel_rfl)) (by unfold Func.isWrapper; first | (rw [if_pos (by decide +kernel)]; kernel_rfl) | (rw [if_neg (by decide +kernel)]; exact ⟨rfl, rfl⟩))
    (fun os started H enc _ => lifted os started H enc)

/-- the statement -/
theorem proved : Rows.BreaksKeepsSaid :=
  over
#print axioms proved
end Go.Proofs.Ytbjidlekfoabaaa.breaksKeeps
