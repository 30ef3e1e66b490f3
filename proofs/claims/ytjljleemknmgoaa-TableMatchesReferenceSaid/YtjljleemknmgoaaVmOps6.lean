/-
 Part of the proof that a machine over named lists stands for the program's runs (VmOps6). No conditions beyond those that its theorems name.
-/
import Derived.Test.YtjljleemknmgoaaVmOps5
namespace Go.Vm
set_option linter.unusedSectionVars false
variable [Facts] [Val] [Sound]
variable {P : Program} {base : Nat} {ρ : Rho} {s : St} {w : World}
theorem Out.pre_drew {v : AV} {s' : St} {x : Value} {w' : World} (h : Out base ρ s w.drew v s' x w') : Out base ρ s w v s' x w' := by
 obtain ⟨ρ', h1, h2, h3, h4, h5, h6, h7, h8⟩ := h
 exact ⟨ρ', h1, h2, h3, h4, h5, h6, ⟨h7.os, h7.tape, h7.output, h7.size, h7.keep, h7.img⟩, h8⟩
theorem openRow_run {cs : List AV} {us rest : List Value} {e : TypeId} {z k : Nat} (hf : Fresh s.n ρ) (hk : s.ok) (hr : Rel base ρ s.look w) (hu : convs ρ cs = some us) (hz : 0 < z) (hkz : k * z = (us ++ rest).length) (hcs : cs.length ≤ k * z) {v : AV} {u : Value}
  (hv : ∀ ρ' : Rho, ρ' s.n = some (w.heap.size, 0, some (z, k)) → conv ρ' v = some u) : Out base ρ s w v (newRow s cs e true z) u (w.alloc (.cells (us ++ rest).toArray e)) := by
 have hu' := convs_mono (Rho.with_le (w.heap.size, 0, some (z, k)) hf) _ _ hu
 have := held_new (w := w) (base := base) (rest := rest) (e := e) (op := true) (f := s.n) (z := z) (Rho.with_self ρ s.n (w.heap.size, 0, some (z, k))) hr.base_le hu' (fun _ => ⟨hz, k, rfl, Nat.le_of_eq hkz, hcs⟩) (fun h => by cases h)
 exact out_push_own hf hk hr (by simp) rfl this (hv _ (Rho.with_self ρ s.n _))
theorem zOk_size {e : TypeId} {i : TypeInfo} (h : zOk P e i.size = true) (hi : P.info? e = some i) : (∃ z, i.zero = some z) ∧ (i.zero.getD undef).cells.size = i.size := by
 unfold zOk at h
 split at h
 ·rename_i z hz
  unfold zeroOf at hz
  rw [hi] at hz
  simp only at hz
  split at hz
  ·rename_i z' hz'
   refine ⟨⟨z', hz'⟩, ?_⟩
   have := convs_length (conv_cells (ofConst_conv (fun _ => none) hz))
   simp only [beq_iff_eq] at h
   simp [hz'] at this ⊢
   omega
  ·simp at hz
 ·simp at h
theorem rel_alias {s1 : St} {b B δ : Nat} {ext : Option (Nat × Nat)} {o x : AO} (hf : Fresh s1.n ρ) (hr : Rel base ρ s1.look w) (hb : s1.look b = some o) (how : o.own = true) (hB : blk ρ b = some B) (hns : o.single b = false)
  (hx : x ≠ .dead) (hxk : x.kinOf s1.n = o.kinOf b) (hxs : x.single s1.n = false) (hh : Held base (ρ.with s1.n (B, δ, ext)) s1.n x w) :
  Rel base (ρ.with s1.n (B, δ, ext)) (s1.push x).look w := by
 have hle := Rho.with_le (B, δ, ext) hf
 have hlook := fun c => St.look_push (s := s1) x hx c
 have hold : ∀ c, c < s1.n → blk (ρ.with s1.n (B, δ, ext)) c = blk ρ c := fun c hc => by unfold blk Rho.with; rw [if_neg (by omega)]
 have hnew : blk (ρ.with s1.n (B, δ, ext)) s1.n = some B := by simp [blk, Rho.with]
 have hbk := hr.kin b o hb
 have hblt := St.look_lt hb
 refine ⟨?_, ?_, ?_, ?_, fun c => St.look_live _ c, hr.base_le⟩
 ·intro c q h
  rw [hlook] at h
  split at h
  ·rename_i e; subst e; cases h; exact hh
  ·exact (hr.obj c q h).mono hle (fun _ _ => rfl)
 ·intro c c' q q' h h' ho hne
  rw [hlook] at h h'
  split at h
  ·rename_i e; subst e; cases h
   split at h'
   ·rename_i e'; subst e'; cases h'; exact absurd rfl hne
   ·rw [hnew, hold c' (St.look_lt h'), ← hB]
    exact hr.apart b c' o q' hb h' how (by rw [← hxk]; exact hne)
  ·split at h'
   ·rename_i e'; subst e'; cases h'
    rw [hnew, hold c (St.look_lt h), ← hB]
    exact hr.apart c b q o h hb ho (by rw [← hxk]; exact hne)
   ·rw [hold c (St.look_lt h), hold c' (St.look_lt h')]; exact hr.apart c c' q q' h h' ho hne
 ·intro c q h
  rw [hlook] at h
  split at h
  ·rename_i e; subst e; cases h; omega
  ·exact hr.kin c q h
 ·intro c q h hs c' q' h' hne
  rw [hlook] at h h'
  split at h
  ·rename_i e; subst e; cases h; rw [hxs] at hs; cases hs
  ·split at h'
   ·rename_i e'; subst e'; cases h'
    rw [hxk]
    by_cases e : b = c
    ·subst e; rw [hb] at h; cases h; rw [hns] at hs; cases hs
    ·exact hr.alone c q h hs b o hb e
   ·exact hr.alone c q h hs c' q' h' hne
theorem spend_run {b : Nat} {cs : List AV} {e : TypeId} {f z : Nat} {w' : World} {B : Nat} {O : Obj} (hf : Fresh s.n ρ) (hk : s.ok) (hr : Rel base ρ s.look w) (hg : s.look b = some (.row cs e true true false f z)) (hB : blk ρ b = some B)
  (ht : Turn w w' B O) (hh : Held base ρ b (.row cs e true true true f z) w') {v : AV} {u : Value} (hv : conv ρ v = some u) :
  Out base ρ s w v ((if f = b then s else s.alone f).set b (.row cs e true true true f z)) u w' := by
 have hlt := St.look_lt hg
 have hkin := hr.kin b _ hg
 simp only [AO.kinOf] at hkin
 split
 ·rename_i hfb
  refine out_turn (x := .row cs e true true true f z) hf hr ht hg rfl hB rfl (St.ok_set _ _ hk) ⟨minF_l _ _, fun c hc _ => ?_⟩ (by rw [St.look_set _ (by simp) b b hk hlt, if_pos rfl]) rfl (fun q => by simp [AO.single] at q) (fun c q hc h => ?_) hh hv
  ·rw [St.get_set _ b c hk hlt, if_neg]
   intro e; subst e; simp only [St.set_def] at hc; omega
  ·rw [St.look_set _ (by simp) b c hk hlt, if_neg hc] at h
   refine ⟨h, fun e => ?_⟩
   refine hr.apart b c _ q hg h rfl ?_ (by rw [hB, e])
   exact fun e => hr.alone b _ hg (by simp [AO.single, hfb]) c q h hc (by rw [← e]; simp only [AO.kinOf]; exact hfb)
 ·have hka := St.ok_alone (s := s) f hk
  have hlt' : b < (s.alone f).n := hlt
  refine out_turn (x := .row cs e true true true f z) hf hr ht hg rfl hB rfl (St.ok_set _ _ hka) ⟨?_, fun i hi _ => ?_⟩ (by rw [St.look_set _ (by simp) b b hka hlt', if_pos rfl]) rfl (fun q => by simp [AO.single] at q) (fun i q hi hq => ?_) hh hv
  ·simp only [St.set_def, St.alone_def]; omega
  ·simp only [St.set_def, St.alone_def] at hi
   rw [St.get_set _ b i hka hlt', if_neg (by omega), St.get_alone]
   cases hgi : s.get i with
   | none => rfl
   | some q =>
    simp only [Option.map_some, Option.some.injEq]
    cases q with
    | row cs' e' op' w' sp' g' z' =>
     simp only [AO.kin]
     rw [if_neg]
     intro e; subst e
     have := hr.kin i _ (St.look_of_get hgi (by simp))
     simp only [AO.kinOf] at this
     omega
    | _ => rfl
  ·rw [St.look_set _ (by simp) b i hka hlt', if_neg hi] at hq
   obtain ⟨g1, g2⟩ := St.look_alone f i q hq
   refine ⟨g1, fun e => ?_⟩
   refine hr.apart b i _ q hg g1 rfl ?_ (by rw [hB, e])
   simp only [AO.kinOf]
   cases q with
   | row cs' e' op' w' sp' g' z' => exact fun e => g2 _ _ _ _ _ _ _ rfl e.symm
   | dead => exact absurd g1 (St.look_live _ _)
   | _ =>
    intro e
    simp only at e
    subst e
    exact hr.alone _ _ g1 (by rfl) b _ hg (fun e => hi e.symm) rfl
theorem Turn.none {w : World} {B : Nat} {O : Obj} (h : w.heap[B]? = some O) : Turn w w B O := ⟨rfl, rfl, rfl, rfl, h, fun _ _ => rfl⟩
theorem appendA_run {ts : List TypeId} {x y r : AV} {os : Option St} {x' y' : Value} {ty : TypeId} (hf : Fresh s.n ρ) (hk : s.ok) (hr : Rel base ρ s.look w) (h : appendA P s ts x y = some (r, os)) (hx : conv ρ x = some x') (hy : conv ρ y = some y') (ats : Array TypeId) (hts : ats.toList = ts) :
  ∃ u w', (Builtin.append_ ats ty #[x', y']).run P w = .ok u w' ∧ Out base ρ s w r (os.getD s) u w' := by
 unfold appendA at h
 split at h
 ·rename_i t t'
  have hats : ats = #[t, t'] := by apply Array.ext'; rw [hts]
  subst hats
  split at h
  ·rename_i e d' hu hu'
   split at h
   ·simp at h
   ·rename_i hdi
    split at h
    ·rename_i i hi
     split at h
     ·rename_i n news hgv
      split at h
      ·simp at h
      ·rename_i hcond
       simp only [not_or, Bool.not_eq_false] at hcond
       obtain ⟨hz, hcok, hzo⟩ := hcond
       obtain ⟨hzero, hzsz⟩ := zOk_size hzo hi
       obtain ⟨g1, g2, us, g3, g4⟩ := givenA_run (P := P) hr hgv hy
       have hd : ∀ k, d' ≠ .int k := fun k e => hdi k e
       have hus := convs_length g3
       obtain ⟨_, _, us', g3', g4'⟩ := givenA_run (P := P) (w := w.drew) hr.drew hgv hy
       rw [g3] at g3'; cases g3'
       have h2 : (Builtin.firstCells i.size n y').run P w = .ok us.toArray w := by
        rw [g4 n (Nat.le_refl _), List.take_of_length_le (by omega)]
       have h2' : (Builtin.firstCells i.size n y').run P w.drew = .ok us.toArray w.drew := by
        rw [g4' n (Nat.le_refl _), List.take_of_length_le (by omega)]
       split at h
       ·
        simp [conv] at hx; subst hx
        split at h
        ·rename_i hn
         simp at h; obtain ⟨rfl, rfl⟩ := h
         subst hn
         refine ⟨.slice none 0 0, w, ?_, Out.same hf hk hr rfl⟩
         exact append_room (a := none) (len := 0) (cap := 0) hu hu' hd hi g1 h2 (Nat.le_refl _) rfl
        ·rename_i hn
         split at h
         ·rename_i hb
          simp at h; obtain ⟨rfl, rfl⟩ := h
          obtain ⟨newCap, rest, k1, k2, k3⟩ := append_grow (ty := ty) (a := none) (len := 0) (cap := 0) (old := []) hu hu' hd hi hzero g1 h2' (by omega) (by simp [Builtin.firstCells]) (by omega) (by simpa using hb.2)
          rw [hzsz] at k2
          simp only [Nat.zero_add, List.nil_append] at k1 k2 k3
          refine ⟨_, _, k3, Out.pre_drew ?_⟩
          have hkz : newCap * i.size = (us ++ rest).length := by
           rw [List.length_append, hus, g2, k2, Nat.sub_mul]
           have := Nat.mul_le_mul_right i.size k1
           omega
          refine openRow_run (k := newCap) hf hk hr.drew g3 (by omega) hkz (by rw [g2]; exact Nat.mul_le_mul_right _ k1) (fun ρ' hρ => ?_)
          simp only [conv, hρ]
          rw [if_pos (by simp; exact k1)]
          simp
         ·simp at h
       ·rename_i b o len cap
        split at h
        ·rename_i hn
         subst hn
         split at h
         ·rename_i hlc
          simp at h; obtain ⟨rfl, rfl⟩ := h
          have key : ∀ a c, len ≤ c → (Builtin.append_ #[t, t'] ty #[.slice (some a) len c, y']).run P w = .ok (.slice (some a) len c) w := by
           intro a c hc
           have hu0 : us = [] := by apply List.eq_nil_of_length_eq_zero; omega
           subst hu0
           exact append_room (a := some a) (len := len) (cap := c) (n := 0) hu hu' hd hi g1 h2 (by omega) rfl
          have hx0 := hx
          simp only [conv] at hx
          split at hx
          ·simp at hx; subst hx
           exact ⟨_, w, key _ _ hlc, Out.same hf hk hr hx0⟩
          ·split at hx
           ·simp at hx; subst hx
            exact ⟨_, w, key _ _ (by omega), Out.same hf hk hr hx0⟩
           ·simp at hx
          ·simp at hx
         ·simp at h
        ·rename_i hn
         split at h
         ·rename_i hroom
          split at h
          ·rename_i s' hw
           simp at h; obtain ⟨rfl, rfl⟩ := h
           have hx0 := hx
           simp only [conv] at hx
           split at hx
           ·rename_i B δ hb
            simp at hx; subst hx
            obtain ⟨w', k1, k2⟩ := writeA_run (P := P) hf hk hr hw g3 hb
            refine ⟨_, w', append_room hu hu' hd hi g1 h2 hroom (by simp only [addr_add]; rw [Nat.add_assoc]; exact k1), k2 _ _ ?_⟩
            simp [conv, hb]
           ·rename_i B δ z kk hb
            split at hx
            ·rename_i hle
             rw [if_neg (show ¬ (len = 0 ∧ o / z = kk) by omega)] at hx
             simp at hx; subst hx
             obtain ⟨w', k1, k2⟩ := writeA_run (P := P) hf hk hr hw g3 hb
             refine ⟨_, w', append_room hu hu' hd hi g1 h2 (by omega) (by simp only [addr_add]; rw [Nat.add_assoc]; exact k1), k2 _ _ ?_⟩
             simp only [conv, hb]
             rw [if_pos hle, if_neg (show ¬ (len + n = 0 ∧ o / z = kk) by omega)]
            ·simp at hx
           ·simp at hx
          ·simp at h
         ·rename_i hroom
          split at h
          ·rename_i hb
           split at h
           ·
            rename_i cs e' ow p f z hg
            split at h
            ·rename_i hc
             simp at h; obtain ⟨rfl, rfl⟩ := h
             have hl := hr.obj b _ (St.look_of_get hg (by simp))
             obtain ⟨B, δ, ex, hb1, hex⟩ : ∃ B δ ex, ρ b = some (B, δ, ex) ∧ ex = none := by
              obtain ⟨B, δ, x, c, t, fz, h1, _, _, _, _, h6, _⟩ := hl; exact ⟨B, δ, x, h1, h6 rfl⟩
             subst hex
             obtain ⟨old, q1, q2⟩ := row_cells hl hb1 o (len * i.size)
             have hold : old.length = len * i.size := by rw [convs_length q1]; simp; omega
             simp only [conv, hb1] at hx
             simp at hx; subst hx
             obtain ⟨newCap, rest, k1, k2, k3⟩ := append_grow (ty := ty) (a := some ⟨B, δ + o, none⟩) (len := len) (cap := cap) (old := old) hu hu' hd hi hzero g1 h2' hroom
              (by simp only [Builtin.firstCells]; exact loadCells_run (w := w.drew) q2 hold) hb.1 hb.2
             rw [hzsz] at k2
             refine ⟨_, _, k3, Out.pre_drew ?_⟩
             have hkz : newCap * i.size = ((old ++ us) ++ rest).length := by
              rw [List.length_append, List.length_append, hus, g2, hold, k2, Nat.sub_mul, Nat.add_mul]
              have := Nat.mul_le_mul_right i.size k1
              rw [Nat.add_mul] at this
              omega
             have hcat := convs_append q1 g3
             refine openRow_run (k := newCap) hf hk hr.drew hcat (by omega) hkz (by rw [← convs_length hcat, List.length_append, hold, hus, g2, ← Nat.add_mul]; exact Nat.mul_le_mul_right _ k1) (fun ρ' hρ => ?_)
             simp only [conv, hρ]
             rw [if_pos (by simp; exact k1)]
             simp
            ·simp at h
           ·rename_i cs e' f z hg
            split at h
            ·rename_i hc
             obtain ⟨c1, c2, c3, c4⟩ := hc
             subst c1; subst c4
             simp at h; obtain ⟨rfl, rfl⟩ := h
             have hlook := St.look_of_get hg (by simp)
             have hl := hr.obj b _ hlook
             have hl0 := hl
             obtain ⟨B, δ, ex, c, ct, fz, h1, hB2, hB3, hB4, hB5, hB6, hB7⟩ := hl
             obtain ⟨_, hzp, kk, j1, j2, j3⟩ := hB5 rfl
             subst j1
             obtain ⟨hbase, hfz⟩ := hB4 rfl
             subst hfz
             have hblk : blk ρ b = some B := by simp [blk, h1]
             have hspent : ∀ w', Held base ρ b (.row cs e' true true false f i.size) w' → Held base ρ b (.row cs e' true true true f i.size) w' := fun w' q => q
             simp only [conv, h1] at hx
             split at hx
             ·rename_i hle
              simp at hx; subst hx
              simp only [Nat.zero_div, Nat.zero_add] at hle ⊢
              obtain ⟨old, q1, q2⟩ := row_cells hl0 h1 0 (len * i.size)
              simp only [List.drop_zero, Nat.add_zero] at q1 q2
              rw [c2, List.take_length] at q1
              have hold : old.length = len * i.size := by rw [convs_length q1]; omega
              have hcat := convs_append q1 g3
              have hnn : (if f = b then s else s.alone f).n = s.n := by split <;> rfl
              by_cases hin : len + n ≤ kk
              ·
               have hmul := Nat.mul_le_mul_right i.size hin
               rw [Nat.add_mul] at hmul
               have hrun := run_storeCells_at P B (δ + len * i.size) ct us 0 c w hB2 (by simp [hus, g2]; omega) (convs_oneCell g3 hcok)
               simp only [Nat.add_zero] at hrun
               have hturn := Turn.setRow (c' := (c.toList.take (δ + len * i.size) ++ us ++ c.toList.drop (δ + len * i.size + us.length)).toArray) hB2
               generalize hC : (c.toList.take (δ + len * i.size) ++ us ++ c.toList.drop (δ + len * i.size + us.length)).toArray = C at hrun hturn
               have hCsz : C.size = c.size := by rw [← hC]; simp [hus, g2]; omega
               have hlo : ∀ j, j < δ + len * i.size → C[j]? = c[j]? := by
                intro j hj
                rw [← hC, List.getElem?_toArray, List.append_assoc, List.getElem?_append_left (by simp; omega), List.getElem?_take, if_pos hj]; simp
               have hhi : ∀ j, j < us.length → C[δ + len * i.size + j]? = us[j]? := by
                intro j hj
                rw [← hC, List.getElem?_toArray, List.append_assoc, List.getElem?_append_right (by simp; omega), List.getElem?_append_left (by simp; omega)]
                congr 1; simp; omega
               have hheld : Held base ρ b (.row cs e' true true true f i.size) (w.setRow B C) := by
                refine ⟨B, δ, _, C, ct, (0, 0), h1, hturn.here, fun j v hj => ?_, fun _ => ⟨hbase, rfl⟩, fun _ => ⟨rfl, hzp, kk, rfl, by rw [hCsz]; exact j2, j3⟩, (fun q => nomatch q), by rw [hCsz]; exact hB7⟩
                obtain ⟨u, e1, e2⟩ := hB3 j v hj
                have := (List.getElem?_eq_some_iff.1 hj).1
                exact ⟨u, e1, by rw [hlo _ (by omega)]; exact e2⟩
               obtain ⟨ρ1, o1, o2, o3, o4, o5, o6, o7, o8⟩ := spend_run (v := aundef) (u := undef) hf hk hr hlook hblk hturn hheld rfl
               have hρ1 : ∀ b0, b0 < s.n → ρ1 b0 = ρ b0 := o1
               have o2' : Fresh s.n ρ1 := by rw [← hnn]; exact o2
               have hle1 : ρ.le ρ1 := o1.le hf
               have hlt := St.look_lt hlook
               have hb1 : ρ1 b = some (B, δ, some (i.size, kk)) := by rw [hρ1 b hlt]; exact h1
               have hlook1 : ((if f = b then s else s.alone f).set b (.row cs e' true true true f i.size)).look b = some (.row cs e' true true true f i.size) := by
                have hk1 : (if f = b then s else s.alone f).ok := by split; exact hk; exact St.ok_alone _ hk
                rw [St.look_set _ (by simp) b b hk1 (by rw [hnn]; exact hlt), if_pos rfl]
               have hn1 : ((if f = b then s else s.alone f).set b (.row cs e' true true true f i.size)).n = s.n := hnn
               have hcat1 := convs_mono (hle1.trans (Rho.with_le (B, δ, some (i.size, kk)) o2')) _ _ hcat
               have hnew : Held base (ρ1.with s.n (B, δ, some (i.size, kk))) s.n (.row (cs ++ news) e true true false f i.size) (w.setRow B C) := by
                refine ⟨B, δ, _, C, ct, (0, 0), Rho.with_self _ _ _, hturn.here, fun j v hj => ?_, fun _ => ⟨hbase, rfl⟩, fun _ => ⟨rfl, hzp, kk, rfl, by rw [hCsz]; exact j2, by rw [List.length_append, g2]; omega⟩, (fun q => nomatch q), by rw [hCsz, List.length_append, g2]; omega⟩
                obtain ⟨u, e1, e2⟩ := convs_get hcat1 j v hj
                refine ⟨u, e1, ?_⟩
                by_cases hj2 : j < cs.length
                ·rw [List.getElem?_append_left (by omega)] at e2
                 rw [List.getElem?_append_left hj2] at hj
                 obtain ⟨u2, e3, e4⟩ := hB3 j v hj
                 have e5 := conv_mono (hle1.trans (Rho.with_le (B, δ, some (i.size, kk)) o2')) _ _ e3
                 rw [e1] at e5; cases e5
                 rw [hlo _ (by omega)]; exact e4
                ·rw [List.getElem?_append_right (by omega)] at e2
                 have := (List.getElem?_eq_some_iff.1 e2).1
                 have := hhi (j - old.length) this
                 rw [← e2, ← this]; congr 1; omega
               have hrel := rel_alias (s1 := (if f = b then s else s.alone f).set b (.row cs e' true true true f i.size)) (x := .row (cs ++ news) e true true false f i.size) (ext := some (i.size, kk)) (δ := δ) (B := B)
                (by rw [hn1]; exact o2') o6 hlook1 rfl (by simp [blk, hb1]) (by simp [AO.single]) (by simp) rfl (by rw [hn1]; simp [AO.single]; have := hr.kin b _ hlook; simp only [AO.kinOf] at this; omega) (by rw [hn1]; exact hnew)
               rw [hn1] at hrel
               refine ⟨.slice (some ⟨B, δ, none⟩) (len + n) kk, w.setRow B C, append_room hu hu' hd hi g1 h2 hin (by simp only [addr_add]; exact hrun), ρ1.with s.n (B, δ, some (i.size, kk)), ?_, ?_, ?_, ?_, ?_, hrel, ?_, ?_⟩
               ·intro b0 hb0; unfold Rho.with; rw [if_neg (by omega)]; exact hρ1 b0 hb0
               ·intro b0 hb0
                have hb0' : s.n + 1 ≤ b0 := by rw [← hn1]; exact hb0
                unfold Rho.with; rw [if_neg (by omega)]; exact o2' b0 (by omega)
               ·simp only [Option.getD_some, St.push, St.set_def, hnn]; omega
               ·exact St.ok_push _ o4
               ·simp only [conv, Rho.with_self]
                rw [if_pos (by simp; exact hin)]; simp
               ·refine o7.trans ⟨rfl, rfl, rfl, Nat.le_refl _, fun _ _ _ => rfl, fun b0 o0 B0 q0 q3 q4 => ?_⟩
                simp only [Option.getD_some] at q0
                rw [St.look_push _ (by simp), hn1] at q0
                by_cases eb : b0 = s.n
                ·rw [if_pos eb] at q0
                 subst eb
                 refine .inr ⟨b, _, hlook1, rfl, ?_⟩
                 simp [blk, Rho.with_self] at q4
                 simp [blk, hb1, q4]
                ·rw [if_neg eb] at q0
                 refine .inr ⟨b0, o0, q0, q3, ?_⟩
                 unfold blk Rho.with at q4
                 rw [if_neg eb] at q4
                 exact q4
               ·refine o8.trans ⟨Nat.le_refl _, fun b0 _ hb0 => ?_⟩ o3
                simp only [Option.getD_some]
                rw [St.get_push, if_neg (by omega)]
              ·
               obtain ⟨newCap, rest, k1, k2, k3⟩ := append_grow (ty := ty) (a := some ⟨B, δ, none⟩) (len := len) (cap := kk) (old := old) hu hu' hd hi hzero g1 h2' hin
                (by simp only [Builtin.firstCells]; exact loadCells_run (w := w.drew) q2 hold) hb.1 hb.2
               rw [hzsz] at k2
               refine ⟨_, _, k3, Out.pre_drew ?_⟩
               have hheld : Held base ρ b (.row cs e' true true true f i.size) w.drew := by
                exact ⟨B, δ, _, c, ct, (0, 0), h1, hB2, hB3, fun _ => ⟨hbase, rfl⟩, fun _ => ⟨rfl, hzp, kk, rfl, j2, j3⟩, (fun q => nomatch q), hB7⟩
               obtain ⟨ρ1, o1, o2, o3, o4, o5, o6, o7, o8⟩ := spend_run (v := aundef) (u := undef) hf hk hr.drew hlook hblk (Turn.none (w := w.drew) hB2) hheld rfl
               have hn1 : ((if f = b then s else s.alone f).set b (.row cs e' true true true f i.size)).n = s.n := hnn
               have hlt := St.look_lt hlook
               have hlook1 : ((if f = b then s else s.alone f).set b (.row cs e' true true true f i.size)).look b = some (.row cs e' true true true f i.size) := by
                have hk1 : (if f = b then s else s.alone f).ok := by split; exact hk; exact St.ok_alone _ hk
                rw [St.look_set _ (by simp) b b hk1 (by rw [hnn]; exact hlt), if_pos rfl]
               have hkz : newCap * i.size = ((old ++ us) ++ rest).length := by
                rw [List.length_append, List.length_append, hus, g2, hold, k2, Nat.sub_mul, Nat.add_mul]
                have := Nat.mul_le_mul_right i.size k1
                rw [Nat.add_mul] at this
                omega
               have hcat1 := convs_mono (o1.le hf) _ _ hcat
               have hkb := hr.kin b _ hlook
               simp only [AO.kinOf] at hkb
               have hout := out_push (base := base) (ρ := ρ1) (s := (if f = b then s else s.alone f).set b (.row cs e' true true true f i.size)) (w := w.drew) (x := .row (cs ++ news) e true true false f i.size)
                (O := .cells ((old ++ us) ++ rest).toArray e) (ext := some (i.size, newCap)) (v := .slc s.n 0 (len + n) (len + n)) (u := .slice (some ⟨w.heap.size, 0, none⟩) (len + n) newCap)
                o2 o4 o6 (by simp) (by rw [hn1]; simp only [AO.kinOf]; omega)
                (fun b0 o0 q1 q2 => by
                 simp only [AO.kinOf]
                 intro e0; subst e0
                 by_cases eb : f = b
                 ·subst eb; rw [hlook1] at q1; cases q1; simp [AO.single] at q2
                 ·exact o6.alone f o0 q1 q2 b _ hlook1 (fun q => eb q.symm) rfl)
                o6.kin_lt
                (held_new (w := w.drew) (rest := rest) (Rho.with_self _ _ _) o6.base_le (convs_mono (Rho.with_le _ o2) _ _ hcat1)
                 (fun _ => ⟨hzp, newCap, rfl, Nat.le_of_eq hkz, by rw [← convs_length hcat, List.length_append, hold, hus, g2, ← Nat.add_mul]; exact Nat.mul_le_mul_right _ k1⟩) (fun q => nomatch q))
                (by rw [hn1]; simp only [conv, Rho.with_self]; rw [if_pos (by simp; exact k1)]; simp)
               obtain ⟨ρ2, p1, p2, p3, p4, p5, p6, p7, p8⟩ := hout
               exact ⟨ρ2, o1.trans p1 o3, p2, Nat.le_trans o3 p3, p4, p5, p6, o7.trans p7, o8.trans p8 o3⟩
             ·simp at hx
            ·simp at h
           ·simp at h
          ·simp at h
       ·simp at h
     ·simp at h
    ·simp at h
  ·simp at h
 ·simp at h
end Go.Vm
