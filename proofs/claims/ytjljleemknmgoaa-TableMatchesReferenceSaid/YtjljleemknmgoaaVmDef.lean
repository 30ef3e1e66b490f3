/-
 Part of the proof that a machine over named lists stands for the program's runs (VmDef). No conditions beyond those that its theorems name.
-/
import Derived.RangeFuncLeaves
import Derived.Lib.Bytealg
import Derived.RangeFuncCalls
import Derived.OrdersIn
import Derived.Below
namespace Go.Vm
noncomputable section
inductive SI where
 | lit (n : Int)
 | var (i : Nat)
 | bin (op : BinOp) (k : IntKind) (a b : SI)
 | cv (k : IntKind) (a : SI)
def SI.same : SI → SI → Bool
 | .lit n, .lit m => n == m
 | .var i, .var j => i == j
 | .bin o k a b, .bin o' k' a' b' => decide (o = o') && decide (k = k') && SI.same a a' && SI.same b b'
 | .cv k a, .cv k' a' => decide (k = k') && SI.same a a'
 | _, _ => false
structure Fact where
 eq : Bool
 a : SI
 b : SI
 r : Bool
class Facts where
 C : List Fact
 T : List FuncId
 drop : Bool
def known [Facts] (eq : Bool) (a b : SI) : Option Bool :=
 go Facts.C
where
 go : List Fact → Option Bool
  | [] => none
  | f :: l => if (f.eq == eq) && SI.same f.a a && SI.same f.b b then some f.r else go l
def arith (op : BinOp) (k : IntKind) (x y : Int) : Int :=
 match op with
 | .add => k.wrap (x + y)
 | .sub => k.wrap (x - y)
 | .mul => k.wrap (x * y)
 | .quo => k.wrap (x.tdiv y)
 | .rem => x.tmod y
 | .and => k.wrap (BitVec.ofInt k.bits x &&& BitVec.ofInt k.bits y).toNat
 | .or => k.wrap (BitVec.ofInt k.bits x ||| BitVec.ofInt k.bits y).toNat
 | .xor => k.wrap (BitVec.ofInt k.bits x ^^^ BitVec.ofInt k.bits y).toNat
 | .andNot => k.wrap (BitVec.ofInt k.bits x &&& ~~~ BitVec.ofInt k.bits y).toNat
 | .shl => k.wrap (x * 2 ^ (min y.toNat k.bits))
 | .shr => x.fdiv (2 ^ (min y.toNat k.bits))
 | _ => 0
def SI.val (σ : Nat → Int) : SI → Int
 | .lit n => n
 | .var i => σ i
 | .bin op k a b => arith op k (a.val σ) (b.val σ)
 | .cv k a => k.wrap (a.val σ)
def Fact.holds (σ : Nat → Int) (f : Fact) : Prop := if f.eq then (f.a.val σ == f.b.val σ) = f.r else decide (f.a.val σ < f.b.val σ) = f.r
class Val where
 σ : Nat → Int
class Sound [Facts] [Val] : Prop where
 ok : ∀ f ∈ Facts.C, f.holds Val.σ
variable [Facts]
inductive AV where
 | int (k : IntKind) (n : Int)
 | sym (k : IntKind) (e : SI)
 | bool (b : Bool)
 | str (s : List UInt8)
 | nilp
 | ptr (b o : Nat)
 | nils
 | slc (b o len cap : Nat)
 | esl (a : Addr)
 | nilm
 | mp (b : Nat)
 | nilf
 | fn (f : FuncId) (fst cap : List AV)
 | yld (b : Nat)
 | nili
 | ifc (t : TypeId) (v : AV)
 | agg (cs : List AV)
 | tup (cs : List AV)
def AV.cells : AV → List AV
 | .agg cs => cs
 | v => [v]
def AV.isCell : AV → Bool
 | .agg _ | .tup _ => false
 | _ => true
mutual
def AV.flat : AV → Bool
 | .ptr _ _ | .slc _ _ _ _ | .mp _ | .yld _ => false
 | .fn _ a c => AV.flats a && AV.flats c
 | .ifc _ v => v.flat
 | .agg cs | .tup cs => AV.flats cs
 | _ => true
def AV.flats : List AV → Bool
 | [] => true
 | v :: vs => v.flat && AV.flats vs
end
def aundef : AV := .tup []
inductive AX where
 | normal
 | ret
 | exit (id : Nat)
inductive AO where
 | row (cs : List AV) (elem : TypeId) (opn own spent : Bool) (fam z : Nat)
 | map (es : List (AV × AV))
 | loop (st : LoopState) (pend : Option AX) (tmps : List AV) (params : List Tmp) (assign body : Code) (dfr : Nat)
 | sit (s : List UInt8) (pos : Nat)
 | dfr
 | dead
def getF {α : Type} (l : List α) : Nat → Option α := List.rec (motive := fun _ => Nat → Option α) (fun _ => none) (fun a _ ih i => Nat.rec (motive := fun _ => Option α) (some a) (fun j _ => ih j) i) l
def setF {α : Type} (l : List α) : Nat → α → List α := List.rec (motive := fun _ => Nat → α → List α) (fun _ _ => []) (fun a t ih i v => Nat.rec (motive := fun _ => List α) (v :: t) (fun j _ => a :: ih j v) i) l
omit [Facts] in
theorem getF_eq {α : Type} : ∀ (l : List α) (i : Nat), getF l i = l[i]?
 | [], _ => rfl
 | _ :: _, 0 => rfl
 | _ :: l, i + 1 => getF_eq l i
omit [Facts] in
theorem setF_eq {α : Type} : ∀ (l : List α) (i : Nat) (v : α), setF l i v = l.set i v
 | [], _, _ => rfl
 | _ :: _, 0, _ => rfl
 | a :: l, i + 1, v => congrArg (a :: ·) (setF_eq l i v)
structure St where
 n : Nat
 h : List AO
 dirty : Nat
def minF (a b : Nat) : Nat := Bool.rec (motive := fun _ => Nat) b a (Nat.ble a b)
omit [Facts] in
theorem minF_eq (a b : Nat) : minF a b = min a b := by
 unfold minF
 cases e : Nat.ble a b with
 | true => have := Nat.le_of_ble_eq_true e; show a = _; omega
 | false => have : ¬ a ≤ b := fun h => by rw [Nat.ble_eq_true_of_le h] at e; cases e
            show b = _; omega
omit [Facts] in
theorem minF_l (a b : Nat) : minF a b ≤ a := by rw [minF_eq]; exact Nat.min_le_left _ _
omit [Facts] in
theorem minF_r (a b : Nat) : minF a b ≤ b := by rw [minF_eq]; exact Nat.min_le_right _ _
omit [Facts] in
theorem le_minF {a b c : Nat} (h : c ≤ a) (k : c ≤ b) : c ≤ minF a b := by rw [minF_eq]; exact Nat.le_min.2 ⟨h, k⟩
def St.get (s : St) (b : Nat) : Option AO := Bool.rec (motive := fun _ => Option AO) none (getF s.h (Nat.sub (Nat.sub s.n 1) b)) (Nat.ble (Nat.succ b) s.n)
def St.set (s : St) (b : Nat) (x : AO) : St := { n := s.n, h := setF s.h (Nat.sub (Nat.sub s.n 1) b) x, dirty := minF s.dirty b }
omit [Facts] in
theorem St.get_def (s : St) (b : Nat) : s.get b = if b < s.n then s.h[s.n - 1 - b]? else none := by
 unfold St.get; rw [getF_eq]
 cases e : Nat.ble (Nat.succ b) s.n with
 | true => have := Nat.le_of_ble_eq_true e; rw [if_pos (by omega)]; rfl
 | false => have : ¬ b < s.n := fun h => by rw [Nat.ble_eq_true_of_le h] at e; cases e
            rw [if_neg this]
omit [Facts] in
theorem St.set_def (s : St) (b : Nat) (x : AO) : s.set b x = { n := s.n, h := s.h.set (s.n - 1 - b) x, dirty := min s.dirty b } := by unfold St.set; rw [setF_eq, minF_eq]; rfl
def St.push (s : St) (x : AO) : St := { n := s.n + 1, h := x :: s.h, dirty := s.dirty }
def AO.kin (f : Nat) : AO → AO
 | .row cs e o w p g z => if g = f then .dead else .row cs e o w p g z
 | x => x
def kinL (f : Nat) (l : List AO) : List AO := List.rec (motive := fun _ => List AO) [] (fun x _ ih => AO.rec (motive := fun _ => List AO) (fun _ _ _ _ _ g _ => Bool.rec (motive := fun _ => List AO) (x :: ih) (.dead :: ih) (Nat.beq g f)) (fun _ => x :: ih) (fun _ _ _ _ _ _ _ => x :: ih) (fun _ _ => x :: ih) (x :: ih) (x :: ih) x) l
omit [Facts] in
theorem kinL_eq (f : Nat) : ∀ l : List AO, kinL f l = l.map (AO.kin f)
 | [] => rfl
 | x :: l => by
  have ih := kinL_eq f l
  cases x with
  | row cs e o w p g z =>
   show Bool.rec (motive := fun _ => List AO) (_ :: kinL f l) (.dead :: kinL f l) (Nat.beq g f) = _ :: l.map (AO.kin f)
   rw [ih]
   by_cases h : g = f
   ·subst h; rw [Nat.beq_refl]; simp [AO.kin]
   ·have : Nat.beq g f = false := by
     cases e : Nat.beq g f with
     | false => rfl
     | true => exact absurd (Nat.eq_of_beq_eq_true e) h
    rw [this]; simp [AO.kin, h]
  | _ => exact congrArg (_ :: ·) ih
def St.alone (s : St) (f : Nat) : St := { n := s.n, h := kinL f s.h, dirty := minF s.dirty f }
omit [Facts] in
theorem St.alone_def (s : St) (f : Nat) : s.alone f = { n := s.n, h := s.h.map (AO.kin f), dirty := min s.dirty f } := by unfold St.alone; rw [kinL_eq, minF_eq]
def ofScalar : Value → Option AV
 | .int k n => some (.int k n)
 | .bool b => some (.bool b)
 | .string s => some (.str s.data.toList)
 | .pointer none => some .nilp
 | .slice none 0 0 => some .nils
 | .map none => some .nilm
 | .nilFunc => some .nilf
 | .nilIface => some .nili
 | _ => none
def ofScalars : List Value → Option (List AV)
 | [] => some []
 | v :: vs => match ofScalar v, ofScalars vs with
  | some a, some as => some (a :: as)
  | _, _ => none
def ofConst : Value → Option AV
 | .agg cs => (ofScalars cs.toList).map .agg
 | .tuple vs => if vs.isEmpty then some (.tup []) else none
 | v => ofScalar v
def zeroOf (P : Program) (t : TypeId) : Option AV :=
 match P.info? t with
 | some i => match i.zero with
  | some z => ofConst z
  | none => none
 | none => none
def isAggT (P : Program) (t : TypeId) : Option Bool :=
 match P.underlying t with
 | some (.struct _) | some (.array _ _) => some true
 | some _ => some false
 | none => none
def sizeT (P : Program) (t : TypeId) : Option Nat := match P.info? t with | some i => some i.size | none => none
def aEval (t : List AV) : Operand → Option AV
 | .tmp i => some ((getF t i).getD aundef)
 | .const v => ofConst v
 | .global _ => none
 | .func f => some (.fn f [] [])
def aEvals (t : List AV) : List Operand → Option (List AV)
 | [] => some []
 | x :: xs => match aEval t x, aEvals t xs with
  | some a, some as => some (a :: as)
  | _, _ => none
def intBin (op : BinOp) (k : IntKind) (x y : Int) : Option AV :=
 match op with
 | .add => some (.int k (k.wrap (x + y)))
 | .sub => some (.int k (k.wrap (x - y)))
 | .mul => some (.int k (k.wrap (x * y)))
 | .quo => if y = 0 then none else some (.int k (k.wrap (x.tdiv y)))
 | .rem => if y = 0 then none else some (.int k (x.tmod y))
 | .and => some (.int k (k.wrap (BitVec.ofInt k.bits x &&& BitVec.ofInt k.bits y).toNat))
 | .or => some (.int k (k.wrap (BitVec.ofInt k.bits x ||| BitVec.ofInt k.bits y).toNat))
 | .xor => some (.int k (k.wrap (BitVec.ofInt k.bits x ^^^ BitVec.ofInt k.bits y).toNat))
 | .andNot => some (.int k (k.wrap (BitVec.ofInt k.bits x &&& ~~~ BitVec.ofInt k.bits y).toNat))
 | .eql => some (.bool (x == y))
 | .neq => some (.bool (x != y))
 | .lss => some (.bool (decide (x < y)))
 | .leq => some (.bool (decide (x ≤ y)))
 | .gtr => some (.bool (decide (x > y)))
 | .geq => some (.bool (decide (x ≥ y)))
 | _ => none
def strBin (op : BinOp) (x y : List UInt8) : Option AV :=
 let eq := x == y
 let lt := Op.bytesLess x y
 match op with
 | .add => if x.length + y.length ≤ 9223372036854775807 then some (.str (x ++ y)) else none
 | .eql => some (.bool eq)
 | .neq => some (.bool !eq)
 | .lss => some (.bool lt)
 | .leq => some (.bool (lt || eq))
 | .gtr => some (.bool !(lt || eq))
 | .geq => some (.bool !lt)
 | _ => none
def eqScalar : AV → AV → Option Bool
 | .int k x, .int k' y => if k = k' then some (x == y) else none
 | .bool x, .bool y => some (x == y)
 | .str x, .str y => some (x == y)
 | _, _ => none
def partT (P : Program) (t : TypeId) (cs : List AV) (off : Nat) : Option AV :=
 match isAggT P t, sizeT P t with
 | some true, some n => some (.agg ((cs.drop off).take n))
 | some false, _ => cs[off]?
 | _, _ => none
def eqFields (P : Program) (eq : TypeId → AV → AV → Option Bool) (fs : List Field) (xs ys : List AV) : Option Bool :=
 match fs with
 | [] => some true
 | f :: fs =>
  if f.name = "_" then none else
  match partT P f.type xs f.offset, partT P f.type ys f.offset with
  | some a, some b => match eq f.type a b with
   | some true => eqFields P eq fs xs ys
   | r => r
  | _, _ => none
def eqElems (P : Program) (eq : TypeId → AV → AV → Option Bool) (e : TypeId) (c : Nat) (xs ys : List AV) (is : List Nat) : Option Bool :=
 match is with
 | [] => some true
 | i :: is =>
  match partT P e xs (i * c), partT P e ys (i * c) with
  | some a, some b => match eq e a b with
   | some true => eqElems P eq e c xs ys is
   | r => r
  | _, _ => none
def eqT (P : Program) : Nat → TypeId → AV → AV → Option Bool
 | 0, _, _, _ => none
 | d + 1, t, x, y =>
  match P.underlying t, x, y with
  | some (.int _), .int k a, .int k' b => if k = k' then some (a == b) else none
  | some .bool, .bool a, .bool b => some (a == b)
  | some .string, .str a, .str b => some (a == b)
  | some (.slice _), .nils, .nils => some true
  | some (.slice _), .nils, .slc _ _ _ _ => some false
  | some (.slice _), .slc _ _ _ _, .nils => some false
  | some (.slice _), .nils, .esl _ => some false
  | some (.slice _), .esl _, .nils => some false
  | some (.map _ _), .nilm, .nilm => some true
  | some (.map _ _), .nilm, .mp _ => some false
  | some (.map _ _), .mp _, .nilm => some false
  | some (.func _ _ _), .nilf, .nilf => some true
  | some (.func _ _ _), .nilf, .fn _ _ _ => some false
  | some (.func _ _ _), .fn _ _ _, .nilf => some false
  | some (.pointer _), .nilp, .nilp => some true
  | some (.pointer _), .nilp, .ptr _ _ => some false
  | some (.pointer _), .ptr _ _, .nilp => some false
  | some (.struct fields), .agg xs, .agg ys => if P.stoodInHeld t then none else eqFields P (eqT P d) fields.toList xs ys
  | some (.array n e), .agg xs, .agg ys => match P.info? e with
   | some _ => eqElems P (eqT P d) e (P.cellsOf e) xs ys (List.range n)
   | none => none
  | _, _, _ => none
def intOf : AV → Option Int
 | .int _ n => some n
 | _ => none
def eqShape : AV → AV → Bool
 | .bool _, .bool _ => true
 | .nils, .nils => true
 | .nils, .slc _ _ _ _ => true
 | .slc _ _ _ _, .nils => true
 | .nils, .esl _ => true
 | .esl _, .nils => true
 | .nilm, .nilm => true
 | .nilm, .mp _ => true
 | .mp _, .nilm => true
 | .nilf, .nilf => true
 | .nilf, .fn _ _ _ => true
 | .fn _ _ _, .nilf => true
 | .nilp, .nilp => true
 | .nilp, .ptr _ _ => true
 | .ptr _ _, .nilp => true
 | .agg _, .agg _ => true
 | _, _ => false
def siOf : AV → Option (IntKind × SI)
 | .int k n => some (k, .lit n)
 | .sym k e => some (k, e)
 | _ => none
def symBin (op : BinOp) (k : IntKind) (a b : SI) : Option AV :=
 match op with
 | .add | .sub | .mul | .and | .or | .xor | .andNot => some (.sym k (.bin op k a b))
 | .quo | .rem => match b with
  | .lit n => if n = 0 then none else some (.sym k (.bin op k a b))
  | _ => match known true b (.lit 0) with
   | some false => some (.sym k (.bin op k a b))
   | _ => none
 | .eql => (known true a b).map .bool
 | .neq => (known true a b).map fun r => .bool !r
 | .lss => (known false a b).map .bool
 | .gtr => (known false b a).map .bool
 | .leq => (known false b a).map fun r => .bool !r
 | .geq => (known false a b).map fun r => .bool !r
 | _ => none
def symA (op : BinOp) (x y : AV) : Option AV :=
 match siOf x, siOf y with
 | some (k, a), some (k', b) => match op, b with
  | .shl, .lit n | .shr, .lit n => if n < 0 then none else some (.sym k (.bin op k a b))
  | _, _ => if k = k' then symBin op k a b else none
 | _, _ => none
def isSym : AV → Bool
 | .sym _ _ => true
 | _ => false
def binA (P : Program) (op : BinOp) (t : TypeId) (x y : AV) : Option AV :=
 if isSym x || isSym y then symA op x y else
 match op, x, y with
 | .shl, .int k a, .int _ b => if b < 0 then none else some (.int k (k.wrap (a * 2 ^ (min b.toNat k.bits))))
 | .shr, .int k a, .int _ b => if b < 0 then none else some (.int k (a.fdiv (2 ^ (min b.toNat k.bits))))
 | _, .int k a, .int k' b => if k = k' then intBin op k a b else none
 | _, .str a, .str b => strBin op a b
 | .eql, x, y => if eqShape x y && !(P.eqGuardType P.depth t) then (match eqT P 100 t x y with | some b => some (.bool b) | none => none) else none
 | .neq, x, y => if eqShape x y && !(P.eqGuardType P.depth t) then (match eqT P 100 t x y with | some b => some (.bool (!b)) | none => none) else none
 | _, _, _ => none
def unA (op : UnOp) (x : AV) : Option AV :=
 match op, x with
 | .neg, .int k n => some (.int k (k.wrap (0 - n)))
 | .xor, .int k n => some (.int k (k.wrap (BitVec.ofInt k.bits (if k.signed then -1 else k.max) ^^^ BitVec.ofInt k.bits n).toNat))
 | .not, .bool b => some (.bool !b)
 | _, _ => none
def convA (P : Program) (src dst : TypeId) (x : AV) : Option AV :=
 match P.underlying src, P.underlying dst, x with
 | some _, some (.int k), .int _ n => some (.int k (k.wrap n))
 | some _, some (.int k), .sym _ e => some (.sym k (.cv k e))
 | some _, some .string, .str s => some (.str s)
 | _, _, _ => none
def putCells (cs : List AV) (off : Nat) : List AV → List AV
 | [] => cs
 | v :: vs => putCells (cs.set off v) (off + 1) vs
def fillA (place : Nat → Option (Nat × Nat)) (cells : List AV) : List (Nat × AV) → Option (List AV)
 | [] => some cells
 | (i, v) :: rest =>
  match place i with
  | none => none
  | some (off, size) =>
   if v.cells.length ≠ size || off + v.cells.length > cells.length then none
   else fillA place (putCells cells off v.cells) rest
def placesA (P : Program) : List Field → Option (List (Nat × Nat))
 | [] => some []
 | f :: fs => match sizeT P f.type, placesA P fs with
  | some n, some l => some ((f.offset, n) :: l)
  | _, _ => none
def partsA (t : List AV) : List (Nat × Operand) → Option (List (Nat × AV))
 | [] => some []
 | (i, x) :: l => match aEval t x, partsA t l with
  | some v, some r => some ((i, v) :: r)
  | _, _ => none
def cellsOk : List AV → Bool
 | [] => true
 | v :: vs => v.isCell && cellsOk vs
def buildA (P : Program) (t : TypeId) (parts : List (Nat × AV)) : Option AV :=
 match zeroOf P t with
 | some z =>
  match P.underlying t with
  | some (.struct fields) => match placesA P fields.toList with
   | some pl => (fillA (fun i => pl[i]?) z.cells parts).map .agg
   | none => none
  | some (.array _ elem) => match sizeT P elem with
   | some n => (fillA (fun i => some (i * n, n)) z.cells parts).map .agg
   | none => none
  | _ => none
 | none => none
def rep (cs : List AV) : Nat → List AV
 | 0 => []
 | n + 1 => cs ++ rep cs n
def zerosA (P : Program) (e : TypeId) (n : Nat) : Option (List AV) :=
 match zeroOf P e with
 | some z => some (rep z.cells n)
 | none => none
def boundA (x : Option AV) (dflt top : Nat) : Option Nat :=
 match x with
 | none => some dflt
 | some (.int _ i) => if 0 ≤ i ∧ i ≤ top then some i.toNat else none
 | some _ => none
def optA (t : List AV) : Option Operand → Option (Option AV)
 | none => some none
 | some x => (aEval t x).map some
def zOf (s : St) (b : Nat) : Nat :=
 match s.get b with
 | some (.row _ _ _ _ _ _ z) => z
 | _ => 0
def isOpen (s : St) (b : Nat) : Option Bool :=
 match s.get b with
 | some (.row _ _ o _ _ _ _) => some o
 | _ => none
def sliceA (P : Program) (s : St) (t : TypeId) (x : AV) (lo hi mx : Option AV) : Option AV :=
 match P.underlying t, x with
 | some .string, .str l => match mx with
  | some _ => none
  | none => match boundA hi l.length l.length with
   | some h => match boundA lo 0 h with
    | some k => some (.str ((l.drop k).take (h - k)))
    | none => none
   | none => none
 | some (.slice e), .nils => match sizeT P e, boundA mx 0 0, boundA hi 0 0, boundA lo 0 0 with
  | some _, some _, some _, some _ => some .nils
  | _, _, _, _ => none
 | some (.slice e), .slc b o len cap =>
  match sizeT P e, isOpen s b with
  | some z, some false => match boundA mx cap cap with
   | some m => match boundA hi len m with
    | some h => match boundA lo 0 h with
     | some k => some (.slc b (if m = k then o else o + k * z) (h - k) (m - k))
     | none => none
    | none => none
   | none => none
  | some z, some true => match mx with
   | some _ => none
   | none => match boundA hi len (min len cap) with
    | some h => match boundA lo 0 h with
     | some k => if h ≤ cap ∧ zOf s b = z ∧ 0 < z ∧ (k < len ∧ k < cap ∨ o = 0 ∧ k = len ∧ k ≤ cap ∨ k = 0 ∧ (len = 0 ∨ 0 < cap)) then some (.slc b (o + k * z) (h - k) (cap - k)) else none
     | none => none
    | none => none
  | _, _ => none
 | some (.array n e), .ptr b o =>
  match sizeT P e, isOpen s b with
  | some z, some false => match boundA mx n n with
   | some m => match boundA hi n m with
    | some h => match boundA lo 0 h with
     | some k => some (.slc b (if m = k then o else o + k * z) (h - k) (m - k))
     | none => none
    | none => none
   | none => none
  | _, _ => none
 | _, _ => none
abbrev Res := Option (AV × Option St)
def stay : Option AV → Res
 | some v => some (v, none)
 | none => none
def loadA (P : Program) (s : St) (t : TypeId) (a : AV) : Option AV :=
 match a with
 | .ptr b o => match s.get b with
  | some (.row cs _ _ _ _ _ _) => match isAggT P t, sizeT P t with
   | some true, some n => if o + n ≤ cs.length then some (.agg ((cs.drop o).take n)) else none
   | some false, _ => cs[o]?
   | _, _ => none
  | _ => none
 | _ => none
def writeA (s : St) (b o : Nat) (vs : List AV) : Option St :=
 match s.get b with
 | some (.row cs e op true sp f z) =>
  if o + vs.length ≤ cs.length && cellsOk vs then
   (if f = b && !sp then some (s.set b (.row (putCells cs o vs) e op true sp f z))
    else some ((s.alone f).set b (.row (putCells cs o vs) e op true sp f z)))
  else none
 | _ => none
def storeA (P : Program) (s : St) (t : TypeId) (a v : AV) : Option St :=
 match a with
 | .ptr b o => match sizeT P t with
  | some n => if v.cells.length = n then writeA s b o v.cells else none
  | none => none
 | _ => none
def newRow (s : St) (cs : List AV) (e : TypeId) (op : Bool) (z : Nat) : St := s.push (.row cs e op true false s.n z)
def boxA (s : St) (e : TypeId) (v : AV) : Res :=
 if cellsOk v.cells then some (.ptr s.n 0, some (newRow s v.cells e false 0)) else none
def makeSliceA (P : Program) (s : St) (t : TypeId) (l c : AV) : Res :=
 match P.underlying t, l, c with
 | some (.slice e), .int _ l, .int _ c =>
  match P.info? e, zerosA P e c.toNat with
  | some i, some zs =>
   if 0 ≤ l ∧ l ≤ c ∧ c < 9223372036854775808 ∧ i.bytes * c.toNat ≤ 140737488355328 ∧ zs.length = c.toNat * i.size ∧ cellsOk zs = true then
    some (.slc s.n 0 l.toNat c.toNat, some (newRow s zs e false i.size))
   else none
  | _, _ => none
 | _, _, _ => none
def buildSliceA (P : Program) (s : St) (t : TypeId) (len : Nat) (parts : List (Nat × AV)) : Res :=
 match P.underlying t with
 | some (.slice e) => match sizeT P e, zerosA P e len with
  | some n, some zs =>
   if len * n ≤ 16777216 ∧ zs.length = len * n then
    match fillA (fun i => some (i * n, n)) zs parts with
    | some cs => if cellsOk cs then some (.slc s.n 0 len len, some (newRow s cs e false n)) else none
    | none => none
   else none
  | _, _ => none
 | _ => none
def fieldAddrA (P : Program) (t : TypeId) (a : AV) (f : Nat) : Option AV :=
 match P.underlying t, a with
 | some (.struct fields), .ptr b o => match fields.toList[f]? with
  | some fd => match sizeT P fd.type with
   | some (_ + 1) => some (.ptr b (o + fd.offset))
   | _ => none
  | none => none
 | _, _ => none
def fieldA (P : Program) (t : TypeId) (x : AV) (f : Nat) : Option AV :=
 match P.underlying t, x with
 | some (.struct fields), .agg cs => match fields.toList[f]? with
  | some fd => partT P fd.type cs fd.offset
  | none => none
 | _, _ => none
def indexAddrA (P : Program) (t : TypeId) (x ix : AV) : Option AV :=
 match P.underlying t, x, ix with
 | some (.array len e), .ptr b o, .int _ i => match sizeT P e with
  | some n => if 0 ≤ i ∧ i < len then some (.ptr b (o + i.toNat * n)) else none
  | none => none
 | some (.slice e), .slc b o len _, .int _ i => match sizeT P e with
  | some n => if 0 ≤ i ∧ i < len then some (.ptr b (o + i.toNat * n)) else none
  | none => none
 | _, _, _ => none
def indexA (P : Program) (t : TypeId) (x ix : AV) : Option AV :=
 match P.underlying t, x, ix with
 | some (.array len e), .agg cs, .int _ i => match sizeT P e with
  | some n => if 0 ≤ i ∧ i < len then partT P e cs (i.toNat * n) else none
  | none => none
 | some .string, .str l, .int _ i => if 0 ≤ i then (l[i.toNat]?).map fun b => .int .u8 b.toNat else none
 | _, _, _ => none
def sameKeyA (t : TypeDesc) (x y : AV) : Option Bool :=
 match t, x, y with
 | .int _, .int k a, .int k' b => if k = k' then some (a == b) else none
 | .string, .str a, .str b => some (a == b)
 | .bool, .bool a, .bool b => some (a == b)
 | _, _, _ => none
def findA (t : TypeDesc) (x : AV) : List (AV × AV) → Nat → Option (Option (Nat × AV))
 | [], _ => some none
 | e :: es, i => match sameKeyA t x e.1 with
  | some true => some (some (i, e.2))
  | some false => findA t x es (i + 1)
  | none => none
def plainKey : TypeDesc → AV → Bool
 | .int _, .int _ _ => true
 | .string, .str _ => true
 | .bool, .bool _ => true
 | _, _ => false
def sameCell : AV → AV → Bool
 | .int k a, .int k' b => k == k' && a == b
 | .str a, .str b => a == b
 | .bool a, .bool b => a == b
 | _, _ => false
def sameCells : List AV → List AV → Bool
 | [], [] => true
 | a :: as, b :: bs => sameCell a b && sameCells as bs
 | _, _ => false
def sameAgg : AV → AV → Bool
 | .agg as, .agg bs => sameCells as bs
 | _, _ => false
def keyFs (P : Program) (xs : List AV) : List Field → Bool
 | [] => true
 | f :: fs => (match P.underlying f.type, partT P f.type xs f.offset with
  | some kd, some v => plainKey kd v
  | _, _ => false) && keyFs P xs fs
def structKey (P : Program) (kd : TypeDesc) (k : AV) : Bool :=
 match kd, k with
 | .struct fs, .agg xs => keyFs P xs fs.toList
 | _, _ => false
def keyOk (P : Program) (kd : TypeDesc) (k : AV) : Bool := plainKey kd k || structKey P kd k
def findS (P : Program) (kt : TypeId) (x : AV) : List (AV × AV) → Nat → Option (Option (Nat × AV))
 | [], _ => some none
 | e :: es, i => match eqT P 100 kt x e.1 with
  | some true => if sameAgg x e.1 then some (some (i, e.2)) else none
  | some false => findS P kt x es (i + 1)
  | none => none
def findK (P : Program) (kt : TypeId) (kd : TypeDesc) (x : AV) (es : List (AV × AV)) : Option (Option (Nat × AV)) :=
 match plainKey kd x with
 | true => findA kd x es 0
 | false => findS P kt x es 0
def lookupA (P : Program) (s : St) (t : TypeId) (m k : AV) (ok : Bool) : Option AV :=
 match P.underlying t with
 | some (.map kt et) => match P.underlying kt with
  | some kd => if keyOk P kd k then
    match (match m with
     | .nilm => some []
     | .mp b => match s.get b with
      | some (.map es) => some es
      | _ => none
     | _ => none) with
    | some es => match findK P kt kd k es with
     | some (some (_, v)) => some (if ok then .tup [v, .bool true] else v)
     | some none => match zeroOf P et with
      | some z => some (if ok then .tup [z, .bool false] else z)
      | none => none
     | none => none
    | none => none
   else none
  | none => none
 | _ => none
def updateA (P : Program) (s : St) (t : TypeId) (m k v : AV) : Option St :=
 match P.underlying t, m with
 | some (.map kt _), .mp b => match P.underlying kt, s.get b with
  | some kd, some (.map es) => if keyOk P kd k then
    match findK P kt kd k es with
    | some (some (i, _)) => some (s.set b (.map (es.set i (k, v))))
    | some none => some (s.set b (.map (es ++ [(k, v)])))
    | none => none
   else none
  | _, _ => none
 | _, _ => none
def deleteA (P : Program) (s : St) (ts : List TypeId) (m k : AV) : Res :=
 match ts with
 | t :: _ => match P.underlying t, m with
  | some (.map kt _), .mp b => match P.underlying kt, s.get b with
   | some kd, some (.map es) => if plainKey kd k then
     match findA kd k es 0 with
     | some (some (i, _)) => some (aundef, some (s.set b (.map (es.eraseIdx i))))
     | some none => some (aundef, some (s.set b (.map es)))
     | none => none
    else none
   | _, _ => none
  | _, _ => none
 | _ => none
def givenA (s : St) (z : Nat) (x : AV) : Option (Nat × List AV) :=
 match x with
 | .nils => some (0, [])
 | .esl _ => some (0, [])
 | .slc b o len _ => match s.get b with
  | some (.row cs _ _ _ _ _ _) => if o + len * z ≤ cs.length then some (len, (cs.drop o).take (len * z)) else none
  | _ => none
 | .str l => if z = 1 then some (l.length, l.map fun b => .int .u8 b.toNat) else none
 | _ => none
def zOk (P : Program) (e : TypeId) (n : Nat) : Bool :=
 match zeroOf P e with
 | some z => z.cells.length == n
 | none => false
def appendA (P : Program) (s : St) (ts : List TypeId) (x y : AV) : Res :=
 match ts with
 | [t, t'] => match P.underlying t, P.underlying t' with
  | some (.slice e), some d' => match d' with
   | .int _ => none
   | _ => match P.info? e with
    | some i => match givenA s i.size y with
     | some (n, news) =>
      if i.size = 0 ∨ cellsOk news = false ∨ zOk P e i.size = false then none else
      match x with
      | .nils =>
       if n = 0 then some (.nils, none)
       else if n ≤ 4611686018427387904 ∧ n * i.bytes ≤ 140737488355328 then
        some (.slc s.n 0 n n, some (newRow s news e true i.size)) else none
      | .slc b o len cap =>
       if n = 0 then (if len ≤ cap then some (.slc b o len cap, none) else none) else
       if len + n ≤ cap then
        match writeA s b (o + len * i.size) news with
        | some s' => some (.slc b o (len + n) cap, some s')
        | none => none
       else if (len + n) ≤ 4611686018427387904 ∧ (len + n) * i.bytes ≤ 140737488355328 then
        match s.get b with
        | some (.row cs _ false _ _ _ _) =>
         if o + len * i.size ≤ cs.length ∧ cellsOk cs = true then
          some (.slc s.n 0 (len + n) (len + n), some (newRow s ((cs.drop o).take (len * i.size) ++ news) e true i.size))
         else none
        | some (.row cs e' true true false f z) =>
         if o = 0 ∧ len * i.size = cs.length ∧ cellsOk cs = true ∧ z = i.size then
          some (.slc s.n 0 (len + n) (len + n),
           some (((if f = b then s else s.alone f).set b (.row cs e' true true true f z)).push (.row (cs ++ news) e true true false f z)))
         else none
        | _ => none
       else none
      | _ => none
     | none => none
    | none => none
  | _, _ => none
 | _ => none
def copyA (P : Program) (s : St) (ts : List TypeId) (x y : AV) : Res :=
 match ts with
 | t :: _ => match P.underlying t with
  | some (.slice e) => match sizeT P e with
   | some z => match x with
    | .nils => match y with
     | .nils | .slc _ _ _ _ | .str _ => some (.int .i64 0, none)
     | _ => none
    | .slc b o len _ => match givenA s z y with
     | some (n, news) =>
      if min n len = 0 then some (.int .i64 0, none)
      else match writeA s b o (news.take (min n len * z)) with
       | some s' => some (.int .i64 (min n len : Nat), some s')
       | none => none
     | none => none
    | _ => none
   | none => none
  | _ => none
 | _ => none
def clearA (P : Program) (s : St) (ts : List TypeId) (x : AV) : Res :=
 match ts with
 | t :: _ => match P.underlying t with
  | some (.slice e) => match x with
   | .nils => some (aundef, none)
   | .slc b o len _ =>
    if len = 0 then some (aundef, none)
    else match zerosA P e len with
     | some zs => match writeA s b o zs with
      | some s' => some (aundef, some s')
      | none => none
     | none => none
   | _ => none
  | _ => none
 | _ => none
def lenA (P : Program) (s : St) (ts : List TypeId) (x : AV) : Option AV :=
 match ts with
 | t :: _ => match P.underlying t, x with
  | some .string, .str l => some (.int .i64 l.length)
  | some (.array n _), _ => some (.int .i64 n)
  | some (.slice _), .nils => some (.int .i64 0)
  | some (.slice _), .slc _ _ n _ => some (.int .i64 n)
  | some (.slice _), .esl _ => some (.int .i64 0)
  | some (.map _ _), .nilm => some (.int .i64 0)
  | some (.map _ _), .mp b => match s.get b with
   | some (.map es) => some (.int .i64 es.length)
   | _ => none
  | _, _ => none
 | _ => none
def maxA : AV → List AV → Option AV
 | x, [] => some x
 | .int k a, .int k' b :: r => if k = k' then maxA (.int k (if b > a then b else a)) r else none
 | x, y :: r => match siOf x, siOf y with
  | some (k, a), some (k', b) => if k = k' then (match known false a b with
   | some true => maxA y r
   | some false => maxA x r
   | none => none) else none
  | _, _ => none
def minA : AV → List AV → Option AV
 | x, [] => some x
 | .int k a, .int k' b :: r => if k = k' then minA (.int k (if b < a then b else a)) r else none
 | x, y :: r => match siOf x, siOf y with
  | some (k, a), some (k', b) => if k = k' then (match known false b a with
   | some true => minA y r
   | some false => minA x r
   | none => none) else none
  | _, _ => none
def builtinA (P : Program) (s : St) (b : Builtin) (ts : List TypeId) (args : List AV) : Res :=
 match b, args with
 | .len, [x] => stay (lenA P s ts x)
 | .append, [x, y] => appendA P s ts x y
 | .copy, [x, y] => copyA P s ts x y
 | .max, x :: r => stay (maxA x r)
 | .min, x :: r => stay (minA x r)
 | .delete, [m, k] => deleteA P s ts m k
 | .clear, [x] => clearA P s ts x
 | _, _ => none
def rangeA (P : Program) (s : St) (t : TypeId) (x : AV) : Res :=
 match P.underlying t, x with
 | some .string, .str l => some (.ptr s.n 0, some (s.push (.sit l 0)))
 | _, _ => none
def nextA (s : St) (it : AV) (isString : Bool) : Res :=
 match it, isString with
 | .ptr b 0, true => match s.get b with
  | some (.sit l pos) =>
   if pos < l.length then
    let r := Utf8.decode ⟨l.toArray⟩ pos
    some (.tup [.bool true, .int .i64 pos, .int .i32 r.1], some (s.set b (.sit l (pos + r.2))))
   else some (.tup [.bool false], none)
  | _ => none
 | _, _ => none
def u8s : List AV → Option (List UInt8)
 | [] => some []
 | .int .u8 n :: l => match u8s l with
  | some r => some (UInt8.ofNat n.toNat :: r)
  | none => none
 | _ :: _ => none
def strA (P : Program) (s : St) (src dst : TypeId) (a : AV) : Option AV :=
 match P.underlying src, P.underlying dst with
 | some (.slice e), some .string => match P.underlying e with
  | some (.int .u8) => match a with
   | .nils => some (.str [])
   | .slc b o len cap => match givenA s 1 (.slc b o len cap) with
    | some (_, news) => match u8s news with
     | some l => some (.str l)
     | none => none
    | none => none
   | _ => none
  | _ => none
 | _, _ => none
def castA (P : Program) (s : St) (src dst : TypeId) (a : AV) : Option AV :=
 match convA P src dst a with
 | some v => some v
 | none => strA P s src dst a
def prim (P : Program) (t : List AV) (s : St) (op : Op) : Res :=
 match op with
 | .move x | .assign x => stay (aEval t x)
 | .pick c a b => match aEval t c with
  | some (.bool true) => stay (aEval t a)
  | some (.bool false) => stay (aEval t b)
  | _ => none
 | .alloc e => match zeroOf P e with
  | some z => boxA s e z
  | none => none
 | .box e x => match aEval t x with
  | some v => boxA s e v
  | none => none
 | .build ty parts => match partsA t parts.toList with
  | some l => stay (buildA P ty l)
  | none => none
 | .buildSlice ty len parts => match partsA t parts.toList with
  | some l => buildSliceA P s ty len l
  | none => none
 | .load ty a => match aEval t a with
  | some v => stay (loadA P s ty v)
  | none => none
 | .store ty a x => match aEval t a, aEval t x with
  | some a, some v => match storeA P s ty a v with
   | some s' => some (aundef, some s')
   | none => none
  | _, _ => none
 | .nilCheck x => match aEval t x with
  | some (.ptr b o) => some (.ptr b o, none)
  | _ => none
 | .binOp op ty x y _ => match aEval t x, aEval t y with
  | some a, some b => stay (binA P op ty a b)
  | _, _ => none
 | .unOp op _ x => match aEval t x with
  | some a => stay (unA op a)
  | none => none
 | .convert src dst x => match aEval t x with
  | some a => stay (castA P s src dst a)
  | none => none
 | .makeFunc (.func f) first captured => match aEvals t first.toList, aEvals t captured.toList with
  | some a, some b => some (.fn f a b, none)
  | _, _ => none
 | .makeMap _ none => some (.mp s.n, some (s.push (.map [])))
 | .makeMap ty (some x) => match aEval t x, P.underlying ty with
  | some (.int _ _), some (.map _ _) => some (.mp s.n, some (s.push (.map [])))
  | _, _ => none
 | .makeSlice ty l c => match aEval t l, aEval t c with
  | some l, some c => makeSliceA P s ty l c
  | _, _ => none
 | .slice ty x lo hi mx => match aEval t x, optA t lo, optA t hi, optA t mx with
  | some x, some lo, some hi, some mx => if mx.isSome && hi.isNone then none else stay (sliceA P s ty x lo hi mx)
  | _, _, _, _ => none
 | .fieldAddr ty x f => match aEval t x with
  | some a => stay (fieldAddrA P ty a f)
  | none => none
 | .field ty x f => match aEval t x with
  | some a => stay (fieldA P ty a f)
  | none => none
 | .indexAddr ty x ix => match aEval t x, aEval t ix with
  | some a, some i => stay (indexAddrA P ty a i)
  | _, _ => none
 | .index ty x ix => match aEval t x, aEval t ix with
  | some a, some i => stay (indexA P ty a i)
  | _, _ => none
 | .lookup ty x ix ok => match aEval t x, aEval t ix with
  | some m, some k => stay (lookupA P s ty m k ok)
  | _, _ => none
 | .mapUpdate ty m k x => match aEval t m, aEval t k, aEval t x with
  | some m, some k, some v => match updateA P s ty m k v with
   | some s' => some (aundef, some s')
   | none => none
  | _, _, _ => none
 | .insert ty m k x => match aEval t m, aEval t k, aEval t x with
  | some m, some k, some v => match updateA P s ty m k v with
   | some s' => some (aundef, some s')
   | none => none
  | _, _, _ => none
 | .range ty x => match aEval t x with
  | some v => rangeA P s ty v
  | none => none
 | .next it isString => match aEval t it with
  | some v => nextA s v isString
  | none => none
 | .extract x i => match aEval t x with
  | some (.tup vs) => stay vs[i]?
  | _ => none
 | .call c => match c.callee, aEvals t c.args.toList with
  | .builtin b, some args => builtinA P s b c.argTypes.toList args
  | _, _ => none
 | _ => none
structure Fr where
 t : List AV
 d : List Nat
def Fr.put (f : Fr) (dst : Option Tmp) (v : AV) : Fr :=
 match dst with
 | some i => { f with t := setF f.t i v }
 | none => f
def wantedA (all : List Oper) (t : List AV) (o : Oper) : Bool :=
 match o.guard with
 | none => true
 | some (j, want) => match getF all j with
  | some q => match q.dst with
   | some i => match getF t i with
    | some (.bool b) => b == want
    | _ => false
   | none => false
  | none => false
def resultsA (P : Program) (s : St) (t : List AV) : List ResultVar → Option (List AV)
 | [] => some []
 | .tmp i :: rs => match resultsA P s t rs with
  | some vs => some (t.getD i aundef :: vs)
  | none => none
 | .cell i ty :: rs => match loadA P s ty (t.getD i aundef), resultsA P s t rs with
  | some v, some vs => some (v :: vs)
  | _, _ => none
def resultA (l : List AV) : AV :=
 match l with
 | [v] => v
 | vs => .tup vs
def shutA (s : St) : List Nat → Option St
 | [] => some s
 | b :: bs => match s.get b with
  | some .dfr => shutA (s.set b .dead) bs
  | _ => none
def setParams (t : List AV) : List Tmp → List AV → List AV
 | p :: ps, a :: as => setParams (t.set p a) ps as
 | _, _ => t
def boundTo (o : Oper) : List Nat := (o.after.toList.filter fun e => Region.binds .any e).map (·.on)
def befores (acc : List Nat) : List Oper → List Nat
 | [] => acc
 | o :: os => befores (acc ++ [(boundTo o).foldl (fun m j => m ||| 2 ^ j ||| acc.getD j 0) 0]) os
def cntName : String := (Extern.BytealgCount.rows.map Prod.fst).getD 1 ""
def idxName : String := (Extern.BytealgIndexByte.rows.map Prod.fst).getD 1 ""
def extA (fn : Func) (args : List AV) : Option AV :=
 if fn.origin == "" && fn.name == cntName then match args with
  | [.str l, .int .u8 c] => some (.int .i64 (Lib.countByte l c.toNat.toUInt8))
  | _ => none
 else if fn.origin == "" && fn.name == idxName then match args with
  | [.str l, .int .u8 c] => some (.int .i64 (Lib.indexByte l c.toNat.toUInt8))
  | _ => none
 else none
def seqA (P : Program) (t : List AV) (s : St) (op : Op) : Option AV :=
 match op with
 | .call c => match c.callee with
  | .value (.func g) => match P.funcs[g]? with
   | some fn => match fn.body with
    | some _ => none
    | none => match aEvals t c.args.toList with
     | some args => extA fn args
     | none => none
   | none => none
  | _ => none
 | _ => none
def blind (o : Oper) : Bool :=
 match o.op with
 | .move _ | .assign _ | .pick _ _ _ | .binOp _ _ _ _ _ | .unOp _ _ _ | .indexAddr _ _ _ | .index _ _ _ | .field _ _ _ | .fieldAddr _ _ _
 | .nilCheck _ | .makeFunc _ _ _ | .build _ _ | .extract _ _ => true
 | .call c => match c.callee with
  | .builtin .max | .builtin .min => true
  | _ => false
 | _ => false
def tmpsOf (all : List Oper) (o : Oper) : List Tmp :=
 (o.op.operands.toList.filterMap fun | .tmp i => some i | _ => none) ++
 (match o.guard with
  | some (j, _) => match all[j]? with
   | some q => q.dst.toList
   | none => []
  | none => [])
def distinct : List (Option Nat) → Bool
 | [] => true
 | none :: l => distinct l
 | some x :: l => !(l.contains (some x)) && distinct l
def tied (bs : List Nat) (j i : Nat) : Bool := (bs.getD i 0).testBit j
def readsOk (all : List Oper) (bs : List Nat) : Bool :=
 all.zipIdx.all fun (o, i) => (tmpsOf all o).all fun t =>
  all.zipIdx.all fun (q, j) => if q.dst == some t then (if j < i then tied bs j i else if i < j then tied bs i j else true) else true
def effOk (all : List Oper) (bs : List Nat) (eff : List Nat) : Bool :=
 eff.all fun i => all.zipIdx.all fun (q, j) =>
  if j = i then true else if blind q then true else if j < i then tied bs j i else tied bs i j
def hide (bs : List Nat) (i : Nat) (s : St) : List (Nat × Nat × Nat) → St
 | [] => s
 | (j, lo, hi) :: l => if tied bs j i then hide bs i s l else hide bs i { s with h := hideIn lo hi (s.n - 1) s.h } l
where
 hideIn (lo hi : Nat) : Nat → List AO → List AO
  | _, [] => []
  | k, x :: xs => (if lo ≤ k ∧ k < hi then .dead else x) :: hideIn lo hi (k - 1) xs
def newOk (n : Nat) : List AO → Bool
 | [] => true
 | .row _ _ _ w _ f _ :: l => w && decide (n ≤ f) && newOk n l
 | _ :: l => newOk n l
def edgesOk (all : List Oper) : Bool :=
 all.zipIdx.all fun (o, i) => (boundTo o).all fun j => decide (j < i)
def drawOk (all : List Oper) (eff : List Nat) : Bool :=
 let bs := befores [] all
 distinct (all.map (·.dst)) && edgesOk all && readsOk all bs && effOk all bs eff
mutual
def AV.older (n : Nat) : AV → Bool
 | .ptr b _ => decide (b < n)
 | .slc b _ _ _ => decide (b < n)
 | .mp b => decide (b < n)
 | .yld b => decide (b < n)
 | .fn _ a c => AV.olders n a && AV.olders n c
 | .ifc _ v => v.older n
 | .agg cs => AV.olders n cs
 | .tup cs => AV.olders n cs
 | _ => true
def AV.olders (n : Nat) : List AV → Bool
 | [] => true
 | v :: vs => v.older n && AV.olders n vs
end
def lastSet (all : List Oper) (j t : Nat) : Bool := all.zipIdx.all fun (q, k) => !(q.dst == some t) || decide (k < j)
def kinA (s : St) (b : Nat) : Nat :=
 match s.get b with
 | some (.row _ _ _ _ _ f _) => f
 | _ => b
def inB (b k : Nat) : List (Nat × Nat) → Bool
 | [] => false
 | (B, f) :: Bs => Nat.beq b B || Nat.beq k f || inB b k Bs
def lenArg (o : Oper) : Option Tmp :=
 match o.op with
 | .call c => match c.callee, c.args.toList with
  | .builtin .len, [.tmp t] => some t
  | _, _ => none
 | _ => none
def lenFree : Option AV → Bool
 | some .nils => true
 | some (.slc _ _ _ _) => true
 | _ => false
def freeB (all : List Oper) (f' : Fr) (s : St) (Bs : List (Nat × Nat)) (j : Nat) (q : Oper) : Bool :=
 (match q.guard with
  | some (g, want) => (match getF all g with
   | some p => (match p.dst with
    | some i => lastSet all j i && (match f'.t[i]? with
     | some (.bool b) => b != want
     | _ => false)
    | none => false)
   | none => false)
  | none => false) || (match q.op, q.dst with
 | .load _ (.tmp t), some d => lastSet all j t && (match f'.t[t]?, f'.t[d]? with
  | some (.ptr b _), some v => !(inB b (kinA s b) Bs) && decide (b < s.n ∧ kinA s b < s.n) && v.older s.n
  | _, _ => false)
 | _, _ => match lenArg q with
  | some t => lastSet all j t && lenFree f'.t[t]?
  | none => false)
def softB (all : List Oper) (f' : Fr) (s : St) (i : Nat) (o : Oper) : Option (Nat × Nat) :=
 match o.op with
 | .store _ (.tmp t) _ => if lastSet all i t then (match f'.t[t]? with
  | some (.ptr B _) => match s.get B with
   | some (.row _ _ _ _ _ f _) => some (B, f)
   | _ => if s.n ≤ B then some (B, B) else none
  | _ => none) else none
 | _ => none
def softBs (all : List Oper) (f' : Fr) (s : St) : List Nat → Option (List (Nat × Nat))
 | [] => some []
 | i :: is => match all[i]? with
  | some o => match softB all f' s i o with
   | some B => match softBs all f' s is with
    | some Bs => some (B :: Bs)
    | none => none
   | none => none
  | none => none
def tieAll (bs : List Nat) (j : Nat) : List Nat → Bool
 | [] => true
 | i :: is => (if j = i then true else if j < i then tied bs j i else tied bs i j) && tieAll bs j is
def drawOk2 (all : List Oper) (f' : Fr) (s : St) (eff : List Nat) : Bool :=
 match softBs all f' s eff with
 | some Bs => distinct (all.map (·.dst)) && edgesOk all && readsOk all (befores [] all) && all.zipIdx.all fun (q, j) =>
   if blind q then true else if tieAll (befores [] all) j eff then true else freeB all f' s Bs j q
 | none => false
mutual
def evC (P : Program) (rnd : Option Nat) : Nat → Code → Fr → St → Option (AX × Fr × St)
 | 0, _, _, _ => none
 | n + 1, c, f, s =>
  match c with
  | .skip => some (.normal, f, s)
  | .label _ => some (.normal, f, s)
  | .ret => some (.ret, f, s)
  | .exit id => some (.exit id, f, s)
  | .seq a b => match evC P rnd n a f s with
   | some (.normal, f', s') => evC P rnd n b f' s'
   | r => r
  | .cond c a b => match aEval f.t c with
   | some (.bool true) => evC P rnd n a f s
   | some (.bool false) => evC P rnd n b f s
   | _ => none
  | .block id a => match evC P rnd n a f s with
   | some (.exit id', f', s') => if id' = id then some (.normal, f', s') else some (.exit id', f', s')
   | r => r
  | .scope a => evC P rnd n a f s
  | .loop a => match evC P rnd n a f s with
   | some (.normal, f', s') => evC P rnd n (.loop a) f' s'
   | r => r
  | .region _ ops false => match evO P rnd n ops.toList ops.toList f s with
   | some (f', s') => some (.normal, f', s')
   | none => none
  | .region _ ops true => match evD P (befores [] ops.toList) n ops.toList ops.toList 0 f s [] [] with
   | some (f', s', eff) => if drawOk ops.toList eff || drawOk2 ops.toList f' s eff then some (.normal, f', s') else none
   | none => none
  | .rangeFunc g ps assign body =>
   match (match rnd with
    | none => some (s.n, [s.n], s.push .dfr)
    | some l => match s.get l with
     | some (.loop _ _ _ _ _ _ d) => some (d, [], s)
     | _ => none) with
   | some (D, mark, s1) =>
    match aEval f.t g with
    | some (.fn gid fst cap) =>
     match evF P n gid (fst ++ [.yld s1.n] ++ cap) (s1.push (.loop .ready none f.t ps.toList assign body D)) with
     | some (_, s3) =>
      match (s3.getD (s1.push (.loop .ready none f.t ps.toList assign body D))).get s1.n with
      | some (.loop st pend ts ps' as bo D') =>
       if st = .busy then none else
       let s4 := (s3.getD (s1.push (.loop .ready none f.t ps.toList assign body D))).set s1.n (.loop .exhausted pend ts ps' as bo D')
       match pend with
       | none => some (.normal, { f with d := mark ++ f.d }, s4)
       | some x => some (x, { f with d := mark ++ f.d }, s4)
      | _ => none
     | none => none
    | _ => none
   | none => none
  | _ => none
def evO (P : Program) (rnd : Option Nat) : Nat → List Oper → List Oper → Fr → St → Option (Fr × St)
 | 0, _, _, _, _ => none
 | n + 1, all, l, f, s =>
  match l with
  | [] => some (f, s)
  | o :: os =>
   if wantedA all f.t o then
    match seqA P f.t s o.op with
    | some v => evO P rnd n all os (f.put o.dst v) s
    | none => match evP P n o f s with
     | some (v, s') => evO P rnd n all os (f.put o.dst v) (s'.getD s)
     | none => none
   else evO P rnd n all os (f.put o.dst aundef) s
def evD (P : Program) (bs : List Nat) : Nat → List Oper → List Oper → Nat → Fr → St → List (Nat × Nat × Nat) → List Nat → Option (Fr × St × List Nat)
 | 0, _, _, _, _, _, _, _ => none
 | n + 1, all, l, i, f, s, made, eff =>
  match l with
  | [] => some (f, s, eff)
  | o :: os =>
   if wantedA all f.t o then
    match evP P n o f (hide bs i { s with dirty := s.n } made) with
    | some (v, none) => evD P bs n all os (i + 1) (f.put o.dst v) s made eff
    | some (v, some s') =>
     if s'.h.length = s'.n ∧ s.n ≤ s'.n ∧ blind o = false then
      if s.n ≤ s'.dirty then
       if newOk s.n (s'.h.take (s'.n - s.n)) then evD P bs n all os (i + 1) (f.put o.dst v) { n := s'.n, h := s'.h.take (s'.n - s.n) ++ s.h, dirty := s.dirty } ((i, s.n, s'.n) :: made) eff
       else none
      else evD P bs n all os (i + 1) (f.put o.dst v) { s' with dirty := min s.dirty s'.dirty } made (i :: eff)
     else none
    | none => none
   else evD P bs n all os (i + 1) (f.put o.dst aundef) s made eff
def evP (P : Program) : Nat → Oper → Fr → St → Res
 | 0, _, _, _ => none
 | n + 1, o, f, s =>
  match o.op with
  | .call c => match c.callee with
   | .value g => match aEval f.t g, aEvals f.t c.args.toList with
    | some (.fn fid fst cap), some args => evF P n fid (fst ++ args ++ cap) s
    | some (.yld b), some args => evR P n b args s
    | _, _ => none
   | _ => prim P f.t s o.op
  | _ => prim P f.t s o.op
def evR (P : Program) : Nat → Nat → List AV → St → Res
 | 0, _, _, _ => none
 | n + 1, b, args, s =>
  match s.get b with
  | some (.loop .ready _ ts ps assign body _) =>
   if args.length = ps.length then
    match evC P (some b) n assign { t := setParams ts ps args, d := [] } s with
    | some (.normal, f1, s1) =>
     match s1.get b with
     | some (.loop .ready pend1 ts1 ps1 as1 bo1 D1) =>
      match evC P (some b) n body f1 (s1.set b (.loop .busy pend1 ts1 ps1 as1 bo1 D1)) with
      | some (x, _, s3) =>
       match s3.get b with
       | some (.loop _ _ ts3 ps3 as3 bo3 D3) =>
        match x with
        | .normal => some (.bool true, some (s3.set b (.loop .ready none ts3 ps3 as3 bo3 D3)))
        | x => some (.bool false, some (s3.set b (.loop .done (some x) ts3 ps3 as3 bo3 D3)))
       | _ => none
      | none => none
     | _ => none
    | _ => none
   else none
  | _ => none
def evF (P : Program) : Nat → FuncId → List AV → St → Res
 | 0, _, _, _ => none
 | n + 1, fid, args, s =>
  match P.funcs[fid]? with
  | some fn => match fn.body with
   | some c =>
    if args.isEmpty && Facts.T.contains fid then some (.bool true, none) else
    match evC P none n c { t := args ++ List.replicate (fn.ntmps - args.length) aundef, d := [] } { s with dirty := s.n } with
    | some (.exit _, _, _) => none
    | some (_, f', s1) =>
     match shutA s1 f'.d with
     | some s2 => match resultsA P s2 f'.t fn.results.toList with
      | some vs =>
       if Facts.drop && (resultA vs).flat && decide (s.n ≤ s2.dirty) then some (resultA vs, none)
       else some (resultA vs, some { s2 with dirty := min s.dirty s2.dirty })
      | none => none
     | none => none
    | none => none
   | none => none
  | none => none
end
end
end Go.Vm
