/-
 Part of the proof that a machine over named lists stands for the program's runs (VwDef). No conditions beyond those that its theorems name.
-/
import Derived.Test.YtjljleemknmgoaaVmTop
namespace Go.Vm2
open Go Go.Vm
set_option linter.unusedVariables false
inductive CK where
 | int (k : IntKind)
 | bool
 | str
 | nils
 | list (e : Nat)
mutual
inductive D where
 | n (i : Int)
 | b (b : Bool)
 | s (l : List UInt8)
 | seq (a : AC)
inductive AC where
 | ints (l : List Int)
 | recs (l : List (List D))
end
abbrev Kt := List (Nat × List CK)
inductive V where
 | int (k : IntKind) (n : Int)
 | bool (b : Bool)
 | test (b : Bool)
 | str (s : List UInt8)
 | nilp
 | nils
 | nilm
 | nilf
 | nili
 | ptr (x o : Nat)
 | eptr (x i z o : Nat)
 | slc (x z o len : Nat)
 | grw (x len : Nat)
 | mp (x : Nat)
 | fn (f : FuncId) (fst cap : List V)
 | yld (x : Nat)
 | agg (cs : List V)
 | tup (cs : List V)
 | lst (κ : Kt) (e : Nat) (a : AC)
 | gptr (κ : Kt) (e : Nat) (a : AC) (i o : Nat)
def D.int : D → Int
 | .n i => i
 | _ => 0
def D.bool : D → Bool
 | .b x => x
 | _ => false
def D.str : D → List UInt8
 | .s l => l
 | _ => []
def D.ac : D → AC
 | .seq a => a
 | _ => .recs []
def AC.asI : AC → List Int
 | .ints l => l
 | _ => []
def AC.asR : AC → List (List D)
 | .recs l => l
 | _ => []
def AC.len : AC → Nat
 | .ints l => l.length
 | .recs l => l.length
def AC.cell (a : AC) (c : CK) (i j : Nat) : V :=
 match a with
 | .ints l => match c with
  | .int k => .int k (l.getD i 0)
  | .bool => .tup []
  | .str => .tup []
  | .nils => .tup []
  | .list _ => .tup []
 | .recs l => match c with
  | .int k => .int k ((l.getD i []).getD j (.n 0)).int
  | .bool => .test ((l.getD i []).getD j (.n 0)).bool
  | .str => .str ((l.getD i []).getD j (.n 0)).str
  | .nils => .nils
  | .list _ => .nils
def AC.dat (a : AC) (i j : Nat) : D :=
 match a with
 | .ints l => .n (l.getD i 0)
 | .recs l => (l.getD i []).getD j (.n 0)
inductive Mode where
 | rd
 | ro
 | own
 | grow
structure Frm where
 nt : Nat
 l : List (Nat × V)
 d : List Nat
inductive Ob where
 | cells (cs : List V)
 | arr (ks : List CK) (m : Mode) (a : AC)
 | loop (st : LoopState) (pend : Option AX) (t : List (Nat × V)) (nt : Nat) (params : List Tmp) (assign body : Code) (dfr : Nat)
 | dfr
 | sit (l : List UInt8) (pos : Nat)
 | map (kt : IntKind) (ks : List CK) (ag : Bool) (l : List (Int × List D))
 | smap (ks : List CK) (ag : Bool) (l : List (List UInt8 × List D))
 | pmap (ks : List CK) (ag : Bool) (l : List ((Int × Int) × List D))
 | tarr (κ : Kt) (e : Nat) (m : Mode) (a : AC)
 | tok
 | gone
structure H where
 nx : Nat
 fz : Nat
 l : List (Nat × Ob)
def look {α : Type} : List (Nat × α) → Nat → Option α
 | [], _ => none
 | (j, a) :: l, i => match Nat.beq j i with
  | true => some a
  | false => look l i
def H.get (h : H) (x : Nat) : Option Ob := look h.l x
def H.put (h : H) (x : Nat) (o : Ob) : H := { nx := h.nx, fz := h.fz, l := (x, o) :: h.l }
def H.new (h : H) (o : Ob) : H := { nx := h.nx + 1, fz := h.fz, l := (h.nx, o) :: h.l }
def H.getK (h : H) (x : Nat) (K : Ob → Prop) : Prop :=
 match h with
 | ⟨_, _, l⟩ => match look l x with
  | some o => K o
  | none => False
def H.putK (h : H) (x : Nat) (o : Ob) (K : H → Prop) : Prop :=
 match h with
 | ⟨nx, fz, l⟩ => match Nat.ble fz x with
  | true => K ⟨nx, fz, (x, o) :: l⟩
  | false => False
def H.newK (h : H) (o : Ob) (K : Nat → H → Prop) : Prop :=
 match h with
 | ⟨nx, fz, l⟩ => K nx ⟨nx + 1, fz, (nx, o) :: l⟩
def forceL {α : Type} : List α → (List α → Prop) → Prop
 | [], K => K []
 | a :: l, K => forceL l fun r => K (a :: r)
structure FI where
 off : Nat
 size : Nat
 agg : Bool
inductive TY where
 | int (k : IntKind)
 | bool
 | string
 | slice (e z b : Nat) (ks : List CK)
 | array (n e z : Nat)
 | struct (fs : List FI)
 | map (k : IntKind) (e : Nat)
 | smap (e : Nat)
 | pmap (e : Nat)
 | other
structure TI where
 ty : TY
 agg : Bool
 size : Nat
 zero : V
 eq : Bool
 kd : List CK
abbrev TT := List (Nat × TI)
def ktOf : TT → Kt
 | [] => []
 | (t, i) :: l => (t, i.kd) :: ktOf l
def kindsK (κ : Kt) (e : Nat) : List CK :=
 match look κ e with
 | some ks => ks
 | none => []
def V.cells : V → List V
 | .agg cs => cs
 | v => [v]
def V.isCell : V → Bool
 | .agg _ | .tup _ => false
 | _ => true
def cellsOk : List V → Bool
 | [] => true
 | v :: vs => v.isCell && cellsOk vs
def ofScalar : Value → Option V
 | .int k n => some (.int k n)
 | .bool b => some (.bool b)
 | .string s => some (.str s.data.toList)
 | .pointer none => some .nilp
 | .slice none 0 0 => some .nils
 | .map none => some .nilm
 | .nilFunc => some .nilf
 | .nilIface => some .nili
 | _ => none
def ofScalars : List Value → Option (List V)
 | [] => some []
 | v :: vs => match ofScalar v, ofScalars vs with
  | some a, some as => some (a :: as)
  | _, _ => none
def ofConst : Value → Option V
 | .agg cs => match ofScalars cs.toList with
  | some l => some (.agg l)
  | none => none
 | .tuple vs => match vs.toList with
  | [] => some (.tup [])
  | _ => none
 | v => ofScalar v
def eval (f : List (Nat × V)) : Operand → Option V
 | .tmp i => look f i
 | .const v => ofConst v
 | .global _ => none
 | .func g => some (.fn g [] [])
def evals (f : List (Nat × V)) : List Operand → Option (List V)
 | [] => some []
 | x :: xs => match eval f x with
  | some a => match evals f xs with
   | some as => some (a :: as)
   | none => none
  | none => none
def forceV (v : V) (K : V → Prop) : Prop :=
 match v with
 | .int k n => K (.int k n)
 | .test b => K (.test b)
 | .str s => K (.str s)
 | .bool b => K (.bool b)
 | .nils => K .nils
 | _ => False
def Node (p : Prop) : Prop := ∀ _ : Unit, p
def Branch (b : Bool) (p q : Prop) : Prop := Node ((b = true → p) ∧ (b = false → q))
def intBin (op : BinOp) (k : IntKind) (x y : Int) (K : V → Prop) : Prop :=
 match op with
 | .add => K (.int k (k.wrap (x + y)))
 | .sub => K (.int k (k.wrap (x - y)))
 | .mul => K (.int k (k.wrap (x * y)))
 | .quo => Node (y ≠ 0 ∧ K (.int k (k.wrap (x.tdiv y))))
 | .rem => Node (y ≠ 0 ∧ K (.int k (x.tmod y)))
 | .and => K (.int k (arith .and k x y))
 | .or => K (.int k (arith .or k x y))
 | .xor => K (.int k (arith .xor k x y))
 | .andNot => K (.int k (arith .andNot k x y))
 | .eql => K (.test (x == y))
 | .neq => K (.test (x != y))
 | .lss => K (.test (decide (x < y)))
 | .leq => K (.test (decide (x ≤ y)))
 | .gtr => K (.test (decide (x > y)))
 | .geq => K (.test (decide (x ≥ y)))
 | _ => False
def strBin (op : BinOp) (x y : List UInt8) (K : V → Prop) : Prop :=
 match op with
 | .add => Node (x.length + y.length ≤ 9223372036854775807 ∧ K (.str (x ++ y)))
 | .eql => K (.test (x == y))
 | .neq => K (.test (!(x == y)))
 | .lss => K (.test (Op.bytesLess x y))
 | _ => False
def kindEq (a b : IntKind) : Bool := Nat.beq a.ctorIdx b.ctorIdx
def scalarEq : V → V → Option Bool
 | .int k x, .int k' y => match kindEq k k' with
  | true => some (x == y)
  | false => none
 | .bool x, .bool y => some (x == y)
 | .bool x, .test y => some (x == y)
 | .test x, .bool y => some (x == y)
 | .test x, .test y => some (x == y)
 | .str x, .str y => some (x == y)
 | _, _ => none
def cellsEq : List V → List V → Option Bool
 | [], [] => some true
 | a :: as, b :: bs => match scalarEq a b with
  | some p => match as, bs with
   | [], [] => some p
   | _, _ => match cellsEq as bs with
    | some q => some (p && q)
    | none => none
  | none => none
 | _, _ => none
def tyOf (tt : TT) (t : TypeId) : TY :=
 match look tt t with
 | some i => i.ty
 | none => .other
def eqOf (tt : TT) (t : TypeId) : Bool :=
 match look tt t with
 | some i => i.eq
 | none => false
def boolOf : V → Option Bool
 | .bool b => some b
 | .test b => some b
 | _ => none
def boolBin (tt : TT) (op : BinOp) (t : TypeId) (x y : V) (K : V → Prop) : Prop :=
 match boolOf x, boolOf y, tyOf tt t, eqOf tt t with
 | some a, some b, .bool, true => match op with
  | .eql => K (.test (a == b))
  | .neq => K (.test (!(a == b)))
  | _ => False
 | _, _, _, _ => False
def kindOk : CK → V → Bool
 | .int k, .int k' _ => kindEq k k'
 | .bool, .bool _ => true
 | .bool, .test _ => true
 | .str, .str _ => true
 | .nils, .nils => true
 | _, _ => false
def kindsOk : List CK → List V → Bool
 | [], [] => true
 | c :: cs, v :: vs => kindOk c v && kindsOk cs vs
 | _, _ => false
def ckOf : V → Option CK
 | .int k _ => some (.int k)
 | .bool _ => some .bool
 | .str _ => some .str
 | .nils => some .nils
 | _ => none
def cksOf : List V → Option (List CK)
 | [] => some []
 | v :: vs => match ckOf v, cksOf vs with
  | some c, some l => some (c :: l)
  | _, _ => none
def aggBin (tt : TT) (op : BinOp) (t : TypeId) (xs ys : List V) (K : V → Prop) : Prop :=
 match look tt t with
 | some ti => match ti.eq, ti.ty, cksOf ti.zero.cells with
  | true, .struct _, some ks => match kindsOk ks xs, kindsOk ks ys, cellsEq xs ys with
   | true, true, some r => match op with
    | .eql => K (.test r)
    | .neq => K (.test (!r))
    | _ => False
   | _, _, _ => False
  | true, .array n e z, _ => match tyOf tt e, Nat.beq z 1 with
   | .int k, true => match kindsOk (List.replicate n (.int k)) xs, kindsOk (List.replicate n (.int k)) ys, cellsEq xs ys with
    | true, true, some r => match op with
     | .eql => K (.test r)
     | .neq => K (.test (!r))
     | _ => False
    | _, _, _ => False
   | _, _ => False
  | _, _, _ => False
 | none => False
def nilBin (tt : TT) (op : BinOp) (t : TypeId) (len : Nat) (K : V → Prop) : Prop :=
 match tyOf tt t, eqOf tt t with
 | .slice _ _ _ _, true => match op with
  | .eql => Node (∀ b : Bool, (b = true → len = 0) → K (.test b))
  | .neq => Node (∀ b : Bool, (b = true → len = 0) → K (.test (!b)))
  | _ => False
 | _, _ => False
def nilsBin (tt : TT) (op : BinOp) (t : TypeId) (K : V → Prop) : Prop :=
 match tyOf tt t, eqOf tt t with
 | .slice _ _ _ _, true => match op with
  | .eql => K (.bool true)
  | .neq => K (.bool false)
  | _ => False
 | _, _ => False
def binV (tt : TT) (op : BinOp) (t : TypeId) (x y : V) (K : V → Prop) : Prop :=
 match x, y with
 | .int k a, .int k' b => match op with
  | .shl => Node (0 ≤ b ∧ K (.int k (k.wrap (a * 2 ^ (min b.toNat k.bits)))))
  | .shr => Node (0 ≤ b ∧ K (.int k (a.fdiv (2 ^ (min b.toNat k.bits)))))
  | op => match kindEq k k' with
   | true => intBin op k a b K
   | false => False
 | .str a, .str b => strBin op a b K
 | .agg xs, .agg ys => aggBin tt op t xs ys K
 | .slc _ _ _ len, .nils => nilBin tt op t len K
 | .grw _ len, .nils => nilBin tt op t len K
 | .lst _ _ a, .nils => nilBin tt op t a.len K
 | .nils, .nils => nilsBin tt op t K
 | x, y => boolBin tt op t x y K
def notV (x : V) (K : V → Prop) : Prop :=
 match x with
 | .bool true => K (.bool false)
 | .bool false => K (.bool true)
 | .test b => K (.test (!b))
 | _ => False
def unV (op : UnOp) (x : V) (K : V → Prop) : Prop :=
 match op with
 | .not => notV x K
 | .neg => match x with
  | .int k n => K (.int k (k.wrap (0 - n)))
  | _ => False
 | _ => False
def convV (tt : TT) (dst : TypeId) (x : V) (K : V → Prop) : Prop :=
 match tyOf tt dst, x with
 | .int k, .int _ n => K (.int k (k.wrap n))
 | .string, .str s => K (.str s)
 | _, _ => False
def maxV : V → List V → (V → Prop) → Prop
 | x, [], K => K x
 | .int k a, .int k' b :: r, K => match kindEq k k' with
  | true => maxV (.int k (max a b)) r K
  | false => False
 | _, _ :: _, _ => False
def minV : V → List V → (V → Prop) → Prop
 | x, [], K => K x
 | .int k a, .int k' b :: r, K => match kindEq k k' with
  | true => minV (.int k (min a b)) r K
  | false => False
 | _, _ :: _, _ => False
def takeL {α : Type} : Nat → List α → List α
 | 0, _ => []
 | _, [] => []
 | n + 1, a :: l => a :: takeL n l
def dropL {α : Type} : Nat → List α → List α
 | 0, l => l
 | _, [] => []
 | n + 1, _ :: l => dropL n l
def nth {α : Type} : List α → Nat → Option α
 | [], _ => none
 | a :: _, 0 => some a
 | _ :: l, n + 1 => nth l n
def setL {α : Type} : List α → Nat → α → List α
 | [], _, _ => []
 | _ :: l, 0, b => b :: l
 | a :: l, n + 1, b => a :: setL l n b
def putCells (cs : List V) (off : Nat) : List V → List V
 | [] => cs
 | v :: vs => putCells (setL cs off v) (off + 1) vs
def len' {α : Type} : List α → Nat
 | [] => 0
 | _ :: l => len' l + 1
def fill (fs : List FI) (cs : List V) : List (Nat × V) → Option (List V)
 | [] => some cs
 | (i, v) :: rest => match nth fs i with
  | some f => match Nat.beq (len' v.cells) f.size, Nat.ble (f.off + f.size) (len' cs) with
   | true, true => fill fs (putCells cs f.off v.cells) rest
   | _, _ => none
  | none => none
def arrFIs (z len : Nat) : List FI := (List.range len).map fun i => ⟨i * z, z, false⟩
def partsV (f : List (Nat × V)) : List (Nat × Operand) → Option (List (Nat × V))
 | [] => some []
 | (i, x) :: l => match eval f x with
  | some v => match partsV f l with
   | some r => some ((i, v) :: r)
   | none => none
  | none => none
def forceCells (a : AC) (i : Nat) : List CK → Nat → (List V → Prop) → Prop
 | [], _, K => K []
 | c :: ks, j, K => forceV (a.cell c i j) fun v => forceCells a i ks (j + 1) fun vs => K (v :: vs)
def gcellK (κ : Kt) (c : CK) (d : D) (K : V → Prop) : Prop :=
 match c with
 | .int k => K (.int k d.int)
 | .bool => K (.test d.bool)
 | .str => K (.str d.str)
 | .nils => K .nils
 | .list e => match kindsK κ e with
  | [.int _] => K (.lst κ e (.ints d.ac.asI))
  | _ => K (.lst κ e (.recs d.ac.asR))
def gload (κ : Kt) (a : AC) (i : Nat) (c : CK) (j : Nat) (K : V → Prop) : Prop :=
 match a with
 | .ints l => match c with
  | .int k => K (.int k (l.getD i 0))
  | _ => False
 | .recs l => gcellK κ c ((l.getD i []).getD j (.n 0)) K
def gloads (κ : Kt) (a : AC) (i : Nat) : List CK → Nat → (List V → Prop) → Prop
 | [], _, K => K []
 | c :: ks, j, K => gload κ a i c j fun v => gloads κ a i ks (j + 1) fun vs => K (v :: vs)
def gloadV (ti : TI) (κ : Kt) (e : Nat) (a : AC) (i o : Nat) (K : V → Prop) : Prop :=
 match ti.agg with
 | true => match Nat.ble (o + ti.size) (len' (kindsK κ e)) with
  | true => gloads κ a i (takeL ti.size (dropL o (kindsK κ e))) o fun cs => K (.agg cs)
  | false => False
 | false => match nth (kindsK κ e) o with
  | some c => gload κ a i c o K
  | none => False
def loadV (tt : TT) (h : H) (t : TypeId) (a : V) (K : V → Prop) : Prop :=
 match look tt t with
 | some ti => match a with
  | .ptr x o => h.getK x fun ob => match ob with
   | .cells cs => match ti.agg with
    | true => match Nat.ble (o + ti.size) (len' cs) with
     | true => forceL (takeL ti.size (dropL o cs)) fun r => K (.agg r)
     | false => False
    | false => match nth cs o with
     | some v => K v
     | none => False
   | _ => False
  | .eptr x i z o => h.getK x fun ob => match ob with
   | .arr ks _ ac => match Nat.beq z (len' ks) with
    | true => Node (i < ac.len ∧ match ti.agg with
     | true => match Nat.beq o 0, Nat.beq ti.size (len' ks) with
      | true, true => forceCells ac i ks 0 fun cs => K (.agg cs)
      | _, _ => match Nat.ble (o + ti.size) (len' ks) with
       | true => forceCells ac i (takeL ti.size (dropL o ks)) o fun cs => K (.agg cs)
       | false => False
     | false => match nth ks o with
      | some c => forceV (ac.cell c i o) K
      | none => False)
    | false => False
   | .tarr κ e _ ac => match Nat.beq z (len' (kindsK κ e)) with
    | true => Node (i < ac.len ∧ gloadV ti κ e ac i o K)
    | false => False
   | .cells cs => match Nat.beq z 1, Nat.beq o 0, ti.agg with
    | true, true, false => match nth cs i with
     | some v => K v
     | none => False
    | _, _, _ => False
   | _ => False
  | .gptr κ e a i o => gloadV ti κ e a i o K
  | _ => False
 | none => False
def toD : V → Option D
 | .int _ n => some (.n n)
 | .bool b => some (.b b)
 | .test b => some (.b b)
 | .str s => some (.s s)
 | .nils => some (.n 0)
 | _ => none
def toDs : List V → Option (List D)
 | [] => some []
 | v :: vs => match toD v with
  | some d => match toDs vs with
   | some ds => some (d :: ds)
   | none => none
  | none => none
def AC.put (a : AC) (i o : Nat) (ds : List D) : AC :=
 match a with
 | .ints l => match ds with
  | [.n v] => .ints (l.set i v)
  | _ => .ints l
 | .recs l => .recs (l.set i ((l.getD i []).take o ++ ds ++ (l.getD i []).drop (o + ds.length)))
def AC.putK (a : AC) (i o : Nat) (ds : List D) (K : AC → Prop) : Prop :=
 match a with
 | .ints l => match o with
  | 0 => match ds with
   | [.n v] => K (.ints (l.set i v))
   | _ => False
  | _ + 1 => False
 | .recs l => match o with
  | 0 => forceL ds fun ds => K (.recs (l.set i ds))
  | _ + 1 => False
def setRow : List CK → Nat → List D → Nat → D → List D
 | [], _, _, _, _ => []
 | _ :: ks, j, r, o, d => (match Nat.beq j o with
  | true => d
  | false => r.getD j (.n 0)) :: setRow ks (j + 1) r o d
def AC.setK (a : AC) (ks : List CK) (i o : Nat) (d : D) (K : AC → Prop) : Prop :=
 match a with
 | .ints _ => False
 | .recs l => forceL (setRow ks 0 (l.getD i []) o d) fun r => K (.recs (l.set i r))
def putV (ks : List CK) (a : AC) (i o : Nat) (v : V) (K : AC → Prop) : Prop :=
 match kindsOk ks v.cells, toDs v.cells with
 | true, some ds => a.putK i o ds K
 | false, _ => match v.cells, nth ks o with
  | [c], some k => match kindOk k c, toD c with
   | true, some d => a.setK ks i o d K
   | _, _ => False
  | _, _ => False
 | _, _ => False
def modeOwn : Mode → Bool
 | .ro => false
 | .rd => false
 | _ => true
def storeV (tt : TT) (h : H) (t : TypeId) (a v : V) (K : H → Prop) : Prop :=
 match look tt t with
 | some ti => match Nat.beq (len' v.cells) ti.size with
  | true => match a with
   | .ptr x o => h.getK x fun ob => match ob with
    | .cells cs => match Nat.ble (o + len' v.cells) (len' cs), cellsOk v.cells with
     | true, true => forceL (putCells cs o v.cells) fun r => h.putK x (.cells r) K
     | _, _ => False
    | _ => False
   | .eptr x i z o => h.getK x fun ob => match ob with
    | .arr ks m a => match modeOwn m, Nat.beq z (len' ks) with
     | true, true => Node (i < a.len ∧ putV ks a i o v fun a' => h.putK x (.arr ks m a') K)
     | _, _ => False
    | _ => False
   | _ => False
  | false => False
 | none => False
def boxV (h : H) (v : V) (K : V → H → Prop) : Prop :=
 match cellsOk v.cells with
 | true => forceL v.cells fun cs => h.newK (.cells cs) fun x h' => K (.ptr x 0) h'
 | false => False
def fieldAddrV (tt : TT) (t : TypeId) (a : V) (f : Nat) (K : V → Prop) : Prop :=
 match tyOf tt t with
 | .struct fs => match nth fs f with
  | some fi => match Nat.ble 1 fi.size with
   | true => match a with
    | .ptr x o => K (.ptr x (o + fi.off))
    | .eptr x i z o => K (.eptr x i z (o + fi.off))
    | .gptr κ e a i o => K (.gptr κ e a i (o + fi.off))
    | _ => False
   | false => False
  | none => False
 | _ => False
def fieldV (tt : TT) (t : TypeId) (a : V) (f : Nat) (K : V → Prop) : Prop :=
 match tyOf tt t with
 | .struct fs => match nth fs f with
  | some fi => match a with
   | .agg cs => match fi.agg with
    | true => forceL (takeL fi.size (dropL fi.off cs)) fun r => K (.agg r)
    | false => match nth cs fi.off with
     | some v => K v
     | none => False
   | _ => False
  | none => False
 | _ => False
def indexAddrV (tt : TT) (t : TypeId) (x i : V) (K : V → Prop) : Prop :=
 match tyOf tt t with
 | .slice _ z _ _ => match i with
  | .int _ n => match x with
   | .slc x z' o len => match Nat.beq z z' with
    | true => Node ((0 ≤ n ∧ n < len) ∧ K (.eptr x (o + n.toNat) z 0))
    | false => False
   | .grw x len => Node ((0 ≤ n ∧ n < len) ∧ K (.eptr x n.toNat z 0))
   | .lst κ e a => match Nat.beq z (len' (kindsK κ e)) with
    | true => Node ((0 ≤ n ∧ n < a.len) ∧ K (.gptr κ e a n.toNat 0))
    | false => False
   | _ => False
  | _ => False
 | .array len _ z => match i with
  | .int _ n => match n with
   | .ofNat m => match Nat.blt m len with
    | true => match x with
     | .ptr x o => K (.ptr x (o + m * z))
     | .eptr x i z' o => K (.eptr x i z' (o + m * z))
     | _ => False
    | false => False
   | .negSucc _ => False
  | _ => False
 | _ => False
def litOp : Operand → Bool
 | .const _ => true
 | _ => false
def indexAddrW (tt : TT) (t : TypeId) (op : Operand) (x i : V) (K : V → Prop) : Prop :=
 match litOp op with
 | true => indexAddrV tt t x i K
 | false => match tyOf tt t with
  | .array _ _ _ => match i with
   | .int k n => Node (∃ m : Nat, n = (m : Int) ∧ indexAddrV tt t x (.int k (m : Int)) K)
   | _ => False
  | _ => indexAddrV tt t x i K
def indexV (tt : TT) (t : TypeId) (x i : V) (K : V → Prop) : Prop :=
 match tyOf tt t with
 | .array len e z => match look tt e with
  | some te => match te.agg with
   | false => match i with
    | .int _ n => match n with
     | .ofNat m => match Nat.blt m len with
      | true => match x with
       | .agg cs => match nth cs (m * z) with
        | some v => K v
        | none => False
       | _ => False
      | false => False
     | .negSucc _ => False
    | _ => False
   | true => False
  | none => False
 | .string => match x with
  | .str l => match i with
   | .int _ n => Node ((0 ≤ n ∧ n < (l.length : Int)) ∧ K (.int .u8 (l.getD n.toNat 0).toNat))
   | _ => False
  | _ => False
 | _ => False
def lenV (ty : TY) (x : V) (K : V → Prop) : Prop :=
 match ty with
 | .slice _ _ _ _ => match x with
  | .slc _ _ _ len => K (.int .i64 len)
  | .grw _ len => K (.int .i64 len)
  | .lst _ _ a => match a with
   | .ints l => K (.int .i64 l.length)
   | .recs l => K (.int .i64 l.length)
  | .nils => K (.int .i64 0)
  | _ => False
 | .string => match x with
  | .str s => K (.int .i64 s.length)
  | _ => False
 | _ => False
def AC.takeK (a : AC) (o len : Nat) (K : AC → Prop) : Prop :=
 match a with
 | .ints l => K (.ints ((l.drop o).take len))
 | .recs l => K (.recs ((l.drop o).take len))
def AC.appK (a b : AC) (K : AC → Prop) : Prop :=
 match a, b with
 | .ints l, .ints m => K (.ints (l ++ m))
 | .recs l, .recs m => K (.recs (l ++ m))
 | _, _ => False
def ckEq : CK → CK → Bool
 | .int k, .int k' => kindEq k k'
 | .bool, .bool => true
 | .str, .str => true
 | .nils, .nils => true
 | .list e, .list e' => Nat.beq e e'
 | _, _ => false
def cksEq : List CK → List CK → Bool
 | [], [] => true
 | a :: as, b :: bs => ckEq a b && cksEq as bs
 | _, _ => false
def acNil (ks : List CK) : AC :=
 match ks with
 | [.int _] => .ints []
 | _ => .recs []
def isList : CK → Bool
 | .list _ => true
 | _ => false
def flatKs : List CK → Bool
 | [] => true
 | c :: cs => !(isList c) && flatKs cs
def givenV (h : H) (ks : List CK) (y : V) (K : Nat → AC → Prop) : Prop :=
 match y with
 | .nils => match ks with
  | [.int _] => K 0 (.ints [])
  | _ => K 0 (.recs [])
 | .grw x len => h.getK x fun ob => match ob with
  | .arr ks' _ a => match cksEq ks ks' with
   | true => Node (len = a.len ∧ K len a)
   | false => False
  | _ => False
 | .slc x z o len => h.getK x fun ob => match ob with
  | .arr ks' _ a => match cksEq ks ks', Nat.beq z (len' ks) with
   | true, true => Node (o + len ≤ a.len ∧ a.takeK o len fun b => K len b)
   | _, _ => False
  | _ => False
 | .lst κ e a => match cksEq ks (kindsK κ e), flatKs ks with
  | true, true => match a with
   | .ints l => K l.length (.ints l)
   | .recs l => K l.length (.recs l)
  | _, _ => False
 | _ => False
def appendV (tt : TT) (h : H) (t : TypeId) (x y : V) (K : V → H → Prop) : Prop :=
 match tyOf tt t with
 | .slice _ z b ks => match Nat.beq z (len' ks) with
  | false => False
  | true => givenV h ks y fun n news => match x with
   | .nils => Branch (Nat.beq n 0) (K .nils h) ((n ≤ 4611686018427387904 ∧ n * b ≤ 140737488355328) ∧ h.newK (.arr ks .grow news) fun y h' => K (.grw y n) h')
   | .grw x len => h.getK x fun ob => match ob with
    | .arr ks' m a => match cksEq ks ks', m with
     | true, .grow => Branch (Nat.beq n 0) (K (.grw x len) h) ((len = a.len ∧ len + n ≤ 4611686018427387904 ∧ (len + n) * b ≤ 140737488355328) ∧ h.putK x .gone fun h' => a.appK news fun c => h'.newK (.arr ks .grow c) fun y h'' => K (.grw y (len + n)) h'')
     | true, .own => Branch (Nat.beq n 0) (K (.grw x len) h) ((len = a.len ∧ len + n ≤ 4611686018427387904 ∧ (len + n) * b ≤ 140737488355328) ∧ a.appK news fun c => h.newK (.arr ks .grow c) fun y h'' => K (.grw y (len + n)) h'')
     | _, _ => False
    | _ => False
   | _ => False
 | _ => False
def elemsV : Nat → List (Nat × V) → Option (List V)
 | _, [] => some []
 | i, (j, v) :: l => match Nat.beq i j with
  | true => match elemsV (i + 1) l with
   | some vs => some (v :: vs)
   | none => none
  | false => none
def intsOf (k : IntKind) : List V → (List Int → Prop) → Prop
 | [], K => K []
 | .int k' n :: vs, K => match kindEq k k' with
  | true => intsOf k vs fun l => K (n :: l)
  | false => False
 | _ :: _, _ => False
def recsOf (ks : List CK) : List V → (List (List D) → Prop) → Prop
 | [], K => K []
 | v :: vs, K => match kindsOk ks v.cells, toDs v.cells with
  | true, some ds => recsOf ks vs fun r => K (ds :: r)
  | _, _ => False
def buildSliceV (tt : TT) (h : H) (t : TypeId) (len : Nat) (parts : List (Nat × V)) (K : V → H → Prop) : Prop :=
 match tyOf tt t with
 | .slice _ z _ ks => match elemsV 0 parts with
  | some vs => match Nat.beq (len' vs) len, Nat.ble (len * z) 16777216, Nat.beq z (len' ks) with
   | true, true, true => match ks with
    | [.int k] => intsOf k vs fun l => h.newK (.arr [.int k] .own (.ints l)) fun x h' => K (.grw x len) h'
    | [] => False
    | [.nils] => match cellsOk vs with
     | true => forceL vs fun cs => h.newK (.cells cs) fun x h' => K (.slc x 1 0 len) h'
     | false => False
    | ks => recsOf ks vs fun l => h.newK (.arr ks .own (.recs l)) fun x h' => K (.grw x len) h'
   | _, _, _ => False
  | none => False
 | _ => False
def deepTy (tt : TT) (t : TypeId) : Bool :=
 match tyOf tt t with
 | .slice e _ _ _ => !(flatKs (kindsK (ktOf tt) e))
 | _ => false
def tokIn (hl : List (Nat × Ob)) : List (Nat × Ob) → Bool
 | [] => false
 | (x, o) :: l => match o with
  | .tok => match look hl x with
   | some .tok => true
   | _ => tokIn hl l
  | _ => tokIn hl l
def frzK (κ : Kt) (e : Nat) (h : H) (x len : Nat) (K : AC → H → Prop) : Prop :=
 match tokIn h.l h.l with
 | true => h.getK x fun ob => match ob with
  | .arr ks m a => match modeOwn m, cksEq ks (kindsK κ e), flatKs ks with
   | true, true, true => match a with
    | .ints l => len = l.length ∧ h.putK x .gone fun h' => K (.ints l) h'
    | .recs l => match ks with
     | [.int _] => False
     | _ => len = l.length ∧ h.putK x .gone fun h' => K (.recs l) h'
   | _, _, _ => False
  | .tarr κ' e' m a => match modeOwn m, Nat.beq e e' with
   | true, true => κ' = κ ∧ len = a.len ∧ h.putK x .gone fun h' => K a h'
   | _, _ => False
  | _ => False
 | false => False
def deepCell (κ : Kt) (c : CK) (v : V) (h : H) (K : D → H → Prop) : Prop :=
 match c with
 | .list e => match v with
  | .lst κ' e' a => κ' = κ ∧ e' = e ∧ K (.seq a) h
  | .nils => match kindsK κ e with
   | [] => False
   | [.int _] => K (.seq (.ints [])) h
   | _ => K (.seq (.recs [])) h
  | .grw x len => frzK κ e h x len fun a h' => K (.seq a) h'
  | _ => False
 | c => match kindOk c v, toD v with
  | true, some d => K d h
  | _, _ => False
def deepCells (κ : Kt) : List CK → List V → H → (List D → H → Prop) → Prop
 | [], [], h, K => K [] h
 | c :: cs, v :: vs, h, K => deepCell κ c v h fun d h' => deepCells κ cs vs h' fun ds h'' => K (d :: ds) h''
 | _, _, _, _ => False
def deepRows (κ : Kt) (ks : List CK) : List V → H → (List (List D) → H → Prop) → Prop
 | [], h, K => K [] h
 | v :: vs, h, K => deepCells κ ks v.cells h fun ds h' => deepRows κ ks vs h' fun r h'' => K (ds :: r) h''
def buildT (tt : TT) (h : H) (t : TypeId) (len : Nat) (parts : List (Nat × V)) (K : V → H → Prop) : Prop :=
 match tyOf tt t with
 | .slice e z _ _ => match elemsV 0 parts with
  | some vs => match Nat.beq (len' vs) len, Nat.ble (len * z) 16777216, Nat.beq z (len' (kindsK (ktOf tt) e)) with
   | true, true, true => Node (deepRows (ktOf tt) (kindsK (ktOf tt) e) vs h fun rows h' => h'.newK (.tarr (ktOf tt) e .own (.recs rows)) fun x h'' => K (.grw x len) h'')
   | _, _, _ => False
  | none => False
 | _ => False
def givenT (κ : Kt) (e : Nat) (h : H) (y : V) (K : Nat → List (List D) → Prop) : Prop :=
 match y with
 | .nils => K 0 []
 | .grw q n => h.getK q fun ob => match ob with
  | .tarr κ' e' _ a => match a with
   | .recs l => match Nat.beq e e' with
    | true => Node (κ' = κ ∧ n = l.length ∧ K n l)
    | false => False
   | .ints _ => False
  | _ => False
 | .lst κ' e' a => match a with
  | .recs l => match Nat.beq e e' with
   | true => Node (κ' = κ ∧ K l.length l)
   | false => False
  | .ints _ => False
 | _ => False
def appendT (tt : TT) (h : H) (t : TypeId) (x y : V) (K : V → H → Prop) : Prop :=
 match tyOf tt t with
 | .slice e z b _ => match Nat.beq z (len' (kindsK (ktOf tt) e)) with
  | false => False
  | true => givenT (ktOf tt) e h y fun n news => match x with
   | .nils => Branch (Nat.beq n 0) (K .nils h) ((n ≤ 4611686018427387904 ∧ n * b ≤ 140737488355328) ∧ h.newK (.tarr (ktOf tt) e .grow (.recs news)) fun q h' => K (.grw q n) h')
   | .grw q len => h.getK q fun ob => match ob with
    | .tarr κ' e' m a => match a with
     | .recs l => match Nat.beq e e', m with
      | true, .grow => Branch (Nat.beq n 0) (K (.grw q len) h) ((κ' = (ktOf tt) ∧ len = l.length ∧ len + n ≤ 4611686018427387904 ∧ (len + n) * b ≤ 140737488355328) ∧ h.putK q .gone fun h' => h'.newK (.tarr (ktOf tt) e .grow (.recs (l ++ news))) fun p h'' => K (.grw p (len + n)) h'')
      | true, .own => Branch (Nat.beq n 0) (K (.grw q len) h) ((κ' = (ktOf tt) ∧ len = l.length ∧ len + n ≤ 4611686018427387904 ∧ (len + n) * b ≤ 140737488355328) ∧ h.newK (.tarr (ktOf tt) e .grow (.recs (l ++ news))) fun p h'' => K (.grw p (len + n)) h'')
      | _, _ => False
     | .ints _ => False
    | _ => False
   | _ => False
 | _ => False
def sameTmp : Operand → Operand → Bool
 | .tmp i, .tmp j => Nat.beq i j
 | .const (.int k n), .const (.int k' m) => kindEq k k' && decide (n = m)
 | _, _ => false
def makeSliceV (tt : TT) (h : H) (t : TypeId) (n : V) (K : V → H → Prop) : Prop :=
 match tyOf tt t, n with
 | .slice e _ b ks, .int _ n => Node ((0 ≤ n ∧ n < 9223372036854775808 ∧ b * n.toNat ≤ 140737488355328) ∧ match look tt e with
  | some ti => match kindsOk ks ti.zero.cells, toDs ti.zero.cells with
   | true, some ds => match ks with
    | [.int k] => match ds with
     | [.n z] => Node (z = 0 ∧ h.newK (.arr [.int k] .own (.ints (List.replicate n.toNat 0))) fun x h' => K (.grw x n.toNat) h')
     | _ => False
    | [] => False
    | ks => forceL ds fun ds => h.newK (.arr ks .own (.recs (List.replicate n.toNat ds))) fun x h' => K (.grw x n.toNat) h'
   | _, _ => False
  | none => False)
 | _, _ => False
def boundV (x : Option V) (dflt : Int) (K : Int → Prop) : Prop :=
 match x with
 | none => K dflt
 | some (.int _ n) => K n
 | some _ => False
def optV (f : List (Nat × V)) : Option Operand → Option (Option V)
 | none => some none
 | some x => match eval f x with
  | some v => some (some v)
  | none => none
def sliceK (m : Mode) (z x o len : Nat) (lo hi : Option V) (K : V → Prop) : Prop :=
 match m with
 | .grow => boundV lo 0 fun a => boundV hi len fun b => Node ((0 ≤ a ∧ a ≤ b ∧ b ≤ len ∧ (a < len ∨ a = 0)) ∧ K (.slc x z (o + a.toNat) (b - a).toNat))
 | .rd => boundV lo 0 fun a => boundV hi len fun b => Node ((0 ≤ a ∧ a ≤ b ∧ b ≤ len ∧ (a < len ∨ a = 0)) ∧ K (.slc x z (o + a.toNat) (b - a).toNat))
 | _ => boundV lo 0 fun a => boundV hi len fun b => Node ((0 ≤ a ∧ a ≤ b ∧ b ≤ len) ∧ K (.slc x z (o + a.toNat) (b - a).toNat))
def sliceV (tt : TT) (h : H) (t : TypeId) (x : V) (lo hi : Option V) (K : V → Prop) : Prop :=
 match tyOf tt t with
 | .slice _ z _ _ => match x with
  | .slc x z' o len => h.getK x fun ob => match ob with
   | .arr ks m _ => match Nat.beq z z', Nat.beq z (len' ks) with
    | true, true => sliceK m z x o len lo hi K
    | _, _ => False
   | _ => False
  | .grw x len => h.getK x fun ob => match ob with
   | .arr ks m _ => match Nat.beq z (len' ks) with
    | true => sliceK m z x 0 len lo hi K
    | false => False
   | _ => False
  | .lst κ e a => match Nat.beq z (len' (kindsK κ e)) with
   | true => boundV lo 0 fun p => boundV hi a.len fun q => Node ((0 ≤ p ∧ p ≤ q ∧ q ≤ a.len ∧ (p < a.len ∨ p = 0) ∧ 0 < a.len) ∧ a.takeK p.toNat (q.toNat - p.toNat) fun b => K (.lst κ e b))
   | false => False
  | _ => False
 | .string => match x with
  | .str l => boundV lo 0 fun a => boundV hi l.length fun b => Node ((0 ≤ a ∧ a ≤ b ∧ b ≤ (l.length : Int)) ∧ K (.str ((l.drop a.toNat).take (b.toNat - a.toNat))))
  | _ => False
 | _ => False
def rangeStrV (tt : TT) (h : H) (t : TypeId) (x : V) (K : V → H → Prop) : Prop :=
 match tyOf tt t with
 | .string => match x with
  | .str l => h.newK (.sit l 0) fun y h' => K (.ptr y 0) h'
  | _ => False
 | _ => False
def rune (l : List UInt8) (pos : Nat) : Nat × Nat := Utf8.decode ⟨l.toArray⟩ pos
def nextV (h : H) (it : V) (K : V → H → Prop) : Prop :=
 match it with
 | .ptr x o => match o with
  | 0 => h.getK x fun ob => match ob with
   | .sit l pos => Branch (decide (pos < l.length)) (h.putK x (.sit l (pos + (rune l pos).2)) fun h' => K (.tup [.bool true, .int .i64 pos, .int .i32 (rune l pos).1]) h') (K (.tup [.bool false]) h)
   | _ => False
  | _ + 1 => False
 | _ => False
def noSt (h : H) (K : V → H → Prop) (v : V) : Prop := K v h
def CK.v : CK → D → V
 | .int k, d => .int k d.int
 | .bool, d => .test d.bool
 | .str, d => .str d.str
 | .nils, _ => .nils
 | .list _, _ => .nils
def rowVs : List CK → Nat → List D → List V
 | [], _, _ => []
 | c :: ks, j, ds => c.v (ds.getD j (.n 0)) :: rowVs ks (j + 1) ds
def forceRow : List CK → Nat → List D → (List V → Prop) → Prop
 | [], _, _, K => K []
 | c :: ks, j, ds, K => forceV (c.v (ds.getD j (.n 0))) fun v => forceRow ks (j + 1) ds fun vs => K (v :: vs)
def rowK (ks : List CK) (ag : Bool) (ds : List D) (K : V → Prop) : Prop :=
 match ag with
 | true => forceRow ks 0 ds fun cs => K (.agg cs)
 | false => match ks with
  | [c] => forceV (c.v (ds.getD 0 (.n 0))) K
  | _ => False
def mfind : List (Int × List D) → Int → Option (List D)
 | [], _ => none
 | e :: l, k => if e.1 = k then some e.2 else mfind l k
def mput : List (Int × List D) → Int → List D → List (Int × List D)
 | [], k, d => [(k, d)]
 | e :: l, k, d => if e.1 = k then (k, d) :: l else e :: mput l k d
def isAggV : V → Bool
 | .agg _ => true
 | _ => false
def sameB : Bool → Bool → Bool
 | true, true => true
 | false, false => true
 | _, _ => false
def mfindS : List (List UInt8 × List D) → List UInt8 → Option (List D)
 | [], _ => none
 | e :: l, k => if e.1 = k then some e.2 else mfindS l k
def mputS : List (List UInt8 × List D) → List UInt8 → List D → List (List UInt8 × List D)
 | [], k, d => [(k, d)]
 | e :: l, k, d => if e.1 = k then (k, d) :: l else e :: mputS l k d
def makeMapS (tt : TT) (h : H) (e : Nat) (K : V → H → Prop) : Prop :=
 match look tt e with
 | some ti => match cksOf ti.zero.cells with
  | some ks => h.newK (.smap ks (isAggV ti.zero) []) fun x h' => K (.mp x) h'
  | none => False
 | none => False
def lookupS (tt : TT) (h : H) (e : Nat) (m k : V) (ok : Bool) (K : V → Prop) : Prop :=
 match look tt e with
 | some ti => match k with
  | .str key => match m with
   | .mp x => h.getK x fun ob => match ob with
    | .smap ks ag l => match kindsOk ks ti.zero.cells && sameB ag (isAggV ti.zero), toDs ti.zero.cells with
     | true, some z => rowK ks ag ((mfindS l key).getD z) fun v => match ok with
      | true => K (.tup [v, .test (mfindS l key).isSome])
      | false => K v
     | _, _ => False
    | _ => False
   | _ => False
  | _ => False
 | none => False
def updateS (h : H) (m k v : V) (K : H → Prop) : Prop :=
 match k with
 | .str key => match m with
  | .mp x => h.getK x fun ob => match ob with
   | .smap ks ag l => match kindsOk ks v.cells && sameB ag (isAggV v), toDs v.cells with
    | true, some ds => h.putK x (.smap ks ag (mputS l key ds)) K
    | _, _ => False
   | _ => False
  | _ => False
 | _ => False
def mfindP : List ((Int × Int) × List D) → Int × Int → Option (List D)
 | [], _ => none
 | e :: l, k => if e.1 = k then some e.2 else mfindP l k
def mputP : List ((Int × Int) × List D) → Int × Int → List D → List ((Int × Int) × List D)
 | [], k, d => [(k, d)]
 | e :: l, k, d => if e.1 = k then (k, d) :: l else e :: mputP l k d
def pairV : V → Option (Int × Int)
 | .agg [.int .i64 a, .int .i64 b] => some (a, b)
 | _ => none
def makeMapP (tt : TT) (h : H) (e : Nat) (K : V → H → Prop) : Prop :=
 match look tt e with
 | some ti => match cksOf ti.zero.cells with
  | some ks => h.newK (.pmap ks (isAggV ti.zero) []) fun x h' => K (.mp x) h'
  | none => False
 | none => False
def lookupP (tt : TT) (h : H) (e : Nat) (m k : V) (ok : Bool) (K : V → Prop) : Prop :=
 match look tt e with
 | some ti => match pairV k with
  | some key => match m with
   | .mp x => h.getK x fun ob => match ob with
    | .pmap ks ag l => match kindsOk ks ti.zero.cells && sameB ag (isAggV ti.zero), toDs ti.zero.cells with
     | true, some z => rowK ks ag ((mfindP l key).getD z) fun v => match ok with
      | true => K (.tup [v, .test (mfindP l key).isSome])
      | false => K v
     | _, _ => False
    | _ => False
   | _ => False
  | none => False
 | none => False
def updateP (h : H) (m k v : V) (K : H → Prop) : Prop :=
 match pairV k with
 | some key => match m with
  | .mp x => h.getK x fun ob => match ob with
   | .pmap ks ag l => match kindsOk ks v.cells && sameB ag (isAggV v), toDs v.cells with
    | true, some ds => h.putK x (.pmap ks ag (mputP l key ds)) K
    | _, _ => False
   | _ => False
  | _ => False
 | none => False
def makeMapV (tt : TT) (h : H) (t : TypeId) (K : V → H → Prop) : Prop :=
 match tyOf tt t with
 | .map k e => match look tt e with
  | some ti => match cksOf ti.zero.cells with
   | some ks => h.newK (.map k ks (isAggV ti.zero) []) fun x h' => K (.mp x) h'
   | none => False
  | none => False
 | .smap e => makeMapS tt h e K
 | .pmap e => makeMapP tt h e K
 | _ => False
def lookupV (tt : TT) (h : H) (t : TypeId) (m k : V) (ok : Bool) (K : V → Prop) : Prop :=
 match tyOf tt t with
 | .map kt e => match look tt e with
  | some ti => match k with
   | .int kk key => match kindEq kt kk with
    | true => match m with
     | .mp x => h.getK x fun ob => match ob with
      | .map kt' ks ag l => match kindEq kt kt' && kindsOk ks ti.zero.cells && sameB ag (isAggV ti.zero), toDs ti.zero.cells with
       | true, some z => rowK ks ag ((mfind l key).getD z) fun v => match ok with
        | true => K (.tup [v, .test (mfind l key).isSome])
        | false => K v
       | _, _ => False
      | _ => False
     | _ => False
    | false => False
   | _ => False
  | none => False
 | .smap e => lookupS tt h e m k ok K
 | .pmap e => lookupP tt h e m k ok K
 | _ => False
def updateV (tt : TT) (h : H) (t : TypeId) (m k v : V) (K : H → Prop) : Prop :=
 match tyOf tt t with
 | .map kt _ => match k with
  | .int kk key => match kindEq kt kk with
   | true => match m with
    | .mp x => h.getK x fun ob => match ob with
     | .map kt' ks ag l => match kindEq kt kt' && kindsOk ks v.cells && sameB ag (isAggV v), toDs v.cells with
      | true, some ds => h.putK x (.map kt' ks ag (mput l key ds)) K
      | _, _ => False
     | _ => False
    | _ => False
   | false => False
  | _ => False
 | .smap _ => updateS h m k v K
 | .pmap _ => updateP h m k v K
 | _ => False
def mdel : List (Int × List D) → Int → List (Int × List D)
 | [], _ => []
 | e :: l, k => if e.1 = k then l else e :: mdel l k
def zcut (l : List Int) (o n : Nat) : List Int := l.take o ++ (List.replicate n 0 ++ l.drop (o + n))
def clearV (tt : TT) (h : H) (t : TypeId) (x : V) (K : H → Prop) : Prop :=
 match tyOf tt t with
 | .slice e z _ ks => match look tt e with
  | some ti => match ti.zero with
   | .int k0 z0 => match x with
    | .slc x z' o len => Branch (Nat.beq len 0) (K h) (h.getK x fun ob => match ob with
     | .arr ks' m a => match a with
      | .ints l => match cksEq ks' [.int k0], modeOwn m, Nat.beq z' 1 with
       | true, true, true => (z0 = 0 ∧ o + len ≤ l.length) ∧ h.putK x (.arr [.int k0] m (.ints (zcut l o len))) K
       | _, _, _ => False
      | _ => False
     | _ => False)
    | _ => False
   | _ => False
  | none => False
 | _ => False
def deleteV (tt : TT) (h : H) (t : TypeId) (m k : V) (K : H → Prop) : Prop :=
 match tyOf tt t with
 | .map kt _ => match k with
  | .int kk key => match kindEq kt kk with
   | true => match m with
    | .mp x => h.getK x fun ob => match ob with
     | .map kt' ks ag l => match kindEq kt kt' with
      | true => h.putK x (.map kt' ks ag (mdel l key)) K
      | false => False
     | _ => False
    | _ => False
   | false => False
  | _ => False
 | _ => False
def mapLenV (h : H) (x : V) (K : V → Prop) : Prop :=
 match x with
 | .mp y => h.getK y fun ob => match ob with
  | .map _ _ _ l => K (.int .i64 l.length)
  | _ => False
 | .nilm => K (.int .i64 0)
 | _ => False
def isMapTy : TY → Bool
 | .map _ _ => true
 | _ => false
def toStr (tt : TT) (op : Op) : Option Operand :=
 match op with
 | .convert src dst x => match tyOf tt src, tyOf tt dst with
  | .slice e _ _ _, .string => match tyOf tt e with
   | .int k => match kindEq k .u8 with
    | true => some x
    | false => none
   | _ => none
  | _, _ => none
 | _ => none
def strV (h : H) (v : V) (K : V → Prop) : Prop :=
 match v with
 | .lst _ _ _ => False
 | v => givenV h [.int .u8] v fun _ a => match a with
  | .ints l => K (.str (l.map fun n => UInt8.ofNat n.toNat))
  | .recs _ => False
def primV (tt : TT) (f : List (Nat × V)) (h : H) (op : Op) (K : V → H → Prop) : Prop :=
 match op with
 | .move x | .assign x => match eval f x with
  | some v => K v h
  | none => False
 | .pick c a b => match eval f c with
  | some (.bool true) => match eval f a with
   | some v => K v h
   | none => False
  | some (.bool false) => match eval f b with
   | some v => K v h
   | none => False
  | some (.test p) => Branch p (match eval f a with
   | some v => K v h
   | none => False) (match eval f b with
   | some v => K v h
   | none => False)
  | _ => False
 | .alloc e => match look tt e with
  | some ti => boxV h ti.zero K
  | none => False
 | .box _ x => match eval f x with
  | some v => boxV h v K
  | none => False
 | .build ty parts => match look tt ty with
  | some ti => match ti.ty, partsV f parts.toList with
   | .struct fs, some ps => match fill fs ti.zero.cells ps with
    | some cs => forceL cs fun cs => K (.agg cs) h
    | none => False
   | .array len _ z, some ps => match fill (arrFIs z len) ti.zero.cells ps with
    | some cs => forceL cs fun cs => K (.agg cs) h
    | none => False
   | _, _ => False
  | none => False
 | .buildSlice ty len parts => match partsV f parts.toList with
  | some ps => match deepTy tt ty with
   | true => buildT tt h ty len ps K
   | false => buildSliceV tt h ty len ps K
  | none => False
 | .makeSlice ty a b => match sameTmp a b, eval f a with
  | true, some n => makeSliceV tt h ty n K
  | _, _ => False
 | .makeMap ty none => makeMapV tt h ty K
 | .makeMap ty (some x) => match eval f x with
  | some (.int _ _) => makeMapV tt h ty K
  | _ => False
 | .range ty x => match eval f x with
  | some v => rangeStrV tt h ty v K
  | none => False
 | .next x b => match b with
  | true => match eval f x with
   | some v => nextV h v K
   | none => False
  | false => False
 | .lookup ty m k ok => match eval f m with
  | some a => match eval f k with
   | some b => lookupV tt h ty a b ok (noSt h K)
   | none => False
  | none => False
 | .mapUpdate ty m k x => match eval f m with
  | some a => match eval f k with
   | some b => match eval f x with
    | some v => updateV tt h ty a b v (K (.tup []))
    | none => False
   | none => False
  | none => False
 | .load ty a => match eval f a with
  | some v => loadV tt h ty v (noSt h K)
  | none => False
 | .store ty a x => match eval f a with
  | some a => match eval f x with
   | some v => storeV tt h ty a v (K (.tup []))
   | none => False
  | none => False
 | .nilCheck x => match eval f x with
  | some (.ptr x o) => K (.ptr x o) h
  | some (.eptr x i z o) => K (.eptr x i z o) h
  | some (.gptr κ e a i o) => K (.gptr κ e a i o) h
  | _ => False
 | .binOp op ty x y _ => match eval f x with
  | some a => match eval f y with
   | some b => binV tt op ty a b (noSt h K)
   | none => False
  | none => False
 | .unOp op _ x => match eval f x with
  | some a => unV op a (noSt h K)
  | none => False
 | .convert src dst x => match toStr tt (.convert src dst x) with
  | some y => match eval f y with
   | some v => strV h v (noSt h K)
   | none => False
  | none => match look tt src with
   | some _ => match eval f x with
    | some a => convV tt dst a (noSt h K)
    | none => False
   | none => False
 | .makeFunc (.func g) first captured => match evals f first.toList with
  | some a => match evals f captured.toList with
   | some b => K (.fn g a b) h
   | none => False
  | none => False
 | .slice ty x lo hi none => match eval f x, optV f lo, optV f hi with
  | some v, some l, some u => sliceV tt h ty v l u (noSt h K)
  | _, _, _ => False
 | .fieldAddr ty x i => match eval f x with
  | some a => fieldAddrV tt ty a i (noSt h K)
  | none => False
 | .field ty x i => match eval f x with
  | some a => fieldV tt ty a i (noSt h K)
  | none => False
 | .indexAddr ty x i => match eval f x with
  | some a => match eval f i with
   | some n => indexAddrW tt ty i a n (noSt h K)
   | none => False
  | none => False
 | .index ty x i => match eval f x with
  | some a => match eval f i with
   | some n => indexV tt ty a n (noSt h K)
   | none => False
  | none => False
 | .extract x i => match eval f x with
  | some (.tup vs) => match nth vs i with
   | some v => K v h
   | none => False
  | _ => False
 | .call c => match c.callee, evals f c.args.toList with
  | .builtin .len, some [x] => match c.argTypes.toList with
   | [t] => match isMapTy (tyOf tt t) with
    | true => mapLenV h x (noSt h K)
    | false => lenV (tyOf tt t) x (noSt h K)
   | _ => False
  | .builtin .max, some (x :: r) => maxV x r (noSt h K)
  | .builtin .min, some (x :: r) => minV x r (noSt h K)
  | .builtin .append, some [x, y] => match c.argTypes.toList with
   | [t, t'] => match Nat.beq t t' with
    | true => match deepTy tt t with
     | true => appendT tt h t x y K
     | false => appendV tt h t x y K
    | false => False
   | _ => False
  | .builtin .delete, some [m, k] => match c.argTypes.toList with
   | t :: _ => deleteV tt h t m k (K (.tup []))
   | _ => False
  | .builtin .clear, some [x] => match c.argTypes.toList with
   | t :: _ => clearV tt h t x (K (.tup []))
   | _ => False
  | _, _ => False
 | _ => False
def mkFI (P : Program) (f : Field) : Option FI :=
 match sizeT P f.type, isAggT P f.type with
 | some z, some a => some ⟨f.offset, z, a⟩
 | _, _ => none
def mkFIs (P : Program) : List Field → Option (List FI)
 | [] => some []
 | f :: fs => match mkFI P f, mkFIs P fs with
  | some a, some l => some (a :: l)
  | _, _ => none
def zeroV (P : Program) (t : TypeId) : Option V :=
 match P.info? t with
 | some i => match i.zero with
  | some z => ofConst z
  | none => none
 | none => none
def fieldI (P : Program) (f : Field) (j : Nat) : Bool :=
 Nat.beq f.offset j && !(f.name == "_") && (match P.underlying f.type with
  | some (.int .i64) => true
  | _ => false)
def pairFs (P : Program) (t : TypeId) : List Field → Bool
 | [f, g] => !(P.stoodInHeld t) && fieldI P f 0 && fieldI P g 1
 | _ => false
def mkTY (P : Program) (t : TypeId) : TY :=
 match P.underlying t with
 | some (.int k) => .int k
 | some .bool => .bool
 | some .string => .string
 | some (.slice e) => match P.info? e, zeroV P e with
  | some i, some z => match cksOf z.cells with
   | some ks => if ks.length = i.size ∧ 0 < i.size then .slice e i.size i.bytes ks else .other
   | none => .other
  | _, _ => .other
 | some (.struct fields) => match mkFIs P fields.toList with
  | some fs => .struct fs
  | none => .other
 | some (.array n e) => match sizeT P e with
  | some z => .array n e z
  | none => .other
 | some (.map kt e) => match P.underlying kt with
  | some (.int k) => .map k e
  | some .string => .smap e
  | some (.struct fs) => if pairFs P kt fs.toList then .pmap e else .other
  | _ => .other
 | _ => .other
def fieldOk (P : Program) (f : Field) (j : Nat) (c : CK) : Bool :=
 Nat.beq f.offset j && Nat.beq (P.cellsOf f.type) 1 && match P.underlying f.type with
  | some (.int k) => match c with
   | .int k' => kindEq k k'
   | _ => false
  | some .bool => match c with
   | .bool => true
   | _ => false
  | some .string => match c with
   | .str => true
   | _ => false
  | _ => false
def fieldsOk (P : Program) : Nat → List Field → List CK → Bool
 | _, [], [] => true
 | j, f :: fs, c :: cs => fieldOk P f j c && fieldsOk P (j + 1) fs cs
 | _, _, _ => false
def flatOk (P : Program) (t : TypeId) (fields : List Field) (z : V) : Bool :=
 !(P.stoodInHeld t) && (fields.all fun f => !(f.name == "_")) && match cksOf z.cells with
  | some ks => fieldsOk P 0 fields ks
  | none => false
def flatFs (P : Program) (p : TypeId → List CK → Bool) : Nat → List Field → List CK → Bool
 | _, [], [] => true
 | j, f :: fs, ks => Nat.beq f.offset j && Nat.ble (P.cellsOf f.type) ks.length && p f.type (ks.take (P.cellsOf f.type)) && flatFs P p (j + P.cellsOf f.type) fs (ks.drop (P.cellsOf f.type))
 | _, [], _ :: _ => false
def nestB (P : Program) : Nat → TypeId → List CK → Bool
 | 0, _, _ => false
 | d + 1, t, ks => Nat.beq (P.cellsOf t) ks.length && match P.underlying t with
  | some (.int k) => match ks with
   | [.int k'] => kindEq k k'
   | _ => false
  | some .bool => match ks with
   | [.bool] => true
   | _ => false
  | some .string => match ks with
   | [.str] => true
   | _ => false
  | some (.struct fs) => (sizeT P t).isSome && !(P.stoodInHeld t) && (fs.toList.all fun f => !(f.name == "_")) && flatFs P (nestB P d) 0 fs.toList ks
  | _ => false
def eqOk (P : Program) (t : TypeId) (z : V) : Bool :=
 match P.underlying t with
 | some (.struct fields) => flatOk P t fields.toList z || match cksOf z.cells with
  | some ks => nestB P 4 t ks
  | none => false
 | _ => true
def kdL (f : TypeId → Option (List CK)) : List Field → Option (List CK)
 | [] => some []
 | x :: xs => match f x.type, kdL f xs with
  | some a, some b => some (a ++ b)
  | _, _ => none
def kdT (P : Program) : Nat → TypeId → Option (List CK)
 | 0, _ => none
 | d + 1, t => match P.underlying t with
  | some (.int k) => some [.int k]
  | some .bool => some [.bool]
  | some .string => some [.str]
  | some (.slice e) => some [.list e]
  | some (.struct fs) => kdL (kdT P d) fs.toList
  | some (.array n e) => match kdT P d e with
   | some l => some ((List.replicate n l).flatten)
   | none => none
  | _ => none
def kdOf (P : Program) (t : TypeId) : List CK :=
 match kdT P 5 t with
 | some l => l
 | none => []
def mkTI (P : Program) (t : TypeId) : Option TI :=
 match isAggT P t, sizeT P t, zeroV P t with
 | some a, some n, some z => some ⟨mkTY P t, a, n, z, !(P.eqGuardType P.depth t) && eqOk P t z, kdOf P t⟩
 | _, _, _ => none
def mkTT (P : Program) : List TypeId → Option TT
 | [] => some []
 | t :: ts => match mkTI P t, mkTT P ts with
  | some i, some l => some ((t, i) :: l)
  | _, _ => none
def TTok (P : Program) (tt : TT) : Prop := ∀ t i, look tt t = some i → mkTI P t = some i
structure Nu where
 f : Nat → Option (Nat × Nat)
 G : Nat → Option AO
instance : CoeFun Nu (fun _ => Nat → Option (Nat × Nat)) := ⟨Nu.f⟩
structure Nu.le (n : Nat) (ν ν' : Nu) : Prop where
 at_ : ∀ x, x < n → ν' x = ν x
 G : ∀ b o, ν.G b = some o → ν'.G b = some o
instance {n : Nat} {ν ν' : Nu} : CoeFun (Nu.le n ν ν') (fun _ => ∀ x, x < n → ν' x = ν x) := ⟨Nu.le.at_⟩
theorem Nu.le.refl {n : Nat} {ν : Nu} : Nu.le n ν ν := ⟨fun _ _ => rfl, fun _ _ h => h⟩
theorem Nu.le.trans {n m : Nat} {ν ν1 ν2 : Nu} (a : Nu.le n ν ν1) (b : Nu.le m ν1 ν2) (hn : n ≤ m) : Nu.le n ν ν2 :=
 ⟨fun x hx => (b.at_ x (Nat.lt_of_lt_of_le hx hn)).trans (a.at_ x hx), fun c o h => b.G c o (a.G c o h)⟩
theorem Nu.le.sub {n m : Nat} {ν ν1 : Nu} (a : Nu.le n ν ν1) (hn : m ≤ n) : Nu.le m ν ν1 := ⟨fun x hx => a.at_ x (Nat.lt_of_lt_of_le hx hn), a.G⟩
def CK.av : CK → D → AV
 | .int k, d => .int k d.int
 | .bool, d => .bool d.bool
 | .str, d => .str d.str
 | .nils, _ => .nils
 | .list _, _ => .nils
def acOk (ks : List CK) : AC → Prop
 | .ints _ => ∃ k, ks = [.int k]
 | .recs _ => ks ≠ [] ∧ ∀ k, ks ≠ [.int k]
inductive CellD (G : Nat → Option AO) (κ : Kt) : CK → D → AV → Prop where
 | flat (c : CK) (d : D) : isList c = false → CellD G κ c d (c.av d)
 | nil (e : Nat) (a : AC) : acOk (kindsK κ e) a → a.len = 0 → CellD G κ (.list e) (.seq a) .nils
 | esl (e : Nat) (a : AC) (x : Addr) : acOk (kindsK κ e) a → a.len = 0 → CellD G κ (.list e) (.seq a) (.esl x)
 | list (e : Nat) (a : AC) (B b0 cap : Nat) (cs : List AV) (el : TypeId) (op w sp : Bool) (f z : Nat) : G B = some (.row cs el op w sp f z) → acOk (kindsK κ e) a → (op = true → z = (kindsK κ e).length) → a.len ≤ cap →
   b0 + a.len * (kindsK κ e).length ≤ cs.length → (∀ i j c, i < a.len → (kindsK κ e)[j]? = some c → CellD G κ c (a.dat i j) (cs.getD (b0 + i * (kindsK κ e).length + j) (.tup []))) → CellD G κ (.list e) (.seq a) (.slc B b0 a.len cap)
theorem CellD.mono {G G' : Nat → Option AO} (hG : ∀ b o, G b = some o → G' b = some o) {κ : Kt} {c : CK} {d : D} {v : AV} (h : CellD G κ c d v) : CellD G' κ c d v := by
 induction h with
 | flat c d h => exact .flat c d h
 | nil e a h1 h2 => exact .nil e a h1 h2
 | esl e a x h1 h2 => exact .esl e a x h1 h2
 | list e a B b0 cap cs el op w sp f z h1 h2 h3 h4 h5 _ ih => exact .list e a B b0 cap cs el op w sp f z (hG _ _ h1) h2 h3 h4 h5 ih
def RowG (G : Nat → Option AO) (κ : Kt) (e : Nat) (a : AC) (B b0 : Nat) : Prop :=
 ∃ cs el op w sp f z, G B = some (.row cs el op w sp f z) ∧ acOk (kindsK κ e) a ∧ (op = true → z = (kindsK κ e).length) ∧ b0 + a.len * (kindsK κ e).length ≤ cs.length ∧
  ∀ i j c, i < a.len → (kindsK κ e)[j]? = some c → CellD G κ c (a.dat i j) (cs.getD (b0 + i * (kindsK κ e).length + j) (.tup []))
theorem RowG.mono {G G' : Nat → Option AO} (hG : ∀ b o, G b = some o → G' b = some o) {κ : Kt} {e : Nat} {a : AC} {B b0 : Nat} (h : RowG G κ e a B b0) : RowG G' κ e a B b0 := by
 obtain ⟨cs, el, op, w, sp, f, z, h1, h2, h3, h4, h5⟩ := h
 exact ⟨cs, el, op, w, sp, f, z, hG _ _ h1, h2, h3, h4, fun i j c hi hj => (h5 i j c hi hj).mono hG⟩
mutual
def Cv (n : Nat) (ν : Nu) : V → AV → Prop
 | .int k n, a => a = .int k n
 | .bool b, a => a = .bool b
 | .test b, a => a = .bool b
 | .str s, a => a = .str s
 | .nilp, a => a = .nilp
 | .nils, a => a = .nils
 | .nilm, a => a = .nilm
 | .nilf, a => a = .nilf
 | .nili, a => a = .nili
 | .ptr x o, a => x < n ∧ ∃ B b0, ν x = some (B, b0) ∧ a = .ptr B (b0 + o)
 | .eptr x i z o, a => x < n ∧ ∃ B b0, ν x = some (B, b0) ∧ a = .ptr B (b0 + i * z + o)
 | .slc x z o len, a => x < n ∧ ((ν x = none ∧ len = 0 ∧ a = .nils) ∨ ∃ B b0 cap o', ν x = some (B, b0) ∧ len ≤ cap ∧ o' ≤ o ∧ (o' = o ∨ cap = 0) ∧ a = .slc B (b0 + o' * z) len cap)
 | .grw x len, a => x < n ∧ ((ν x = none ∧ len = 0 ∧ a = .nils) ∨ ∃ B, ν x = some (B, 0) ∧ a = .slc B 0 len len)
 | .mp x, a => x < n ∧ ∃ B b0, ν x = some (B, b0) ∧ a = .mp B
 | .fn f fst cap, a => ∃ as cs, a = .fn f as cs ∧ Cvs n ν fst as ∧ Cvs n ν cap cs
 | .yld x, a => x < n ∧ ∃ B b0, ν x = some (B, b0) ∧ a = .yld B
 | .agg cs, a => ∃ as, a = .agg as ∧ Cvs n ν cs as
 | .tup cs, a => ∃ as, a = .tup as ∧ Cvs n ν cs as
 | .lst κ e c, a => CellD ν.G κ (.list e) (.seq c) a
 | .gptr κ e c i o, a => ∃ B b0, RowG ν.G κ e c B b0 ∧ i < c.len ∧ a = .ptr B (b0 + i * (kindsK κ e).length + o)
def Cvs (n : Nat) (ν : Nu) : List V → List AV → Prop
 | [], l => l = []
 | v :: vs, l => ∃ a as, l = a :: as ∧ Cv n ν v a ∧ Cvs n ν vs as
end
def FrRel (n : Nat) (ν : Nu) (nt : Nat) (l : List (Nat × V)) (t : List AV) : Prop :=
 t.length = nt ∧ ∀ i v, look l i = some v → ∃ a, t[i]? = some a ∧ Cv n ν v a
def MarkRel (n : Nat) (ν : Nu) : List Nat → List Nat → Prop
 | [], l => l = []
 | x :: xs, l => x < n ∧ ∃ B b0 bs, ν x = some (B, b0) ∧ l = B :: bs ∧ MarkRel n ν xs bs
def rowAV : List CK → Nat → List D → List AV
 | [], _, _ => []
 | c :: ks, j, ds => c.av (ds.getD j (.n 0)) :: rowAV ks (j + 1) ds
def AC.avs (ks : List CK) : AC → List AV
 | .ints l => match ks with
  | [.int k] => l.map (AV.int k)
  | _ => []
 | .recs l => l.flatMap (rowAV ks 0)
def ksOk (ks : List CK) : AC → Prop
 | .ints _ => ∃ k, ks = [.int k]
 | .recs _ => ks ≠ []
def RowOk (m : Mode) (ks : List CK) (a : AC) (B b0 : Nat) : AO → Prop
 | .row cs _ op w sp f z => match m with
  | .rd => (op = true → z = ks.length) ∧ b0 + a.len * ks.length ≤ cs.length ∧ (cs.drop b0).take (a.len * ks.length) = a.avs ks
  | .ro => op = false ∧ b0 + a.len * ks.length ≤ cs.length ∧ (cs.drop b0).take (a.len * ks.length) = a.avs ks
  | .own => b0 = 0 ∧ op = false ∧ w = true ∧ sp = false ∧ f = B ∧ cs = a.avs ks
  | .grow => b0 = 0 ∧ op = true ∧ w = true ∧ sp = false ∧ z = ks.length ∧ cs = a.avs ks
 | _ => False
def rowA (ks : List CK) (ag : Bool) (ds : List D) : AV :=
 match ag with
 | true => .agg (rowAV ks 0 ds)
 | false => match ks with
  | [c] => c.av (ds.getD 0 (.n 0))
  | _ => .tup []
def emap (kt : IntKind) (ks : List CK) (ag : Bool) (l : List (Int × List D)) : List (AV × AV) := l.map fun e => (.int kt e.1, rowA ks ag e.2)
def emapS (ks : List CK) (ag : Bool) (l : List (List UInt8 × List D)) : List (AV × AV) := l.map fun e => (.str e.1, rowA ks ag e.2)
def pkA (k : Int × Int) : AV := .agg [.int .i64 k.1, .int .i64 k.2]
def emapP (ks : List CK) (ag : Bool) (l : List ((Int × Int) × List D)) : List (AV × AV) := l.map fun e => (pkA e.1, rowA ks ag e.2)
def ModeG (m : Mode) (B : Nat) (op w sp : Bool) (f z k : Nat) : Prop :=
 match m with
 | .own => op = false ∧ w = true ∧ sp = false ∧ f = B
 | .grow => op = true ∧ w = true ∧ sp = false ∧ z = k
 | _ => False
def Held (n : Nat) (ν : Nu) (x : Nat) (o : Ob) (g : Nat → Option AO) : Prop :=
 match o with
 | .cells cs => ∃ B as e z, ν x = some (B, 0) ∧ g B = some (.row as e false true false B z) ∧ Cvs n ν cs as
 | .arr ks m a => ksOk ks a ∧ ((ν x = none ∧ a.len = 0) ∨ ∃ B b0 r, ν x = some (B, b0) ∧ g B = some r ∧ RowOk m ks a B b0 r)
 | .loop st pend t nt ps as bo d => ∃ B b0 ts D d0, ν x = some (B, b0) ∧ d < n ∧ ν d = some (D, d0) ∧ g B = some (.loop st pend ts ps as bo D) ∧ FrRel n ν nt t ts
 | .dfr => ∃ B b0, ν x = some (B, b0) ∧ g B = some .dfr
 | .sit l pos => ∃ B, ν x = some (B, 0) ∧ g B = some (.sit l pos)
 | .map kt ks ag l => ∃ B b0, ν x = some (B, b0) ∧ g B = some (.map (emap kt ks ag l))
 | .smap ks ag l => ∃ B b0, ν x = some (B, b0) ∧ g B = some (.map (emapS ks ag l))
 | .pmap ks ag l => ∃ B b0, ν x = some (B, b0) ∧ g B = some (.map (emapP ks ag l))
 | .tarr κ e m a => acOk (kindsK κ e) a ∧ ((ν x = none ∧ a.len = 0) ∨ ∃ B cs el op w sp f z, ν x = some (B, 0) ∧ g B = some (.row cs el op w sp f z) ∧ ModeG m B op w sp f z (kindsK κ e).length ∧ cs.length = a.len * (kindsK κ e).length ∧
   ∀ i j c, i < a.len → (kindsK κ e)[j]? = some c → CellD ν.G κ c (a.dat i j) (cs.getD (i * (kindsK κ e).length + j) (.tup [])))
 | .tok => True
 | .gone => True
def Ob.own : Ob → Bool
 | .arr _ .ro _ => false
 | .arr _ .rd _ => false
 | .tok => false
 | .gone => false
 | _ => true
def Ob.live : Ob → Bool
 | .tok => false
 | .gone => false
 | _ => true
def famO (o : Option AO) (b : Nat) : Nat :=
 match o with
 | some (.row _ _ _ _ _ f _) => f
 | _ => b
noncomputable def fam (s : St) (b : Nat) : Nat := famO (s.get b) b
def NewOk (D : Nat) (s : St) : Prop := ∀ b cs e o w p f z, D ≤ b → s.get b = some (.row cs e o w p f z) → w = true ∧ D ≤ f
structure Px where
 G : Nat → Option AO
 Q : Nat → Prop
 nf : Prop
 TH : Nat → Prop
 TC : Nat → Prop
 p : Nat
 lo : Nat
 n0 : Nat
 g0 : Nat → Option AO
structure GR (c : Px) (ν : Nu) (h : H) (s : St) : Prop where
 gl : ∀ b o, ν.G b = some o → s.get b = some o
 ga : ∀ x o B b b', h.get x = some o → h.fz ≤ x → o.own = true → ν x = some (B, b) → (ν.G b').isSome = true → B ≠ b' ∧ fam s B ≠ fam s b'
 gg : ∀ b, (ν.G b).isSome = true → c.Q b ∨ (¬ c.nf ∧ (∀ b', (c.G b').isSome = true → b ≠ b' ∧ fam s b ≠ fam s b') ∧ ∀ D, c.TH D → D ≤ b ∧ D ≤ fam s b)
 tk : c.nf → ∀ x, h.get x ≠ some .tok
structure R (c : Px) (ν : Nu) (h : H) (s : St) : Prop where
 ok : s.ok
 obj : ∀ x o, h.get x = some o → Held h.nx ν x o s.get
 lt : ∀ x o, h.get x = some o → x < h.nx
 sep : ∀ x y o o' B B' b b', x ≠ y → h.get x = some o → h.get y = some o' → h.fz ≤ x → o.own = true → o'.live = true → ν x = some (B, b) → ν y = some (B', b') → B ≠ B' ∧ fam s B ≠ fam s B'
 gsep : ∀ x o B b b', h.get x = some o → h.fz ≤ x → o.own = true → ν x = some (B, b) → (c.G b').isSome = true → B ≠ b' ∧ fam s B ≠ fam s b'
 froz : ∀ b o, c.G b = some o → s.get b = some o
 kin : ∀ b, fam s b ≤ b
 th : ∀ D, c.TH D → D ≤ s.n ∧ D ≤ s.dirty ∧ NewOk D s ∧ ∀ x o B b, h.get x = some o → h.fz ≤ x → o.own = true → ν x = some (B, b) → D ≤ B ∧ D ≤ fam s B
 tc : ∀ D, c.TC D → D ≤ s.n ∧ (D ≤ s.dirty → NewOk D s)
 p_le : c.p ≤ h.nx
 lo_le : c.lo ≤ s.n
 new : ∀ x B b, c.p ≤ x → x < h.nx → ν x = some (B, b) → c.lo ≤ B
 blk : ∀ x B b, x < h.nx → ν x = some (B, b) → B < s.n
 snap : c.n0 ≤ s.n ∧ ∀ b, b < c.n0 → b < s.dirty → s.get b = c.g0 b
 gr : GR c ν h s
structure Ex (h : H) (ν : Nu) (s : St) (h' : H) (ν' : Nu) (s' : St) : Prop where
 same : Nu.le h.nx ν ν'
 nx : h.nx ≤ h'.nx
 fz : h'.fz = h.fz
 n : s.n ≤ s'.n
 new : ∀ x B b, h.nx ≤ x → x < h'.nx → ν' x = some (B, b) → s.n ≤ B
abbrev Post := AX → Frm → H → Prop
def RndRel (p : Nat) (ν : Nu) (rnd : Option Nat) (r : Option Nat) : Prop :=
 match rnd with
 | none => r = none
 | some x => x < p ∧ ∃ B b0, ν x = some (B, b0) ∧ r = some B
structure SemC (P : Program) [Facts] (p : Nat) (rnd : Option Nat) (cd : Code) (f : Frm) (h : H) (K : Post) : Prop where
 run : ∀ c ν s F r, c.p = p → R c ν h s → FrRel h.nx ν f.nt f.l F.t → MarkRel h.nx ν f.d F.d → RndRel p ν rnd r →
  ∃ N x F' s' f' h' ν', evC P r N cd F s = some (x, F', s') ∧ K x f' h' ∧ R c ν' h' s' ∧ FrRel h'.nx ν' f'.nt f'.l F'.t ∧ MarkRel h'.nx ν' f'.d F'.d ∧ Nu.le p ν ν' ∧ s.n ≤ s'.n ∧ h'.fz = h.fz
structure SemF (P : Program) [Facts] (fid : FuncId) (args : List V) (h : H) (K : V → H → Prop) : Prop where
 run : ∀ c ν s as, R c ν h s → Cvs h.nx ν args as →
  ∃ N a s' v h' ν', (∃ os, evF P N fid as s = some (a, os) ∧ s' = os.getD s) ∧ K v h' ∧ R c ν' h' s' ∧ Cv h'.nx ν' v a ∧ Ex h ν s h' ν' s'
structure SemY (P : Program) [Facts] (x : Nat) (args : List V) (h : H) (K : V → H → Prop) : Prop where
 run : ∀ c ν s as B b0, R c ν h s → Cvs h.nx ν args as → x < h.nx → ν x = some (B, b0) →
  ∃ N a s' v h' ν', (∃ os, evR P N B as s = some (a, os) ∧ s' = os.getD s) ∧ K v h' ∧ R c ν' h' s' ∧ Cv h'.nx ν' v a ∧ Ex h ν s h' ν' s'
def Frm.put (f : Frm) (dst : Option Tmp) (v : V) (K : Frm → Prop) : Prop :=
 match dst with
 | none => K f
 | some i => match f with
  | ⟨nt, l, d⟩ => match Nat.blt i nt with
   | true => K ⟨nt, (i, v) :: l, d⟩
   | false => False
def appV (a b c : List V) (K : List V → Prop) : Prop :=
 match a, c with
 | [], [] => forceL b K
 | a, c => forceL (a ++ b ++ c) K
section
variable (P : Program) [Facts] (tt : TT)
def operV (o : Oper) (f : Frm) (h : H) (K : V → H → Prop) : Prop :=
 match f with
 | ⟨_, l, _⟩ => match o.op with
  | .call c => match c.callee with
   | .value g => match eval l g with
    | some (.fn fid fst cap) => match evals l c.args.toList with
     | some as => appV fst as cap fun r => Node (SemF P fid r h K)
     | none => False
    | some (.yld x) => match evals l c.args.toList with
     | some as => forceL as fun r => Node (SemY P x r h K)
     | none => False
    | _ => False
   | _ => primV tt l h o.op K
  | _ => primV tt l h o.op K
def wantedV (all : List Oper) (f : Frm) (o : Oper) (yes no : Frm → Prop) : Prop :=
 match o.guard with
 | none => yes f
 | some (j, want) => match nth all j with
  | some q => match q.dst with
   | some i => match f with
    | ⟨nt, l, d⟩ => match look l i with
     | some (.bool b) => match b, want with
      | true, true => yes ⟨nt, l, d⟩
      | false, false => yes ⟨nt, l, d⟩
      | _, _ => no ⟨nt, l, d⟩
     | some (.test b) => match want with
      | true => Branch b (yes ⟨nt, (i, .bool true) :: l, d⟩) (no ⟨nt, (i, .bool false) :: l, d⟩)
      | false => Branch b (no ⟨nt, (i, .bool true) :: l, d⟩) (yes ⟨nt, (i, .bool false) :: l, d⟩)
     | some (.tup []) => no ⟨nt, l, d⟩
     | _ => False
   | none => no f
  | none => no f
def extSig (op : Op) : Option (FuncId × List Operand) :=
 match op with
 | .call c => match c.callee with
  | .value (.func g) => match c.argTypes.toList with
   | [a, b] => match tyOf tt a, tyOf tt b with
    | .string, .int k => match kindEq k .u8 with
     | true => some (g, c.args.toList)
     | false => none
    | _, _ => none
   | _ => none
  | _ => none
 | _ => none
def ExtIs (fn : Func) (vs : List V) (r : V) : Prop :=
 ∃ (l : List UInt8) (c : Int), vs = [.str l, .int .u8 c] ∧
  ((fn.origin = "" ∧ fn.name = cntName ∧ r = .int .i64 (Lib.countByte l c.toNat.toUInt8)) ∨
   (fn.origin = "" ∧ fn.name = idxName ∧ r = .int .i64 (Lib.indexByte l c.toNat.toUInt8)))
def stepV (o : Oper) (f : Frm) (h : H) (K : V → H → Prop) : Prop :=
 match extSig tt o.op with
 | some (g, args) => match f with
  | ⟨nt, l, d⟩ => Node ((∃ fn vs r, P.funcs[g]? = some fn ∧ fn.body = none ∧ evals l args = some vs ∧ ExtIs fn vs r ∧ K r h) ∨ operV P tt o ⟨nt, l, d⟩ h K)
 | none => operV P tt o f h K
def opsV (all : List Oper) (l : List Oper) : Frm → H → (Frm → H → Prop) → Prop :=
 List.rec (motive := fun _ => Frm → H → (Frm → H → Prop) → Prop) (fun f h K => K f h)
  (fun o _ ih f h K => wantedV all f o
   (fun f => stepV P tt o f h fun v h' => f.put o.dst v fun f' => ih f' h' K)
   (fun f => f.put o.dst (.tup []) fun f' => ih f' h K)) l
theorem opsV_nil (all : List Oper) (f : Frm) (h : H) (K : Frm → H → Prop) : opsV P tt all [] f h K = K f h := rfl
theorem opsV_cons (all : List Oper) (o : Oper) (os : List Oper) (f : Frm) (h : H) (K : Frm → H → Prop) : opsV P tt all (o :: os) f h K = wantedV all f o
      (fun f => stepV P tt o f h fun v h' => f.put o.dst v fun f' => opsV P tt all os f' h' K)
      (fun f => f.put o.dst (.tup []) fun f' => opsV P tt all os f' h K) := rfl
def hideV (bs : List Nat) (i : Nat) : List (Nat × Nat × Nat) → List (Nat × Ob) → List (Nat × Ob)
 | [], l => l
 | (j, lo, hi) :: m, l => match tied bs j i with
  | true => hideV bs i m l
  | false => hideV bs i m (hideL lo hi l)
where
 hideL (lo hi : Nat) : List (Nat × Ob) → List (Nat × Ob)
  | [] => []
  | (x, o) :: l => match Nat.ble lo x, Nat.blt x hi with
   | true, true => (x, .gone) :: hideL lo hi l
   | _, _ => (x, o) :: hideL lo hi l
def noTok : List (Nat × Ob) → List (Nat × Ob)
 | [] => []
 | (x, o) :: l => match o with
  | .tok => (x, .gone) :: noTok l
  | o => (x, o) :: noTok l
def hideT (bs : List Nat) (i : Nat) (m : List (Nat × Nat × Nat)) (l : List (Nat × Ob)) : List (Nat × Ob) := noTok (hideV bs i m l)
def toks : List (Nat × Ob) → List Nat
 | [] => []
 | (x, o) :: l => match o with
  | .tok => x :: toks l
  | _ => toks l
def retok (hl : List (Nat × Ob)) : List Nat → List (Nat × Ob) → List (Nat × Ob)
 | [], l => l
 | x :: xs, l => match look hl x with
  | some .tok => (x, .tok) :: retok hl xs l
  | _ => retok hl xs l
def newL (n : Nat) : List (Nat × Ob) → List (Nat × Ob)
 | [] => []
 | (x, o) :: l => match Nat.ble n x with
  | true => (x, o) :: newL n l
  | false => newL n l
def app {α : Type} : List α → List α → List α
 | [], m => m
 | a :: l, m => a :: app l m
def kindD (o : Oper) : Option Bool :=
 match o.op with
 | .store _ _ _ => some true
 | .mapUpdate _ _ _ _ => some true
 | .call c => match c.callee with
  | .builtin .append => none
  | .builtin _ => some false
  | _ => none
 | _ => some false
abbrev DrawT := Nat → Frm → H → List (Nat × Nat × Nat) → List Nat → (Frm → H → List Nat → Prop) → Prop
def drawV (bs : List Nat) (all : List Oper) (l : List Oper) : DrawT :=
 List.rec (motive := fun _ => DrawT) (fun _ f h _ eff K => K f h eff)
  (fun o _ ih i f h made eff K => wantedV all f o
   (fun f => match h with
    | ⟨nx, fz, l⟩ => forceL (hideT bs i made l) fun hl =>
     let quiet := fun _ : Unit => operV P tt o f ⟨nx, nx, hl⟩ fun v h' => match h' with
      | ⟨nx', _, l'⟩ => match Nat.beq nx' nx with
       | true => f.put o.dst v fun f' => ih (i + 1) f' ⟨nx, fz, l⟩ made eff K
       | false => match blind o with
        | true => False
        | false => forceL (app (newL nx l') l) fun l'' => f.put o.dst v fun f' => ih (i + 1) f' ⟨nx', fz, l''⟩ ((i, nx, nx') :: made) eff K
     let loud := fun _ : Unit => operV P tt o f ⟨nx, fz, hl⟩ fun v h' => match blind o, h' with
      | false, ⟨nx', fz', l'⟩ => forceL (retok l (toks l) l') fun l'' => f.put o.dst v fun f' => ih (i + 1) f' ⟨nx', fz', l''⟩ ((i, nx, nx') :: made) (i :: eff) K
      | _, _ => False
     match kindD o with
     | some false => quiet ()
     | some true => loud ()
     | none => Node (quiet () ∨ loud ()))
   (fun f => f.put o.dst (.tup []) fun f' => ih (i + 1) f' h made eff K)) l
theorem drawV_nil (bs : List Nat) (all : List Oper) (i : Nat) (f : Frm) (h : H) (made : List (Nat × Nat × Nat)) (eff : List Nat) (K : Frm → H → List Nat → Prop) : drawV P tt bs all [] i f h made eff K = K f h eff := rfl
theorem drawV_cons (bs : List Nat) (all : List Oper) (o : Oper) (os : List Oper) (i : Nat) (f : Frm) (h : H) (made : List (Nat × Nat × Nat)) (eff : List Nat) (K : Frm → H → List Nat → Prop) : drawV P tt bs all (o :: os) i f h made eff K = wantedV all f o
      (fun f => match h with
       | ⟨nx, fz, l⟩ => forceL (hideT bs i made l) fun hl =>
        let quiet := fun _ : Unit => operV P tt o f ⟨nx, nx, hl⟩ fun v h' => match h' with
         | ⟨nx', _, l'⟩ => match Nat.beq nx' nx with
          | true => f.put o.dst v fun f' => drawV P tt bs all os (i + 1) f' ⟨nx, fz, l⟩ made eff K
          | false => match blind o with
           | true => False
           | false => forceL (app (newL nx l') l) fun l'' => f.put o.dst v fun f' => drawV P tt bs all os (i + 1) f' ⟨nx', fz, l''⟩ ((i, nx, nx') :: made) eff K
        let loud := fun _ : Unit => operV P tt o f ⟨nx, fz, hl⟩ fun v h' => match blind o, h' with
         | false, ⟨nx', fz', l'⟩ => forceL (retok l (toks l) l') fun l'' => f.put o.dst v fun f' => drawV P tt bs all os (i + 1) f' ⟨nx', fz', l''⟩ ((i, nx, nx') :: made) (i :: eff) K
         | _, _ => False
        match kindD o with
        | some false => quiet ()
        | some true => loud ()
        | none => Node (quiet () ∨ loud ()))
      (fun f => f.put o.dst (.tup []) fun f' => drawV P tt bs all os (i + 1) f' h made eff K) := rfl
def oneV : V → Bool
 | .int _ _ | .bool _ | .test _ | .str _ | .nilp | .nils | .nilm | .nilf | .nili => true
 | _ => false
def onesV : List V → Bool
 | [] => true
 | v :: vs => oneV v && onesV vs
def flatV : V → Bool
 | .agg cs => onesV cs
 | .tup _ => false
 | v => oneV v
def oldV (nx : Nat) : V → Bool
 | .grw x _ => Nat.blt x nx
 | .slc x _ _ _ => Nat.blt x nx
 | _ => false
def placeOf : V → Option Nat
 | .ptr x _ => some x
 | .eptr x _ _ _ => some x
 | _ => none
def inN (y : Nat) : List Nat → Bool
 | [] => false
 | x :: xs => Nat.beq y x || inN y xs
def lenFreeV : Option V → Bool
 | some .nils => true
 | some (.grw _ _) => true
 | some (.slc _ _ _ _) => true
 | _ => false
def freeV (all : List Oper) (l : List (Nat × V)) (nx : Nat) (xs : List Nat) (hl : List (Nat × Ob)) (j : Nat) (q : Oper) : Bool :=
 (match q.guard with
  | some (g, want) => (match nth all g with
   | some p => (match p.dst with
    | some i => lastSet all j i && (match look l i with
     | some (.bool b) => b != want
     | _ => false)
    | none => false)
   | none => false)
  | none => false) || (match q.op, q.dst with
 | .load _ (.tmp t), some d => lastSet all j t && (match look l t, look l d with
  | some a, some v => (match placeOf a with
   | some y => !(inN y xs) && Nat.blt y nx && (flatV v || oldV nx v) && (match look hl y with
    | some o => o.live
    | none => false)
   | none => false)
  | _, _ => false)
 | _, _ => match Go.Vm.lenArg q with
  | some t => lastSet all j t && lenFreeV (look l t)
  | none => false)
def softW (all : List Oper) (l : List (Nat × V)) (h : H) (i : Nat) : Option Nat :=
 match all[i]? with
 | some o => match o.op with
  | .store _ (.tmp t) _ => match lastSet all i t, look l t, h with
   | true, some (.ptr x _), ⟨_, fz, hl⟩ => match look hl x, Nat.ble fz x with
    | some (.cells _), true => some x
    | _, _ => none
   | true, some (.eptr x _ _ _), ⟨_, fz, hl⟩ => match look hl x, Nat.ble fz x with
    | some (.arr _ .own _), true => some x
    | some (.arr _ .grow _), true => some x
    | _, _ => none
   | _, _, _ => none
  | _ => none
 | none => none
def softN (all : List Oper) (l : List (Nat × V)) (h : H) (i : Nat) : Option Nat :=
 match all[i]? with
 | some o => match o.op with
  | .store _ (.tmp t) _ => match lastSet all i t, look l t, h with
   | true, some (.ptr x _), ⟨nx, _, _⟩ => match Nat.ble nx x with
    | true => some x
    | false => none
   | _, _, _ => none
  | _ => none
 | none => none
def softV (all : List Oper) (l : List (Nat × V)) (h : H) (i : Nat) : Option Nat :=
 match softW all l h i with
 | some x => some x
 | none => softN all l h i
def softVs (all : List Oper) (l : List (Nat × V)) (h : H) : List Nat → Option (List Nat)
 | [] => some []
 | i :: is => match softV all l h i with
  | some x => match softVs all l h is with
   | some xs => some (x :: xs)
   | none => none
  | none => none
def drawOkS (all : List Oper) (l : List (Nat × V)) (h : H) (eff : List Nat) : Bool :=
 match softVs all l h eff with
 | some xs => match h with
  | ⟨nx, _, hl⟩ => Go.Vm.distinct (all.map (·.dst)) && edgesOk all && readsOk all (befores [] all) && all.zipIdx.all fun (q, j) =>
    if blind q then true else if tieAll (befores [] all) j eff then true else freeV all l nx xs hl j q
 | none => false
def drawOkV (all : List Oper) (f' : Frm) (h : H) (eff : List Nat) : Bool := drawOk all eff || drawOkS all f'.l h eff
abbrev WT := Frm → H → Post → Prop
def W (p : Nat) (rnd : Option Nat) (cd : Code) : WT :=
 Code.rec (motive := fun _ => WT)
  (skip := fun f h K => K .normal f h)
  (region := fun _ ops d f h K => match d with
   | false => opsV P tt ops.toList ops.toList f h fun f' h' => K .normal f' h'
   | true => drawV P tt (befores [] ops.toList) ops.toList ops.toList 0 f h [] [] fun f' h' eff => Node (drawOkV ops.toList f' h eff = true ∧ K .normal f' h'))
  (seq := fun _ _ iha ihb f h K => iha f h fun x f' h' => match x with
   | .normal => ihb f' h' K
   | .ret => K .ret f' h'
   | .exit i => K (.exit i) f' h')
  (cond := fun c _ _ iha ihb f h K => match c with
   | .tmp i => match f with
    | ⟨nt, l, d⟩ => match look l i with
     | some (.bool true) => iha ⟨nt, l, d⟩ h K
     | some (.bool false) => ihb ⟨nt, l, d⟩ h K
     | some (.test q) => Branch q (iha ⟨nt, (i, .bool true) :: l, d⟩ h K) (ihb ⟨nt, (i, .bool false) :: l, d⟩ h K)
     | _ => False
   | .const (.bool true) => iha f h K
   | .const (.bool false) => ihb f h K
   | _ => False)
  (block := fun id _ iha f h K => iha f h fun x f' h' => match x with
   | .normal => K .normal f' h'
   | .ret => K .ret f' h'
   | .exit i => match Nat.beq i id with
    | true => K .normal f' h'
    | false => K (.exit i) f' h')
  (loop := fun a _ f h K => Node (SemC P p rnd (.loop a) f h K))
  (rangeFunc := fun g ps as bo _ _ f h K => Node (SemC P p rnd (.rangeFunc g ps as bo) f h K))
  (exit := fun id f h K => K (.exit id) f h)
  (scope := fun _ iha f h K => iha f h K)
  (label := fun _ f h K => K .normal f h)
  (goto := fun _ _ _ _ => False)
  (ret := fun f h K => K .ret f h)
  (refuse := fun _ _ _ _ => False) cd
def shutV (h : H) : List Nat → (H → Prop) → Prop
 | [], K => K h
 | x :: xs, K => h.getK x fun ob => match ob with
  | .dfr => h.putK x .gone fun h' => shutV h' xs K
  | _ => False
def resultsV (tt : TT) (h : H) (f : List (Nat × V)) : List ResultVar → (List V → Prop) → Prop
 | [], K => K []
 | .tmp i :: rs, K => match look f i with
  | some v => resultsV tt h f rs fun vs => K (v :: vs)
  | none => False
 | .cell i ty :: rs, K => match look f i with
  | some a => loadV tt h ty a fun v => resultsV tt h f rs fun vs => K (v :: vs)
  | none => False
def resultV (vs : List V) (K : V → Prop) : Prop :=
 match vs with
 | [v] => K v
 | vs => K (.tup vs)
def endF (rs : List ResultVar) (K : V → H → Prop) : Post := fun x f h =>
 match x with
 | .exit _ => False
 | _ => match f with
  | ⟨_, l, d⟩ => shutV h d fun h' => resultsV tt h' l rs fun vs => resultV vs fun v => Node (K v h')
def argsF : Nat → List V → List (Nat × V)
 | _, [] => []
 | i, v :: vs => (i, v) :: argsF (i + 1) vs
end
end Go.Vm2
