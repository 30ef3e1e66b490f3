/-
  Part of the proof that the small machine's runs stand for the program's (VmFast). No conditions beyond those that its theorems name.
-/
import Derived.Test.YtmdobpjkcheneaaVmSym
/-! The evaluator of Def once more, in a form that the kernel runs faster: frames are pairs, newest first, and the six functions are one record. -/
namespace Go.Vm.Q
noncomputable section
set_option linter.unusedVariables false
variable [Facts]
/-- what the slots hold, newest first -/
inductive En where
  | nil
  | cons (i : Nat) (v : AV) (r : En)
structure Fr where
  nt : Nat
  t : En
  d : List Nat
def lookD (l : En) : Nat → AV := En.rec (motive := fun _ => Nat → AV) (fun _ => aundef) (fun k v _ ih i => Bool.rec (motive := fun _ => AV) (ih i) v (Nat.beq k i)) l
def moveOf (op : Op) : Option Operand := match op with
  | .move x => some x
  | .assign x => some x
  | _ => none
def aEval (t : En) (x : Operand) : Option AV := Operand.rec (motive := fun _ => Option AV) (fun i => some (lookD t i)) (fun v => ofConst v) (fun _ => none) (fun f => some (.fn f [] [])) x
def aEvals (t : En) (l : List Operand) : Option (List AV) := List.rec (motive := fun _ => Option (List AV)) (some []) (fun x _ ih => Option.rec (motive := fun _ => Option (List AV)) none (fun a => Option.rec (motive := fun _ => Option (List AV)) none (fun as => some (a :: as)) ih) (aEval t x)) l

def partsA (t : En) : List (Nat × Operand) → Option (List (Nat × AV))
  | [] => some []
  | (i, x) :: l => match aEval t x, partsA t l with
    | some v, some r => some ((i, v) :: r)
    | _, _ => none

def optA (t : En) : Option Operand → Option (Option AV)
  | none => some none
  | some x => (aEval t x).map some

def prim_pick (P : Program) (t : En) (s : St) (c : Operand) (a : Operand) (b : Operand) : Res :=
  match aEval t c with
    | some (.bool true) => stay (aEval t a)
    | some (.bool false) => stay (aEval t b)
    | _ => none
def prim_alloc (P : Program) (t : En) (s : St) (e : TypeId) : Res :=
  match zeroOf P e with
    | some z => boxA s e z
    | none => none
def prim_box (P : Program) (t : En) (s : St) (e : TypeId) (x : Operand) : Res :=
  match aEval t x with
    | some v => boxA s e v
    | none => none
def prim_build (P : Program) (t : En) (s : St) (ty : TypeId) (parts : Array (Nat × Operand)) : Res :=
  match partsA t parts.toList with
    | some l => stay (buildA P ty l)
    | none => none
def prim_buildSlice (P : Program) (t : En) (s : St) (ty : TypeId) (len : Nat) (parts : Array (Nat × Operand)) : Res :=
  match partsA t parts.toList with
    | some l => buildSliceA P s ty len l
    | none => none
def prim_load (P : Program) (t : En) (s : St) (ty : TypeId) (a : Operand) : Res :=
  match aEval t a with
    | some v => stay (loadA P s ty v)
    | none => none
def prim_store (P : Program) (t : En) (s : St) (ty : TypeId) (a : Operand) (x : Operand) : Res :=
  match aEval t a, aEval t x with
    | some a, some v => match storeA P s ty a v with
      | some s' => some (aundef, some s')
      | none => none
    | _, _ => none
def prim_nilCheck (P : Program) (t : En) (s : St) (x : Operand) : Res :=
  match aEval t x with
    | some (.ptr b o) => some (.ptr b o, none)
    | _ => none
def prim_binOp (P : Program) (t : En) (s : St) (op : BinOp) (ty : TypeId) (x : Operand) (y : Operand) (_u4 : TypeId) : Res :=
  match aEval t x, aEval t y with
    | some a, some b => stay (binA P op ty a b)
    | _, _ => none
def prim_unOp (P : Program) (t : En) (s : St) (op : UnOp) (_u1 : TypeId) (x : Operand) : Res :=
  match aEval t x with
    | some a => stay (unA op a)
    | none => none
def prim_convert (P : Program) (t : En) (s : St) (src : TypeId) (dst : TypeId) (x : Operand) : Res :=
  match aEval t x with
    | some a => stay (castA P s src dst a)
    | none => none
def prim_makeSlice (P : Program) (t : En) (s : St) (ty : TypeId) (l : Operand) (c : Operand) : Res :=
  match aEval t l, aEval t c with
    | some l, some c => makeSliceA P s ty l c
    | _, _ => none
def prim_slice (P : Program) (t : En) (s : St) (ty : TypeId) (x : Operand) (lo : Option Operand) (hi : Option Operand) (mx : Option Operand) : Res :=
  match aEval t x, optA t lo, optA t hi, optA t mx with
    | some x, some lo, some hi, some mx => if mx.isSome && hi.isNone then none else stay (sliceA P s ty x lo hi mx)
    | _, _, _, _ => none
def prim_fieldAddr (P : Program) (t : En) (s : St) (ty : TypeId) (x : Operand) (f : Nat) : Res :=
  match aEval t x with
    | some a => stay (fieldAddrA P ty a f)
    | none => none
def prim_field (P : Program) (t : En) (s : St) (ty : TypeId) (x : Operand) (f : Nat) : Res :=
  match aEval t x with
    | some a => stay (fieldA P ty a f)
    | none => none
def prim_indexAddr (P : Program) (t : En) (s : St) (ty : TypeId) (x : Operand) (ix : Operand) : Res :=
  match aEval t x, aEval t ix with
    | some a, some i => stay (indexAddrA P ty a i)
    | _, _ => none
def prim_index (P : Program) (t : En) (s : St) (ty : TypeId) (x : Operand) (ix : Operand) : Res :=
  match aEval t x, aEval t ix with
    | some a, some i => stay (indexA P ty a i)
    | _, _ => none
def prim_lookup (P : Program) (t : En) (s : St) (ty : TypeId) (x : Operand) (ix : Operand) (ok : Bool) : Res :=
  match aEval t x, aEval t ix with
    | some m, some k => stay (lookupA P s ty m k ok)
    | _, _ => none
def prim_mapUpdate (P : Program) (t : En) (s : St) (ty : TypeId) (m : Operand) (k : Operand) (x : Operand) : Res :=
  match aEval t m, aEval t k, aEval t x with
    | some m, some k, some v => match updateA P s ty m k v with
      | some s' => some (aundef, some s')
      | none => none
    | _, _, _ => none
def prim_insert (P : Program) (t : En) (s : St) (ty : TypeId) (m : Operand) (k : Operand) (x : Operand) : Res :=
  match aEval t m, aEval t k, aEval t x with
    | some m, some k, some v => match updateA P s ty m k v with
      | some s' => some (aundef, some s')
      | none => none
    | _, _, _ => none
def prim_range (P : Program) (t : En) (s : St) (ty : TypeId) (x : Operand) : Res :=
  match aEval t x with
    | some v => rangeA P s ty v
    | none => none
def prim_next (P : Program) (t : En) (s : St) (it : Operand) (isString : Bool) : Res :=
  match aEval t it with
    | some v => nextA s v isString
    | none => none
def prim_extract (P : Program) (t : En) (s : St) (x : Operand) (i : Nat) : Res :=
  match aEval t x with
    | some (.tup vs) => stay vs[i]?
    | _ => none
def prim_call (P : Program) (t : En) (s : St) (c : Call) : Res :=
  match c.callee, aEvals t c.args.toList with
    | .builtin b, some args => builtinA P s b c.argTypes.toList args
    | _, _ => none
def prim (P : Program) (t : En) (s : St) (op : Op) : Res :=
  match op with
  | .move x | .assign x => stay (aEval t x)
  | .pick c a b => prim_pick P t s c a b
  | .alloc e => prim_alloc P t s e
  | .box e x => prim_box P t s e x
  | .build ty parts => prim_build P t s ty parts
  | .buildSlice ty len parts => prim_buildSlice P t s ty len parts
  | .load ty a => prim_load P t s ty a
  | .store ty a x => prim_store P t s ty a x
  | .nilCheck x => prim_nilCheck P t s x
  | .binOp op ty x y _u4 => prim_binOp P t s op ty x y _u4
  | .unOp op _u1 x => prim_unOp P t s op _u1 x
  | .convert src dst x => prim_convert P t s src dst x
  | .makeFunc (.func f) first captured => match aEvals t first.toList, aEvals t captured.toList with
    | some a, some b => some (.fn f a b, none)
    | _, _ => none
  | .makeMap _ none => some (.mp s.n, some (s.push (.map [])))
  | .makeMap ty (some x) => match aEval t x, P.underlying ty with
    | some (.int _ _), some (.map _ _) => some (.mp s.n, some (s.push (.map [])))
    | _, _ => none
  | .makeSlice ty l c => prim_makeSlice P t s ty l c
  | .slice ty x lo hi mx => prim_slice P t s ty x lo hi mx
  | .fieldAddr ty x f => prim_fieldAddr P t s ty x f
  | .field ty x f => prim_field P t s ty x f
  | .indexAddr ty x ix => prim_indexAddr P t s ty x ix
  | .index ty x ix => prim_index P t s ty x ix
  | .lookup ty x ix ok => prim_lookup P t s ty x ix ok
  | .mapUpdate ty m k x => prim_mapUpdate P t s ty m k x
  | .insert ty m k x => prim_insert P t s ty m k x
  | .range ty x => prim_range P t s ty x
  | .next it isString => prim_next P t s it isString
  | .extract x i => prim_extract P t s x i
  | .call c => prim_call P t s c
  | _ => none


def Fr.put (f : Fr) (dst : Option Tmp) (v : AV) : Fr :=
  Option.rec (motive := fun _ => Fr) f (fun i => Fr.rec (motive := fun _ => Fr) (fun nt t d => Bool.rec (motive := fun _ => Fr) ⟨nt, t, d⟩ ⟨nt, .cons i v t, d⟩ (Nat.ble (Nat.succ i) nt)) f) dst
def wantedG (all : List Oper) (t : En) (j : Nat) (want : Bool) : Bool :=
  match getF all j with
    | some q => match q.dst with
      | some i => match lookD t i with
        | .bool b => b == want
        | _ => false
      | none => false
    | none => false
def wantedA (all : List Oper) (t : En) (o : Oper) : Bool := Option.rec (motive := fun _ => Bool) true (fun p => wantedG all t p.1 p.2) o.guard

def resultsA (P : Program) (s : St) (t : En) : List ResultVar → Option (List AV)
  | [] => some []
  | .tmp i :: rs => match resultsA P s t rs with
    | some vs => some ((lookD t i) :: vs)
    | none => none
  | .cell i ty :: rs => match loadA P s ty ((lookD t i)), resultsA P s t rs with
    | some v, some vs => some (v :: vs)
    | _, _ => none

def numA : Nat → List AV → En
  | _, [] => .nil
  | i, a :: l => .cons i a (numA (i + 1) l)

def seqA (P : Program) (t : En) (s : St) (op : Op) : Option AV :=
  match op with
  | .call c => match c.callee with
    | .value (.func g) => match P.funcs[g]? with
      | some fn => match fn.body with
        | some _ => none
        | none => match aEvals t c.args.toList with
          | some args => extA fn args
          | none => none
      | none => none
    | _ => none
  | _ => none

def getT (f : Fr) (i : Nat) : Option AV := if i < f.nt then some (lookD f.t i) else none

def freeB (all : List Oper) (f' : Fr) (s : St) (Bs : List (Nat × Nat)) (j : Nat) (q : Oper) : Bool :=
  match q.op, q.dst with
  | .load _ (.tmp t), some d => lastSet all j t && (match (getT f' t), (getT f' d) with
    | some (.ptr b _), some v => !(inB b (kinA s b) Bs) && decide (b < s.n) && v.older s.n
    | _, _ => false)
  | _, _ => false
def softB (all : List Oper) (f' : Fr) (s : St) (i : Nat) (o : Oper) : Option (Nat × Nat) :=
  match o.op with
  | .store _ (.tmp t) _ => if lastSet all i t then (match (getT f' t) with
    | some (.ptr B _) => match s.get B with
      | some (.row _ _ _ _ _ f _) => some (B, f)
      | _ => none
    | _ => none) else none
  | _ => none
def softBs (all : List Oper) (f' : Fr) (s : St) : List Nat → Option (List (Nat × Nat))
  | [] => some []
  | i :: is => match all[i]? with
    | some o => match softB all f' s i o with
      | some B => match softBs all f' s is with
        | some Bs => some (B :: Bs)
        | none => none
      | none => none
    | none => none
def drawOk2 (all : List Oper) (f' : Fr) (s : St) (eff : List Nat) : Bool :=
  match softBs all f' s eff with
  | some Bs => distinct (all.map (·.dst)) && edgesOk all && readsOk all (befores [] all) && all.zipIdx.all fun (q, j) =>
      if blind q then true else if tieAll (befores [] all) j eff then true else freeB all f' s Bs j q
  | none => false

def hidden (bs : List Nat) (i : Nat) (s : St) (made : List (Nat × Nat × Nat)) : St := List.rec (motive := fun _ => St) s (fun _ _ _ => hide bs i s made) made
/-- is a list so long? -/
def lenIs {α : Type} (l : List α) (n : Nat) : Bool := List.rec (motive := fun _ => Nat → Bool) (fun n => Nat.beq n 0) (fun _ _ ih n => Nat.rec (motive := fun _ => Bool) false (fun m _ => ih m) n) l n

/-- a state whose numbers are known -/
def forced (s : St) : St := St.rec (motive := fun _ => St) (fun n h d => Nat.rec (motive := fun _ => St) ⟨0, h, d⟩ (fun m _ => Nat.rec (motive := fun _ => St) ⟨Nat.succ m, h, 0⟩ (fun k _ => ⟨Nat.succ m, h, Nat.succ k⟩) d) n) s
def toL (f : Fr) : List AV := (List.range f.nt).map (lookD f.t)

structure Rec where
  c : Option Nat → Code → Fr → St → Option (AX × Fr × St)
  o : Option Nat → List Oper → List Oper → Fr → St → Option (Fr × St)
  d : List Nat → List Oper → List Oper → Nat → Fr → St → List (Nat × Nat × Nat) → List Nat → Option (Fr × St × List Nat)
  p : Oper → Fr → St → Res
  r : Nat → List AV → St → Res
  f : FuncId → List AV → St → Res
def stepC (P : Program) (R : Rec) (rnd : Option Nat) (c : Code) (f : Fr) (s : St) : Option (AX × Fr × St) :=
    match c with
    | .skip => some (.normal, f, s)
    | .label _ => some (.normal, f, s)
    | .ret => some (.ret, f, s)
    | .exit id => some (.exit id, f, s)
    | .seq a b => match R.c rnd a f s with
      | some (.normal, f', s') => R.c rnd b f' s'
      | r => r
    | .cond c a b => match aEval f.t c with
      | some (.bool true) => R.c rnd a f s
      | some (.bool false) => R.c rnd b f s
      | _ => none
    | .block id a => match R.c rnd a f s with
      | some (.exit id', f', s') => if id' = id then some (.normal, f', s') else some (.exit id', f', s')
      | r => r
    | .scope a => R.c rnd a f s
    | .loop a => match R.c rnd a f s with
      | some (.normal, f', s') => R.c rnd (.loop a) f' s'
      | r => r
    | .region _ ops false => match R.o rnd ops.toList ops.toList f s with
      | some (f', s') => some (.normal, f', s')
      | none => none
    | .region _ ops true => match R.d (befores [] ops.toList) ops.toList ops.toList 0 f s [] [] with
      | some (f', s', eff) => if drawOk ops.toList eff || drawOk2 ops.toList f' s eff then some (.normal, f', s') else none
      | none => none
    | .rangeFunc g ps assign body =>
      match (match rnd with
        | none => some (s.n, [s.n], s.push .dfr)
        | some l => match s.get l with
          | some (.loop _ _ _ _ _ _ d) => some (d, [], s)
          | _ => none) with
      | some (D, mark, s1) =>
        match aEval f.t g with
        | some (.fn gid fst cap) =>
          match R.f gid (fst ++ [.yld s1.n] ++ cap) (s1.push (.loop .ready none (toL f) ps.toList assign body D)) with
          | some (_, s3) =>
            match (s3.getD (s1.push (.loop .ready none (toL f) ps.toList assign body D))).get s1.n with
            | some (.loop st pend ts ps' as bo D') =>
              if st = .busy then none else
              let s4 := (s3.getD (s1.push (.loop .ready none (toL f) ps.toList assign body D))).set s1.n (.loop .exhausted pend ts ps' as bo D')
              match pend with
              | none => some (.normal, { f with d := mark ++ f.d }, s4)
              | some x => some (x, { f with d := mark ++ f.d }, s4)
            | _ => none
          | none => none
        | _ => none
      | none => none
    | _ => none
def stepO (P : Program) (R : Rec) (rnd : Option Nat) (all : List Oper) (l : List Oper) (f : Fr) (s : St) : Option (Fr × St) :=
  List.rec (motive := fun _ => Option (Fr × St)) (some (f, s)) (fun o os _ =>
    Bool.rec (motive := fun _ => Option (Fr × St)) (R.o rnd all os (f.put o.dst aundef) s)
      (Option.rec (motive := fun _ => Option (Fr × St))
        (Option.rec (motive := fun _ => Option (Fr × St))
          (Option.rec (motive := fun _ => Option (Fr × St)) none
            (fun p => Prod.rec (motive := fun _ => Option (Fr × St)) (fun v r => Option.rec (motive := fun _ => Option (Fr × St)) (R.o rnd all os (f.put o.dst v) s) (fun s' => R.o rnd all os (f.put o.dst v) (forced s')) r) p) (R.p o f s))
          (fun v => R.o rnd all os (f.put o.dst v) s) (seqA P f.t s o.op))
        (fun x => Option.rec (motive := fun _ => Option (Fr × St)) none (fun v => R.o rnd all os (f.put o.dst v) s) (aEval f.t x)) (moveOf o.op))
      (wantedA all f.t o)) l
def stepD (P : Program) (R : Rec) (bs : List Nat) (all : List Oper) (l : List Oper) (i : Nat) (f : Fr) (s : St) (made : List (Nat × Nat × Nat)) (eff : List Nat) : Option (Fr × St × List Nat) :=
    match l with
    | [] => some (f, s, eff)
    | o :: os =>
      match wantedA all f.t o with
      | true => match moveOf o.op with
        | some x => match aEval f.t x with
          | some v => R.d bs all os (i + 1) (f.put o.dst v) s made eff
          | none => none
        | none => match blind o with
          | true => match R.p o f s with
            | some (v, none) => R.d bs all os (i + 1) (f.put o.dst v) s made eff
            | _ => none
          | false => match R.p o f (hidden bs i { s with dirty := s.n } made) with
            | some (v, none) => R.d bs all os (i + 1) (f.put o.dst v) s made eff
            | some (v, some s') =>
              if lenIs s'.h s'.n && Nat.ble s.n s'.n then
                if s.n ≤ s'.dirty then
                  if newOk s.n (s'.h.take (s'.n - s.n)) then R.d bs all os (i + 1) (f.put o.dst v) (forced { n := s'.n, h := s'.h.take (s'.n - s.n) ++ s.h, dirty := s.dirty }) ((i, s.n, s'.n) :: made) eff
                  else none
                else R.d bs all os (i + 1) (f.put o.dst v) (forced { s' with dirty := minF s.dirty s'.dirty }) made (i :: eff)
              else none
            | none => none
      | false => R.d bs all os (i + 1) (f.put o.dst aundef) s made eff
def stepP (P : Program) (R : Rec)  (o : Oper) (f : Fr) (s : St) : Res :=
    match o.op with
    | .call c => match c.callee with
      | .value g => match aEval f.t g, aEvals f.t c.args.toList with
        | some (.fn fid fst cap), some args => R.f fid (fst ++ args ++ cap) s
        | some (.yld b), some args => R.r b args s
        | _, _ => none
      | _ => prim P f.t s o.op
    | _ => prim P f.t s o.op
def stepR (P : Program) (R : Rec)  (b : Nat) (args : List AV) (s : St) : Res :=
    match s.get b with
    | some (.loop .ready _ ts ps assign body _) =>
      if args.length = ps.length then
        match R.c (some b) assign { nt := ts.length, t := numA 0 (setParams ts ps args), d := [] } s with
        | some (.normal, f1, s1) =>
          match s1.get b with
          | some (.loop .ready pend1 ts1 ps1 as1 bo1 D1) =>
            match R.c (some b) body f1 (s1.set b (.loop .busy pend1 ts1 ps1 as1 bo1 D1)) with
            | some (x, _, s3) =>
              match s3.get b with
              | some (.loop _ _ ts3 ps3 as3 bo3 D3) =>
                match x with
                | .normal => some (.bool true, some (s3.set b (.loop .ready none ts3 ps3 as3 bo3 D3)))
                | x => some (.bool false, some (s3.set b (.loop .done (some x) ts3 ps3 as3 bo3 D3)))
              | _ => none
            | none => none
          | _ => none
        | _ => none
      else none
    | _ => none
def stepF (P : Program) (R : Rec)  (fid : FuncId) (args : List AV) (s : St) : Res :=
    match P.funcs[fid]? with
    | some fn => match fn.body with
      | some c =>
        if args.isEmpty && Facts.T.contains fid then some (.bool true, none) else
        match R.c none c { nt := args.length + (fn.ntmps - args.length), t := numA 0 args, d := [] } { s with dirty := s.n } with
        | some (.exit _, _, _) => none
        | some (_, f', s1) =>
          match shutA s1 f'.d with
          | some s2 => match resultsA P s2 f'.t fn.results.toList with
            | some vs =>
              if Facts.drop && (resultA vs).flat && decide (s.n ≤ s2.dirty) then some (resultA vs, none)
              else some (resultA vs, some { s2 with dirty := minF s.dirty s2.dirty })
            | none => none
          | none => none
        | none => none
      | none => none
    | none => none
def ev (P : Program) (n : Nat) : Rec := Nat.rec (motive := fun _ => Rec) ⟨fun _ _ _ _ => none, fun _ _ _ _ _ => none, fun _ _ _ _ _ _ _ _ => none, fun _ _ _ => none, fun _ _ _ => none, fun _ _ _ => none⟩ (fun _ R => ⟨stepC P R, stepO P R, stepD P R, stepP P R, stepR P R, stepF P R⟩) n

end
end Go.Vm.Q
