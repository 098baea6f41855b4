/- The evaluator: a call of the program in a small world of its own. What hangs on the program's text alone is decided once ('K'). -/
import Derived.Test.YtafajhplaldeaaaGreatEvP
import Derived.Still
set_option linter.unusedVariables false
namespace Go.Ev
open Go

inductive VV where
  | bool (b : Bool) | int (k : IntKind) (n : Int) | str (n : Nat) (s : List Nat)
  | pnil | ptr (b v o : Nat)
  | snil | sl (b v o len : Nat) (cap : Option Nat) (sz : Nat)
  | mnil | map (b : Nat)
  | fnil | fn (f : Fn) (first cap : List VV)
  | inil | iface (t : TypeId) (x : VV)
  | agg (l : List VV) | tup (l : List VV)
  | ext (k : Nat)

structure Row where
  op : Bool
  fz : Nat
  mkd : Bool
  el : TypeId
  c : List VV

inductive VO where
  | cells (v : Nat) (r : Row)
  | map (es : List (VV × VV)) (st : Option (List Nat × Nat))
  | siter (n : Nat) (s : List Nat) (pos : Nat)
  | miter (m : Option Nat) (since : Nat) (seen : Option Nat) (last : Nat)
  | loop (st : LoopState) (pend : Option Code) (t : T VV) (n : Nat) (ps : List Tmp) (assign body : Code) (d : Nat)
  | defs
  | dead

inductive Trk where
  | off
  | on (bs fp wr : Nat)

structure VH where
  m : T VO
  nx : Nat
  tr : Trk

inductive VD where
  | call (f : FuncId) (args : List VV)
  | mark (b : Nat)

inductive RV where
  | ok (v : VV) (H : VH)
  | no (why : String)

inductive VEx where
  | normal | exit (id : Nat) | ret | goto (l : Nat)

inductive Task where
  | code (n : Nat) (c : Code) (rd : Option Nat) (ds : List VD) (t : T VV) (H : VH)
  | call (f : FuncId) (args : List VV) (H : VH)
  | callD (f : FuncId) (args : List VV) (H : VH)
  | round (l : Nat) (args : List VV) (H : VH)
inductive Res where
  | ex (e : VEx) (ds : List VD) (t : T VV) (H : VH)
  | ret (v : VV) (H : VH)
  | no (why : String)

abbrev Rec := Task → Res

noncomputable def RV.bind (x : RV) (f : VV → VH → RV) : RV := @RV.rec (fun _ => RV) f (fun w => .no w) x
noncomputable def RV.when (b : Bool) (why : String) (k : RV) : RV := @Bool.rec (fun _ => RV) (.no why) k b
noncomputable def RV.of {α : Type} (o : Option α) (why : String) (k : α → RV) : RV := @Option.rec α (fun _ => RV) (.no why) k o
noncomputable def RV.from {α : Type} (x : R α) (k : α → RV) : RV := @R.rec α (fun _ => RV) k (fun w => .no w) x

def undefV : VV := .tup []

/-- a value of the program's text -/
def abst : Nat → Value → Option VV
  | 0, _ => none
  | n + 1, v => match v with
    | .bool b => some (.bool b)
    | .int k i => some (.int k i)
    | .string s => some (.str s.size (s.data.toList.map UInt8.toNat))
    | .pointer none => some .pnil
    | .slice none 0 0 => some .snil
    | .map none => some .mnil
    | .nilFunc => some .fnil
    | .nilIface => some .inil
    | .iface t x => (abst n x).map (.iface t)
    | .agg cs => (cs.toList.mapM (abst n)).map .agg
    | .tuple cs => (cs.toList.mapM (abst n)).map .tup
    | .func (.func f) a b => (a.toList.mapM (abst n)).bind fun a => (b.toList.mapM (abst n)).map fun b => .fn (.func f) a b
    | _ => none

def VV.cells : VV → List VV
  | .agg l => l
  | v => [v]

def VV.one : VV → Bool
  | .agg _ => false
  | .tup _ => false
  | _ => true

noncomputable def allOne (l : List VV) : Bool := @List.rec VV (fun _ => Bool) true (fun v _ ih => @Bool.rec (fun _ => Bool) false ih v.one) l

/-! ### lists, by their recursors -/
noncomputable def dropN {α : Type} (l : List α) (n : Nat) : List α :=
  @List.rec α (fun _ => Nat → List α) (fun _ => []) (fun x l ih n => @Nat.rec (fun _ => List α) (x :: l) (fun n _ => ih n) n) l n
noncomputable def appN {α : Type} (l m : List α) : List α := @List.rec α (fun _ => List α) m (fun x _ ih => x :: ih) l
noncomputable def mapN {α β : Type} (f : α → β) (l : List α) : List β := @List.rec α (fun _ => List β) [] (fun x _ ih => f x :: ih) l

/-- the first n, all of them there -/
noncomputable def takeK {α : Type} (n : Nat) (l : List α) (k : List α → RV) : RV :=
  @Nat.rec (fun _ => List α → (List α → RV) → RV) (fun _ k => k []) (fun _ ih l k => @List.rec α (fun _ => RV) (.no "beyond the end") (fun x l _ => ih l fun r => k (x :: r)) l) n l k

/-- xs in the place of as many from o on, all of them there -/
noncomputable def over {α : Type} (c xs : List α) (k : List α → RV) : RV :=
  @List.rec α (fun _ => List α → (List α → RV) → RV) (fun c k => k c) (fun x _ ih c k => @List.rec α (fun _ => RV) (.no "beyond the end") (fun _ c _ => ih c fun r => k (x :: r)) c) xs c k
noncomputable def spliceK {α : Type} (c : List α) (o : Nat) (xs : List α) (k : List α → RV) : RV :=
  @Nat.rec (fun _ => List α → (List α → RV) → RV) (fun c k => over c xs k) (fun _ ih c k => @List.rec α (fun _ => RV) (.no "beyond the end") (fun y c _ => ih c fun r => k (y :: r)) c) o c k

/-- xs in the place of as many from o on; what there is ends before them perhaps, not before o -/
noncomputable def overX {α : Type} (c xs : List α) (k : List α → RV) : RV :=
  @List.rec α (fun _ => List α → (List α → RV) → RV) (fun c k => k c) (fun x _ ih c k => @List.rec α (fun _ => RV) (ih [] fun r => k (x :: r)) (fun _ c _ => ih c fun r => k (x :: r)) c) xs c k
noncomputable def spliceX {α : Type} (c : List α) (o : Nat) (xs : List α) (k : List α → RV) : RV :=
  @Nat.rec (fun _ => List α → (List α → RV) → RV) (fun c k => overX c xs k) (fun _ ih c k => @List.rec α (fun _ => RV) (.no "beyond the end") (fun y c _ => ih c fun r => k (y :: r)) c) o c k

/-- the element at o -/
noncomputable def nthK {α : Type} (l : List α) (o : Nat) (k : α → RV) : RV :=
  @List.rec α (fun _ => Nat → RV) (fun _ => .no "beyond the end") (fun x _ ih o => @Nat.rec (fun _ => RV) (k x) (fun o _ => ih o) o) l o

noncomputable def lenN {α : Type} (l : List α) : Nat := @List.rec α (fun _ => Nat → Nat) (fun n => n) (fun _ _ ih n => natK n fun n => ih (Nat.succ n)) l 0

noncomputable def listEq (x y : List Nat) : Bool :=
  @List.rec Nat (fun _ => List Nat → Bool) (fun y => @List.rec Nat (fun _ => Bool) true (fun _ _ _ => false) y)
    (fun a _ ih y => @List.rec Nat (fun _ => Bool) false (fun b y _ => @Bool.rec (fun _ => Bool) false (ih y) (Nat.beq a b)) y) x y
noncomputable def listLt (x y : List Nat) : Bool :=
  @List.rec Nat (fun _ => List Nat → Bool) (fun y => @List.rec Nat (fun _ => Bool) false (fun _ _ _ => true) y)
    (fun a _ ih y => @List.rec Nat (fun _ => Bool) false (fun b y _ => @Bool.rec (fun _ => Bool) (@Bool.rec (fun _ => Bool) false (ih y) (Nat.beq a b)) true (Nat.blt a b)) y) x y

noncomputable def asInt (x : VV) (k : IntKind → Int → RV) : RV :=
  @VV.rec (fun _ => (IntKind → Int → RV) → RV) (fun _ => PUnit) (fun _ _ => .no "asInt") (fun a0 a1 k => k a0 a1) (fun _ _ _ => .no "asInt") (fun _ => .no "asInt") (fun _ _ _ _ => .no "asInt") (fun _ => .no "asInt") (fun _ _ _ _ _ _ _ => .no "asInt") (fun _ => .no "asInt") (fun _ _ => .no "asInt") (fun _ => .no "asInt") (fun _ _ _ _ _ _ => .no "asInt") (fun _ => .no "asInt") (fun _ _ _ _ => .no "asInt") (fun _ _ _ => .no "asInt") (fun _ _ _ => .no "asInt") (fun _ _ => .no "asInt") ⟨⟩ (fun _ _ _ _ => ⟨⟩) x k
noncomputable def asBool (x : VV) (k : Bool → RV) : RV :=
  @VV.rec (fun _ => (Bool → RV) → RV) (fun _ => PUnit) (fun a0 k => k a0) (fun _ _ _ => .no "asBool") (fun _ _ _ => .no "asBool") (fun _ => .no "asBool") (fun _ _ _ _ => .no "asBool") (fun _ => .no "asBool") (fun _ _ _ _ _ _ _ => .no "asBool") (fun _ => .no "asBool") (fun _ _ => .no "asBool") (fun _ => .no "asBool") (fun _ _ _ _ _ _ => .no "asBool") (fun _ => .no "asBool") (fun _ _ _ _ => .no "asBool") (fun _ _ _ => .no "asBool") (fun _ _ _ => .no "asBool") (fun _ _ => .no "asBool") ⟨⟩ (fun _ _ _ _ => ⟨⟩) x k
noncomputable def asPtr (x : VV) (k : Nat → Nat → Nat → RV) : RV :=
  @VV.rec (fun _ => (Nat → Nat → Nat → RV) → RV) (fun _ => PUnit) (fun _ _ => .no "asPtr") (fun _ _ _ => .no "asPtr") (fun _ _ _ => .no "asPtr") (fun _ => .no "asPtr") (fun a0 a1 a2 k => k a0 a1 a2) (fun _ => .no "asPtr") (fun _ _ _ _ _ _ _ => .no "asPtr") (fun _ => .no "asPtr") (fun _ _ => .no "asPtr") (fun _ => .no "asPtr") (fun _ _ _ _ _ _ => .no "asPtr") (fun _ => .no "asPtr") (fun _ _ _ _ => .no "asPtr") (fun _ _ _ => .no "asPtr") (fun _ _ _ => .no "asPtr") (fun _ _ => .no "asPtr") ⟨⟩ (fun _ _ _ _ => ⟨⟩) x k
noncomputable def asStr (x : VV) (k : Nat → List Nat → RV) : RV :=
  @VV.rec (fun _ => (Nat → List Nat → RV) → RV) (fun _ => PUnit) (fun _ _ => .no "asStr") (fun _ _ _ => .no "asStr") (fun a0 a1 k => k a0 a1) (fun _ => .no "asStr") (fun _ _ _ _ => .no "asStr") (fun _ => .no "asStr") (fun _ _ _ _ _ _ _ => .no "asStr") (fun _ => .no "asStr") (fun _ _ => .no "asStr") (fun _ => .no "asStr") (fun _ _ _ _ _ _ => .no "asStr") (fun _ => .no "asStr") (fun _ _ _ _ => .no "asStr") (fun _ _ _ => .no "asStr") (fun _ _ _ => .no "asStr") (fun _ _ => .no "asStr") ⟨⟩ (fun _ _ _ _ => ⟨⟩) x k
noncomputable def asAgg (x : VV) (k : List VV → RV) : RV :=
  @VV.rec (fun _ => (List VV → RV) → RV) (fun _ => PUnit) (fun _ _ => .no "asAgg") (fun _ _ _ => .no "asAgg") (fun _ _ _ => .no "asAgg") (fun _ => .no "asAgg") (fun _ _ _ _ => .no "asAgg") (fun _ => .no "asAgg") (fun _ _ _ _ _ _ _ => .no "asAgg") (fun _ => .no "asAgg") (fun _ _ => .no "asAgg") (fun _ => .no "asAgg") (fun _ _ _ _ _ _ => .no "asAgg") (fun _ => .no "asAgg") (fun _ _ _ _ => .no "asAgg") (fun a0 _ k => k a0) (fun _ _ _ => .no "asAgg") (fun _ _ => .no "asAgg") ⟨⟩ (fun _ _ _ _ => ⟨⟩) x k
noncomputable def asTup (x : VV) (k : List VV → RV) : RV :=
  @VV.rec (fun _ => (List VV → RV) → RV) (fun _ => PUnit) (fun _ _ => .no "asTup") (fun _ _ _ => .no "asTup") (fun _ _ _ => .no "asTup") (fun _ => .no "asTup") (fun _ _ _ _ => .no "asTup") (fun _ => .no "asTup") (fun _ _ _ _ _ _ _ => .no "asTup") (fun _ => .no "asTup") (fun _ _ => .no "asTup") (fun _ => .no "asTup") (fun _ _ _ _ _ _ => .no "asTup") (fun _ => .no "asTup") (fun _ _ _ _ => .no "asTup") (fun _ _ _ => .no "asTup") (fun a0 _ k => k a0) (fun _ _ => .no "asTup") ⟨⟩ (fun _ _ _ _ => ⟨⟩) x k
noncomputable def asCond (x : VV) (k : Bool → Res) : Res :=
  @VV.rec (fun _ => (Bool → Res) → Res) (fun _ => PUnit) (fun a0 k => k a0) (fun _ _ _ => .no "asCond") (fun _ _ _ => .no "asCond") (fun _ => .no "asCond") (fun _ _ _ _ => .no "asCond") (fun _ => .no "asCond") (fun _ _ _ _ _ _ _ => .no "asCond") (fun _ => .no "asCond") (fun _ _ => .no "asCond") (fun _ => .no "asCond") (fun _ _ _ _ _ _ => .no "asCond") (fun _ => .no "asCond") (fun _ _ _ _ => .no "asCond") (fun _ _ _ => .no "asCond") (fun _ _ _ => .no "asCond") (fun _ _ => .no "asCond") ⟨⟩ (fun _ _ _ _ => ⟨⟩) x k

/-! ### operands -/
noncomputable def getOr (t : T VV) (i : Nat) : VV := @Option.rec VV (fun _ => VV) undefV (fun v => v) (t.get i)

noncomputable def operK (x : Operand) : R (K (T VV → VV)) := match x with
  | .tmp i => .ok ⟨fun t => @Option.rec VV (fun _ => VV) undefV (fun v => v) ((getter (key i)).f t)⟩
  | .const v => R.of (abst 20 v) "constant" fun v => .ok ⟨fun _ => v⟩
  | .global g => R.when (Nat.blt g NG) "a variable" (.ok ⟨fun _ => .ptr g 0 0⟩)
  | .func f => .ok ⟨fun _ => .fn (.func f) [] []⟩

noncomputable def opersK : List Operand → R (K (T VV → List VV))
  | [] => .ok ⟨fun _ => []⟩
  | x :: l => (operK x).bind fun x => (opersK l).bind fun l => .ok ⟨fun t => x.f t :: l.f t⟩

noncomputable def pairsK : List (Nat × Operand) → R (K (T VV → List (Nat × VV)))
  | [] => .ok ⟨fun _ => []⟩
  | (i, x) :: l => (operK x).bind fun x => (pairsK l).bind fun l => .ok ⟨fun t => (i, x.f t) :: l.f t⟩

noncomputable def optK (x : Option Operand) : R (K (T VV → Option VV)) := match x with
  | none => .ok ⟨fun _ => none⟩
  | some x => (operK x).bind fun x => .ok ⟨fun t => some (x.f t)⟩

/-! ### the heap -/
def bitN (b : Nat) : Nat := Nat.shiftLeft 1 b

noncomputable def touchK (H : VH) (b : Nat) (k : VH → RV) : RV :=
  @VH.rec (fun _ => RV) (fun m nx tr => @Trk.rec (fun _ => RV) (k ⟨m, nx, .off⟩)
    (fun bs fp wr => @Bool.rec (fun _ => RV) (k ⟨m, nx, .on bs fp wr⟩) (natK (Nat.lor fp (bitN b)) fun fp => k ⟨m, nx, .on bs fp wr⟩) (Nat.blt b bs)) tr) H

noncomputable def putO (H : VH) (b : Nat) (o : VO) (k : VH → RV) : RV :=
  @VH.rec (fun _ => RV) (fun m nx tr => (setter (key b)).f o m fun m => @Trk.rec (fun _ => RV) (k ⟨m, nx, .off⟩)
    (fun bs fp wr => @Bool.rec (fun _ => RV) (k ⟨m, nx, .on bs fp wr⟩) (natK (Nat.lor fp (bitN b)) fun fp => natK (Nat.lor wr (bitN b)) fun wr => k ⟨m, nx, .on bs fp wr⟩) (Nat.blt b bs)) tr) H

noncomputable def newO (H : VH) (o : VO) (k : Nat → VH → RV) : RV :=
  @VH.rec (fun _ => RV) (fun m nx tr => (setter (key nx)).f o m fun m => natK nx fun b => k b ⟨m, Nat.succ b, tr⟩) H

/-- the row of a block at a version -/
noncomputable def rowOf (H : VH) (b v : Nat) (k : Row → RV) : RV :=
  @Option.rec VO (fun _ => RV) (.no "no block") (fun o => @VO.rec (fun _ => RV) (fun v' r => @Bool.rec (fun _ => RV) (.no "an old version") (k r) (Nat.beq v v'))
    (fun _ _ => .no "no row") (fun _ _ _ => .no "no row") (fun _ _ _ _ => .no "no row") (fun _ _ _ _ _ _ _ _ => .no "no row") (.no "no row") (.no "no row") o) ((getter (key b)).f H.m)

noncomputable def readCells (b v o n : Nat) (H : VH) (k : List VV → VH → RV) : RV :=
  rowOf H b v fun r => takeK n (dropN r.c o) fun l => touchK H b fun H => k l H

noncomputable def readOne (b v o : Nat) (H : VH) (k : VV → VH → RV) : RV :=
  rowOf H b v fun r => nthK r.c o fun x => touchK H b fun H => k x H

noncomputable def writeCells (b v o : Nat) (xs : List VV) (H : VH) (k : VH → RV) : RV :=
  rowOf H b v fun r => @Row.rec (fun _ => RV) (fun op fz mkd el c => RV.when (Nat.ble fz o) "write: frozen" (RV.when (allOne xs) "write: no cell"
    (spliceK c o xs fun c => putO H b (.cells v ⟨op, fz, mkd, el, c⟩) k))) r

def isAggD : TypeDesc → Bool
  | .struct _ => true
  | .array _ _ => true
  | _ => false

noncomputable def sizeV {β : Type} (t : TypeId) (k : Nat → R β) : R β := R.of (PP.info? t) "no type" fun i => k i.size
noncomputable def descV {β : Type} (t : TypeId) (k : TypeDesc → R β) : R β := R.of (PP.underlying t) "no type" k
noncomputable def elemV {β : Type} (t : TypeId) (k : TypeId → R β) : R β := descV t fun d => match d with
  | .slice e => k e
  | _ => .no "no slice type"
noncomputable def zeroV {β : Type} (t : TypeId) (k : VV → R β) : R β :=
  R.of (PP.info? t) "no type" fun i => R.of i.zero "no zero value" fun z => R.of (abst 20 z) "zero value" k

abbrev Cl := K (T VV → VH → RV)

/-! ### loads and stores -/
noncomputable def loadK (t : TypeId) (a : K (T VV → VV)) : R Cl :=
  descV t fun d => sizeV t fun n => match isAggD d with
    | true => .ok ⟨fun t H => asPtr (a.f t) fun b v o => readCells b v o n H fun l H => .ok (.agg l) H⟩
    | false => .ok ⟨fun t H => asPtr (a.f t) fun b v o => readOne b v o H fun x H => .ok x H⟩

noncomputable def storeV (n : Nat) (a x : VV) (H : VH) : RV :=
  asPtr a fun b v o => RV.when (Nat.beq (lenN x.cells) n) "store: size" (writeCells b v o x.cells H fun H => .ok undefV H)

noncomputable def newRow (op mkd : Bool) (el : TypeId) (c : List VV) (H : VH) (k : Nat → VV) : RV :=
  newO H (.cells 0 ⟨op, 0, mkd, el, c⟩) fun b H => .ok (k b) H

noncomputable def fillV (place : Nat → Option (Nat × Nat)) : List (Nat × VV) → List VV → (List VV → RV) → RV
  | [], cells, k => k cells
  | (i, v) :: rest, cells, k => match place i with
    | none => .no "no such field"
    | some (off, size) => RV.when (Nat.beq (lenN v.cells) size) "a field's size" (spliceK cells off v.cells fun cells => fillV place rest cells k)

noncomputable def placesV : List Field → R (List (Nat × Nat))
  | [] => .ok []
  | f :: l => sizeV f.type fun s => (placesV l).bind fun r => .ok ((f.offset, s) :: r)

noncomputable def buildK (t : TypeId) (parts : K (T VV → List (Nat × VV))) : R Cl :=
  zeroV t fun z => descV t fun d => match d with
    | .struct fields => (placesV fields.toList).bind fun pl => .ok ⟨fun t H => fillV (fun i => pl[i]?) (parts.f t) z.cells fun cs => .ok (.agg cs) H⟩
    | .array _ elem => sizeV elem fun s => .ok ⟨fun t H => fillV (fun i => some (Nat.mul i s, s)) (parts.f t) z.cells fun cs => .ok (.agg cs) H⟩
    | _ => .no "build"

noncomputable def repl {α : Type} (l : List α) : Nat → List α
  | 0 => []
  | n + 1 => appN l (repl l n)

noncomputable def buildSlK (t : TypeId) (len : Nat) (parts : K (T VV → List (Nat × VV))) : R Cl :=
  elemV t fun elem => sizeV elem fun s => zeroV elem fun z =>
    R.when (Nat.beq z.cells.length s) "zero's size" (R.when (Nat.ble (Nat.mul len s) 16777216) "buildSlice: size"
      (.ok ⟨fun t H => fillV (fun i => some (Nat.mul i s, s)) (parts.f t) (repl z.cells len) fun cs => newRow false false elem cs H fun b => .sl b 0 0 len (some len) s⟩))

noncomputable def okI (k : IntKind) (n : Int) (H : VH) : RV := intK n fun n => .ok (.int k n) H
noncomputable def okN (k : IntKind) (n : Nat) (H : VH) : RV := natK n fun n => .ok (.int k (.ofNat n)) H
noncomputable def okB (b : Bool) (H : VH) : RV := @Bool.rec (fun _ => RV) (.ok (.bool false) H) (.ok (.bool true) H) b

def knum : IntKind → Nat
  | .i8 => 0 | .i16 => 1 | .i32 => 2 | .i64 => 3 | .u8 => 4 | .u16 => 5 | .u32 => 6 | .u64 => 7
def kEq (a b : IntKind) : Bool := Nat.beq (knum a) (knum b)

noncomputable def partV {β : Type} (t : TypeId) (cs : List VV) (off : Nat) (k : VV → R β) : R β :=
  descV t fun d => match isAggD d with
    | true => sizeV t fun n => R.when (Nat.ble (Nat.add off n) cs.length) "part" (k (.agg ((cs.drop off).take n)))
    | false => R.of (cs[off]?) "part" k

noncomputable def eqg (t : TypeId) : Bool := match PP.eqGuardType PP.depth t with
  | true => false
  | false => match PP.stoodInHeld t with | true => false | false => true

/-- are the parts equal, one by one -/
noncomputable def eqParts (eq : TypeId → VV → VV → R Bool) (xs ys : List VV) : List (TypeId × Nat) → R Bool
  | [] => .ok true
  | (t, off) :: l => partV t xs off fun a => partV t ys off fun b => (eq t a b).bind fun r => match r with
    | true => eqParts eq xs ys l
    | false => .ok false

def fieldParts : List Field → List (TypeId × Nat)
  | [] => []
  | f :: l => match f.name == "_" with | true => fieldParts l | false => (f.type, f.offset) :: fieldParts l

def elemParts (el : TypeId) (s : Nat) : Nat → Nat → List (TypeId × Nat)
  | 0, _ => []
  | n + 1, i => (el, Nat.mul i s) :: elemParts el s n (Nat.succ i)

noncomputable def equalV : Nat → TypeId → VV → VV → R Bool
  | 0, _, _, _ => .no "equal: depth"
  | d + 1, t, x, y => descV t fun desc => match desc with
    | .bool => (match x, y with | .bool a, .bool b => .ok (a == b) | _, _ => .no "equal: operands")
    | .int _ => (match x, y with | .int k a, .int k' b => R.when (kEq k k') "kinds" (.ok (eqI a b)) | _, _ => .no "equal: operands")
    | .string => (match x, y with | .str _ a, .str _ b => .ok (listEq a b) | _, _ => .no "equal: operands")
    | .pointer el => (match x, y with
      | .pnil, .pnil => .ok true
      | .pnil, .ptr _ _ _ => .ok false
      | .ptr _ _ _, .pnil => .ok false
      | .ptr b v o, .ptr b' v' o' => sizeV el fun s => R.when (Nat.blt 0 s && Nat.beq b b' && Nat.beq v v') "equal: pointers" (.ok (Nat.beq o o'))
      | _, _ => .no "equal: operands")
    | .unsafePointer => (match x, y with
      | .pnil, .pnil => .ok true
      | .pnil, .ptr _ _ _ => .ok false
      | .ptr _ _ _, .pnil => .ok false
      | _, _ => .no "equal: operands")
    | .interface _ => (match x, y with
      | .inil, .inil => .ok true
      | .inil, .iface _ _ => .ok false
      | .iface _ _, .inil => .ok false
      | .iface tx vx, .iface ty vy => (match Nat.beq tx ty with
        | false => .ok false
        | true => R.of (PP.info? tx) "no type" fun i => R.when i.comparable "not comparable" (equalV d tx vx vy))
      | _, _ => .no "equal: operands")
    | .struct fields => (match x, y with
      | .agg xs, .agg ys => R.when (eqg t) "equal: struct" (eqParts (equalV d) xs ys (fieldParts fields.toList))
      | _, _ => .no "equal: operands")
    | .array n el => (match x, y with
      | .agg xs, .agg ys => sizeV el fun s => eqParts (equalV d) xs ys (elemParts el s n 0)
      | _, _ => .no "equal: operands")
    | .slice _ => (match x, y with
      | .snil, .snil => .ok true
      | .snil, .sl _ _ _ _ _ _ => .ok false
      | .sl _ _ _ _ _ _, .snil => .ok false
      | _, _ => .no "equal: operands")
    | .map _ _ => (match x, y with
      | .mnil, .mnil => .ok true
      | .mnil, .map _ => .ok false
      | .map _, .mnil => .ok false
      | _, _ => .no "equal: operands")
    | .func _ _ _ => (match x, y with
      | .fnil, .fnil => .ok true
      | .fnil, .fn _ _ _ => .ok false
      | .fn _ _ _, .fnil => .ok false
      | _, _ => .no "equal: operands")
    | _ => .no "equal: type"

/-! ### operators -/
/-- two ints of one kind -/
noncomputable def int2 (x y : VV) (k : IntKind → Int → Int → RV) : RV :=
  asInt x fun j a => asInt y fun j' b => @Bool.rec (fun _ => RV) (.no "kinds") (k j a b) (kEq j j')

noncomputable def shl (k : IntKind) (a b : Int) (H : VH) : RV := match b with
  | .negSucc _ => .no "negative shift"
  | .ofNat n => okI k (wrapF k (Int.mul a (.ofNat (Nat.pow 2 (Nat.min n k.bits))))) H
noncomputable def shr (k : IntKind) (a b : Int) (H : VH) : RV := match b with
  | .negSucc _ => .no "negative shift"
  | .ofNat n => okI k (Int.fdiv a (.ofNat (Nat.pow 2 (Nat.min n k.bits)))) H

noncomputable def strOp (op : BinOp) (n : Nat) (a : List Nat) (m : Nat) (b : List Nat) (H : VH) : RV := match op with
  | .add => natK (Nat.add n m) fun l => RV.when (Nat.ble l 1000000) "a long string" (.ok (.str l (appN a b)) H)
  | .lss => okB (listLt a b) H
  | .leq => okB (listLt a b || listEq a b) H
  | .gtr => okB (!(listLt a b || listEq a b)) H
  | .geq => okB (!listLt a b) H
  | _ => .no "string op"

/-- an operator on two ints or two strings -/
noncomputable def binKind (op : BinOp) (x y : VV) (H : VH) (f : IntKind → Int → Int → RV) : RV := match x with
  | .str n a => asStr y fun m b => strOp op n a m b H
  | x => int2 x y f

/-- equality of interface values; g: two nil ones may be compared -/
noncomputable def eqIface (g neg : Bool) (t : TypeId) (x y : VV) (H : VH) : RV := match x with
  | .inil => (match y with
    | .inil => RV.when g "eqGuard" (okB (!neg) H)
    | .iface _ _ => okB neg H
    | _ => .no "equal")
  | .iface t' x' => RV.from (equalV 100 t (.iface t' x') y) fun r => okB (r != neg) H
  | _ => .no "equal"

noncomputable def eqlK (t : TypeId) (c neg : Bool) (x y : K (T VV → VV)) : R Cl := descV t fun d => match d with
  | .int _ => .ok ⟨fun t H => int2 (x.f t) (y.f t) fun _ a b => okB (eqI a b != neg) H⟩
  | .string => .ok ⟨fun t H => asStr (x.f t) fun _ a => asStr (y.f t) fun _ b => okB (listEq a b != neg) H⟩
  | .interface ms => .ok ⟨fun s H => eqIface (c || ms.isEmpty) neg t (x.f s) (y.f s) H⟩
  | .struct _ => R.when (eqg t) "eqGuard" (.ok ⟨fun s H => asAgg (x.f s) fun xs => asAgg (y.f s) fun ys => RV.from (equalV 100 t (.agg xs) (.agg ys)) fun r => okB (r != neg) H⟩)
  | .array _ _ => R.when (eqg t) "eqGuard" (.ok ⟨fun s H => asAgg (x.f s) fun xs => asAgg (y.f s) fun ys => RV.from (equalV 100 t (.agg xs) (.agg ys)) fun r => okB (r != neg) H⟩)
  | _ => .ok ⟨fun s H => RV.from (equalV 100 t (x.f s) (y.f s)) fun r => okB (r != neg) H⟩

/-- an opaque text is no longer than the bound -/
noncomputable def gtrV (x y : VV) (H : VH) : RV := match x with
  | .ext j => (match y with
    | .int .i64 (.ofNat c) => RV.when (Nat.ble 1500 j && Nat.blt j 2000 && Nat.ble LB c) "gtr" (.ok (.bool false) H)
    | _ => .no "gtr")
  | x => binKind .gtr x y H fun k a b => okB (ltI b a) H

/-- opaque numbers that are not negative (2000 ..), and that are (2250 ..), against 0 -/
def isP (j : Nat) : Bool := Nat.ble 2000 j && Nat.blt j 2250
def isM (j : Nat) : Bool := Nat.ble 2250 j && Nat.blt j 2500
noncomputable def lssV (x y : VV) (H : VH) : RV := match x with
  | .ext j => (match y with
    | .int .i64 (.ofNat 0) => RV.when (isP j || isM j) "lss" (.ok (.bool (isM j)) H)
    | _ => .no "lss")
  | x => binKind .lss x y H fun k a b => okB (ltI a b) H
noncomputable def geqV (x y : VV) (H : VH) : RV := match x with
  | .ext j => (match y with
    | .int .i64 (.ofNat 0) => RV.when (isP j || isM j) "geq" (.ok (.bool (isP j)) H)
    | _ => .no "geq")
  | x => binKind .geq x y H fun k a b => okB (!ltI a b) H

noncomputable def binK (op : BinOp) (t : TypeId) (c : Bool) (x y : K (T VV → VV)) : R Cl := match op with
  | .add => .ok ⟨fun t H => binKind .add (x.f t) (y.f t) H fun k a b => okI k (wrapF k (Int.add a b)) H⟩
  | .sub => .ok ⟨fun t H => int2 (x.f t) (y.f t) fun k a b => okI k (wrapF k (Int.sub a b)) H⟩
  | .mul => .ok ⟨fun t H => int2 (x.f t) (y.f t) fun k a b => okI k (wrapF k (Int.mul a b)) H⟩
  | .quo => .ok ⟨fun t H => int2 (x.f t) (y.f t) fun k a b => @Bool.rec (fun _ => RV) (okI k (wrapF k (Int.tdiv a b)) H) (.no "division by zero") (eqI b 0)⟩
  | .rem => .ok ⟨fun t H => int2 (x.f t) (y.f t) fun k a b => @Bool.rec (fun _ => RV) (okI k (Int.tmod a b) H) (.no "division by zero") (eqI b 0)⟩
  | .and => .ok ⟨fun t H => int2 (x.f t) (y.f t) fun k a b => okI k (wrapF k (.ofNat (BitVec.ofInt k.bits a &&& BitVec.ofInt k.bits b).toNat)) H⟩
  | .or => .ok ⟨fun t H => int2 (x.f t) (y.f t) fun k a b => okI k (wrapF k (.ofNat (BitVec.ofInt k.bits a ||| BitVec.ofInt k.bits b).toNat)) H⟩
  | .xor => .ok ⟨fun t H => int2 (x.f t) (y.f t) fun k a b => okI k (wrapF k (.ofNat (BitVec.ofInt k.bits a ^^^ BitVec.ofInt k.bits b).toNat)) H⟩
  | .andNot => .ok ⟨fun t H => int2 (x.f t) (y.f t) fun k a b => okI k (wrapF k (.ofNat (BitVec.ofInt k.bits a &&& ~~~ BitVec.ofInt k.bits b).toNat)) H⟩
  | .shl => .ok ⟨fun t H => asInt (x.f t) fun k a => asInt (y.f t) fun _ b => shl k a b H⟩
  | .shr => .ok ⟨fun t H => asInt (x.f t) fun k a => asInt (y.f t) fun _ b => shr k a b H⟩
  | .eql => eqlK t c false x y
  | .neq => eqlK t c true x y
  | .lss => .ok ⟨fun t H => lssV (x.f t) (y.f t) H⟩
  | .leq => .ok ⟨fun t H => binKind .leq (x.f t) (y.f t) H fun k a b => okB (!ltI b a) H⟩
  | .gtr => .ok ⟨fun t H => gtrV (x.f t) (y.f t) H⟩
  | .geq => .ok ⟨fun t H => geqV (x.f t) (y.f t) H⟩

noncomputable def unV (op : UnOp) (x : VV) (H : VH) : RV := match op with
  | .neg => asInt x fun k n => okI k (wrapF k (Int.sub 0 n)) H
  | .xor => asInt x fun k n => okI k (wrapF k (.ofNat (BitVec.ofInt k.bits (if k.signed then -1 else k.max) ^^^ BitVec.ofInt k.bits n).toNat)) H
  | .not => asBool x fun b => okB (!b) H
  | _ => .no "unop"

def bytesOf : List VV → R (List Nat)
  | [] => .ok []
  | v :: l => match v with
    | .int .u8 (.ofNat n) => (match Nat.blt n 256, bytesOf l with
      | true, .ok r => .ok (n :: r)
      | _, _ => .no "byte")
    | _ => .no "byte"

def encN (n : Int) : List Nat := (Utf8.encode n).data.toList.map UInt8.toNat

def runesBytes : List VV → R (List Nat)
  | [] => .ok []
  | v :: l => match v with
    | .int .i32 n => (match runesBytes l with
      | .ok r => .ok (encN n ++ r)
      | .no w => .no w)
    | _ => .no "rune"

def byteV (n : Nat) : VV := .int .u8 (.ofNat n)

def toBA (l : List Nat) : ByteArray := ⟨(l.map UInt8.ofNat).toArray⟩

def runesOf (s : ByteArray) : Nat → Nat → List VV
  | 0, _ => []
  | n + 1, i => match Nat.blt i s.size with
    | true => match Utf8.decode s i with
      | (r, w) => .int .i32 (.ofNat r) :: runesOf s n (i + w)
    | false => []

noncomputable def convStr (e : TypeId) (d : TypeDesc) (n : Nat) (s : List Nat) (H : VH) : RV := match d with
  | .int .u8 => newRow true true e (mapN byteV s) H fun b => .sl b 0 0 n none 1
  | .int .i32 => (fun rs => natK (lenN rs) fun m => newRow true false e rs H fun b => .sl b 0 0 m none 1) (runesOf (toBA s) n 0)
  | _ => .no "a string to a slice"

noncomputable def convSl (d : TypeDesc) (x : VV) (H : VH) : RV := match x with
  | .snil => (match d with
    | .int .u8 => .ok (.str 0 []) H
    | .int .i32 => .ok (.str 0 []) H
    | _ => .no "a slice to a string")
  | .sl b v o len _ _ => (match d with
    | .int .u8 => readCells b v o len H fun l H => RV.from (bytesOf l) fun s => .ok (.str len s) H
    | .int .i32 => readCells b v o len H fun l H => RV.from (runesBytes l) fun s => natK (lenN s) fun n => .ok (.str n s) H
    | _ => .no "a slice to a string")
  | _ => .no "a slice to a string"

noncomputable def convP1 (n : Nat) (x : VV) (H : VH) : RV := match x with
  | .pnil => .ok .pnil H
  | .ptr b v o => rowOf H b v fun r => RV.when (Nat.blt 0 n) "unsafe.Pointer" (nthK r.c o fun _ => touchK H b fun H => .ok (.ptr b v o) H)
  | _ => .no "convert"
noncomputable def convP2 (t : TypeId) (n : Nat) (x : VV) (H : VH) : RV := match x with
  | .pnil => .ok .pnil H
  | .ptr b v o => rowOf H b v fun r => RV.when (Nat.blt 0 n && Nat.beq o 0 && Nat.beq r.el t && Nat.beq (lenN r.c) n && !r.op) "unsafe.Pointer" (touchK H b fun H => .ok (.ptr b v o) H)
  | _ => .no "convert"

/-- bytes that are seen as a text's: the row is marked -/
noncomputable def convBB (x : VV) (H : VH) : RV := match x with
  | .sl b v o len cap sz => rowOf H b v fun r => @Row.rec (fun _ => RV) (fun op fz mkd el c => RV.when (!op && Nat.beq fz 0) "convert"
      (putO H b (.cells v ⟨op, fz, true, el, c⟩) fun H => .ok (.sl b v o len cap sz) H)) r
  | _ => .no "convert"

noncomputable def convK (src dst : TypeId) (x : K (T VV → VV)) : R Cl :=
  descV src fun s => descV dst fun d => match d with
    | .int k => .ok ⟨fun t H => asInt (x.f t) fun _ n => okI k (wrapF k n) H⟩
    | .string => (match s with
      | .int _ => .ok ⟨fun t H => asInt (x.f t) fun _ n => .ok (.str (encN n).length (encN n)) H⟩
      | .string => .ok ⟨fun t H => asStr (x.f t) fun n l => .ok (.str n l) H⟩
      | .slice e => descV e fun de => .ok ⟨fun t H => convSl de (x.f t) H⟩
      | _ => .no "convert")
    | .slice e => descV e fun de => (match s with
      | .slice _ => (match de with
        | .int .u8 => R.when (Nat.beq src dst) "convert" (.ok ⟨fun t H => convBB (x.f t) H⟩)
        | _ => .no "convert")
      | _ => .ok ⟨fun t H => asStr (x.f t) fun n l => convStr e de n l H⟩)
    | .unsafePointer => (match s with
      | .pointer t => sizeV t fun n => .ok ⟨fun t H => convP1 n (x.f t) H⟩
      | _ => .no "convert")
    | .pointer t => (match s with
      | .unsafePointer => sizeV t fun n => .ok ⟨fun s H => convP2 t n (x.f s) H⟩
      | _ => .no "convert")
    | _ => .no "convert"

noncomputable def natV (x : VV) (k : Nat → RV) : RV := asInt x fun _ n => @Int.rec (fun _ => RV) k (fun _ => .no "a negative number") n

noncomputable def makeSlK (t : TypeId) (l c : K (T VV → VV)) : R Cl :=
  elemV t fun elem => R.of (PP.info? elem) "no type" fun i => zeroV elem fun z => R.when (Nat.beq z.cells.length i.size) "zero's size"
    (.ok ⟨fun t H => natV (l.f t) fun l => natV (c.f t) fun c => RV.when (Nat.ble l c) "makeSlice: len" (RV.when (Nat.ble c 16777216) "makeSlice: cap" (RV.when (Nat.ble (Nat.mul i.bytes c) 281474976710656) "makeSlice: room"
      (newRow false false elem (repl z.cells c) H fun b => .sl b 0 0 l (some c) i.size)))⟩)

noncomputable def boundV (x : Option VV) (d : Nat) (k : Nat → RV) : RV := @Option.rec VV (fun _ => RV) (k d) (fun x => natV x k) x

/-- are the elements up to h surely within the slice's capacity -/
noncomputable def within (b v o len : Nat) (cap : Option Nat) (sz h : Nat) (H : VH) (k : VH → RV) : RV := match Nat.ble h len with
  | true => k H
  | false => match cap with
    | some c => RV.when (Nat.ble h c) "slice: beyond its capacity" (k H)
    | none => rowOf H b v fun r => RV.when (Nat.blt 0 sz && Nat.ble (Nat.add o (Nat.mul h sz)) (lenN r.c)) "slice: beyond what is known" (touchK H b k)

def offOf (o l sz m : Nat) : Nat := match Nat.beq m l with
  | true => o
  | false => Nat.add o (Nat.mul l sz)

noncomputable def sliceTo (b v o l h : Nat) (cap : Option Nat) (sz : Nat) (H : VH) : RV :=
  natK o fun o => natK (Nat.sub h l) fun n => .ok (.sl b v o n cap sz) H

noncomputable def sliceRow (b v o len : Nat) (cap : Option Nat) (sz : Nat) (lo hi mx : Option VV) (H : VH) : RV :=
  boundV lo 0 fun l => boundV hi len fun h => RV.when (Nat.ble l h) "slice: low beyond high" (within b v o len cap sz h H fun H => match mx with
    | none => (match cap with
      | some c => sliceTo b v (offOf o l sz c) l h (some (Nat.sub c l)) sz H
      | none => RV.when (Nat.beq l 0 || Nat.blt l len) "slice: an open one's end" (sliceTo b v (Nat.add o (Nat.mul l sz)) l h none sz H))
    | some m => natV m fun m => RV.when (Nat.ble h m && hi.isSome) "slice: max" (within b v o len cap sz m H fun H => sliceTo b v (offOf o l sz m) l h (some (Nat.sub m l)) sz H))

noncomputable def sliceStr (n : Nat) (s : List Nat) (lo hi mx : Option VV) (H : VH) : RV :=
  boundV lo 0 fun l => boundV hi n fun h => RV.when (Nat.ble l h && Nat.ble h n && mx.isNone) "slice of a string" (natK (Nat.sub h l) fun m => takeK m (dropN s l) fun r => .ok (.str m r) H)

noncomputable def sliceSl (s : Nat) (x : VV) (lo hi mx : Option VV) (H : VH) : RV := match x with
  | .snil => boundV lo 0 fun l => boundV hi 0 fun h => boundV mx 0 fun m => RV.when (Nat.beq l 0 && Nat.beq h 0 && Nat.beq m 0 && (mx.isNone || hi.isSome)) "slice of nil" (.ok .snil H)
  | .sl b v o len cap sz => RV.when (Nat.beq s sz) "slice: size" (sliceRow b v o len cap sz lo hi mx H)
  | _ => .no "slice"

noncomputable def sliceArr (n s : Nat) (x : VV) (lo hi mx : Option VV) (H : VH) : RV :=
  asPtr x fun b v o => rowOf H b v fun r => RV.when (Nat.ble (Nat.add o (Nat.mul n s)) (lenN r.c)) "slice of an array" (touchK H b fun H => sliceRow b v o n (some n) s lo hi mx H)

noncomputable def sliceK (t : TypeId) (x : K (T VV → VV)) (lo hi mx : K (T VV → Option VV)) : R Cl := descV t fun d => match d with
  | .string => .ok ⟨fun t H => asStr (x.f t) fun n s => sliceStr n s (lo.f t) (hi.f t) (mx.f t) H⟩
  | .slice el => sizeV el fun s => .ok ⟨fun t H => sliceSl s (x.f t) (lo.f t) (hi.f t) (mx.f t) H⟩
  | .array n el => sizeV el fun s => .ok ⟨fun t H => sliceArr n s (x.f t) (lo.f t) (hi.f t) (mx.f t) H⟩
  | .pointer arr => descV arr fun d => (match d with
    | .array n el => sizeV el fun s => .ok ⟨fun t H => sliceArr n s (x.f t) (lo.f t) (hi.f t) (mx.f t) H⟩
    | _ => .no "slice")
  | _ => .no "slice"

noncomputable def fieldAt {β : Type} (s : TypeId) (f : Nat) (k : Field → R β) : R β := descV s fun d => match d with
  | .struct fields => R.of (fields[f]?) "no such field" k
  | _ => .no "no struct"

noncomputable def fieldAddrK (s : TypeId) (x : K (T VV → VV)) (f : Nat) : R Cl :=
  fieldAt s f fun fd => sizeV fd.type fun n => R.when (Nat.blt 0 n) "a field of size 0" (natK fd.offset fun off =>
    .ok ⟨fun t H => asPtr (x.f t) fun b v o => natK (Nat.add o off) fun o => .ok (.ptr b v o) H⟩)

noncomputable def idxSl (s : Nat) (x : VV) (i : Nat) (H : VH) : RV := match x with
  | .sl b v o len _ _ => @Bool.rec (fun _ => RV) (.no "index out of range") (natK (Nat.add o (Nat.mul i s)) fun o => .ok (.ptr b v o) H) (Nat.blt i len)
  | _ => .no "indexAddr"

noncomputable def indexAddrK (t : TypeId) (x i : K (T VV → VV)) : R Cl := descV t fun d => match d with
  | .array n el => sizeV el fun s => .ok ⟨fun t H => natV (i.f t) fun i => asPtr (x.f t) fun b v o => RV.when (Nat.blt i n) "index out of range" (natK (Nat.add o (Nat.mul i s)) fun o => .ok (.ptr b v o) H)⟩
  | .slice el => sizeV el fun s => .ok ⟨fun t H => natV (i.f t) fun i => idxSl s (x.f t) i H⟩
  | _ => .no "indexAddr"

noncomputable def indexK (t : TypeId) (x i : K (T VV → VV)) : R Cl := descV t fun d => match d with
  | .array n el => sizeV el fun s => .ok ⟨fun t H => natV (i.f t) fun i => asAgg (x.f t) fun cs => RV.when (Nat.blt i n) "index out of range" (RV.from (partV el cs (Nat.mul i s) .ok) fun v => .ok v H)⟩
  | .string => .ok ⟨fun t H => natV (i.f t) fun i => asStr (x.f t) fun _ s => nthK s i fun b => .ok (.int .u8 (.ofNat b)) H⟩
  | _ => .no "index"

noncomputable def fieldK (t : TypeId) (x : K (T VV → VV)) (f : Nat) : R Cl := fieldAt t f fun fd => descV fd.type fun d => sizeV fd.type fun n => match isAggD d with
  | true => .ok ⟨fun t H => asAgg (x.f t) fun cs => takeK n (dropN cs fd.offset) fun l => .ok (.agg l) H⟩
  | false => .ok ⟨fun t H => asAgg (x.f t) fun cs => nthK cs fd.offset fun v => .ok v H⟩

/-! ### maps -/
noncomputable def cellEq (x y : VV) : R Bool := match x with
  | .int k a => (match y with | .int k' b => (match kEq k k' with | true => .ok (eqI a b) | false => .no "keys") | _ => .no "keys")
  | .str _ a => (match y with | .str _ b => .ok (listEq a b) | _ => .no "keys")
  | .bool a => (match y with | .bool b => .ok (a == b) | _ => .no "keys")
  | _ => .no "keys"
noncomputable def cellsEq : List VV → List VV → R Bool
  | [], [] => .ok true
  | x :: xs, y :: ys => (cellEq x y).bind fun b => (cellsEq xs ys).bind fun c => .ok (b && c)
  | _, _ => .no "keys"
noncomputable def plainField (f : Field) : Bool := match PP.underlying f.type with
  | some (.int _) => true
  | some .string => true
  | some .bool => true
  | _ => false

noncomputable def keyEq (kd : TypeDesc) (x y : VV) : R Bool := match kd with
  | .int _ => (match x, y with | .int k a, .int k' b => (match kEq k k' with | true => .ok (eqI a b) | false => .no "keys") | _, _ => .no "keys")
  | .string => (match x, y with | .str _ a, .str _ b => .ok (listEq a b) | _, _ => .no "keys")
  | .bool => (match x, y with | .bool a, .bool b => .ok (a == b) | _, _ => .no "keys")
  | .struct fs => (match x with
    | .agg xs => (match y with
      | .agg ys => (match fs.toList.all plainField with
        | true => (eqParts (equalV 100) xs ys (fieldParts fs.toList)).bind fun b => (cellsEq xs ys).bind fun c => (match b == c with | true => .ok b | false => .no "keys")
        | false => .no "keys")
      | _ => .no "keys")
    | _ => .no "keys")
  | _ => .no "keys"

noncomputable def findV (kd : TypeDesc) (k : VV) : List (VV × VV) → R (Option VV)
  | [] => .ok none
  | (k', v) :: es => match keyEq kd k k' with
    | .ok true => .ok (some v)
    | .ok false => findV kd k es
    | .no w => .no w

noncomputable def setV (kd : TypeDesc) (k x : VV) : List (VV × VV) → R (List (VV × VV))
  | [] => .ok [(k, x)]
  | (k', v) :: es => match keyEq kd k k' with
    | .ok true => .ok ((k, x) :: es)
    | .ok false => (match setV kd k x es with | .ok l => .ok ((k', v) :: l) | .no w => .no w)
    | .no w => .no w

noncomputable def delV (kd : TypeDesc) (k : VV) : List (VV × VV) → R (List (VV × VV))
  | [] => .ok []
  | (k', v) :: es => match keyEq kd k k' with
    | .ok true => .ok es
    | .ok false => (match delV kd k es with | .ok l => .ok ((k', v) :: l) | .no w => .no w)
    | .no w => .no w

noncomputable def keyFine (kt : TypeId) (kd : TypeDesc) : Bool := match kd with
  | .struct _ => eqg kt
  | _ => true
noncomputable def mapT {β : Type} (t : TypeId) (k : TypeDesc → TypeId → R β) : R β := descV t fun d => match d with
  | .map kt el => descV kt fun kd => R.when (keyFine kt kd) "keys" (k kd el)
  | _ => .no "no map type"

noncomputable def entriesV (H : VH) (b : Nat) (k : List (VV × VV) → Option (List Nat × Nat) → RV) : RV := match H.m.get b with
  | some (.map es st) => k es st
  | _ => .no "no map"

noncomputable def okKey (kd : TypeDesc) (k : VV) : Bool := match keyEq kd k k with
  | .ok _ => true
  | .no _ => false

def foundV (z : VV) (ok : Bool) (r : Option VV) (H : VH) : RV := match r with
  | some v => (match ok with | true => .ok (.tup [v, .bool true]) H | false => .ok v H)
  | none => (match ok with | true => .ok (.tup [z, .bool false]) H | false => .ok z H)

noncomputable def lookupV (kd : TypeDesc) (z : VV) (ok : Bool) (x k : VV) (H : VH) : RV :=
  RV.when (okKey kd k) "keys" (match x with
    | .mnil => foundV z ok none H
    | .map b => entriesV H b fun es _ => RV.from (findV kd k es) fun r => touchK H b fun H => foundV z ok r H
    | _ => .no "lookup")

/-- when the entries were born, and the clock: behind a setting, behind a deletion -/
noncomputable def grown (st : Option (List Nat × Nat)) (es es2 : List (VV × VV)) : Option (List Nat × Nat) := match st with
  | none => none
  | some (bs, k) => match Nat.beq (lenN es2) (lenN es) with
    | true => some (bs, k)
    | false => some (appN bs [k], Nat.succ k)
noncomputable def shrunk (st : Option (List Nat × Nat)) (es es2 : List (VV × VV)) : Option (List Nat × Nat) := match st with
  | none => none
  | some (bs, k) => match Nat.beq (lenN es2) (lenN es) with
    | true => some (bs, k)
    | false => (match es2 with | [] => some ([], k) | _ => none)

noncomputable def mapUpdV (kd : TypeDesc) (m k x : VV) (H : VH) : RV :=
  RV.when (okKey kd k) "keys" (match m with
    | .map b => entriesV H b fun es st => RV.from (setV kd k x es) fun es2 => putO H b (.map es2 (grown st es es2)) fun H => .ok undefV H
    | _ => .no "mapUpdate")

noncomputable def rangeV (d : TypeDesc) (x : VV) (H : VH) : RV := match d with
  | .string => asStr x fun n s => newO H (.siter n s 0) fun b H => .ok (.ptr b 0 0) H
  | .map _ _ => (match x with
    | .mnil => newO H (.miter none 0 none 0) fun b H => .ok (.ptr b 0 0) H
    | .map b => (match H.m.get b with
      | some (.map _ (some (_, k))) => touchK H b fun H => newO H (.miter (some b) k none k) fun i H => .ok (.ptr i 0 0) H
      | _ => .no "range")
    | _ => .no "range")
  | _ => .no "range"

noncomputable def nextStr (b n : Nat) (s : List Nat) (pos : Nat) (H : VH) : RV := match Nat.blt pos n with
  | true => (match Utf8.decode (toBA s) pos with
    | (c, w) => natK (Nat.add pos w) fun p => natK c fun c => putO H b (.siter n s p) fun H => .ok (.tup [.bool true, .int .i64 (.ofNat pos), .int .i32 (.ofNat c)]) H)
  | false => touchK H b fun H => .ok (.tup [.bool false]) H

/-- the next of a map that has one entry at most -/
noncomputable def nextMap (b c since : Nat) (seen : Option Nat) (last : Nat) (H : VH) : RV := match H.m.get c with
  | some (.map [] _) => touchK H c fun H => touchK H b fun H => .ok (.tup [.bool false]) H
  | some (.map [(key, val)] (some ([x], k))) => (match seen with
    | none => RV.when (Nat.blt x since) "range" (touchK H c fun H => putO H b (.miter (some c) since (some x) k) fun H => .ok (.tup [.bool true, key, val]) H)
    | some y => RV.when (Nat.beq x y && Nat.blt x last) "range" (touchK H c fun H => touchK H b fun H => .ok (.tup [.bool false]) H))
  | _ => .no "a range over a map of two entries"

/-- the entry that was stepped to -/
noncomputable def entryV (x : VV) (H : VH) : RV := asPtr x fun b v o => RV.when (Nat.beq v 0 && Nat.beq o 0) "entry" (match H.m.get b with
  | some (.miter (some c) _ (some y) last) => (match H.m.get c with
    | some (.map [(key, val)] (some ([x], k))) => RV.when (Nat.beq x y && Nat.beq k last) "entry" (touchK H c fun H => touchK H b fun H => .ok (.tup [key, val]) H)
    | _ => .no "entry")
  | _ => .no "entry")

noncomputable def nextV (isString : Bool) (x : VV) (H : VH) : RV := asPtr x fun b v o => RV.when (Nat.beq v 0 && Nat.beq o 0) "next" (match H.m.get b with
  | some (.siter n s pos) => (match isString with | true => nextStr b n s pos H | false => .no "next")
  | some (.miter none _ _ _) => (match isString with | true => .no "next" | false => touchK H b fun H => .ok (.tup [.bool false]) H)
  | some (.miter (some c) since seen last) => (match isString with | true => .no "next" | false => nextMap b c since seen last H)
  | _ => .no "next")

/-! ### interfaces -/
noncomputable def missV (want : Array (String × TypeId)) (t : TypeId) : R Bool := R.of (PP.info? t) "no type" fun i => match Instr.missingMethod want i.methods with
  | none => .ok true
  | some _ => .ok false

def holdsV (ok : Bool) (v : VV) (H : VH) : RV := match ok with
  | true => .ok (.tup [v, .bool true]) H
  | false => .ok v H
def failsV (z : VV) (ok : Bool) (H : VH) : RV := match ok with
  | true => .ok (.tup [z, .bool false]) H
  | false => .no "typeAssert fails"

noncomputable def typeAssertV (d : TypeDesc) (z : VV) (ty : TypeId) (ok : Bool) (x : VV) (H : VH) : RV := match x with
  | .inil => failsV z ok H
  | .iface t v => (match d with
    | .interface want => RV.from (missV want t) fun r => (match r with
      | true => holdsV ok (.iface t v) H
      | false => failsV z ok H)
    | _ => match Nat.beq t ty with
      | true => holdsV ok v H
      | false => failsV z ok H)
  | _ => .no "typeAssert"

/-! ### builtins -/
noncomputable def lenSl (x : VV) (H : VH) : RV := match x with
  | .snil => .ok (.int .i64 0) H
  | .sl _ _ _ n _ _ => .ok (.int .i64 (.ofNat n)) H
  | _ => .no "len"
noncomputable def lenMap (x : VV) (H : VH) : RV := match x with
  | .mnil => .ok (.int .i64 0) H
  | .map b => entriesV H b fun es _ => natK (lenN es) fun n => touchK H b fun H => .ok (.int .i64 (.ofNat n)) H
  | _ => .no "len"

/-- opaque texts: their numbers, and their lengths' -/
def isS (k : Nat) : Bool := Nat.ble 500 k && Nat.blt k 1000
noncomputable def lenStr (x : VV) (H : VH) : RV := match x with
  | .ext k => RV.when (isS k) "len" (.ok (.ext (Nat.add k 1000)) H)
  | x => asStr x fun n _ => .ok (.int .i64 (.ofNat n)) H

noncomputable def lenK (t : TypeId) (x : K (T VV → VV)) : R Cl := descV t fun d => match d with
  | .string => .ok ⟨fun t H => lenStr (x.f t) H⟩
  | .array n _ => .ok ⟨fun _ H => .ok (.int .i64 (.ofNat n)) H⟩
  | .slice _ => .ok ⟨fun t H => lenSl (x.f t) H⟩
  | .map _ _ => .ok ⟨fun t H => lenMap (x.f t) H⟩
  | .pointer arr => descV arr fun d => (match d with | .array n _ => .ok ⟨fun _ H => .ok (.int .i64 (.ofNat n)) H⟩ | _ => .no "len")
  | _ => .no "len"

noncomputable def capSl (x : VV) (H : VH) : RV := match x with
  | .snil => .ok (.int .i64 0) H
  | .sl _ _ _ _ (some c) _ => okN .i64 c H
  | _ => .no "cap"
noncomputable def capK (t : TypeId) (x : K (T VV → VV)) : R Cl := descV t fun d => match d with
  | .slice _ => .ok ⟨fun t H => capSl (x.f t) H⟩
  | .array n _ => .ok ⟨fun _ H => .ok (.int .i64 (.ofNat n)) H⟩
  | _ => .no "cap"

/-- the cells of a source, and how many elements they are -/
noncomputable def srcV (sz : Nat) (x : VV) (H : VH) (k : List VV → Nat → VH → RV) : RV := match x with
  | .snil => k [] 0 H
  | .str n s => RV.when (Nat.beq sz 1) "a string as a source" (k (mapN byteV s) n H)
  | .sl b v o len _ _ => readCells b v o (Nat.mul len sz) H fun l H => k l len H
  | _ => .no "source"

noncomputable def appFresh (elem : TypeId) (sz need : Nat) (old src : List VV) (H : VH) : RV :=
  RV.when (Nat.ble need 1000000) "append: size" (newRow true false elem (appN old src) H fun b => .sl b 0 0 need none sz)

noncomputable def appGrow (b v o len sz need : Nat) (elem : TypeId) (src : List VV) (H : VH) : RV :=
  rowOf H b v fun r => @Row.rec (fun _ => RV) (fun op fz mkd el c => RV.when (op && Nat.ble fz (Nat.add o (Nat.mul len sz)) && allOne src && Nat.beq el elem && Nat.ble need 1000000) "append: frozen or closed"
        (takeK (Nat.mul len sz) (dropN c o) fun old => natK (Nat.succ v) fun v1 => natK (Nat.sub fz o) fun fz => putO H b (.cells v1 ⟨true, fz, mkd, el, appN old src⟩) fun H => .ok (.sl b v1 0 need none sz) H)) r

noncomputable def appSl (elem : TypeId) (sz : Nat) (src : List VV) (n : Nat) (b v o len : Nat) (cap : Option Nat) (H : VH) : RV :=
  natK (Nat.add len n) fun need => match cap with
    | some c => (match Nat.ble need c with
      | true => writeCells b v (Nat.add o (Nat.mul len sz)) src H fun H => .ok (.sl b v o need cap sz) H
      | false => readCells b v o (Nat.mul len sz) H fun old H => appFresh elem sz need old src H)
    | none => rowOf H b v fun r => (match Nat.ble (Nat.add o (Nat.mul need sz)) (lenN r.c) with
      | true => writeCells b v (Nat.add o (Nat.mul len sz)) src H fun H => .ok (.sl b v o need none sz) H
      | false => appGrow b v o len sz need elem src H)

noncomputable def appTo (elem : TypeId) (sz : Nat) (src : List VV) (n : Nat) (s : VV) (H : VH) : RV := match s with
  | .snil => (match Nat.beq n 0 with
    | true => .ok .snil H
    | false => natK n fun n => appFresh elem sz n [] src H)
  | .sl b v o len cap sz' => RV.when (Nat.beq sz sz') "append: size" (match Nat.beq n 0 with
    | true => .ok (.sl b v o len cap sz) H
    | false => appSl elem sz src n b v o len cap H)
  | _ => .no "append: target"

noncomputable def appendK (t : TypeId) (s x : K (T VV → VV)) : R Cl :=
  elemV t fun elem => sizeV elem fun sz => zeroV elem fun z => R.of (PP.info? elem) "no type" fun ti => R.when (Nat.beq z.cells.length sz && Nat.blt 0 sz && Nat.ble ti.bytes 4096) "append: the element's size"
    (.ok ⟨fun t H => srcV sz (x.f t) H fun src n H => appTo elem sz src n (s.f t) H⟩)

/-- cells are written that may end beyond the known ones: the piece written is as long as a slice says -/
noncomputable def writeX (b v o : Nat) (xs : List VV) (H : VH) (k : VH → RV) : RV :=
  rowOf H b v fun r => @Row.rec (fun _ => RV) (fun op fz mkd el c => RV.when (Nat.ble fz o) "write: frozen" (RV.when (allOne xs) "write: no cell"
    (@Bool.rec (fun _ => RV) (spliceK c o xs fun c => putO H b (.cells v ⟨op, fz, mkd, el, c⟩) k) (spliceX c o xs fun c => putO H b (.cells v ⟨op, fz, mkd, el, c⟩) k) op))) r

noncomputable def copyTo (sz : Nat) (src : List VV) (n : Nat) (d : VV) (H : VH) : RV := match d with
  | .snil => .ok (.int .i64 0) H
  | .sl b v o len _ sz' => RV.when (Nat.beq sz' sz) "copy" (natK (Nat.min n len) fun k => takeK (Nat.mul k sz) src fun src => writeX b v o src H fun H => .ok (.int .i64 (.ofNat k)) H)
  | _ => .no "copy"

noncomputable def copyK (t : TypeId) (d x : K (T VV → VV)) : R Cl :=
  elemV t fun elem => sizeV elem fun sz => .ok ⟨fun t H => srcV sz (x.f t) H fun src n H => copyTo sz src n (d.f t) H⟩

noncomputable def deleteV (kd : TypeDesc) (m k : VV) (H : VH) : RV :=
  RV.when (okKey kd k) "keys" (match m with
    | .mnil => .ok (.tup []) H
    | .map b => entriesV H b fun es st => RV.from (delV kd k es) fun es2 => putO H b (.map es2 (shrunk st es es2)) fun H => .ok (.tup []) H
    | _ => .no "delete")

noncomputable def mmI (mx : Bool) (a b : Int) : Int := match mx with
  | true => (match ltI a b with | true => b | false => a)
  | false => (match ltI b a with | true => b | false => a)

noncomputable def mmV (mx : Bool) : List VV → VV → VH → RV
  | [], x, H => .ok x H
  | y :: l, x, H => asInt x fun k a => asInt y fun _ b => mmV mx l (.int k (mmI mx a b)) H

noncomputable def unsafeStr (el : TypeId) (p n : VV) (H : VH) : RV := natV n fun n => match p with
  | .pnil => RV.when (Nat.beq n 0) "unsafe.String" (.ok (.str 0 []) H)
  | .ptr b v o => (match Nat.beq n 0 with
    | true => .ok (.str 0 []) H
    | false => rowOf H b v fun r => @Row.rec (fun _ => RV) (fun op fz mkd el' c => RV.when (Nat.beq el el' && !mkd && Nat.ble n 1000000) "unsafe.String"
        (takeK n (dropN c o) fun l => RV.from (bytesOf l) fun s => natK (Nat.max fz (Nat.add o n)) fun fz => putO H b (.cells v ⟨op, fz, mkd, el', c⟩) fun H => .ok (.str n s) H)) r)
  | _ => .no "unsafe.String"

noncomputable def unsafeStrK (pt : TypeId) (p n : K (T VV → VV)) : R Cl := descV pt fun d => match d with
  | .pointer el => descV el fun d => (match d with
    | .int .u8 => sizeV el fun sz => R.when (Nat.beq sz 1) "unsafe.String" (.ok ⟨fun t H => unsafeStr el (p.f t) (n.f t) H⟩)
    | _ => .no "unsafe.String")
  | _ => .no "unsafe.String"

noncomputable def unsafeData (x : VV) (H : VH) : RV := match x with
  | .snil => .ok .pnil H
  | .sl b v o _ cap sz => (match cap with
    | some c => RV.when (Nat.blt 0 c) "unsafe.SliceData" (.ok (.ptr b v o) H)
    | none => rowOf H b v fun r => RV.when (Nat.blt 0 sz && Nat.ble (Nat.add o sz) (lenN r.c)) "unsafe.SliceData" (touchK H b fun H => .ok (.ptr b v o) H))
  | _ => .no "unsafe.SliceData"

noncomputable def argT {β : Type} (ts : Array TypeId) (i : Nat) (k : TypeId → R β) : R β := R.of (ts[i]?) "no argument type" k

noncomputable def clearV (zc : List VV) (x : VV) (H : VH) : RV := match x with
  | .snil => .ok (.tup []) H
  | .sl b v o len _ _ => @Bool.rec (fun _ => RV) (writeCells b v o (repl zc len) H fun H => .ok (.tup []) H) (.ok (.tup []) H) (Nat.beq len 0)
  | _ => .no "clear"
noncomputable def clearK (t : TypeId) (x : K (T VV → VV)) : R Cl :=
  elemV t fun el => zeroV el fun z => .ok ⟨fun s H => clearV z.cells (x.f s) H⟩

noncomputable def builtinK (b : Builtin) (ts : Array TypeId) (args : List Operand) : R Cl :=
  match b with
  | .len => (match args with | [x] => argT ts 0 fun t => (operK x).bind fun x => lenK t x | _ => .no "len")
  | .cap => (match args with | [x] => argT ts 0 fun t => (operK x).bind fun x => capK t x | _ => .no "cap")
  | .append => (match args with
    | [s, x] => argT ts 0 fun t => (operK s).bind fun s => (operK x).bind fun x => (match ts[1]? with
      | some xt => descV xt fun d => (match d with | .int _ => .no "append of make" | _ => appendK t s x)
      | none => appendK t s x)
    | _ => .no "append")
  | .copy => (match args with | [d, x] => argT ts 0 fun t => (operK d).bind fun d => (operK x).bind fun x => copyK t d x | _ => .no "copy")
  | .clear => (match args with | [x] => argT ts 0 fun t => (operK x).bind fun x => clearK t x | _ => .no "clear")
  | .delete => (match args with | [m, k] => argT ts 0 fun t => (operK m).bind fun m => (operK k).bind fun k => mapT t fun kd _ => .ok ⟨fun t H => deleteV kd (m.f t) (k.f t) H⟩ | _ => .no "delete")
  | .max => (match args with | x :: l => (operK x).bind fun x => (opersK l).bind fun l => .ok ⟨fun t H => mmV true (l.f t) (x.f t) H⟩ | _ => .no "max")
  | .min => (match args with | x :: l => (operK x).bind fun x => (opersK l).bind fun l => .ok ⟨fun t H => mmV false (l.f t) (x.f t) H⟩ | _ => .no "min")
  | .unsafeString => (match args with | [p, n] => argT ts 0 fun t => (operK p).bind fun p => (operK n).bind fun n => unsafeStrK t p n | _ => .no "unsafe.String")
  | .unsafeSliceData => (match args with | [x] => (operK x).bind fun x => .ok ⟨fun t H => unsafeData (x.f t) H⟩ | _ => .no "unsafe.SliceData")
  | _ => .no "builtin"

/-! ### functions without a text -/
noncomputable def bytesArg (x : VV) (H : VH) (k : List Nat → VH → RV) : RV := match x with
  | .str _ s => k s H
  | .snil => k [] H
  | .sl b v o len _ _ => readCells b v o len H fun l H => RV.from (bytesOf l) fun s => k s H
  | _ => .no "bytes"

def findByte (c : Nat) : List Nat → Nat → Int
  | [], _ => .negSucc 0
  | b :: l, i => match Nat.beq b c with | true => .ofNat i | false => findByte c l (Nat.succ i)

def countByte (c : Nat) : List Nat → Nat
  | [] => 0
  | b :: l => match Nat.beq b c with | true => Nat.succ (countByte c l) | false => countByte c l

noncomputable def cmpList (a b : List Nat) : Int := match listLt a b with
  | true => .negSucc 0
  | false => (match listEq a b with | true => .ofNat 0 | false => .ofNat 1)

/-- a number at an address -/
noncomputable def atomV (k : IntKind) (a : VV) (H : VH) (f : Nat → Nat → Nat → Int → VH → RV) : RV :=
  asPtr a fun b v o => readOne b v o H fun x H => asInt x fun k' x => RV.when (kEq k k') "atomic" (f b v o x H)

noncomputable def extV (e : Ext) (args : List VV) (H : VH) : RV :=
  match e with
  | .same => (match args with | [x] => .ok x H | _ => .no "extern")
  | .indexByte => (match args with
    | [s, .int .u8 (.ofNat c)] => bytesArg s H fun l H => okI .i64 (findByte (Nat.mod c 256) l 0) H
    | _ => .no "extern")
  | .count => (match args with
    | [s, .int .u8 (.ofNat c)] => bytesArg s H fun l H => okN .i64 (countByte (Nat.mod c 256) l) H
    | _ => .no "extern")
  | .compare => (match args with
    | [a, b] => bytesArg a H fun a H => bytesArg b H fun b H => okI .i64 (cmpList a b) H
    | _ => .no "extern")
  | .makeNoZero el => (match args with
    | [.int .i64 (.ofNat n)] => RV.when (Nat.ble n 1000000) "makeNoZero" (newRow true false el [] H fun b => .sl b 0 0 n none 1)
    | _ => .no "extern")
  | .cas k => (match args with
    | [a, .int k' old, .int k2 new] => atomV k a H fun b v o x H => RV.when (kEq k k') "cas" (RV.when (kEq k k2) "cas" (RV.when (eqI x old) "cas: a miss" (writeCells b v o [.int k new] H fun H => .ok (.bool true) H)))
    | _ => .no "extern")
  | .loadA k => (match args with
    | [a] => atomV k a H fun _ _ _ x H => .ok (.int k x) H
    | _ => .no "extern")
  | .storeA => (match args with
    | [a, x] => asPtr a fun b v o => writeCells b v o [x] H fun H => .ok (.tup []) H
    | _ => .no "extern")
  | .addA k => (match args with
    | [a, .int k' y] => atomV k a H fun b v o x H => RV.when (kEq k k') "add" (intK (wrapF k (Int.add x y)) fun r => writeCells b v o [.int k r] H fun H => .ok (.int k r) H)
    | _ => .no "extern")
  | .nothing => .ok (.tup []) H
  | .marked => (match args with
    | [.ptr _ _ _] => .ok (.tup []) H
    | _ => .no "extern")
  | .mapClone => (match args with
    | [.iface t (.map b)] => entriesV H b fun es st => touchK H b fun H => newO H (.map es st) fun b' H => .ok (.iface t (.map b')) H
    | _ => .no "extern")
  | _ => .no "extern"

/-! ### calls -/
noncomputable def retOf (r : Res) : RV := @Res.rec (fun _ => RV) (fun _ _ _ _ => .no "an exit") (fun v H => .ok v H) (fun w => .no w) r

noncomputable def callF (f : FuncId) : K (Rec → List VV → VH → RV) := match XX f with
  | none => ⟨fun rec args H => retOf (rec (.call f args H))⟩
  | some (.twin g) => ⟨fun rec args H => retOf (rec (.call g args H))⟩
  | some e => ⟨fun _ args H => extV e args H⟩

noncomputable def methOf (t : TypeId) (name : String) : Option FuncId :=
  match PP.info? t with
  | some i => match i.methods.find? (fun m => m.name == name) with
    | some m => match m.path.isEmpty, m.func, PP.underlying t with
      | true, some (f, true), some (.pointer _) => some f
      | true, some (_, false), some (.pointer _) => none
      | true, some (f, false), some _ => some f
      | _, _, _ => none
    | none => none
  | none => none

noncomputable def callM (rec : Rec) (recv : VV) (name : String) (args : List VV) (H : VH) : RV :=
  match recv with
  | .iface t x => RV.of (methOf t name) "no such method" fun f => (callF f).f rec (x :: args) H
  | _ => .no "invoke of nil"

noncomputable def callC (rec : Rec) (f : VV) (args : List VV) (H : VH) : RV := match f with
  | .fn (.func f) first cap => (callF f).f rec (appN first (appN args cap)) H
  | .fn (.yield l) first _ => retOf (rec (.round l (appN first args) H))
  | _ => .no "call of what"

abbrev Cr := K (Rec → T VV → VH → RV)

noncomputable def callK (c : Call) : R Cr := match c.callee with
  | .builtin b => (builtinK b c.argTypes c.args.toList).bind fun k => .ok ⟨fun _ t H => k.f t H⟩
  | .invoke r name => (operK r).bind fun r => (opersK c.args.toList).bind fun args => .ok ⟨fun rec t H => callM rec (r.f t) name (args.f t) H⟩
  | .value f => (opersK c.args.toList).bind fun args => (match f with
    | .func f => .ok ⟨fun rec t H => (callF f).f rec (args.f t) H⟩
    | f => (operK f).bind fun f => .ok ⟨fun rec t H => callC rec (f.f t) (args.f t) H⟩)

noncomputable def evNil (x : VV) (H : VH) : RV := match x with
  | .ptr b v o => .ok (.ptr b v o) H
  | .iface t x => .ok (.iface t x) H
  | .fn (.func f) a b => .ok (.fn (.func f) a b) H
  | .sl b v o l c s => .ok (.sl b v o l c s) H
  | .map b => .ok (.map b) H
  | _ => .no "nilCheck"

noncomputable def evMakeMap (r : Option VV) (H : VH) : RV := match r with
  | none => newO H (.map [] (some ([], 0))) fun b H => .ok (.map b) H
  | some x => asInt x fun _ _ => newO H (.map [] (some ([], 0))) fun b H => .ok (.map b) H

def isC : Operand → Bool
  | .const _ => true
  | _ => false

noncomputable def nthV (l : List VV) (i : Nat) (k : VV → RV) : RV := nthK l i k

/-- the plain operations -/
noncomputable def evPlain (op : Op) : R Cl :=
  match op with
  | .move x => (operK x).bind fun x => .ok ⟨fun t H => .ok (x.f t) H⟩
  | .assign x => (operK x).bind fun x => .ok ⟨fun t H => .ok (x.f t) H⟩
  | .pick c a b => (operK c).bind fun c => (operK a).bind fun a => (operK b).bind fun b => .ok ⟨fun t H => asBool (c.f t) fun q => @Bool.rec (fun _ => RV) (.ok (b.f t) H) (.ok (a.f t) H) q⟩
  | .alloc el => zeroV el fun z => .ok ⟨fun _ H => newRow false false el z.cells H fun b => .ptr b 0 0⟩
  | .box el x => (operK x).bind fun x => .ok ⟨fun t H => newRow false false el (x.f t).cells H fun b => .ptr b 0 0⟩
  | .build t ps => (pairsK ps.toList).bind fun ps => buildK t ps
  | .buildSlice t n ps => (pairsK ps.toList).bind fun ps => buildSlK t n ps
  | .load t a => (operK a).bind fun a => loadK t a
  | .store t a x => (operK a).bind fun a => (operK x).bind fun x => sizeV t fun n => .ok ⟨fun t H => storeV n (a.f t) (x.f t) H⟩
  | .nilCheck x => (operK x).bind fun x => .ok ⟨fun t H => evNil (x.f t) H⟩
  | .binOp op t x y _ => (operK x).bind fun a => (operK y).bind fun b => binK op t (isC x || isC y) a b
  | .unOp op _ x => (operK x).bind fun a => .ok ⟨fun t H => unV op (a.f t) H⟩
  | .convert s d x => (operK x).bind fun a => convK s d a
  | .makeInterface t x => (operK x).bind fun x => descV t fun d => (match d with
    | .interface _ => .no "makeInterface"
    | _ => .ok ⟨fun s H => .ok (.iface t (x.f s)) H⟩)
  | .makeFunc f first cap => (match f with
    | .func f => (opersK first.toList).bind fun a => (opersK cap.toList).bind fun b => .ok ⟨fun t H => .ok (.fn (.func f) (a.f t) (b.f t)) H⟩
    | _ => .no "makeFunc")
  | .makeMap t r => (optK r).bind fun r => mapT t fun _ _ => .ok ⟨fun t H => evMakeMap (r.f t) H⟩
  | .makeSlice t l c => (operK l).bind fun l => (operK c).bind fun c => makeSlK t l c
  | .slice t x lo hi mx => (operK x).bind fun x => (optK lo).bind fun lo => (optK hi).bind fun hi => (optK mx).bind fun mx => sliceK t x lo hi mx
  | .fieldAddr s x f => (operK x).bind fun x => fieldAddrK s x f
  | .field t x f => (operK x).bind fun x => fieldK t x f
  | .indexAddr t x i => (operK x).bind fun x => (operK i).bind fun i => indexAddrK t x i
  | .index t x i => (operK x).bind fun x => (operK i).bind fun i => indexK t x i
  | .lookup t x i ok => (operK x).bind fun x => (operK i).bind fun i => mapT t fun kd el => zeroV el fun z => .ok ⟨fun t H => lookupV kd z ok (x.f t) (i.f t) H⟩
  | .mapUpdate t m k x => (operK m).bind fun m => (operK k).bind fun k => (operK x).bind fun x => mapT t fun kd _ => .ok ⟨fun t H => mapUpdV kd (m.f t) (k.f t) (x.f t) H⟩
  | .insert t m k x => (operK m).bind fun m => (operK k).bind fun k => (operK x).bind fun x => mapT t fun kd _ => .ok ⟨fun t H => mapUpdV kd (m.f t) (k.f t) (x.f t) H⟩
  | .range t x => (operK x).bind fun x => descV t fun d => .ok ⟨fun t H => rangeV d (x.f t) H⟩
  | .entry it => (operK it).bind fun x => .ok ⟨fun t H => entryV (x.f t) H⟩
  | .next it s => (operK it).bind fun x => .ok ⟨fun t H => nextV s (x.f t) H⟩
  | .typeAssert x _ ty ok => (operK x).bind fun x => descV ty fun d => zeroV ty fun z => .ok ⟨fun t H => typeAssertV d z ty ok (x.f t) H⟩
  | .extract x i => (operK x).bind fun x => .ok ⟨fun t H => asTup (x.f t) fun l => nthK l i fun v => .ok v H⟩
  | _ => .no "op"

noncomputable def evOp (op : Op) : R Cr := match op with
  | .call c => callK c
  | op => (evPlain op).bind fun k => .ok ⟨fun _ t H => k.f t H⟩

noncomputable def guardV (t : T VV) (d : Nat) (want : Bool) (yes no : RV) : RV := match getOr t d with
  | .bool b => (match b == want with | true => yes | false => no)
  | .tup _ => no
  | _ => .no "guard"

/-- one operation of a region, guard and all -/
noncomputable def opK (ops : Array Oper) (o : Oper) : R Cr := (evOp o.op).bind fun k => match o.guard with
  | none => .ok k
  | some (j, want) => R.of ((ops[j]?).bind (·.dst)) "guard" fun d => .ok ⟨fun rec t H => guardV t d want (k.f rec t H) (.ok undefV H)⟩

noncomputable def deferK (c : Call) : R (K (T VV → R VD)) := match c.callee with
  | .value f => (opersK c.args.toList).bind fun args => (operK f).bind fun f => .ok ⟨fun t => match f.f t with
    | .fn (.func f) first cap => (match XX f with
      | none => .ok (.call f (appN first (appN (args.f t) cap)))
      | some _ => .no "defer of an extern")
    | _ => .no "defer of what"⟩
  | _ => .no "defer of what"

abbrev Cc := K (Rec → Option Nat → List VD → T VV → VH → Res)

/-- a value into a slot, and on -/
noncomputable def putK (n : Nat) (d : Option Tmp) : R (K (VV → T VV → (T VV → Res) → Res)) := match d with
  | none => .ok ⟨fun _ t c => c t⟩
  | some d => R.when (Nat.blt d n) "a slot" (.ok ⟨fun v t c => (setter (key d)).f v t c⟩)

noncomputable def seqK (n : Nat) (ops : Array Oper) : List Oper → R Cc
  | [] => .ok ⟨fun _ _ ds t H => .ex .normal ds t H⟩
  | o :: l => (putK n o.dst).bind fun p => (seqK n ops l).bind fun rest => match o.op with
    | .defer c => (match o.guard with
      | none => (deferK c).bind fun k => .ok ⟨fun rec rd ds t H => match rd with
        | none => @R.rec VD (fun _ => Res) (fun d => p.f undefV t fun t => rest.f rec rd (d :: ds) t H) (fun w => .no w) (k.f t)
        | some _ => .no "defer in a round"⟩
      | some _ => .no "a guarded defer")
    | _ => (opK ops o).bind fun k => .ok ⟨fun rec rd ds t H => @RV.rec (fun _ => Res) (fun v H => p.f v t fun t => rest.f rec rd ds t H) (fun w => .no w) (k.f rec t H)⟩

/-- which operations must have come up before one: bit i -/
def beforeMask (done : List Nat) (j : Nat) (o : Oper) : Nat :=
  o.after.toList.foldl (fun s e => match Region.binds .any e with
    | true => Nat.lor s (Nat.lor (bitN e.on) (done.getD (Nat.sub (Nat.sub j 1) e.on) 0))
    | false => s) 0

structure Seen where
  i : Nat
  fp : Nat
  wr : Nat

noncomputable def clashes (fp wr : Nat) (s : Seen) : Bool := @Seen.rec (fun _ => Bool) (fun _ sf sw => @Bool.rec (fun _ => Bool) true (@Bool.rec (fun _ => Bool) true false (Nat.beq (Nat.land sf wr) 0)) (Nat.beq (Nat.land sw fp) 0)) s

noncomputable def clash (bef fp wr : Nat) : List Seen → Bool
  | [] => false
  | s :: l => match clashes fp wr s with
    | true => (match Nat.testBit bef s.i with | true => clash bef fp wr l | false => true)
    | false => clash bef fp wr l

def isDefer : Op → Bool
  | .defer _ => true
  | _ => false

noncomputable def mergeT (tr : Trk) (fp wr : Nat) (k : Trk → Res) : Res := @Trk.rec (fun _ => Res) (k .off) (fun bs f w => natK (Nat.lor f fp) fun f => natK (Nat.lor w wr) fun w => k (.on bs f w)) tr

/-- a region that draws its order: the lexical order, its operations kept apart -/
noncomputable def drawK (n : Nat) (ops : Array Oper) : Nat → List Nat → List Oper → R (K (Rec → List Seen → Option Nat → List VD → T VV → VH → Res))
  | _, _, [] => .ok ⟨fun _ _ _ ds t H => .ex .normal ds t H⟩
  | j, done, o :: l => R.when (!isDefer o.op) "defer in a drawn region" ((putK n o.dst).bind fun p => (opK ops o).bind fun k => natK (beforeMask done j o) fun bef => (drawK n ops (Nat.succ j) (bef :: done) l).bind fun rest =>
      .ok ⟨fun rec seen rd ds t H => @VH.rec (fun _ => Res) (fun m nx tr => @RV.rec (fun _ => Res) (fun v H' => @VH.rec (fun _ => Res) (fun m' nx' tr' => @Trk.rec (fun _ => Res) (.no "track")
        (fun _ fp' wr' => natK (Nat.sub (bitN nx') (bitN nx)) fun new => @Bool.rec (fun _ => Res)
          (p.f v t fun t => mergeT tr fp' wr' fun tr => rest.f rec (⟨j, Nat.lor fp' new, Nat.lor wr' new⟩ :: seen) rd ds t ⟨m', nx', tr⟩)
          (.no "a clash in a drawn region") (clash bef fp' wr' seen)) tr') H') (fun w => .no w) (k.f rec t ⟨m, nx, .on nx 0 0⟩)) H⟩)

/-- what a drawn region must meet by its text: each operation waits only for earlier ones; two operations of which none waits for the other have no temporary in common -/
def edgesOk (j : Nat) (o : Oper) : Bool := o.after.toList.all fun e => match Region.binds .any e with | true => Nat.blt e.on j | false => true

def apartOk (ops : Array Oper) (bef : Nat) (o : Oper) : Nat → List Oper → Bool
  | _, [] => true
  | i, p :: l => match Nat.testBit bef i with
    | true => apartOk ops bef o (Nat.succ i) l
    | false => (match p.apart ops o with | true => apartOk ops bef o (Nat.succ i) l | false => false)

def drawOk (ops : Array Oper) (all : List Oper) : Nat → List Nat → List Oper → Bool
  | _, _, [] => true
  | j, done, o :: l => match edgesOk j o with
    | true => (match apartOk ops (beforeMask done j o) o 0 (all.take j) with | true => drawOk ops all (Nat.succ j) (beforeMask done j o :: done) l | false => false)
    | false => false

/-! ### code -/
noncomputable def onNormal (r : Res) (k : List VD → T VV → VH → Res) : Res :=
  @Res.rec (fun _ => Res) (fun e ds t H => @VEx.rec (fun _ => Res) (k ds t H) (fun id => .ex (.exit id) ds t H) (.ex .ret ds t H) (fun l => .ex (.goto l) ds t H) e) (fun _ _ => .no "a value") (fun w => .no w) r

noncomputable def onExit (id : Nat) (r : Res) : Res :=
  @Res.rec (fun _ => Res) (fun e ds t H => @VEx.rec (fun _ => Res) (.ex .normal ds t H) (fun id' => @Bool.rec (fun _ => Res) (.ex (.exit id') ds t H) (.ex .normal ds t H) (Nat.beq id' id)) (.ex .ret ds t H) (fun l => .ex (.goto l) ds t H) e) (fun _ _ => .no "a value") (fun w => .no w) r

noncomputable def newR (H : VH) (o : VO) (k : Nat → VH → Res) : Res :=
  @VH.rec (fun _ => Res) (fun m nx tr => (setter (key nx)).f o m fun m => natK nx fun b => k b ⟨m, Nat.succ b, tr⟩) H

noncomputable def putR (H : VH) (b : Nat) (o : VO) (k : VH → Res) : Res :=
  @VH.rec (fun _ => Res) (fun m nx tr => (setter (key b)).f o m fun m => @Trk.rec (fun _ => Res) (k ⟨m, nx, .off⟩)
    (fun bs fp wr => @Bool.rec (fun _ => Res) (k ⟨m, nx, .on bs fp wr⟩) (natK (Nat.lor fp (bitN b)) fun fp => natK (Nat.lor wr (bitN b)) fun wr => k ⟨m, nx, .on bs fp wr⟩) (Nat.blt b bs)) tr) H

def pendOf : VEx → Option Code
  | .normal => none
  | .ret => some .ret
  | .exit id => some (.exit id)
  | .goto g => some (.goto g)

def stOf : VEx → LoopState
  | .normal => .ready
  | _ => .done

def isNormal : VEx → Bool
  | .normal => true
  | _ => false

noncomputable def rangeBody (n : Nat) (gf : FuncId) (first cap : List VV) (ps : List Tmp) (assign body : Code) (rec : Rec) (rd : Option Nat) (ds : List VD) (t : T VV) (d : Nat) (H : VH) : Res :=
  newR H (.loop .ready none t n ps assign body d) fun l H => match rec (.call gf (appN first (.fn (.yield l) [] [] :: cap)) H) with
    | .ret _ H => (match H.m.get l with
      | some (.loop st p t' n' ps sn bd d) => (match st with
        | .busy => .no "rangeFunc: busy"
        | _ => putR H l (.loop .exhausted p t' n' ps sn bd d) fun H => (match p with
          | none => .ex .normal ds t H
          | some c => rec (.code n c rd ds t H)))
      | _ => .no "rangeFunc: its record")
    | .no w => .no w
    | _ => .no "rangeFunc"

/-- a number that is not followed -/
def trFree : Trk → Nat → Bool
  | .off, _ => true
  | .on bs _ _, l => Nat.ble bs l

noncomputable def rangeK (n : Nat) (g : K (T VV → VV)) (ps : List Tmp) (assign body : Code) : Cc :=
  ⟨fun rec rd ds t H => match g.f t with
    | .fn (.func gf) first cap => (match XX gf with
      | some _ => .no "rangeFunc of an extern"
      | none => (match rd with
        | none => newR H .defs fun d H => rangeBody n gf first cap ps assign body rec none (.mark d :: ds) t d H
        | some l => (match H.m.get l with
          | some (.loop _ _ _ _ _ _ _ d) => (match trFree H.tr l with
            | true => rangeBody n gf first cap ps assign body rec (some l) ds t d H
            | false => .no "rangeFunc: a round in a drawn region")
          | _ => .no "rangeFunc: the round's record")))
    | _ => .no "rangeFunc of what"⟩

noncomputable def codeK (n : Nat) : Code → R Cc
  | .skip => .ok ⟨fun _ _ ds t H => .ex .normal ds t H⟩
  | .label _ => .ok ⟨fun _ _ ds t H => .ex .normal ds t H⟩
  | .region _ ops draw => (match draw with
    | false => seqK n ops ops.toList
    | true => R.when (drawOk ops ops.toList 0 [] ops.toList && Region.noSelect ops) "a drawn region's text" ((drawK n ops 0 [] ops.toList).bind fun k => .ok ⟨fun rec rd ds t H => k.f rec [] rd ds t H⟩))
  | .seq a b => (codeK n a).bind fun a => (codeK n b).bind fun b => .ok ⟨fun rec rd ds t H => onNormal (a.f rec rd ds t H) fun ds t H => b.f rec rd ds t H⟩
  | .cond c x y => (operK c).bind fun c => .ok (match codeK n x, codeK n y with
    | x, y => ⟨fun rec rd ds t H => asCond (c.f t) fun q => @Bool.rec (fun _ => Res) (@R.rec Cc (fun _ => Res) (fun y => y.f rec rd ds t H) (fun w => .no w) y) (@R.rec Cc (fun _ => Res) (fun x => x.f rec rd ds t H) (fun w => .no w) x) q⟩)
  | .block id c => (codeK n c).bind fun c => .ok ⟨fun rec rd ds t H => onExit id (c.f rec rd ds t H)⟩
  | .loop b => (codeK n b).bind fun k => .ok ⟨fun rec rd ds t H => onNormal (k.f rec rd ds t H) fun ds t H => rec (.code n (.loop b) rd ds t H)⟩
  | .exit id => .ok ⟨fun _ _ ds t H => .ex (.exit id) ds t H⟩
  | .ret => .ok ⟨fun _ _ ds t H => .ex .ret ds t H⟩
  | .goto l => .ok ⟨fun _ _ ds t H => .ex (.goto l) ds t H⟩
  | .rangeFunc g ps assign body => (operK g).bind fun g => .ok (rangeK n g ps.toList assign body)
  | .scope _ => .no "scope"
  | .refuse w => .no w

/-! ### functions -/
noncomputable def resultsV (t : T VV) : List ResultVar → List VV → VH → (List VV → VH → Res) → Res
  | [], acc, H, k => k acc.reverse H
  | r :: l, acc, H, k => match r with
    | .tmp i => resultsV t l (getOr t i :: acc) H k
    | .cell a ty => (match loadK ty ⟨fun t => getOr t a⟩ with
      | .ok q => @RV.rec (fun _ => Res) (fun v H => resultsV t l (v :: acc) H k) (fun w => .no w) (q.f t H)
      | .no w => .no w)

noncomputable def runDefers (rec : Rec) : List VD → VH → (VH → Res) → Res
  | [], H, k => k H
  | d :: l, H, k => match d with
    | .call f args => @Res.rec (fun _ => Res) (fun _ _ _ _ => .no "defer") (fun _ H => runDefers rec l H k) (fun w => .no w) (rec (.callD f args H))
    | .mark b => (match H.m.get b with
      | some .defs => putR H b .dead fun H => runDefers rec l H k
      | _ => .no "mark")

noncomputable def argsT (k : T VV → Res) : List VV → Nat → T VV → Res
  | [], _, t => k t
  | v :: l, i, t => T.setK t i v fun t => argsT k l (Nat.succ i) t

noncomputable def parsT (k : T VV → Res) : List Tmp → List VV → T VV → Res
  | p :: ps, v :: vs, t => T.setK t p v fun t => parsT k ps vs t
  | _, _, t => k t

def tupOf (vs : List VV) : VV := match vs with
  | [v] => v
  | vs => .tup vs

structure FnC where
  n : Nat
  c : Cc
  rs : List ResultVar

noncomputable def fnK (f : FuncId) : R FnC := match PP.funcs[f]? with
  | none => .no "no such function"
  | some fn => match fn.body with
    | none => .no "no body"
    | some c => natK fn.ntmps fun n => (codeK n c).bind fun k => .ok ⟨n, k, fn.results.toList⟩

/-- a body's end -/
noncomputable def onEnd (r : Res) (k : List VD → T VV → VH → Res) : Res :=
  @Res.rec (fun _ => Res) (fun e ds t H => @VEx.rec (fun _ => Res) (k ds t H) (fun _ => .no "exit of a function") (k ds t H) (fun _ => .no "exit of a function") e) (fun _ _ => .no "a value") (fun w => .no w) r

noncomputable def stepCall (rec : Rec) (f : FuncId) (args : List VV) (H : VH) (fin : List ResultVar → List VD → T VV → VH → Res) : Res :=
  @R.rec FnC (fun _ => Res) (fun F => @FnC.rec (fun _ => Res) (fun n c rs => @Bool.rec (fun _ => Res) (.no "arguments") (argsT (fun t => onEnd (c.f rec none [] t H) fun ds t H => fin rs ds t H) args 0 .e) (Nat.ble (lenN args) n)) F) (fun w => .no w) (fnK f)

noncomputable def stepRound (rec : Rec) (l : Nat) (args : List VV) (H : VH) : Res :=
  match H.m.get l with
  | some (.loop .ready none t n ps assign body d) => (match Nat.beq args.length ps.length && ps.all (Nat.blt · n) with
    | false => .no "yield: arguments"
    | true => parsT (fun t' => putR H l (.loop .ready none t n ps assign body d) fun H0 => match rec (.code n assign (some l) [] t' H0) with
      | .ex .normal [] t1 H1 => (match H1.m.get l with
        | some (.loop .ready none u1 n1 p1 s1 b1 d1) => putR H1 l (.loop .busy none u1 n1 p1 s1 b1 d1) fun H2 => match rec (.code n body (some l) [] t1 H2) with
          | .ex e _ _ H3 => (match H3.m.get l with
            | some (.loop .busy none u3 n3 p3 s3 b3 d3) => putR H3 l (.loop (stOf e) (pendOf e) u3 n3 p3 s3 b3 d3) fun H4 => .ret (.bool (isNormal e)) H4
            | _ => .no "round: its record")
          | .no w => .no w
          | _ => .no "round: its body"
        | _ => .no "round: its record")
      | .no w => .no w
      | _ => .no "round: assign") ps args t)
  | _ => .no "yield: the loop is not ready"

noncomputable def step (rec : Rec) (t : Task) : Res := @Task.rec (fun _ => Res)
  (fun n c rd ds t H => @R.rec Cc (fun _ => Res) (fun k => k.f rec rd ds t H) (fun w => .no w) (codeK n c))
  (fun f args H => stepCall rec f args H fun rs ds t H => runDefers rec ds H fun H => resultsV t rs [] H fun vs H => .ret (tupOf vs) H)
  (fun f args H => stepCall rec f args H fun rs ds t H => match ds with
    | [] => resultsV t rs [] H fun vs H => .ret (tupOf vs) H
    | _ => .no "a deferred call that defers")
  (fun l args H => stepRound rec l args H) t

noncomputable def run (n : Nat) : Rec := @Nat.rec (fun _ => Rec) (fun _ => .no "fuel") (fun _ ih t => step ih t) n

end Go.Ev
