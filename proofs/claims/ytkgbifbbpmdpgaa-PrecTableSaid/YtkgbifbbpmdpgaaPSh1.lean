/- A machine of one order, over a small heap of its own: what it tells, each run of the program tells (proved further on). Of no program. -/
import Derived.Orders
set_option linter.unusedVariables false
set_option linter.unusedSimpArgs false
namespace Go.Proofs.Ytkgbifbbpmdpgaa.Sh

noncomputable section
def cond {α : Type} (c : Bool) (a b : α) : α := Bool.rec (motive := fun _ => α) b a c
inductive Tr (α : Type) where
 | nil
 | node (v : Option α) (l r : Tr α)
namespace Tr
variable {α : Type}
def pathG (f : Nat) : Nat → List Bool :=
 Nat.rec (motive := fun _ => Nat → List Bool) (fun _ => []) (fun _ g n => Bool.rec (motive := fun _ => List Bool) (Nat.beq (Nat.mod n 2) 0 :: g (Nat.div n 2)) [] (Nat.ble n 1)) f
def getP (t : Tr α) : List Bool → Option α :=
 Tr.rec (motive := fun _ => List Bool → Option α) (fun _ => none)
  (fun v _ _ gl gr p => List.rec (motive := fun _ => Option α) v (fun b r _ => Bool.rec (motive := fun _ => Option α) (gr r) (gl r) b) p) t
def setP (t : Tr α) (x : α) : List Bool → Tr α :=
 Tr.rec (motive := fun _ => List Bool → Tr α) (fun _ => .nil)
  (fun v l r sl sr p => List.rec (motive := fun _ => Tr α) (.node (some x) l r) (fun b q _ => Bool.rec (motive := fun _ => Tr α) (.node v l (sr q)) (.node v (sl q) r) b) p) t
def get (t : Tr α) (k : Nat) : Option α := Nat.rec (motive := fun _ => Option α) none (fun m _ => getP t (pathG (Nat.succ m) (Nat.succ m))) k
def set (t : Tr α) (x : α) (k : Nat) : Tr α := Nat.rec (motive := fun _ => Tr α) t (fun m _ => setP t x (pathG (Nat.succ m) (Nat.succ m))) k
def blank (α : Type) (d : Nat) : Tr α := Nat.rec (motive := fun _ => Tr α) .nil (fun _ t => .node none t t) d
end Tr
def nth {α : Type} (l : List α) : Nat → Option α :=
 List.rec (motive := fun _ => Nat → Option α) (fun _ => none) (fun x _ g k => Nat.rec (motive := fun _ => Option α) (some x) (fun m _ => g m) k) l
def dropN {α : Type} (n : Nat) : List α → List α :=
 Nat.rec (motive := fun _ => List α → List α) (fun l => l) (fun _ g l => List.casesOn (motive := fun _ => List α) l [] (fun _ r => g r)) n
def takeN {α : Type} (n : Nat) : List α → List α :=
 Nat.rec (motive := fun _ => List α → List α) (fun _ => []) (fun _ g l => List.casesOn (motive := fun _ => List α) l [] (fun x r => x :: g r)) n
def catL {α : Type} (l m : List α) : List α := List.rec (motive := fun _ => List α) m (fun x _ r => x :: r) l
def lenL {α : Type} (l : List α) : Nat := List.rec (motive := fun _ => Nat) 0 (fun _ _ n => Nat.succ n) l
def mapL {α β : Type} (f : α → β) (l : List α) : List β := List.rec (motive := fun _ => List β) [] (fun x _ r => f x :: r) l
def strT (P : Program) (t : TypeId) : Bool := Option.rec (motive := fun _ => Bool) false (fun d => Nat.beq d.ctorIdx TypeDesc.string.ctorIdx) (P.underlying t)
def eqL (l : List UInt8) : List UInt8 → Bool :=
 List.rec (motive := fun _ => List UInt8 → Bool) (fun m => List.casesOn (motive := fun _ => Bool) m true (fun _ _ => false))
  (fun x _ g m => List.casesOn (motive := fun _ => Bool) m false (fun y r => cond (Nat.beq x.toNat y.toNat) (g r) false)) l
def forceN {α : Type} (n : Nat) (k : Nat → α) : α := Nat.rec (motive := fun _ => α) (k 0) (fun m _ => k (Nat.succ m)) n
structure Blk where
 cells : List Value
 elem : TypeId
 size : Nat
 grp : Nat
structure Hp where
 tr : Tr Blk
 next : Nat
 /-- of a group: its newest block, and the oldest that may be read -/
 grp : Tr (Nat × Nat)
 /-- of the groups below this one those that have been written are kept in mind -/
 old : Nat
 wrote : List Nat
 /-- groups that may not be looked at -/
 ban : List Nat
def depthS : Nat := 17
def Hp.none : Hp := ⟨Tr.blank _ depthS, 1, Tr.blank _ depthS, 0, [], []⟩
def memN (l : List Nat) (i : Nat) : Bool := List.rec (motive := fun _ => Bool) false (fun x _ r => cond (Nat.beq x i) true r) l
def Hp.newest (H : Hp) (b : Blk) : Nat := match H.grp.get b.grp with | some p => p.1 | .none => b.grp
def Hp.since (H : Hp) (b : Blk) : Nat := match H.grp.get b.grp with | some p => p.2 | .none => 0
def mapE : Nat := 1000000000
def Hp.read (H : Hp) (i : Nat) : Option Blk := match H.tr.get i with
 | some b => cond (Nat.blt b.elem mapE && (Nat.ble (H.since b) i && !(memN H.ban b.grp))) (some b) .none
 | .none => .none
def Hp.readM (H : Hp) (i : Nat) : Option Blk := match H.tr.get i with
 | some b => cond (Nat.ble mapE b.elem && (Nat.ble (H.since b) i && !(memN H.ban b.grp))) (some b) .none
 | .none => .none
def Hp.make (H : Hp) (cells : List Value) (elem : TypeId) (size : Nat) : Hp :=
 Hp.casesOn (motive := fun _ => Hp) H fun tr next grp old wrote ban => ⟨tr.set ⟨cells, elem, size, next⟩ next, Nat.succ next, grp, old, wrote, ban⟩
def wroteS (H : Hp) (i : Nat) : List Nat := cond (Nat.blt i H.old && !(memN H.wrote i)) (i :: H.wrote) H.wrote
def Hp.write (H : Hp) (i : Nat) (b : Blk) (cells : List Value) : Hp :=
 Hp.casesOn (motive := fun _ => Hp) H fun tr next grp old wrote ban =>
  ⟨tr.set ⟨cells, b.elem, b.size, b.grp⟩ i, next, (match grp.get b.grp with | some p => grp.set (p.1, i) b.grp | .none => grp), old, wroteS ⟨tr, next, grp, old, wrote, ban⟩ b.grp, ban⟩
def Hp.grow (H : Hp) (i : Nat) (b : Blk) (cells : List Value) : Hp :=
 Hp.casesOn (motive := fun _ => Hp) H fun tr next grp old wrote ban =>
  ⟨tr.set ⟨cells, b.elem, b.size, b.grp⟩ next, Nat.succ next, grp.set (next, Hp.since ⟨tr, next, grp, old, wrote, ban⟩ b) b.grp, old, wroteS ⟨tr, next, grp, old, wrote, ban⟩ b.grp, ban⟩
def flat1 : Value → Bool
 | .bool _ | .int _ _ | .string _ => true
 | _ => false
def flatL (l : List Value) : Bool := List.rec (motive := fun _ => Bool) true (fun x _ r => cond (flat1 x) r false) l
def flatV : Value → Bool
 | .bool _ | .int _ _ | .string _ | .nilIface => true
 | .agg cs => flatL cs.toList
 | _ => false
def quick (P : Program) {α : Type} : Sem α → Option α
 | .pure a => some a
 | .program k => quick P (k P)
 | _ => none
def undefS : Value := .tuple #[]
def unknownS : Value := .chan (some 0)
def atomB : Value → Bool
 | .bool _ | .int _ _ | .string _ | .float _ _ | .complex _ _ _ | .pointer none | .map none | .chan none | .nilFunc | .nilIface => true
 | .slice none 0 0 => true
 | _ => false
def atomL (l : List Value) : Bool := List.rec (motive := fun _ => Bool) true (fun x _ r => cond (atomB x) r false) l
def constB : Value → Bool
 | .agg cs => atomL cs.toList
 | v => atomB v
def oneB : Value → Bool
 | .agg _ | .tuple _ | .chan (some _) => false
 | _ => true
def oneL (l : List Value) : Bool := List.rec (motive := fun _ => Bool) true (fun x _ r => cond (oneB x) r false) l
abbrev Regs := Tr Value
def getR (R : Regs) (t : Nat) : Value := Option.rec (motive := fun _ => Value) undefS (fun v => v) (R.get (Nat.succ t))
def evS (R : Regs) (x : Operand) : Value :=
 Operand.rec (motive := fun _ => Value) (fun t => getR R t) (fun v => cond (constB v) v unknownS) (fun _ => unknownS) (fun f => .func (.func f) #[] #[]) x
inductive Nx where
 | val (v : Value) (H : Hp)
 | skip (H : Hp)
 | enter (f : FuncId) (args : List Value) (H : Hp)
 | bad (why : Nat)
def Nx.of (why : Nat) (H : Hp) : Option Value → Nx
 | some v => .val v H
 | .none => .bad why
def Nx.qf (why : Nat) (H : Hp) : Option Value → Nx
 | some v => cond (flatV v) (.val v H) (.bad why)
 | .none => .bad why
def natI : Int → Option Nat
 | .ofNat m => some m
 | _ => none
def asNat : Value → Option Nat
 | .int _ n => natI n
 | _ => none
def cellsAt (b : Blk) (off n : Nat) : Option (List Value) := cond (Nat.beq (lenL (takeN n (dropN off b.cells))) n) (some (takeN n (dropN off b.cells))) none
def aggN (P : Program) (t : TypeId) : Option (Option Nat) := match P.underlying t with
 | some (.struct _) | some (.array _ _) => match P.info? t with
   | some i => some (some i.size)
   | none => none
 | some _ => some none
 | none => none
def sizeN (P : Program) (t : TypeId) : Option Nat := (P.info? t).map (·.size)
def bytesN (P : Program) (t : TypeId) : Option Nat := (P.info? t).map (·.bytes)
def zeroN (P : Program) (t : TypeId) : Option (List Value) := match P.info? t with
 | some i => match i.zero with
   | some z => cond (Nat.beq (lenL z.cells.toList) i.size && atomL z.cells.toList) (some z.cells.toList) none
   | none => none
 | none => none
def sliceE (P : Program) (t : TypeId) : Option TypeId := match P.underlying t with
 | some (.slice e) => some e
 | _ => none
def fieldsS (P : Program) (t : TypeId) : Option (List Field) := match P.underlying t with
 | some (.struct fs) => some fs.toList
 | _ => none
def loadB (P : Program) (H : Hp) (t : TypeId) (off : Nat) : Option Blk → Nx
 | some k => match aggN P t with
   | some (some n) => match cellsAt k off n with
     | some l => .val (.agg l.toArray) H
     | none => .bad 1
   | some none => match nth k.cells off with
     | some v => .val v H
     | none => .bad 2
   | none => .bad 93
 | none => .bad 3
def loadS (P : Program) (H : Hp) (t : TypeId) : Value → Nx
 | .pointer (some ⟨b, off, none⟩) => loadB P H t off (H.read b)
 | _ => .bad 4
def putL (l : List Value) (off : Nat) (vs : List Value) : List Value := catL (takeN off l) (catL vs (dropN (Nat.add off (lenL vs)) l))
def storeB (P : Program) (H : Hp) (t : TypeId) (vs : List Value) (b off : Nat) : Option Blk → Nx
 | some k => match sizeN P t with
   | some n => cond (oneL vs && Nat.beq (lenL vs) n && (Nat.ble (Nat.add off n) (lenL k.cells) && Nat.beq (H.newest k) b)) (.skip (H.write b k (putL k.cells off vs))) (.bad 5)
   | none => .bad 6
 | none => .bad 7
def cellsL : Value → List Value
 | .agg cs => cs.toList
 | v => [v]
def storeS (P : Program) (H : Hp) (t : TypeId) (v : Value) : Value → Nx
 | .pointer (some ⟨b, off, none⟩) => storeB P H t (cellsL v) b off (H.read b)
 | _ => .bad 8
def roomS (H : Hp) (e : TypeId) (n : Nx) : Nx := cond (Nat.ble H.next 131000 && Nat.blt e mapE) n (.bad 9)
def newS (H : Hp) (cells : List Value) (elem : TypeId) (size : Nat) : Nx := roomS H elem (.val (.pointer (some ⟨H.next, 0, none⟩)) (H.make cells elem size))
def newL (H : Hp) (cells : List Value) (elem : TypeId) (size n : Nat) : Nx := roomS H elem (.val (.slice (some ⟨H.next, 0, none⟩) n n) (H.make cells elem size))
def optN (d : Nat) : Option Value → Option Nat
 | none => some d
 | some v => asNat v
def sliceA (H : Hp) (size : Nat) (h l : Nat) : Option Addr → Nx
 | none => .val (.slice none 0 0) H
 | some ⟨b, off, none⟩ => cond (Nat.beq h l) (cond (Nat.beq h 0) (.val (.slice (some ⟨b, off, none⟩) 0 0) H) (.val (.slice (some ⟨0, 0, none⟩) 0 0) H)) (.val (.slice (some ⟨b, Nat.add off (Nat.mul l size), none⟩) (Nat.sub h l) (Nat.sub h l)) H)
 | _ => .bad 10
def sliceS (P : Program) (H : Hp) (t : TypeId) (a : Option Addr) (n : Nat) (lo hi : Option Value) : Nx :=
 match (sliceE P t).bind (sizeN P), optN n hi, optN 0 lo with
 | some size, some h, some l => cond (Nat.ble h n && (Nat.ble l h && Nat.ble 1 size)) (sliceA H size h l a) (.bad 11)
 | _, _, _ => .bad 12
def sliceV (P : Program) (H : Hp) (t : TypeId) (lo hi : Option Value) : Value → Nx
 | .slice a n _ => sliceS P H t a n lo hi
 | .string s => match optN 0 lo, optN s.size hi with
   | some l, some h => cond (strT P t && (Nat.ble l h && Nat.ble h s.size)) (.val (.string ⟨(takeN (Nat.sub h l) (dropN l s.data.toList)).toArray⟩) H) (.bad 13)
   | _, _ => .bad 97
 | _ => .bad 14
def arrayE (P : Program) (t : TypeId) : Option (Nat × TypeId) := match P.underlying t with
 | some (.array n e) => some (n, e)
 | _ => none
def indexAddrK (P : Program) (H : Hp) (t : TypeId) (k : Nat) : Value → Nx
 | .slice (some ⟨b, off, none⟩) n _ => match (sliceE P t).bind (sizeN P) with
   | some size => cond (Nat.ble (Nat.succ k) n) (.val (.pointer (some ⟨b, Nat.add off (Nat.mul k size), none⟩)) H) (.bad 15)
   | none => .bad 16
 | .pointer (some ⟨b, off, none⟩) => match arrayE P t with
   | some (n, e) => match sizeN P e with
     | some size => cond (Nat.ble (Nat.succ k) n) (.val (.pointer (some ⟨b, Nat.add off (Nat.mul k size), none⟩)) H) (.bad 17)
     | none => .bad 18
   | none => .bad 19
 | _ => .bad 20
def indexAddrS (P : Program) (H : Hp) (t : TypeId) (x ix : Value) : Nx := match asNat ix with
 | some k => indexAddrK P H t k x
 | none => .bad 21
def fieldOf (P : Program) (t : TypeId) (f : Nat) : Option Field := (fieldsS P t).bind (nth · f)
def fieldAddrS (P : Program) (H : Hp) (t : TypeId) (f : Nat) : Value → Nx
 | .pointer (some ⟨b, off, none⟩) => match fieldOf P t f with
   | some fd => match sizeN P fd.type with
     | some n => cond (Nat.ble 1 n) (.val (.pointer (some ⟨b, Nat.add off fd.offset, none⟩)) H) (.bad 95)
     | none => .bad 96
   | none => .bad 22
 | _ => .bad 23
def partS (P : Program) (H : Hp) (t : TypeId) (cs : List Value) (off : Nat) : Nx := match aggN P t with
 | some (some n) => cond (Nat.beq (lenL (takeN n (dropN off cs))) n) (.val (.agg (takeN n (dropN off cs)).toArray) H) (.bad 24)
 | some none => match nth cs off with
   | some v => .val v H
   | none => .bad 25
 | none => .bad 94
def fieldS (P : Program) (H : Hp) (t : TypeId) (f : Nat) : Value → Nx
 | .agg cs => match fieldOf P t f with
   | some fd => partS P H fd.type cs.toList fd.offset
   | none => .bad 26
 | _ => .bad 27
def fillL (place : Nat → Option (Nat × Nat)) (parts : List (Nat × Value)) : List Value → Option (List Value) :=
 List.rec (motive := fun _ => List Value → Option (List Value)) (fun cs => some cs)
  (fun p _ g cs => match place p.1 with
    | some q => cond (oneL (cellsL p.2) && Nat.beq (lenL (cellsL p.2)) q.2 && Nat.ble (Nat.add q.1 q.2) (lenL cs)) (g (putL cs q.1 (cellsL p.2))) none
    | none => none) parts
def placesS (P : Program) (t : TypeId) : Option (List (Nat × Nat)) := match fieldsS P t with
 | some fs => fs.mapM fun f => (P.info? f.type).map fun i => (f.offset, i.size)
 | none => none
def buildS (P : Program) (t : TypeId) (parts : List (Nat × Value)) : Option Value := match zeroN P t, fieldsS P t with
 | some z, some _ => match placesS P t with
   | some pl => (fillL (nth pl) parts z).map fun l => .agg l.toArray
   | none => none
 | some z, none => match (arrayE P t).bind fun p => sizeN P p.2 with
   | some size => (fillL (fun k => some (Nat.mul k size, size)) parts z).map fun l => .agg l.toArray
   | none => none
 | _, _ => none
def zerosL (z : List Value) (n : Nat) : List Value := Nat.rec (motive := fun _ => List Value) [] (fun _ l => catL z l) n
def buildSliceS (P : Program) (H : Hp) (t : TypeId) (len : Nat) (parts : List (Nat × Value)) : Nx := match sliceE P t with
 | some e => match zeroN P e, sizeN P e with
   | some z, some size => match fillL (fun k => some (Nat.mul k size, size)) parts (zerosL z len) with
     | some cs => cond (Nat.ble (Nat.mul len size) 16777216 && Nat.ble len 1000000000) (newL H cs e size len) (.bad 28)
     | none => .bad 29
   | _, _ => .bad 30
 | _ => .bad 31
def makeSliceS (P : Program) (H : Hp) (t : TypeId) (len cap : Value) : Nx := match sliceE P t, asNat len, asNat cap with
 | some e, some l, some c => match zeroN P e, sizeN P e, bytesN P e with
   | some z, some size, some bytes => cond (Nat.ble l c && (Nat.ble (Nat.mul c bytes) 1000000000 && Nat.ble c 1000000000)) (newL H (zerosL z l) e size l) (.bad 32)
   | _, _, _ => .bad 33
 | _, _, _ => .bad 34
def newsS (H : Hp) (size : Nat) : Value → Option (Nat × List Value)
 | .slice none 0 _ => some (0, [])
 | .slice (some ⟨b, off, none⟩) n _ => cond (Nat.beq n 0) (some (0, [])) (match H.read b with
   | some k => (cellsAt k off (Nat.mul n size)).map (n, ·)
   | none => none)
 | _ => none
def byteV (b : UInt8) : Value := .int .u8 b.toNat
def newsT (P : Program) (H : Hp) (t u : TypeId) (size : Nat) (x : Value) : Option (Nat × List Value) := match x with
 | .string s => cond (strT P u && Nat.beq size 1) (some (s.size, mapL byteV s.data.toList)) none
 | x => cond (Nat.beq t u) (newsS H size x) none
def growS (H : Hp) (e : TypeId) (b n m : Nat) (k : Blk) (news : List Value) : Nx :=
 roomS H e (.val (.slice (some ⟨H.next, 0, none⟩) (Nat.add n m) (Nat.add n m)) (H.grow b k (catL k.cells news)))
def growC (H : Hp) (e : TypeId) (b n m : Nat) (k : Blk) (news cells : List Value) : Nx := growS (H.write b k cells) e b n m ⟨cells, k.elem, k.size, k.grp⟩ news
def appendB (H : Hp) (e : TypeId) (size b n m : Nat) (news : List Value) : Option Blk → Nx
 | some k => cond (Nat.ble (Nat.mul n size) (lenL k.cells) && (Nat.beq (H.newest k) b && (Nat.beq k.elem e && Nat.beq k.size size)))
    (cond (Nat.beq (lenL k.cells) (Nat.mul n size)) (growS H e b n m k news) (growC H e b n m k news (takeN (Nat.mul n size) k.cells))) (.bad 35)
 | none => .bad 36
def appendA (H : Hp) (e : TypeId) (size n m : Nat) (news : List Value) : Option Addr → Nx
 | none => cond (Nat.beq n 0) (newL H news e size m) (.bad 37)
 | some ⟨b, 0, none⟩ => appendB H e size b n m news (H.read b)
 | _ => .bad 38
def appendN (P : Program) (H : Hp) (e : TypeId) (a : Option Addr) (n : Nat) (size bytes : Nat) : Option (Nat × List Value) → Nx
 | some (m, news) => cond (Nat.beq m 0) (.val (.slice a n n) H)
    (cond (oneL news && (Nat.ble (Nat.mul (Nat.add n m) bytes) 1000000000 && (Nat.ble (Nat.add n m) 1000000000 && Nat.ble 1 size))) (appendA H e size n m news a) (.bad 39))
 | none => .bad 40
def sameT (ts : List TypeId) : Option (TypeId × TypeId) := match ts with
 | [t, u] => some (t, u)
 | _ => none
def appendT (P : Program) (H : Hp) (t u e : TypeId) (a : Option Addr) (n : Nat) (x : Value) : Nx := match zeroN P e, sizeN P e, bytesN P e with
 | some _, some size, some bytes => appendN P H e a n size bytes (newsT P H t u size x)
 | _, _, _ => .bad 41
def appendU (P : Program) (H : Hp) (t u : TypeId) : List Value → Nx
 | [.slice a n _, x] => match sliceE P t with
   | some e => appendT P H t u e a n x
   | none => .bad 42
 | _ => .bad 43
def appendS (P : Program) (H : Hp) (ts : Option (TypeId × TypeId)) (l : List Value) : Nx := match ts with
 | some (t, u) => appendU P H t u l
 | none => .bad 43
def callS (P : Program) (H : Hp) (f : FuncId) (args : List Value) : Nx := match P.funcs[f]? with
 | some fn => match fn.body with
   | some _ => cond (fn.name == "runtime.NumGoroutine") (.bad 98) (.enter f args H)
   | none => .bad 44
 | none => .bad 45
def smallK (k : IntKind) (n : Nat) : Bool := match k with
 | .i64 => Nat.ble n 9223372036854775807
 | .u64 => Nat.ble n 18446744073709551615
 | .u8 => Nat.ble n 255
 | _ => false
def addK (k : IntKind) (a b : Int) : Value := match a, b with
 | .ofNat x, .ofNat y => forceN (Nat.add x y) fun n => cond (smallK k n) (.int k (.ofNat n)) (.int k (k.wrap (a + b)))
 | _, _ => .int k (k.wrap (a + b))
def subK (k : IntKind) (a b : Int) : Value := match a, b with
 | .ofNat x, .ofNat y => cond (Nat.ble y x && smallK k x) (forceN (Nat.sub x y) fun n => .int k (.ofNat n)) (.int k (k.wrap (a - b)))
 | _, _ => .int k (k.wrap (a - b))
def mulK (k : IntKind) (a b : Int) : Value := match a, b with
 | .ofNat x, .ofNat y => forceN (Nat.mul x y) fun n => cond (smallK k n) (.int k (.ofNat n)) (.int k (k.wrap (a * b)))
 | _, _ => .int k (k.wrap (a * b))
def quoK (k : IntKind) (a b : Int) : Value := match a, b with
 | .ofNat x, .ofNat y => cond (smallK k x) (forceN (Nat.div x y) fun n => .int k (.ofNat n)) (.int k (k.wrap (a.tdiv b)))
 | _, _ => .int k (k.wrap (a.tdiv b))
def remK (k : IntKind) (a b : Int) : Value := match a, b with
 | .ofNat x, .ofNat y => forceN (Nat.mod x y) fun n => .int k (.ofNat n)
 | _, _ => .int k (a.tmod b)
def leI (a b : Int) : Bool := match a, b with
 | .ofNat x, .ofNat y => Nat.ble x y
 | _, _ => decide (a ≤ b)
def eqI (a b : Int) : Bool := match a, b with
 | .ofNat x, .ofNat y => Nat.beq x y
 | _, _ => decide (a = b)
def intS (op : BinOp) (k : IntKind) (a b : Int) : Option Value := match op with
 | .add => some (addK k a b)
 | .sub => some (subK k a b)
 | .mul => some (mulK k a b)
 | .quo => cond (eqI b 0) none (some (quoK k a b))
 | .rem => cond (eqI b 0) none (some (remK k a b))
 | .eql => some (.bool (eqI a b))
 | .neq => some (.bool (!(eqI a b)))
 | .lss => some (.bool (!(leI b a)))
 | .leq => some (.bool (leI a b))
 | .gtr => some (.bool (!(leI a b)))
 | .geq => some (.bool (leI b a))
 | _ => none
def kindN : IntKind → Nat
 | .i8 => 1 | .i16 => 2 | .i32 => 3 | .i64 => 4 | .u8 => 5 | .u16 => 6 | .u32 => 7 | .u64 => 8
def kindB (k k' : IntKind) : Bool := Nat.beq (kindN k) (kindN k')
def nilOp (H : Hp) (op : BinOp) (ok a b : Bool) : Nx := match op with
 | .eql => cond (ok && (a || b)) (.val (.bool (a && b)) H) (.bad 46)
 | .neq => cond (ok && (a || b)) (.val (.bool !(a && b)) H) (.bad 47)
 | _ => .bad 48
def mapT (P : Program) (t : TypeId) : Bool := match P.underlying t with
 | some (.map _ _) => true
 | _ => false
def ptrT (P : Program) (t : TypeId) : Bool := match P.underlying t with
 | some (.pointer _) => true
 | _ => false
def binF (P : Program) (H : Hp) (op : BinOp) (t : TypeId) (x y : Operand) (vx vy : Value) : Nx :=
 cond (flatV vx && flatV vy) (Nx.qf 49 H (quick P (do eqGuard op t x y vx vy; binOp op t vx vy))) (.bad 50)
def binI (P : Program) (H : Hp) (op : BinOp) (t : TypeId) (x y : Operand) (k : IntKind) (a : Int) : Value → Nx
 | .int k' b => match intS op k a b with
   | some v => cond (kindB k k') (.val v H) (.bad 51)
   | none => binF P H op t x y (.int k a) (.int k' b)
 | vy => binF P H op t x y (.int k a) vy
def binL (P : Program) (H : Hp) (op : BinOp) (t : TypeId) (a : Bool) : Value → Nx
 | .slice b _ _ => nilOp H op (sliceE P t).isSome a b.isNone
 | _ => .bad 52
def binP (P : Program) (H : Hp) (op : BinOp) (t : TypeId) (a : Bool) : Value → Nx
 | .pointer b => nilOp H op (ptrT P t) a b.isNone
 | _ => .bad 53
def binM (P : Program) (H : Hp) (op : BinOp) (t : TypeId) (a : Bool) : Value → Nx
 | .map b => nilOp H op (mapT P t) a b.isNone
 | _ => .bad 143
def binT (P : Program) (H : Hp) (op : BinOp) (t : TypeId) (x y : Operand) (a : ByteArray) : Value → Nx
 | .string b => match op with
   | .eql => .val (.bool (eqL a.data.toList b.data.toList)) H
   | .neq => .val (.bool (!(eqL a.data.toList b.data.toList))) H
   | .add => cond (Nat.ble (Nat.add a.size b.size) 1000000000) (.val (.string ⟨(catL a.data.toList b.data.toList).toArray⟩) H) (.bad 142)
   | op => binF P H op t x y (.string a) (.string b)
 | vy => binF P H op t x y (.string a) vy
def binS (P : Program) (H : Hp) (op : BinOp) (t : TypeId) (x y : Operand) (vx vy : Value) : Nx := match vx with
 | .int k a => binI P H op t x y k a vy
 | .slice a _ _ => binL P H op t a.isNone vy
 | .pointer a => binP P H op t a.isNone vy
 | .map a => binM P H op t a.isNone vy
 | .string a => binT P H op t x y a vy
 | vx => binF P H op t x y vx vy
def lenS (P : Program) (H : Hp) : Option Value → Option TypeDesc → Nx
 | some (.slice _ n _), some (.slice _) => .val (.int .i64 n) H
 | some (.string s), some .string => forceN s.size fun n => .val (.int .i64 n) H
 | _, _ => .bad 54
def builtinS (P : Program) (H : Hp) (b : Builtin) (ts : List TypeId) (t : TypeId) (args : List Value) : Nx := match b with
 | .append => appendS P H (sameT ts) args
 | .len => lenS P H (nth args 0) ((nth ts 0).bind P.underlying)
 | .min => cond (flatL args) (Nx.qf 55 H (quick P (Builtin.min_ ts.toArray t args.toArray))) (.bad 56)
 | .max => cond (flatL args) (Nx.qf 57 H (quick P (Builtin.max_ ts.toArray t args.toArray))) (.bad 58)
 | _ => .bad 59
def callV (P : Program) (H : Hp) (args : List Value) : Value → Nx
 | .func (.func f) first captured => callS P H f (catL first.toList (catL args captured.toList))
 | _ => .bad 60
def callC (P : Program) (R : Regs) (H : Hp) (t : TypeId) (c : Call) : Nx := match c.callee with
 | .builtin b => builtinS P H b c.argTypes.toList t (mapL (evS R) c.args.toList)
 | .value f => callV P H (mapL (evS R) c.args.toList) (evS R f)
 | _ => .bad 61
def byteOf : Value → Option UInt8
 | .int .u8 n => cond (leI 0 n && leI n 255) (some (UInt8.ofNat n.toNat)) none
 | _ => none
def bytesL (l : List Value) : Option (List UInt8) := List.rec (motive := fun _ => Option (List UInt8)) (some []) (fun x _ r => match byteOf x, r with | some b, some l => some (b :: l) | _, _ => none) l
def kindT (P : Program) (t : TypeId) : Option IntKind := match P.underlying t with
 | some (.int k) => some k
 | _ => none
def convI (P : Program) (H : Hp) (s d : TypeId) (k : IntKind) (n : Int) : Nx := match kindT P s, kindT P d, n with
 | some _, some k', .ofNat m => cond (smallK k' m) (.val (.int k' (.ofNat m)) H) (Nx.qf 62 H (quick P (convert s d (.int k n))))
 | _, _, _ => Nx.qf 62 H (quick P (convert s d (.int k n)))
def convS (P : Program) (H : Hp) (s d : TypeId) : Value → Nx
 | .int k n => convI P H s d k n
 | .string t => Nx.qf 63 H (quick P (convert s d (.string t)))
 | .slice (some ⟨b, off, none⟩) n _ => match H.read b, (sliceE P s).bind P.underlying, P.underlying d with
   | some k, some (.int .u8), some .string => Nx.of 64 H (((cellsAt k off n).bind bytesL).map fun bs => Value.string ⟨bs.toArray⟩)
   | _, _, _ => .bad 65
 | _ => .bad 66
def unS (P : Program) (H : Hp) (op : UnOp) : Value → Nx
 | .bool b => Nx.qf 67 H (quick P (Op.unary op (.bool b)))
 | .int k n => Nx.qf 68 H (quick P (Op.unary op (.int k n)))
 | _ => .bad 69
def indexS (P : Program) (H : Hp) (t : TypeId) (ix : Value) : Value → Nx
 | .string s => match asNat ix, P.underlying t with
   | some k, some .string => match nth s.data.toList k with
     | some b => .val (.int .u8 b.toNat) H
     | none => .bad 70
   | _, _ => .bad 71
 | _ => .bad 72
def pickS (H : Hp) (a b : Value) : Value → Nx
 | .bool t => .val (cond t a b) H
 | _ => .bad 73
def allocS (P : Program) (H : Hp) (e : TypeId) : Nx := match zeroN P e, sizeN P e with
 | some z, some n => newS H z e n
 | _, _ => .bad 74
def nilS (H : Hp) : Value → Nx
 | .pointer (some a) => .val (.pointer (some a)) H
 | _ => .bad 75
def extractS (H : Hp) (k : Nat) : Value → Nx
 | .tuple vs => Nx.of 76 H (nth vs.toList k)
 | _ => .bad 77
def sliceO (P : Program) (R : Regs) (H : Hp) (t : TypeId) (x : Operand) (lo hi : Option Operand) : Option Operand → Nx
 | none => sliceV P H t (lo.map (evS R)) (hi.map (evS R)) (evS R x)
 | _ => .bad 78
def partsS (R : Regs) (ps : Array (Nat × Operand)) : List (Nat × Value) := mapL (fun p => (p.1, evS R p.2)) ps.toList
def mapKE (P : Program) (t : TypeId) : Option (TypeDesc × TypeId) := match P.underlying t with
 | some (.map k e) => match P.underlying k with
   | some (.int a) => some (.int a, e)
   | some .string => some (.string, e)
   | _ => none
 | _ => none
def sameK : TypeDesc → Value → Value → Option Bool
 | .int _, .int k a, .int k' b => cond (kindB k k') (some (eqI a b)) none
 | .string, .string a, .string b => some (a == b)
 | _, _, _ => none
def findS (d : TypeDesc) (k : Value) (l : List Value) : Option Value → Nat → Option (Option (Nat × Value)) :=
 List.rec (motive := fun _ => Option Value → Nat → Option (Option (Nat × Value))) (fun _ _ => some none)
  (fun x _ g p i => match p with
    | none => g (some x) i
    | some k0 => match sameK d k k0 with
      | some true => some (some (i, x))
      | some false => g none (Nat.succ i)
      | none => none) l
def zeroV (P : Program) (e : TypeId) : Option Value := match P.info? e with
 | some i => match i.zero with
   | some z => cond (constB z) (some z) none
   | none => none
 | none => none
def lookV (H : Hp) (ok : Bool) (t : Bool) (v : Value) : Nx := .val (cond ok (.tuple #[v, .bool t]) v) H
def lookK (P : Program) (H : Hp) (ok : Bool) (e : TypeId) : Option (Option (Nat × Value)) → Nx
 | some (some (_, v)) => lookV H ok true v
 | some none => match zeroV P e with
   | some z => lookV H ok false z
   | none => .bad 100
 | none => .bad 101
def lookM (P : Program) (H : Hp) (ok : Bool) (ix : Value) : Option (TypeDesc × TypeId) → Option Blk → Nx
 | some (d, e), some k => lookK P H ok e (findS d ix k.cells none 0)
 | _, _ => .bad 102
def lookN (P : Program) (H : Hp) (ok : Bool) (ix : Value) : Option (TypeDesc × TypeId) → Nx
 | some (d, e) => cond (flat1 ix) (lookK P H ok e (some none)) (.bad 144)
 | none => .bad 145
def lookS (P : Program) (H : Hp) (t : TypeId) (ok : Bool) (ix : Value) : Value → Nx
 | .map (some b) => lookM P H ok ix (mapKE P t) (H.readM b)
 | .map none => lookN P H ok ix (mapKE P t)
 | _ => .bad 103
def putM (l : List Value) (i : Nat) (k v : Value) : List Value := putL l (Nat.mul 2 i) [k, v]
def updK (H : Hp) (b : Nat) (q : Blk) (k v : Value) : Option (Option (Nat × Value)) → Nx
 | some (some (i, _)) => .skip (H.write b q (putM q.cells i k v))
 | some none => .skip (H.write b q (catL q.cells [k, v]))
 | none => .bad 104
def updM (H : Hp) (b : Nat) (k v : Value) : Option (TypeDesc × TypeId) → Option Blk → Nx
 | some (d, _), some q => cond (flat1 k && Nat.beq (H.newest q) b) (updK H b q k v (findS d k q.cells none 0)) (.bad 105)
 | _, _ => .bad 106
def updS (P : Program) (H : Hp) (t : TypeId) (k v : Value) : Value → Nx
 | .map (some b) => updM H b k v (mapKE P t) (H.readM b)
 | _ => .bad 107
def makeM (H : Hp) : Option Operand → Nx
 | none => cond (Nat.ble H.next 131000) (.val (.map (some H.next)) (H.make [] mapE 0)) (.bad 108)
 | _ => .bad 109
def opS (P : Program) (R : Regs) (H : Hp) (ty : TypeId) : Op → Nx
 | .move x => .val (evS R x) H
 | .assign x => .val (evS R x) H
 | .pick c a b => pickS H (evS R a) (evS R b) (evS R c)
 | .alloc e => allocS P H e
 | .box e x => cond (oneL (cellsL (evS R x))) (newS H (cellsL (evS R x)) e (lenL (cellsL (evS R x)))) (.bad 88)
 | .build t ps => Nx.of 79 H (buildS P t (partsS R ps))
 | .buildSlice t n ps => buildSliceS P H t n (partsS R ps)
 | .load t a => loadS P H t (evS R a)
 | .store t a x => storeS P H t (evS R x) (evS R a)
 | .nilCheck x => nilS H (evS R x)
 | .fieldAddr t x f => fieldAddrS P H t f (evS R x)
 | .field t x f => fieldS P H t f (evS R x)
 | .indexAddr t x ix => indexAddrS P H t (evS R x) (evS R ix)
 | .slice t x lo hi mx => sliceO P R H t x lo hi mx
 | .makeSlice t l c => makeSliceS P H t (evS R l) (evS R c)
 | .extract x k => extractS H k (evS R x)
 | .binOp op t x y _ => binS P H op t x y (evS R x) (evS R y)
 | .call c => callC P R H ty c
 | .unOp op _ x => unS P H op (evS R x)
 | .convert s d x => convS P H s d (evS R x)
 | .index t x ix => indexS P H t (evS R ix) (evS R x)
 | .makeMap _ hint => makeM H hint
 | .lookup t x ix ok => lookS P H t ok (evS R ix) (evS R x)
 | .mapUpdate t m k v => updS P H t (evS R k) (evS R v) (evS R m)
 | _ => .bad 80
inductive Ex where
 | normal | exit (id : Nat) | ret
inductive Out where
 | ok (e : Ex) (R : Regs) (H : Hp)
 | bad (why : Nat) (at_ : List String)
inductive Ret where
 | ok (v : Value) (H : Hp)
 | bad (why : Nat) (at_ : List String)
def putR (R : Regs) (v : Value) (d : Option Tmp) : Regs := Option.rec (motive := fun _ => Regs) R (fun t => R.set v (Nat.succ t)) d
def yieldS (want : Bool) : Value → Option Bool
 | .bool b => some (cond want b (!b))
 | .chan _ => none
 | _ => some false
def wantedS (ops : List Oper) (R : Regs) (g : Option (Nat × Bool)) : Option Bool :=
 Option.rec (motive := fun _ => Option Bool) (some true) (fun p => match (nth ops p.1).bind (·.dst) with
  | some d => yieldS p.2 (getR R d)
  | none => some false) g
def wantS (a b : Out) (w : Option Bool) : Out := Option.rec (motive := fun _ => Out) (.bad 91 []) (fun t => cond t a b) w
def nextS (call : FuncId → List Value → Hp → Ret) (k : Value → Hp → Out) (pos : String) (n : Nx) : Out :=
 Nx.rec (motive := fun _ => Out) k (fun H => k undefS H) (fun f args H => Ret.rec (motive := fun _ => Out) k (fun why l => .bad why (pos :: l)) (call f args H)) (fun why => .bad why [pos]) n
def opsS (P : Program) (call : FuncId → List Value → Hp → Ret) (ops : List Oper) (l : List Oper) : Regs → Hp → Out :=
 List.rec (motive := fun _ => Regs → Hp → Out) (fun R H => .ok .normal R H)
  (fun o _ g R H => wantS (nextS call (fun v H => g (putR R v o.dst) H) o.pos (opS P R H o.type o.op)) (g (putR R undefS o.dst) H) (wantedS ops R o.guard)) l
def pureB : Builtin → Bool
 | .len | .min | .max => true
 | _ => false
def pureO : Op → Bool
 | .move _ | .assign _ | .pick _ _ _ | .nilCheck _ | .fieldAddr _ _ _ | .field _ _ _ | .indexAddr _ _ _ | .slice _ _ _ _ _ | .extract _ _ | .binOp _ _ _ _ _ | .unOp _ _ _ | .index _ _ _ => true
 | .call c => match c.callee with
   | .builtin b => pureB b
   | _ => false
 | _ => false
def edgesS (acc : List Nat) (es : List Edge) : Nat := List.rec (motive := fun _ => Nat) 0 (fun e _ r => cond (Region.binds .any e) (Nat.lor (Nat.lor (Nat.pow 2 e.on) (match nth acc e.on with | some m => m | none => 0)) r) r) es
def aheadS (ops : List Oper) : List Nat → List Nat := List.rec (motive := fun _ => List Nat → List Nat) (fun acc => acc) (fun o _ g acc => g (catL acc [edgesS acc o.after.toList])) ops
def maskS (ops : List Oper) (j : Nat) : Nat := match nth (aheadS ops []) j with | some m => m | none => 0
def bitS (m i : Nat) : Bool := Nat.beq (Nat.mod (Nat.div m (Nat.pow 2 i)) 2) 1
def allI {α : Type} (f : Nat → α → Bool) (l : List α) : Nat → Bool := List.rec (motive := fun _ => Nat → Bool) (fun _ => true) (fun x _ g k => cond (f k x) (g (Nat.succ k)) false) l
def namesOf (ops : List Oper) (o : Oper) : List Tmp := o.dst.toList ++ (o.op.operands.toList.filterMap (fun x => match x with | .tmp t => some t | _ => none) ++ (match o.guard with | some (g, _) => (match (ops[g]?).bind (·.dst) with | some d => [d] | none => []) | none => []))
def drawOk (ops : List Oper) : Bool :=
 allI (fun j o => (namesOf ops o).all (fun t => Nat.blt t 1000) && o.after.toList.all (fun e => !Region.binds .any e || Nat.blt e.on j) && (match o.op with | .select _ _ => false | _ => true) &&
  allI (fun i o' => Nat.ble j i || (((match o'.dst with | some d => !(memN (namesOf ops o) d) | none => true) && (match o.dst with | some d => !(memN (namesOf ops o') d) | none => true)) || bitS (maskS ops j) i)) ops 0) ops 0
def ordB (ops : List Oper) (i j : Nat) : Bool := bitS (maskS ops j) i || bitS (maskS ops i) j
def placeOf : Value → Option Nat
 | .pointer (some ⟨b, _, none⟩) => some b
 | _ => none
def grpAt (H : Hp) (b : Option Nat) : Option Nat := match b with
 | some b => match H.tr.get b with
   | some q => some q.grp
   | none => none
 | none => none
def storeAt (H : Hp) (R : Regs) : Op → Option Nat
 | .store _ a _ => grpAt H (placeOf (evS R a))
 | _ => none
def bansS (ops : List Oper) (H : Hp) (R0 : Regs) (j : Nat) (base : List Nat) (l : List Oper) : Nat → List Nat :=
 List.rec (motive := fun _ => Nat → List Nat) (fun _ => base) (fun o _ g i => match storeAt H R0 o.op with
  | some b => cond (Nat.beq i j || ordB ops i j) (g (Nat.succ i)) (b :: g (Nat.succ i))
  | none => g (Nat.succ i)) l
inductive Rdd where
 | none | one (b : Nat) | but (l : List Nat)
def Rdd.has : Rdd → Nat → Bool
 | .none, _ => false
 | .one b, i => Nat.beq b i
 | .but l, i => !(memN l i)
def oneOf : Option Nat → Rdd
 | some b => .one b
 | .none => .but []
def rddOf (H : Hp) (R : Regs) (ban : List Nat) (o : Op) : Rdd := match o with
 | .load _ a => oneOf (grpAt H (placeOf (evS R a)))
 | .store _ a _ => oneOf (grpAt H (placeOf (evS R a)))
 | .alloc _ | .box _ _ | .build _ _ | .buildSlice _ _ _ | .makeSlice _ _ _ => .none
 | o => cond (pureO o) .none (.but ban)
structure Seen where
 at_ : Nat
 rd : Rdd
 wr : List Nat
def noneIn (l : List Nat) (r : Rdd) : Bool := List.rec (motive := fun _ => Bool) true (fun x _ g => cond (r.has x) false g) l
def apartS (ops : List Oper) (j : Nat) (rd : Rdd) (wr : List Nat) (l : List Seen) : Bool :=
 List.rec (motive := fun _ => Bool) true (fun s _ g => cond (ordB ops s.at_ j || (noneIn s.wr rd && noneIn wr s.rd)) g false) l
def enterD (ban : List Nat) (H : Hp) : Hp := Hp.casesOn (motive := fun _ => Hp) H fun tr next grp _ _ _ => ⟨tr, next, grp, next, [], ban⟩
def joinW (old : Nat) (l m : List Nat) : List Nat := List.rec (motive := fun _ => List Nat) m (fun x _ g => cond (Nat.blt x old && !(memN g x)) (x :: g) g) l
def leaveD (H0 H : Hp) : Hp :=
 Hp.casesOn (motive := fun _ => Hp) H0 fun _ _ _ old0 wrote0 ban0 => Hp.casesOn (motive := fun _ => Hp) H fun tr next grp _ wrote _ => ⟨tr, next, grp, old0, joinW old0 wrote wrote0, ban0⟩
def drawNext (ops : List Oper) (rd : Rdd) (o : Oper) (j : Nat) (sn : List Seen) (H0 : Hp) (k : List Seen → Value → Hp → Out) (v : Value) (H : Hp) : Out :=
 cond (apartS ops j rd H.wrote sn) (k (⟨j, rd, H.wrote⟩ :: sn) v (leaveD H0 H)) (.bad 89 [o.pos])
def drawS (P : Program) (call : FuncId → List Value → Hp → Ret) (ops : List Oper) (R0 : Regs) (l : List Oper) : Nat → List Seen → Regs → Hp → Out :=
 List.rec (motive := fun _ => Nat → List Seen → Regs → Hp → Out) (fun _ _ R H => .ok .normal R H)
  (fun o _ g j sn R H => wantS
    (nextS call (fun v H' => drawNext ops (rddOf H R (bansS ops H R0 j H.ban ops 0) o.op) o j sn H (fun sn v H => g (Nat.succ j) sn (putR R v o.dst) H) v H') o.pos (opS P R (enterD (bansS ops H R0 j H.ban ops 0) H) o.type o.op))
    (g (Nat.succ j) sn (putR R undefS o.dst) H) (wantedS ops R o.guard)) l
def storesL (l : List Oper) : Nat → List (Nat × Operand) :=
 List.rec (motive := fun _ => Nat → List (Nat × Operand)) (fun _ => []) (fun o _ g i => match o.op with
  | .store _ a _ => (i, a) :: g (Nat.succ i)
  | _ => g (Nat.succ i)) l
def bansF (ops : List Oper) (H : Hp) (R0 : Regs) (j : Nat) (base : List Nat) (l : List (Nat × Operand)) : List Nat :=
 List.rec (motive := fun _ => List Nat) base (fun p _ r => match grpAt H (placeOf (evS R0 p.2)) with
  | some b => cond (Nat.beq p.1 j || ordB ops p.1 j) r (b :: r)
  | none => r) l
def quietR : Rdd → Bool
 | .none => true
 | _ => false
def nilN : List Nat → Bool
 | [] => true
 | _ => false
def apartL (ops : List Oper) (j : Nat) (rd : Rdd) (wr : List Nat) (l : List Seen) : Bool :=
 List.rec (motive := fun _ => Bool) true (fun s _ g => cond ((noneIn s.wr rd && noneIn wr s.rd) || ordB ops s.at_ j) g false) l
def drawNextF (ops : List Oper) (quiet : Bool) (rd : Rdd) (o : Oper) (j : Nat) (sn : List Seen) (H0 : Hp) (k : List Seen → Value → Hp → Out) (v : Value) (H : Hp) : Out :=
 cond (quiet && nilN H.wrote) (k sn v (leaveD H0 H)) (cond (apartL ops j rd H.wrote sn) (k (⟨j, rd, H.wrote⟩ :: sn) v (leaveD H0 H)) (.bad 89 [o.pos]))
def drawF1 (P : Program) (call : FuncId → List Value → Hp → Ret) (ops : List Oper) (o : Oper) (g : List Seen → Regs → Hp → Out) (j : Nat) (sn : List Seen) (R : Regs) (H : Hp) (bans : List Nat) : Out :=
 nextS call (fun v H' => drawNextF ops (quietR (rddOf H R bans o.op)) (rddOf H R bans o.op) o j sn H (fun sn v H => g sn (putR R v o.dst) H) v H') o.pos (opS P R (enterD bans H) o.type o.op)
def drawF (P : Program) (call : FuncId → List Value → Hp → Ret) (ops : List Oper) (st : List (Nat × Operand)) (R0 : Regs) (l : List Oper) : Nat → List Seen → Regs → Hp → Out :=
 List.rec (motive := fun _ => Nat → List Seen → Regs → Hp → Out) (fun _ _ R H => .ok .normal R H)
  (fun o _ g j sn R H => wantS (drawF1 P call ops o (g (Nat.succ j)) j sn R H (bansF ops H R0 j H.ban st)) (g (Nat.succ j) sn (putR R undefS o.dst) H) (wantedS ops R o.guard)) l
def regionS (P : Program) (call : FuncId → List Value → Hp → Ret) (ops : List Oper) (R : Regs) (H : Hp) (draw : Bool) : Out :=
 cond draw (cond (drawOk ops) (drawF P call ops (storesL ops 0) R ops 0 [] R H) (.bad 90 [])) (opsS P call ops ops R H)
def resS (P : Program) (R : Regs) (H : Hp) : ResultVar → Option Value
 | .tmp t => some (getR R t)
 | .cell a t => match loadS P H t (getR R a) with | .val v _ => some v | _ => none
def ressS (P : Program) (R : Regs) (H : Hp) (l : List ResultVar) : Option (List Value) :=
 List.rec (motive := fun _ => Option (List Value)) (some []) (fun x _ r => match resS P R H x, r with | some v, some l => some (v :: l) | _, _ => none) l
def retL (H : Hp) : Option (List Value) → Ret
 | some [v] => .ok v H
 | some vs => .ok (.tuple vs.toArray) H
 | none => .bad 81 []
def regsOf (l : List Value) : Nat → Regs → Regs :=
 List.rec (motive := fun _ => Nat → Regs → Regs) (fun _ R => R) (fun v _ g k R => g (Nat.succ k) (R.set v (Nat.succ k))) l
def seqS (k : Regs → Hp → Out) : Out → Out
 | .ok .normal R H => k R H
 | r => r
def condS (a b : Out) : Value → Out
 | .bool t => cond t a b
 | _ => .bad 82 []
def blockS (id : Nat) : Out → Out
 | .ok (.exit k) R H => cond (Nat.beq k id) (.ok .normal R H) (.ok (.exit k) R H)
 | r => r
def endS' (P : Program) (fn : Func) : Out → Ret
 | .ok .normal R H => retL H (ressS P R H fn.results.toList)
 | .ok .ret R H => retL H (ressS P R H fn.results.toList)
 | .ok _ _ _ => .bad 83 []
 | .bad why l => .bad why (fn.name :: l)
def runC (P : Program) (code : Code → Regs → Hp → Out) (call : FuncId → List Value → Hp → Ret) (R : Regs) (H : Hp) : Code → Out
 | .skip => .ok .normal R H
 | .region _ ops draw => regionS P call ops.toList R H draw
 | .seq a b => seqS (code b) (code a R H)
 | .cond c a b => condS (code a R H) (code b R H) (evS R c)
 | .block id b => blockS id (code b R H)
 | .loop b => seqS (code (.loop b)) (code b R H)
 | .exit id => .ok (.exit id) R H
 | .ret => .ok .ret R H
 | .label _ => .ok .normal R H
 | .scope b => code b R H
 | _ => .bad 84 []
def regDepth : Nat := 10
def dstOk (n : Nat) : Option Tmp → Bool
 | some d => Nat.blt d n
 | none => true
def opsOk (n : Nat) (l : List Oper) : Bool := List.rec (motive := fun _ => Bool) true (fun o _ g => cond (dstOk n o.dst) g false) l
def codeOk (n : Nat) (c : Code) : Bool :=
 Code.rec (motive := fun _ => Bool) true (fun _ ops _ => opsOk n ops.toList) (fun _ _ a b => cond a b false) (fun _ _ _ a b => cond a b false) (fun _ _ a => a) (fun _ a => a) (fun _ _ _ _ _ _ => false)
  (fun _ => true) (fun _ a => a) (fun _ => true) (fun _ => false) true (fun _ => false) c
def runF (P : Program) (code : Code → Regs → Hp → Out) (args : List Value) (H : Hp) : Option Func → Ret
 | some fn => match fn.body with
   | some c => cond (Nat.ble fn.ntmps 1000 && (Nat.ble (lenL args) fn.ntmps && codeOk fn.ntmps c)) (endS' P fn (code c (regsOf args 0 (Tr.blank _ regDepth)) H)) (.bad 92 [])
   | none => .bad 85 []
 | none => .bad 86 []
abbrev XF := FuncId → Option (List Value → Hp → Ret)
def XF.none : XF := fun _ => .none
def enterX (X : XF) (g : FuncId → List Value → Hp → Ret) (f : FuncId) (args : List Value) (H : Hp) : Ret := match X f with
 | some k => k args H
 | .none => g f args H
def codeS (P : Program) (X : XF) (n : Nat) : Code → Regs → Hp → Out :=
 Nat.rec (motive := fun _ => Code → Regs → Hp → Out) (fun _ _ _ => .bad 87 [])
  (fun _ ih c R H => runC P ih (enterX X (fun f args H => runF P ih args H P.funcs[f]?)) R H c) n
def callX (P : Program) (X : XF) (n : Nat) (f : FuncId) (args : List Value) (H : Hp) : Ret := runF P (codeS P X n) args H P.funcs[f]?
def callF (P : Program) (n : Nat) (f : FuncId) (args : List Value) (H : Hp) : Ret := callX P XF.none n f args H
end
end Go.Proofs.Ytkgbifbbpmdpgaa.Sh
