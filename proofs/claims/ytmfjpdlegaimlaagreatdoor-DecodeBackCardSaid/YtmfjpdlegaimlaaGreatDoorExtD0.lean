/- The small machine at this program: more functions of the library by what they are known to tell. -/
import Derived.Test.YtmfjpdlegaimlaaGreatDoorExt
namespace Go.Proofs.YtmfjpdlegaimlaaGreatDoor
open Go.RowKit
set_option linter.unusedVariables false
set_option linter.unusedSimpArgs false
noncomputable section
/-- does a text begin so -/
def preL (p : List UInt8) : List UInt8 → Bool :=
  List.rec (motive := fun _ => List UInt8 → Bool) (fun _ => true)
    (fun x _ g m => List.casesOn (motive := fun _ => Bool) m false (fun y r => cond (Nat.beq x.toNat y.toNat) (g r) false)) p
/-- the first place of a text that is not empty -/
def idxL (sub s : List UInt8) : Nat → Option Nat :=
  List.rec (motive := fun _ => Nat → Option Nat) (fun _ => none) (fun b r g i => cond (preL sub (b :: r)) (some i) (g (Nat.succ i))) s
def strV (l : List UInt8) : Value := .string ⟨l.toArray⟩
def cutR (H : Hp) (s sep : List UInt8) : Option Nat → Ret
  | some i => .ok (.tuple #[strV (takeN i s), strV (dropN (Nat.add i (lenL sep)) s), .bool true]) H
  | none => .ok (.tuple #[strV s, strV [], .bool false]) H
def shortB (s : List UInt8) : Bool := Nat.ble (lenL s) 1000000
def cutS (args : List Value) (H : Hp) : Ret := match args with
  | [.string s, .string sep] => cond (Nat.ble 1 (lenL sep.data.toList) && shortB s.data.toList) (cutR H s.data.toList sep.data.toList (idxL sep.data.toList s.data.toList 0)) (.bad 160 [])
  | _ => .bad 161 []
def placeR (H : Hp) : Option Nat → Ret
  | some i => .ok (.int .i64 (.ofNat i)) H
  | none => .ok (.int .i64 (.negSucc 0)) H
def placeS (args : List Value) (H : Hp) : Ret := match args with
  | [.string s, .string sep] => cond (Nat.ble 1 (lenL sep.data.toList) && shortB s.data.toList) (placeR H (idxL sep.data.toList s.data.toList 0)) (.bad 162 [])
  | _ => .bad 163 []
/-- cut at each place -/
def splitG (sep : List UInt8) (f : Nat) : List UInt8 → List (List UInt8) :=
  Nat.rec (motive := fun _ => List UInt8 → List (List UInt8)) (fun s => [s])
    (fun _ g s => Option.rec (motive := fun _ => List (List UInt8)) [s] (fun i => takeN i s :: g (dropN (Nat.add i (lenL sep)) s)) (idxL sep s 0)) f
def splitR (H : Hp) (e : TypeId) (l : List (List UInt8)) : Ret :=
  cond (Nat.ble H.next 131000 && Nat.blt e mapE) (.ok (.slice (some ⟨H.next, 0, none⟩) (lenL l) (lenL l)) (H.make (mapL strV l) e 1)) (.bad 164 [])
def splitS (e : TypeId) (args : List Value) (H : Hp) : Ret := match args with
  | [.string s, .string sep] => cond (Nat.ble 1 (lenL sep.data.toList) && shortB s.data.toList) (splitR H e (splitG sep.data.toList (lenL s.data.toList) s.data.toList)) (.bad 165 [])
  | _ => .bad 166 []
/-- digits alone -/
def decG (l : List UInt8) : Nat → Option Nat :=
  List.rec (motive := fun _ => Nat → Option Nat) (fun n => some n) (fun b _ g n => cond (Nat.ble 48 b.toNat && Nat.ble b.toNat 57) (forceN (Nat.add (Nat.mul n 10) (Nat.sub b.toNat 48)) g) none) l
def atoiR (H : Hp) : Option Nat → Ret
  | some n => .ok (.tuple #[.int .i64 (.ofNat n), .nilIface]) H
  | none => .bad 167 []
def atoiS (args : List Value) (H : Hp) : Ret := match args with
  | [.string s] => cond (Nat.ble 1 (lenL s.data.toList) && Nat.ble (lenL s.data.toList) 18) (atoiR H (decG s.data.toList 0)) (.bad 168 [])
  | _ => .bad 169 []
def XD : XF := fun f =>
  cond (Nat.beq f 19) (some cutS) (cond (Nat.beq f 64) (some placeS) (cond (Nat.beq f 22) (some (splitS 9)) (cond (Nat.beq f 66) (some atoiS) (XE f))))
end
end Go.Proofs.YtmfjpdlegaimlaaGreatDoor
