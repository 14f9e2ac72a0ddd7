/- Texts: the key words; lists of declarations and rules. -/
import Derived.Test.YtnoppoifepbchaaDoorTxt1
namespace Go.Proofs.YtnoppoifepbchaaDoor
open Go.RowKit
set_option linter.unusedVariables false
set_option linter.unusedSimpArgs false

def keyCells : Array Value := #[.string (keyS 1), .string (keyS 2), .string (keyS 3), .string (keyS 4), .string (keyS 5), .string (keyS 6), .string ⟨#[37, 112, 114, 101, 99]⟩]
theorem keys_any (w : World) : Calls Tryd.prog 12 #[] w fun e w' => e = .returned (.slice (some ⟨w.heap.size, 0, none⟩) 7 7) ∧ w' = w.alloc (.cells keyCells 9) := by
  go_enter Tryd.func12, Tryd.ntmps12
  go_wp2_with fail
  go_ret
  exact ⟨rfl, rfl⟩

/-- a symbol of a declaration, and its number -/
def declSm (x : Sm) : List ByteArray := symT x :: (if x.num = 0 then [] else [numT x.num])
def declTl (d : Dc) : List ByteArray := (if d.tag.size = 0 then [] else [⟨#[60]⟩ ++ d.tag ++ ⟨#[62]⟩]) ++ d.syms.flatMap declSm
def declT (d : Dc) : List UInt8 := (keyS d.kind).data.toList ++ tailSp (declTl d)
/-- alternatives, bars between -/
def barL : List Al → List ByteArray
  | [] => []
  | a :: l => altL a ++ l.flatMap (fun b => ⟨#[124]⟩ :: altL b)
def ruleTl (r : Rl) : List ByteArray := [⟨#[58]⟩] ++ barL r.alts ++ [⟨#[59]⟩]
def ruleT (r : Rl) : List UInt8 := r.left.data.toList ++ tailSp (ruleTl r)
def proT (s : ByteArray) : List UInt8 := if s.size = 0 then [] else [37, 123] ++ s.data.toList ++ [37, 125, 10]
def tailT (s : ByteArray) : List UInt8 := if s.size = 0 then [] else [37, 37] ++ s.data.toList
def soT (s : So) : List UInt8 :=
  if maySo s = true then proT s.pro ++ s.decls.flatMap (fun d => declT d ++ [10]) ++ [37, 37, 10] ++ s.rules.flatMap (fun r => ruleT r ++ [10]) ++ tailT s.tail else []

/-- not too many of each -/
def RlFew (r : Rl) : Prop := r.alts.length ≤ 100 ∧ ∀ a ∈ r.alts, a.parts.length ≤ 100
def SoFew (s : So) : Prop := s.decls.length ≤ 100 ∧ s.rules.length ≤ 100 ∧ (∀ d ∈ s.decls, d.syms.length ≤ 100) ∧ ∀ r ∈ s.rules, RlFew r

theorem flat_next {α : Type} (f : α → List UInt8) {l : List α} {k : Nat} {x : α} (hx : l[k]? = some x) : (l.take (k + 1)).flatMap f = (l.take k).flatMap f ++ f x := by
  obtain ⟨hk, rfl⟩ := List.getElem?_eq_some_iff.1 hx
  rw [List.take_succ_eq_append_getElem hk, List.flatMap_append]; simp
theorem flatT_next {α : Type} (f : α → List ByteArray) {l : List α} {k : Nat} {x : α} (hx : l[k]? = some x) : tailSp ((l.take (k + 1)).flatMap f) = tailSp ((l.take k).flatMap f) ++ tailSp (f x) := by
  obtain ⟨hk, rfl⟩ := List.getElem?_eq_some_iff.1 hx
  rw [List.take_succ_eq_append_getElem hk, List.flatMap_append, tailSp_append]; simp
theorem bar_next {l : List Al} {k : Nat} {x : Al} (hx : l[k]? = some x) : tailSp (barL (l.take (k + 1))) = tailSp (barL (l.take k)) ++ (if k = 0 then [] else [32, 124]) ++ tailSp (altL x) := by
  cases l with
  | nil => simp at hx
  | cons a l =>
    cases k with
    | zero =>
      obtain rfl : a = x := by simpa using hx
      simp [barL, tailSp]
    | succ k =>
      have hx' : l[k]? = some x := by simpa using hx
      rw [List.take_succ_cons, List.take_succ_cons, barL, barL, tailSp_append, tailSp_append, flatT_next _ hx', if_neg (by omega)]
      rw [show (⟨#[124]⟩ : ByteArray) :: altL x = [⟨#[124]⟩] ++ altL x from rfl, tailSp_append, tailSp_one]
      simp
end Go.Proofs.YtnoppoifepbchaaDoor
