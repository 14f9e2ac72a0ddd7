/- SubstRange: the runs behind the choice of the two numbers. -/
import Derived.Test.YtbampnmobbgbaaaDoorExtN
import Derived.KernelRfl
namespace Go.Proofs.YtbampnmobbgbaaaDoor
open Go.RowKit
set_option linter.unusedVariables false
noncomputable section
def subC : Code := dropC 3 (Tryd.f4.body.getD .skip)
def subOk (i j : Nat) : Bool := okT (sufS Tryd.prog XE 100000 Tryd.f4 subC (slotS [(0, .int .i64 (Int.ofNat i)), (1, .int .i64 (Int.ofNat j))]) Hp.none)
def rowB (f : Nat → Bool) (l : List Nat) : Bool := List.rec (motive := fun _ => Bool) true (fun i _ g => cond (f i) g false) l
end
theorem rowB_at (f : Nat → Bool) : ∀ (l : List Nat), rowB f l = true → ∀ i, i ∈ l → f i = true
  | [], _, i, hi => by cases hi
  | x :: r, h, i, hi => by
    have h' : cond (f x) (rowB f r) false = true := h
    rcases cond_split h' with ⟨h1, h2⟩ | ⟨_, h2⟩
    · rcases List.mem_cons.1 hi with rfl | h3
      · exact h1
      · exact rowB_at f r h2 i h3
    · cases h2
end Go.Proofs.YtbampnmobbgbaaaDoor
