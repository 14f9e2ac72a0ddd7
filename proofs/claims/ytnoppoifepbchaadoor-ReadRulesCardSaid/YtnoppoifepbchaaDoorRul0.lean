/- The texts of rules that end with a semicolon or not. -/
import Derived.Test.YtnoppoifepbchaaDoorLRd9
namespace Go.Proofs.YtnoppoifepbchaaDoor
open Go.RowKit
set_option linter.unusedVariables false
set_option linter.unusedSimpArgs false

def rA : ByteArray := ⟨#[32, 97]⟩
def rB : ByteArray := ⟨#[58, 32, 98, 32, 39, 120, 39, 32, 124, 32, 99]⟩
def rS (f : Nat → Bool) : Nat → ByteArray
  | 0 => ⟨#[37, 37]⟩
  | i + 1 => if f i = true then rS f i ++ rA ++ numT i ++ rB ++ ⟨#[59]⟩ else rS f i ++ rA ++ numT i ++ rB
def noAl : Al := ⟨[], noSm, 0⟩
def noRl : Rl := ⟨ByteArray.empty, [], 0⟩
def noPt : Pt := ⟨noSm, ByteArray.empty, 0⟩
def rlOk (i : Nat) (r : Rl) : Bool := (r.left.data.toList == (97 :: (numT i).data.toList)) && ((r.alts.length == 2) && (((r.alts.getD 0 noAl).parts.length == 2) && (((r.alts.getD 1 noAl).parts.length == 1) && (((r.alts.getD 1 noAl).parts.getD 0 noPt).sym.name.data.toList == [99]))))
def soOk (n : Nat) (x : So × Int × Int) : Bool := (x.2.1 == 0) && ((x.1.rules.length == n) && ((x.1.decls.length == 0) && (List.range n).all (fun i => rlOk i (x.1.rules.getD i noRl))))
/-- all lists of so many answers -/
def allB : Nat → List (List Bool)
  | 0 => [[]]
  | n + 1 => (allB n).flatMap (fun l => [true :: l, false :: l])
theorem mem_allB : ∀ l : List Bool, l ∈ allB l.length
  | [] => by simp [allB]
  | b :: l => by
    have := mem_allB l
    simp only [List.length_cons, allB, List.mem_flatMap]
    exact ⟨l, this, by cases b <;> simp⟩
def piece (P : List Bool) (k n : Nat) : Bool := (allB k).all (fun E => soOk n (readT (rS (fun i => (P ++ E).getD i false) n)))
theorem rS_congr {f g : Nat → Bool} : ∀ n, (∀ i, i < n → f i = g i) → rS f n = rS g n
  | 0, _ => rfl
  | n + 1, h => by
    unfold rS
    rw [rS_congr n (fun i hi => h i (by omega)), h n (by omega)]

end Go.Proofs.YtnoppoifepbchaaDoor
