/- What the document fixes of rows. -/
import Derived.Test.YtagnfgigdcplpaaRows
import Derived.KernelRfl
import Derived.Test.YtagnfgigdcplpaaSh26
namespace Go.Proofs.Ytagnfgigdcplpaa
open Go.RowKit

theorem mixed : Try.prog.follows .mixedOrders = true := by kernel_rfl
def okT : Ret → Bool
  | .ok (.bool true) _ => true
  | _ => false
theorem okT_inv {r : Ret} (h : okT r = true) : ∃ H, r = .ok (.bool true) H := by
  unfold okT at h
  split at h
  · exact ⟨_, rfl⟩
  · cases h
/-- a run without arguments that tells true -/
theorem run_true (n : Nat) (f : FuncId) (h : okT (callF Try.prog n f [] Hp.none) = true) (w : World) : Calls Try.prog f #[] w fun e w' => e = .returned (.bool true) ∧ Below w.heap.size w w' := by
  obtain ⟨H, h1⟩ := okT_inv h
  exact run_sound (fun call hc => region_ok mixed hc) n f [] (fun x hx => by cases hx) (.bool true) H rfl h1 w
theorem rowsWakes_run : okT (callF Try.prog 100000 5 [] Hp.none) = true := by kernel_rfl
theorem rowsWakes_any (w : World) : Calls Try.prog 5 #[] w fun e w' => e = .returned (.bool true) ∧ Below w.heap.size w w' :=
  run_true 100000 5 rowsWakes_run w
end Go.Proofs.Ytagnfgigdcplpaa
