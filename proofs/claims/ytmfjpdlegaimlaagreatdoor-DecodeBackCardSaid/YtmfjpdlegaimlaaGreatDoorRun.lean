/- A run without arguments, told by the small machine. -/
import Derived.Test.YtmfjpdlegaimlaaGreatDoorRows
import Derived.KernelRfl
import Derived.Test.YtmfjpdlegaimlaaGreatDoorSh27
namespace Go.Proofs.YtmfjpdlegaimlaaGreatDoor
open Go.RowKit

theorem mixed : Tryz.prog.follows .mixedOrders = true := by kernel_rfl
def okT : Ret → Bool
  | .ok (.bool true) _ => true
  | _ => false
theorem okT_inv {r : Ret} (h : okT r = true) : ∃ H, r = .ok (.bool true) H := by
  unfold okT at h
  split at h
  · exact ⟨_, rfl⟩
  · cases h
/-- a run without arguments that tells true -/
theorem run_true (n : Nat) (f : FuncId) (h : okT (callF Tryz.prog n f [] Hp.none) = true) (w : World) : Calls Tryz.prog f #[] w fun e w' => e = .returned (.bool true) ∧ Below w.heap.size w w' := by
  obtain ⟨H, h1⟩ := okT_inv h
  letI : Inhabited Base := ⟨⟨fun _ => none, fun _ => none⟩⟩
  exact run_sound (fun _ => rfl) (fun _ => rfl) XOk.none (fun call hc => region_ok mixed hc) n f [] (fun x hx => by cases hx) (.bool true) H rfl h1 w
end Go.Proofs.YtmfjpdlegaimlaaGreatDoor
