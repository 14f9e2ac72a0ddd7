/- a text, cut. -/
import Derived.Test.YtmfjpdlegaimlaaGreatDoorEnvZ
namespace Go.Proofs.YtmfjpdlegaimlaaGreatDoor
open Go.RowKit
set_option linter.unusedVariables false
/-- a text, cut -/
def cutT (s : ByteArray) (m : Nat) : ByteArray := if m < s.size then s.extract 0 m else s
theorem cutT_size (s : ByteArray) (m : Nat) : (cutT s m).size ≤ m := by
  unfold cutT; split
  · simp; omega
  · omega

theorem text_any (s : ByteArray) (m : Nat) (w : World) (hs : s.size ≤ maxLen) (hm : m ≤ 1000000) :
    Calls Tryz.prog 7 #[.string s, .int .i64 m] w fun e w' => e = .returned (.string (cutT s m)) ∧ w = w' := by
  unfold maxLen at hs
  by_cases h : m < s.size
  · have hc := Lib.hid (show cutT s m = s.extract 0 m from if_pos h)
    have hm' : m ≤ s.size := Nat.le_of_lt h
    have d1 : decide ((m : Int) < (s.size : Int)) = true := by simp; omega
    go_enter Tryz.func7, Tryz.ntmps7
    go_wp2
    go_ret
    exact ⟨ret_str hc.out.symm, rfl⟩
  · have hc := Lib.hid (show cutT s m = s from if_neg h)
    have d1 : decide ((m : Int) < (s.size : Int)) = false := by simp; omega
    go_enter Tryz.func7, Tryz.ntmps7
    go_wp2
    go_ret
    exact ⟨ret_str hc.out.symm, rfl⟩

end Go.Proofs.YtmfjpdlegaimlaaGreatDoor
