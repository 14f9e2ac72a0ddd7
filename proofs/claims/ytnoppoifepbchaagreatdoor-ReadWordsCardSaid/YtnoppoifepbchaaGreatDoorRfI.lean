/- The document's reader: what stands there. Of no program. -/
import Derived.Test.YtnoppoifepbchaaGreatDoorRf1
namespace Go.Proofs.YtnoppoifepbchaaGreatDoor
set_option linter.unusedVariables false

theorem isB_open (k : Int) (x : Wd) : isB (-1) k ⟨#[]⟩ x = decide (x.kind = k) := by
 unfold isB
 have h : (⟨#[]⟩ : ByteArray).toList = [] := by decide +kernel
 rw [h]; simp
theorem isB_shut {bad : Int} (hb : 0 ≤ bad) (k : Int) (t : ByteArray) (x : Wd) : isB bad k t x = false := by
 unfold isB
 have : ¬ bad < 0 := by omega
 simp [this]
theorem symB3_open (x : Wd) : symB3 (-1) x = symB2 x := by unfold symB3; simp
theorem symB3_shut {bad : Int} (hb : 0 ≤ bad) (x : Wd) : symB3 bad x = false := by
 unfold symB3
 have : ¬ bad < 0 := by omega
 simp [this]
theorem badOr_open (p : Int) : badOr (-1) p = p := by unfold badOr; simp
theorem badOr_shut {bad : Int} (hb : 0 ≤ bad) (p : Int) : badOr bad p = bad := by
 unfold badOr
 rw [if_neg (by omega)]
/-- what may be declared is a symbol; but a byte in quotes of %type and %start -/
theorem declares_sym (k : Int) (x : Wd) : declaresB k x = (symB2 x && !(decide (x.kind = 2) && (decide (k = 5) || decide (k = 6)))) := by
 unfold declaresB symB2
 by_cases h1 : x.kind = 1
 · simp [h1]
 · by_cases h2 : x.kind = 2
   · simp [h2]
   · simp [h1, h2]
end Go.Proofs.YtnoppoifepbchaaGreatDoor
