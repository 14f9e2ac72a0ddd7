/- The order of the names' numbers is a strict weak one. -/
import Derived.Test.YtijnekbhpdcemaaNames7
import Derived.Sort.Walk0
namespace Go.Proofs.Ytijnekbhpdcemaa
open Go.RowKit Go.Maps Go.Sort
set_option linter.unusedVariables false

theorem lt_cmpS (s t : ByteArray) : decide (cmpS s t < 0) = decide (s.toList < t.toList) := by
  unfold cmpS
  rw [← bytesLess_eq]
  cases Op.bytesLess s.toList t.toList with
  | true => simp
  | false => cases (s.toList == t.toList) <;> simp

theorem swo_names (L : List ByteArray) (m : Nat) : SWO (ltOf (cmpN L m)) where
  irrefl x := by
    show decide (cmpS _ _ < 0) = false
    rw [lt_cmpS, decide_eq_false_iff_not]
    exact List.lt_irrefl _
  trans x y z h1 h2 := by
    change decide (cmpS _ _ < 0) = true at h1
    change decide (cmpS _ _ < 0) = true at h2
    show decide (cmpS _ _ < 0) = true
    rw [lt_cmpS, decide_eq_true_iff] at *
    exact List.lt_trans h1 h2
  ntrans x y z h1 h2 := by
    change decide (cmpS _ _ < 0) = false at h1
    change decide (cmpS _ _ < 0) = false at h2
    show decide (cmpS _ _ < 0) = false
    rw [lt_cmpS, decide_eq_false_iff_not] at *
    rw [List.not_lt] at *
    exact List.le_trans h2 h1

end Go.Proofs.Ytijnekbhpdcemaa
