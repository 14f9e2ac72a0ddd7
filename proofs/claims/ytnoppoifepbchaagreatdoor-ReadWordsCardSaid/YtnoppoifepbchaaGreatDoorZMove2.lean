/- A word moved into another text is the same word. -/
import Derived.Test.YtnoppoifepbchaaGreatDoorZA
import Derived.Test.YtnoppoifepbchaaGreatDoorZLex8
import Derived.Test.YtnoppoifepbchaaGreatDoorZLex11
import Derived.Test.YtnoppoifepbchaaGreatDoorZLex13
import Derived.Test.YtnoppoifepbchaaGreatDoorZLex14
import Derived.Test.YtnoppoifepbchaaGreatDoorZLex16
import Derived.Test.YtnoppoifepbchaaGreatDoorZLex15
import Derived.Test.YtnoppoifepbchaaGreatDoorZLex17
import Derived.Test.YtnoppoifepbchaaGreatDoorZLex19
import Derived.Test.YtnoppoifepbchaaGreatDoorZLexWakes
namespace Go.Proofs.YtnoppoifepbchaaGreatDoor
section
open Go.RowKit
set_option linter.unusedVariables false
/-- a row of bytes of a text stands in another text -/
def Same (s t : ByteArray) (x y len : Nat) : Prop := x + len ≤ s.size ∧ y + len ≤ t.size ∧ ∀ m, m < len → gAt t (y + m) = gAt s (x + m)
theorem Same.ext {s t : ByteArray} {x y len : Nat} (h : Same s t x y len) : t.extract y (y + len) = s.extract x (x + len) := by
 apply ByteArray.ext
 apply Array.toList_inj.1
 have l1 := extract_len t (a := y) (b := y + len) h.2.1
 have l2 := extract_len s (a := x) (b := x + len) h.1
 apply List.ext_getElem
 · rw [l1, l2]; omega
 · intro m h1 h2
   have hm : m < len := by rw [l1] at h1; omega
   have e1 := extract_getD t (x := y) (e := y + len) (m := m) h.2.1 (by omega)
   have e2 := extract_getD s (x := x) (e := x + len) (m := m) h.1 (by omega)
   rw [List.getD_eq_getElem?_getD, List.getElem?_eq_getElem h1] at e1
   rw [List.getD_eq_getElem?_getD, List.getElem?_eq_getElem h2] at e2
   simp only [Option.getD_some] at e1 e2
   have := h.2.2 m hm
   exact UInt8.toNat_inj.1 (by omega)

end
section
open Go.RowKit
set_option linter.unusedVariables false
end
end Go.Proofs.YtnoppoifepbchaaGreatDoor
