/- Symbols, parts, alternatives: are they the same? The document's. -/
import Derived.Test.YtnoppoifepbchaaGreatDoorChecked
import Derived.Test.YtnoppoifepbchaaGreatDoorSrcA
import Derived.Deep.QuietTactic
namespace Go.Proofs.YtnoppoifepbchaaGreatDoor
open Go.RowKit
set_option linter.unusedVariables false
set_option linter.unusedSimpArgs false

def Sm.same (a b : Sm) : Bool := (a.name.toList == b.name.toList) && ((a.lit == b.lit) && (a.num == b.num))
def Pt.same (a b : Pt) : Bool := (a.code.toList == b.code.toList) && a.sym.same b.sym
def Al.same (a b : Al) : Bool := a.prec.same b.prec && eqL Pt.same a.parts b.parts

set_option maxRecDepth 100000 in
theorem eqSym_any (a b : Sm) (w : World) : Calls Tryz.prog 49 #[a.agg, b.agg] w fun e w' => e = .returned (.bool (a.same b)) ∧ Below w.heap.size w w' := by
 have HR : Hid (a.same b = ((a.name.toList == b.name.toList) && ((a.lit == b.lit) && (a.num == b.num)))) := Lib.hid rfl
 generalize a.same b = R at HR ⊢
 obtain ⟨n, l, m, p⟩ := a
 obtain ⟨n', l', m', p'⟩ := b
 unfold Sm.agg
 simp only at HR ⊢
 go_enter Tryz.func49, Tryz.ntmps49
 cases h1 : (n.toList == n'.toList) with
 | false =>
   go_wp2_with fail
   go_ret
   exact ⟨ret_bool (by rw [HR.out, h1]; rfl), ((Below.refl _ _).alloc (Nat.le_refl _) _).alloc (by simp) _⟩
 | true =>
   cases h2 : (l == l') with
   | false =>
     go_wp2_with fail
     go_ret
     exact ⟨ret_bool (by rw [HR.out, h1, h2]; rfl), ((Below.refl _ _).alloc (Nat.le_refl _) _).alloc (by simp) _⟩
   | true =>
     go_wp2_with fail
     go_ret
     exact ⟨ret_bool (by rw [HR.out, h1, h2]; rfl), ((Below.refl _ _).alloc (Nat.le_refl _) _).alloc (by simp) _⟩
end Go.Proofs.YtnoppoifepbchaaGreatDoor
