/- cmp.Compare of strings. -/
import Derived.Test.YtijnekbhpdcemaaNames4
namespace Go.Proofs.Ytijnekbhpdcemaa
open Go.RowKit Go.Maps
set_option linter.unusedVariables false

/-- which of two names comes first -/
def cmpS (s t : ByteArray) : Int := if Op.bytesLess s.toList t.toList then -1 else if s.toList == t.toList then 0 else 1

theorem isNaN_any (s : ByteArray) (w : World) :
    Calls Try.prog 22 #[.string s] w fun e w' => e = .returned (.bool false) ∧ w = w' := by
  go_enter Try.func22, Try.ntmps22
  go_wp2
  go_ret
  exact ⟨ret_bool (by simp), rfl⟩

theorem compare_any (s t : ByteArray) (w : World) :
    Calls Try.prog 19 #[.string s, .string t] w fun e w' => e = .returned (.int .i64 (cmpS s t)) ∧ w = w' := by
  cases h1 : Op.bytesLess s.toList t.toList with
  | true =>
    have hc := Lib.hid (show cmpS s t = -1 by unfold cmpS; rw [h1]; rfl)
    go_enter Try.func19, Try.ntmps19
    go_wp2_with (first | (go_at_call 22; refine (isNaN_any _ _).mono ?_; rintro e w' ⟨rfl, rfl⟩))
    go_ret
    exact ⟨ret_int hc.out.symm, rfl⟩
  | false =>
    cases h2 : (s.toList == t.toList) with
    | false =>
      have hc := Lib.hid (show cmpS s t = 1 by unfold cmpS; rw [h1, h2]; rfl)
      go_enter Try.func19, Try.ntmps19
      go_wp2_with (first | (go_at_call 22; refine (isNaN_any _ _).mono ?_; rintro e w' ⟨rfl, rfl⟩))
      go_ret
      exact ⟨ret_int hc.out.symm, rfl⟩
    | true =>
      have hc := Lib.hid (show cmpS s t = 0 by unfold cmpS; rw [h1, h2]; rfl)
      go_enter Try.func19, Try.ntmps19
      go_wp2_with (first | (go_at_call 22; refine (isNaN_any _ _).mono ?_; rintro e w' ⟨rfl, rfl⟩))
      go_ret
      exact ⟨ret_int hc.out.symm, rfl⟩

end Go.Proofs.Ytijnekbhpdcemaa
