/- Pairs by one number. -/
import Derived.Test.YtijnekbhpdcemaaDoorChecked
import Derived.Test.YtijnekbhpdcemaaDoorBase
import Derived.Outline
namespace Go.Proofs.YtijnekbhpdcemaaDoor
open Go.RowKit
set_option linter.unusedVariables false

def tri : Nat → Nat
  | 0 => 0
  | s + 1 => tri s + (s + 1)
theorem two_tri (s : Nat) : s * (s + 1) = 2 * tri s := by
  induction s with
  | zero => rfl
  | succ n ih => simp only [tri]; grind
theorem tri_mono {a b : Nat} (h : a ≤ b) : tri a ≤ tri b := by
  induction h with
  | refl => exact Nat.le_refl _
  | step _ ih => simp only [tri]; omega
theorem tri_int (s : Nat) : (s : Int) * ((s : Int) + 1) = 2 * (tri s : Int) := by
  have := two_tri s
  have h2 : ((s * (s + 1) : Nat) : Int) = ((2 * tri s : Nat) : Int) := by rw [this]
  push_cast at h2
  exact h2
theorem tri_le {s : Nat} (h : s ≤ 5000) : tri s ≤ 12502500 := by
  have := tri_mono h
  have e : tri 5000 = 12502500 := by
    have := two_tri 5000; omega
  omega

theorem inPair_any (i : Int) (w : World) :
    Calls Tryd.prog 46 #[.int .i64 i] w fun e w' => e = .returned (.bool (decide (0 ≤ i ∧ i ≤ 999))) ∧ w = w' := by
  go_enter Tryd.func46, Tryd.ntmps46
  go_wp2
  all_goals go_ret
  all_goals exact ⟨ret_bool (by simp; try omega), rfl⟩

theorem ahead_any (s : Nat) (w : World) (hs : s ≤ 5000) :
    Calls Tryd.prog 45 #[.int .i64 s] w fun e w' => e = .returned (.int .i64 (tri s)) ∧ w = w' := by
  have H := Lib.hid (tri_int s)
  have h1 := tri_le hs
  have h2 : 0 ≤ (s : Int) * ((s : Int) + 1) := by rw [H.out]; omega
  have h3 : (s : Int) * ((s : Int) + 1) ≤ 1000000000 := by rw [H.out]; omega
  go_enter Tryd.func45, Tryd.ntmps45
  go_wp2
  go_ret
  exact ⟨ret_int (by rw [H.out]; omega), rfl⟩

def pairS (i j : Int) : Int := if 0 ≤ i ∧ i ≤ 999 ∧ 0 ≤ j ∧ j ≤ 999 then (tri (i.toNat + j.toNat) : Int) + i else -1

theorem pair_any (i j : Int) (w : World) :
    Calls Tryd.prog 29 #[.int .i64 i, .int .i64 j] w fun e w' => e = .returned (.int .i64 (pairS i j)) ∧ w = w' := by
  by_cases hi : 0 ≤ i ∧ i ≤ 999
  · by_cases hj : 0 ≤ j ∧ j ≤ 999
    · obtain ⟨a, rfl⟩ := Int.eq_ofNat_of_zero_le hi.1
      obtain ⟨b, rfl⟩ := Int.eq_ofNat_of_zero_le hj.1
      have h1 := tri_le (s := a + b) (by omega)
      have hp : Hid (pairS a b = (tri (a + b) : Int) + a) := Lib.hid (by unfold pairS; rw [if_pos ⟨hi.1, hi.2, hj.1, hj.2⟩]; rfl)
      go_enter Tryd.func29, Tryd.ntmps29
      go_wp2_with (fail)
      refine (inPair_any _ _).mono ?_
      rintro e w1 ⟨rfl, rfl⟩
      rw [show decide (0 ≤ (a : Int) ∧ (a : Int) ≤ 999) = true by simp; omega]
      go_wp2_with (fail)
      refine (inPair_any _ _).mono ?_
      rintro e w1 ⟨rfl, rfl⟩
      rw [show decide (0 ≤ (b : Int) ∧ (b : Int) ≤ 999) = true by simp; omega]
      go_wp2_with (fail)
      rw [show (a : Int) + (b : Int) = ((a + b : Nat) : Int) by omega]
      refine (ahead_any _ _ (by omega)).mono ?_
      rintro e w1 ⟨rfl, rfl⟩
      go_wp2_with (fail)
      go_ret
      exact ⟨ret_int hp.out.symm, rfl⟩
    · have hp : Hid (pairS i j = -1) := Lib.hid (by unfold pairS; rw [if_neg (by omega)])
      go_enter Tryd.func29, Tryd.ntmps29
      go_wp2_with (fail)
      refine (inPair_any _ _).mono ?_
      rintro e w1 ⟨rfl, rfl⟩
      rw [show decide (0 ≤ i ∧ i ≤ 999) = true by simp; omega]
      go_wp2_with (fail)
      refine (inPair_any _ _).mono ?_
      rintro e w1 ⟨rfl, rfl⟩
      rw [show decide (0 ≤ j ∧ j ≤ 999) = false by simp; omega]
      go_wp2_with (fail)
      go_ret
      exact ⟨ret_int hp.out.symm, rfl⟩
  · have hp : Hid (pairS i j = -1) := Lib.hid (by unfold pairS; rw [if_neg (by omega)])
    go_enter Tryd.func29, Tryd.ntmps29
    go_wp2_with (fail)
    refine (inPair_any _ _).mono ?_
    rintro e w1 ⟨rfl, rfl⟩
    rw [show decide (0 ≤ i ∧ i ≤ 999) = false by simp; omega]
    go_wp2_with (fail)
    go_ret
    exact ⟨ret_int hp.out.symm, rfl⟩

theorem rpair_any (i j : Int) (w : World) :
    Calls Tryd.prog 30 #[.int .i64 i, .int .i64 j] w fun e w' => e = .returned (.int .i64 (pairS i j)) ∧ w = w' := by
  by_cases h : 0 ≤ i ∧ i ≤ 999 ∧ 0 ≤ j ∧ j ≤ 999
  · obtain ⟨a, rfl⟩ := Int.eq_ofNat_of_zero_le h.1
    obtain ⟨b, rfl⟩ := Int.eq_ofNat_of_zero_le h.2.2.1
    have h1 := tri_le (s := a + b) (by omega)
    have H := Lib.hid (tri_int (a + b))
    have h2 : 0 ≤ ((a : Int) + (b : Int)) * ((a : Int) + (b : Int) + 1) := by have := H.out; push_cast at this; rw [this]; omega
    have h3 : ((a : Int) + (b : Int)) * ((a : Int) + (b : Int) + 1) ≤ 1000000000 := by have := H.out; push_cast at this; rw [this]; omega
    have hp : Hid (pairS a b = (tri (a + b) : Int) + a) := Lib.hid (by unfold pairS; rw [if_pos h]; rfl)
    go_enter Tryd.func30, Tryd.ntmps30
    go_wp2
    all_goals go_ret
    all_goals exact ⟨ret_int (by have := H.out; push_cast at this; rw [hp.out, this]; omega), rfl⟩
  · have hp : Hid (pairS i j = -1) := Lib.hid (by unfold pairS; rw [if_neg h])
    go_enter Tryd.func30, Tryd.ntmps30
    go_wp2
    all_goals go_ret
    all_goals exact ⟨ret_int hp.out.symm, rfl⟩

end Go.Proofs.YtijnekbhpdcemaaDoor
