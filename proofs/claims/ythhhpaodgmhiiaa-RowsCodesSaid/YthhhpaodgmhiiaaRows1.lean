/- rows.Code and rows.Act: what they tell. -/
import Derived.Test.YthhhpaodgmhiiaaRows
import Derived.Test.YthhhpaodgmhiiaaApp
namespace Go.Proofs.Ythhhpaodgmhiiaa
open Go.RowKit
set_option linter.unusedVariables false

theorem tmod_emod (i : Int) (n : Nat) (hn : 0 < n) : i % n = if Int.tmod i n < 0 then Int.tmod i n + n else Int.tmod i n := by
  have h := Int.tmod_eq_emod (a := i) (b := (n : Int))
  have h1 := Int.emod_nonneg i (show (n : Int) ≠ 0 by omega)
  have h2 := Int.emod_lt_of_pos i (show (0 : Int) < n by omega)
  split at h
  · rw [h, if_neg (by omega)]; omega
  · have e : Int.tmod i n = i % n - n := by simpa using h
    rw [e, if_pos (by omega)]; omega

set_option maxRecDepth 100000 in
theorem within_any (i : Int) (n : Nat) (w : World) (hi : (Lit.int .i64 i).wf = true) (hn : 0 < n) (hn2 : n ≤ 1000000) :
    Calls Try.prog 6 #[.int .i64 i, .int .i64 n] w fun e w' => e = .returned (.int .i64 (i % n)) ∧ w = w' := by
  have hw : -9223372036854775808 ≤ i ∧ i ≤ 9223372036854775807 := by simpa [Lit.wf, IntKind.min, IntKind.max, IntKind.signed, IntKind.bits] using hi
  have HM := Lib.hid (tmod_emod i n hn)
  have hl : -1000000 ≤ Int.tmod i n ∧ Int.tmod i n ≤ 1000000 := by
    have h := tmod_emod i n hn
    have h1 := Int.emod_nonneg i (show (n : Int) ≠ 0 by omega)
    have h2 := Int.emod_lt_of_pos i (show (0 : Int) < n by omega)
    split at h <;> omega
  obtain ⟨l1, l2⟩ := hl
  go_enter Try.func6, Try.ntmps6
  go_wp2
  all_goals
    go_ret
    exact ⟨ret_int (by have e := HM.out; grind), rfl⟩

/-- the act of a number -/
def ActIs (n k m : Int) : Prop := (1 ≤ n ∧ n ≤ 20000 ∧ k = 1 ∧ m = n - 1) ∨ (n ≤ -1 ∧ -19999 ≤ n ∧ k = 2 ∧ m = -n) ∨ (n = 20001 ∧ k = 3 ∧ m = 0) ∨ (n = 20002 ∧ k = 4 ∧ m = 0) ∨ ((n < -19999 ∨ n = 0 ∨ 20002 < n) ∧ k = 0 ∧ m = 0)
/-- the number of an act -/
def CodeIs (k n c : Int) : Prop := (k = 1 ∧ 0 ≤ n ∧ n ≤ 19999 ∧ c = n + 1) ∨ (k = 2 ∧ 1 ≤ n ∧ n ≤ 19999 ∧ c = -n) ∨ (k = 3 ∧ n = 0 ∧ c = 20001) ∨ (k = 4 ∧ n = 0 ∧ c = 20002) ∨
  (¬ (k = 1 ∧ 0 ≤ n ∧ n ≤ 19999) ∧ ¬ (k = 2 ∧ 1 ≤ n ∧ n ≤ 19999) ∧ ¬ (k = 3 ∧ n = 0) ∧ ¬ (k = 4 ∧ n = 0) ∧ c = 0)

theorem actInfo : (Try.prog.info? 23).map (·.size) = some 2 := by kernel_rfl
set_option maxRecDepth 100000 in
theorem act_any (n : Int) (w : World) (hn : (Lit.int .i64 n).wf = true) :
    Calls Try.prog 9 #[.int .i64 n] w fun e w' => (∃ k m, e = .returned (.agg #[.int .i64 k, .int .i64 m]) ∧ ActIs n k m) ∧ Below w.heap.size w w' := by
  have hw : -9223372036854775808 ≤ n ∧ n ≤ 9223372036854775807 := by simpa [Lit.wf, IntKind.min, IntKind.max, IntKind.signed, IntKind.bits] using hn
  clear hn
  go_enter Try.func9, Try.ntmps9
  go_wp2_with fail
  all_goals
    refine bodyPost_ret (v := .agg #[_, _]) (results_cell_row rfl _ _ w.heap.size 23 #[_, _] (0, 0) _ rfl (heap_alloc_new w _) Try.underlying23 rfl actInfo) rfl ⟨⟨_, _, rfl, ?_⟩, (Below.refl _ w).alloc (Nat.le_refl _) _⟩
    try simp only [beq_iff_eq, beq_eq_false_iff_ne] at *
    unfold ActIs
    omega

set_option maxRecDepth 100000 in
theorem code_any (k n : Int) (w : World) (hk : (Lit.int .i64 k).wf = true) (hn : (Lit.int .i64 n).wf = true) :
    Calls Try.prog 7 #[.agg #[.int .i64 k, .int .i64 n]] w fun e w' => (∃ c, e = .returned (.int .i64 c) ∧ CodeIs k n c) ∧ Below w.heap.size w w' := by
  have hw : -9223372036854775808 ≤ n ∧ n ≤ 9223372036854775807 := by simpa [Lit.wf, IntKind.min, IntKind.max, IntKind.signed, IntKind.bits] using hn
  have hw2 : -9223372036854775808 ≤ k ∧ k ≤ 9223372036854775807 := by simpa [Lit.wf, IntKind.min, IntKind.max, IntKind.signed, IntKind.bits] using hk
  clear hn hk
  go_enter Try.func7, Try.ntmps7
  go_wp2_with fail
  all_goals
    go_ret
    refine ⟨⟨_, rfl, ?_⟩, (Below.refl _ w).alloc (Nat.le_refl _) _⟩
    try simp only [beq_iff_eq, beq_eq_false_iff_ne] at *
    unfold CodeIs
    omega
end Go.Proofs.Ythhhpaodgmhiiaa
