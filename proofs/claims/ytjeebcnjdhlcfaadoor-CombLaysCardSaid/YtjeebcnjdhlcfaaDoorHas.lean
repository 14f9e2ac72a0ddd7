/- z.Has, z.Within. -/
import Derived.Test.YtjeebcnjdhlcfaaDoorChecked
import Derived.Test.YtjeebcnjdhlcfaaDoorApp
namespace Go.Proofs.YtjeebcnjdhlcfaaDoor
open Go.RowKit
set_option linter.unusedVariables false

theorem has_snoc {l : List Int} {x : Int} {k : Nat} (h : ∀ j, j < k → l.getD j 0 ≠ x) (hk : l.length ≤ k) : decide (x ∈ l) = false := by
  rw [decide_eq_false_iff_not]
  intro hc
  obtain ⟨i, hi, rfl⟩ := List.getElem_of_mem hc
  exact h i (by omega) (by rw [List.getD_eq_getElem?_getD, List.getElem?_eq_getElem hi]; rfl)
theorem has_here {l : List Int} {x : Int} {k : Nat} (hk : k < l.length) (h : l.getD k 0 = x) : decide (x ∈ l) = true := by
  rw [decide_eq_true_iff, ← h, List.getD_eq_getElem?_getD, List.getElem?_eq_getElem hk]
  exact List.getElem_mem hk
theorem zhas_any (v : Value) (l : List Int) (x : Int) (w : World) (h : IntsV w v l) :
    Calls Tryd.prog 18 #[v, .int .i64 x] w fun e w' => e = .returned (.bool (decide (x ∈ l))) ∧ w = w' := by
  obtain ⟨a, n, c, rfl, hn, hnc, hc, hx⟩ := h.open
  clear h
  go_enter Tryd.func18, Tryd.ntmps18
  go_wp2
  go_loop [5] (fun i => ∃ k : Nat, k ≤ n ∧ i = .int .i64 k ∧ Hid (∀ j, j < k → l.getD j 0 ≠ x)) (fun i => n - (intOf i).toNat)
  case atStart => exact ⟨0, Nat.zero_le _, rfl, Lib.hid (fun j hj => absurd hj (Nat.not_lt_zero _))⟩
  case round =>
    obtain ⟨k, hk, rfl, hp⟩ := hrel
    by_cases hlt : k < n
    · obtain ⟨b, o, rfl, c1⟩ := hx.out k hlt
      by_cases he : l.getD k 0 = x
      · have HE := Lib.hid (has_here (by have := hn.out; omega) he)
        have h1 : (l.getD k 0 == x) = true := by rw [beq_iff_eq]; exact he
        clear he
        generalize l.getD k 0 = y at c1 h1
        go_wp2
        go_ret
        exact ⟨ret_bool HE.out.symm, rfl⟩
      · have HE := Lib.hid he
        have h1 : (l.getD k 0 == x) = false := by rw [beq_eq_false_iff_ne]; exact he
        clear he
        generalize hy : l.getD k 0 = y at c1 h1 HE
        have HY := Lib.hid hy
        clear hy
        go_wp2
        go_round
        case rel => exact ⟨k + 1, by omega, by go_num, Lib.hid (fun j hj => by
          by_cases e : j = k
          · subst e; rw [HY.out]; exact HE.out
          · exact hp.out j (by omega))⟩
        case measure => simp [intOf]; omega
    · go_wp2
      go_ret
      exact ⟨ret_bool (has_snoc hp.out (by have := hn.out; omega)).symm, rfl⟩

theorem tmod_emod (i : Int) (n : Nat) (hn : 0 < n) : (if Int.tmod i n < 0 then Int.tmod i n + n else Int.tmod i n) = i % n := by
  have h := Int.emod_nonneg i (show (n : Int) ≠ 0 by omega)
  by_cases h0 : 0 ≤ i
  · rw [Int.tmod_eq_emod_of_nonneg h0, if_neg (by omega)]
  · rw [Int.tmod_eq_emod]
    split <;> rename_i h1
    · rcases h1 with h1 | h1
      · omega
      · have : i % n = 0 := Int.emod_eq_zero_of_dvd h1
        rw [this]
        simp
    · have h2 := Int.emod_lt_of_pos i (show (0 : Int) < n by omega)
      have e : ((n : Int).natAbs : Int) = n := by omega
      rw [e, if_pos (by omega)]; omega

set_option maxRecDepth 100000 in
theorem within_any (i : Int) (n : Nat) (w : World) (hi : (Lit.int .i64 i).wf = true) (hn : 0 < n) (hn2 : n ≤ 1000000) :
    Calls Tryd.prog 17 #[.int .i64 i, .int .i64 n] w fun e w' => e = .returned (.int .i64 (i % n)) ∧ w = w' := by
  have hw : -9223372036854775808 ≤ i ∧ i ≤ 9223372036854775807 := by simpa [Lit.wf, IntKind.min, IntKind.max, IntKind.signed, IntKind.bits] using hi
  have HM := Lib.hid (tmod_emod i n hn)
  have hl : -1000000 ≤ Int.tmod i n ∧ Int.tmod i n ≤ 1000000 := by
    have h := tmod_emod i n hn
    have h1 := Int.emod_nonneg i (show (n : Int) ≠ 0 by omega)
    have h2 := Int.emod_lt_of_pos i (show (0 : Int) < n by omega)
    split at h <;> omega
  obtain ⟨l1, l2⟩ := hl
  go_enter Tryd.func17, Tryd.ntmps17
  go_wp2
  all_goals
    go_ret
    exact ⟨ret_int (by have e := HM.out; grind), rfl⟩

end Go.Proofs.YtjeebcnjdhlcfaaDoor
