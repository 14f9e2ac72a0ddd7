/- The pair of a number. -/
import Derived.Test.YtijnekbhpdcemaaDoorPairs
import Derived.Outline
namespace Go.Proofs.YtijnekbhpdcemaaDoor
open Go.RowKit
set_option linter.unusedVariables false

def IsSum (k : Int) (s : Nat) : Prop := s ≤ 1998 ∧ (tri s : Int) ≤ k ∧ k < (tri (s + 1) : Int)
theorem isSum_one {k : Int} {s t : Nat} (h : IsSum k s) (h' : IsSum k t) : s = t := by
  rcases Nat.lt_trichotomy s t with hl | hl | hl
  · have := tri_mono (show s + 1 ≤ t from hl); have := h.2.2; have := h'.2.1; omega
  · exact hl
  · have := tri_mono (show t + 1 ≤ s from hl); have := h'.2.2; have := h.2.1; omega

def UnpairIs (k i j : Int) : Prop :=
  (¬ (0 ≤ k ∧ k ≤ 1998000) ∧ i = -1 ∧ j = -1) ∨
  ((0 ≤ k ∧ k ≤ 1998000) ∧ ∃ s : Nat, IsSum k s ∧ ((k - tri s ≤ 999 ∧ (s : Int) - (k - tri s) ≤ 999 ∧ i = k - tri s ∧ j = (s : Int) - (k - tri s)) ∨ (¬ (k - tri s ≤ 999 ∧ (s : Int) - (k - tri s) ≤ 999) ∧ i = -1 ∧ j = -1)))

theorem unpair_one {k a b c d : Int} (h : UnpairIs k a b) (h' : UnpairIs k c d) : a = c ∧ b = d := by
  rcases h with ⟨h1, rfl, rfl⟩ | ⟨h1, s, hs, h⟩
  · rcases h' with ⟨_, rfl, rfl⟩ | ⟨h2, _⟩
    · exact ⟨rfl, rfl⟩
    · exact absurd h2 h1
  · rcases h' with ⟨h2, _⟩ | ⟨_, t, ht, h'⟩
    · exact absurd h1 h2
    · obtain rfl := isSum_one hs ht
      omega

theorem sum_le {k : Int} {s : Nat} (h : IsSum k s) : k - tri s ≤ s := by
  have := h.2.2; simp only [tri] at this; omega

theorem closure_any (B : Nat) (k : Int) (s : Nat) (w : World) (hs : s ≤ 1998) (hk : w.cell? ⟨B, 0, none⟩ = some (.int .i64 k)) :
    Calls Tryd.prog 44 #[.int .i64 s, .pointer (some ⟨B, 0, none⟩)] w fun e w' => e = .returned (.bool (decide (k < (tri (s + 1) : Int)))) ∧ ∃ n, w' = w.drewN n := by
  have ha := ahead_any (s + 1)
  rw [show ((s + 1 : Nat) : Int) = (s : Int) + 1 from by omega] at ha
  have HA := Lib.hid ha
  clear ha
  generalize tri (s + 1) = t at HA
  go_enter Tryd.func44, Tryd.ntmps44
  go_wp2_with (fail)
  go_quiet ((go_at_call 45; exact Calls.quiet_of_same ((HA.out _ (by omega)).mono fun e w' h => ⟨h.1, h.2.symm⟩)))
  go_wp2_with (fail)
  go_ret
  exact ⟨rfl, _, rfl⟩

theorem search_any (B : Nat) (k : Int) (w : World) (h0 : 0 ≤ k ∧ k ≤ 1998000) (hk : w.cell? ⟨B, 0, none⟩ = some (.int .i64 k)) :
    Calls Tryd.prog 43 #[.int .i64 1998, .func (.func 44) #[] #[.pointer (some ⟨B, 0, none⟩)]] w fun e w' => (∃ s : Nat, e = .returned (.int .i64 s) ∧ IsSum k s) ∧ ∃ n, w' = w.drewN n := by
  have H0 := Lib.hid h0
  clear h0
  go_enter Tryd.func43, Tryd.ntmps43
  go_wp2_with (fail)
  go_loopw [5, 6, 7] (fun l h x wr => ∃ lo hi n : Nat, l = .int .i64 lo ∧ h = .int .i64 hi ∧ lo ≤ hi ∧ hi ≤ 1998 ∧ wr = w.drewN n ∧ Hid ((tri lo : Int) ≤ k ∧ k < (tri (hi + 1) : Int))) (fun l h _ _ => (intOf h - intOf l).toNat)
  case atStart =>
    refine ⟨0, 1998, 0, rfl, rfl, by omega, by omega, rfl, Lib.hid ⟨by simp [tri]; exact H0.out.1, ?_⟩⟩
    have := two_tri 1999
    have h2 : tri (1998 + 1) = 1999000 := by show tri 1999 = _; omega
    rw [h2]; have := H0.out; omega
  case round =>
    obtain ⟨lo, hi, n, rfl, rfl, hle, hhi, rfl, hb⟩ := hrel
    by_cases hlt : lo < hi
    · have hc := closure_any B k ((lo + hi) / 2) (w.drewN n) (by omega) (by simpa using hk)
      rw [show (((lo + hi) / 2 : Nat) : Int) = ((lo : Int) + (hi : Int)) / 2 by omega] at hc
      have HC := Lib.hid hc
      clear hc
      by_cases hp : k < (tri ((lo + hi) / 2 + 1) : Int)
      · have HP := Lib.hid hp
        clear hp
        go_wp2_with (fail)
        refine HC.out.mono ?_
        rintro e w1 ⟨rfl, m, rfl⟩
        rw [show decide (k < (tri ((lo + hi) / 2 + 1) : Int)) = true from decide_eq_true HP.out]
        go_wp2_with (fail)
        go_roundw
        case rel => exact ⟨lo, (lo + hi) / 2, n + m, rfl, by go_num, by omega, by omega, rfl, Lib.hid ⟨hb.out.1, HP.out⟩⟩
        case measure => simp [intOf]; omega
      · have HP := Lib.hid hp
        clear hp
        go_wp2_with (fail)
        refine HC.out.mono ?_
        rintro e w1 ⟨rfl, m, rfl⟩
        rw [show decide (k < (tri ((lo + hi) / 2 + 1) : Int)) = false from decide_eq_false (by have := HP.out; omega)]
        go_wp2_with (fail)
        go_roundw
        case rel => exact ⟨(lo + hi) / 2 + 1, hi, n + m, by go_num, rfl, by omega, by omega, rfl, Lib.hid ⟨by have := HP.out; omega, hb.out.2⟩⟩
        case measure => simp [intOf]; omega
    · obtain rfl : lo = hi := by omega
      go_wp2_with (fail)
      go_ret
      exact ⟨⟨lo, rfl, hhi, hb.out⟩, n, rfl⟩

theorem unpair_any (k : Int) (w : World) :
    Calls Tryd.prog 27 #[.int .i64 k] w fun e w' => (∃ i j : Int, e = .returned (.tuple #[.int .i64 i, .int .i64 j]) ∧ UnpairIs k i j) ∧ Below w.heap.size w w' := by
  by_cases h : 0 ≤ k ∧ k ≤ 1998000
  · go_enter Tryd.func27, Tryd.ntmps27
    go_wp2_with (fail)
    refine (search_any w.heap.size k _ h (by simp)).mono ?_
    rintro e w1 ⟨⟨s, rfl, hs⟩, n, hw1⟩
    have hb1 : Below w.heap.size w w1 := by rw [hw1]; exact ⟨rfl, rfl, rfl, by simp, fun b hb => by simp [Below.heap_alloc _ _ _ hb]⟩
    have hc1 : w1.cell? ⟨w.heap.size, 0, none⟩ = some (.int .i64 k) := by rw [hw1]; simp
    clear hw1
    have ht := tri_le (s := s) (by have := hs.1; omega)
    have h1 := hs.2.1; have h2 := sum_le hs; have h3 := hs.1
    have HS := Lib.hid hs
    clear hs
    have ha := ahead_any s
    have HA := Lib.hid ha
    clear ha
    generalize hg : tri s = t at ht h1 h2 HA
    have HG := Lib.hid hg
    clear hg
    go_wp2_with (fail)
    go_quiet ((go_at_call 45; exact Calls.quiet_of_same ((HA.out _ (by omega)).mono fun e w' h => ⟨h.1, h.2.symm⟩)))
    by_cases hi : k - t ≤ 999
    · go_wp2_with (fail)
      refine (inPair_any _ _).mono ?_
      rintro e w1 ⟨rfl, rfl⟩
      rw [show decide (0 ≤ k - (t : Int) ∧ k - (t : Int) ≤ 999) = true by simp; omega]
      by_cases hj : (s : Int) - (k - t) ≤ 999
      · go_wp2_with (fail)
        refine (inPair_any _ _).mono ?_
        rintro e w1 ⟨rfl, rfl⟩
        rw [show decide (0 ≤ (s : Int) - (k - (t : Int)) ∧ (s : Int) - (k - (t : Int)) ≤ 999) = true by simp; omega]
        go_wp2_with (fail)
        go_ret2
        exact ⟨⟨_, _, rfl, .inr ⟨h, s, HS.out, .inl (by rw [HG.out]; exact ⟨hi, hj, rfl, rfl⟩)⟩⟩, hb1.trans ⟨rfl, rfl, rfl, Nat.le_refl _, fun b hb => rfl⟩⟩
      · go_wp2_with (fail)
        refine (inPair_any _ _).mono ?_
        rintro e w1 ⟨rfl, rfl⟩
        rw [show decide (0 ≤ (s : Int) - (k - (t : Int)) ∧ (s : Int) - (k - (t : Int)) ≤ 999) = false by simp; omega]
        go_wp2_with (fail)
        go_ret2
        exact ⟨⟨_, _, rfl, .inr ⟨h, s, HS.out, .inr (by rw [HG.out]; exact ⟨by omega, rfl, rfl⟩)⟩⟩, hb1.trans ⟨rfl, rfl, rfl, Nat.le_refl _, fun b hb => rfl⟩⟩
    · go_wp2_with (fail)
      refine (inPair_any _ _).mono ?_
      rintro e w1 ⟨rfl, rfl⟩
      rw [show decide (0 ≤ k - (t : Int) ∧ k - (t : Int) ≤ 999) = false by simp; omega]
      go_wp2_with (fail)
      go_ret2
      exact ⟨⟨_, _, rfl, .inr ⟨h, s, HS.out, .inr (by rw [HG.out]; exact ⟨by omega, rfl, rfl⟩)⟩⟩, hb1.trans ⟨rfl, rfl, rfl, Nat.le_refl _, fun b hb => rfl⟩⟩
  · go_enter Tryd.func27, Tryd.ntmps27
    go_wp2_with (fail)
    all_goals go_ret2
    all_goals exact ⟨⟨_, _, rfl, .inl ⟨h, rfl, rfl⟩⟩, (Below.refl _ _).alloc (Nat.le_refl _) _⟩

end Go.Proofs.YtijnekbhpdcemaaDoor
