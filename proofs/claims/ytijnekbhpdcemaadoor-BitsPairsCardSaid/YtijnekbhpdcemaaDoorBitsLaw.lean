/- The walks of the laws on pairs. -/
import Derived.Test.YtijnekbhpdcemaaDoorBitsWakes
import Derived.Outline
namespace Go.Proofs.YtijnekbhpdcemaaDoor
open Go.RowKit
set_option linter.unusedVariables false

set_option maxRecDepth 100000 in
theorem runpair_any (k : Int) (w : World) :
    Calls Tryd.prog 28 #[.int .i64 k] w fun e w' => (∃ i j : Int, e = .returned (.tuple #[.int .i64 i, .int .i64 j]) ∧ UnpairIs k i j) ∧ w = w' := by
  by_cases h : 0 ≤ k ∧ k ≤ 1998000
  · go_enter Tryd.func28, Tryd.ntmps28
    have d1 : decide (k < 0) = false := by simp; omega
    have d2 : decide (1998000 < k) = false := by simp; omega
    go_wp2_with (fail)
    go_loop [4] (fun x => ∃ s : Nat, s ≤ 1998 ∧ x = .int .i64 s ∧ (tri s : Int) ≤ k) (fun x => 2000 - (intOf x).toNat)
    case atStart => exact ⟨0, by omega, rfl, h.1⟩
    case round =>
      obtain ⟨s, hs, rfl, ht⟩ := hrel
      have hb := tri_le (s := s + 1) (by omega)
      have H2 := Lib.hid (tri_int (s + 1))
      have H1 := Lib.hid (tri_int s)
      have h2 : 0 ≤ ((s : Int) + 1) * ((s : Int) + 2) := by have := H2.out; push_cast at this; rw [show (s : Int) + 2 = (s : Int) + 1 + 1 by omega, this]; omega
      have h3 : ((s : Int) + 1) * ((s : Int) + 2) ≤ 1000000000 := by have := H2.out; push_cast at this; rw [show (s : Int) + 2 = (s : Int) + 1 + 1 by omega, this]; omega
      have h4 : 0 ≤ (s : Int) * ((s : Int) + 1) := by rw [H1.out]; omega
      have h5 : (s : Int) * ((s : Int) + 1) ≤ 1000000000 := by rw [H1.out]; have := tri_le (s := s) (by omega); omega
      have e1 : Hid (((s : Int) + 1) * ((s : Int) + 2) / 2 = (tri (s + 1) : Int)) := Lib.hid (by have := H2.out; push_cast at this; rw [show (s : Int) + 2 = (s : Int) + 1 + 1 by omega, this]; omega)
      have e2 : Hid ((s : Int) * ((s : Int) + 1) / 2 = (tri s : Int)) := Lib.hid (by rw [H1.out]; omega)
      by_cases hp : (tri (s + 1) : Int) ≤ k
      · have hp' : ((s : Int) + 1) * ((s : Int) + 2) / 2 ≤ k := by rw [e1.out]; exact hp
        have hs2 : s + 1 ≤ 1998 := by
          have h9 : tri 1999 = 1999000 := by have := two_tri 1999; omega
          rcases Nat.lt_or_ge (s + 1) 1999 with h8 | h8
          · omega
          · have := tri_mono h8; omega
        have HP := Lib.hid hp
        clear hp hb
        go_wp2_with (fail)
        go_round
        case rel => exact ⟨s + 1, hs2, by go_num, HP.out⟩
        case measure => simp [intOf]; omega
      · have hp' : ¬ ((s : Int) + 1) * ((s : Int) + 2) / 2 ≤ k := by rw [e1.out]; exact hp
        have hS : IsSum k s := ⟨hs, ht, by omega⟩
        have hle := sum_le hS
        have HS := Lib.hid hS
        have ee := e2.out
        clear hS hp hb e2 e1 H1 H2
        generalize hg : tri s = t at ht hle ee
        have HG := Lib.hid hg
        clear hg
        by_cases c1 : k - (t : Int) ≤ 999
        · by_cases c2 : (s : Int) - (k - (t : Int)) ≤ 999
          · have hfin : Hid (UnpairIs k (k - (t : Int)) ((s : Int) - (k - (t : Int)))) := Lib.hid (.inr ⟨h, s, HS.out, .inl (by rw [HG.out]; exact ⟨c1, c2, rfl, rfl⟩)⟩)
            have f1 : decide (999 < k - (t : Int)) = false := by simp; omega
            have f2 : decide (999 < (s : Int) - (k - (t : Int))) = false := by simp; omega
            clear c1 c2 hle ht
            go_wp2_with (fail)
            go_ret2
            exact ⟨⟨_, _, rfl, hfin.out⟩, rfl⟩
          · have hfin : Hid (UnpairIs k (-1) (-1)) := Lib.hid (.inr ⟨h, s, HS.out, .inr (by rw [HG.out]; exact ⟨fun hh => c2 hh.2, rfl, rfl⟩)⟩)
            have f1 : decide (999 < k - (t : Int)) = false := by simp; omega
            have f2 : decide (999 < (s : Int) - (k - (t : Int))) = true := by simp; omega
            clear c1 c2
            go_wp2_with (fail)
            go_ret2
            exact ⟨⟨_, _, rfl, hfin.out⟩, rfl⟩
        · have hfin : Hid (UnpairIs k (-1) (-1)) := Lib.hid (.inr ⟨h, s, HS.out, .inr (by rw [HG.out]; exact ⟨fun hh => c1 hh.1, rfl, rfl⟩)⟩)
          go_wp2_with (fail)
          go_ret2
          exact ⟨⟨_, _, rfl, hfin.out⟩, rfl⟩
  · go_enter Tryd.func28, Tryd.ntmps28
    go_wp2_with (fail)
    all_goals go_ret2
    all_goals exact ⟨⟨_, _, rfl, .inl ⟨h, rfl, rfl⟩⟩, rfl⟩

theorem bitsPairs_walk (i j k : Int) (w0 : (Lit.int .i64 i).wf = true) (w1 : (Lit.int .i64 j).wf = true) (w2 : (Lit.int .i64 k).wf = true) (w : World) (hT : TabAt 0 Lib.deBruijn64tab w) :
    Calls Tryd.prog 6 #[.int .i64 i, .int .i64 j, .int .i64 k] w fun e w' => e = .returned (.bool true) ∧ Below w.heap.size w w' := by
  have HT := Lib.hid hT
  clear hT w0 w1 w2
  go_enter Tryd.func6, Tryd.ntmps6
  go_wp2_with fail
  refine (bitsWakes_any _ HT.out).mono ?_
  rintro e w1 ⟨rfl, hb1⟩
  go_wp2_with fail
  refine (unpair_any _ _).mono ?_
  rintro e w2 ⟨⟨a, b, rfl, hab⟩, hb2⟩
  go_wp2_with fail
  refine (runpair_any _ _).mono ?_
  rintro e w3 ⟨⟨c, d, rfl, hcd⟩, rfl⟩
  obtain ⟨rfl, rfl⟩ := unpair_one hab hcd
  go_wp2_with fail
  refine (pair_any _ _ _).mono ?_
  rintro e w3 ⟨rfl, rfl⟩
  go_wp2_with fail
  refine (rpair_any _ _ _).mono ?_
  rintro e w3 ⟨rfl, rfl⟩
  go_wp2_with fail
  go_ret
  exact ⟨rfl, hb1.trans (hb2.mono hb1.size)⟩

theorem unpair_pair {i j : Int} (hi : 0 ≤ i ∧ i ≤ 999) (hj : 0 ≤ j ∧ j ≤ 999) {a b : Int} (h : UnpairIs (pairS i j) a b) : a = i ∧ b = j := by
  obtain ⟨m, rfl⟩ := Int.eq_ofNat_of_zero_le hi.1
  obtain ⟨n, rfl⟩ := Int.eq_ofNat_of_zero_le hj.1
  have hp : pairS m n = (tri (m + n) : Int) + m := by unfold pairS; rw [if_pos ⟨hi.1, hi.2, hj.1, hj.2⟩]; rfl
  have ht : tri (m + n) ≤ 1997001 := by
    have h1 := tri_mono (show m + n ≤ 1998 by omega)
    have h2 : tri 1998 = 1997001 := by have := two_tri 1998; omega
    omega
  rw [hp] at h
  refine unpair_one h (.inr ⟨by omega, m + n, ⟨by omega, by omega, ?_⟩, .inl (by omega)⟩)
  simp only [tri]; omega

theorem pair_next {i j : Int} (hi : 0 ≤ i ∧ i ≤ 999) (hj : 0 ≤ j ∧ j ≤ 999) (h1 : i ≠ 999) (h2 : j ≠ 0) : pairS (i + 1) (j - 1) = pairS i j + 1 := by
  unfold pairS
  rw [if_pos (by omega), if_pos (by omega)]
  have e : (i + 1).toNat + (j - 1).toNat = i.toNat + j.toNat := by omega
  rw [e]; omega

theorem pairS_lo {i j : Int} : -1 ≤ pairS i j ∧ pairS i j ≤ 100000000 := by
  unfold pairS
  split
  · rename_i h
    have := tri_le (s := i.toNat + j.toNat) (by omega)
    omega
  · omega

theorem bitsTurns_walk (i j : Int) (w0 : (Lit.int .i64 i).wf = true) (w1 : (Lit.int .i64 j).wf = true) (w : World) (hT : TabAt 0 Lib.deBruijn64tab w) :
    Calls Tryd.prog 7 #[.int .i64 i, .int .i64 j] w fun e w' => e = .returned (.bool true) ∧ Below w.heap.size w w' := by
  have HT := Lib.hid hT
  clear hT w0 w1
  by_cases h : 0 ≤ i ∧ i ≤ 999 ∧ 0 ≤ j ∧ j ≤ 999
  · have hi : 0 ≤ i ∧ i ≤ 999 := ⟨h.1, h.2.1⟩
    have hj : 0 ≤ j ∧ j ≤ 999 := h.2.2
    obtain ⟨p, hp⟩ : ∃ p, Hid (p = pairS i j) := ⟨_, Lib.hid rfl⟩
    have hpb : -1 ≤ p ∧ p ≤ 100000000 := by rw [hp.out]; exact pairS_lo
    have b1 := hpb.1
    have b2 := hpb.2
    clear hpb
    by_cases h9 : i = 999 ∨ j = 0
    · go_enter Tryd.func7, Tryd.ntmps7
      go_wp2_with fail
      refine (bitsWakes_any _ HT.out).mono ?_
      rintro e w1 ⟨rfl, hb1⟩
      go_wp2_with fail
      refine (pair_any _ _ _).mono ?_
      rintro e w2 ⟨rfl, rfl⟩
      rw [← hp.out]
      go_wp2_with fail
      refine (unpair_any _ _).mono ?_
      rintro e w2 ⟨⟨a, b, rfl, hab⟩, hb2⟩
      obtain ⟨rfl, rfl⟩ := unpair_pair hi hj (by rw [← hp.out]; exact hab)
      rcases h9 with h9 | h9
      · have g9 : (a == 999) = true := by rw [beq_iff_eq]; exact h9
        clear h9 h hi hj
        go_wp2_with fail
        go_ret
        exact ⟨rfl, hb1.trans (hb2.mono hb1.size)⟩
      · have g9 : (b == 0) = true := by rw [beq_iff_eq]; exact h9
        clear h9 h hi hj
        by_cases g8 : a = 999
        · have g8' : (a == 999) = true := by rw [beq_iff_eq]; exact g8
          clear g8
          go_wp2_with fail
          go_ret
          exact ⟨rfl, hb1.trans (hb2.mono hb1.size)⟩
        · have g8' : (a == 999) = false := by rw [beq_eq_false_iff_ne]; exact g8
          clear g8
          go_wp2_with fail
          go_ret
          exact ⟨rfl, hb1.trans (hb2.mono hb1.size)⟩
    · have hn : Hid (pairS (i + 1) (j - 1) = p + 1) := Lib.hid (by rw [hp.out]; exact pair_next hi hj (fun e => h9 (.inl e)) (fun e => h9 (.inr e)))
      have g9 : (i == 999) = false := by rw [beq_eq_false_iff_ne]; exact fun e => h9 (.inl e)
      have g8 : (j == 0) = false := by rw [beq_eq_false_iff_ne]; exact fun e => h9 (.inr e)
      clear h9
      go_enter Tryd.func7, Tryd.ntmps7
      go_wp2_with fail
      refine (bitsWakes_any _ HT.out).mono ?_
      rintro e w1 ⟨rfl, hb1⟩
      go_wp2_with fail
      refine (pair_any _ _ _).mono ?_
      rintro e w2 ⟨rfl, rfl⟩
      rw [← hp.out]
      go_wp2_with fail
      refine (unpair_any _ _).mono ?_
      rintro e w2 ⟨⟨a, b, rfl, hab⟩, hb2⟩
      obtain ⟨rfl, rfl⟩ := unpair_pair hi hj (by rw [← hp.out]; exact hab)
      go_wp2_with fail
      refine (pair_any _ _ _).mono ?_
      rintro e w3 ⟨rfl, rfl⟩
      rw [hn.out]
      go_wp2_with fail
      refine (pair_any _ _ _).mono ?_
      rintro e w3 ⟨rfl, rfl⟩
      rw [← hp.out]
      go_wp2_with fail
      go_ret
      exact ⟨ret_bool (by simp), hb1.trans (hb2.mono hb1.size)⟩
  · have hp : Hid (pairS i j = -1) := Lib.hid (by unfold pairS; rw [if_neg h])
    go_enter Tryd.func7, Tryd.ntmps7
    go_wp2_with fail
    refine (bitsWakes_any _ HT.out).mono ?_
    rintro e w1 ⟨rfl, hb1⟩
    go_wp2_with fail
    all_goals refine (pair_any _ _ _).mono ?_
    all_goals rintro e w3 ⟨rfl, rfl⟩
    all_goals rw [hp.out]
    all_goals go_wp2_with fail
    all_goals go_ret
    all_goals exact ⟨rfl, hb1⟩

end Go.Proofs.YtijnekbhpdcemaaDoor
