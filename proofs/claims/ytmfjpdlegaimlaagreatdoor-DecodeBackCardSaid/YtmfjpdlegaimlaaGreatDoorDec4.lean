/- The document's numeral. -/
import Derived.Test.YtmfjpdlegaimlaaGreatDoorDec3
namespace Go.Proofs.YtmfjpdlegaimlaaGreatDoor
open Go.RowKit
set_option linter.unusedVariables false
set_option linter.unusedSimpArgs false

/-- what digits tell -/
def valR (g : Nat → Int) (i : Nat) : Nat → Int
  | 0 => 0
  | d + 1 => 10 * valR g i d + (g (i + d) - 48)
/-- how many digits are taken -/
def digN (n : Nat) (g : Nat → Int) (i : Nat) : Nat := min (digF n g i - i) 9
def numR (n : Nat) (g : Nat → Int) (i : Nat) : Int × Int :=
  if digN n g i = 0 ∨ g i = 48 ∧ 1 < digN n g i ∨ i + digN n g i < n ∧ digB (g (i + digN n g i)) = true then (0, -1) else (valR g i (digN n g i), (i + digN n g i : Nat))
theorem valR_bd (g : Nat → Int) (i : Nat) : ∀ d, (∀ j, j < d → digB (g (i + j)) = true) → 0 ≤ valR g i d ∧ valR g i d < (10 : Int) ^ d
  | 0, _ => ⟨Int.le_refl _, by show (0 : Int) < 1; decide⟩
  | d + 1, h => by
    obtain ⟨h1, h2⟩ := valR_bd g i d (fun j hj => h j (by omega))
    have h3 := h d (by omega)
    unfold digB at h3
    have h3 := of_decide_eq_true h3
    rw [valR, Int.pow_succ]
    omega
theorem valR_small (g : Nat → Int) (i d : Nat) (h : ∀ j, j < d → digB (g (i + j)) = true) (hd : d < 9) : 0 ≤ valR g i d ∧ valR g i d < 100000000 := by
  obtain ⟨h1, h2⟩ := valR_bd g i d h
  have h3 : (10 : Int) ^ d ≤ 10 ^ 8 := by
    have : (10 : Nat) ^ d ≤ 10 ^ 8 := Nat.pow_le_pow_right (by decide) (by omega)
    exact_mod_cast this
  omega
theorem ret_num {R : Int × Int} {a b : Int} (h : R = (a, b)) : Ending.returned (.tuple #[.int .i64 a, .int .i64 b]) = .returned (.tuple #[.int .i64 R.1, .int .i64 R.2]) := by rw [h]
set_option maxRecDepth 100000 in
set_option maxHeartbeats 4000000 in
theorem numeral_any (s : ByteArray) (i : Nat) (w : World) (hi : i ≤ s.size) (hs : s.size ≤ 100000) :
    Calls Tryz.prog 39 #[.string s, .int .i64 i, .int .i64 9] w fun e w' => e = .returned (.tuple #[.int .i64 (numR s.size (gAt s) i).1, .int .i64 (numR s.size (gAt s) i).2]) ∧ w = w' := by
  have hg := fun j h => gAt_get s j h
  have H0 : Hid (numR s.size (gAt s) i = numR s.size (gAt s) i) := Lib.hid rfl
  generalize gAt s = g at *
  generalize hR : numR s.size g i = R at H0 ⊢
  have HR := Lib.hid hR.symm
  clear H0 hR
  go_enter Tryz.func39, Tryz.ntmps39
  go_wp2_with fail
  go_loop [8, 9] (fun x y => ∃ (d : Nat) (v : Int), i + d ≤ s.size ∧ d ≤ 9 ∧ x = .int .i64 v ∧ y = .int .i64 ((i + d : Nat) : Int) ∧ Hid (v = valR g i d ∧ (∀ j, j < d → digB (g (i + j)) = true) ∧ digF s.size g i = digF s.size g (i + d))) (fun x y => s.size + 1 - (intOf y).toNat)
  case atStart => exact ⟨0, 0, hi, by omega, rfl, rfl, Lib.hid ⟨rfl, fun j hj => absurd hj (Nat.not_lt_zero _), rfl⟩⟩
  case round =>
    obtain ⟨d, v, hd, hd9, rfl, rfl, HK⟩ := hrel
    have hv : d < 9 → 0 ≤ v ∧ v < 100000000 := fun h => by rw [HK.out.1]; exact valR_small g i d HK.out.2.1 h
    by_cases hlt : i + d < s.size
    · by_cases hdg : 48 ≤ g (i + d) ∧ g (i + d) ≤ 57
      · by_cases h9 : d < 9
        · obtain ⟨v0, v1⟩ := hv h9
          obtain ⟨g0, g1⟩ := hdg
          have hc : (i : Int) + d - i < 9 := by omega
          go_wp2_with fail
          go_round
          case rel => exact ⟨d + 1, _, by omega, by omega, rfl, by go_num, Lib.hid ⟨by rw [valR, ← HK.out.1], (fun j hj => by
            by_cases e : j = d
            · rw [e]; unfold digB; exact decide_eq_true (by omega)
            · exact HK.out.2.1 j (by omega)), by rw [HK.out.2.2, digF, if_pos ⟨hlt, by unfold digB; exact decide_eq_true (by omega)⟩]; rfl⟩⟩
          case measure => simp [intOf]; omega
        · have h9e : d = 9 := by omega
          have hdg9 : 48 ≤ g (i + 9) ∧ g (i + 9) ≤ 57 := by rw [h9e] at hdg; exact hdg
          have hD : digN s.size g i = d := by
            have h1 := digF_bd s.size g (i + d) (by omega); unfold digN; rw [HK.out.2.2]; omega
          have HN : Hid (R = if d = 0 ∨ g i = 48 ∧ 1 < d ∨ i + d < s.size ∧ (48 ≤ g (i + d) ∧ g (i + d) ≤ 57) then (0, -1) else (v, ((i + d : Nat) : Int))) := Lib.hid (by
            rw [HR.out]; unfold numR; rw [hD, HK.out.1]; simp [digB])
          clear HR HK hD hv
          go_wp2_with fail
          all_goals first
            | (go_ret2
               exact ⟨ret_num (by rw [HN.out]; clear HN hg; first | (rw [if_pos (by omega)]; done) | (rw [if_neg (by omega)]; done) | (rw [if_neg (by omega)]; push_cast; rfl)), rfl⟩)
            | (exfalso; clear HN hg; simp only [beq_iff_eq] at *; omega)
      · have hD : digN s.size g i = d := by
          unfold digN; rw [HK.out.2.2, digF, if_neg (by unfold digB; simp; omega)]; omega
        have HN : Hid (R = if d = 0 ∨ g i = 48 ∧ 1 < d ∨ i + d < s.size ∧ (48 ≤ g (i + d) ∧ g (i + d) ≤ 57) then (0, -1) else (v, ((i + d : Nat) : Int))) := Lib.hid (by
          rw [HR.out]; unfold numR; rw [hD, HK.out.1]; simp [digB])
        clear HR HK hD hv
        go_wp2_with fail
        all_goals first
          | (go_ret2
             exact ⟨ret_num (by rw [HN.out]; clear HN hg; first | (rw [if_pos (by omega)]; done) | (rw [if_neg (by omega)]; done) | (rw [if_neg (by omega)]; push_cast; rfl)), rfl⟩)
          | (exfalso; clear HN hg; simp only [beq_iff_eq] at *; omega)
    · have hD : digN s.size g i = d := by
        unfold digN; rw [HK.out.2.2, digF, if_neg (by omega)]; omega
      have HN : Hid (R = if d = 0 ∨ g i = 48 ∧ 1 < d ∨ i + d < s.size ∧ (48 ≤ g (i + d) ∧ g (i + d) ≤ 57) then (0, -1) else (v, ((i + d : Nat) : Int))) := Lib.hid (by
        rw [HR.out]; unfold numR; rw [hD, HK.out.1]; simp [digB])
      clear HR HK hD hv
      go_wp2_with fail
      all_goals first
        | (go_ret2
           exact ⟨ret_num (by rw [HN.out]; clear HN hg; first | (rw [if_pos (by omega)]; done) | (rw [if_neg (by omega)]; done) | (rw [if_neg (by omega)]; push_cast; rfl)), rfl⟩)
        | (exfalso; clear HN hg; simp only [beq_iff_eq] at *; omega)
end Go.Proofs.YtmfjpdlegaimlaaGreatDoor
