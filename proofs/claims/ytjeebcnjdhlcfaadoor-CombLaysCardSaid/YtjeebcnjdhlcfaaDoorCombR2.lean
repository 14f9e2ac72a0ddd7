/- The document's fits. -/
import Derived.Test.YtjeebcnjdhlcfaaDoorCombR1
namespace Go.Proofs.YtjeebcnjdhlcfaaDoor
open Go.RowKit
set_option linter.unusedVariables false
set_option linter.unusedSimpArgs false

theorem fits_next (chk : List Int) (r : List Pr) (b j : Nat) (h : j < r.length) : fitsB chk (r.take (j + 1)) b = (fitsB chk (r.take j) b && (chk.getD (b + (r.getD j (0, 0)).1.toNat) 0 == 0)) := by
  unfold fitsB
  have e : r.getD j (0, 0) = r[j] := by rw [List.getD_eq_getElem?_getD, List.getElem?_eq_getElem h]; rfl
  rw [List.take_succ_eq_append_getElem h, List.all_append, e]; simp
theorem fits_mono (chk : List Int) (r : List Pr) (b j : Nat) (h : fitsB chk (r.take j) b = false) : fitsB chk r b = false := by
  unfold fitsB at h ⊢
  rw [List.all_eq_false] at h ⊢
  obtain ⟨p, hp, e⟩ := h
  exact ⟨p, List.mem_of_mem_take hp, e⟩

set_option maxRecDepth 100000 in
set_option maxHeartbeats 4000000 in
theorem refFits_any (cv rv : Value) (chk : List Int) (row : List Pr) (b : Nat) (w : World) (hc : IntsV w cv chk) (hr : PairsV w rv row) (hm : ∀ p ∈ row, 0 ≤ p.1 ∧ p.1 ≤ 999) (hb : b ≤ 1000000) :
    Calls Tryd.prog 25 #[cv, rv, .int .i64 (b : Int)] w fun e w' => e = .returned (.bool (fitsB chk row b)) ∧ w = w' := by
  obtain ⟨a, n, c, rfl, hn, hnc, hcm, hx⟩ := hc.open
  obtain ⟨a2, m, c2, rfl, hm2, hmc, hcm2, hx2⟩ := hr.open
  have HCM := Lib.hid (And.intro hmc hcm2)
  clear hc hr hcm hcm2
  go_enter Tryd.func25, Tryd.ntmps25
  go_wp2_with fail
  go_loop [7, 8] (fun i x => ∃ j : Nat, j ≤ m ∧ i = .int .i64 (j : Int) ∧ Hid (fitsB chk (row.take j) b = true)) (fun i _ => m - (intOf i).toNat)
  case atStart => exact ⟨0, Nat.zero_le _, rfl, Lib.hid (by simp [fitsB])⟩
  case round =>
    obtain ⟨j, hj, rfl, hf⟩ := hrel
    by_cases hjm : j < m
    · obtain ⟨b2, o2, rfl, d1, d2⟩ := hx2.out j hjm
      have hjI : (j : Int) < (m : Int) := by omega
      have hjb : (j : Int) + 1 ≤ 9223372036854775807 := by have := HCM.out; omega
      have hjr : j < row.length := by have := hm2.out; omega
      have hpr := hm (row.getD j (0, 0)) (by rw [List.getD_eq_getElem?_getD, List.getElem?_eq_getElem hjr]; simp)
      have hnx := fits_next chk row b j hjr
      rw [hf.out, Bool.true_and] at hnx
      generalize (row.getD j (0, 0)).1 = pa at d1 hpr hnx
      clear d2
      obtain ⟨q, rfl⟩ := Int.eq_ofNat_of_zero_le hpr.1
      have hq9 : q ≤ 999 := by omega
      simp only [Int.toNat_natCast] at hnx
      clear hpr
      by_cases hin : b + q < n
      · obtain ⟨b3, o3, rfl, d3⟩ := hx.out (b + q) hin
        have hinI : (b : Int) + (q : Int) < (n : Int) := by omega
        have hinN : ((b : Int) + (q : Int)).toNat = b + q := by omega
        cases hz : chk.getD (b + q) 0 == 0 with
        | true =>
          have hne : (chk.getD (b + q) 0 != 0) = false := by simpa [bne] using hz
          rw [hz] at hnx
          have HX := Lib.hid hnx
          generalize chk.getD (b + q) 0 = z at d3 hne
          clear hnx hz
          go_wp2_with fail
          go_round
          case rel => exact ⟨j + 1, by omega, by go_num, HX⟩
          case measure => simp [intOf]; omega
        | false =>
          have hne : (chk.getD (b + q) 0 != 0) = true := by simpa [bne] using hz
          rw [hz] at hnx
          have HX := Lib.hid (fits_mono _ _ _ _ hnx)
          generalize chk.getD (b + q) 0 = z at d3 hne
          clear hnx hz
          go_wp2_with fail
          go_ret
          exact ⟨ret_bool HX.out.symm, rfl⟩
      · have hinI : ¬ (b : Int) + (q : Int) < (n : Int) := by omega
        rw [getD_ge _ _ _ (by have := hn.out; omega)] at hnx
        have HX := Lib.hid hnx
        clear hnx
        go_wp2_with fail
        go_round
        case rel => exact ⟨j + 1, by omega, by go_num, HX⟩
        case measure => simp [intOf]; omega
    · have HX : Hid (fitsB chk row b = true) := Lib.hid (by have := hf.out; rwa [List.take_of_length_le (by have := hm2.out; omega)] at this)
      go_wp2_with fail
      go_ret
      exact ⟨ret_bool HX.out.symm, rfl⟩
end Go.Proofs.YtjeebcnjdhlcfaaDoor
