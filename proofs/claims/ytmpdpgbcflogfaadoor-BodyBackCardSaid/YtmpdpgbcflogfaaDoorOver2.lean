/- What is passed over: the document's Over. -/
import Derived.Test.YtmpdpgbcflogfaaDoorOver
namespace Go.Proofs.YtmpdpgbcflogfaaDoor
open Go.RowKit
set_option linter.unusedVariables false

set_option maxRecDepth 100000 in
theorem over_q34 (s : ByteArray) (g : Nat → Int) (i : Nat) (R : Int) (w : World) (hi : i < s.size) (hs : s.size ≤ 1000000) (hg : ∀ j (h : j < s.size), ((s[j]'h).toNat : Int) = g j)
    (HR : Hid (R = quo s.size g 34 (i + 1))) (hq : g i = 34) :
    Calls Tryd.prog 31 #[.string s, .int .i64 i] w fun e w' => e = .returned (.int .i64 R) ∧ Below w.heap.size w w' := by
  go_enter Tryd.func31, Tryd.ntmps31
  go_wp2_with fail
  go_loopw [5] (fun x wr => ∃ k : Nat, k ≤ s.size + 1 ∧ x = .int .i64 k ∧ Hid (R = quo s.size g 34 k) ∧ Below w.heap.size w wr) (fun x _ => s.size + 1 - (intOf x).toNat)
  case atStart => exact ⟨i + 1, by omega, by go_num, HR, Below.refl _ _⟩
  case round =>
    obtain ⟨k, hk, rfl, HK, hb⟩ := hrel
    by_cases hlt : k < s.size
    · by_cases h10 : g k = 10
      · have d0 : (g k != 10) = false := by simp [h10]
        have HK2 : Hid (R = -1) := Lib.hid (by have e := HK.out; rw [quo, if_pos hlt, h10] at e; simpa using e)
        clear h10
        go_wp2_with fail
        go_ret
        exact ⟨ret_int HK2.out.symm, hb⟩
      · have d0 : (g k != 10) = true := by simpa using h10
        by_cases hlt2 : k + 1 < s.size
        · go_wp2_with fail
          go_quiet (fail)
          go_wp2_with fail
          all_goals first
            | (go_roundw
               case rel => first | exact ⟨k + 2, by omega, by go_num, Lib.hid (by have e := HK.out; rw [quo] at e; grind), hb.trans ⟨rfl, rfl, rfl, Nat.le_refl _, fun _ _ => rfl⟩⟩ | exact ⟨k + 1, by omega, by go_num, Lib.hid (by have e := HK.out; rw [quo] at e; grind), hb.trans ⟨rfl, rfl, rfl, Nat.le_refl _, fun _ _ => rfl⟩⟩
               case measure => simp [intOf]; omega)
            | (go_ret
               exact ⟨ret_int (by have e := HK.out; rw [quo] at e; grind), hb.trans ⟨rfl, rfl, rfl, Nat.le_refl _, fun _ _ => rfl⟩⟩)
        · go_wp2_with fail
          go_quiet (fail)
          go_wp2_with fail
          all_goals first
            | (go_roundw
               case rel => first | exact ⟨k + 2, by omega, by go_num, Lib.hid (by have e := HK.out; rw [quo] at e; grind), hb.trans ⟨rfl, rfl, rfl, Nat.le_refl _, fun _ _ => rfl⟩⟩ | exact ⟨k + 1, by omega, by go_num, Lib.hid (by have e := HK.out; rw [quo] at e; grind), hb.trans ⟨rfl, rfl, rfl, Nat.le_refl _, fun _ _ => rfl⟩⟩
               case measure => simp [intOf]; omega)
            | (go_ret
               exact ⟨ret_int (by have e := HK.out; rw [quo] at e; grind), hb.trans ⟨rfl, rfl, rfl, Nat.le_refl _, fun _ _ => rfl⟩⟩)
    · go_wp2_with fail
      go_ret
      exact ⟨ret_int (by have e := HK.out; rw [quo, if_neg hlt] at e; exact e.symm), hb⟩

set_option maxRecDepth 100000 in
theorem over_q39 (s : ByteArray) (g : Nat → Int) (i : Nat) (R : Int) (w : World) (hi : i < s.size) (hs : s.size ≤ 1000000) (hg : ∀ j (h : j < s.size), ((s[j]'h).toNat : Int) = g j)
    (HR : Hid (R = quo s.size g 39 (i + 1))) (hq : g i = 39) :
    Calls Tryd.prog 31 #[.string s, .int .i64 i] w fun e w' => e = .returned (.int .i64 R) ∧ Below w.heap.size w w' := by
  go_enter Tryd.func31, Tryd.ntmps31
  go_wp2_with fail
  go_loopw [5] (fun x wr => ∃ k : Nat, k ≤ s.size + 1 ∧ x = .int .i64 k ∧ Hid (R = quo s.size g 39 k) ∧ Below w.heap.size w wr) (fun x _ => s.size + 1 - (intOf x).toNat)
  case atStart => exact ⟨i + 1, by omega, by go_num, HR, Below.refl _ _⟩
  case round =>
    obtain ⟨k, hk, rfl, HK, hb⟩ := hrel
    by_cases hlt : k < s.size
    · by_cases h10 : g k = 10
      · have d0 : (g k != 10) = false := by simp [h10]
        have HK2 : Hid (R = -1) := Lib.hid (by have e := HK.out; rw [quo, if_pos hlt, h10] at e; simpa using e)
        clear h10
        go_wp2_with fail
        go_ret
        exact ⟨ret_int HK2.out.symm, hb⟩
      · have d0 : (g k != 10) = true := by simpa using h10
        by_cases hlt2 : k + 1 < s.size
        · go_wp2_with fail
          go_quiet (fail)
          go_wp2_with fail
          all_goals first
            | (go_roundw
               case rel => first | exact ⟨k + 2, by omega, by go_num, Lib.hid (by have e := HK.out; rw [quo] at e; grind), hb.trans ⟨rfl, rfl, rfl, Nat.le_refl _, fun _ _ => rfl⟩⟩ | exact ⟨k + 1, by omega, by go_num, Lib.hid (by have e := HK.out; rw [quo] at e; grind), hb.trans ⟨rfl, rfl, rfl, Nat.le_refl _, fun _ _ => rfl⟩⟩
               case measure => simp [intOf]; omega)
            | (go_ret
               exact ⟨ret_int (by have e := HK.out; rw [quo] at e; grind), hb.trans ⟨rfl, rfl, rfl, Nat.le_refl _, fun _ _ => rfl⟩⟩)
        · go_wp2_with fail
          go_quiet (fail)
          go_wp2_with fail
          all_goals first
            | (go_roundw
               case rel => first | exact ⟨k + 2, by omega, by go_num, Lib.hid (by have e := HK.out; rw [quo] at e; grind), hb.trans ⟨rfl, rfl, rfl, Nat.le_refl _, fun _ _ => rfl⟩⟩ | exact ⟨k + 1, by omega, by go_num, Lib.hid (by have e := HK.out; rw [quo] at e; grind), hb.trans ⟨rfl, rfl, rfl, Nat.le_refl _, fun _ _ => rfl⟩⟩
               case measure => simp [intOf]; omega)
            | (go_ret
               exact ⟨ret_int (by have e := HK.out; rw [quo] at e; grind), hb.trans ⟨rfl, rfl, rfl, Nat.le_refl _, fun _ _ => rfl⟩⟩)
    · go_wp2_with fail
      go_ret
      exact ⟨ret_int (by have e := HK.out; rw [quo, if_neg hlt] at e; exact e.symm), hb⟩

end Go.Proofs.YtmpdpgbcflogfaaDoor
