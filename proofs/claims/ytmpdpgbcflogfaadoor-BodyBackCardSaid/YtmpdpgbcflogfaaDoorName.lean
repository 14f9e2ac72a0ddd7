/- Names and digits in texts. -/
import Derived.Test.YtmpdpgbcflogfaaDoorEnd
namespace Go.Proofs.YtmpdpgbcflogfaaDoor
open Go.RowKit
set_option linter.unusedVariables false

def letB (c : Int) : Bool := decide (97 ≤ c ∧ c ≤ 122 ∨ 65 ≤ c ∧ c ≤ 90)
def begB (c : Int) : Bool := decide (97 ≤ c ∧ c ≤ 122 ∨ 65 ≤ c ∧ c ≤ 90 ∨ c = 95)
def digB (c : Int) : Bool := decide (48 ≤ c ∧ c ≤ 57)

theorem letter_any (c : Int) (w : World) :
    Calls Tryd.prog 77 #[.int .u8 c] w fun e w' => e = .returned (.bool (letB c)) ∧ w = w' := by
  go_enter Tryd.func77, Tryd.ntmps77
  go_wp2
  all_goals
    go_ret
    exact ⟨ret_bool (by rw [Bool.eq_iff_iff]; unfold letB; simp at *; omega), rfl⟩
theorem digit_any (c : Int) (w : World) :
    Calls Tryd.prog 62 #[.int .u8 c] w fun e w' => e = .returned (.bool (digB c)) ∧ w = w' := by
  go_enter Tryd.func62, Tryd.ntmps62
  go_wp2
  all_goals
    go_ret
    exact ⟨ret_bool (by rw [Bool.eq_iff_iff]; unfold digB; simp at *; omega), rfl⟩
theorem begins_any (c : Int) (w : World) :
    Calls Tryd.prog 76 #[.int .u8 c] w fun e w' => e = .returned (.bool (begB c)) ∧ w = w' := by
  go_enter Tryd.func76, Tryd.ntmps76
  go_wp2_with (first | (go_at_call 77; refine (letter_any _ _).mono ?_; rintro e w' ⟨rfl, rfl⟩))
  all_goals
    go_ret
    exact ⟨ret_bool (by rw [Bool.eq_iff_iff]; unfold begB; unfold letB at *; simp at *; omega), rfl⟩
theorem rletter_any (c : Int) (w : World) :
    Calls Tryd.prog 73 #[.int .u8 c] w fun e w' => e = .returned (.bool (begB c)) ∧ w = w' := by
  go_enter Tryd.func73, Tryd.ntmps73
  go_wp2
  all_goals
    go_ret
    exact ⟨ret_bool (by rw [Bool.eq_iff_iff]; unfold begB; simp at *; omega), rfl⟩
theorem rdigit_any (c : Int) (w : World) :
    Calls Tryd.prog 74 #[.int .u8 c] w fun e w' => e = .returned (.bool (digB c)) ∧ w = w' := by
  go_enter Tryd.func74, Tryd.ntmps74
  go_wp2
  all_goals
    go_ret
    exact ⟨ret_bool (by rw [Bool.eq_iff_iff]; unfold digB; simp at *; omega), rfl⟩

/-- the place behind the digits -/
def digF (n : Nat) (g : Nat → Int) (i : Nat) : Nat := if i < n ∧ digB (g i) = true then digF n g (i + 1) else i
  termination_by n - i
/-- the place behind the bytes that a name may have -/
def nameW (n : Nat) (g : Nat → Int) (i : Nat) : Nat := if i < n ∧ (begB (g i) = true ∨ digB (g i) = true ∨ g i = 46) then nameW n g (i + 1) else i
  termination_by n - i
def nameF (n : Nat) (g : Nat → Int) (i : Nat) : Nat := if i < n ∧ begB (g i) = true then nameW n g i else i

theorem digF_bd (n : Nat) (g : Nat → Int) (i : Nat) (hi : i ≤ n) : i ≤ digF n g i ∧ digF n g i ≤ n := by
  fun_induction digF n g i with
  | case1 i h ih => have := ih (by omega); omega
  | case2 i h => omega
theorem nameW_bd (n : Nat) (g : Nat → Int) (i : Nat) (hi : i ≤ n) : i ≤ nameW n g i ∧ nameW n g i ≤ n := by
  fun_induction nameW n g i with
  | case1 i h ih => have := ih (by omega); omega
  | case2 i h => omega
theorem nameF_bd (n : Nat) (g : Nat → Int) (i : Nat) (hi : i ≤ n) : i ≤ nameF n g i ∧ nameF n g i ≤ n := by
  unfold nameF; split
  · exact nameW_bd n g i hi
  · omega

set_option maxRecDepth 100000 in
theorem digits_any (s : ByteArray) (i : Nat) (w : World) (hi : i ≤ s.size) (hs : s.size ≤ 1000000) :
    Calls Tryd.prog 55 #[.string s, .int .i64 i] w fun e w' => e = .returned (.int .i64 (digF s.size (gAt s) i : Nat)) ∧ w = w' := by
  have hg := fun j h => gAt_get s j h
  have HR := Lib.hid (show digF s.size (gAt s) i = digF s.size (gAt s) i from rfl)
  generalize gAt s = g at *
  generalize hR : digF s.size g i = R at HR ⊢
  have HI : Hid (R = digF s.size g i) := Lib.hid hR.symm
  clear HR hR
  go_enter Tryd.func55, Tryd.ntmps55
  go_wp2_with fail
  go_loop [1] (fun x => ∃ k : Nat, k ≤ s.size ∧ x = .int .i64 k ∧ Hid (R = digF s.size g k)) (fun x => s.size + 1 - (intOf x).toNat)
  case atStart => exact ⟨i, hi, rfl, HI⟩
  case round =>
    obtain ⟨k, hk, rfl, HK⟩ := hrel
    by_cases hlt : k < s.size
    · go_wp2_with (first | (go_at_call 62; refine (digit_any _ _).mono ?_; rintro e w' ⟨rfl, rfl⟩))
      all_goals first
        | (go_round
           case rel => exact ⟨k + 1, by omega, by go_num, Lib.hid (by have e := HK.out; rw [digF] at e; grind)⟩
           case measure => simp [intOf]; omega)
        | (go_ret
           exact ⟨ret_int (by have e := HK.out; rw [digF] at e; grind), rfl⟩)
    · go_wp2_with fail
      go_ret
      exact ⟨ret_int (by have e := HK.out; rw [digF, if_neg (by omega)] at e; rw [e]), rfl⟩

set_option maxRecDepth 100000 in
theorem name_at (s : ByteArray) (i : Nat) (w : World) (hi : i ≤ s.size) (hs : s.size ≤ 1000000) :
    Calls Tryd.prog 60 #[.string s, .int .i64 i] w fun e w' => e = .returned (.int .i64 (nameF s.size (gAt s) i : Nat)) ∧ w = w' := by
  have hg := fun j h => gAt_get s j h
  generalize gAt s = g at *
  by_cases hlt : i < s.size
  · cases hb : begB (g i) with
    | false =>
      have HR : Hid (nameF s.size g i = i) := Lib.hid (by unfold nameF; rw [if_neg (by simp [hb])])
      have d1 : decide (s.size ≤ i) = false := by simp; omega
      go_enter Tryd.func60, Tryd.ntmps60
      go_wp2_with (first | (go_at_call 76; refine (begins_any _ _).mono ?_; rintro e w' ⟨rfl, rfl⟩))
      go_ret
      exact ⟨ret_int (by rw [HR.out]), rfl⟩
    | true =>
      have HR : Hid (nameF s.size g i = nameW s.size g i) := Lib.hid (by unfold nameF; rw [if_pos ⟨hlt, hb⟩])
      have d1 : decide (s.size ≤ i) = false := by simp; omega
      generalize nameF s.size g i = R at HR ⊢
      go_enter Tryd.func60, Tryd.ntmps60
      go_wp2_with (first | (go_at_call 76; refine (begins_any _ _).mono ?_; rintro e w' ⟨rfl, rfl⟩))
      clear hb
      go_loop [1] (fun x => ∃ k : Nat, k ≤ s.size ∧ x = .int .i64 k ∧ Hid (R = nameW s.size g k)) (fun x => s.size + 1 - (intOf x).toNat)
      case atStart => exact ⟨i, hi, rfl, HR⟩
      case round =>
        obtain ⟨k, hk, rfl, HK⟩ := hrel
        by_cases hlt : k < s.size
        · go_wp2_with (first | (go_at_call 76; refine (begins_any _ _).mono ?_; rintro e w' ⟨rfl, rfl⟩) | (go_at_call 62; refine (digit_any _ _).mono ?_; rintro e w' ⟨rfl, rfl⟩))
          all_goals first
            | (go_round
               case rel => exact ⟨k + 1, by omega, by go_num, Lib.hid (by have e := HK.out; rw [nameW] at e; grind)⟩
               case measure => simp [intOf]; omega)
            | (go_ret
               exact ⟨ret_int (by have e := HK.out; rw [nameW] at e; grind), rfl⟩)
        · go_wp2_with fail
          go_ret
          exact ⟨ret_int (by have e := HK.out; rw [nameW, if_neg (by omega)] at e; rw [e]), rfl⟩
  · have HR : Hid (nameF s.size g i = i) := Lib.hid (by unfold nameF; rw [if_neg (by omega)])
    have d1 : decide (s.size ≤ i) = true := by simp; omega
    go_enter Tryd.func60, Tryd.ntmps60
    go_wp2_with fail
    go_ret
    exact ⟨ret_int (by rw [HR.out]), rfl⟩

/-- is a text a name? -/
def isNameB (t : ByteArray) : Bool := decide (1 ≤ t.size ∧ t.size ≤ 20 ∧ nameF t.size (gAt t) 0 = t.size)

set_option maxRecDepth 100000 in
theorem isName_any (t : ByteArray) (w : World) (hs : t.size ≤ 1000000) :
    Calls Tryd.prog 50 #[.string t] w fun e w' => e = .returned (.bool (isNameB t)) ∧ w = w' := by
  have hn := name_at t 0 w (by omega) hs
  have HN := Lib.hid hn
  have HR : Hid (isNameB t = decide (1 ≤ t.size ∧ t.size ≤ 20 ∧ nameF t.size (gAt t) 0 = t.size)) := Lib.hid rfl
  generalize isNameB t = R at HR ⊢
  generalize nameF t.size (gAt t) 0 = m at HN HR
  clear hn
  have hl : t.toList.length = t.size := by rw [Lib.toList_data]; rfl
  by_cases h0 : t.size = 0
  · have d1 : t.toList = [] := List.eq_nil_of_length_eq_zero (by omega)
    have HR2 : Hid (R = false) := Lib.hid (by rw [HR.out]; exact decide_eq_false (by omega))
    clear h0 hl
    go_enter Tryd.func50, Tryd.ntmps50
    go_wp2_with fail
    go_ret
    exact ⟨ret_bool HR2.out.symm, rfl⟩
  · have d1 : t.toList.isEmpty = false := by rw [List.isEmpty_eq_false_iff]; intro h; rw [h] at hl; exact h0 (by simpa using hl.symm)
    clear hl
    by_cases h20 : t.size ≤ 20
    · by_cases hm : m = t.size
      · have HR2 : Hid (R = true) := Lib.hid (by rw [HR.out]; exact decide_eq_true (by omega))
        subst hm
        go_enter Tryd.func50, Tryd.ntmps50
        go_wp2_with (first | (go_at_call 60; refine HN.out.mono ?_; rintro e w' ⟨rfl, rfl⟩))
        go_ret
        exact ⟨ret_bool (by rw [HR2.out]), rfl⟩
      · have HR2 : Hid (R = false) := Lib.hid (by rw [HR.out]; exact decide_eq_false (by omega))
        have d3 : ((m : Int) == (t.size : Int)) = false := by simp; omega
        clear hm
        go_enter Tryd.func50, Tryd.ntmps50
        go_wp2_with (first | (go_at_call 60; refine HN.out.mono ?_; rintro e w' ⟨rfl, rfl⟩))
        go_ret
        exact ⟨ret_bool (by rw [HR2.out]), rfl⟩
    · have HR2 : Hid (R = false) := Lib.hid (by rw [HR.out]; exact decide_eq_false (by omega))
      go_enter Tryd.func50, Tryd.ntmps50
      go_wp2_with fail
      go_ret
      exact ⟨ret_bool (by rw [HR2.out]), rfl⟩

end Go.Proofs.YtmpdpgbcflogfaaDoor
