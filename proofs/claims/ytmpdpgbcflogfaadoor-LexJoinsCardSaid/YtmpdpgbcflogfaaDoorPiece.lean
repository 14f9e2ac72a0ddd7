/- Names and digits in texts. -/
import Derived.Test.YtmpdpgbcflogfaaDoorEnd
namespace Go.Proofs.YtmpdpgbcflogfaaDoor
section
open Go.RowKit
set_option linter.unusedVariables false

def letB (c : Int) : Bool := decide (97 ≤ c ∧ c ≤ 122 ∨ 65 ≤ c ∧ c ≤ 90)
def begB (c : Int) : Bool := decide (97 ≤ c ∧ c ≤ 122 ∨ 65 ≤ c ∧ c ≤ 90 ∨ c = 95)
def digB (c : Int) : Bool := decide (48 ≤ c ∧ c ≤ 57)

theorem letter_any (c : Int) (w : World) :
    Calls Tryd.prog 77 #[.int .u8 c] w fun e w' => e = .returned (.bool (letB c)) ∧ w = w' := by
  go_enter Tryd.func77, Tryd.ntmps77
  go_wp2
  all_goals
    go_ret
    exact ⟨ret_bool (by rw [Bool.eq_iff_iff]; unfold letB; simp at *; omega), rfl⟩
theorem digit_any (c : Int) (w : World) :
    Calls Tryd.prog 62 #[.int .u8 c] w fun e w' => e = .returned (.bool (digB c)) ∧ w = w' := by
  go_enter Tryd.func62, Tryd.ntmps62
  go_wp2
  all_goals
    go_ret
    exact ⟨ret_bool (by rw [Bool.eq_iff_iff]; unfold digB; simp at *; omega), rfl⟩
theorem begins_any (c : Int) (w : World) :
    Calls Tryd.prog 76 #[.int .u8 c] w fun e w' => e = .returned (.bool (begB c)) ∧ w = w' := by
  go_enter Tryd.func76, Tryd.ntmps76
  go_wp2_with (first | (go_at_call 77; refine (letter_any _ _).mono ?_; rintro e w' ⟨rfl, rfl⟩))
  all_goals
    go_ret
    exact ⟨ret_bool (by rw [Bool.eq_iff_iff]; unfold begB; unfold letB at *; simp at *; omega), rfl⟩
theorem rletter_any (c : Int) (w : World) :
    Calls Tryd.prog 73 #[.int .u8 c] w fun e w' => e = .returned (.bool (begB c)) ∧ w = w' := by
  go_enter Tryd.func73, Tryd.ntmps73
  go_wp2
  all_goals
    go_ret
    exact ⟨ret_bool (by rw [Bool.eq_iff_iff]; unfold begB; simp at *; omega), rfl⟩
theorem rdigit_any (c : Int) (w : World) :
    Calls Tryd.prog 74 #[.int .u8 c] w fun e w' => e = .returned (.bool (digB c)) ∧ w = w' := by
  go_enter Tryd.func74, Tryd.ntmps74
  go_wp2
  all_goals
    go_ret
    exact ⟨ret_bool (by rw [Bool.eq_iff_iff]; unfold digB; simp at *; omega), rfl⟩

/-- the place behind the digits -/
def digF (n : Nat) (g : Nat → Int) (i : Nat) : Nat := if i < n ∧ digB (g i) = true then digF n g (i + 1) else i
  termination_by n - i
/-- the place behind the bytes that a name may have -/
def nameW (n : Nat) (g : Nat → Int) (i : Nat) : Nat := if i < n ∧ (begB (g i) = true ∨ digB (g i) = true ∨ g i = 46) then nameW n g (i + 1) else i
  termination_by n - i
def nameF (n : Nat) (g : Nat → Int) (i : Nat) : Nat := if i < n ∧ begB (g i) = true then nameW n g i else i

theorem digF_bd (n : Nat) (g : Nat → Int) (i : Nat) (hi : i ≤ n) : i ≤ digF n g i ∧ digF n g i ≤ n := by
  fun_induction digF n g i with
  | case1 i h ih => have := ih (by omega); omega
  | case2 i h => omega
theorem nameW_bd (n : Nat) (g : Nat → Int) (i : Nat) (hi : i ≤ n) : i ≤ nameW n g i ∧ nameW n g i ≤ n := by
  fun_induction nameW n g i with
  | case1 i h ih => have := ih (by omega); omega
  | case2 i h => omega
theorem nameF_bd (n : Nat) (g : Nat → Int) (i : Nat) (hi : i ≤ n) : i ≤ nameF n g i ∧ nameF n g i ≤ n := by
  unfold nameF; split
  · exact nameW_bd n g i hi
  · omega

set_option maxRecDepth 100000 in
theorem digits_any (s : ByteArray) (i : Nat) (w : World) (hi : i ≤ s.size) (hs : s.size ≤ 1000000) :
    Calls Tryd.prog 55 #[.string s, .int .i64 i] w fun e w' => e = .returned (.int .i64 (digF s.size (gAt s) i : Nat)) ∧ w = w' := by
  have hg := fun j h => gAt_get s j h
  have HR := Lib.hid (show digF s.size (gAt s) i = digF s.size (gAt s) i from rfl)
  generalize gAt s = g at *
  generalize hR : digF s.size g i = R at HR ⊢
  have HI : Hid (R = digF s.size g i) := Lib.hid hR.symm
  clear HR hR
  go_enter Tryd.func55, Tryd.ntmps55
  go_wp2_with fail
  go_loop [1] (fun x => ∃ k : Nat, k ≤ s.size ∧ x = .int .i64 k ∧ Hid (R = digF s.size g k)) (fun x => s.size + 1 - (intOf x).toNat)
  case atStart => exact ⟨i, hi, rfl, HI⟩
  case round =>
    obtain ⟨k, hk, rfl, HK⟩ := hrel
    by_cases hlt : k < s.size
    · go_wp2_with (first | (go_at_call 62; refine (digit_any _ _).mono ?_; rintro e w' ⟨rfl, rfl⟩))
      all_goals first
        | (go_round
           case rel => exact ⟨k + 1, by omega, by go_num, Lib.hid (by have e := HK.out; rw [digF] at e; grind)⟩
           case measure => simp [intOf]; omega)
        | (go_ret
           exact ⟨ret_int (by have e := HK.out; rw [digF] at e; grind), rfl⟩)
    · go_wp2_with fail
      go_ret
      exact ⟨ret_int (by have e := HK.out; rw [digF, if_neg (by omega)] at e; rw [e]), rfl⟩

set_option maxRecDepth 100000 in
theorem name_at (s : ByteArray) (i : Nat) (w : World) (hi : i ≤ s.size) (hs : s.size ≤ 1000000) :
    Calls Tryd.prog 60 #[.string s, .int .i64 i] w fun e w' => e = .returned (.int .i64 (nameF s.size (gAt s) i : Nat)) ∧ w = w' := by
  have hg := fun j h => gAt_get s j h
  generalize gAt s = g at *
  by_cases hlt : i < s.size
  · cases hb : begB (g i) with
    | false =>
      have HR : Hid (nameF s.size g i = i) := Lib.hid (by unfold nameF; rw [if_neg (by simp [hb])])
      have d1 : decide (s.size ≤ i) = false := by simp; omega
      go_enter Tryd.func60, Tryd.ntmps60
      go_wp2_with (first | (go_at_call 76; refine (begins_any _ _).mono ?_; rintro e w' ⟨rfl, rfl⟩))
      go_ret
      exact ⟨ret_int (by rw [HR.out]), rfl⟩
    | true =>
      have HR : Hid (nameF s.size g i = nameW s.size g i) := Lib.hid (by unfold nameF; rw [if_pos ⟨hlt, hb⟩])
      have d1 : decide (s.size ≤ i) = false := by simp; omega
      generalize nameF s.size g i = R at HR ⊢
      go_enter Tryd.func60, Tryd.ntmps60
      go_wp2_with (first | (go_at_call 76; refine (begins_any _ _).mono ?_; rintro e w' ⟨rfl, rfl⟩))
      clear hb
      go_loop [1] (fun x => ∃ k : Nat, k ≤ s.size ∧ x = .int .i64 k ∧ Hid (R = nameW s.size g k)) (fun x => s.size + 1 - (intOf x).toNat)
      case atStart => exact ⟨i, hi, rfl, HR⟩
      case round =>
        obtain ⟨k, hk, rfl, HK⟩ := hrel
        by_cases hlt : k < s.size
        · go_wp2_with (first | (go_at_call 76; refine (begins_any _ _).mono ?_; rintro e w' ⟨rfl, rfl⟩) | (go_at_call 62; refine (digit_any _ _).mono ?_; rintro e w' ⟨rfl, rfl⟩))
          all_goals first
            | (go_round
               case rel => exact ⟨k + 1, by omega, by go_num, Lib.hid (by have e := HK.out; rw [nameW] at e; grind)⟩
               case measure => simp [intOf]; omega)
            | (go_ret
               exact ⟨ret_int (by have e := HK.out; rw [nameW] at e; grind), rfl⟩)
        · go_wp2_with fail
          go_ret
          exact ⟨ret_int (by have e := HK.out; rw [nameW, if_neg (by omega)] at e; rw [e]), rfl⟩
  · have HR : Hid (nameF s.size g i = i) := Lib.hid (by unfold nameF; rw [if_neg (by omega)])
    have d1 : decide (s.size ≤ i) = true := by simp; omega
    go_enter Tryd.func60, Tryd.ntmps60
    go_wp2_with fail
    go_ret
    exact ⟨ret_int (by rw [HR.out]), rfl⟩

/-- is a text a name? -/
def isNameB (t : ByteArray) : Bool := decide (1 ≤ t.size ∧ t.size ≤ 20 ∧ nameF t.size (gAt t) 0 = t.size)

set_option maxRecDepth 100000 in
theorem isName_any (t : ByteArray) (w : World) (hs : t.size ≤ 1000000) :
    Calls Tryd.prog 50 #[.string t] w fun e w' => e = .returned (.bool (isNameB t)) ∧ w = w' := by
  have hn := name_at t 0 w (by omega) hs
  have HN := Lib.hid hn
  have HR : Hid (isNameB t = decide (1 ≤ t.size ∧ t.size ≤ 20 ∧ nameF t.size (gAt t) 0 = t.size)) := Lib.hid rfl
  generalize isNameB t = R at HR ⊢
  generalize nameF t.size (gAt t) 0 = m at HN HR
  clear hn
  have hl : t.toList.length = t.size := by rw [Lib.toList_data]; rfl
  by_cases h0 : t.size = 0
  · have d1 : t.toList = [] := List.eq_nil_of_length_eq_zero (by omega)
    have HR2 : Hid (R = false) := Lib.hid (by rw [HR.out]; exact decide_eq_false (by omega))
    clear h0 hl
    go_enter Tryd.func50, Tryd.ntmps50
    go_wp2_with fail
    go_ret
    exact ⟨ret_bool HR2.out.symm, rfl⟩
  · have d1 : t.toList.isEmpty = false := by rw [List.isEmpty_eq_false_iff]; intro h; rw [h] at hl; exact h0 (by simpa using hl.symm)
    clear hl
    by_cases h20 : t.size ≤ 20
    · by_cases hm : m = t.size
      · have HR2 : Hid (R = true) := Lib.hid (by rw [HR.out]; exact decide_eq_true (by omega))
        subst hm
        go_enter Tryd.func50, Tryd.ntmps50
        go_wp2_with (first | (go_at_call 60; refine HN.out.mono ?_; rintro e w' ⟨rfl, rfl⟩))
        go_ret
        exact ⟨ret_bool (by rw [HR2.out]), rfl⟩
      · have HR2 : Hid (R = false) := Lib.hid (by rw [HR.out]; exact decide_eq_false (by omega))
        have d3 : ((m : Int) == (t.size : Int)) = false := by simp; omega
        clear hm
        go_enter Tryd.func50, Tryd.ntmps50
        go_wp2_with (first | (go_at_call 60; refine HN.out.mono ?_; rintro e w' ⟨rfl, rfl⟩))
        go_ret
        exact ⟨ret_bool (by rw [HR2.out]), rfl⟩
    · have HR2 : Hid (R = false) := Lib.hid (by rw [HR.out]; exact decide_eq_false (by omega))
      go_enter Tryd.func50, Tryd.ntmps50
      go_wp2_with fail
      go_ret
      exact ⟨ret_bool (by rw [HR2.out]), rfl⟩
end

section
open Go.RowKit
set_option linter.unusedVariables false

theorem gAt_sub (s : ByteArray) (a e j : Nat) (he : e ≤ s.size) (hj : a + j < e) : gAt (s.extract a e) j = gAt s (a + j) := by
  have h1 : j < (s.extract a e).size := by rw [ByteArray.size_extract]; omega
  rw [← gAt_get _ j h1, ← gAt_get s (a + j) (by omega)]
  congr 1
  rw [ByteArray.getElem_extract]

theorem nameW_sub (s : ByteArray) (a e : Nat) (he : e ≤ s.size) : ∀ m j, e - (a + j) = m → a + j ≤ e → nameW s.size (gAt s) (a + j) = e → nameW (e - a) (gAt (s.extract a e)) j = e - a := by
  intro m
  induction m with
  | zero =>
    intro j h1 h2 h3
    rw [nameW, if_neg (by omega)]; omega
  | succ m ih =>
    intro j h1 h2 h3
    by_cases hc : a + j < s.size ∧ (begB (gAt s (a + j)) = true ∨ digB (gAt s (a + j)) = true ∨ gAt s (a + j) = 46)
    · rw [nameW, if_pos hc] at h3
      rw [nameW, gAt_sub s a e j he (by omega), if_pos ⟨by omega, hc.2⟩]
      exact ih (j + 1) (by omega) (by omega) (by rw [← h3]; congr 1)
    · rw [nameW, if_neg hc] at h3
      omega

theorem isName_sub (s : ByteArray) (a : Nat) (ha : a ≤ s.size) : isNameB (s.extract a (nameF s.size (gAt s) a)) = decide (a < nameF s.size (gAt s) a ∧ nameF s.size (gAt s) a - a ≤ 20) := by
  have hb := nameF_bd s.size (gAt s) a ha
  unfold isNameB
  have hsz : (s.extract a (nameF s.size (gAt s) a)).size = nameF s.size (gAt s) a - a := by rw [ByteArray.size_extract]; omega
  rw [hsz]
  by_cases h : a < s.size ∧ begB (gAt s a) = true
  · have e1 : nameF s.size (gAt s) a = nameW s.size (gAt s) a := by unfold nameF; rw [if_pos h]
    rw [e1] at hb ⊢
    have h2 : a < nameW s.size (gAt s) a := by
      have := nameW_bd s.size (gAt s) (a + 1) (by omega)
      rw [nameW, if_pos ⟨h.1, .inl h.2⟩]; omega
    have h3 := nameW_sub s a (nameW s.size (gAt s) a) hb.2 _ 0 rfl (by omega) rfl
    have h4 : nameF (nameW s.size (gAt s) a - a) (gAt (s.extract a (nameW s.size (gAt s) a))) 0 = nameW s.size (gAt s) a - a := by
      unfold nameF
      rw [gAt_sub s a _ 0 hb.2 (by omega)]
      rw [if_pos ⟨by omega, h.2⟩]
      exact h3
    rw [h4, Bool.eq_iff_iff, decide_eq_true_iff, decide_eq_true_iff]
    omega
  · have e1 : nameF s.size (gAt s) a = a := by unfold nameF; rw [if_neg h]
    rw [e1, Bool.eq_iff_iff, decide_eq_true_iff, decide_eq_true_iff]
    omega

/-- the place behind a name in angles -/
def tagF (n : Nat) (g : Nat → Int) (i : Nat) : Nat :=
  if i < n ∧ g i = 60 ∧ i + 1 < nameF n g (i + 1) ∧ nameF n g (i + 1) - (i + 1) ≤ 20 ∧ nameF n g (i + 1) < n ∧ g (nameF n g (i + 1)) = 62 then nameF n g (i + 1) + 1 else i
theorem tagF_bd (n : Nat) (g : Nat → Int) (i : Nat) (hi : i ≤ n) : i ≤ tagF n g i ∧ tagF n g i ≤ n := by
  unfold tagF; split <;> omega

set_option maxRecDepth 100000 in
theorem tag_any (s : ByteArray) (i : Nat) (w : World) (hi : i ≤ s.size) (hs : s.size ≤ 1000000) :
    Calls Tryd.prog 54 #[.string s, .int .i64 i] w fun e w' => e = .returned (.int .i64 (tagF s.size (gAt s) i : Nat)) ∧ w = w' := by
  have hg := fun j h => gAt_get s j h
  by_cases h60 : i < s.size ∧ gAt s i = 60
  · obtain ⟨hlt, hc⟩ := h60
    have hn := name_at s (i + 1) w (by omega) hs
    have hbd := nameF_bd s.size (gAt s) (i + 1) (by omega)
    have hnm := isName_sub s (i + 1) (by omega)
    have HR : Hid (tagF s.size (gAt s) i = if i + 1 < nameF s.size (gAt s) (i + 1) ∧ nameF s.size (gAt s) (i + 1) - (i + 1) ≤ 20 ∧ nameF s.size (gAt s) (i + 1) < s.size ∧ gAt s (nameF s.size (gAt s) (i + 1)) = 62 then nameF s.size (gAt s) (i + 1) + 1 else i) := Lib.hid (by
      unfold tagF
      by_cases h : i + 1 < nameF s.size (gAt s) (i + 1) ∧ nameF s.size (gAt s) (i + 1) - (i + 1) ≤ 20 ∧ nameF s.size (gAt s) (i + 1) < s.size ∧ gAt s (nameF s.size (gAt s) (i + 1)) = 62
      · rw [if_pos ⟨hlt, hc, h⟩, if_pos h]
      · rw [if_neg (fun hh => h hh.2.2), if_neg h])
    push_cast at hn
    generalize nameF s.size (gAt s) (i + 1) = e at *
    have hI := fun W => isName_any (s.extract (i + 1) e) W (by rw [ByteArray.size_extract]; omega)
    rw [hnm] at hI
    have HN := Lib.hid hn
    have HI := Lib.hid hI
    clear hn hI hnm
    generalize tagF s.size (gAt s) i = R at *
    generalize gAt s = g at *
    have d1 : decide (s.size ≤ i) = false := by simp; omega
    have d2 : (g i != 60) = false := by simp [hc]
    clear hc
    by_cases hlt2 : e < s.size
    · have d3 : decide (s.size ≤ e) = false := by simp; omega
      go_enter Tryd.func54, Tryd.ntmps54
      go_wp2_with (first | (go_at_call 60; refine HN.out.mono ?_; rintro e w' ⟨rfl, rfl⟩) | (go_at_call 50; refine (HI.out _).mono ?_; rintro e w' ⟨rfl, rfl⟩))
      all_goals
        go_ret
        exact ⟨ret_int (by have e := HR.out; grind), rfl⟩
    · have d3 : decide (s.size ≤ e) = true := by simp; omega
      go_enter Tryd.func54, Tryd.ntmps54
      go_wp2_with (first | (go_at_call 60; refine HN.out.mono ?_; rintro e w' ⟨rfl, rfl⟩) | (go_at_call 50; refine (HI.out _).mono ?_; rintro e w' ⟨rfl, rfl⟩))
      all_goals
        go_ret
        exact ⟨ret_int (by have e := HR.out; grind), rfl⟩
  · have HR : Hid (tagF s.size (gAt s) i = i) := Lib.hid (by unfold tagF; rw [if_neg (fun h => h60 ⟨h.1, h.2.1⟩)])
    generalize tagF s.size (gAt s) i = R at *
    generalize gAt s = g at *
    by_cases hlt : i < s.size
    · have d1 : decide (s.size ≤ i) = false := by simp; omega
      have d2 : (g i != 60) = true := by simp; exact fun h => h60 ⟨hlt, h⟩
      clear h60
      go_enter Tryd.func54, Tryd.ntmps54
      go_wp2_with fail
      go_ret
      exact ⟨ret_int (by rw [HR.out]), rfl⟩
    · have d1 : decide (s.size ≤ i) = true := by simp; omega
      clear h60
      go_enter Tryd.func54, Tryd.ntmps54
      go_wp2_with fail
      go_ret
      exact ⟨ret_int (by rw [HR.out]), rfl⟩

/-- the number of a row of digits -/
def numW (g : Nat → Int) (a : Nat) : Nat → Int
  | 0 => 0
  | k + 1 => wrap64 (wrap64 (numW g a k * 10) + (g (a + k) - 48))

set_option maxRecDepth 100000 in
theorem number_any (t : ByteArray) (w : World) (hs : t.size ≤ 1000000) (hd : ∀ j, j < t.size → 48 ≤ gAt t j ∧ gAt t j ≤ 57) :
    Calls Tryd.prog 56 #[.string t] w fun e w' => e = .returned (.int .i64 (numW (gAt t) 0 t.size)) ∧ w = w' := by
  have hg := fun j h => gAt_get t j h
  have HD := Lib.hid hd
  clear hd
  generalize gAt t = g at *
  go_enter Tryd.func56, Tryd.ntmps56
  go_wp2_with fail
  go_loop [3, 7] (fun x y => ∃ k : Nat, k ≤ t.size ∧ y = .int .i64 k ∧ x = .int .i64 (numW g 0 k)) (fun x y => t.size + 1 - (intOf y).toNat)
  case atStart => exact ⟨0, by omega, rfl, rfl⟩
  case round =>
    obtain ⟨k, hk, rfl, rfl⟩ := hrel
    by_cases hlt : k < t.size
    · obtain ⟨d1, d2⟩ := HD.out k hlt
      have HS : Hid (wrap64 (wrap64 (numW g 0 k * 10) + (g k - 48)) = numW g 0 (k + 1)) := Lib.hid (by rw [numW, Nat.zero_add])
      generalize numW g 0 k = m at HS
      go_wp2_with fail
      go_round
      case rel => exact ⟨k + 1, by omega, by go_num, by rw [HS.out]⟩
      case measure => simp [intOf]; omega
    · obtain rfl : k = t.size := by omega
      go_wp2_with fail
      go_ret
      exact ⟨rfl, rfl⟩

/-! the document's: how many bytes of a name stand there -/
set_option maxRecDepth 100000 in
theorem nameAt_any (s : ByteArray) (i : Nat) (w : World) (hi : i ≤ s.size) (hs : s.size ≤ 1000000) :
    Calls Tryd.prog 53 #[.string s, .int .i64 i] w fun e w' => e = .returned (.int .i64 (nameF s.size (gAt s) i - i : Nat)) ∧ w = w' := by
  have hg := fun j h => gAt_get s j h
  generalize gAt s = g at *
  have hbd := nameF_bd s.size g i hi
  have HR : Hid (∃ R, R = nameF s.size g i) := ⟨_, rfl⟩
  obtain ⟨R, hR⟩ := HR
  rw [← hR] at hbd ⊢
  have HI : Hid (if i < s.size ∧ begB (g i) = true then R = nameW s.size g i else R = i) := Lib.hid (by rw [hR]; unfold nameF; split <;> rfl)
  clear hR
  go_enter Tryd.func53, Tryd.ntmps53
  go_wp2_with fail
  go_loop [5] (fun x => ∃ k : Nat, i + k ≤ s.size ∧ x = .int .i64 k ∧ Hid (if k = 0 then (if i < s.size ∧ begB (g i) = true then R = nameW s.size g i else R = i) else R = nameW s.size g (i + k))) (fun x => s.size + 1 - (intOf x).toNat)
  case atStart => exact ⟨0, by omega, rfl, Lib.hid (by rw [if_pos rfl]; exact HI.out)⟩
  case round =>
    obtain ⟨k, hk, rfl, HK⟩ := hrel
    have e1 : ((i : Int) + (k : Int)).toNat = i + k := by omega
    by_cases hlt : i + k < s.size
    · by_cases hk0 : k = 0
      · subst hk0
        have HK2 : Hid (if i < s.size ∧ begB (g i) = true then R = nameW s.size g i else R = i) := Lib.hid (by have e := HK.out; rwa [if_pos rfl] at e)
        clear HK e1
        cases hb : begB (g i) with
        | true =>
          have HK3 : Hid (R = nameW s.size g (i + 1)) := Lib.hid (by have e := HK2.out; rw [if_pos ⟨by omega, hb⟩, nameW, if_pos ⟨by omega, .inl hb⟩] at e; exact e)
          go_wp2_with (first | (go_at_call 73; refine (rletter_any _ _).mono ?_; rintro e w' ⟨rfl, rfl⟩) | (go_at_call 74; refine (rdigit_any _ _).mono ?_; rintro e w' ⟨rfl, rfl⟩))
          go_round
          case rel => exact ⟨1, by omega, by go_num, Lib.hid (by rw [if_neg (by omega)]; exact HK3.out)⟩
          case measure => simp [intOf] <;> omega
        | false =>
          have HK3 : Hid (R = i) := Lib.hid (by have e := HK2.out; rw [if_neg (by simp [hb])] at e; exact e)
          go_wp2_with (first | (go_at_call 73; refine (rletter_any _ _).mono ?_; rintro e w' ⟨rfl, rfl⟩) | (go_at_call 74; refine (rdigit_any _ _).mono ?_; rintro e w' ⟨rfl, rfl⟩))
          go_ret
          exact ⟨ret_int (by rw [HK3.out]; simp), rfl⟩
      · have HK2 : Hid (R = nameW s.size g (i + k)) := Lib.hid (by have e := HK.out; rwa [if_neg hk0] at e)
        have d1 : (0 : Int) < (k : Int) := by omega
        clear HK hk0
        go_wp2_with (first | (go_at_call 73; refine (rletter_any _ _).mono ?_; rintro e w' ⟨rfl, rfl⟩) | (go_at_call 74; refine (rdigit_any _ _).mono ?_; rintro e w' ⟨rfl, rfl⟩))
        all_goals first
          | (go_round
             case rel => exact ⟨k + 1, by omega, by go_num, Lib.hid (by rw [if_neg (by omega)]; have e := HK2.out; rw [nameW] at e; grind)⟩
             case measure => simp [intOf]; omega)
          | (go_ret
             exact ⟨ret_int (by have e := HK2.out; rw [nameW] at e; grind), rfl⟩)
    · have HK2 : Hid (R - i = k) := Lib.hid (by
        have e := HK.out
        by_cases hk0 : k = 0
        · rw [if_pos hk0, if_neg (by omega)] at e; omega
        · rw [if_neg hk0, nameW, if_neg (by omega)] at e; omega)
      clear HK
      go_wp2_with fail
      go_ret
      exact ⟨ret_int (by rw [HK2.out]), rfl⟩

set_option maxRecDepth 100000 in
theorem rname_any (t : ByteArray) (w : World) (hs : t.size ≤ 1000000) :
    Calls Tryd.prog 36 #[.string t] w fun e w' => e = .returned (.bool (isNameB t)) ∧ w = w' := by
  have hn := nameAt_any t 0 w (by omega) hs
  have HN := Lib.hid hn
  have HR : Hid (isNameB t = decide (1 ≤ t.size ∧ t.size ≤ 20 ∧ nameF t.size (gAt t) 0 - 0 = t.size)) := Lib.hid rfl
  generalize isNameB t = R at HR ⊢
  generalize nameF t.size (gAt t) 0 - 0 = m at HN HR
  clear hn
  by_cases h1 : 1 ≤ t.size
  · by_cases h20 : t.size ≤ 20
    · by_cases hm : m = t.size
      · have HR2 : Hid (R = true) := Lib.hid (by rw [HR.out]; exact decide_eq_true (by omega))
        subst hm
        go_enter Tryd.func36, Tryd.ntmps36
        go_wp2_with (first | (go_at_call 53; refine HN.out.mono ?_; rintro e w' ⟨rfl, rfl⟩))
        go_ret
        exact ⟨ret_bool (by rw [HR2.out]), rfl⟩
      · have HR2 : Hid (R = false) := Lib.hid (by rw [HR.out]; exact decide_eq_false (by omega))
        have d3 : ((m : Int) == (t.size : Int)) = false := by simp; omega
        clear hm
        go_enter Tryd.func36, Tryd.ntmps36
        go_wp2_with (first | (go_at_call 53; refine HN.out.mono ?_; rintro e w' ⟨rfl, rfl⟩))
        go_ret
        exact ⟨ret_bool (by rw [HR2.out]), rfl⟩
    · have HR2 : Hid (R = false) := Lib.hid (by rw [HR.out]; exact decide_eq_false (by omega))
      go_enter Tryd.func36, Tryd.ntmps36
      go_wp2_with fail
      go_ret
      exact ⟨ret_bool (by rw [HR2.out]), rfl⟩
  · have HR2 : Hid (R = false) := Lib.hid (by rw [HR.out]; exact decide_eq_false (by omega))
    go_enter Tryd.func36, Tryd.ntmps36
    go_wp2_with fail
    go_ret
    exact ⟨ret_bool (by rw [HR2.out]), rfl⟩
end

section
open Go.RowKit
set_option linter.unusedVariables false

/-- more digits than may be, somewhere behind a dollar that is not passed over -/
def nextF (n : Nat) (g : Nat → Int) (i : Nat) : Nat := max (overF n g i).toNat (i + 1)
def tooF (n : Nat) (g : Nat → Int) (i : Nat) : Bool :=
  if i < n then
    if g i = 36 ∧ 3 < digF n g (tagF n g (i + 1)) - tagF n g (i + 1) then true else tooF n g (nextF n g i)
  else false
  termination_by n - i
  decreasing_by unfold nextF; omega

theorem nextF_bd (n : Nat) (g : Nat → Int) (i : Nat) (hi : i < n) : i < nextF n g i ∧ nextF n g i ≤ n := by
  have := overF_bd n g i hi
  unfold nextF; omega

set_option maxRecDepth 100000 in
theorem tooLong_any (s : ByteArray) (w : World) (hm : MaxAt w) (hs : s.size ≤ 1000000) :
    Calls Tryd.prog 37 #[.string s] w fun e w' => e = .returned (.bool (tooF s.size (gAt s) 0)) ∧ w = w' := by
  have hg := fun j h => gAt_get s j h
  have HS := Lib.hid (fun k hk => skip_any s k w hm hk hs)
  have HT := Lib.hid (fun k hk => tag_any s k w hk hs)
  have HD := Lib.hid (fun k hk => digits_any s k w hk hs)
  generalize gAt s = g at *
  have HR : Hid (∃ R, R = tooF s.size g 0) := ⟨_, rfl⟩
  obtain ⟨R, hR⟩ := HR
  rw [← hR]
  have HI := Lib.hid hR
  clear hR hm
  go_enter Tryd.func37, Tryd.ntmps37
  go_wp2_with fail
  go_loop [3] (fun x => ∃ k : Nat, k ≤ s.size ∧ x = .int .i64 k ∧ Hid (R = tooF s.size g k)) (fun x => s.size + 1 - (intOf x).toNat)
  case atStart => exact ⟨0, by omega, rfl, HI⟩
  case round =>
    obtain ⟨k, hk, rfl, HK⟩ := hrel
    by_cases hlt : k < s.size
    · have hnb := nextF_bd s.size g k hlt
      have hob := overF_bd s.size g k hlt
      have hnx : (nextF s.size g k : Int) = max (overF s.size g k) ((k : Int) + 1) := by unfold nextF; omega
      have hs0 := HS.out k hlt
      have HN : Hid (nextF s.size g k = nextF s.size g k) := rfl
      have HK2 := HK.out
      rw [tooF, if_pos hlt] at HK2
      have HK3 := Lib.hid HK2
      clear HK HK2
      generalize nextF s.size g k = m at hnb hnx HK3
      generalize overF s.size g k = o at hob hnx hs0
      have HSk := Lib.hid hs0
      have HX := Lib.hid hnx
      clear hs0 hnx
      by_cases h36 : g k = 36
      · have d0 : (g k == 36) = true := by simpa using h36
        have htb := tagF_bd s.size g (k + 1) (by omega)
        have hdb := digF_bd s.size g (tagF s.size g (k + 1)) htb.2
        have ht0 := HT.out (k + 1) (by omega)
        have hd0 := HD.out (tagF s.size g (k + 1)) htb.2
        push_cast at ht0
        have HK4 : Hid (R = if 3 < digF s.size g (tagF s.size g (k + 1)) - tagF s.size g (k + 1) then true else tooF s.size g m) := Lib.hid (by have e := HK3.out; by_cases h : 3 < digF s.size g (tagF s.size g (k + 1)) - tagF s.size g (k + 1) <;> simp [h, h36] at e ⊢ <;> exact e)
        clear h36 HK3
        generalize digF s.size g (tagF s.size g (k + 1)) = d at *
        generalize tagF s.size g (k + 1) = t at *
        have HTk := Lib.hid ht0
        have HDk := Lib.hid hd0
        clear ht0 hd0
        by_cases h3 : 3 < d - t
        · have d1 : (3 : Int) < (d : Int) - (t : Int) := by omega
          have HK5 : Hid (R = true) := Lib.hid (by have e := HK4.out; rwa [if_pos h3] at e)
          go_wp2_with (first | (go_at_call 54; refine HTk.out.mono ?_; rintro e w' ⟨rfl, rfl⟩) | (go_at_call 55; refine HDk.out.mono ?_; rintro e w' ⟨rfl, rfl⟩))
          go_ret
          exact ⟨ret_bool HK5.out.symm, rfl⟩
        · have d1 : ¬ (3 : Int) < (d : Int) - (t : Int) := by omega
          have HK5 : Hid (R = tooF s.size g m) := Lib.hid (by have e := HK4.out; rwa [if_neg h3] at e)
          go_wp2_with (first | (go_at_call 54; refine HTk.out.mono ?_; rintro e w' ⟨rfl, rfl⟩) | (go_at_call 55; refine HDk.out.mono ?_; rintro e w' ⟨rfl, rfl⟩) | (go_at_call 30; refine HSk.out.mono ?_; rintro e w' ⟨rfl, rfl⟩))
          go_round
          case rel => exact ⟨m, by omega, by rw [HX.out], HK5⟩
          case measure => simp [intOf]; omega
      · have d0 : (g k == 36) = false := by simpa using h36
        have HK5 : Hid (R = tooF s.size g m) := Lib.hid (by have e := HK3.out; rwa [if_neg (fun h => h36 h.1)] at e)
        clear HK3 h36
        go_wp2_with (first | (go_at_call 30; refine HSk.out.mono ?_; rintro e w' ⟨rfl, rfl⟩))
        go_round
        case rel => exact ⟨m, by omega, by rw [HX.out], HK5⟩
        case measure => simp [intOf]; omega
    · go_wp2_with fail
      go_ret
      exact ⟨ret_bool (by have e := HK.out; rw [tooF, if_neg hlt] at e; exact e.symm), rfl⟩

structure Pc where
  kind : Int
  text : ByteArray
  num : Int
  tag : ByteArray

def Pc.agg (p : Pc) : Value := .agg #[.int .i64 p.kind, .string p.text, .int .i64 p.num, .string p.tag]
def Pc.cells (p : Pc) : List Value := [.int .i64 p.kind, .string p.text, .int .i64 p.num, .string p.tag]

def pieceF (s : ByteArray) (n : Nat) (g : Nat → Int) (i : Nat) : Pc × Nat :=
  let b := tagF n g (i + 1)
  let tag := if i + 1 < b then s.extract (i + 2) (b - 1) else ByteArray.empty
  if b < n ∧ g b = 36 then (⟨2, ByteArray.empty, 0, tag⟩, b + 1)
  else if digF n g b = b then (⟨0, ByteArray.empty, 0, ByteArray.empty⟩, i)
  else (⟨3, ByteArray.empty, numW g b (digF n g b - b), tag⟩, digF n g b)

theorem numW_sub (s : ByteArray) (a e : Nat) (he : e ≤ s.size) : ∀ k, k ≤ e - a → numW (gAt (s.extract a e)) 0 k = numW (gAt s) a k := by
  intro k
  induction k with
  | zero => intro _; rfl
  | succ k ih =>
    intro hk
    rw [numW, numW, ih (by omega), Nat.zero_add, gAt_sub s a e k he (by omega)]

theorem digF_all (n : Nat) (g : Nat → Int) (i : Nat) : ∀ j, i ≤ j → j < digF n g i → digB (g j) = true := by
  fun_induction digF n g i with
  | case1 i h ih =>
    intro j h1 h2
    by_cases e : j = i
    · subst e; exact h.2
    · exact ih j (by omega) h2
  | case2 i h => intro j h1 h2; omega

theorem number_at (s : ByteArray) (t : Nat) (w : World) (ht : t ≤ s.size) (hs : s.size ≤ 1000000) :
    Calls Tryd.prog 56 #[.string (s.extract t (digF s.size (gAt s) t))] w fun e w' => e = .returned (.int .i64 (numW (gAt s) t (digF s.size (gAt s) t - t))) ∧ w = w' := by
  have hb := digF_bd s.size (gAt s) t ht
  have hz : (s.extract t (digF s.size (gAt s) t)).size = digF s.size (gAt s) t - t := by rw [ByteArray.size_extract]; omega
  have := number_any (s.extract t (digF s.size (gAt s) t)) w (by omega) (fun j hj => by
    rw [hz] at hj
    rw [gAt_sub s t _ j hb.2 (by omega)]
    have := digF_all s.size (gAt s) t (t + j) (by omega) (by omega)
    unfold digB at this
    simpa using this)
  rwa [hz, numW_sub s t _ hb.2 _ (Nat.le_refl _)] at this

theorem tagF_two (n : Nat) (g : Nat → Int) (i : Nat) : tagF n g i = i ∨ i + 3 ≤ tagF n g i := by
  unfold tagF; split
  · right; omega
  · left; rfl

def tagT (s : ByteArray) (i b : Nat) : ByteArray := if i + 1 < b then s.extract (i + 2) (b - 1) else ByteArray.empty
theorem pieceF_eq (s : ByteArray) (n : Nat) (g : Nat → Int) (i : Nat) : pieceF s n g i =
    if tagF n g (i + 1) < n ∧ g (tagF n g (i + 1)) = 36 then (⟨2, ByteArray.empty, 0, tagT s i (tagF n g (i + 1))⟩, tagF n g (i + 1) + 1)
    else if digF n g (tagF n g (i + 1)) = tagF n g (i + 1) then (⟨0, ByteArray.empty, 0, ByteArray.empty⟩, i)
    else (⟨3, ByteArray.empty, numW g (tagF n g (i + 1)) (digF n g (tagF n g (i + 1)) - tagF n g (i + 1)), tagT s i (tagF n g (i + 1))⟩, digF n g (tagF n g (i + 1))) := rfl

set_option maxRecDepth 100000 in
theorem piece_any (s : ByteArray) (i : Nat) (w : World) (hi : i < s.size) (hs : s.size ≤ 1000000) :
    Calls Tryd.prog 38 #[.string s, .int .i64 i] w fun e w' => e = .returned (.tuple #[(pieceF s s.size (gAt s) i).1.agg, .int .i64 ((pieceF s s.size (gAt s) i).2 : Nat)]) ∧ Below w.heap.size w w' := by
  have hg := fun j h => gAt_get s j h
  have htb := tagF_bd s.size (gAt s) (i + 1) (by omega)
  have ht2 := tagF_two s.size (gAt s) (i + 1)
  have ht0 := fun W => tag_any s (i + 1) W (by omega) hs
  have hd0 := fun W => digits_any s (tagF s.size (gAt s) (i + 1)) W htb.2 hs
  have hn0 := fun W => number_at s (tagF s.size (gAt s) (i + 1)) W htb.2 hs
  have hdb := digF_bd s.size (gAt s) (tagF s.size (gAt s) (i + 1)) htb.2
  push_cast at ht0
  have HR := Lib.hid (pieceF_eq s s.size (gAt s) i)
  generalize pieceF s s.size (gAt s) i = R at HR ⊢
  generalize numW (gAt s) (tagF s.size (gAt s) (i + 1)) (digF s.size (gAt s) (tagF s.size (gAt s) (i + 1)) - tagF s.size (gAt s) (i + 1)) = v at *
  generalize digF s.size (gAt s) (tagF s.size (gAt s) (i + 1)) = d at *
  generalize tagF s.size (gAt s) (i + 1) = t at *
  generalize gAt s = g at *
  have HT := Lib.hid ht0
  have HD := Lib.hid hd0
  have HN := Lib.hid hn0
  clear ht0 hd0 hn0
  by_cases hA : i + 1 < t
  · have hTT : tagT s i t = s.extract (i + 2) (t - 1) := if_pos hA
    have h2 : (i : Int) + 2 ≤ (t : Int) - 1 := by omega
    have h3 : (t : Int) - 1 ≤ (s.size : Int) := by omega
    have h1 : (i : Int) + 1 < (t : Int) := by omega
    have e1 : ((t : Int) - 1).toNat = t - 1 := by omega
    have e2 : ((i : Int) + 2).toNat = i + 2 := by omega
    rw [hTT] at HR
    clear hTT ht2
    go_enter Tryd.func38, Tryd.ntmps38
    go_wp2_with (first | (go_at_call 54; refine (HT.out _).mono ?_; rintro e w' ⟨rfl, rfl⟩) | (go_at_call 55; refine (HD.out _).mono ?_; rintro e w' ⟨rfl, rfl⟩) | (go_at_call 56; refine (HN.out _).mono ?_; rintro e w' ⟨rfl, rfl⟩))
    all_goals first
      | (have hR : R = (⟨2, ByteArray.empty, 0, (s.extract (i + 2) (t - 1))⟩, t + 1) := by have e := HR.out; grind
         exact bodyPost_ret (v := .tuple #[.agg #[.int .i64 2, .string ByteArray.empty, .int .i64 0, .string (s.extract (i + 2) (t - 1))], .int .i64 ((t : Int) + 1)]) (by simp [results, Tryd.results38, go_sem]; rfl) rfl ⟨by rw [hR]; rfl, (Below.refl _ _).alloc (Nat.le_refl _) _⟩)
      | (have hR : R = (⟨0, ByteArray.empty, 0, ByteArray.empty⟩, i) := by have e := HR.out; grind
         exact bodyPost_ret (v := .tuple #[.agg #[.int .i64 0, .string ByteArray.empty, .int .i64 0, .string ByteArray.empty], .int .i64 (i : Int)]) (by simp [results, Tryd.results38, go_sem]; rfl) rfl ⟨by rw [hR]; rfl, (Below.refl _ _).alloc (Nat.le_refl _) _⟩)
      | (have hR : R = (⟨3, ByteArray.empty, v, (s.extract (i + 2) (t - 1))⟩, d) := by have e := HR.out; grind
         exact bodyPost_ret (v := .tuple #[.agg #[.int .i64 3, .string ByteArray.empty, .int .i64 v, .string (s.extract (i + 2) (t - 1))], .int .i64 (d : Int)]) (by simp [results, Tryd.results38, go_sem]; rfl) rfl ⟨by rw [hR]; rfl, (Below.refl _ _).alloc (Nat.le_refl _) _⟩)
  · obtain rfl : t = i + 1 := by omega
    have hTT : tagT s i (i + 1) = ByteArray.empty := if_neg hA
    rw [hTT] at HR
    clear hTT ht2
    go_enter Tryd.func38, Tryd.ntmps38
    go_wp2_with (first | (go_at_call 54; refine (HT.out _).mono ?_; rintro e w' ⟨rfl, rfl⟩) | (go_at_call 55; refine (HD.out _).mono ?_; rintro e w' ⟨rfl, rfl⟩) | (go_at_call 56; refine (HN.out _).mono ?_; rintro e w' ⟨rfl, rfl⟩))
    all_goals first
      | (have hR : R = (⟨2, ByteArray.empty, 0, ByteArray.empty⟩, i + 1 + 1) := by have e := HR.out; grind
         exact bodyPost_ret (v := .tuple #[.agg #[.int .i64 2, .string ByteArray.empty, .int .i64 0, .string ByteArray.empty], .int .i64 ((i : Int) + 1 + 1)]) (by simp [results, Tryd.results38, go_sem]; rfl) rfl ⟨by rw [hR]; rfl, (Below.refl _ _).alloc (Nat.le_refl _) _⟩)
      | (have hR : R = (⟨0, ByteArray.empty, 0, ByteArray.empty⟩, i) := by have e := HR.out; grind
         exact bodyPost_ret (v := .tuple #[.agg #[.int .i64 0, .string ByteArray.empty, .int .i64 0, .string ByteArray.empty], .int .i64 (i : Int)]) (by simp [results, Tryd.results38, go_sem]; rfl) rfl ⟨by rw [hR]; rfl, (Below.refl _ _).alloc (Nat.le_refl _) _⟩)
      | (have hR : R = (⟨3, ByteArray.empty, v, ByteArray.empty⟩, d) := by have e := HR.out; grind
         exact bodyPost_ret (v := .tuple #[.agg #[.int .i64 3, .string ByteArray.empty, .int .i64 v, .string ByteArray.empty], .int .i64 (d : Int)]) (by simp [results, Tryd.results38, go_sem]; rfl) rfl ⟨by rw [hR]; rfl, (Below.refl _ _).alloc (Nat.le_refl _) _⟩)
end

end Go.Proofs.YtmpdpgbcflogfaaDoor
