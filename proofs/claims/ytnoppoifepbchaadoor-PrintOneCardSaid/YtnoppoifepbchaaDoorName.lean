/- Names and digits in texts. -/
import Derived.Test.YtnoppoifepbchaaDoorEnd
namespace Go.Proofs.YtnoppoifepbchaaDoor

section
open Go.RowKit
set_option linter.unusedVariables false

def letB (c : Int) : Bool := decide (97 ≤ c ∧ c ≤ 122 ∨ 65 ≤ c ∧ c ≤ 90)
def begB (c : Int) : Bool := decide (97 ≤ c ∧ c ≤ 122 ∨ 65 ≤ c ∧ c ≤ 90 ∨ c = 95)
def digB (c : Int) : Bool := decide (48 ≤ c ∧ c ≤ 57)

theorem letter_any (c : Int) (w : World) :
  Calls Tryd.prog 110 #[.int .u8 c] w fun e w' => e = .returned (.bool (letB c)) ∧ w = w' := by
 go_enter Tryd.func110, Tryd.ntmps110
 go_wp2
 all_goals
  go_ret
  exact ⟨ret_bool (by rw [Bool.eq_iff_iff]; unfold letB; simp at *; omega), rfl⟩
theorem digit_any (c : Int) (w : World) :
  Calls Tryd.prog 85 #[.int .u8 c] w fun e w' => e = .returned (.bool (digB c)) ∧ w = w' := by
 go_enter Tryd.func85, Tryd.ntmps85
 go_wp2
 all_goals
  go_ret
  exact ⟨ret_bool (by rw [Bool.eq_iff_iff]; unfold digB; simp at *; omega), rfl⟩
theorem begins_any (c : Int) (w : World) :
  Calls Tryd.prog 108 #[.int .u8 c] w fun e w' => e = .returned (.bool (begB c)) ∧ w = w' := by
 go_enter Tryd.func108, Tryd.ntmps108
 go_wp2_with (first | (go_at_call 110; refine (letter_any _ _).mono ?_; rintro e w' ⟨rfl, rfl⟩))
 all_goals
  go_ret
  exact ⟨ret_bool (by rw [Bool.eq_iff_iff]; unfold begB; unfold letB at *; simp at *; omega), rfl⟩
theorem rletter_any (c : Int) (w : World) :
  Calls Tryd.prog 79 #[.int .u8 c] w fun e w' => e = .returned (.bool (begB c)) ∧ w = w' := by
 go_enter Tryd.func79, Tryd.ntmps79
 go_wp2
 all_goals
  go_ret
  exact ⟨ret_bool (by rw [Bool.eq_iff_iff]; unfold begB; simp at *; omega), rfl⟩
theorem rdigit_any (c : Int) (w : World) :
  Calls Tryd.prog 80 #[.int .u8 c] w fun e w' => e = .returned (.bool (digB c)) ∧ w = w' := by
 go_enter Tryd.func80, Tryd.ntmps80
 go_wp2
 all_goals
  go_ret
  exact ⟨ret_bool (by rw [Bool.eq_iff_iff]; unfold digB; simp at *; omega), rfl⟩

/-- the place behind the digits -/
def digF (n : Nat) (g : Nat → Int) (i : Nat) : Nat := if i < n ∧ digB (g i) = true then digF n g (i + 1) else i
 termination_by n - i
/-- the place behind the bytes that a name may have -/
def nameW (n : Nat) (g : Nat → Int) (i : Nat) : Nat := if i < n ∧ (begB (g i) = true ∨ digB (g i) = true ∨ g i = 46) then nameW n g (i + 1) else i
 termination_by n - i
def nameF (n : Nat) (g : Nat → Int) (i : Nat) : Nat := if i < n ∧ begB (g i) = true then nameW n g i else i

theorem digF_bd (n : Nat) (g : Nat → Int) (i : Nat) (hi : i ≤ n) : i ≤ digF n g i ∧ digF n g i ≤ n := by
 fun_induction digF n g i with
 | case1 i h ih => have := ih (by omega); omega
 | case2 i h => omega
theorem nameW_bd (n : Nat) (g : Nat → Int) (i : Nat) (hi : i ≤ n) : i ≤ nameW n g i ∧ nameW n g i ≤ n := by
 fun_induction nameW n g i with
 | case1 i h ih => have := ih (by omega); omega
 | case2 i h => omega
theorem nameF_bd (n : Nat) (g : Nat → Int) (i : Nat) (hi : i ≤ n) : i ≤ nameF n g i ∧ nameF n g i ≤ n := by
 unfold nameF; split
 · exact nameW_bd n g i hi
 · omega

set_option maxRecDepth 100000 in
theorem digits_any (s : ByteArray) (i : Nat) (w : World) (hi : i ≤ s.size) (hs : s.size ≤ 1000000) :
  Calls Tryd.prog 109 #[.string s, .int .i64 i] w fun e w' => e = .returned (.int .i64 (digF s.size (gAt s) i : Nat)) ∧ w = w' := by
 have hg := fun j h => gAt_get s j h
 have HR := Lib.hid (show digF s.size (gAt s) i = digF s.size (gAt s) i from rfl)
 generalize gAt s = g at *
 generalize hR : digF s.size g i = R at HR ⊢
 have HI : Hid (R = digF s.size g i) := Lib.hid hR.symm
 clear HR hR
 go_enter Tryd.func109, Tryd.ntmps109
 go_wp2_with fail
 go_loop [1] (fun x => ∃ k : Nat, k ≤ s.size ∧ x = .int .i64 k ∧ Hid (R = digF s.size g k)) (fun x => s.size + 1 - (intOf x).toNat)
 case atStart => exact ⟨i, hi, rfl, HI⟩
 case round =>
  obtain ⟨k, hk, rfl, HK⟩ := hrel
  by_cases hlt : k < s.size
  · go_wp2_with (first | (go_at_call 85; refine (digit_any _ _).mono ?_; rintro e w' ⟨rfl, rfl⟩))
    all_goals first
     | (go_round
        case rel => exact ⟨k + 1, by omega, by go_num, Lib.hid (by have e := HK.out; rw [digF] at e; grind)⟩
        case measure => simp [intOf]; omega)
     | (go_ret
        exact ⟨ret_int (by have e := HK.out; rw [digF] at e; grind), rfl⟩)
  · go_wp2_with fail
    go_ret
    exact ⟨ret_int (by have e := HK.out; rw [digF, if_neg (by omega)] at e; rw [e]), rfl⟩

set_option maxRecDepth 100000 in
theorem name_at (s : ByteArray) (i : Nat) (w : World) (hi : i ≤ s.size) (hs : s.size ≤ 1000000) :
  Calls Tryd.prog 83 #[.string s, .int .i64 i] w fun e w' => e = .returned (.int .i64 (nameF s.size (gAt s) i : Nat)) ∧ w = w' := by
 have hg := fun j h => gAt_get s j h
 generalize gAt s = g at *
 by_cases hlt : i < s.size
 · cases hb : begB (g i) with
   | false =>
     have HR : Hid (nameF s.size g i = i) := Lib.hid (by unfold nameF; rw [if_neg (by simp [hb])])
     have d1 : decide (s.size ≤ i) = false := by simp; omega
     go_enter Tryd.func83, Tryd.ntmps83
     go_wp2_with (first | (go_at_call 108; refine (begins_any _ _).mono ?_; rintro e w' ⟨rfl, rfl⟩))
     go_ret
     exact ⟨ret_int (by rw [HR.out]), rfl⟩
   | true =>
     have HR : Hid (nameF s.size g i = nameW s.size g i) := Lib.hid (by unfold nameF; rw [if_pos ⟨hlt, hb⟩])
     have d1 : decide (s.size ≤ i) = false := by simp; omega
     generalize nameF s.size g i = R at HR ⊢
     go_enter Tryd.func83, Tryd.ntmps83
     go_wp2_with (first | (go_at_call 108; refine (begins_any _ _).mono ?_; rintro e w' ⟨rfl, rfl⟩))
     clear hb
     go_loop [1] (fun x => ∃ k : Nat, k ≤ s.size ∧ x = .int .i64 k ∧ Hid (R = nameW s.size g k)) (fun x => s.size + 1 - (intOf x).toNat)
     case atStart => exact ⟨i, hi, rfl, HR⟩
     case round =>
      obtain ⟨k, hk, rfl, HK⟩ := hrel
      by_cases hlt : k < s.size
      · go_wp2_with (first | (go_at_call 108; refine (begins_any _ _).mono ?_; rintro e w' ⟨rfl, rfl⟩) | (go_at_call 85; refine (digit_any _ _).mono ?_; rintro e w' ⟨rfl, rfl⟩))
        all_goals first
         | (go_round
            case rel => exact ⟨k + 1, by omega, by go_num, Lib.hid (by have e := HK.out; rw [nameW] at e; grind)⟩
            case measure => simp [intOf]; omega)
         | (go_ret
            exact ⟨ret_int (by have e := HK.out; rw [nameW] at e; grind), rfl⟩)
      · go_wp2_with fail
        go_ret
        exact ⟨ret_int (by have e := HK.out; rw [nameW, if_neg (by omega)] at e; rw [e]), rfl⟩
 · have HR : Hid (nameF s.size g i = i) := Lib.hid (by unfold nameF; rw [if_neg (by omega)])
   have d1 : decide (s.size ≤ i) = true := by simp; omega
   go_enter Tryd.func83, Tryd.ntmps83
   go_wp2_with fail
   go_ret
   exact ⟨ret_int (by rw [HR.out]), rfl⟩

/-- is a text a name? -/
def isNameB (t : ByteArray) : Bool := decide (1 ≤ t.size ∧ t.size ≤ 20 ∧ nameF t.size (gAt t) 0 = t.size)

set_option maxRecDepth 100000 in
theorem isName_any (t : ByteArray) (w : World) (hs : t.size ≤ 1000000) :
  Calls Tryd.prog 62 #[.string t] w fun e w' => e = .returned (.bool (isNameB t)) ∧ w = w' := by
 have hn := name_at t 0 w (by omega) hs
 have HN := Lib.hid hn
 have HR : Hid (isNameB t = decide (1 ≤ t.size ∧ t.size ≤ 20 ∧ nameF t.size (gAt t) 0 = t.size)) := Lib.hid rfl
 generalize isNameB t = R at HR ⊢
 generalize nameF t.size (gAt t) 0 = m at HN HR
 clear hn
 have hl : t.toList.length = t.size := by rw [Lib.toList_data]; rfl
 by_cases h0 : t.size = 0
 · have d1 : t.toList = [] := List.eq_nil_of_length_eq_zero (by omega)
   have HR2 : Hid (R = false) := Lib.hid (by rw [HR.out]; exact decide_eq_false (by omega))
   clear h0 hl
   go_enter Tryd.func62, Tryd.ntmps62
   go_wp2_with fail
   go_ret
   exact ⟨ret_bool HR2.out.symm, rfl⟩
 · have d1 : t.toList.isEmpty = false := by rw [List.isEmpty_eq_false_iff]; intro h; rw [h] at hl; exact h0 (by simpa using hl.symm)
   clear hl
   by_cases h20 : t.size ≤ 20
   · by_cases hm : m = t.size
     · have HR2 : Hid (R = true) := Lib.hid (by rw [HR.out]; exact decide_eq_true (by omega))
       subst hm
       go_enter Tryd.func62, Tryd.ntmps62
       go_wp2_with (first | (go_at_call 83; refine HN.out.mono ?_; rintro e w' ⟨rfl, rfl⟩))
       go_ret
       exact ⟨ret_bool (by rw [HR2.out]), rfl⟩
     · have HR2 : Hid (R = false) := Lib.hid (by rw [HR.out]; exact decide_eq_false (by omega))
       have d3 : ((m : Int) == (t.size : Int)) = false := by simp; omega
       clear hm
       go_enter Tryd.func62, Tryd.ntmps62
       go_wp2_with (first | (go_at_call 83; refine HN.out.mono ?_; rintro e w' ⟨rfl, rfl⟩))
       go_ret
       exact ⟨ret_bool (by rw [HR2.out]), rfl⟩
   · have HR2 : Hid (R = false) := Lib.hid (by rw [HR.out]; exact decide_eq_false (by omega))
     go_enter Tryd.func62, Tryd.ntmps62
     go_wp2_with fail
     go_ret
     exact ⟨ret_bool (by rw [HR2.out]), rfl⟩
end

section
open Go.RowKit
set_option linter.unusedVariables false

theorem gAt_sub (s : ByteArray) (a e j : Nat) (he : e ≤ s.size) (hj : a + j < e) : gAt (s.extract a e) j = gAt s (a + j) := by
 have h1 : j < (s.extract a e).size := by rw [ByteArray.size_extract]; omega
 rw [← gAt_get _ j h1, ← gAt_get s (a + j) (by omega)]
 congr 1
 rw [ByteArray.getElem_extract]

theorem nameW_sub (s : ByteArray) (a e : Nat) (he : e ≤ s.size) : ∀ m j, e - (a + j) = m → a + j ≤ e → nameW s.size (gAt s) (a + j) = e → nameW (e - a) (gAt (s.extract a e)) j = e - a := by
 intro m
 induction m with
 | zero =>
   intro j h1 h2 h3
   rw [nameW, if_neg (by omega)]; omega
 | succ m ih =>
   intro j h1 h2 h3
   by_cases hc : a + j < s.size ∧ (begB (gAt s (a + j)) = true ∨ digB (gAt s (a + j)) = true ∨ gAt s (a + j) = 46)
   · rw [nameW, if_pos hc] at h3
     rw [nameW, gAt_sub s a e j he (by omega), if_pos ⟨by omega, hc.2⟩]
     exact ih (j + 1) (by omega) (by omega) (by rw [← h3]; congr 1)
   · rw [nameW, if_neg hc] at h3
     omega

theorem isName_sub (s : ByteArray) (a : Nat) (ha : a ≤ s.size) : isNameB (s.extract a (nameF s.size (gAt s) a)) = decide (a < nameF s.size (gAt s) a ∧ nameF s.size (gAt s) a - a ≤ 20) := by
 have hb := nameF_bd s.size (gAt s) a ha
 unfold isNameB
 have hsz : (s.extract a (nameF s.size (gAt s) a)).size = nameF s.size (gAt s) a - a := by rw [ByteArray.size_extract]; omega
 rw [hsz]
 by_cases h : a < s.size ∧ begB (gAt s a) = true
 · have e1 : nameF s.size (gAt s) a = nameW s.size (gAt s) a := by unfold nameF; rw [if_pos h]
   rw [e1] at hb ⊢
   have h2 : a < nameW s.size (gAt s) a := by
    have := nameW_bd s.size (gAt s) (a + 1) (by omega)
    rw [nameW, if_pos ⟨h.1, .inl h.2⟩]; omega
   have h3 := nameW_sub s a (nameW s.size (gAt s) a) hb.2 _ 0 rfl (by omega) rfl
   have h4 : nameF (nameW s.size (gAt s) a - a) (gAt (s.extract a (nameW s.size (gAt s) a))) 0 = nameW s.size (gAt s) a - a := by
    unfold nameF
    rw [gAt_sub s a _ 0 hb.2 (by omega)]
    rw [if_pos ⟨by omega, h.2⟩]
    exact h3
   rw [h4, Bool.eq_iff_iff, decide_eq_true_iff, decide_eq_true_iff]
   omega
 · have e1 : nameF s.size (gAt s) a = a := by unfold nameF; rw [if_neg h]
   rw [e1, Bool.eq_iff_iff, decide_eq_true_iff, decide_eq_true_iff]
   omega

/-- the place behind a name in angles -/
def tagF (n : Nat) (g : Nat → Int) (i : Nat) : Nat :=
 if i < n ∧ g i = 60 ∧ i + 1 < nameF n g (i + 1) ∧ nameF n g (i + 1) - (i + 1) ≤ 20 ∧ nameF n g (i + 1) < n ∧ g (nameF n g (i + 1)) = 62 then nameF n g (i + 1) + 1 else i
theorem tagF_bd (n : Nat) (g : Nat → Int) (i : Nat) (hi : i ≤ n) : i ≤ tagF n g i ∧ tagF n g i ≤ n := by
 unfold tagF; split <;> omega

set_option maxRecDepth 100000 in
theorem tag_any (s : ByteArray) (i : Nat) (w : World) (hi : i ≤ s.size) (hs : s.size ≤ 1000000) :
  Calls Tryd.prog 88 #[.string s, .int .i64 i] w fun e w' => e = .returned (.int .i64 (tagF s.size (gAt s) i : Nat)) ∧ w = w' := by
 have hg := fun j h => gAt_get s j h
 by_cases h60 : i < s.size ∧ gAt s i = 60
 · obtain ⟨hlt, hc⟩ := h60
   have hn := name_at s (i + 1) w (by omega) hs
   have hbd := nameF_bd s.size (gAt s) (i + 1) (by omega)
   have hnm := isName_sub s (i + 1) (by omega)
   have HR : Hid (tagF s.size (gAt s) i = if i + 1 < nameF s.size (gAt s) (i + 1) ∧ nameF s.size (gAt s) (i + 1) - (i + 1) ≤ 20 ∧ nameF s.size (gAt s) (i + 1) < s.size ∧ gAt s (nameF s.size (gAt s) (i + 1)) = 62 then nameF s.size (gAt s) (i + 1) + 1 else i) := Lib.hid (by
    unfold tagF
    by_cases h : i + 1 < nameF s.size (gAt s) (i + 1) ∧ nameF s.size (gAt s) (i + 1) - (i + 1) ≤ 20 ∧ nameF s.size (gAt s) (i + 1) < s.size ∧ gAt s (nameF s.size (gAt s) (i + 1)) = 62
    · rw [if_pos ⟨hlt, hc, h⟩, if_pos h]
    · rw [if_neg (fun hh => h hh.2.2), if_neg h])
   push_cast at hn
   generalize nameF s.size (gAt s) (i + 1) = e at *
   have hI := fun W => isName_any (s.extract (i + 1) e) W (by rw [ByteArray.size_extract]; omega)
   rw [hnm] at hI
   have HN := Lib.hid hn
   have HI := Lib.hid hI
   clear hn hI hnm
   generalize tagF s.size (gAt s) i = R at *
   generalize gAt s = g at *
   have d1 : decide (s.size ≤ i) = false := by simp; omega
   have d2 : (g i != 60) = false := by simp [hc]
   clear hc
   by_cases hlt2 : e < s.size
   · have d3 : decide (s.size ≤ e) = false := by simp; omega
     go_enter Tryd.func88, Tryd.ntmps88
     go_wp2_with (first | (go_at_call 83; refine HN.out.mono ?_; rintro e w' ⟨rfl, rfl⟩) | (go_at_call 62; refine (HI.out _).mono ?_; rintro e w' ⟨rfl, rfl⟩))
     all_goals
      go_ret
      exact ⟨ret_int (by have e := HR.out; grind), rfl⟩
   · have d3 : decide (s.size ≤ e) = true := by simp; omega
     go_enter Tryd.func88, Tryd.ntmps88
     go_wp2_with (first | (go_at_call 83; refine HN.out.mono ?_; rintro e w' ⟨rfl, rfl⟩) | (go_at_call 62; refine (HI.out _).mono ?_; rintro e w' ⟨rfl, rfl⟩))
     all_goals
      go_ret
      exact ⟨ret_int (by have e := HR.out; grind), rfl⟩
 · have HR : Hid (tagF s.size (gAt s) i = i) := Lib.hid (by unfold tagF; rw [if_neg (fun h => h60 ⟨h.1, h.2.1⟩)])
   generalize tagF s.size (gAt s) i = R at *
   generalize gAt s = g at *
   by_cases hlt : i < s.size
   · have d1 : decide (s.size ≤ i) = false := by simp; omega
     have d2 : (g i != 60) = true := by simp; exact fun h => h60 ⟨hlt, h⟩
     clear h60
     go_enter Tryd.func88, Tryd.ntmps88
     go_wp2_with fail
     go_ret
     exact ⟨ret_int (by rw [HR.out]), rfl⟩
   · have d1 : decide (s.size ≤ i) = true := by simp; omega
     clear h60
     go_enter Tryd.func88, Tryd.ntmps88
     go_wp2_with fail
     go_ret
     exact ⟨ret_int (by rw [HR.out]), rfl⟩

set_option maxRecDepth 100000 in
theorem nameAt_any (s : ByteArray) (i : Nat) (w : World) (hi : i ≤ s.size) (hs : s.size ≤ 1000000) :
  Calls Tryd.prog 53 #[.string s, .int .i64 i] w fun e w' => e = .returned (.int .i64 (nameF s.size (gAt s) i - i : Nat)) ∧ w = w' := by
 have hg := fun j h => gAt_get s j h
 generalize gAt s = g at *
 have hbd := nameF_bd s.size g i hi
 have HR : Hid (∃ R, R = nameF s.size g i) := ⟨_, rfl⟩
 obtain ⟨R, hR⟩ := HR
 rw [← hR] at hbd ⊢
 have HI : Hid (if i < s.size ∧ begB (g i) = true then R = nameW s.size g i else R = i) := Lib.hid (by rw [hR]; unfold nameF; split <;> rfl)
 clear hR
 go_enter Tryd.func53, Tryd.ntmps53
 go_wp2_with fail
 go_loop [5] (fun x => ∃ k : Nat, i + k ≤ s.size ∧ x = .int .i64 k ∧ Hid (if k = 0 then (if i < s.size ∧ begB (g i) = true then R = nameW s.size g i else R = i) else R = nameW s.size g (i + k))) (fun x => s.size + 1 - (intOf x).toNat)
 case atStart => exact ⟨0, by omega, rfl, Lib.hid (by rw [if_pos rfl]; exact HI.out)⟩
 case round =>
  obtain ⟨k, hk, rfl, HK⟩ := hrel
  have e1 : ((i : Int) + (k : Int)).toNat = i + k := by omega
  by_cases hlt : i + k < s.size
  · by_cases hk0 : k = 0
    · subst hk0
      have HK2 : Hid (if i < s.size ∧ begB (g i) = true then R = nameW s.size g i else R = i) := Lib.hid (by have e := HK.out; rwa [if_pos rfl] at e)
      clear HK e1
      cases hb : begB (g i) with
      | true =>
        have HK3 : Hid (R = nameW s.size g (i + 1)) := Lib.hid (by have e := HK2.out; rw [if_pos ⟨by omega, hb⟩, nameW, if_pos ⟨by omega, .inl hb⟩] at e; exact e)
        go_wp2_with (first | (go_at_call 79; refine (rletter_any _ _).mono ?_; rintro e w' ⟨rfl, rfl⟩) | (go_at_call 80; refine (rdigit_any _ _).mono ?_; rintro e w' ⟨rfl, rfl⟩))
        go_round
        case rel => exact ⟨1, by omega, by go_num, Lib.hid (by rw [if_neg (by omega)]; exact HK3.out)⟩
        case measure => simp [intOf] <;> omega
      | false =>
        have HK3 : Hid (R = i) := Lib.hid (by have e := HK2.out; rw [if_neg (by simp [hb])] at e; exact e)
        go_wp2_with (first | (go_at_call 79; refine (rletter_any _ _).mono ?_; rintro e w' ⟨rfl, rfl⟩) | (go_at_call 80; refine (rdigit_any _ _).mono ?_; rintro e w' ⟨rfl, rfl⟩))
        go_ret
        exact ⟨ret_int (by rw [HK3.out]; simp), rfl⟩
    · have HK2 : Hid (R = nameW s.size g (i + k)) := Lib.hid (by have e := HK.out; rwa [if_neg hk0] at e)
      have d1 : (0 : Int) < (k : Int) := by omega
      clear HK hk0
      go_wp2_with (first | (go_at_call 79; refine (rletter_any _ _).mono ?_; rintro e w' ⟨rfl, rfl⟩) | (go_at_call 80; refine (rdigit_any _ _).mono ?_; rintro e w' ⟨rfl, rfl⟩))
      all_goals first
       | (go_round
          case rel => exact ⟨k + 1, by omega, by go_num, Lib.hid (by rw [if_neg (by omega)]; have e := HK2.out; rw [nameW] at e; grind)⟩
          case measure => simp [intOf]; omega)
       | (go_ret
          exact ⟨ret_int (by have e := HK2.out; rw [nameW] at e; grind), rfl⟩)
  · have HK2 : Hid (R - i = k) := Lib.hid (by
     have e := HK.out
     by_cases hk0 : k = 0
     · rw [if_pos hk0, if_neg (by omega)] at e; omega
     · rw [if_neg hk0, nameW, if_neg (by omega)] at e; omega)
    clear HK
    go_wp2_with fail
    go_ret
    exact ⟨ret_int (by rw [HK2.out]), rfl⟩

set_option maxRecDepth 100000 in
theorem rname_any (t : ByteArray) (w : World) (hs : t.size ≤ 1000000) :
  Calls Tryd.prog 24 #[.string t] w fun e w' => e = .returned (.bool (isNameB t)) ∧ w = w' := by
 have hn := nameAt_any t 0 w (by omega) hs
 have HN := Lib.hid hn
 have HR : Hid (isNameB t = decide (1 ≤ t.size ∧ t.size ≤ 20 ∧ nameF t.size (gAt t) 0 - 0 = t.size)) := Lib.hid rfl
 generalize isNameB t = R at HR ⊢
 generalize nameF t.size (gAt t) 0 - 0 = m at HN HR
 clear hn
 by_cases h1 : 1 ≤ t.size
 · by_cases h20 : t.size ≤ 20
   · by_cases hm : m = t.size
     · have HR2 : Hid (R = true) := Lib.hid (by rw [HR.out]; exact decide_eq_true (by omega))
       subst hm
       go_enter Tryd.func24, Tryd.ntmps24
       go_wp2_with (first | (go_at_call 53; refine HN.out.mono ?_; rintro e w' ⟨rfl, rfl⟩))
       go_ret
       exact ⟨ret_bool (by rw [HR2.out]), rfl⟩
     · have HR2 : Hid (R = false) := Lib.hid (by rw [HR.out]; exact decide_eq_false (by omega))
       have d3 : ((m : Int) == (t.size : Int)) = false := by simp; omega
       clear hm
       go_enter Tryd.func24, Tryd.ntmps24
       go_wp2_with (first | (go_at_call 53; refine HN.out.mono ?_; rintro e w' ⟨rfl, rfl⟩))
       go_ret
       exact ⟨ret_bool (by rw [HR2.out]), rfl⟩
   · have HR2 : Hid (R = false) := Lib.hid (by rw [HR.out]; exact decide_eq_false (by omega))
     go_enter Tryd.func24, Tryd.ntmps24
     go_wp2_with fail
     go_ret
     exact ⟨ret_bool (by rw [HR2.out]), rfl⟩
 · have HR2 : Hid (R = false) := Lib.hid (by rw [HR.out]; exact decide_eq_false (by omega))
   go_enter Tryd.func24, Tryd.ntmps24
   go_wp2_with fail
   go_ret
   exact ⟨ret_bool (by rw [HR2.out]), rfl⟩
end
end Go.Proofs.YtnoppoifepbchaaDoor
