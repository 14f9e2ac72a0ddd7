/- Tags; the document's names. -/
import Derived.Test.YtmpdpgbcflogfaaDoorName
namespace Go.Proofs.YtmpdpgbcflogfaaDoor
open Go.RowKit
set_option linter.unusedVariables false

theorem gAt_sub (s : ByteArray) (a e j : Nat) (he : e ≤ s.size) (hj : a + j < e) : gAt (s.extract a e) j = gAt s (a + j) := by
  have h1 : j < (s.extract a e).size := by rw [ByteArray.size_extract]; omega
  rw [← gAt_get _ j h1, ← gAt_get s (a + j) (by omega)]
  congr 1
  rw [ByteArray.getElem_extract]

theorem nameW_sub (s : ByteArray) (a e : Nat) (he : e ≤ s.size) : ∀ m j, e - (a + j) = m → a + j ≤ e → nameW s.size (gAt s) (a + j) = e → nameW (e - a) (gAt (s.extract a e)) j = e - a := by
  intro m
  induction m with
  | zero =>
    intro j h1 h2 h3
    rw [nameW, if_neg (by omega)]; omega
  | succ m ih =>
    intro j h1 h2 h3
    by_cases hc : a + j < s.size ∧ (begB (gAt s (a + j)) = true ∨ digB (gAt s (a + j)) = true ∨ gAt s (a + j) = 46)
    · rw [nameW, if_pos hc] at h3
      rw [nameW, gAt_sub s a e j he (by omega), if_pos ⟨by omega, hc.2⟩]
      exact ih (j + 1) (by omega) (by omega) (by rw [← h3]; congr 1)
    · rw [nameW, if_neg hc] at h3
      omega

theorem isName_sub (s : ByteArray) (a : Nat) (ha : a ≤ s.size) : isNameB (s.extract a (nameF s.size (gAt s) a)) = decide (a < nameF s.size (gAt s) a ∧ nameF s.size (gAt s) a - a ≤ 20) := by
  have hb := nameF_bd s.size (gAt s) a ha
  unfold isNameB
  have hsz : (s.extract a (nameF s.size (gAt s) a)).size = nameF s.size (gAt s) a - a := by rw [ByteArray.size_extract]; omega
  rw [hsz]
  by_cases h : a < s.size ∧ begB (gAt s a) = true
  · have e1 : nameF s.size (gAt s) a = nameW s.size (gAt s) a := by unfold nameF; rw [if_pos h]
    rw [e1] at hb ⊢
    have h2 : a < nameW s.size (gAt s) a := by
      have := nameW_bd s.size (gAt s) (a + 1) (by omega)
      rw [nameW, if_pos ⟨h.1, .inl h.2⟩]; omega
    have h3 := nameW_sub s a (nameW s.size (gAt s) a) hb.2 _ 0 rfl (by omega) rfl
    have h4 : nameF (nameW s.size (gAt s) a - a) (gAt (s.extract a (nameW s.size (gAt s) a))) 0 = nameW s.size (gAt s) a - a := by
      unfold nameF
      rw [gAt_sub s a _ 0 hb.2 (by omega)]
      rw [if_pos ⟨by omega, h.2⟩]
      exact h3
    rw [h4, Bool.eq_iff_iff, decide_eq_true_iff, decide_eq_true_iff]
    omega
  · have e1 : nameF s.size (gAt s) a = a := by unfold nameF; rw [if_neg h]
    rw [e1, Bool.eq_iff_iff, decide_eq_true_iff, decide_eq_true_iff]
    omega

/-- the place behind a name in angles -/
def tagF (n : Nat) (g : Nat → Int) (i : Nat) : Nat :=
  if i < n ∧ g i = 60 ∧ i + 1 < nameF n g (i + 1) ∧ nameF n g (i + 1) - (i + 1) ≤ 20 ∧ nameF n g (i + 1) < n ∧ g (nameF n g (i + 1)) = 62 then nameF n g (i + 1) + 1 else i
theorem tagF_bd (n : Nat) (g : Nat → Int) (i : Nat) (hi : i ≤ n) : i ≤ tagF n g i ∧ tagF n g i ≤ n := by
  unfold tagF; split <;> omega

set_option maxRecDepth 100000 in
theorem tag_any (s : ByteArray) (i : Nat) (w : World) (hi : i ≤ s.size) (hs : s.size ≤ 1000000) :
    Calls Tryd.prog 54 #[.string s, .int .i64 i] w fun e w' => e = .returned (.int .i64 (tagF s.size (gAt s) i : Nat)) ∧ w = w' := by
  have hg := fun j h => gAt_get s j h
  by_cases h60 : i < s.size ∧ gAt s i = 60
  · obtain ⟨hlt, hc⟩ := h60
    have hn := name_at s (i + 1) w (by omega) hs
    have hbd := nameF_bd s.size (gAt s) (i + 1) (by omega)
    have hnm := isName_sub s (i + 1) (by omega)
    have HR : Hid (tagF s.size (gAt s) i = if i + 1 < nameF s.size (gAt s) (i + 1) ∧ nameF s.size (gAt s) (i + 1) - (i + 1) ≤ 20 ∧ nameF s.size (gAt s) (i + 1) < s.size ∧ gAt s (nameF s.size (gAt s) (i + 1)) = 62 then nameF s.size (gAt s) (i + 1) + 1 else i) := Lib.hid (by
      unfold tagF
      by_cases h : i + 1 < nameF s.size (gAt s) (i + 1) ∧ nameF s.size (gAt s) (i + 1) - (i + 1) ≤ 20 ∧ nameF s.size (gAt s) (i + 1) < s.size ∧ gAt s (nameF s.size (gAt s) (i + 1)) = 62
      · rw [if_pos ⟨hlt, hc, h⟩, if_pos h]
      · rw [if_neg (fun hh => h hh.2.2), if_neg h])
    push_cast at hn
    generalize nameF s.size (gAt s) (i + 1) = e at *
    have hI := fun W => isName_any (s.extract (i + 1) e) W (by rw [ByteArray.size_extract]; omega)
    rw [hnm] at hI
    have HN := Lib.hid hn
    have HI := Lib.hid hI
    clear hn hI hnm
    generalize tagF s.size (gAt s) i = R at *
    generalize gAt s = g at *
    have d1 : decide (s.size ≤ i) = false := by simp; omega
    have d2 : (g i != 60) = false := by simp [hc]
    clear hc
    by_cases hlt2 : e < s.size
    · have d3 : decide (s.size ≤ e) = false := by simp; omega
      go_enter Tryd.func54, Tryd.ntmps54
      go_wp2_with (first | (go_at_call 60; refine HN.out.mono ?_; rintro e w' ⟨rfl, rfl⟩) | (go_at_call 50; refine (HI.out _).mono ?_; rintro e w' ⟨rfl, rfl⟩))
      all_goals
        go_ret
        exact ⟨ret_int (by have e := HR.out; grind), rfl⟩
    · have d3 : decide (s.size ≤ e) = true := by simp; omega
      go_enter Tryd.func54, Tryd.ntmps54
      go_wp2_with (first | (go_at_call 60; refine HN.out.mono ?_; rintro e w' ⟨rfl, rfl⟩) | (go_at_call 50; refine (HI.out _).mono ?_; rintro e w' ⟨rfl, rfl⟩))
      all_goals
        go_ret
        exact ⟨ret_int (by have e := HR.out; grind), rfl⟩
  · have HR : Hid (tagF s.size (gAt s) i = i) := Lib.hid (by unfold tagF; rw [if_neg (fun h => h60 ⟨h.1, h.2.1⟩)])
    generalize tagF s.size (gAt s) i = R at *
    generalize gAt s = g at *
    by_cases hlt : i < s.size
    · have d1 : decide (s.size ≤ i) = false := by simp; omega
      have d2 : (g i != 60) = true := by simp; exact fun h => h60 ⟨hlt, h⟩
      clear h60
      go_enter Tryd.func54, Tryd.ntmps54
      go_wp2_with fail
      go_ret
      exact ⟨ret_int (by rw [HR.out]), rfl⟩
    · have d1 : decide (s.size ≤ i) = true := by simp; omega
      clear h60
      go_enter Tryd.func54, Tryd.ntmps54
      go_wp2_with fail
      go_ret
      exact ⟨ret_int (by rw [HR.out]), rfl⟩

/-- the number of a row of digits -/
def numW (g : Nat → Int) (a : Nat) : Nat → Int
  | 0 => 0
  | k + 1 => wrap64 (wrap64 (numW g a k * 10) + (g (a + k) - 48))

set_option maxRecDepth 100000 in
theorem number_any (t : ByteArray) (w : World) (hs : t.size ≤ 1000000) (hd : ∀ j, j < t.size → 48 ≤ gAt t j ∧ gAt t j ≤ 57) :
    Calls Tryd.prog 56 #[.string t] w fun e w' => e = .returned (.int .i64 (numW (gAt t) 0 t.size)) ∧ w = w' := by
  have hg := fun j h => gAt_get t j h
  have HD := Lib.hid hd
  clear hd
  generalize gAt t = g at *
  go_enter Tryd.func56, Tryd.ntmps56
  go_wp2_with fail
  go_loop [3, 7] (fun x y => ∃ k : Nat, k ≤ t.size ∧ y = .int .i64 k ∧ x = .int .i64 (numW g 0 k)) (fun x y => t.size + 1 - (intOf y).toNat)
  case atStart => exact ⟨0, by omega, rfl, rfl⟩
  case round =>
    obtain ⟨k, hk, rfl, rfl⟩ := hrel
    by_cases hlt : k < t.size
    · obtain ⟨d1, d2⟩ := HD.out k hlt
      have HS : Hid (wrap64 (wrap64 (numW g 0 k * 10) + (g k - 48)) = numW g 0 (k + 1)) := Lib.hid (by rw [numW, Nat.zero_add])
      generalize numW g 0 k = m at HS
      go_wp2_with fail
      go_round
      case rel => exact ⟨k + 1, by omega, by go_num, by rw [HS.out]⟩
      case measure => simp [intOf]; omega
    · obtain rfl : k = t.size := by omega
      go_wp2_with fail
      go_ret
      exact ⟨rfl, rfl⟩

/-! the document's: how many bytes of a name stand there -/
set_option maxRecDepth 100000 in
theorem nameAt_any (s : ByteArray) (i : Nat) (w : World) (hi : i ≤ s.size) (hs : s.size ≤ 1000000) :
    Calls Tryd.prog 53 #[.string s, .int .i64 i] w fun e w' => e = .returned (.int .i64 (nameF s.size (gAt s) i - i : Nat)) ∧ w = w' := by
  have hg := fun j h => gAt_get s j h
  generalize gAt s = g at *
  have hbd := nameF_bd s.size g i hi
  have HR : Hid (∃ R, R = nameF s.size g i) := ⟨_, rfl⟩
  obtain ⟨R, hR⟩ := HR
  rw [← hR] at hbd ⊢
  have HI : Hid (if i < s.size ∧ begB (g i) = true then R = nameW s.size g i else R = i) := Lib.hid (by rw [hR]; unfold nameF; split <;> rfl)
  clear hR
  go_enter Tryd.func53, Tryd.ntmps53
  go_wp2_with fail
  go_loop [5] (fun x => ∃ k : Nat, i + k ≤ s.size ∧ x = .int .i64 k ∧ Hid (if k = 0 then (if i < s.size ∧ begB (g i) = true then R = nameW s.size g i else R = i) else R = nameW s.size g (i + k))) (fun x => s.size + 1 - (intOf x).toNat)
  case atStart => exact ⟨0, by omega, rfl, Lib.hid (by rw [if_pos rfl]; exact HI.out)⟩
  case round =>
    obtain ⟨k, hk, rfl, HK⟩ := hrel
    have e1 : ((i : Int) + (k : Int)).toNat = i + k := by omega
    by_cases hlt : i + k < s.size
    · by_cases hk0 : k = 0
      · subst hk0
        have HK2 : Hid (if i < s.size ∧ begB (g i) = true then R = nameW s.size g i else R = i) := Lib.hid (by have e := HK.out; rwa [if_pos rfl] at e)
        clear HK e1
        cases hb : begB (g i) with
        | true =>
          have HK3 : Hid (R = nameW s.size g (i + 1)) := Lib.hid (by have e := HK2.out; rw [if_pos ⟨by omega, hb⟩, nameW, if_pos ⟨by omega, .inl hb⟩] at e; exact e)
          go_wp2_with (first | (go_at_call 73; refine (rletter_any _ _).mono ?_; rintro e w' ⟨rfl, rfl⟩) | (go_at_call 74; refine (rdigit_any _ _).mono ?_; rintro e w' ⟨rfl, rfl⟩))
          go_round
          case rel => exact ⟨1, by omega, by go_num, Lib.hid (by rw [if_neg (by omega)]; exact HK3.out)⟩
          case measure => simp [intOf] <;> omega
        | false =>
          have HK3 : Hid (R = i) := Lib.hid (by have e := HK2.out; rw [if_neg (by simp [hb])] at e; exact e)
          go_wp2_with (first | (go_at_call 73; refine (rletter_any _ _).mono ?_; rintro e w' ⟨rfl, rfl⟩) | (go_at_call 74; refine (rdigit_any _ _).mono ?_; rintro e w' ⟨rfl, rfl⟩))
          go_ret
          exact ⟨ret_int (by rw [HK3.out]; simp), rfl⟩
      · have HK2 : Hid (R = nameW s.size g (i + k)) := Lib.hid (by have e := HK.out; rwa [if_neg hk0] at e)
        have d1 : (0 : Int) < (k : Int) := by omega
        clear HK hk0
        go_wp2_with (first | (go_at_call 73; refine (rletter_any _ _).mono ?_; rintro e w' ⟨rfl, rfl⟩) | (go_at_call 74; refine (rdigit_any _ _).mono ?_; rintro e w' ⟨rfl, rfl⟩))
        all_goals first
          | (go_round
             case rel => exact ⟨k + 1, by omega, by go_num, Lib.hid (by rw [if_neg (by omega)]; have e := HK2.out; rw [nameW] at e; grind)⟩
             case measure => simp [intOf]; omega)
          | (go_ret
             exact ⟨ret_int (by have e := HK2.out; rw [nameW] at e; grind), rfl⟩)
    · have HK2 : Hid (R - i = k) := Lib.hid (by
        have e := HK.out
        by_cases hk0 : k = 0
        · rw [if_pos hk0, if_neg (by omega)] at e; omega
        · rw [if_neg hk0, nameW, if_neg (by omega)] at e; omega)
      clear HK
      go_wp2_with fail
      go_ret
      exact ⟨ret_int (by rw [HK2.out]), rfl⟩

set_option maxRecDepth 100000 in
theorem rname_any (t : ByteArray) (w : World) (hs : t.size ≤ 1000000) :
    Calls Tryd.prog 36 #[.string t] w fun e w' => e = .returned (.bool (isNameB t)) ∧ w = w' := by
  have hn := nameAt_any t 0 w (by omega) hs
  have HN := Lib.hid hn
  have HR : Hid (isNameB t = decide (1 ≤ t.size ∧ t.size ≤ 20 ∧ nameF t.size (gAt t) 0 - 0 = t.size)) := Lib.hid rfl
  generalize isNameB t = R at HR ⊢
  generalize nameF t.size (gAt t) 0 - 0 = m at HN HR
  clear hn
  by_cases h1 : 1 ≤ t.size
  · by_cases h20 : t.size ≤ 20
    · by_cases hm : m = t.size
      · have HR2 : Hid (R = true) := Lib.hid (by rw [HR.out]; exact decide_eq_true (by omega))
        subst hm
        go_enter Tryd.func36, Tryd.ntmps36
        go_wp2_with (first | (go_at_call 53; refine HN.out.mono ?_; rintro e w' ⟨rfl, rfl⟩))
        go_ret
        exact ⟨ret_bool (by rw [HR2.out]), rfl⟩
      · have HR2 : Hid (R = false) := Lib.hid (by rw [HR.out]; exact decide_eq_false (by omega))
        have d3 : ((m : Int) == (t.size : Int)) = false := by simp; omega
        clear hm
        go_enter Tryd.func36, Tryd.ntmps36
        go_wp2_with (first | (go_at_call 53; refine HN.out.mono ?_; rintro e w' ⟨rfl, rfl⟩))
        go_ret
        exact ⟨ret_bool (by rw [HR2.out]), rfl⟩
    · have HR2 : Hid (R = false) := Lib.hid (by rw [HR.out]; exact decide_eq_false (by omega))
      go_enter Tryd.func36, Tryd.ntmps36
      go_wp2_with fail
      go_ret
      exact ⟨ret_bool (by rw [HR2.out]), rfl⟩
  · have HR2 : Hid (R = false) := Lib.hid (by rw [HR.out]; exact decide_eq_false (by omega))
    go_enter Tryd.func36, Tryd.ntmps36
    go_wp2_with fail
    go_ret
    exact ⟨ret_bool (by rw [HR2.out]), rfl⟩

end Go.Proofs.YtmpdpgbcflogfaaDoor
