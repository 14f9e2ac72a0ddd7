/- End: body's and the document's. -/
import Derived.Test.YtnoppoifepbchaaDoorOver3
namespace Go.Proofs.YtnoppoifepbchaaDoor

open Go.RowKit
set_option linter.unusedVariables false

set_option maxRecDepth 100000 in
theorem end_in (s : ByteArray) (g : Nat → Int) (i : Nat) (R : Int) (w : World) (hi : i < s.size) (hs : s.size ≤ 1000000) (hg : ∀ j (h : j < s.size), ((s[j]'h).toNat : Int) = g j)
  (h123 : g i = 123) (hm : MaxAt w) (HR : Hid (R = endF s.size g i 0)) (HS : Hid (∀ (k : Nat) (W : World), MaxAt W → k < s.size → Calls Tryd.prog 114 #[.string s, .int .i64 k] W fun e w' => e = .returned (.int .i64 (overF s.size g k)) ∧ W = w')) :
  Calls Tryd.prog 90 #[.string s, .int .i64 i] w fun e w' => e = .returned (.int .i64 R) ∧ Below w.heap.size w w' := by
 have hbd := Lib.hid (fun k h => overF_bd s.size g k h)
 have d0 : (g i != 123) = false := by simp [h123]
 have d1 : decide ((i : Int) < 0) = false := by simp
 have d2 : decide (s.size ≤ i) = false := by simp; omega
 clear h123
 go_enter Tryd.func90, Tryd.ntmps90
 go_wp2_with fail
 go_loopw [1, 5] (fun x y wr => ∃ (k : Nat) (d : Int), k ≤ s.size ∧ -(k : Int) ≤ d ∧ d ≤ k ∧ x = .int .i64 k ∧ y = .int .i64 d ∧ Hid (R = endF s.size g k d) ∧ Below w.heap.size w wr) (fun x y _ => s.size + 1 - (intOf x).toNat)
 case atStart => exact ⟨i, 0, by omega, by omega, by omega, rfl, rfl, HR, Below.refl _ _⟩
 case round =>
  obtain ⟨k, d, hk, hd1, hd2, rfl, rfl, HK, hb⟩ := hrel
  by_cases hlt : k < s.size
  · have HSk := Lib.hid (HS.out k wr (hm.below hb) hlt)
    have hbk := hbd.out k hlt
    have HK2 := HK.out
    rw [endF, if_pos hlt] at HK2
    have HK3 := Lib.hid HK2
    clear HK HK2
    generalize overF s.size g k = o at *
    by_cases h1 : o = -1
    · subst h1
      go_wp2_with fail
      refine HSk.out.mono ?_
      rintro e w1 ⟨rfl, hb1⟩
      obtain rfl := hb1; have hb2 := hb
      go_wp2_with fail
      go_ret
      exact ⟨ret_int (by have e := HK3.out; rw [if_pos (by omega)] at e; exact e.symm), hb2⟩
    · by_cases h2 : (k : Int) < o
      · obtain ⟨m, rfl⟩ := Int.eq_ofNat_of_zero_le (show 0 ≤ o by omega)
        have HK4 : Hid (R = endF s.size g m d) := Lib.hid (by have e := HK3.out; rw [if_neg (by omega), if_pos h2] at e; simpa using e)
        have hkm : k < m := by omega
        have hms : m ≤ s.size := by omega
        clear hbk h1
        go_wp2_with fail
        refine HSk.out.mono ?_
        rintro e w1 ⟨rfl, hb1⟩
        obtain rfl := hb1; have hb2 := hb
        go_wp2_with fail
        go_roundw
        case rel => exact ⟨m, d, by omega, by omega, by omega, by go_num, by go_num, HK4, hb2⟩
        case measure => simp [intOf]; omega
      · obtain rfl : o = (k : Int) := by omega
        have HK4 : Hid (R = if deepF g k d = 0 then (k : Int) + 1 else endF s.size g (k + 1) (deepF g k d)) := Lib.hid (by have e := HK3.out; rw [if_neg (by omega), if_neg h2] at e; exact e)
        clear hbk h1 h2
        go_wp2_with fail
        refine HSk.out.mono ?_
        rintro e w1 ⟨rfl, hb1⟩
        obtain rfl := hb1; have hb2 := hb
        go_wp2_with fail
        all_goals first
         | (go_roundw
            case rel => exact ⟨k + 1, deepF g k d, by omega, by unfold deepF; split <;> (try split) <;> omega, by unfold deepF; split <;> (try split) <;> omega, by go_num, by unfold deepF; grind, Lib.hid (by have e := HK4.out; rw [if_neg (by unfold deepF; grind)] at e; exact e), hb2⟩
            case measure => simp [intOf]; omega)
         | (go_ret
            exact ⟨ret_int (by have e := HK4.out; rw [if_pos (by unfold deepF; grind)] at e; exact e.symm), hb2⟩)
  · go_wp2_with fail
    go_ret
    exact ⟨ret_int (by have e := HK.out; rw [endF, if_neg hlt] at e; exact e.symm), hb⟩

set_option maxRecDepth 100000 in
theorem rend_in (s : ByteArray) (g : Nat → Int) (i : Nat) (R : Int) (w : World) (hi : i < s.size) (hs : s.size ≤ 1000000) (hg : ∀ j (h : j < s.size), ((s[j]'h).toNat : Int) = g j)
  (h123 : g i = 123) (HR : Hid (R = endF s.size g i 0)) (HS : Hid (∀ (k : Nat) (W : World), k < s.size → Calls Tryd.prog 99 #[.string s, .int .i64 k] W fun e w' => e = .returned (.int .i64 (overF s.size g k)) ∧ Below W.heap.size W w')) :
  Calls Tryd.prog 68 #[.string s, .int .i64 i] w fun e w' => e = .returned (.int .i64 R) ∧ Below w.heap.size w w' := by
 have hbd := Lib.hid (fun k h => overF_bd s.size g k h)
 have d0 : (g i != 123) = false := by simp [h123]
 have d1 : decide ((i : Int) < 0) = false := by simp
 have d2 : decide (s.size ≤ i) = false := by simp; omega
 clear h123
 go_enter Tryd.func68, Tryd.ntmps68
 go_wp2_with fail
 go_loopw [5, 6] (fun x y wr => ∃ (k : Nat) (d : Int), k ≤ s.size ∧ -(k : Int) ≤ d ∧ d ≤ k ∧ x = .int .i64 d ∧ y = .int .i64 k ∧ Hid (R = endF s.size g k d) ∧ Below w.heap.size w wr) (fun x y _ => s.size + 1 - (intOf y).toNat)
 case atStart => exact ⟨i, 0, by omega, by omega, by omega, rfl, rfl, HR, Below.refl _ _⟩
 case round =>
  obtain ⟨k, d, hk, hd1, hd2, rfl, rfl, HK, hb⟩ := hrel
  by_cases hlt : k < s.size
  · have HSk := Lib.hid (HS.out k wr hlt)
    have hbk := hbd.out k hlt
    have HK2 := HK.out
    rw [endF, if_pos hlt] at HK2
    have HK3 := Lib.hid HK2
    clear HK HK2
    generalize overF s.size g k = o at *
    by_cases h1 : o = -1
    · subst h1
      go_wp2_with fail
      refine HSk.out.mono ?_
      rintro e w1 ⟨rfl, hb1⟩
      have hb2 := hb.trans (hb1.mono hb.size)
      go_wp2_with fail
      go_ret
      exact ⟨ret_int (by have e := HK3.out; rw [if_pos (by omega)] at e; exact e.symm), hb2⟩
    · by_cases h2 : (k : Int) < o
      · obtain ⟨m, rfl⟩ := Int.eq_ofNat_of_zero_le (show 0 ≤ o by omega)
        have HK4 : Hid (R = endF s.size g m d) := Lib.hid (by have e := HK3.out; rw [if_neg (by omega), if_pos h2] at e; simpa using e)
        have hkm : k < m := by omega
        have hms : m ≤ s.size := by omega
        clear hbk h1
        go_wp2_with fail
        refine HSk.out.mono ?_
        rintro e w1 ⟨rfl, hb1⟩
        have hb2 := hb.trans (hb1.mono hb.size)
        go_wp2_with fail
        go_roundw
        case rel => exact ⟨m, d, by omega, by omega, by omega, by go_num, by go_num, HK4, hb2⟩
        case measure => simp [intOf]; omega
      · obtain rfl : o = (k : Int) := by omega
        have HK4 : Hid (R = if deepF g k d = 0 then (k : Int) + 1 else endF s.size g (k + 1) (deepF g k d)) := Lib.hid (by have e := HK3.out; rw [if_neg (by omega), if_neg h2] at e; exact e)
        clear hbk h1 h2
        go_wp2_with fail
        refine HSk.out.mono ?_
        rintro e w1 ⟨rfl, hb1⟩
        have hb2 := hb.trans (hb1.mono hb.size)
        go_wp2_with fail
        all_goals first
         | (go_roundw
            case rel => exact ⟨k + 1, deepF g k d, by omega, by unfold deepF; split <;> (try split) <;> omega, by unfold deepF; split <;> (try split) <;> omega, by unfold deepF; grind, by go_num, Lib.hid (by have e := HK4.out; rw [if_neg (by unfold deepF; grind)] at e; exact e), hb2⟩
            case measure => simp [intOf]; omega)
         | (go_ret
            exact ⟨ret_int (by have e := HK4.out; rw [if_pos (by unfold deepF; grind)] at e; exact e.symm), hb2⟩)
  · go_wp2_with fail
    go_ret
    exact ⟨ret_int (by have e := HK.out; rw [endF, if_neg hlt] at e; exact e.symm), hb⟩

theorem end_out (s : ByteArray) (i : Int) (w : World) (h : ¬ (0 ≤ i ∧ i < s.size)) (hs : s.size ≤ 1000000) :
  Calls Tryd.prog 90 #[.string s, .int .i64 i] w fun e w' => e = .returned (.int .i64 (-1)) ∧ Below w.heap.size w w' := by
 by_cases h1 : i < 0
 · go_enter Tryd.func90, Tryd.ntmps90
   go_wp2_with fail
   go_ret
   exact ⟨rfl, Below.refl _ _⟩
 · have h2 : (s.size : Int) ≤ i := by omega
   go_enter Tryd.func90, Tryd.ntmps90
   go_wp2_with fail
   go_ret
   exact ⟨rfl, Below.refl _ _⟩
theorem end_not (s : ByteArray) (g : Nat → Int) (i : Nat) (w : World) (hi : i < s.size) (hs : s.size ≤ 1000000) (hg : ∀ j (h : j < s.size), ((s[j]'h).toNat : Int) = g j) (h123 : ¬ g i = 123) :
  Calls Tryd.prog 90 #[.string s, .int .i64 i] w fun e w' => e = .returned (.int .i64 (-1)) ∧ Below w.heap.size w w' := by
 have d0 : (g i != 123) = true := by simpa using h123
 go_enter Tryd.func90, Tryd.ntmps90
 go_wp2_with fail
 go_ret
 exact ⟨rfl, Below.refl _ _⟩

theorem end_any (s : ByteArray) (i : Int) (w : World) (hm : MaxAt w) (hs : s.size ≤ 1000000) :
  Calls Tryd.prog 90 #[.string s, .int .i64 i] w fun e w' => e = .returned (.int .i64 (endS s i)) ∧ Below w.heap.size w w' := by
 unfold endS
 by_cases h : 0 ≤ i ∧ i < s.size
 · obtain ⟨k, rfl⟩ := Int.eq_ofNat_of_zero_le h.1
   have hk : k < s.size := by omega
   by_cases h3 : gAt s k = 123
   · rw [if_pos ⟨h.1, h.2, h3⟩]
     exact end_in s (gAt s) k _ w hk hs (fun j h => gAt_get s j h) h3 hm (Lib.hid rfl) (Lib.hid (fun k W hW hk => skip_any s k W hW hk hs))
   · rw [if_neg (fun hc => h3 hc.2.2)]
     exact end_not s (gAt s) k w hk hs (fun j h => gAt_get s j h) h3
 · rw [if_neg (fun hc => h ⟨hc.1, hc.2.1⟩)]
   exact end_out s i w h hs

theorem rend_out (s : ByteArray) (i : Int) (w : World) (h : ¬ (0 ≤ i ∧ i < s.size)) (hs : s.size ≤ 1000000) :
  Calls Tryd.prog 68 #[.string s, .int .i64 i] w fun e w' => e = .returned (.int .i64 (-1)) ∧ Below w.heap.size w w' := by
 by_cases h1 : i < 0
 · go_enter Tryd.func68, Tryd.ntmps68
   go_wp2_with fail
   go_ret
   exact ⟨rfl, Below.refl _ _⟩
 · have h2 : (s.size : Int) ≤ i := by omega
   go_enter Tryd.func68, Tryd.ntmps68
   go_wp2_with fail
   go_ret
   exact ⟨rfl, Below.refl _ _⟩
theorem rend_not (s : ByteArray) (g : Nat → Int) (i : Nat) (w : World) (hi : i < s.size) (hs : s.size ≤ 1000000) (hg : ∀ j (h : j < s.size), ((s[j]'h).toNat : Int) = g j) (h123 : ¬ g i = 123) :
  Calls Tryd.prog 68 #[.string s, .int .i64 i] w fun e w' => e = .returned (.int .i64 (-1)) ∧ Below w.heap.size w w' := by
 have d0 : (g i != 123) = true := by simpa using h123
 go_enter Tryd.func68, Tryd.ntmps68
 go_wp2_with fail
 go_ret
 exact ⟨rfl, Below.refl _ _⟩

theorem rend_any (s : ByteArray) (i : Int) (w : World) (hs : s.size ≤ 1000000) :
  Calls Tryd.prog 68 #[.string s, .int .i64 i] w fun e w' => e = .returned (.int .i64 (endS s i)) ∧ Below w.heap.size w w' := by
 unfold endS
 by_cases h : 0 ≤ i ∧ i < s.size
 · obtain ⟨k, rfl⟩ := Int.eq_ofNat_of_zero_le h.1
   have hk : k < s.size := by omega
   by_cases h3 : gAt s k = 123
   · rw [if_pos ⟨h.1, h.2, h3⟩]
     exact rend_in s (gAt s) k _ w hk hs (fun j h => gAt_get s j h) h3 (Lib.hid rfl) (Lib.hid (fun k W hk => over_any s k W hk hs))
   · rw [if_neg (fun hc => h3 hc.2.2)]
     exact rend_not s (gAt s) k w hk hs (fun j h => gAt_get s j h) h3
 · rw [if_neg (fun hc => h ⟨hc.1, hc.2.1⟩)]
   exact rend_out s i w h hs

end Go.Proofs.YtnoppoifepbchaaDoor
