/- What is passed over: body's and the document's. -/
import Derived.Test.YtkgbifbbpmdpgaaNOfW
set_option linter.unusedVariables false
set_option linter.unusedSimpArgs false
namespace Go.Proofs.Ytkgbifbbpmdpgaa

section
open Go.RowKit
theorem two_beq (s : ByteArray) (i : Nat) (a b : UInt8) (h : i + 2 ≤ s.size) : ((s.extract i (i + 2)).toList = [a, b]) ↔ (gAt s i = a.toNat ∧ gAt s (i + 1) = b.toNat) := by
 have hs : s.data.toList.length = s.size := rfl
 rw [Lib.toList_data, Lib.extract_data, show i + 2 - i = 2 by omega, List.drop_eq_getElem_cons (show i < s.data.toList.length by omega), List.drop_eq_getElem_cons (show i + 1 < s.data.toList.length by omega)]
 rw [← gAt_at s i (by omega), ← gAt_at s (i + 1) (by omega)]
 simp only [List.take_succ_cons, List.take_zero, List.cons.injEq, and_true]
 constructor
 · rintro ⟨h1, h2⟩; rw [← h1, ← h2]; exact ⟨rfl, rfl⟩
 · rintro ⟨h1, h2⟩; exact ⟨UInt8.toNat_inj.1 (by omega), UInt8.toNat_inj.1 (by omega)⟩
theorem begins_two (s : ByteArray) (i : Nat) (a b : UInt8) (w : World) (hi : i ≤ s.size) (hs : s.size ≤ 1000000) :
  Calls Try.prog 85 #[.string s, .int .i64 i, .string ⟨#[a, b]⟩] w fun e w' => e = .returned (.bool (decide (i + 1 < s.size ∧ gAt s i = a.toNat ∧ gAt s (i + 1) = b.toNat))) ∧ w = w' := by
 have hl : (⟨#[a, b]⟩ : ByteArray).size = 2 := rfl
 have hll : (⟨#[a, b]⟩ : ByteArray).toList = [a, b] := Lib.toList_data _
 by_cases h2 : i + 2 ≤ s.size
 · have d1 : decide ((2 : Int) ≤ (s.size : Int) - (i : Int)) = true := by simp; omega
   have ht := two_beq s i a b h2
   by_cases hc : gAt s i = a.toNat ∧ gAt s (i + 1) = b.toNat
   · have hx := ht.2 hc
     have HR : Hid (decide (i + 1 < s.size ∧ gAt s i = a.toNat ∧ gAt s (i + 1) = b.toNat) = true) := Lib.hid (decide_eq_true ⟨by omega, hc⟩)
     clear hc ht
     go_enter Try.func85, Try.ntmps85
     go_wp2
     go_ret
     exact ⟨ret_bool HR.out.symm, rfl⟩
   · have hx : ((s.extract i (i + 2)).toList == [a, b]) = false := by rw [beq_eq_false_iff_ne]; exact fun h => hc (ht.1 h)
     have HR : Hid (decide (i + 1 < s.size ∧ gAt s i = a.toNat ∧ gAt s (i + 1) = b.toNat) = false) := Lib.hid (decide_eq_false (fun h => hc h.2))
     clear hc ht
     go_enter Try.func85, Try.ntmps85
     go_wp2
     go_ret
     exact ⟨ret_bool HR.out.symm, rfl⟩
 · have d1 : decide ((2 : Int) ≤ (s.size : Int) - (i : Int)) = false := by simp; omega
   have HR : Hid (decide (i + 1 < s.size ∧ gAt s i = a.toNat ∧ gAt s (i + 1) = b.toNat) = false) := Lib.hid (decide_eq_false (fun h => by omega))
   go_enter Try.func85, Try.ntmps85
   go_wp2
   go_ret
   exact ⟨ret_bool HR.out.symm, rfl⟩
end
section
open Go.RowKit
set_option maxRecDepth 100000 in
theorem over_q34 (s : ByteArray) (g : Nat → Int) (i : Nat) (R : Int) (w : World) (hi : i < s.size) (hs : s.size ≤ 1000000) (hg : ∀ j (h : j < s.size), ((s[j]'h).toNat : Int) = g j)
  (HR : Hid (R = quo s.size g 34 (i + 1))) (hq : g i = 34) :
  Calls Try.prog 83 #[.string s, .int .i64 i] w fun e w' => e = .returned (.int .i64 R) ∧ Below w.heap.size w w' := by
 go_enter Try.func83, Try.ntmps83
 go_wp2_with fail
 go_loopw [5] (fun x wr => ∃ k : Nat, k ≤ s.size + 1 ∧ x = .int .i64 k ∧ Hid (R = quo s.size g 34 k) ∧ Below w.heap.size w wr) (fun x _ => s.size + 1 - (intOf x).toNat)
 case atStart => exact ⟨i + 1, by omega, by go_num, HR, Below.refl _ _⟩
 case round =>
  obtain ⟨k, hk, rfl, HK, hb⟩ := hrel
  by_cases hlt : k < s.size
  · by_cases h10 : g k = 10
    · have d0 : (g k != 10) = false := by simp [h10]
      have HK2 : Hid (R = -1) := Lib.hid (by have e := HK.out; rw [quo, if_pos hlt, h10] at e; simpa using e)
      clear h10
      go_wp2_with fail
      go_ret
      exact ⟨ret_int HK2.out.symm, hb⟩
    · have d0 : (g k != 10) = true := by simpa using h10
      by_cases hlt2 : k + 1 < s.size
      · go_wp2_with fail
        go_quiet (fail)
        go_wp2_with fail
        all_goals first
         | (go_roundw
            case rel => first | exact ⟨k + 2, by omega, by go_num, Lib.hid (by have e := HK.out; rw [quo] at e; grind), hb.trans ⟨rfl, rfl, rfl, Nat.le_refl _, fun _ _ => rfl⟩⟩ | exact ⟨k + 1, by omega, by go_num, Lib.hid (by have e := HK.out; rw [quo] at e; grind), hb.trans ⟨rfl, rfl, rfl, Nat.le_refl _, fun _ _ => rfl⟩⟩
            case measure => simp [intOf]; omega)
         | (go_ret
            exact ⟨ret_int (by have e := HK.out; rw [quo] at e; grind), hb.trans ⟨rfl, rfl, rfl, Nat.le_refl _, fun _ _ => rfl⟩⟩)
      · go_wp2_with fail
        go_quiet (fail)
        go_wp2_with fail
        all_goals first
         | (go_roundw
            case rel => first | exact ⟨k + 2, by omega, by go_num, Lib.hid (by have e := HK.out; rw [quo] at e; grind), hb.trans ⟨rfl, rfl, rfl, Nat.le_refl _, fun _ _ => rfl⟩⟩ | exact ⟨k + 1, by omega, by go_num, Lib.hid (by have e := HK.out; rw [quo] at e; grind), hb.trans ⟨rfl, rfl, rfl, Nat.le_refl _, fun _ _ => rfl⟩⟩
            case measure => simp [intOf]; omega)
         | (go_ret
            exact ⟨ret_int (by have e := HK.out; rw [quo] at e; grind), hb.trans ⟨rfl, rfl, rfl, Nat.le_refl _, fun _ _ => rfl⟩⟩)
  · go_wp2_with fail
    go_ret
    exact ⟨ret_int (by have e := HK.out; rw [quo, if_neg hlt] at e; exact e.symm), hb⟩
set_option maxRecDepth 100000 in
theorem over_q39 (s : ByteArray) (g : Nat → Int) (i : Nat) (R : Int) (w : World) (hi : i < s.size) (hs : s.size ≤ 1000000) (hg : ∀ j (h : j < s.size), ((s[j]'h).toNat : Int) = g j)
  (HR : Hid (R = quo s.size g 39 (i + 1))) (hq : g i = 39) :
  Calls Try.prog 83 #[.string s, .int .i64 i] w fun e w' => e = .returned (.int .i64 R) ∧ Below w.heap.size w w' := by
 go_enter Try.func83, Try.ntmps83
 go_wp2_with fail
 go_loopw [5] (fun x wr => ∃ k : Nat, k ≤ s.size + 1 ∧ x = .int .i64 k ∧ Hid (R = quo s.size g 39 k) ∧ Below w.heap.size w wr) (fun x _ => s.size + 1 - (intOf x).toNat)
 case atStart => exact ⟨i + 1, by omega, by go_num, HR, Below.refl _ _⟩
 case round =>
  obtain ⟨k, hk, rfl, HK, hb⟩ := hrel
  by_cases hlt : k < s.size
  · by_cases h10 : g k = 10
    · have d0 : (g k != 10) = false := by simp [h10]
      have HK2 : Hid (R = -1) := Lib.hid (by have e := HK.out; rw [quo, if_pos hlt, h10] at e; simpa using e)
      clear h10
      go_wp2_with fail
      go_ret
      exact ⟨ret_int HK2.out.symm, hb⟩
    · have d0 : (g k != 10) = true := by simpa using h10
      by_cases hlt2 : k + 1 < s.size
      · go_wp2_with fail
        go_quiet (fail)
        go_wp2_with fail
        all_goals first
         | (go_roundw
            case rel => first | exact ⟨k + 2, by omega, by go_num, Lib.hid (by have e := HK.out; rw [quo] at e; grind), hb.trans ⟨rfl, rfl, rfl, Nat.le_refl _, fun _ _ => rfl⟩⟩ | exact ⟨k + 1, by omega, by go_num, Lib.hid (by have e := HK.out; rw [quo] at e; grind), hb.trans ⟨rfl, rfl, rfl, Nat.le_refl _, fun _ _ => rfl⟩⟩
            case measure => simp [intOf]; omega)
         | (go_ret
            exact ⟨ret_int (by have e := HK.out; rw [quo] at e; grind), hb.trans ⟨rfl, rfl, rfl, Nat.le_refl _, fun _ _ => rfl⟩⟩)
      · go_wp2_with fail
        go_quiet (fail)
        go_wp2_with fail
        all_goals first
         | (go_roundw
            case rel => first | exact ⟨k + 2, by omega, by go_num, Lib.hid (by have e := HK.out; rw [quo] at e; grind), hb.trans ⟨rfl, rfl, rfl, Nat.le_refl _, fun _ _ => rfl⟩⟩ | exact ⟨k + 1, by omega, by go_num, Lib.hid (by have e := HK.out; rw [quo] at e; grind), hb.trans ⟨rfl, rfl, rfl, Nat.le_refl _, fun _ _ => rfl⟩⟩
            case measure => simp [intOf]; omega)
         | (go_ret
            exact ⟨ret_int (by have e := HK.out; rw [quo] at e; grind), hb.trans ⟨rfl, rfl, rfl, Nat.le_refl _, fun _ _ => rfl⟩⟩)
  · go_wp2_with fail
    go_ret
    exact ⟨ret_int (by have e := HK.out; rw [quo, if_neg hlt] at e; exact e.symm), hb⟩
end
section
open Go.RowKit
set_option maxRecDepth 100000 in
theorem over_96 (s : ByteArray) (g : Nat → Int) (i : Nat) (R : Int) (w : World) (hi : i < s.size) (hs : s.size ≤ 1000000) (hg : ∀ j (h : j < s.size), ((s[j]'h).toNat : Int) = g j)
  (HR : Hid (R = behB s.size g 96 (i + 1))) (hq : g i = 96) :
  Calls Try.prog 83 #[.string s, .int .i64 i] w fun e w' => e = .returned (.int .i64 R) ∧ Below w.heap.size w w' := by
 go_enter Try.func83, Try.ntmps83
 go_wp2_with fail
 go_loop [6] (fun x => ∃ k : Nat, k ≤ s.size ∧ x = .int .i64 k ∧ Hid (R = behB s.size g 96 k)) (fun x => s.size + 1 - (intOf x).toNat)
 case atStart => exact ⟨i + 1, by omega, by go_num, HR⟩
 case round =>
  obtain ⟨k, hk, rfl, HK⟩ := hrel
  by_cases hlt : k < s.size
  · go_wp2_with fail
    all_goals first
     | (go_round
        case rel => exact ⟨k + 1, by omega, by go_num, Lib.hid (by have e := HK.out; unfold behB at e ⊢; rw [findB] at e; grind)⟩
        case measure => simp [intOf]; omega)
     | (go_ret
        exact ⟨ret_int (by have e := HK.out; unfold behB at e; rw [findB] at e; grind), Below.refl _ _⟩)
  · go_wp2_with fail
    go_ret
    exact ⟨ret_int (by have e := HK.out; unfold behB at e; rw [findB, if_neg hlt] at e; exact e.symm), Below.refl _ _⟩
def lineF (n : Nat) (g : Nat → Int) (i : Nat) : Int := if findB n g 10 i = -1 then (n : Int) else findB n g 10 i
set_option maxRecDepth 100000 in
theorem over_line (s : ByteArray) (g : Nat → Int) (i : Nat) (R : Int) (w : World) (hi : i < s.size) (hs : s.size ≤ 1000000) (hg : ∀ j (h : j < s.size), ((s[j]'h).toNat : Int) = g j)
  (HR : Hid (R = lineF s.size g i)) (hq : g i = 47) (HB : Hid (∀ W, Calls Try.prog 85 #[.string s, .int .i64 i, .string ⟨#[47, 47]⟩] W fun e w' => e = .returned (.bool true) ∧ W = w')) :
  Calls Try.prog 83 #[.string s, .int .i64 i] w fun e w' => e = .returned (.int .i64 R) ∧ Below w.heap.size w w' := by
 go_enter Try.func83, Try.ntmps83
 go_wp2_with (first | (go_at_call 85; refine (HB.out _).mono ?_; rintro e w' ⟨rfl, rfl⟩))
 go_loop [7] (fun x => ∃ k : Nat, k ≤ s.size ∧ x = .int .i64 k ∧ Hid (R = lineF s.size g k)) (fun x => s.size + 1 - (intOf x).toNat)
 case atStart => exact ⟨i, by omega, by go_num, HR⟩
 case round =>
  obtain ⟨k, hk, rfl, HK⟩ := hrel
  by_cases hlt : k < s.size
  · by_cases h10 : g k = 10
    · have d0 : (g k != 10) = false := by simp [h10]
      have HK2 : Hid (R = k) := Lib.hid (by have e := HK.out; unfold lineF at e; rw [findB, if_pos hlt, if_pos h10, if_neg (by omega)] at e; exact e)
      clear h10
      go_wp2_with fail
      go_ret
      exact ⟨ret_int HK2.out.symm, Below.refl _ _⟩
    · have d0 : (g k != 10) = true := by simpa using h10
      have HK2 : Hid (R = lineF s.size g (k + 1)) := Lib.hid (by have e := HK.out; unfold lineF at e ⊢; rw [findB, if_pos hlt, if_neg h10] at e; exact e)
      go_wp2_with fail
      go_round
      case rel => exact ⟨k + 1, by omega, by go_num, HK2⟩
      case measure => simp [intOf]; omega
  · obtain rfl : k = s.size := by omega
    have HK2 : Hid (R = s.size) := Lib.hid (by have e := HK.out; unfold lineF at e; rw [findB, if_neg hlt, if_pos rfl] at e; exact e)
    go_wp2_with fail
    go_ret
    exact ⟨ret_int HK2.out.symm, Below.refl _ _⟩
theorem behW_end {n : Nat} {g : Nat → Int} {a b : Int} {k : Nat} (h : ¬ k + 1 < n) : behW n g a b k = -1 := by
 have e : findW n g a b k = -1 := by rw [findW, if_neg h]
 unfold behW; rw [if_pos e]
theorem behW_next {n : Nat} {g : Nat → Int} {a b : Int} {k : Nat} (h : ¬ (k + 1 < n ∧ g k = a ∧ g (k + 1) = b)) : behW n g a b k = behW n g a b (k + 1) := by
 by_cases h1 : k + 1 < n
 · have e : findW n g a b k = findW n g a b (k + 1) := by rw [findW, if_pos h1, if_neg (fun hc => h ⟨h1, hc⟩)]
   unfold behW; rw [e]
 · rw [behW_end h1, behW_end (by omega)]
set_option maxRecDepth 100000 in
theorem over_block (s : ByteArray) (g : Nat → Int) (i : Nat) (R : Int) (w : World) (hi : i + 1 < s.size) (hs : s.size ≤ 1000000) (hg : ∀ j (h : j < s.size), ((s[j]'h).toNat : Int) = g j)
  (HR : Hid (R = behW s.size g 42 47 (i + 2))) (hq : g i = 47) (HB : Hid (∀ W, Calls Try.prog 85 #[.string s, .int .i64 i, .string ⟨#[47, 47]⟩] W fun e w' => e = .returned (.bool false) ∧ W = w'))
  (HC : Hid (∀ W, Calls Try.prog 85 #[.string s, .int .i64 i, .string ⟨#[47, 42]⟩] W fun e w' => e = .returned (.bool true) ∧ W = w'))
  (HD : Hid (∀ (k : Nat) W, k ≤ s.size → Calls Try.prog 85 #[.string s, .int .i64 k, .string ⟨#[42, 47]⟩] W fun e w' => e = .returned (.bool (decide (k + 1 < s.size ∧ g k = 42 ∧ g (k + 1) = 47))) ∧ W = w')) :
  Calls Try.prog 83 #[.string s, .int .i64 i] w fun e w' => e = .returned (.int .i64 R) ∧ Below w.heap.size w w' := by
 go_enter Try.func83, Try.ntmps83
 go_wp2_with fail
 refine (HB.out _).mono ?_
 rintro e w' ⟨rfl, rfl⟩
 go_wp2_with fail
 refine (HC.out _).mono ?_
 rintro e w' ⟨rfl, rfl⟩
 go_wp2_with fail
 go_loop [8] (fun x => ∃ k : Nat, k ≤ s.size ∧ x = .int .i64 k ∧ Hid (R = behW s.size g 42 47 k)) (fun x => s.size + 1 - (intOf x).toNat)
 case atStart => exact ⟨i + 2, by omega, by go_num, HR⟩
 case round =>
  obtain ⟨k, hk, rfl, HK⟩ := hrel
  by_cases hlt : k < s.size
  · cases hc : decide (k + 1 < s.size ∧ g k = 42 ∧ g (k + 1) = 47) with
    | true =>
      have HE := HD.out k w (by omega)
      rw [hc] at HE
      have HE := Lib.hid HE
      have hc' := of_decide_eq_true hc
      have HK2 : Hid (R = k + 2) := Lib.hid (by have e := HK.out; unfold behW at e; rw [findW, if_pos hc'.1, if_pos hc'.2, if_neg (by omega)] at e; exact e)
      clear hc hc'
      go_wp2_with fail
      refine HE.out.mono ?_
      rintro e w' ⟨rfl, rfl⟩
      go_wp2_with fail
      go_ret
      exact ⟨ret_int HK2.out.symm, Below.refl _ _⟩
    | false =>
      have HE := HD.out k w (by omega)
      rw [hc] at HE
      have HE := Lib.hid HE
      have hc' := of_decide_eq_false hc
      have HK2 : Hid (R = behW s.size g 42 47 (k + 1)) := Lib.hid (HK.out.trans (behW_next hc'))
      clear hc hc'
      go_wp2_with fail
      refine HE.out.mono ?_
      rintro e w' ⟨rfl, rfl⟩
      go_wp2_with fail
      go_round
      case rel => exact ⟨k + 1, by omega, by go_num, HK2⟩
      case measure => simp [intOf]; omega
  · have HK2 : Hid (R = -1) := Lib.hid (HK.out.trans (behW_end (by omega)))
    go_wp2_with fail
    go_ret
    exact ⟨ret_int HK2.out.symm, Below.refl _ _⟩
set_option maxRecDepth 100000 in
theorem over_not (s : ByteArray) (g : Nat → Int) (i : Nat) (w : World) (hi : i < s.size) (hs : s.size ≤ 1000000) (hg : ∀ j (h : j < s.size), ((s[j]'h).toNat : Int) = g j)
  (hq : ¬ g i = 34 ∧ ¬ g i = 39 ∧ ¬ g i = 96) (HB : Hid (∀ W, Calls Try.prog 85 #[.string s, .int .i64 i, .string ⟨#[47, 47]⟩] W fun e w' => e = .returned (.bool false) ∧ W = w'))
  (HC : Hid (∀ W, Calls Try.prog 85 #[.string s, .int .i64 i, .string ⟨#[47, 42]⟩] W fun e w' => e = .returned (.bool false) ∧ W = w')) :
  Calls Try.prog 83 #[.string s, .int .i64 i] w fun e w' => e = .returned (.int .i64 i) ∧ Below w.heap.size w w' := by
 obtain ⟨q1, q2, q3⟩ := hq
 have d1 : (g i == 34) = false := by simpa using q1
 have d2 : (g i == 39) = false := by simpa using q2
 have d3 : (g i == 96) = false := by simpa using q3
 go_enter Try.func83, Try.ntmps83
 go_wp2_with fail
 refine (HB.out _).mono ?_
 rintro e w' ⟨rfl, rfl⟩
 go_wp2_with fail
 refine (HC.out _).mono ?_
 rintro e w' ⟨rfl, rfl⟩
 go_wp2_with fail
 go_ret
 exact ⟨rfl, Below.refl _ _⟩
theorem over_any (s : ByteArray) (i : Nat) (w : World) (hi : i < s.size) (hs : s.size ≤ 1000000) :
  Calls Try.prog 83 #[.string s, .int .i64 i] w fun e w' => e = .returned (.int .i64 (overF s.size (gAt s) i)) ∧ Below w.heap.size w w' := by
 have hg := fun j h => gAt_get s j h
 by_cases h34 : gAt s i = 34
 · exact over_q34 s (gAt s) i _ w hi hs hg (Lib.hid (by unfold overF; rw [if_pos (.inl h34), h34])) h34
 by_cases h39 : gAt s i = 39
 · exact over_q39 s (gAt s) i _ w hi hs hg (Lib.hid (by unfold overF; rw [if_pos (.inr h39), h39])) h39
 by_cases h96 : gAt s i = 96
 · exact over_96 s (gAt s) i _ w hi hs hg (Lib.hid (by unfold overF behB; rw [if_neg (by omega), if_pos h96])) h96
 by_cases h1 : i + 1 < s.size ∧ gAt s i = 47 ∧ gAt s (i + 1) = 47
 · refine over_line s (gAt s) i _ w hi hs hg (Lib.hid (by unfold overF lineF; rw [if_neg (by omega), if_neg h96, if_pos h1])) h1.2.1 (Lib.hid (fun W => ?_))
   have := begins_two s i 47 47 W (by omega) hs
   rwa [decide_eq_true (by exact h1)] at this
 have hB : Hid (∀ W, Calls Try.prog 85 #[.string s, .int .i64 i, .string ⟨#[47, 47]⟩] W fun e w' => e = .returned (.bool false) ∧ W = w') := Lib.hid (fun W => by
  have := begins_two s i 47 47 W (by omega) hs
  rwa [decide_eq_false (by exact h1)] at this)
 by_cases h2 : i + 1 < s.size ∧ gAt s i = 47 ∧ gAt s (i + 1) = 42
 · refine over_block s (gAt s) i _ w h2.1 hs hg (Lib.hid (by unfold overF behW; rw [if_neg (by omega), if_neg h96, if_neg h1, if_pos h2])) h2.2.1 hB (Lib.hid (fun W => ?_)) (Lib.hid (fun k W hk => begins_two s k 42 47 W hk hs))
   have := begins_two s i 47 42 W (by omega) hs
   rwa [decide_eq_true (by exact h2)] at this
 · have e : overF s.size (gAt s) i = i := by unfold overF; rw [if_neg (by omega), if_neg h96, if_neg h1, if_neg h2]
   rw [e]
   refine over_not s (gAt s) i w hi hs hg ⟨h34, h39, h96⟩ hB (Lib.hid (fun W => ?_))
   have := begins_two s i 47 42 W (by omega) hs
   rwa [decide_eq_false (by exact h2)] at this
end
end Go.Proofs.Ytkgbifbbpmdpgaa
