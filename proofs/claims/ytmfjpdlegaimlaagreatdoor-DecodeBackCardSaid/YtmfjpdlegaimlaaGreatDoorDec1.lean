/- A word that is a number, and a name, as the program reads them. -/
import Derived.Test.YtmfjpdlegaimlaaGreatDoorText
import Derived.Test.YtmfjpdlegaimlaaGreatDoorExtD
import Derived.Lib.Atoi
import Derived.BigQuiet
namespace Go.Proofs.YtmfjpdlegaimlaaGreatDoor
open Go.RowKit
set_option linter.unusedVariables false
set_option linter.unusedSimpArgs false

def letB (c : Int) : Bool := decide (97 ≤ c ∧ c ≤ 122 ∨ 65 ≤ c ∧ c ≤ 90)
def digB (c : Int) : Bool := decide (48 ≤ c ∧ c ≤ 57)
theorem letter_any (c : Int) (w : World) :
    Calls Tryz.prog 42 #[.int .u8 c] w fun e w' => e = .returned (.bool (letB c)) ∧ w = w' := by
  go_enter Tryz.func42, Tryz.ntmps42
  go_wp2
  all_goals
    go_ret
    exact ⟨ret_bool (by rw [Bool.eq_iff_iff]; unfold letB; simp at *; omega), rfl⟩
theorem digit_any (c : Int) (w : World) :
    Calls Tryz.prog 90 #[.int .u8 c] w fun e w' => e = .returned (.bool (digB c)) ∧ w = w' := by
  go_enter Tryz.func90, Tryz.ntmps90
  go_wp2
  all_goals
    go_ret
    exact ⟨ret_bool (by rw [Bool.eq_iff_iff]; unfold digB; simp at *; omega), rfl⟩
/-- the place behind the digits -/
def digF (n : Nat) (g : Nat → Int) (i : Nat) : Nat := if i < n ∧ digB (g i) = true then digF n g (i + 1) else i
  termination_by n - i
theorem digF_bd (n : Nat) (g : Nat → Int) (i : Nat) (hi : i ≤ n) : i ≤ digF n g i ∧ digF n g i ≤ n := by
  fun_induction digF n g i with
  | case1 i h ih => have := ih (by omega); omega
  | case2 i h => omega
set_option maxRecDepth 100000 in
theorem digits_any (s : ByteArray) (i : Nat) (w : World) (hi : i ≤ s.size) (hs : s.size ≤ 1000000) :
    Calls Tryz.prog 65 #[.string s, .int .i64 i] w fun e w' => e = .returned (.int .i64 (digF s.size (gAt s) i : Nat)) ∧ w = w' := by
  have hg := fun j h => gAt_get s j h
  have HR := Lib.hid (show digF s.size (gAt s) i = digF s.size (gAt s) i from rfl)
  generalize gAt s = g at *
  generalize hR : digF s.size g i = R at HR ⊢
  have HI : Hid (R = digF s.size g i) := Lib.hid hR.symm
  clear HR hR
  go_enter Tryz.func65, Tryz.ntmps65
  go_wp2_with fail
  go_loop [1] (fun x => ∃ k : Nat, k ≤ s.size ∧ x = .int .i64 k ∧ Hid (R = digF s.size g k)) (fun x => s.size + 1 - (intOf x).toNat)
  case atStart => exact ⟨i, hi, rfl, HI⟩
  case round =>
    obtain ⟨k, hk, rfl, HK⟩ := hrel
    by_cases hlt : k < s.size
    · go_wp2_with (first | (go_at_call 90; refine (digit_any _ _).mono ?_; rintro e w' ⟨rfl, rfl⟩))
      all_goals first
        | (go_round
           case rel => exact ⟨k + 1, by omega, by go_num, Lib.hid (by have e := HK.out; rw [digF] at e; grind)⟩
           case measure => simp [intOf]; omega)
        | (go_ret
           exact ⟨ret_int (by have e := HK.out; rw [digF] at e; grind), rfl⟩)
    · go_wp2_with fail
      go_ret
      exact ⟨ret_int (by have e := HK.out; rw [digF, if_neg (by omega)] at e; rw [e]), rfl⟩

theorem nil_iff (s : ByteArray) : s.toList = [] ↔ s.size = 0 := by
  rw [Lib.toList_data]
  show s.data.toList = [] ↔ s.data.size = 0
  rw [← Array.length_toList, List.length_eq_zero_iff]
theorem some_iff (s : ByteArray) : (!s.toList.isEmpty) = !decide (s = ByteArray.empty) := by
  have h := nil_iff s
  have h2 : s.size = 0 ↔ s = ByteArray.empty := by simp
  congr 1
  rw [Bool.eq_iff_iff, List.isEmpty_iff, decide_eq_true_iff, h, h2]
/-- letters alone, from a place on -/
def letAll (n : Nat) (g : Nat → Int) (i : Nat) : Bool := if i < n then letB (g i) && letAll n g (i + 1) else true
  termination_by n - i
set_option maxRecDepth 100000 in
theorem isName_any (s : ByteArray) (w : World) (hs : s.size ≤ 1000000) :
    Calls Tryz.prog 20 #[.string s] w fun e w' => e = .returned (.bool (letAll s.size (gAt s) 0 && decide (s.size ≠ 0))) ∧ w = w' := by
  have hg := fun j h => gAt_get s j h
  have HN := Lib.hid (nil_iff s)
  generalize gAt s = g at *
  have H0 : Hid (letAll s.size g 0 = letAll s.size g 0) := Lib.hid rfl
  generalize hR : letAll s.size g 0 = R at H0 ⊢
  have HI : Hid (R = letAll s.size g 0) := Lib.hid hR.symm
  clear H0 hR
  go_enter Tryz.func20, Tryz.ntmps20
  go_wp2_with fail
  go_loop [6] (fun x => ∃ k : Nat, k ≤ s.size ∧ x = .int .i64 k ∧ Hid (R = letAll s.size g k)) (fun x => s.size + 1 - (intOf x).toNat)
  case atStart => exact ⟨0, Nat.zero_le _, rfl, HI⟩
  case round =>
    obtain ⟨k, hk, rfl, HK⟩ := hrel
    by_cases hlt : k < s.size
    · go_wp2_with (first | (go_at_call 42; refine (letter_any _ _).mono ?_; rintro e w' ⟨rfl, rfl⟩))
      all_goals first
        | (go_round
           case rel => exact ⟨k + 1, by omega, by go_num, Lib.hid (by have e := HK.out; rw [letAll] at e; grind)⟩
           case measure => simp [intOf]; omega)
        | (go_ret
           exact ⟨ret_bool (by have e := HK.out; rw [letAll] at e; grind), rfl⟩)
    · go_wp2_with fail
      all_goals
        go_ret
        exact ⟨ret_bool (by have e := HK.out; rw [letAll, if_neg (by omega)] at e; rw [e, some_iff]; simp), rfl⟩

theorem nought_iff (s : ByteArray) : (s.toList == [48]) = true ↔ s.size = 1 ∧ gAt s 0 = 48 := by
  rw [Lib.toList_data, beq_iff_eq]
  have h1 : s.size = s.data.toList.length := rfl
  unfold gAt
  constructor
  · intro h
    rw [h1, h]; exact ⟨rfl, rfl⟩
  · rintro ⟨h2, h3⟩
    rw [h1] at h2
    match hl : s.data.toList, h2, h3 with
    | [x], _, h3 =>
      have h3 : (x.toNat : Int) = 48 := h3
      have : x = 48 := UInt8.toNat_inj.1 (by show x.toNat = 48; omega)
      rw [this]
theorem ret_pair {a : Int} {b : Bool} {R : Int × Bool} (h : R = (a, b)) : Ending.returned (.tuple #[.int .i64 a, .bool b]) = .returned (.tuple #[.int .i64 R.1, .bool R.2]) := by rw [h]
def cntF (n : Nat) (g : Nat → Int) (v : Option Int) (most : Int) : Int × Bool :=
  if n = 0 ∨ most < n ∨ digF n g 0 < n then (0, false) else if g 0 = 48 ∧ n ≠ 1 then (0, false) else ((v.getD 0), true)
set_option maxRecDepth 100000 in
theorem count_any (s : ByteArray) (w : World) (hs : s.size ≤ 1000000) (hv : digF s.size (gAt s) 0 = s.size → s.size ≠ 0 → s.size ≤ 9 → ∃ n, Lib.atoi s.data.toList = some n) :
    Calls Tryz.prog 45 #[.string s, .int .i64 9] w fun e w' => e = .returned (.tuple #[.int .i64 (cntF s.size (gAt s) (Lib.atoi s.data.toList) 9).1, .bool (cntF s.size (gAt s) (Lib.atoi s.data.toList) 9).2]) ∧ Below w.heap.size w w' := by
  have hg := fun j h => gAt_get s j h
  have hb := digF_bd s.size (gAt s) 0 (Nat.zero_le _)
  have HD := Lib.hid (fun W => digits_any s 0 W (Nat.zero_le _) hs)
  have HN := Lib.hid (nil_iff s)
  have HO := Lib.hid (nought_iff s)
  have HV := Lib.hid hv
  have H0 : Hid (cntF s.size (gAt s) (Lib.atoi s.data.toList) 9 = cntF s.size (gAt s) (Lib.atoi s.data.toList) 9) := Lib.hid rfl
  generalize hR : cntF s.size (gAt s) (Lib.atoi s.data.toList) 9 = R at H0 ⊢
  unfold cntF at hR
  have HR := Lib.hid hR.symm
  clear H0 hR hv
  generalize digF s.size (gAt s) 0 = d at *
  generalize gAt s = g at *
  go_enter Tryz.func45, Tryz.ntmps45
  go_wp2_with (first
    | (go_at_call 65; refine (HD.out _).mono ?_; rintro e w1 ⟨rfl, rfl⟩)
    | (go_at_call 66
       obtain ⟨n, hn⟩ := HV.out (by omega) (by omega) (by omega)
       have HM := Lib.hid hn
       clear hn
       refine (Tryz.strconv_Atoi s n (by omega) HM.out _).mono ?_
       rintro e w1 ⟨rfl, t, hw1⟩
       have hbl : Below w.heap.size w w1 := by rw [hw1]; exact below_bytes w _ t
       clear hw1))
  all_goals first
    | (go_ret2
       exact ⟨ret_pair (by have := HN.out; have := HO.out; rw [HR.out]; clear HR HD HV hg; simp at *; grind), Below.refl _ _⟩)
    | (exfalso
       have h0 := HN.out
       have h1 : s.toList = [] := h0.2 (by omega)
       simp only [h1, List.isEmpty_nil] at *
       simp at *
       done)
    | (go_quiet (fail)
       have hb7 : Below w.heap.size w (w1.drewN nq) := ⟨hbl.os, hbl.tape, hbl.output, hbl.size, hbl.block⟩
       generalize w1.drewN nq = W7 at hb7 ⊢
       go_wp2_with fail
       go_ret2
       exact ⟨ret_pair (by
         have h0 := HO.out
         rw [HR.out, HM.out]
         clear HR HD HV hg
         first
           | (rw [if_neg (by omega), if_neg (by intro hx; first | omega | (simp at *; grind))]; rfl)), hb7⟩)
end Go.Proofs.YtmfjpdlegaimlaaGreatDoor
