/- scan's functions: names, remarks, marks. -/
import Derived.Test.YtnoppoifepbchaaDoorChecked
import Derived.Test.YtnoppoifepbchaaDoorBase
import Derived.Test.YtnoppoifepbchaaDoorShelf
import Derived.Outline
namespace Go.Proofs.YtnoppoifepbchaaDoor

open Go.RowKit
set_option linter.unusedVariables false

/-- the library's own limit is some number -/
def MaxAt (w : World) : Prop := ∃ m, w.cell? ⟨0, 0, none⟩ = some (.int .i64 m)
theorem MaxAt.below {w w' : World} (h : MaxAt w) (hb : Below w.heap.size w w') : MaxAt w' := by
 obtain ⟨m, hm⟩ := h
 exact ⟨m, (hb.cell (World.block_lt_of_cell? _ _ hm)).trans hm⟩

theorem index1 (s : ByteArray) (i : Nat) (c : UInt8) (w : World) :
  Calls Tryd.prog 58 #[.string (s.extract i s.size), .string ⟨#[c]⟩] w fun e w' => e = .returned (.int .i64 (Lib.indexByte (s.data.toList.drop i) c)) ∧ w = w' := by
 refine (Tryd.strings_Index_one _ c w).mono ?_
 rintro e w' ⟨he, rfl⟩
 rw [drop_data] at he
 exact ⟨he, rfl⟩
theorem index2 (s : ByteArray) (i : Nat) (a b : UInt8) (w : World) (hm : MaxAt w) (hs : s.size ≤ 1000000) :
  Calls Tryd.prog 58 #[.string (s.extract i s.size), .string ⟨#[a, b]⟩] w fun e w' => e = .returned (.int .i64 (Lib.index (s.data.toList.drop i) [a, b])) ∧ w = w' := by
 obtain ⟨m, hm⟩ := hm
 refine (Tryd.strings_Index _ ⟨#[a, b]⟩ m w (by rw [ByteArray.size_extract]; omega) hm).mono ?_
 rintro e w' ⟨he, rfl⟩
 rw [drop_data] at he
 exact ⟨he, rfl⟩
theorem indexB (s : ByteArray) (i : Nat) (w : World) :
  Calls Tryd.prog 106 #[.string (s.extract i s.size), .int .u8 10] w fun e w' => e = .returned (.int .i64 (Lib.indexByte (s.data.toList.drop i) 10)) ∧ w = w' := by
 refine (Tryd.strings_IndexByte _ 10 w).mono ?_
 rintro e w' ⟨he, rfl⟩
 rw [drop_data] at he
 exact ⟨he, rfl⟩
theorem prefix2 (s : ByteArray) (i : Nat) (a b : UInt8) (w : World) :
  Calls Tryd.prog 105 #[.string (s.extract i s.size), .string ⟨#[a, b]⟩] w fun e w' => e = .returned (.bool (decide (i + 1 < s.size ∧ gAt s i = a.toNat ∧ gAt s (i + 1) = b.toNat))) ∧ w = w' := by
 refine (Tryd.strings_HasPrefix _ ⟨#[a, b]⟩ w).mono ?_
 rintro e w' ⟨he, rfl⟩
 rw [drop_data, prefix_two] at he
 exact ⟨he, rfl⟩

def behB (n : Nat) (g : Nat → Int) (c : Int) (i : Nat) : Int := if findB n g c i = -1 then -1 else findB n g c i + 1
def behW (n : Nat) (g : Nat → Int) (a b : Int) (i : Nat) : Int := if findW n g a b i = -1 then -1 else findW n g a b i + 2

theorem behind_one (s : ByteArray) (i : Nat) (c : UInt8) (w : World) (hi : i ≤ s.size) (hs : s.size ≤ 1000000) :
  Calls Tryd.prog 107 #[.string s, .int .i64 i, .string ⟨#[c]⟩] w fun e w' => e = .returned (.int .i64 (behB s.size (gAt s) c.toNat i)) ∧ w = w' := by
 have hf := findB_index s c _ i rfl
 have hb := findB_bd s.size (gAt s) c.toNat i
 have hge := Lib.indexByte_ge (s.data.toList.drop i) c
 have HI := Lib.hid (fun W => index1 s i c W)
 have HR : Hid (behB s.size (gAt s) c.toNat i = if findB s.size (gAt s) c.toNat i = -1 then -1 else findB s.size (gAt s) c.toNat i + 1) := Lib.hid rfl
 generalize behB s.size (gAt s) c.toNat i = R at HR ⊢
 generalize findB s.size (gAt s) c.toNat i = f at *
 generalize Lib.indexByte (s.data.toList.drop i) c = r at *
 by_cases hr : r = -1
 · subst hr
   obtain rfl : f = -1 := hf
   clear hb hge
   go_enter Tryd.func107, Tryd.ntmps107
   go_wp2_with (first | (go_at_call 58; refine (HI.out _).mono ?_; rintro e w' ⟨rfl, rfl⟩))
   go_ret
   exact ⟨ret_int (by rw [HR.out]; rfl), rfl⟩
 · rw [if_neg hr] at hf
   obtain ⟨k, rfl⟩ := Int.eq_ofNat_of_zero_le (show 0 ≤ r by omega)
   have hk : i + k ≤ 1000000 := by omega
   have HF := Lib.hid hf
   clear hf hb hge hr
   go_enter Tryd.func107, Tryd.ntmps107
   go_wp2_with (first | (go_at_call 58; refine (HI.out _).mono ?_; rintro e w' ⟨rfl, rfl⟩))
   go_ret
   exact ⟨ret_int (by rw [HR.out, HF.out, if_neg (by omega)]), rfl⟩

theorem behind_two (s : ByteArray) (i : Nat) (a b : UInt8) (w : World) (hm : MaxAt w) (hi : i ≤ s.size) (hs : s.size ≤ 1000000) :
  Calls Tryd.prog 107 #[.string s, .int .i64 i, .string ⟨#[a, b]⟩] w fun e w' => e = .returned (.int .i64 (behW s.size (gAt s) a.toNat b.toNat i)) ∧ w = w' := by
 have hf := findW_index s a b _ i rfl
 have hb := findW_bd s.size (gAt s) a.toNat b.toNat i
 have hge := Lib.index_ge (s.data.toList.drop i) [a, b]
 have HI := Lib.hid (index2 s i a b w hm hs)
 have HR : Hid (behW s.size (gAt s) a.toNat b.toNat i = if findW s.size (gAt s) a.toNat b.toNat i = -1 then -1 else findW s.size (gAt s) a.toNat b.toNat i + 2) := Lib.hid rfl
 generalize behW s.size (gAt s) a.toNat b.toNat i = R at HR ⊢
 generalize findW s.size (gAt s) a.toNat b.toNat i = f at *
 generalize Lib.index (s.data.toList.drop i) [a, b] = r at *
 clear hm
 by_cases hr : r = -1
 · subst hr
   obtain rfl : f = -1 := hf
   clear hb hge
   go_enter Tryd.func107, Tryd.ntmps107
   go_wp2_with (first | (go_at_call 58; refine HI.out.mono ?_; rintro e w' ⟨rfl, rfl⟩))
   go_ret
   exact ⟨ret_int (by rw [HR.out]; rfl), rfl⟩
 · rw [if_neg hr] at hf
   obtain ⟨k, rfl⟩ := Int.eq_ofNat_of_zero_le (show 0 ≤ r by omega)
   have hk : i + k ≤ 1000000 := by omega
   have HF := Lib.hid hf
   clear hf hb hge hr
   go_enter Tryd.func107, Tryd.ntmps107
   go_wp2_with (first | (go_at_call 58; refine HI.out.mono ?_; rintro e w' ⟨rfl, rfl⟩))
   go_ret
   exact ⟨ret_int (by rw [HR.out, HF.out, if_neg (by omega)]), rfl⟩

/-- the place behind a remark -/
def remF (n : Nat) (g : Nat → Int) (i : Nat) : Int :=
 if i + 1 < n ∧ g i = 47 ∧ g (i + 1) = 47 then (if findB n g 10 i = -1 then (n : Int) else findB n g 10 i)
 else if i + 1 < n ∧ g i = 47 ∧ g (i + 1) = 42 then (if findW n g 42 47 (i + 2) = -1 then -1 else findW n g 42 47 (i + 2) + 2)
 else (i : Int)

theorem remF_bd (n : Nat) (g : Nat → Int) (i : Nat) (hi : i ≤ n) : remF n g i = -1 ∨ ((i : Int) ≤ remF n g i ∧ remF n g i ≤ n) := by
 unfold remF
 have h3 := findB_bd n g 10 i
 have h4 := findW_bd n g 42 47 (i + 2)
 split
 · split <;> omega
 split
 · split <;> omega
 · omega

set_option maxRecDepth 100000 in
theorem remark_any (s : ByteArray) (i : Nat) (w : World) (hm : MaxAt w) (hi : i ≤ s.size) (hs : s.size ≤ 1000000) :
  Calls Tryd.prog 82 #[.string s, .int .i64 i] w fun e w' => e = .returned (.int .i64 (remF s.size (gAt s) i)) ∧ w = w' := by
 by_cases h1 : i + 1 < s.size ∧ gAt s i = 47 ∧ gAt s (i + 1) = 47
 · have HP : Hid (∀ W, Calls Tryd.prog 105 #[.string (s.extract i s.size), .string ⟨#[47, 47]⟩] W fun e w' => e = .returned (.bool true) ∧ W = w') := Lib.hid (fun W => by
    have := prefix2 s i 47 47 W
    rwa [decide_eq_true (by exact h1)] at this)
   have hr2 : remF s.size (gAt s) i = (if findB s.size (gAt s) 10 i = -1 then (s.size : Int) else findB s.size (gAt s) 10 i) := by unfold remF; rw [if_pos h1]
   have hf := findB_index s 10 _ i rfl
   have hb := findB_bd s.size (gAt s) 10 i
   have hge := Lib.indexByte_ge (s.data.toList.drop i) 10
   have HI := Lib.hid (fun W => indexB s i W)
   rw [show (((10 : UInt8).toNat : Nat) : Int) = 10 from rfl] at hf
   generalize findB s.size (gAt s) 10 i = f at *
   generalize Lib.indexByte (s.data.toList.drop i) 10 = r at *
   generalize remF s.size (gAt s) i = R at *
   clear h1 hm
   by_cases hr : r = -1
   · subst hr
     obtain rfl : f = -1 := hf
     have HR := Lib.hid hr2
     clear hb hge hr2
     go_enter Tryd.func82, Tryd.ntmps82
     go_wp2_with (first | (go_at_call 105; refine (HP.out _).mono ?_; rintro e w' ⟨rfl, rfl⟩) | (go_at_call 106; refine (HI.out _).mono ?_; rintro e w' ⟨rfl, rfl⟩))
     go_ret
     exact ⟨ret_int HR.out.symm, rfl⟩
   · rw [if_neg hr] at hf
     obtain ⟨k, rfl⟩ := Int.eq_ofNat_of_zero_le (show 0 ≤ r by omega)
     have hk : i + k ≤ 1000000 := by omega
     rw [hf, if_neg (by omega)] at hr2
     have HR := Lib.hid hr2
     clear hf hb hge hr2 hr
     go_enter Tryd.func82, Tryd.ntmps82
     go_wp2_with (first | (go_at_call 105; refine (HP.out _).mono ?_; rintro e w' ⟨rfl, rfl⟩) | (go_at_call 106; refine (HI.out _).mono ?_; rintro e w' ⟨rfl, rfl⟩))
     go_ret
     exact ⟨ret_int HR.out.symm, rfl⟩
 · have HP : Hid (∀ W, Calls Tryd.prog 105 #[.string (s.extract i s.size), .string ⟨#[47, 47]⟩] W fun e w' => e = .returned (.bool false) ∧ W = w') := Lib.hid (fun W => by
    have := prefix2 s i 47 47 W
    rwa [decide_eq_false (by exact h1)] at this)
   by_cases h2 : i + 1 < s.size ∧ gAt s i = 47 ∧ gAt s (i + 1) = 42
   · have HP2 : Hid (∀ W, Calls Tryd.prog 105 #[.string (s.extract i s.size), .string ⟨#[47, 42]⟩] W fun e w' => e = .returned (.bool true) ∧ W = w') := Lib.hid (fun W => by
      have := prefix2 s i 47 42 W
      rwa [decide_eq_true (by exact h2)] at this)
     have hr2 : remF s.size (gAt s) i = behW s.size (gAt s) 42 47 (i + 2) := by unfold remF behW; rw [if_neg h1, if_pos h2]
     have hi2 : i + 2 ≤ s.size := by omega
     have HB := behind_two s (i + 2) 42 47 w hm (by omega) hs
     push_cast at HB
     have HR : Hid (remF s.size (gAt s) i = behW s.size (gAt s) 42 47 (i + 2)) := Lib.hid hr2
     have HBB := Lib.hid HB
     clear h1 hm h2 hr2 HB
     go_enter Tryd.func82, Tryd.ntmps82
     go_wp2_with (first | (go_at_call 105; refine (HP.out _).mono ?_; rintro e w' ⟨rfl, rfl⟩) | (go_at_call 105; refine (HP2.out _).mono ?_; rintro e w' ⟨rfl, rfl⟩) | (go_at_call 107; refine HBB.out.mono ?_; rintro e w' ⟨rfl, rfl⟩))
     go_ret
     exact ⟨ret_int HR.out.symm, rfl⟩
   · have HP2 : Hid (∀ W, Calls Tryd.prog 105 #[.string (s.extract i s.size), .string ⟨#[47, 42]⟩] W fun e w' => e = .returned (.bool false) ∧ W = w') := Lib.hid (fun W => by
      have := prefix2 s i 47 42 W
      rwa [decide_eq_false (by exact h2)] at this)
     have HR : Hid (remF s.size (gAt s) i = i) := Lib.hid (by unfold remF; rw [if_neg h1, if_neg h2])
     clear h1 hm h2
     go_enter Tryd.func82, Tryd.ntmps82
     go_wp2_with (first | (go_at_call 105; refine (HP.out _).mono ?_; rintro e w' ⟨rfl, rfl⟩) | (go_at_call 105; refine (HP2.out _).mono ?_; rintro e w' ⟨rfl, rfl⟩))
     go_ret
     exact ⟨ret_int HR.out.symm, rfl⟩

end Go.Proofs.YtnoppoifepbchaaDoor
