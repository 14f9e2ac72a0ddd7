/- What is passed over: body's and the document's. -/
import Derived.Test.YtmpdpgbcflogfaaDoorScan
namespace Go.Proofs.YtmpdpgbcflogfaaDoor
open Go.RowKit
set_option linter.unusedVariables false

theorem quoted_g (s : ByteArray) (g : Nat → Int) (i : Nat) (R : Int) (w : World) (hi : i < s.size) (hs : s.size ≤ 1000000) (hg : ∀ j (h : j < s.size), ((s[j]'h).toNat : Int) = g j)
    (HR : Hid (R = quo s.size g (g i) (i + 1))) (HQ : Hid (g i ≠ 10 ∧ g i ≠ 92)) :
    Calls Tryd.prog 46 #[.string s, .int .i64 i] w fun e w' => e = .returned (.int .i64 R) ∧ w = w' := by
  go_enter Tryd.func46, Tryd.ntmps46
  go_wp2_with fail
  go_loop [6] (fun x => ∃ k : Nat, k ≤ s.size + 1 ∧ x = .int .i64 k ∧ Hid (R = quo s.size g (g i) k)) (fun x => s.size + 1 - (intOf x).toNat)
  case atStart => exact ⟨i + 1, by omega, by go_num, HR⟩
  case round =>
    obtain ⟨k, hk, rfl, HK⟩ := hrel
    by_cases hlt : k < s.size
    · by_cases hlt2 : k + 1 < s.size
      · go_wp2_with fail
        all_goals first
          | (go_round
             case rel => first | exact ⟨k + 2, by omega, by go_num, Lib.hid (by have e := HK.out; have q := HQ.out; rw [quo] at e; grind)⟩ | exact ⟨k + 1, by omega, by go_num, Lib.hid (by have e := HK.out; have q := HQ.out; rw [quo] at e; grind)⟩
             case measure => simp [intOf]; omega)
          | (go_ret
             exact ⟨ret_int (by have e := HK.out; have q := HQ.out; rw [quo] at e; grind), rfl⟩)
      · go_wp2_with fail
        all_goals first
          | (go_round
             case rel => first | exact ⟨k + 2, by omega, by go_num, Lib.hid (by have e := HK.out; have q := HQ.out; rw [quo] at e; grind)⟩ | exact ⟨k + 1, by omega, by go_num, Lib.hid (by have e := HK.out; have q := HQ.out; rw [quo] at e; grind)⟩
             case measure => simp [intOf]; omega)
          | (go_ret
             exact ⟨ret_int (by have e := HK.out; have q := HQ.out; rw [quo] at e; grind), rfl⟩)
    · go_wp2_with fail
      go_ret
      exact ⟨ret_int (by have e := HK.out; rw [quo, if_neg hlt] at e; exact e.symm), rfl⟩

theorem overF_eq (n : Nat) (g : Nat → Int) (i : Nat) : overF n g i = if g i = 34 ∨ g i = 39 then quo n g (g i) (i + 1) else if g i = 96 then behB n g 96 (i + 1) else remF n g i := rfl

set_option maxRecDepth 100000 in
theorem skip_any (s : ByteArray) (i : Nat) (w : World) (hm : MaxAt w) (hi : i < s.size) (hs : s.size ≤ 1000000) :
    Calls Tryd.prog 30 #[.string s, .int .i64 i] w fun e w' => e = .returned (.int .i64 (overF s.size (gAt s) i)) ∧ w = w' := by
  have hg := fun j h => gAt_get s j h
  have HQ := Lib.hid (fun (hq : gAt s i = 34 ∨ gAt s i = 39) => quoted_g s (gAt s) i _ w hi hs hg (Lib.hid rfl) (Lib.hid (by omega)))
  have hb := behind_one s (i + 1) 96 w (by omega) hs
  push_cast at hb
  have HB := Lib.hid hb
  have HM := Lib.hid (remark_any s i w hm (by omega) hs)
  have HR := Lib.hid (overF_eq s.size (gAt s) i)
  clear hb hm
  generalize gAt s = g at *
  generalize overF s.size g i = R at *
  go_enter Tryd.func30, Tryd.ntmps30
  go_wp2_with (first
    | (go_at_call 46; refine (HQ.out (by grind)).mono ?_; rintro e w' ⟨rfl, rfl⟩)
    | (go_at_call 47; refine HB.out.mono ?_; rintro e w' ⟨rfl, rfl⟩)
    | (go_at_call 48; refine HM.out.mono ?_; rintro e w' ⟨rfl, rfl⟩))
  all_goals
    go_ret
    exact ⟨ret_int (by have e := HR.out; grind), rfl⟩

theorem two_beq (s : ByteArray) (i : Nat) (a b : UInt8) (h : i + 2 ≤ s.size) : ((s.extract i (i + 2)).toList = [a, b]) ↔ (gAt s i = a.toNat ∧ gAt s (i + 1) = b.toNat) := by
  have hs : s.data.toList.length = s.size := rfl
  rw [Lib.toList_data, Lib.extract_data, show i + 2 - i = 2 by omega, List.drop_eq_getElem_cons (show i < s.data.toList.length by omega), List.drop_eq_getElem_cons (show i + 1 < s.data.toList.length by omega)]
  rw [← gAt_at s i (by omega), ← gAt_at s (i + 1) (by omega)]
  simp only [List.take_succ_cons, List.take_zero, List.cons.injEq, and_true]
  constructor
  · rintro ⟨h1, h2⟩; rw [← h1, ← h2]; exact ⟨rfl, rfl⟩
  · rintro ⟨h1, h2⟩; exact ⟨UInt8.toNat_inj.1 (by omega), UInt8.toNat_inj.1 (by omega)⟩

theorem begins_two (s : ByteArray) (i : Nat) (a b : UInt8) (w : World) (hi : i ≤ s.size) (hs : s.size ≤ 1000000) :
    Calls Tryd.prog 49 #[.string s, .int .i64 i, .string ⟨#[a, b]⟩] w fun e w' => e = .returned (.bool (decide (i + 1 < s.size ∧ gAt s i = a.toNat ∧ gAt s (i + 1) = b.toNat))) ∧ w = w' := by
  have hl : (⟨#[a, b]⟩ : ByteArray).size = 2 := rfl
  have hll : (⟨#[a, b]⟩ : ByteArray).toList = [a, b] := Lib.toList_data _
  by_cases h2 : i + 2 ≤ s.size
  · have d1 : decide ((2 : Int) ≤ (s.size : Int) - (i : Int)) = true := by simp; omega
    have ht := two_beq s i a b h2
    by_cases hc : gAt s i = a.toNat ∧ gAt s (i + 1) = b.toNat
    · have hx := ht.2 hc
      have HR : Hid (decide (i + 1 < s.size ∧ gAt s i = a.toNat ∧ gAt s (i + 1) = b.toNat) = true) := Lib.hid (decide_eq_true ⟨by omega, hc⟩)
      clear hc ht
      go_enter Tryd.func49, Tryd.ntmps49
      go_wp2
      go_ret
      exact ⟨ret_bool HR.out.symm, rfl⟩
    · have hx : ((s.extract i (i + 2)).toList == [a, b]) = false := by rw [beq_eq_false_iff_ne]; exact fun h => hc (ht.1 h)
      have HR : Hid (decide (i + 1 < s.size ∧ gAt s i = a.toNat ∧ gAt s (i + 1) = b.toNat) = false) := Lib.hid (decide_eq_false (fun h => hc h.2))
      clear hc ht
      go_enter Tryd.func49, Tryd.ntmps49
      go_wp2
      go_ret
      exact ⟨ret_bool HR.out.symm, rfl⟩
  · have d1 : decide ((2 : Int) ≤ (s.size : Int) - (i : Int)) = false := by simp; omega
    have HR : Hid (decide (i + 1 < s.size ∧ gAt s i = a.toNat ∧ gAt s (i + 1) = b.toNat) = false) := Lib.hid (decide_eq_false (fun h => by omega))
    go_enter Tryd.func49, Tryd.ntmps49
    go_wp2
    go_ret
    exact ⟨ret_bool HR.out.symm, rfl⟩

end Go.Proofs.YtmpdpgbcflogfaaDoor
