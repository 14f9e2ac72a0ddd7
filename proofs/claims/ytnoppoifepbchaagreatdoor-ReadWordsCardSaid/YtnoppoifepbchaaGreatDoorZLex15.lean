/- The key words, as a slice. -/
import Derived.Test.YtnoppoifepbchaaGreatDoorZA
import Derived.Test.YtnoppoifepbchaaGreatDoorZLex8
import Derived.Test.YtnoppoifepbchaaGreatDoorZLex11
import Derived.Test.YtnoppoifepbchaaGreatDoorZLex13
import Derived.Test.YtnoppoifepbchaaGreatDoorZLex14
import Derived.Test.YtnoppoifepbchaaGreatDoorZLex16
namespace Go.Proofs.YtnoppoifepbchaaGreatDoor
section
open Go.RowKit
set_option linter.unusedVariables false
set_option linter.unusedSimpArgs false
def KeysAt (w w' : World) (v : Value) : Prop := ∃ (B : Nat) (K : Nat → ByteArray), w.heap.size ≤ B ∧ v = .slice (some ⟨B, 0, none⟩) 7 7 ∧ ∀ j, j < 7 → w'.cell? ⟨B, j, none⟩ = some (.string (K j)) ∧ (K j).data.toList = keyL.getD j []

set_option maxRecDepth 100000 in
theorem rkeys_any (w : World) :
  Calls Tryz.prog 25 #[] w fun r w' => (∃ v, r = .returned v ∧ KeysAt w w' v) ∧ Below w.heap.size w w' := by
 go_enter Tryz.func25, Tryz.ntmps25
 go_wp2_with fail
 go_ret
 refine ⟨⟨_, rfl, w.heap.size, fun j => ⟨(keyL.getD j []).toArray⟩, Nat.le_refl _, rfl, fun j hj => ?_⟩, (Below.refl _ _).alloc (Nat.le_refl _) _⟩
 match j, hj with
 | 0, _ => exact ⟨cell_top w _ _ _ 0 rfl, rfl⟩
 | 1, _ => exact ⟨cell_top w _ _ _ 1 rfl, rfl⟩
 | 2, _ => exact ⟨cell_top w _ _ _ 2 rfl, rfl⟩
 | 3, _ => exact ⟨cell_top w _ _ _ 3 rfl, rfl⟩
 | 4, _ => exact ⟨cell_top w _ _ _ 4 rfl, rfl⟩
 | 5, _ => exact ⟨cell_top w _ _ _ 5 rfl, rfl⟩
 | 6, _ => exact ⟨cell_top w _ _ _ 6 rfl, rfl⟩
end
section
open Go.RowKit
set_option linter.unusedVariables false
set_option linter.unusedSimpArgs false
theorem ext_two (s : ByteArray) (i : Nat) (a b : UInt8) (h : i + 1 < s.size) (ha : gAt s i = a.toNat) (hb : gAt s (i + 1) = b.toNat) : (⟨#[a, b]⟩ : ByteArray) = s.extract i (i + 2) := by
 apply ByteArray.ext
 apply Array.toList_inj.1
 have hl : (s.extract i (i + 2)).data.toList.length = i + 2 - i := extract_len s (by omega)
 have e0 := extract_getD s (x := i) (e := i + 2) (m := 0) (by omega) (by omega)
 have e1 := extract_getD s (x := i) (e := i + 2) (m := 1) (by omega) (by omega)
 generalize (s.extract i (i + 2)).data.toList = l at *
 match l, hl with
 | [x, y], _ =>
   simp at e0 e1
   have h0 : x = a := UInt8.toNat_inj.1 (by omega)
   have h1 : y = b := UInt8.toNat_inj.1 (by omega)
   rw [h0, h1]
 | [], hl => simp at hl
 | [x], hl => simp at hl
 | x :: y :: z :: r, hl => simp at hl

set_option maxRecDepth 100000 in
set_option maxHeartbeats 2000000 in
theorem rword_mark (s : ByteArray) (i : Nat) (w : World) (h : gAt s i = 37) (h1 : i + 1 < s.size) (h2 : gAt s (i + 1) = 37) (hs : s.size ≤ 1000000) :
  Calls Tryz.prog 34 #[.string s, .int .i64 i] w fun r w' => WdTells r (⟨7, s.extract i (i + 2), i⟩, 2) ∧ Below w.heap.size w w' := by
 have hg := gAt_get s i (by omega)
 have HL := Lib.hid (fun W => rletter_any 37 W)
 rw [show begB 37 = false by decide] at HL
 have HD := Lib.hid (fun W => rdigit_any 37 W)
 rw [show digB 37 = false by decide] at HD
 have HB1 := Lib.hid (fun W => begins_two s i 37 37 W (by omega) hs)
 rw [decide_eq_true ⟨h1, h, h2⟩] at HB1
 have hx := ext_two s i 37 37 h1 h h2
 rw [← hx]
 rw [h] at hg
 clear h h2 hx
 go_enter Tryz.func34, Tryz.ntmps34
 go_wp2_with (first
  | (go_at_call 66; refine (HL.out _).mono ?_; rintro e w1 ⟨rfl, rfl⟩)
  | (go_at_call 69; refine (HD.out _).mono ?_; rintro e w1 ⟨rfl, rfl⟩))
 refine (HB1.out _).mono ?_
 rintro e w1 ⟨rfl, rfl⟩
 go_wp2_with fail
 exact bodyPost_ret (v := .tuple #[.agg #[.int .i64 7, .string ⟨#[37, 37]⟩, .int .i64 (i : Int)], .int .i64 2]) (by simp [results, Tryz.results34, go_sem, World.cell?_setCell_same, World.cell?_setCell_other]) rfl ⟨rfl, by
  repeat' first | exact Below.refl _ _ | assumption | refine Below.drew ?_ | refine Below.setCell ?_ ?_ _ | refine Below.alloc ?_ ?_ _ | (simp; omega) | simp⟩

set_option maxRecDepth 100000 in
set_option maxHeartbeats 4000000 in
theorem rword_pro (s : ByteArray) (i : Nat) (w : World) (h : gAt s i = 37) (h1 : i + 1 < s.size) (h2 : gAt s (i + 1) = 123) (hs : s.size ≤ 1000000) :
  Calls Tryz.prog 34 #[.string s, .int .i64 i] w fun r w' => WdTells r (if findW s.size (gAt s) 37 125 (i + 2) = -1 then (⟨0, ByteArray.empty, i⟩, 0) else (⟨9, s.extract (i + 2) (findW s.size (gAt s) 37 125 (i + 2)).toNat, i⟩, (findW s.size (gAt s) 37 125 (i + 2)).toNat + 2 - i)) ∧ Below w.heap.size w w' := by
 have hg := gAt_get s i (by omega)
 have HL := Lib.hid (fun W => rletter_any 37 W)
 rw [show begB 37 = false by decide] at HL
 have HD := Lib.hid (fun W => rdigit_any 37 W)
 rw [show digB 37 = false by decide] at HD
 have HB1 := Lib.hid (fun W => begins_two s i 37 37 W (by omega) hs)
 rw [decide_eq_false (fun hc => by have := hc.2.2; rw [h2] at this; exact absurd this (by decide))] at HB1
 have HB2 := Lib.hid (fun W => begins_two s i 37 123 W (by omega) hs)
 rw [decide_eq_true ⟨h1, h, h2⟩] at HB2
 have HB3 := Lib.hid (fun k W (hk : k ≤ s.size) => begins_two s k 37 125 W hk hs)
 have HF : Hid (∃ F, F = findW s.size (gAt s) 37 125 (i + 2)) := Lib.hid ⟨_, rfl⟩
 obtain ⟨F, hF⟩ := HF.out
 rw [← hF]
 have HI := Lib.hid hF
 rw [h] at hg
 clear h h2 hF HF
 generalize gAt s = g at *
 go_enter Tryz.func34, Tryz.ntmps34
 go_wp2_with (first
  | (go_at_call 66; refine (HL.out _).mono ?_; rintro e w1 ⟨rfl, rfl⟩)
  | (go_at_call 69; refine (HD.out _).mono ?_; rintro e w1 ⟨rfl, rfl⟩))
 refine (HB1.out _).mono ?_
 rintro e w1 ⟨rfl, rfl⟩
 go_wp2_with fail
 refine (HB2.out _).mono ?_
 rintro e w1 ⟨rfl, rfl⟩
 go_wp2_with fail
 go_loop [16] (fun x => ∃ k : Nat, i + 2 ≤ k ∧ k ≤ s.size ∧ x = .int .i64 k ∧ Hid (F = findW s.size g 37 125 k)) (fun x => s.size + 1 - (intOf x).toNat)
 case atStart => exact ⟨i + 2, by omega, by omega, by go_num, HI⟩
 case round =>
  obtain ⟨k, hk1, hk2, rfl, HK⟩ := hrel
  by_cases hlt : k < s.size
  · have HBk := HB3.out k
    by_cases hc : k + 1 < s.size ∧ g k = 37 ∧ g (k + 1) = 125
    · have HB4 : Hid (∀ W, Calls Tryz.prog 71 #[.string s, .int .i64 k, .string ⟨#[37, 125]⟩] W fun e w' => e = .returned (.bool true) ∧ W = w') := Lib.hid (fun W => by
       have := HBk W hk2
       rw [show decide (k + 1 < s.size ∧ g k = (((37 : UInt8).toNat : Nat) : Int) ∧ g (k + 1) = (((125 : UInt8).toNat : Nat) : Int)) = true from decide_eq_true hc] at this
       exact this)
      have hFk : F = (k : Int) := by have e := HK.out; rw [findW, if_pos hc.1, if_pos hc.2] at e; exact e
      have hk3 : k + 1 < s.size := hc.1
      clear HBk hc HK
      have hR : (if F = -1 then ((⟨0, ByteArray.empty, i⟩ : Wd), 0) else (⟨9, s.extract (i + 2) F.toNat, i⟩, F.toNat + 2 - i)) = (⟨9, s.extract (i + 2) k, i⟩, k + 2 - i) := by
       rw [hFk, if_neg (by omega)]; rfl
      have e3 : (k : Int) + 2 - (i : Int) = ((k + 2 - i : Nat) : Int) := by omega
      have e4 : ((i : Int) + 2).toNat = i + 2 := by omega
      go_wp2_with fail
      refine (HB4.out _).mono ?_
      rintro e w1 ⟨rfl, rfl⟩
      go_wp2_with fail
      go_region
      all_goals
       go_wp2_with fail
       exact bodyPost_ret (v := .tuple #[.agg #[.int .i64 9, .string (s.extract (i + 2) k), .int .i64 (i : Int)], .int .i64 ((k + 2 - i : Nat) : Int)]) (by simp [results, Tryz.results34, go_sem, World.cell?_setCell_same, World.cell?_setCell_other, e3, e4]) rfl ⟨by first | rfl | (rw [hR]; rfl), by
        repeat' first | exact Below.refl _ _ | assumption | refine Below.drew ?_ | refine Below.setCell ?_ ?_ _ | refine Below.alloc ?_ ?_ _ | (simp; omega) | simp⟩
    · have HB4 : Hid (∀ W, Calls Tryz.prog 71 #[.string s, .int .i64 k, .string ⟨#[37, 125]⟩] W fun e w' => e = .returned (.bool false) ∧ W = w') := Lib.hid (fun W => by
       have := HBk W hk2
       rw [show decide (k + 1 < s.size ∧ g k = (((37 : UInt8).toNat : Nat) : Int) ∧ g (k + 1) = (((125 : UInt8).toNat : Nat) : Int)) = false from decide_eq_false hc] at this
       exact this)
      have HK2 : Hid (F = findW s.size g 37 125 (k + 1)) := Lib.hid (by
       have e := HK.out
       rw [findW] at e
       by_cases h3 : k + 1 < s.size
       · rw [if_pos h3, if_neg (fun hx => hc ⟨h3, hx⟩)] at e; exact e
       · rw [if_neg h3] at e; rw [findW, if_neg (by omega)]; exact e)
      clear HBk hc HK
      go_wp2_with fail
      refine (HB4.out _).mono ?_
      rintro e w1 ⟨rfl, rfl⟩
      go_wp2_with fail
      go_round
      case rel => exact ⟨k + 1, by omega, by omega, by go_num, HK2⟩
      case measure => simp [intOf]; omega
  · have hFk : F = -1 := by have e := HK.out; rw [findW, if_neg (by omega)] at e; exact e
    have hR : (if F = -1 then ((⟨0, ByteArray.empty, i⟩ : Wd), 0) else (⟨9, s.extract (i + 2) F.toNat, i⟩, F.toNat + 2 - i)) = (⟨0, ByteArray.empty, i⟩, 0) := if_pos hFk
    clear hFk HK
    go_wp2_with fail
    exact bodyPost_ret (v := .tuple #[.agg #[.int .i64 0, .string ByteArray.empty, .int .i64 (i : Int)], .int .i64 0]) (by simp [results, Tryz.results34, go_sem, World.cell?_setCell_same, World.cell?_setCell_other]; rfl) rfl ⟨by first | rfl | (rw [hR]; rfl), by
     repeat' first | exact Below.refl _ _ | assumption | refine Below.drew ?_ | refine Below.setCell ?_ ?_ _ | refine Below.alloc ?_ ?_ _ | (simp; omega) | simp⟩
end
end Go.Proofs.YtnoppoifepbchaaGreatDoor
