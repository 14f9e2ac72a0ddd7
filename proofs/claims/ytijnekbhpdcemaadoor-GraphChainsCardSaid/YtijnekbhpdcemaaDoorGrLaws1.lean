/- A number within others: the document's remainder. -/
import Derived.Test.YtijnekbhpdcemaaDoorEqInts
import Derived.IntWalk
import Derived.Test.YtijnekbhpdcemaaDoorGrWakes
import Derived.Test.YtijnekbhpdcemaaDoorGrLists
import Derived.Test.YtijnekbhpdcemaaDoorGrRefComps2
namespace Go.Proofs.YtijnekbhpdcemaaDoor
section
open Go.RowKit
set_option linter.unusedVariables false

theorem tmod_emod (i : Int) (n : Nat) (hn : 0 < n) : (if Int.tmod i n < 0 then Int.tmod i n + n else Int.tmod i n) = i % n := by
  have h := Int.emod_nonneg i (show (n : Int) ≠ 0 by omega)
  by_cases h0 : 0 ≤ i
  · rw [Int.tmod_eq_emod_of_nonneg h0, if_neg (by omega)]
  · rw [Int.tmod_eq_emod]
    split <;> rename_i h1
    · rcases h1 with h1 | h1
      · omega
      · have : i % n = 0 := Int.emod_eq_zero_of_dvd h1
        rw [this]
        simp
    · have h2 := Int.emod_lt_of_pos i (show (0 : Int) < n by omega)
      have e : ((n : Int).natAbs : Int) = n := by omega
      rw [e, if_pos (by omega)]; omega

set_option maxRecDepth 100000 in
theorem within_any (i : Int) (n : Nat) (w : World) (hi : (Lit.int .i64 i).wf = true) (hn : 0 < n) (hn2 : n ≤ 1000000) :
    Calls Tryd.prog 38 #[.int .i64 i, .int .i64 n] w fun e w' => e = .returned (.int .i64 (i % n)) ∧ w = w' := by
  have hw : -9223372036854775808 ≤ i ∧ i ≤ 9223372036854775807 := by simpa [Lit.wf, IntKind.min, IntKind.max, IntKind.signed, IntKind.bits] using hi
  have HM := Lib.hid (tmod_emod i n hn)
  have hl : -1000000 ≤ Int.tmod i n ∧ Int.tmod i n ≤ 1000000 := by
    have h := tmod_emod i n hn
    have h1 := Int.emod_nonneg i (show (n : Int) ≠ 0 by omega)
    have h2 := Int.emod_lt_of_pos i (show (0 : Int) < n by omega)
    split at h <;> omega
  obtain ⟨l1, l2⟩ := hl
  go_enter Tryd.func38, Tryd.ntmps38
  go_wp2
  all_goals
    go_ret
    exact ⟨ret_int (by have e := HM.out; grind), rfl⟩

theorem within_9 (i : Int) (w : World) (hi : (Lit.int .i64 i).wf = true) :
    Calls Tryd.prog 38 #[.int .i64 i, .int .i64 9] w fun e w' => e = .returned (.int .i64 (i % 9)) ∧ w = w' := within_any i 9 w hi (by omega) (by omega)
theorem within_60 (i : Int) (w : World) (hi : (Lit.int .i64 i).wf = true) :
    Calls Tryd.prog 38 #[.int .i64 i, .int .i64 60] w fun e w' => e = .returned (.int .i64 (i % 60)) ∧ w = w' := within_any i 60 w hi (by omega) (by omega)
end

section
open Go.RowKit
set_option linter.unusedVariables false
set_option linter.unusedSimpArgs false

theorem cutLs_len (L : List (List Int)) (most each : Nat) : (cutLs L most each).length ≤ most := by unfold cutLs; simp; omega
theorem cutI_len (l : List Int) (m : Nat) : (cutI l m).length ≤ m := by
  unfold cutI
  by_cases h : m < l.length
  · rw [if_pos h, List.length_take]; omega
  · rw [if_neg h]; omega
theorem cutLs_row (L : List (List Int)) (most each i : Nat) : ((cutLs L most each).getD i []).length ≤ each := by
  unfold cutLs
  rw [List.getD_eq_getElem?_getD, List.getElem?_map]
  cases h : (L.take most)[i]? with
  | none => simp
  | some l => simpa using cutI_len l each
theorem lists_25_8 (v : Value) (L : List (List Int)) (w : World) (h : RowsV w v L) : Calls Tryd.prog 32 #[v, .int .i64 25, .int .i64 8] w (TellsRows (cutLs L 25 8) w) := lists_any v L 25 8 w h (by omega) (by omega)
theorem lists_30_8 (v : Value) (L : List (List Int)) (w : World) (h : RowsV w v L) : Calls Tryd.prog 32 #[v, .int .i64 30, .int .i64 8] w (TellsRows (cutLs L 30 8) w) := lists_any v L 30 8 w h (by omega) (by omega)
theorem lists_25_6 (v : Value) (L : List (List Int)) (w : World) (h : RowsV w v L) : Calls Tryd.prog 32 #[v, .int .i64 25, .int .i64 6] w (TellsRows (cutLs L 25 6) w) := lists_any v L 25 6 w h (by omega) (by omega)
theorem lists_20_6 (v : Value) (L : List (List Int)) (w : World) (h : RowsV w v L) : Calls Tryd.prog 32 #[v, .int .i64 20, .int .i64 6] w (TellsRows (cutLs L 20 6) w) := lists_any v L 20 6 w h (by omega) (by omega)

set_option maxRecDepth 100000 in
set_option maxHeartbeats 4000000 in
theorem graphClose_walk (v0 : Value) (l0 : List (List Int)) (v1 : Value) (l1 : List (List Int)) (w : World) (h0 : RowsV w v0 l0) (h1 : RowsV w v1 l1) (hT : TabAt 0 Lib.deBruijn64tab w) :
    Calls Tryd.prog 8 #[v0, v1] w fun e w' => e = .returned (.bool true) ∧ Below w.heap.size w w' := by
  have HT := Lib.hid hT
  have H0 := Lib.hid h0
  have H1 := Lib.hid h1
  clear hT h0 h1
  go_enter Tryd.func8, Tryd.ntmps8
  go_wp2_with fail
  refine (grWakes_any _ HT.out).mono ?_
  rintro e w2 ⟨rfl, hb2⟩
  go_wp2_with fail
  refine (lists_25_8 v0 l0 _ (H0.out.below hb2)).mono ?_
  rintro e w3 ⟨⟨rv, rfl, hr⟩, hb3⟩
  have hb3' := hb2.trans (hb3.mono hb2.size)
  clear hb3 hb2
  have HR := Lib.hid hr
  clear hr
  go_wp2_with fail
  refine (lists_30_8 v1 l1 _ (H1.out.below hb3')).mono ?_
  rintro e w4 ⟨⟨sv, rfl, hs⟩, hb4⟩
  have HR4 := Lib.hid (HR.out.below hb4)
  have hb4' := hb3'.trans (hb4.mono hb3'.size)
  have HS := Lib.hid hs
  clear hb4 hb3' hs HR
  have hlen := cutLs_len l0 25 8
  have hslen := cutLs_len l1 30 8
  have hsrow := cutLs_row l1 30 8
  generalize cutLs l0 25 8 = L at HR4 hlen
  generalize cutLs l1 30 8 = S at HS hslen hsrow
  have HSR := Lib.hid hsrow
  clear hsrow
  go_wp2_with fail
  refine (closeG_any L S _ _ _ HR4.out HS.out (by omega) (tab_past HT.out hb4')).mono ?_
  rintro e w5 ⟨⟨cv, C, rfl, hcv, hC, _⟩, hb5⟩
  have HC := Lib.hid (hC (by omega))
  have HR5 := Lib.hid (HR4.out.below hb5)
  have HS5 := Lib.hid (HS.out.below hb5)
  have hb5' := hb4'.trans (hb5.mono hb4'.size)
  have HCV := Lib.hid hcv
  clear hC hb5 hb4' hcv HR4 HS
  go_wp2_with fail
  refine (refClose_any L S _ _ _ HR5.out HS5.out (by omega) (by omega) (fun i => Nat.le_trans (HSR.out i) (by omega))).mono ?_
  rintro e w6 ⟨⟨dv, D, rfl, hdv, hD, _⟩, hb6⟩
  obtain rfl := isClose_one HC.out (hD (by omega))
  have HCV6 := Lib.hid (HCV.out.below hb6)
  have HDV := Lib.hid hdv
  have hb6' := hb5'.trans (hb6.mono hb5'.size)
  clear hD hb6 hb5' hdv HCV
  go_wp2_with fail
  refine (eqLists_any _ _ C C _ HCV6.out HDV.out).mono ?_
  rintro e w7 ⟨rfl, hb7⟩
  rw [show (C == C) = true from beq_self_eq_true C]
  have hb7' := hb6'.trans (hb7.mono hb6'.size)
  clear hb7
  go_wp2_with fail
  go_ret
  exact ⟨rfl, hb7'⟩

set_option maxRecDepth 100000 in
set_option maxHeartbeats 4000000 in
theorem graphComps_walk (v0 : Value) (l0 : List (List Int)) (w : World) (h0 : RowsV w v0 l0) (hT : TabAt 0 Lib.deBruijn64tab w) :
    Calls Tryd.prog 9 #[v0] w fun e w' => e = .returned (.bool true) ∧ Below w.heap.size w w' := by
  have HT := Lib.hid hT
  have H0 := Lib.hid h0
  clear hT h0
  go_enter Tryd.func9, Tryd.ntmps9
  go_wp2_with fail
  refine (grWakes_any _ HT.out).mono ?_
  rintro e w2 ⟨rfl, hb2⟩
  go_wp2_with fail
  refine (lists_25_6 v0 l0 _ (H0.out.below hb2)).mono ?_
  rintro e w3 ⟨⟨rv, rfl, hr⟩, hb3⟩
  have hb3' := hb2.trans (hb3.mono hb2.size)
  clear hb3 hb2
  have HR := Lib.hid hr
  clear hr
  have hlen := cutLs_len l0 25 6
  generalize cutLs l0 25 6 = L at HR hlen
  go_wp2_with fail
  refine (comps_all L _ _ HR.out (by omega)).mono ?_
  rintro e w5 ⟨⟨cv, C, rfl, hcv, hC, _⟩, hb5⟩
  have HC := Lib.hid (hC (by omega))
  have HR5 := Lib.hid (HR.out.below hb5)
  have hb5' := hb3'.trans (hb5.mono hb3'.size)
  have HCV := Lib.hid hcv
  clear hC hb5 hb3' hcv HR
  go_wp2_with fail
  refine (refComps_any L _ _ HR5.out (by omega)).mono ?_
  rintro e w6 ⟨⟨dv, D, rfl, hdv, hD, _⟩, hb6⟩
  obtain rfl := isComps_one HC.out (hD (by omega))
  have HCV6 := Lib.hid (HCV.out.below hb6)
  have HDV := Lib.hid hdv
  have hb6' := hb5'.trans (hb6.mono hb5'.size)
  clear hD hb6 hb5' hdv HCV
  go_wp2_with fail
  refine (eqLists_any _ _ C C _ HCV6.out HDV.out).mono ?_
  rintro e w7 ⟨rfl, hb7⟩
  rw [show (C == C) = true from beq_self_eq_true C]
  have hb7' := hb6'.trans (hb7.mono hb6'.size)
  clear hb7
  go_wp2_with fail
  go_ret
  exact ⟨rfl, hb7'⟩
end

end Go.Proofs.YtijnekbhpdcemaaDoor
