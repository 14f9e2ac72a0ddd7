/- The law CombLays. -/
import Derived.Test.YtjeebcnjdhlcfaaDoorCombR5
namespace Go.Proofs.YtjeebcnjdhlcfaaDoor
open Go.RowKit
set_option linter.unusedVariables false
set_option linter.unusedSimpArgs false

theorem laid_row (L : List (List Int)) (W : Int) (i : Nat) : (rowAt (laidS L W) i).length ≤ 1000000 := by
  unfold rowAt laidS
  rw [List.getD_eq_getElem?_getD, List.getElem?_map]
  cases (L.take 14)[i]? with
  | none => simp
  | some r => have := laidTo_len r W 12; simp; omega
theorem raw_row (rows : List (List Pr)) (i : Nat) : (rowAt (rawS rows) i).length ≤ 1000000 := by
  unfold rowAt rawS
  rw [List.getD_eq_getElem?_getD, List.getElem?_map]
  cases (rows.take 9)[i]? with
  | none => simp
  | some r => simp; omega

set_option maxRecDepth 100000 in
set_option maxHeartbeats 16000000 in
theorem combLays_walk (v : Value) (L : List (List Int)) (wide : Int) (v2 : Value) (R : List (List Pr)) {w : World} (w0 : IRowsIn w v L) (w1 : (Lit.int .i64 wide).wf = true) (w2 : PRowsV w v2 R) (hT : TabAt 0 Lib.deBruijn64tab w) :
    Calls Tryd.prog 3 #[v, .int .i64 wide, v2] w fun e w' => e = .returned (.bool true) ∧ Below w.heap.size w w' := by
  have hE := combEnv_of hT
  clear hT
  obtain ⟨hv, hvw⟩ := w0
  have HW := Lib.hid (wakes_any w hE)
  have HLD := Lib.hid (fun (W : World) (hW : Below w.heap.size w W) => laid_any v L wide W (IRowsV.below hv hW) hvw w1)
  have HRD := Lib.hid (fun (W : World) (hW : Below w.heap.size w W) => raw_any v2 R W (PRowsV.below w2 hW))
  have HE := Lib.hid hE
  have hf1 := laidS_full L (1 + wide % 60)
  have hf2 := rawS_full R
  have hr1 := laid_row L (1 + wide % 60)
  have hr2 := raw_row R
  generalize laidS L (1 + wide % 60) = ra at HLD hf1 hr1
  generalize rawS R = rb at HRD hf2 hr2
  have HF := Lib.hid (And.intro hf1 (And.intro hf2 (And.intro hr1 hr2)))
  clear hv hvw hE w1 w2 hf1 hf2 hr1 hr2
  go_enter Tryd.func3, Tryd.ntmps3
  go_wp2_with fail
  refine HW.out.mono ?_
  rintro e w2 ⟨rfl, hb2⟩
  have HB2 := Lib.hid hb2
  clear hb2
  go_wp2_with fail
  refine (HLD.out _ HB2.out).mono ?_
  rintro e w3 ⟨⟨rv, rfl, hrv⟩, hb3⟩
  have HB3 := Lib.hid (And.intro (HB2.out.trans (hb3.mono HB2.out.size)) hrv)
  clear hb3 hrv
  go_wp2_with fail
  refine (HRD.out _ HB3.out.1).mono ?_
  rintro e w4 ⟨⟨sv, rfl, hsv⟩, hb4⟩
  have HB4 := Lib.hid (And.intro (HB3.out.1.trans (hb4.mono HB3.out.1.size)) (And.intro (PRowsV.below HB3.out.2 hb4) hsv))
  clear hb4 hsv
  have HL1 := Lib.hid (layC_any HB4.out.2.1 HF.out.1 (HE.out.below HB4.out.1))
  go_wp2_with fail
  refine HL1.out.mono ?_
  rintro e w5 ⟨ba, bn, bc, va, vn, vc, ka, kn, kc, rfl, hC5, hb5⟩
  have HB5 := Lib.hid (And.intro (HB4.out.1.trans (hb5.mono HB4.out.1.size)) (And.intro (PRowsV.below HB4.out.2.1 hb5) (And.intro (PRowsV.below HB4.out.2.2 hb5) hC5)))
  clear hb5 hC5 HL1
  have HL2 := Lib.hid (refLay_any rv ra w5 HB5.out.2.1 (by rw [orderS_len]; have := HF.out.1; omega) HF.out.2.2.1)
  go_wp2_with fail
  refine HL2.out.mono ?_
  rintro e w6 ⟨⟨b6, v6, k6, rfl, i1, i2, i3⟩, hb6⟩
  have hC5 := CombV.below HB5.out.2.2.2 hb6
  have HB6 := Lib.hid (And.intro (HB5.out.1.trans (hb6.mono HB5.out.1.size)) (PRowsV.below HB5.out.2.2.1 hb6))
  have HQ := Lib.hid (eqComb_any _ _ _ _ w6 hC5 ⟨_, _, _, rfl, i1, i2, i3⟩)
  rw [eqCombB_refl] at HQ
  clear hb6 hC5 i1 i2 i3 HL2
  go_wp2_with fail
  refine HQ.out.mono ?_
  rintro e w7 ⟨rfl, hb7⟩
  have HB7 := Lib.hid (And.intro (HB6.out.1.trans (hb7.mono HB6.out.1.size)) (PRowsV.below HB6.out.2 hb7))
  clear hb7 HQ
  have HL3 := Lib.hid (layC_any HB7.out.2 HF.out.2.1 (HE.out.below HB7.out.1))
  go_wp2_with fail
  refine HL3.out.mono ?_
  rintro e w8 ⟨ba', bn', bc', va', vn', vc', ka', kn', kc', rfl, hC8, hb8⟩
  have HB8 := Lib.hid (And.intro (HB7.out.1.trans (hb8.mono HB7.out.1.size)) (And.intro (PRowsV.below HB7.out.2 hb8) hC8))
  clear hb8 hC8 HL3
  have HL4 := Lib.hid (refLay_any sv rb w8 HB8.out.2.1 (by rw [orderS_len]; have := HF.out.2.1; omega) HF.out.2.2.2)
  go_wp2_with fail
  refine HL4.out.mono ?_
  rintro e w9 ⟨⟨b9, v9, k9, rfl, i1, i2, i3⟩, hb9⟩
  have hC8 := CombV.below HB8.out.2.2 hb9
  have HB9 := Lib.hid (HB8.out.1.trans (hb9.mono HB8.out.1.size))
  have HQ := Lib.hid (eqComb_any _ _ _ _ w9 hC8 ⟨_, _, _, rfl, i1, i2, i3⟩)
  rw [eqCombB_refl] at HQ
  clear hb9 hC8 i1 i2 i3 HL4
  go_wp2_with fail
  refine HQ.out.mono ?_
  rintro e w10 ⟨rfl, hb10⟩
  have hw := HB9.out.trans (hb10.mono HB9.out.size)
  clear hb10
  go_wp2_with fail
  go_ret
  exact ⟨rfl, hw⟩
end Go.Proofs.YtjeebcnjdhlcfaaDoor
