/- The walk of the law GraphMany. -/
import Derived.Test.YtijnekbhpdcemaaDoorGrLaws1
namespace Go.Proofs.YtijnekbhpdcemaaDoor
open Go.RowKit
set_option linter.unusedVariables false
set_option linter.unusedSimpArgs false

set_option maxRecDepth 100000 in
set_option maxHeartbeats 8000000 in
theorem graphMany_walk (n : Int) (w0 : (Lit.int .i64 n).wf = true) (w : World) (hT : TabAt 0 Lib.deBruijn64tab w) :
    Calls Tryd.prog 12 #[.int .i64 n] w fun e w' => e = .returned (.bool true) ∧ Below w.heap.size w w' := by
  have HT := Lib.hid hT
  have hm1 := Int.emod_nonneg n (show (9 : Int) ≠ 0 by omega)
  have hm2 := Int.emod_lt_of_pos n (show (0 : Int) < 9 by omega)
  obtain ⟨N, hN⟩ : ∃ N : Nat, 3996 + n % 9 = N := ⟨(3996 + n % 9).toNat, by omega⟩
  have hN1 : 3996 ≤ N := by omega
  have hN2 : N ≤ 4004 := by omega
  have hwi := Lib.hid (fun W => within_9 n W w0)
  have hmk := fun (W : World) => run_make_row' (P := Tryd.prog) 45 22 (.slice none 0 0) 24 Tryd.underlying45 Tryd.infoRow rfl .i64 .i64 N (by omega) (by omega) W
  clear hT w0
  go_enter Tryd.func12, Tryd.ntmps12
  go_wp2_with fail
  refine (grWakes_any _ HT.out).mono ?_
  rintro e w2 ⟨rfl, hb2⟩
  go_wp2_with fail
  refine (hwi.out _).mono ?_
  rintro e w3 ⟨rfl, rfl⟩
  have hr0 := World.rowIs_made w2 (.slice none 0 0) N 22
  have hb3 := hb2.alloc hb2.size (.cells (madeCells #[.slice none 0 0] N) 22)
  have hs2 := hb2.size
  clear hb2
  go_wp2_with fail
  generalize w2.alloc (.cells (madeCells #[.slice none 0 0] N) 22) = w4 at hr0 hb3 ⊢
  generalize w2.heap.size = g at hr0 hs2 ⊢
  clear hm1 hm2 hN hmk
  go_loopw [4] (fun x W => ∃ (k : Nat) (f : Nat → Value), k ≤ N ∧ x = .int .i64 k ∧ Filled W g N f (fun j : Nat => [(j : Int), (j : Int) - 1]) k ∧ Below w.heap.size w W) (fun x _ => N - (intOf x).toNat)
  case atStart => exact ⟨0, _, Nat.zero_le _, rfl, ⟨hr0, fun i hi => absurd hi (Nat.not_lt_zero _)⟩, hb3⟩
  case round =>
    clear hr0 hb3
    obtain ⟨k, f, hk, rfl, hF, hb⟩ := hrel
    rename World => w5
    by_cases hlt : k < N
    · have hkI : (k : Int) < (N : Int) := by omega
      have hrow := hF.row
      have hgl := hrow.lt
      have hrow2 := hrow.alloc (.cells #[.int .i64 (k : Int), .int .i64 ((k : Int) - 1)] 3)
      have hcell := hrow2.cell hlt
      have hfz := hrow2.frozen k
      have hF2 := (hF.more ((Below.refl _ _).alloc (Nat.le_refl _) (.cells #[.int .i64 (k : Int), .int .i64 ((k : Int) - 1)] 3))).next (v := .slice (some ⟨w5.heap.size, 0, none⟩) 2 2) (ints2 rfl) (fun b hb e => by
        have : w5.heap.size = b := by simpa [Value.ownBlock] using hb
        omega)
      have hb5 := (hb.alloc hb.size (.cells #[.int .i64 (k : Int), .int .i64 ((k : Int) - 1)] 3)).setCell (p := ⟨g, k, none⟩) hs2 (.slice (some ⟨w5.heap.size, 0, none⟩) 2 2)
      rw [World.setCell_alloc_past _ _ _ _ hgl] at hF2 hb5
      have HQ := Lib.hid (And.intro hF2 hb5)
      clear hF hb hrow hrow2 hF2 hb5
      go_wp2_with fail
      go_roundw
      case rel => exact ⟨k + 1, _, by omega, by go_num, HQ.out.1, HQ.out.2⟩
      case measure => simp [intOf]; omega
    · obtain rfl : k = N := by omega
      have hR : RowsV w5 (.slice (some ⟨g, 0, none⟩) k k) (manyL k) := hF.rows (by omega)
      have HR := Lib.hid hR
      have HB := Lib.hid hb
      clear hF hR hb
      go_wp2_with fail
      have hba : Below w5.heap.size w5 ((w5.alloc (.cells #[.int .i64 7] 3)).alloc (.cells #[.slice (some ⟨w5.heap.size, 0, none⟩) 1 1] 22)) := ((Below.refl _ _).alloc (by simp) _).alloc (by simp) _
      refine (closeG_any (manyL k) [[7]] _ _ _ (HR.out.below hba) (rows1 (by simp) (ints1 rfl)) (by rw [many_len]; omega) (tab_past HT.out (HB.out.trans (hba.mono HB.out.size)))).mono ?_
      rintro e w6 ⟨⟨cv, C, rfl, hcv, hC, hCn⟩, hb6⟩
      have hb56 : Below w5.heap.size w5 w6 := hba.trans (hb6.mono hba.size)
      have HCV := Lib.hid hcv
      have HCC := Lib.hid (And.intro hC hCn)
      have HB6 := Lib.hid hb56
      clear hba hcv hC hCn hb6 hb56
      go_wp2_with fail
      refine (comps_all (manyL k) _ _ (HR.out.below HB6.out) (by rw [many_len]; omega)).mono ?_
      rintro e w7 ⟨⟨dv, D, rfl, hdv, hD, hDn⟩, hb7⟩
      rw [many_len] at hD hDn
      obtain ⟨ca, cn, cc, rfl, hcn, hcc, hcm, hcx⟩ := (HCV.out.below hb7).open
      obtain ⟨da, dn, dc, rfl, hdn, _, _, _⟩ := hdv.open
      have hbe : Below w.heap.size w w7 := HB.out.trans ((HB6.out.trans (hb7.mono HB6.out.size)).mono HB.out.size)
      have HBE := Lib.hid hbe
      clear hdv hb7 hbe
      by_cases hbig : 4000 < k
      · have hcz : cn = 0 := by have := HCC.out.2 (by rw [many_len]; omega); have e := hcn.out; rw [this] at e; exact e
        have hdz : dn = 0 := by have := hDn hbig; have e := hdn.out; rw [this] at e; exact e
        subst hcz hdz
        have hbI : (4000 : Int) < (k : Int) := by omega
        clear hD hDn hcx hcn hdn hcc hcm
        go_wp2_with fail
        go_ret
        exact ⟨rfl, HBE.out⟩
      · have hCi := HCC.out.1 (by rw [many_len]; omega)
        have hDi := isComps_one (hD (by omega)) (many_comps k)
        obtain rfl : cn = k := by have e := hcn.out; rw [hCi.len, many_len] at e; exact e
        obtain rfl : dn = cn := by have e := hdn.out; rw [hDi, ones_len] at e; exact e
        obtain ⟨M, rfl⟩ : ∃ M, dn = M + 1 := ⟨dn - 1, by omega⟩
        obtain ⟨xb, xo, xu, rfl, hx1, hx2⟩ := hcx.out M (by omega)
        rw [many_row hCi (by omega)] at hx2
        have hbI : ¬ (4000 : Int) < ((M + 1 : Nat) : Int) := by omega
        have hMI : ((M + 1 : Nat) : Int) - 1 = (M : Int) := by omega
        have hMl : (M : Int) < ((M + 1 : Nat) : Int) := by omega
        have HX2 := Lib.hid hx2
        clear hD hDn hcn hdn hDi hCi hx2 hcx
        go_wp2_with fail
        refine (eqInts_any _ _ [7] [7] _ (HX2.out.past _) (ints1 rfl)).mono ?_
        rintro e w8 ⟨rfl, hb8⟩
        rw [show (([7] : List Int) == [7]) = true by decide]
        have hbz : Below w.heap.size w w8 := HBE.out.trans ((((Below.refl w7.heap.size w7).alloc (Nat.le_refl _) (.cells #[.int .i64 7] 3)).trans (hb8.mono (by simp))).mono HBE.out.size)
        clear hb8
        go_wp2_with fail
        go_ret
        exact ⟨rfl, hbz⟩

end Go.Proofs.YtijnekbhpdcemaaDoor
