/- The walk of the law GraphTwice. -/
import Derived.Test.YtijnekbhpdcemaaDoorGrLaws1
import Derived.Deep.RegionHeld3
import Derived.Deep.QuietTactic
import Derived.BigQuiet
namespace Go.Proofs.YtijnekbhpdcemaaDoor
open Go.RowKit
set_option linter.unusedVariables false
set_option linter.unusedSimpArgs false

def flatN (G : List (List Int)) (c : Nat) : Nat := (List.flatten (G.take c)).length
theorem flatN_step {C : List (List Int)} {c : Nat} (hc : c < C.length) : flatN C (c + 1) = flatN C c + (C.getD c []).length := flat_step hc
theorem flatN_all (C : List (List Int)) : flatN C C.length = C.flatten.length := by unfold flatN; rw [List.take_length]
theorem flatN_le (C : List (List Int)) (c : Nat) : flatN C c ≤ C.flatten.length := by
  have := congrArg (fun l => l.flatten.length) (List.take_append_drop c C)
  simp only [List.flatten_append, List.length_append] at this
  unfold flatN
  omega

set_option maxRecDepth 100000 in
set_option maxHeartbeats 8000000 in
theorem graphTwice_walk (v0 : Value) (l0 : List (List Int)) (v1 : Value) (l1 : List (List Int)) (w : World) (h0 : RowsV w v0 l0) (h1 : RowsV w v1 l1) (hT : TabAt 0 Lib.deBruijn64tab w) :
    Calls Tryd.prog 11 #[v0, v1] w fun e w' => e = .returned (.bool true) ∧ Below w.heap.size w w' := by
  have HT := Lib.hid hT
  have H0 := Lib.hid h0
  have H1 := Lib.hid h1
  clear hT h0 h1
  go_enter Tryd.func11, Tryd.ntmps11
  go_wp2_with fail
  refine (grWakes_any _ HT.out).mono ?_
  rintro e w2 ⟨rfl, hb2⟩
  go_wp2_with fail
  refine (lists_20_6 v0 l0 _ (H0.out.below hb2)).mono ?_
  rintro e w3 ⟨⟨rv, rfl, hr⟩, hb3⟩
  have hb3' := hb2.trans (hb3.mono hb2.size)
  clear hb3 hb2
  have HR := Lib.hid hr
  clear hr
  go_wp2_with fail
  refine (lists_20_6 v1 l1 _ (H1.out.below hb3')).mono ?_
  rintro e w4 ⟨⟨sv, rfl, hs⟩, hb4⟩
  have HR4 := Lib.hid (HR.out.below hb4)
  have hb4' := hb3'.trans (hb4.mono hb3'.size)
  have HS := Lib.hid hs
  clear hb4 hb3' hs HR
  have hlen := cutLs_len l0 20 6
  generalize cutLs l0 20 6 = L at HR4 hlen
  generalize cutLs l1 20 6 = S at HS
  obtain ⟨ra, rn, rc, rfl, hrn, _, _, _⟩ := HR4.out.open
  obtain rfl : rn = L.length := hrn.out
  clear hrn
  go_wp2_with fail
  refine (closeG_any L S _ _ _ HR4.out HS.out (by omega) (tab_past HT.out hb4')).mono ?_
  rintro e w5 ⟨⟨cv, C, rfl, hcv, hC, _⟩, hb5⟩
  have hCi := hC (by omega)
  have HR5 := Lib.hid (HR4.out.below hb5)
  have hb5' := hb4'.trans (hb5.mono hb4'.size)
  have HCV := Lib.hid hcv
  obtain ⟨ca, cn, cc, rfl, hcn, _, _, _⟩ := hcv.open
  obtain rfl : cn = L.length := by have e := hcn.out; rw [hCi.len] at e; exact e
  have HCI := Lib.hid hCi
  have hne : ((L.length : Int) != (L.length : Int)) = false := by simp
  clear hC hb5 hb4' hcv HR4 HS hcn hCi
  go_wp2_with fail
  refine (closeG_any L C _ _ _ HR5.out HCV.out (by omega) (tab_past HT.out hb5')).mono ?_
  rintro e w6 ⟨⟨dv, D, rfl, hdv, hD, _⟩, hb6⟩
  obtain rfl := isClose_one (hD (by omega)) (isClose_twice HCI.out)
  have HR6 := Lib.hid (HR5.out.below hb6)
  have HCV6 := Lib.hid (HCV.out.below hb6)
  have hb6' := hb5'.trans (hb6.mono hb5'.size)
  have HDV := Lib.hid hdv
  clear hD hb6 hb5' hdv HR5 HCV
  go_wp2_with fail
  refine (eqLists_any _ _ D D _ HDV.out HCV6.out).mono ?_
  rintro e w7 ⟨rfl, hb7⟩
  rw [show (D == D) = true from beq_self_eq_true D]
  have HR7 := Lib.hid (HR6.out.below hb7)
  have HCV7 := Lib.hid (HCV6.out.below hb7)
  have hb7' := hb6'.trans (hb7.mono hb6'.size)
  clear hb7 hb6' HDV HR6 HCV6
  go_wp2_with fail
  refine (comps_all L _ _ HR7.out (by omega)).mono ?_
  rintro e w8 ⟨⟨gv, G, rfl, hgv, hG, _⟩, hb8⟩
  have HG := Lib.hid (hG (by omega))
  have hgl := isComps_flat HG.out
  obtain ⟨ga, gn, gc, rfl, hgn, hgc, hgm, hgx⟩ := hgv.open
  obtain rfl : gn = G.length := hgn.out
  obtain ⟨_, _, _, e0, _, hcc, hcm, hcx⟩ := (HCV7.out.below hb8).open
  cases e0
  have hb8' := Lib.hid (hb7'.trans (hb8.mono hb7'.size))
  have HGL := Lib.hid hgl
  clear hG hgv hgn hb8 hb7' HR7 HCV7 hgl
  go_wp2_with fail
  go_loopw [7, 8] (fun x y W => ∃ c : Nat, c ≤ G.length ∧ x = .int .i64 (flatN G c : Int) ∧ y = .int .i64 c ∧ Below w8.heap.size w8 W) (fun _ y _ => G.length - (intOf y).toNat)
  case atStart => exact ⟨0, Nat.zero_le _, rfl, rfl, Below.refl _ _⟩
  case round =>
    obtain ⟨c, hc, rfl, rfl, hb⟩ := hrel
    rename World => w9
    by_cases hlt : c < G.length
    · have hcI : (c : Int) < (G.length : Int) := by omega
      obtain ⟨gb, go, gu, rfl, hg1, hg2⟩ := hgx.out c hlt
      obtain ⟨ma, mn, mc, rfl, hmn, hmc, hmm, hmx⟩ := hg2.open
      have hst := flatN_step hlt
      have htot : flatN G c + mn ≤ 20 := by have h1 := flatN_le G (c + 1); have := HGL.out; have := hmn.out; omega
      obtain ⟨h1, h2, h3⟩ := HG.out.each c hlt
      have HM := Lib.hid (And.intro h1 (And.intro h2 h3))
      have hpos : 0 < mn := by
        rw [hmn.out]
        cases e : G.getD c [] with
        | nil => exact absurd e h2
        | cons _ _ => simp
      clear h1 h2 h3 hg2
      go_wp2_with fail
      go_loopw [7, 9] (fun x y W => ∃ k : Nat, k ≤ mn ∧ x = .int .i64 ((flatN G c + k : Nat) : Int) ∧ y = .int .i64 k ∧ Below w8.heap.size w8 W) (fun _ y _ => mn - (intOf y).toNat)
      case atStart => exact ⟨0, Nat.zero_le _, rfl, rfl, hb⟩
      case round =>
        clear hb
        obtain ⟨k, hk, rfl, rfl, hb⟩ := hrel
        rename World => w10
        have k1 := (hb.cell (World.block_lt_of_cell? _ _ hg1)).trans hg1
        by_cases hkl : k < mn
        · have hkI : (k : Int) < (mn : Int) := by omega
          have hp0 : (0 : Int) < (mn : Int) := by omega
          obtain ⟨mb, mo, rfl, hm0⟩ := hmx.out 0 hpos
          obtain ⟨_, _, e1, hmk⟩ := hmx.out k hkl
          cases e1
          obtain ⟨hA, hA2⟩ := HM.out.2.2 _ (get_mem (l := G.getD c []) (i := 0) (by rw [← hmn.out]; exact hpos))
          have hB := (hA2 _).1 (get_mem (l := G.getD c []) (i := k) (by rw [← hmn.out]; exact hkl))
          generalize (G.getD c []).getD 0 0 = a at hm0 hA hB
          generalize (G.getD c []).getD k 0 = b at hmk hB
          obtain ⟨hB1, hB2, hB3⟩ := hB
          obtain ⟨na, rfl⟩ : ∃ na : Nat, a = na := ⟨a.toNat, by have := hA.1; omega⟩
          obtain ⟨nb, rfl⟩ : ∃ nb : Nat, b = nb := ⟨b.toNat, by have := hB1.1; omega⟩
          have hna : na < L.length := by have := hA.2; omega
          have hnb : nb < L.length := by have := hB1.2; omega
          have hsame := isClose_same HCI.out hna hnb hB2 hB3
          obtain ⟨xb, xo, xu, rfl, hx1, hx2⟩ := hcx.out na hna
          obtain ⟨_, _, yu, e2, hy1, hy2⟩ := hcx.out nb hnb
          cases e2
          rw [← hsame] at hy2
          have hEQ := Lib.hid (fun (W : World) (hW : Below w8.heap.size w8 W) => eqInts_any xu yu (D.getD na []) (D.getD na []) W (hx2.below hW) (hy2.below hW))
          have k2 := (hb.cell (World.block_lt_of_cell? _ _ hm0)).trans hm0
          rw [Nat.add_zero] at k2
          have k3 := (hb.cell (World.block_lt_of_cell? _ _ hmk)).trans hmk
          have hHB := Lib.hid hb
          have HX := Lib.hid (And.intro hx1 hy1)
          have hnaI : (na : Int) < (L.length : Int) := by omega
          have hnbI : (nb : Int) < (L.length : Int) := by omega
          have d1 : decide ((na : Int) < 0) = false := by simp
          have d2 : decide ((nb : Int) < 0) = false := by simp
          have d3 : decide ((na : Int) ≥ (L.length : Int)) = false := by simp; omega
          have d4 : decide ((nb : Int) ≥ (L.length : Int)) = false := by simp; omega
          have d5 : decide (L.length ≤ na) = false := by simp; omega
          have d6 : decide (L.length ≤ nb) = false := by simp; omega
          clear hA hA2 hB1 hB2 hB3 hsame hx1 hx2 hy1 hy2 hb
          go_wp2_with fail
          go_quiet (fail)
          have hb11 : Below w8.heap.size w8 (w10.drewN nq) := ⟨hHB.out.os, hHB.out.tape, hHB.out.output, hHB.out.size, hHB.out.block⟩
          generalize w10.drewN nq = w11 at hb11 ⊢
          have x1 := (hb11.cell (World.block_lt_of_cell? _ _ HX.out.1)).trans HX.out.1
          have x2 := (hb11.cell (World.block_lt_of_cell? _ _ HX.out.2)).trans HX.out.2
          have HB11 := Lib.hid hb11
          clear hb11 k1 k2 k3
          go_wp2_with fail
          go_region_held3 (fun W => W.cell? ⟨xb, xo + na, none⟩ = some xu ∧ W.cell? ⟨xb, xo + nb, none⟩ = some yu)
            (first | exact ⟨x1, x2⟩ | exact ⟨y1, y2⟩)
            (first | (go_at_call 18; refine (hEQ.out _ HB11.out.drew).mono ?_; rintro e w12 ⟨rfl, hb12⟩; rw [show (D.getD na [] == D.getD na []) = true from beq_self_eq_true _]; have y1 := (hb12.cell (World.block_lt_of_cell? _ _ (show w11.drew.cell? _ = _ from x1))).trans x1; have y2 := (hb12.cell (World.block_lt_of_cell? _ _ (show w11.drew.cell? _ = _ from x2))).trans x2; have hb13 := HB11.out.drew.trans (hb12.mono HB11.out.drew.size)))
          have HB13 := Lib.hid hb13
          clear hb13 hb12 y1 y2 x1 x2 hEQ
          go_wp2_with fail
          go_roundw
          case rel => exact ⟨k + 1, by omega, by go_num, by go_num, HB13.out⟩
          case measure => simp [intOf]; omega
        · obtain rfl : k = mn := by omega
          have hfl : flatN G c + k = flatN G (c + 1) := by rw [hst, hmn.out]
          go_wp2_with fail
          go_roundw
          case rel => exact ⟨c + 1, by omega, by rw [hfl], by go_num, hb⟩
          case measure => simp [intOf]; omega
    · obtain rfl : c = G.length := by omega
      have hfl : flatN G G.length = L.length := by rw [flatN_all]; exact HGL.out
      have hq : ((L.length : Int) == (L.length : Int)) = true := by simp
      rw [hfl]
      have hbe : Below w.heap.size w w9 := hb8'.out.trans (hb.mono hb8'.out.size)
      clear hb
      go_wp2_with fail
      go_ret
      exact ⟨rfl, hbe⟩

end Go.Proofs.YtijnekbhpdcemaaDoor
