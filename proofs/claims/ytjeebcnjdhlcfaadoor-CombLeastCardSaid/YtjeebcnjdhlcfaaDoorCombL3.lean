/- The law CombFits: each pair stands at its row's base and its place, all else is free. -/
import Derived.Test.YtjeebcnjdhlcfaaDoorCombL2
namespace Go.Proofs.YtjeebcnjdhlcfaaDoor
open Go.RowKit
set_option linter.unusedVariables false
set_option linter.unusedSimpArgs false

/-- pairs of the first rows -/
def allTo (rows : List (List Pr)) (i : Nat) : Nat := allS (rows.take i)
theorem allTo_next (rows : List (List Pr)) (i : Nat) (h : i < rows.length) : allTo rows (i + 1) = allTo rows i + (rowAt rows i).length := by
  unfold allTo allS
  rw [List.take_succ_eq_append_getElem h, List.map_append, List.sum_append]
  unfold rowAt
  rw [List.getD_eq_getElem?_getD, List.getElem?_eq_getElem h]; simp
theorem allTo_all (rows : List (List Pr)) (i : Nat) (h : rows.length ≤ i) : allTo rows i = allS rows := by
  unfold allTo; rw [List.take_of_length_le h]
/-- how many of the first are taken -/
def cntTo (l : List Int) (i : Nat) : Nat := cntS (l.take i)
theorem cntTo_next (l : List Int) (i : Nat) (h : i < l.length) : cntTo l (i + 1) = cntTo l i + if l.getD i 0 = 0 then 0 else 1 := by
  unfold cntTo cntS
  rw [List.take_succ_eq_append_getElem h, List.countP_append, List.getD_eq_getElem?_getD, List.getElem?_eq_getElem h]
  by_cases hz : l[i] = 0 <;> simp [List.countP_cons, hz]
theorem cntTo_all (l : List Int) (i : Nat) (h : l.length ≤ i) : cntTo l i = cntS l := by
  unfold cntTo; rw [List.take_of_length_le h]
theorem cntTo_le (l : List Int) (i : Nat) : cntTo l i ≤ i := by
  unfold cntTo cntS
  exact Nat.le_trans List.countP_le_length (List.length_take_le _ _)

theorem row_len12 {rows : List (List Pr)} (h : mayS rows = true) (i : Nat) (hi : i < rows.length) : (rowAt rows i).length ≤ 1000 := by
  have h1 := (nodup_nat (mayS_row h i hi)).1
  have h2 := (nodup_nat (mayS_row h i hi)).2
  have : ((rowAt rows i).map (·.1.toNat)).length ≤ (List.range 1000).length := by
    refine (List.Nodup.length_le_of_subset h1 ?_)
    intro x hx
    obtain ⟨p, hp, rfl⟩ := List.mem_map.1 hx
    have := h2 p hp
    rw [List.mem_range]; omega
  rw [List.length_map, List.length_range] at this; omega
theorem allTo_le {rows : List (List Pr)} (h : mayS rows = true) : ∀ i, i ≤ rows.length → allTo rows i ≤ 1000 * i := by
  intro i
  induction i with
  | zero => intro _; simp [allTo, allS]
  | succ i ih =>
    intro hi
    rw [allTo_next rows i (by omega)]
    have := row_len12 h i (by omega)
    have := ih (by omega)
    omega

set_option maxRecDepth 100000 in
set_option maxHeartbeats 16000000 in
theorem combFits_walk (v : Value) (L : List (List Int)) (wide : Int) {w : World} (w0 : IRowsIn w v L) (w1 : (Lit.int .i64 wide).wf = true) (hT : TabAt 0 Lib.deBruijn64tab w) :
    Calls Tryd.prog 5 #[v, .int .i64 wide] w fun e w' => e = .returned (.bool true) ∧ Below w.heap.size w w' := by
  have hE := combEnv_of hT
  clear hT
  obtain ⟨hv, hvw⟩ := w0
  have HW := Lib.hid (wakes_any w hE)
  have HLD := Lib.hid (fun (W : World) (hW : Below w.heap.size w W) => laid_any v L wide W (IRowsV.below hv hW) hvw w1)
  have hmay := laidS_may L (1 + wide % 60) (by have := Int.emod_nonneg wide (show (60 : Int) ≠ 0 by omega); omega) (by have := Int.emod_lt_of_pos wide (show (0 : Int) < 60 by omega); omega)
  have hlen := laidS_len L (1 + wide % 60)
  have HE := Lib.hid hE
  generalize laidS L (1 + wide % 60) = rows at HLD hmay hlen
  have HM := Lib.hid hmay
  have hrl : rows.length ≤ 14 := by omega
  clear hv hvw hE hmay hlen w1
  go_enter Tryd.func5, Tryd.ntmps5
  go_wp2_with fail
  refine HW.out.mono ?_
  rintro e w2' ⟨rfl, hb2⟩
  have HB2 := Lib.hid hb2
  clear hb2
  go_wp2_with fail
  refine (HLD.out _ HB2.out).mono ?_
  rintro e w3 ⟨⟨rv, rfl, hrv⟩, hb3⟩
  have hb03 := HB2.out.trans (hb3.mono HB2.out.size)
  have HL1 := Lib.hid (layC_any hrv (by have := fullS_le rows; omega) (HE.out.below hb03))
  have HB3 := Lib.hid (And.intro hb03 hrv)
  clear hb03 hb3 hrv
  go_wp2_with fail
  refine HL1.out.mono ?_
  rintro e w5 ⟨ba, bn, bc, va, vn, vc, ka, kn, kc, rfl, hC, hb5⟩
  have hal := (Below.refl w5.heap.size w5).alloc (Nat.le_refl _) (.cells #[.slice ba bn bc, .slice va vn vc, .slice ka kn kc] 30)
  have hheld : Held (w5.alloc (.cells #[.slice ba bn bc, .slice va vn vc, .slice ka kn kc] 30)) ⟨w5.heap.size, 0, none⟩ (.slice ba bn bc) (.slice va vn vc) (.slice ka kn kc) rv rows :=
    ⟨fun W i u hW hu => by
      rw [hW.cell (p := ⟨w5.heap.size, i, none⟩) (by simp), World.cell?_alloc_at _ _ _ _ rfl]; exact hu, hC.below hal, PRowsV.below (PRowsV.below HB3.out.2 hb5) hal, HM.out, hrl⟩
  have hw6 := (HB3.out.1.trans (hb5.mono HB3.out.1.size)).trans (hal.mono (by have := (HB3.out.1.trans (hb5.mono HB3.out.1.size)).size; omega))
  obtain ⟨ra, rn, rc, rfl, hrn, hrc, hrm, hrx⟩ := PRowsV.open hheld.rws
  have hp0 : (w5.alloc (.cells #[.slice ba bn bc, .slice va vn vc, .slice ka kn kc] 30)).cell? ⟨w5.heap.size, 0, none⟩ = some (.slice ba bn bc) := hheld.box _ 0 _ (Below.refl _ _) rfl
  have hp1 : (w5.alloc (.cells #[.slice ba bn bc, .slice va vn vc, .slice ka kn kc] 30)).cell? ⟨w5.heap.size, 1, none⟩ = some (.slice va vn vc) := hheld.box _ 1 _ (Below.refl _ _) rfl
  have hp2 : (w5.alloc (.cells #[.slice ba bn bc, .slice va vn vc, .slice ka kn kc] 30)).cell? ⟨w5.heap.size, 2, none⟩ = some (.slice ka kn kc) := hheld.box _ 2 _ (Below.refl _ _) rfl
  obtain ⟨bq, vq, kq, eq, hI1, hI2, hI3⟩ := hheld.comb
  obtain ⟨rfl, rfl, rfl⟩ : bq = .slice ba bn bc ∧ vq = .slice va vn vc ∧ kq = .slice ka kn kc := by
    injection eq with e2
    have a0 := congrArg (fun a => a[0]?) e2
    have a1 := congrArg (fun a => a[1]?) e2
    have a2 := congrArg (fun a => a[2]?) e2
    simp at a0 a1 a2
    exact ⟨a0.symm, a1.symm, a2.symm⟩
  obtain ⟨_, _, _, x1, hbn, z1, z2, hbx⟩ := hI1.open
  cases x1
  obtain ⟨_, _, _, x1, hvn, z3, z4, hvx⟩ := hI2.open
  cases x1
  obtain ⟨_, _, _, x1, hkn, z5, z6, hkx⟩ := hI3.open
  cases x1
  have hlaid := laid_all HM.out
  have e1 : ((bn : Int) != (rn : Int)) = false := by rw [hbn.out, hrn.out, hlaid.blen]; simp
  have e2 : ((vn : Int) != (kn : Int)) = false := by rw [hvn.out, hkn.out, hlaid.len]; simp
  have hcnt := count_laid HM.out
  have HLD2 := Lib.hid (And.intro hlaid hcnt)
  have hrn14 : rn ≤ 14 := by have := hrn.out; omega
  have hkn9 : kn ≤ 14000 := by
    have h1 := hlaid.small
    have h2 := orderS_len rows
    have h3 := fullS_le rows
    have := Nat.mul_le_mul_left 1000 (show (orderS rows).length ≤ 14 by omega)
    have := hkn.out
    omega
  have hbn14 : bn = rows.length := by rw [hbn.out, hlaid.blen]
  have hvk : vn = kn := by rw [hvn.out, hkn.out, hlaid.len]
  have HQ := Lib.hid (And.intro hbn14 hvk)
  have HW6 := Lib.hid hw6
  clear hC hb5 hal hheld hw6 HL1 hrc hrm HLD HW HB3 HB2 hI1 hI2 hI3 eq hlaid hcnt hbn14 hvk z1 z2 z3 z4 z5 z6
  go_wp2_with fail
  generalize w5.alloc (.cells #[.slice ba bn bc, .slice va vn vc, .slice ka kn kc] 30) = w6 at hrx hbx hvx hkx hp0 hp1 hp2 HW6 ⊢
  generalize w5.heap.size = bx at hp0 hp1 hp2 ⊢
  clear e1 e2
  go_loopw [7, 9] (fun x y W => ∃ (i d : Nat), i ≤ rn ∧ x = .int .i64 (allTo rows i : Int) ∧ y = .int .i64 (i : Int) ∧ W = w6.drewN d) (fun _ y _ => rn - (intOf y).toNat)
  case atStart => exact ⟨0, 0, Nat.zero_le _, rfl, rfl, rfl⟩
  case round =>
    obtain ⟨i, d, hi, rfl, rfl, rfl⟩ := hrel
    by_cases hlt : i < rn
    · have hiI : (i : Int) < (rn : Int) := by omega
      have hir : i < rows.length := by have := hrn.out; omega
      have hib : i < bn := by have := HQ.out.1; omega
      have hibI : (i : Int) < (bn : Int) := by omega
      obtain ⟨b1, o1, u1, rfl, c1, r1⟩ := hrx.out i hlt
      obtain ⟨b2, o2, rfl, c2⟩ := hbx.out i hib
      obtain ⟨a3, m, c3, rfl, hm, hmc, hmm, hpx⟩ := r1.open
      have hm1 : m ≤ 1000 := by have := row_len12 HM.out i hir; have := hm.out; omega
      have hB0 := HLD2.out.1.nonneg i
      have hBz : m = 0 → (layS rows).1.getD i 0 = 0 := fun h0 => HLD2.out.1.base0 i (fun hid => ((orderS_is rows).2 i |>.1 hid).2 (List.eq_nil_of_length_eq_zero (by rw [← hm.out]; exact h0)))
      have hall : allTo rows i ≤ 14000 := by have := allTo_le HM.out i (by omega); omega
      have HALL : Hid (allTo rows (i + 1) = allTo rows i + m) := Lib.hid (by rw [allTo_next rows i hir, ← hm.out])
      have hpair : ∀ j, j < m → ∃ q : Nat, ∃ pv : Int, (rowAt rows i).getD j (0, 0) = ((q : Int), pv) ∧ ((layS rows).1.getD i 0).toNat + q < kn ∧ (layS rows).2.1.getD (((layS rows).1.getD i 0).toNat + q) 0 = (i : Int) + 1 ∧ (layS rows).2.2.getD (((layS rows).1.getD i 0).toNat + q) 0 = pv := fun j hj => by
        have hjr : j < (rowAt rows i).length := by have := hm.out; omega
        have hmem : (rowAt rows i).getD j (0, 0) ∈ rowAt rows i := by rw [List.getD_eq_getElem?_getD, List.getElem?_eq_getElem hjr]; simp
        have hrg := (nodup_nat (mayS_row HM.out i hir)).2 _ hmem
        have hid : i ∈ orderS rows := ((orderS_is rows).2 i).2 ⟨hir, fun e => by rw [e] at hjr; simp at hjr⟩
        obtain ⟨h1, h2, h3⟩ := HLD2.out.1.pair i hid _ hmem
        generalize (rowAt rows i).getD j (0, 0) = p at hrg h1 h2 h3
        obtain ⟨pa, pv⟩ := p
        obtain ⟨q, rfl⟩ := Int.eq_ofNat_of_zero_le hrg.1
        exact ⟨q, pv, rfl, by rw [hkn.out]; exact h1, h2, h3⟩
      have HPAIR := Lib.hid hpair
      have hBk : (layS rows).1.getD i 0 ≤ 20000 := by
        by_cases h0 : m = 0
        · rw [hBz h0]; omega
        · obtain ⟨q, pv, _, h1, _⟩ := hpair 0 (by omega); omega
      obtain ⟨b, hb⟩ := Int.eq_ofNat_of_zero_le hB0
      rw [hb] at c2 hBz hBk
      have HBB := Lib.hid hb
      have hb2 : b ≤ 20000 := by omega
      have hBz' := Lib.hid hBz
      clear hb hpair hB0 hBz hBk r1 hmm hmc
      by_cases h0 : m = 0
      · have hb0 : b = 0 := by have := hBz'.out h0; omega
        subst hb0 h0
        go_wp2_with fail
        go_loopw [7, 10] (fun x y W => x = .int .i64 (allTo rows i : Int) ∧ y = .int .i64 0 ∧ ∃ d, W = w6.drewN d) (fun _ _ _ => 0)
        case atStart => exact ⟨rfl, rfl, _, rfl⟩
        case round =>
          obtain ⟨rfl, rfl, d', rfl⟩ := hrel
          go_wp2_with fail
          go_roundw
          case rel => exact ⟨i + 1, _, by omega, by rw [HALL.out]; simp, by go_num, rfl⟩
          case measure => simp [intOf]; omega
      · have h0b : ((m : Int) == 0) = false := by simp; omega
        have hbn0 : ¬ (b : Int) < 0 := by omega
        go_wp2_with fail
        go_loopw [7, 10] (fun x y W => ∃ (j d : Nat), j ≤ m ∧ x = .int .i64 ((allTo rows i : Int) + (j : Int)) ∧ y = .int .i64 (j : Int) ∧ W = w6.drewN d) (fun _ y _ => m - (intOf y).toNat)
        case atStart => exact ⟨0, d, Nat.zero_le _, by simp, rfl, rfl⟩
        case round =>
          obtain ⟨j, d', hj, rfl, rfl, rfl⟩ := hrel
          by_cases hjm : j < m
          · have hjI : (j : Int) < (m : Int) := by omega
            obtain ⟨b4, o4, rfl, d1, d2⟩ := hpx.out j hjm
            obtain ⟨q, pv, hpe, hq1, hq2, hq3⟩ := HPAIR.out j hjm
            rw [hpe] at d1 d2
            rw [HBB.out, Int.toNat_natCast] at hq1 hq2 hq3
            simp only at d1 d2
            obtain ⟨b5, o5, rfl, k1⟩ := hkx.out (b + q) hq1
            obtain ⟨b6, o6, rfl, v1⟩ := hvx.out (b + q) (by have := HQ.out.2; omega)
            rw [hq2] at k1
            rw [hq3] at v1
            have hs0 : (0 : Int) ≤ (b : Int) + (q : Int) := by omega
            have hs1 : (b : Int) + (q : Int) < (kn : Int) := by omega
            have hs1v : (b : Int) + (q : Int) < (vn : Int) := by have := HQ.out.2; omega
            have hs2 : ((b : Int) + (q : Int)).toNat = b + q := by omega
            have hs3 : ¬ (kn : Int) ≤ (b : Int) + (q : Int) := by omega
            have hs4 : IntKind.i64.wrap ((b : Int) + (q : Int)) = (b : Int) + (q : Int) := IntWalk.i64_in _ ⟨by omega, by omega⟩
            have hj0 : (0 : Int) ≤ (j : Int) := by omega
            have hi00 : (0 : Int) ≤ (i : Int) := by omega
            have hdc : decide ((kn : Int) ≤ (b : Int) + (q : Int)) = false := decide_eq_false hs3
            have hwi : IntKind.i64.wrap ((i : Int) + 1) = (i : Int) + 1 := IntWalk.i64_in _ ⟨by omega, by omega⟩
            have hne1 : ((i : Int) + 1 != (i : Int) + 1) = false := by simp
            have hne2 : (pv != pv) = false := by simp
            clear hpe hq1 hq2 hq3
            go_wp2_with fail
            go_quiet (fail)
            go_wp2_with fail
            go_quiet (fail)
            go_wp2_with fail
            go_roundw
            case rel => exact ⟨j + 1, _, by omega, by first | (congr 1; done) | (congr 1; omega), by go_num, rfl⟩
            case measure => simp [intOf]; omega
          · have hjm' : j = m := by omega
            go_wp2_with fail
            go_roundw
            case rel => exact ⟨i + 1, _, by omega, by rw [HALL.out]; first | (congr 1; done) | (congr 1; omega), by go_num, rfl⟩
            case measure => simp [intOf]; omega
    · have hall : allTo rows i = allS rows := allTo_all rows i (by have := hrn.out; omega)
      rw [hall]
      have hallb : allS rows ≤ 14000 := by
        have := allTo_le HM.out rows.length (Nat.le_refl _)
        rw [allTo_all rows rows.length (Nat.le_refl _)] at this; omega
      clear hall
      go_wp2_with fail
      go_loopw [8, 12] (fun x y W => ∃ (j d : Nat), j ≤ kn ∧ x = .int .i64 (cntTo (layS rows).2.1 j : Int) ∧ y = .int .i64 (j : Int) ∧ W = w6.drewN d) (fun _ y _ => kn - (intOf y).toNat)
      case atStart => exact ⟨0, d, Nat.zero_le _, rfl, rfl, rfl⟩
      case round =>
        obtain ⟨j, d', hj, rfl, rfl, rfl⟩ := hrel
        by_cases hjk : j < kn
        · have hjI : (j : Int) < (kn : Int) := by omega
          have hjvI : (j : Int) < (vn : Int) := by have := HQ.out.2; omega
          obtain ⟨b5, o5, rfl, k1⟩ := hkx.out j hjk
          obtain ⟨b6, o6, rfl, v1⟩ := hvx.out j (by have := HQ.out.2; omega)
          have hjl : j < (layS rows).2.1.length := by have := hkn.out; omega
          have hcn := Lib.hid (cntTo_next (layS rows).2.1 j hjl)
          have hcle := cntTo_le (layS rows).2.1 j
          have hlast := HLD2.out.1.last
          rw [← hkn.out] at hlast
          by_cases hz : (layS rows).2.1.getD j 0 = 0
          · have hv0 := HLD2.out.1.free j hz
            rw [hz] at k1
            rw [hv0] at v1
            have hne : ((j : Int) + 1 == (kn : Int)) = false := by
              rw [beq_eq_false_iff_ne]
              intro e
              rcases hlast with e2 | e2
              · omega
              · exact e2 (by rw [show kn - 1 = j by omega]; exact hz)
            have HC : Hid (cntTo (layS rows).2.1 (j + 1) = cntTo (layS rows).2.1 j) := Lib.hid (by rw [hcn.out, if_pos hz]; omega)
            clear hz hv0 hlast
            go_wp2_with fail
            go_roundw
            case rel => exact ⟨j + 1, _, by omega, by rw [HC.out], by go_num, rfl⟩
            case measure => simp [intOf]; omega
          · have hz1 : ((layS rows).2.1.getD j 0 != 0) = true := by rw [bne_iff_ne]; exact hz
            have HC : Hid (cntTo (layS rows).2.1 (j + 1) = cntTo (layS rows).2.1 j + 1) := Lib.hid (by rw [hcn.out, if_neg hz])
            generalize (layS rows).2.1.getD j 0 = K at k1 hz1
            clear hz hlast v1
            go_wp2_with fail
            go_roundw
            case rel => exact ⟨j + 1, _, by omega, by rw [HC.out]; go_num, by go_num, rfl⟩
            case measure => simp [intOf]; omega
        · have hfin : cntTo (layS rows).2.1 j = allS rows := by rw [cntTo_all _ _ (by have := hkn.out; omega)]; exact HLD2.out.2
          rw [hfin]
          clear hfin
          go_wp2_with fail
          go_ret
          exact ⟨ret_bool (by simp), ⟨HW6.out.os, HW6.out.tape, HW6.out.output, HW6.out.size, HW6.out.block⟩⟩
end Go.Proofs.YtjeebcnjdhlcfaaDoor
