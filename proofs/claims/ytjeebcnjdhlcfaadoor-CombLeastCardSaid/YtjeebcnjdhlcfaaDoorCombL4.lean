/- The law CombLeast: no row could begin at a lesser place beside those that are laid ahead of it. -/
import Derived.Test.YtjeebcnjdhlcfaaDoorCombL3
namespace Go.Proofs.YtjeebcnjdhlcfaaDoor
open Go.RowKit
set_option linter.unusedVariables false
set_option linter.unusedSimpArgs false

def ahB (rows : List (List Pr)) (o i : Nat) : Bool := decide ((rowAt rows i).length < (rowAt rows o).length ∨ ((rowAt rows o).length = (rowAt rows i).length ∧ o < i))
/-- does a pair hit what is laid ahead? -/
def hitP (rows : List (List Pr)) (chk : List Int) (i c : Nat) (p : Pr) : Bool := (chk.getD (c + p.1.toNat) 0 != 0) && ahB rows (chk.getD (c + p.1.toNat) 0 - 1).toNat i
def hitTo (rows : List (List Pr)) (chk : List Int) (i c k : Nat) : Bool := ((rowAt rows i).take k).any (hitP rows chk i c)
theorem hitTo_next (rows : List (List Pr)) (chk : List Int) (i c k : Nat) (h : k < (rowAt rows i).length) : hitTo rows chk i c (k + 1) = (hitTo rows chk i c k || hitP rows chk i c ((rowAt rows i).getD k (0, 0))) := by
  unfold hitTo
  rw [List.take_succ_eq_append_getElem h, List.any_append, List.getD_eq_getElem?_getD, List.getElem?_eq_getElem h]
  simp
theorem hitTo_all {rows : List (List Pr)} (hm : mayS rows = true) {i c k : Nat} (hi : i < rows.length) (hk : (rowAt rows i).length ≤ k) (hc : c < ((layS rows).1.getD i 0).toNat) : hitTo rows (layS rows).2.1 i c k = true := by
  have H := laid_all hm
  have hid : i ∈ orderS rows := by
    by_cases h : i ∈ orderS rows
    · exact h
    · rw [H.base0 i h] at hc; exact absurd hc (by omega)
  obtain ⟨p, hp, o, _, h1, h2⟩ := H.least i hid c hc
  unfold hitTo
  rw [List.take_of_length_le hk, List.any_eq_true]
  refine ⟨p, hp, ?_⟩
  unfold hitP
  rw [h2, Bool.and_eq_true, bne_iff_ne]
  refine ⟨by omega, ?_⟩
  rw [show ((o : Int) + 1 - 1).toNat = o by omega]
  unfold ahB
  rw [decide_eq_true_eq]
  exact h1

set_option maxRecDepth 100000 in
set_option maxHeartbeats 16000000 in
theorem combLeast_walk (v : Value) (L : List (List Int)) (wide : Int) {w : World} (w0 : IRowsIn w v L) (w1 : (Lit.int .i64 wide).wf = true) (hT : TabAt 0 Lib.deBruijn64tab w) :
    Calls Tryd.prog 6 #[v, .int .i64 wide] w fun e w' => e = .returned (.bool true) ∧ Below w.heap.size w w' := by
  have hE := combEnv_of hT
  clear hT
  obtain ⟨hv, hvw⟩ := w0
  have HW := Lib.hid (wakes_any w hE)
  have HLD := Lib.hid (fun (W : World) (hW : Below w.heap.size w W) => laid_any v L wide W (IRowsV.below hv hW) hvw w1)
  have hmay := laidS_may L (1 + wide % 60) (by have := Int.emod_nonneg wide (show (60 : Int) ≠ 0 by omega); omega) (by have := Int.emod_lt_of_pos wide (show (0 : Int) < 60 by omega); omega)
  have hlen := laidS_len L (1 + wide % 60)
  have HE := Lib.hid hE
  generalize laidS L (1 + wide % 60) = rows at HLD hmay hlen
  have HM := Lib.hid hmay
  have hrl : rows.length ≤ 14 := by omega
  clear hv hvw hE hmay hlen w1
  go_enter Tryd.func6, Tryd.ntmps6
  go_wp2_with fail
  refine HW.out.mono ?_
  rintro e w2' ⟨rfl, hb2⟩
  have HB2 := Lib.hid hb2
  clear hb2
  go_wp2_with fail
  refine (HLD.out _ HB2.out).mono ?_
  rintro e w3 ⟨⟨rv, rfl, hrv⟩, hb3⟩
  have hb03 := HB2.out.trans (hb3.mono HB2.out.size)
  have HL1 := Lib.hid (layC_any hrv (by have := fullS_le rows; omega) (HE.out.below hb03))
  have HB3 := Lib.hid (And.intro hb03 hrv)
  clear hb03 hb3 hrv
  go_wp2_with fail
  refine HL1.out.mono ?_
  rintro e w5 ⟨ba, bn, bc, va, vn, vc, ka, kn, kc, rfl, hC, hb5⟩
  have hal := (Below.refl w5.heap.size w5).alloc (Nat.le_refl _) (.cells #[.slice ba bn bc, .slice va vn vc, .slice ka kn kc] 30)
  have hheld : Held (w5.alloc (.cells #[.slice ba bn bc, .slice va vn vc, .slice ka kn kc] 30)) ⟨w5.heap.size, 0, none⟩ (.slice ba bn bc) (.slice va vn vc) (.slice ka kn kc) rv rows :=
    ⟨fun W i u hW hu => by
      rw [hW.cell (p := ⟨w5.heap.size, i, none⟩) (by simp), World.cell?_alloc_at _ _ _ _ rfl]; exact hu, hC.below hal, PRowsV.below (PRowsV.below HB3.out.2 hb5) hal, HM.out, hrl⟩
  have hw6 := (HB3.out.1.trans (hb5.mono HB3.out.1.size)).trans (hal.mono (by have := (HB3.out.1.trans (hb5.mono HB3.out.1.size)).size; omega))
  obtain ⟨ra, rn, rc, rfl, hrn, hrc, hrm, hrx⟩ := PRowsV.open hheld.rws
  have hp0 : (w5.alloc (.cells #[.slice ba bn bc, .slice va vn vc, .slice ka kn kc] 30)).cell? ⟨w5.heap.size, 0, none⟩ = some (.slice ba bn bc) := hheld.box _ 0 _ (Below.refl _ _) rfl
  have hp1 : (w5.alloc (.cells #[.slice ba bn bc, .slice va vn vc, .slice ka kn kc] 30)).cell? ⟨w5.heap.size, 1, none⟩ = some (.slice va vn vc) := hheld.box _ 1 _ (Below.refl _ _) rfl
  have hp2 : (w5.alloc (.cells #[.slice ba bn bc, .slice va vn vc, .slice ka kn kc] 30)).cell? ⟨w5.heap.size, 2, none⟩ = some (.slice ka kn kc) := hheld.box _ 2 _ (Below.refl _ _) rfl
  obtain ⟨bq, vq, kq, eq, hI1, hI2, hI3⟩ := hheld.comb
  obtain ⟨rfl, rfl, rfl⟩ : bq = .slice ba bn bc ∧ vq = .slice va vn vc ∧ kq = .slice ka kn kc := by
    injection eq with e2
    have a0 := congrArg (fun a => a[0]?) e2
    have a1 := congrArg (fun a => a[1]?) e2
    have a2 := congrArg (fun a => a[2]?) e2
    simp at a0 a1 a2
    exact ⟨a0.symm, a1.symm, a2.symm⟩
  obtain ⟨_, _, _, x1, hbn, z1, z2, hbx⟩ := hI1.open
  cases x1
  obtain ⟨_, _, _, x1, hvn, z3, z4, hvx⟩ := hI2.open
  cases x1
  obtain ⟨_, _, _, x1, hkn, z5, z6, hkx⟩ := hI3.open
  cases x1
  have hlaid := laid_all HM.out
  have e1 : ((bn : Int) != (rn : Int)) = false := by rw [hbn.out, hrn.out, hlaid.blen]; simp
  have e2 : ((vn : Int) != (kn : Int)) = false := by rw [hvn.out, hkn.out, hlaid.len]; simp
  have hcnt := count_laid HM.out
  have HLD2 := Lib.hid (And.intro hlaid hcnt)
  have hrn14 : rn ≤ 14 := by have := hrn.out; omega
  have hkn9 : kn ≤ 14000 := by
    have h1 := hlaid.small
    have h2 := orderS_len rows
    have h3 := fullS_le rows
    have := Nat.mul_le_mul_left 1000 (show (orderS rows).length ≤ 14 by omega)
    have := hkn.out
    omega
  have hbn14 : bn = rows.length := by rw [hbn.out, hlaid.blen]
  have hvk : vn = kn := by rw [hvn.out, hkn.out, hlaid.len]
  have HQ := Lib.hid (And.intro hbn14 hvk)
  have HW6 := Lib.hid hw6
  clear hC hb5 hal hheld hw6 HL1 hrc hrm HLD HW HB3 HB2 hI1 hI2 hI3 eq hlaid hcnt hbn14 hvk z1 z2 z3 z4 z5 z6
  go_wp2_with fail
  generalize w5.alloc (.cells #[.slice ba bn bc, .slice va vn vc, .slice ka kn kc] 30) = w6 at hrx hbx hvx hkx hp0 hp1 hp2 HW6 ⊢
  generalize w5.heap.size = bx at hp0 hp1 hp2 ⊢
  clear e1
  have hpn := HLD2
  go_loopw [7] (fun y W => ∃ (i d : Nat), i ≤ rn ∧ y = .int .i64 (i : Int) ∧ W = w6.drewN d) (fun y _ => rn - (intOf y).toNat)
  case atStart => exact ⟨0, 0, Nat.zero_le _, rfl, rfl⟩
  case round =>
    obtain ⟨i, d, hi, rfl, rfl⟩ := hrel
    by_cases hlt : i < rn
    · have hiI : (i : Int) < (rn : Int) := by omega
      have hir : i < rows.length := by have := hrn.out; omega
      have hib : i < bn := by have := HQ.out.1; omega
      have hibI : (i : Int) < (bn : Int) := by omega
      obtain ⟨b1, o1, u1, rfl, c1, r1⟩ := hrx.out i hlt
      obtain ⟨b2, o2, rfl, c2⟩ := hbx.out i hib
      obtain ⟨a3, m, c3, rfl, hm, hmc, hmm, hpx⟩ := r1.open
      have hm1 : m ≤ 1000 := by have := row_len12 HM.out i hir; have := hm.out; omega
      have hB0 := HLD2.out.1.nonneg i
      have hBk : (layS rows).1.getD i 0 ≤ 1000000 := (laid_base HM.out (by omega) i).2
      obtain ⟨b, hb⟩ := Int.eq_ofNat_of_zero_le hB0
      rw [hb] at c2 hBk
      have HBB := Lib.hid hb
      have hb2 : b ≤ 1000000 := by omega
      clear hb hB0 hBk r1 hmm hmc
      go_wp2_with fail
      go_loopw [8] (fun y W => ∃ (c d : Nat), c ≤ b ∧ y = .int .i64 (c : Int) ∧ W = w6.drewN d) (fun y _ => b - (intOf y).toNat)
      case atStart => exact ⟨0, d, Nat.zero_le _, rfl, rfl⟩
      case round =>
        obtain ⟨c, d1, hc, rfl, rfl⟩ := hrel
        by_cases hcb : c < b
        · have hcI : (c : Int) < (b : Int) := by omega
          go_wp2_with fail
          go_loopw [9, 10] (fun x y W => ∃ (k d : Nat), k ≤ m ∧ x = .bool (hitTo rows (layS rows).2.1 i c k) ∧ y = .int .i64 (k : Int) ∧ W = w6.drewN d) (fun _ y _ => m - (intOf y).toNat)
          case atStart => exact ⟨0, d1, Nat.zero_le _, by simp [hitTo], rfl, rfl⟩
          case round =>
            obtain ⟨k, d2, hk, rfl, rfl, rfl⟩ := hrel
            by_cases hkm : k < m
            · have hkI : (k : Int) < (m : Int) := by omega
              obtain ⟨b4, o4, rfl, p1, p2⟩ := hpx.out k hkm
              have hkr : k < (rowAt rows i).length := by have := hm.out; omega
              have hmem : (rowAt rows i).getD k (0, 0) ∈ rowAt rows i := by rw [List.getD_eq_getElem?_getD, List.getElem?_eq_getElem hkr]; simp
              have hrg := (nodup_nat (mayS_row HM.out i hir)).2 _ hmem
              have hnx := hitTo_next rows (layS rows).2.1 i c k hkr
              generalize (rowAt rows i).getD k (0, 0) = p at p1 p2 hrg hnx
              obtain ⟨pa, pv⟩ := p
              obtain ⟨q, rfl⟩ := Int.eq_ofNat_of_zero_le hrg.1
              have hq9 : q ≤ 999 := by have := hrg.2; simp at this; omega
              simp only at p1 p2
              have hs0 : (0 : Int) ≤ (c : Int) + (q : Int) := by omega
              have hs2 : ((c : Int) + (q : Int)).toNat = c + q := by omega
              unfold hitP at hnx
              simp only [Int.toNat_natCast] at hnx
              generalize hitTo rows (layS rows).2.1 i c k = hit at hnx ⊢
              clear hrg hmem
              by_cases hout : kn ≤ c + q
              · have hs3 : (kn : Int) ≤ (c : Int) + (q : Int) := by omega
                have hz : (layS rows).2.1.getD (c + q) 0 = 0 := getD_ge _ _ _ (by have := hkn.out; omega)
                rw [hz] at hnx
                have HN : Hid (hitTo rows (layS rows).2.1 i c (k + 1) = hit) := Lib.hid (by rw [hnx]; simp)
                clear hnx hz hout
                go_wp2_with fail
                go_roundw
                case rel => exact ⟨k + 1, _, by omega, by rw [HN.out], by go_num, rfl⟩
                case measure => simp [intOf]; omega
              · have hs3 : ¬ (kn : Int) ≤ (c : Int) + (q : Int) := by omega
                have hs1 : (c : Int) + (q : Int) < (kn : Int) := by omega
                obtain ⟨b5, o5, rfl, k1⟩ := hkx.out (c + q) (by omega)
                by_cases hz : (layS rows).2.1.getD (c + q) 0 = 0
                · rw [hz] at hnx k1
                  have HN : Hid (hitTo rows (layS rows).2.1 i c (k + 1) = hit) := Lib.hid (by rw [hnx]; simp)
                  clear hnx hz hout
                  go_wp2_with fail
                  go_roundw
                  case rel => exact ⟨k + 1, _, by omega, by rw [HN.out], by go_num, rfl⟩
                  case measure => simp [intOf]; omega
                · obtain ⟨o, ho, px, hpx0, hpe0, ho2⟩ := HLD2.out.1.own (c + q) hz
                  clear hpx0 hpe0
                  have hor := HLD2.out.1.lt o ho
                  rw [ho2] at hnx k1
                  have horn : o < rn := by have := hrn.out; omega
                  have hoI : (o : Int) < (rn : Int) := by omega
                  have ho9 : o ≤ 14 := by omega
                  obtain ⟨b7, o7, u7', e7, c7, r7⟩ := hrx.out o horn
                  cases e7
                  obtain ⟨a8, mo, c8, rfl, hmo, _, _, _⟩ := r7.open
                  have e3 : ((o : Int) + 1 != 0) = true := by rw [bne_iff_ne]; omega
                  have e4 : ((o : Int) + 1 - 1).toNat = o := by omega
                  have e5 : ((o : Int) + 1 == 0) = false := by rw [beq_eq_false_iff_ne]; omega
                  rw [e3, e4, Bool.true_and] at hnx
                  have hah : ahB rows o i = decide (m < mo ∨ (mo = m ∧ o < i)) := by
                    unfold ahB
                    exact decide_eq_decide.2 (by rw [← show mo = (rowAt rows o).length from hmo.out, ← show m = (rowAt rows i).length from hm.out])
                  rw [hah] at hnx
                  have e6 : IntKind.i64.wrap ((o : Int) + 1 - 1) = (o : Int) := by rw [IntWalk.i64_in _ ⟨by omega, by omega⟩]; omega
                  have e8 : (o : Int) + 1 - 1 = (o : Int) := by omega
                  have e9 : decide (o < rn) = true := decide_eq_true horn
                  have e10 : decide (o < rows.length) = true := decide_eq_true hor
                  clear hz ho2 e3 e4 r7 hout ho hah
                  cases hit with
                  | true =>
                    have HN : Hid (hitTo rows (layS rows).2.1 i c (k + 1) = true) := Lib.hid (by rw [hnx]; rfl)
                    clear hnx
                    go_wp2_with fail
                    go_quiet (fail)
                    go_wp2_with fail
                    go_roundw
                    case rel => exact ⟨k + 1, _, by omega, by rw [HN.out], by go_num, rfl⟩
                    case measure => simp [intOf]; omega
                  | false =>
                    rw [Bool.false_or] at hnx
                    by_cases hgt : m < mo
                    · have HN : Hid (hitTo rows (layS rows).2.1 i c (k + 1) = true) := Lib.hid (by rw [hnx]; exact decide_eq_true (.inl hgt))
                      have f1 : decide (m < mo) = true := decide_eq_true hgt
                      clear hnx hgt
                      go_wp2_with fail
                      go_quiet (fail)
                      go_wp2_with fail
                      go_roundw
                      case rel => exact ⟨k + 1, _, by omega, by rw [HN.out], by go_num, rfl⟩
                      case measure => simp [intOf]; omega
                    · have f1 : decide (m < mo) = false := decide_eq_false hgt
                      by_cases heq : mo = m
                      · subst heq
                        have f2 : ((mo : Int) == (mo : Int)) = true := by simp
                        by_cases hoi : o < i
                        · have HN : Hid (hitTo rows (layS rows).2.1 i c (k + 1) = true) := Lib.hid (by rw [hnx]; exact decide_eq_true (.inr ⟨rfl, hoi⟩))
                          have f3 : decide (o < i) = true := decide_eq_true hoi
                          clear hnx hgt hoi
                          go_wp2_with fail
                          go_quiet (fail)
                          go_wp2_with fail
                          go_roundw
                          case rel => exact ⟨k + 1, _, by omega, by rw [HN.out], by go_num, rfl⟩
                          case measure => simp [intOf]; omega
                        · have HN : Hid (hitTo rows (layS rows).2.1 i c (k + 1) = false) := Lib.hid (by rw [hnx]; exact decide_eq_false (by omega))
                          have f3 : decide (o < i) = false := decide_eq_false hoi
                          clear hnx hgt hoi
                          go_wp2_with fail
                          go_quiet (fail)
                          go_wp2_with fail
                          go_roundw
                          case rel => exact ⟨k + 1, _, by omega, by rw [HN.out], by go_num, rfl⟩
                          case measure => simp [intOf]; omega
                      · have f2 : ((mo : Int) == (m : Int)) = false := by rw [beq_eq_false_iff_ne]; omega
                        have f4 : (mo == m) = false := by rw [beq_eq_false_iff_ne]; omega
                        have HN : Hid (hitTo rows (layS rows).2.1 i c (k + 1) = false) := Lib.hid (by rw [hnx]; exact decide_eq_false (by omega))
                        clear hnx hgt heq
                        go_wp2_with fail
                        go_quiet (fail)
                        go_wp2_with fail
                        go_roundw
                        case rel => exact ⟨k + 1, _, by omega, by rw [HN.out], by go_num, rfl⟩
                        case measure => simp [intOf]; omega
            · have hT1 := hitTo_all HM.out (i := i) (c := c) (k := k) hir (by have := hm.out; omega) (by have := HBB.out; omega)
              rw [hT1]
              clear hT1
              go_wp2_with fail
              go_roundw
              case rel => exact ⟨c + 1, _, by omega, by go_num, rfl⟩
              case measure => simp [intOf]; omega
        · go_wp2_with fail
          go_roundw
          case rel => exact ⟨i + 1, _, by omega, by go_num, rfl⟩
          case measure => simp [intOf]; omega
    · go_wp2_with fail
      go_ret
      exact ⟨rfl, ⟨HW6.out.os, HW6.out.tape, HW6.out.output, HW6.out.size, HW6.out.block⟩⟩
end Go.Proofs.YtjeebcnjdhlcfaaDoor
