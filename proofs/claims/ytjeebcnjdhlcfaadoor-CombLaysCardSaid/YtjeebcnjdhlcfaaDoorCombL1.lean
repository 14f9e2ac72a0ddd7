/- The law CombTurned: in what order a row's pairs stand changes nothing. -/
import Derived.Test.YtjeebcnjdhlcfaaDoorComb11
namespace Go.Proofs.YtjeebcnjdhlcfaaDoor
open Go.RowKit
set_option linter.unusedVariables false
set_option linter.unusedSimpArgs false

def IRowsIn (w : World) (v : Value) (L : List (List Int)) : Prop := IRowsV w v L ∧ ∀ r ∈ L, ∀ x ∈ r, (Lit.int .i64 x).wf = true

theorem combEnv_of {w : World} (h : TabAt 0 Lib.deBruijn64tab w) : CombEnv w := ⟨World.block_lt_of_cell? _ _ (h 0 (by decide)), h⟩
theorem lay_back (rows : List (List Pr)) : layS (rows.map List.reverse) = layS rows := by
  refine (lay_perm (by simp) (fun i => ?_)).symm
  unfold rowAt
  rw [List.getD_eq_getElem?_getD, List.getD_eq_getElem?_getD, List.getElem?_map]
  cases rows[i]? with
  | none => exact List.Perm.refl _
  | some r => exact (List.reverse_perm r).symm
theorem back_full (rows : List (List Pr)) : (fullS (rows.map List.reverse)).length ≤ rows.length := by
  have := fullS_le (rows.map List.reverse)
  simpa using this
theorem drop_rev (row : List Pr) (p : Nat) (h : p < row.length) : (row.drop p).reverse = (row.drop (p + 1)).reverse ++ [row.getD p (0, 0)] := by
  rw [List.drop_eq_getElem_cons h, List.reverse_cons, List.getD_eq_getElem?_getD, List.getElem?_eq_getElem h]; rfl

set_option maxRecDepth 100000 in
set_option maxHeartbeats 16000000 in
theorem combTurned_walk (v : Value) (L : List (List Int)) (wide : Int) {w : World} (w0 : IRowsIn w v L) (w1 : (Lit.int .i64 wide).wf = true) (hT : TabAt 0 Lib.deBruijn64tab w) :
    Calls Tryd.prog 7 #[v, .int .i64 wide] w fun e w' => e = .returned (.bool true) ∧ Below w.heap.size w w' := by
  have hE := combEnv_of hT
  clear hT
  obtain ⟨hv, hvw⟩ := w0
  have HW := Lib.hid (wakes_any w hE)
  have HLD := Lib.hid (fun (W : World) (hW : Below w.heap.size w W) => laid_any v L wide W (IRowsV.below hv hW) hvw w1)
  obtain ⟨i1, hi1, hy0, hy1, hy2⟩ := info_parts Tryd.infoPair
  obtain ⟨i2, hi2, hx0, hx1, hx2⟩ := info_parts Tryd.infoPairs
  have hmay := laidS_may L (1 + wide % 60) (by have := Int.emod_nonneg wide (show (60 : Int) ≠ 0 by omega); omega) (by have := Int.emod_lt_of_pos wide (show (0 : Int) < 60 by omega); omega)
  have hlen := laidS_len L (1 + wide % 60)
  have HE := Lib.hid hE
  generalize laidS L (1 + wide % 60) = rows at HLD hmay hlen
  have HM := Lib.hid hmay
  have hrl : rows.length ≤ 14 := by omega
  clear hv hvw hE hmay hlen w1
  go_enter Tryd.func7, Tryd.ntmps7
  go_wp2_with fail
  refine HW.out.mono ?_
  rintro e w2 ⟨rfl, hb2⟩
  have HB2 := Lib.hid hb2
  clear hb2
  go_wp2_with fail
  refine (HLD.out _ HB2.out).mono ?_
  rintro e w3 ⟨⟨rv, rfl, hrv⟩, hb3⟩
  have hb03 := HB2.out.trans (hb3.mono HB2.out.size)
  obtain ⟨ra, rn, rc, rfl, hrn, hrc, hrm, hrx⟩ := PRowsV.open hrv
  have hrn14 : rn ≤ 14 := by have := hrn.out; omega
  have HB := Lib.hid (And.intro hb03 hrv)
  have hbs3 := hb03.size
  clear hb3 hb03 hrv hrc hrm
  go_wp2_with fail
  go_loopw [6, 7] (fun x y w4 => ∃ (k : Nat) (xs : List Value) (S : Nat → Prop), k ≤ rn ∧ y = .int .i64 (k : Int) ∧ GrowL w3.heap.size 35 1 prowR S w4 x xs ((rows.take k).map List.reverse) ∧ Below w3.heap.size w3 w4) (fun _ y _ => rn - (intOf y).toNat)
  case atStart => exact ⟨0, [], _, Nat.zero_le _, rfl, by simpa using GrowL.nil _ _ _ _ _, Below.refl _ _⟩
  case round =>
    obtain ⟨k, xs, S, hk, rfl, hG, hb4⟩ := hrel
    rename World => w4
    by_cases hlt : k < rn
    · have hkI : (k : Int) < (rn : Int) := by omega
      obtain ⟨b1, o1, u1, rfl, c1, r1⟩ := hrx.out k hlt
      have hkL : k < rows.length := by have := hrn.out; omega
      have hnextL : Hid ((rows.take (k + 1)).map List.reverse = (rows.take k).map List.reverse ++ [(rowAt rows k).reverse]) := Lib.hid (by
        rw [List.take_succ_eq_append_getElem hkL, List.map_append]
        unfold rowAt
        rw [List.getD_eq_getElem?_getD, List.getElem?_eq_getElem hkL]; rfl)
      have c1' := (hb4.cell (World.block_lt_of_cell? _ _ c1)).trans c1
      have C1 := Lib.hid c1'
      have hrl12 : (rowAt rows k).length ≤ 1000000 := by
        have h1 := (nodup_nat (mayS_row HM.out k hkL)).1
        have h2 := (nodup_nat (mayS_row HM.out k hkL)).2
        have : ((rowAt rows k).map (·.1.toNat)).length ≤ (List.range 1000).length := by
          refine (List.Nodup.length_le_of_subset h1 ?_)
          intro x hx
          obtain ⟨p, hp, rfl⟩ := List.mem_map.1 hx
          have := h2 p hp
          rw [List.mem_range]; omega
        rw [List.length_map, List.length_range] at this; omega
      generalize rowAt rows k = row at r1 hnextL hrl12
      obtain ⟨a2, m, c2, rfl, hm, hmc, hmm, hpx⟩ := r1.open
      have hm6 : m ≤ 1000000 := by have := hm.out; omega
      have HG := Lib.hid (And.intro hG hb4)
      have hbs4 := hb4.size
      clear c1 r1 hG hb4 hmm hmc hrl12
      go_wp2_with fail
      clear c1'
      go_loopw [8, 9] (fun x z w5 => ∃ (q : Nat) (ys : List Value), q ≤ m ∧ z = .int .i64 ((q : Int) - 1) ∧ GrowL w4.heap.size 39 2 pairR (fun _ => False) w5 x ys (row.drop q).reverse ∧ Below w4.heap.size w4 w5) (fun _ z _ => ((intOf z) + 1).toNat)
      case atStart => exact ⟨m, [], Nat.le_refl _, rfl, by rw [List.drop_of_length_le (by have := hm.out; omega)]; exact GrowL.nil _ _ _ _ _, Below.refl _ _⟩
      case round =>
        obtain ⟨q, ys, hq, rfl, hR, hb5⟩ := hrel
        rename World => w5
        have hbs5 := hb5.size
        have C2 := (hb5.cell (World.block_lt_of_cell? _ _ C1.out)).trans C1.out
        have hb35 := HG.out.2.trans (hb5.mono hbs4)
        by_cases hq0 : 0 < q
        · obtain ⟨p, rfl⟩ : ∃ p, q = p + 1 := ⟨q - 1, by omega⟩
          have ez : ((p + 1 : Nat) : Int) - 1 = (p : Int) := by omega
          rw [ez]
          have hpm : p < m := by omega
          have hpI : (p : Int) < (m : Int) := by omega
          obtain ⟨b3, o3, rfl, d1, d2⟩ := hpx.out p hpm
          replace d1 := (hb35.cell (World.block_lt_of_cell? _ _ d1)).trans d1
          replace d2 := (hb35.cell (World.block_lt_of_cell? _ _ d2)).trans d2
          have hdr := drop_rev row p (by have := hm.out; omega)
          generalize row.getD p (0, 0) = pr at d1 d2 hdr
          obtain ⟨pa, pv⟩ := pr
          simp only at d1 d2
          have hlen : (row.drop (p + 1)).reverse.length ≤ 1000000 := by
            have := hm.out
            rw [List.length_reverse, List.length_drop]; omega
          have hown := hR.own
          have HR := Lib.hid (And.intro hR (And.intro hb5 hdr))
          generalize hLL : (row.drop (p + 1)).reverse.length = LL at hown hlen
          have HLL := Lib.hid hLL
          clear hR hb5 hdr hLL ez hb35
          go_wp2_with (first
            | (at_builtin; refine wpList_append_own_at _ rfl _ _ 35 rfl w4.heap.size 39 i1 (.agg #[.int .i64 0, .int .i64 0]) 2 16 Tryd.underlying35 hi1 hy0 hy1 hy2 rfl (by decide) _ _ _ rfl (hown.alloc _) ⟨w5.heap.size, 0, none⟩ 1 1 [.int .i64 pa, .int .i64 pv] rfl rfl (news2 _ _ _ _) ?d2 ?d3 ?d4 ?d5 ?_))
          case d2 => first | rfl | (intro u hu; simp at hu; rcases hu with e | e <;> rw [e] <;> rfl)
          case d3 => unfold maxLen; omega
          case d4 => omega
          case d5 => simp; omega
          intro x' w6 ho6 hg6 _ hl6
          have hal := (Below.refl w5.heap.size w5).alloc (Nat.le_refl _) (.cells #[.int .i64 pa, .int .i64 pv] 39)
          have hR6 := (HR.out.1.below hal).push (S' := fun _ => False) (cs := [.int .i64 pa, .int .i64 pv]) (x := (pa, pv)) (by rw [HLL.out]; exact ho6) hg6 (by simpa using hl6) rfl (Firm.pure (fun w' => rfl)) (fun k _ h => h)
          have hb6 : Below w4.heap.size w4 w6 := (HR.out.2.1.alloc hbs5 _).grown hg6 (by simp; omega) (fun k hk => (HR.out.1.own.lt k hk).1)
          have hR7 := hR6.widen (S' := fun _ => False) (fun b h => h.elim id id) (fun b h => h.elim) (fun k _ h => h)
          rw [← HR.out.2.2] at hR7
          have H6 := Lib.hid (And.intro hR7 hb6)
          clear hal hR6 hR7 hb6 hg6 ho6 hl6 hown C2 d1 d2
          go_wp2_with fail
          go_roundw
          case rel => exact ⟨p, _, by omega, rfl, H6.out.1, H6.out.2⟩
          case measure => first | (simp [intOf]; done) | (simp [intOf]; omega)
        · obtain rfl : q = 0 := by omega
          have ez : ((0 : Nat) : Int) - 1 = -1 := rfl
          rw [ez]
          clear ez
          rw [List.drop_zero] at hR
          obtain ⟨xa, xc, rfl⟩ : ∃ a1 c1, u8 = .slice a1 row.reverse.length c1 := by
            rcases hR.own.2 with ⟨rfl, h0⟩ | ⟨g, cap, cur, rfl, _⟩
            · exact ⟨none, 0, by rw [h0]⟩
            · exact ⟨_, cap, rfl⟩
          have hG5 := HG.out.1.below hb5
          have hownG := hG5.own
          have hL14 : ((rows.take k).map List.reverse).length ≤ 14 := by simp; omega
          have HQ := Lib.hid (And.intro hR (And.intro hb5 (And.intro hb35 hG5)))
          generalize hLL : ((rows.take k).map List.reverse).length = LL at hownG hL14
          have HLL := Lib.hid hLL
          generalize hRL : row.reverse.length = RL
          clear hR hb5 hb35 hG5 hLL C2
          have hbs35 : w3.heap.size ≤ w5.heap.size := by omega
          go_wp2_with (first
            | (at_builtin; refine wpList_append_own_at _ rfl _ _ 23 rfl w3.heap.size 35 i2 (.slice none 0 0) 1 24 Tryd.underlying23 hi2 hx0 hx1 hx2 rfl (by decide) _ _ _ rfl (hownG.alloc _) ⟨w5.heap.size, 0, none⟩ 1 1 [.slice xa RL xc] rfl rfl (news1 _ _ _) ?e2 ?e3 ?e4 ?e5 ?_))
          case e2 => first | rfl | (intro u hu; simp at hu; rw [hu]; rfl)
          case e3 => unfold maxLen; omega
          case e4 => omega
          case e5 => simp; omega
          intro v5 w6 ho6 hg6 _ hl6
          have hal := (Below.refl w5.heap.size w5).alloc (Nat.le_refl _) (.cells #[.slice xa RL xc] 35)
          have hRR : GrowL w4.heap.size 39 2 pairR (fun _ => False) w5 (.slice xa RL xc) ys row.reverse := by rw [← hRL]; exact HQ.out.1
          have hfirm : Firm (fun b => False ∨ (Value.slice xa RL xc).ownBlock = some b) (w5.alloc (.cells #[.slice xa RL xc] 35)) (fun w' => prowR w' [.slice xa RL xc] row.reverse) :=
            ((hRR.firm (by omega)).below hal).imp (fun w' h => ⟨_, rfl, h⟩)
          have hG6 := (HQ.out.2.2.2.below hal).push (by rw [HLL.out]; exact ho6) hg6 (by simpa using hl6) rfl hfirm (fun b hb' hS => hS.elim id (fun e => by
            have h1 := (hRR.own.lt b e).1
            have h2 := (HG.out.1.own.lt b hb').2
            omega))
          have hb6 : Below w3.heap.size w3 w6 := (HQ.out.2.2.1.alloc hbs35 _).grown hg6 (by simp; omega) (fun k hk => (HG.out.1.own.lt k hk).1)
          rw [← hnextL.out] at hG6
          have H6 := Lib.hid (And.intro hG6 hb6)
          clear hal hfirm hRR hG6 hb6 hg6 ho6 hl6 hownG
          go_wp2_with fail
          go_roundw
          case rel => exact ⟨k + 1, _, _, by omega, by go_num, H6.out.1, H6.out.2⟩
          case measure => simp [intOf]; omega
    · have hfin : (rows.take k).map List.reverse = rows.map List.reverse := by rw [List.take_of_length_le (by have := hrn.out; omega)]
      rw [hfin] at hG
      have hbk : PRowsV w4 u6 (rows.map List.reverse) := hG.list (by omega)
      have hb04 := HB.out.1.trans (hb4.mono hbs3)
      have HL1 := Lib.hid (layC_any (PRowsV.below HB.out.2 hb4) (by have := fullS_le rows; omega) (HE.out.below hb04))
      have HK := Lib.hid (And.intro hbk hb04)
      have hb04s := hb04.size
      clear hG hfin hb4 hbk hb04
      go_wp2_with fail
      refine HL1.out.mono ?_
      rintro e w5 ⟨ba, bn, bc, va, vn, vc, ka, kn, kc, rfl, hC, hb5⟩
      have HL2 := Lib.hid (layC_any (PRowsV.below HK.out.1 hb5) (by have := back_full rows; omega) ((HE.out.below HK.out.2).below hb5))
      have HC := Lib.hid (And.intro hC hb5)
      clear hC hb5 HL1
      go_wp2_with fail
      refine HL2.out.mono ?_
      rintro e w6 ⟨ba', bn', bc', va', vn', vc', ka', kn', kc', rfl, hC2, hb6⟩
      rw [lay_back] at hC2
      have hbn : bn = rows.length := by
        obtain ⟨b1, v1, k1, e1, h1, _⟩ := HC.out.1
        injection e1 with e2
        have e3 : b1 = .slice ba bn bc := by
          have := congrArg (fun a => a[0]?) e2
          simpa using this.symm
        subst e3
        obtain ⟨_, n', _, e4, hn', _⟩ := h1.open
        cases e4
        rw [hn'.out]
        exact (laid_all HM.out).blen
      have hb56 := HC.out.2.trans (hb6.mono HC.out.2.size)
      have hw6 := HK.out.2.trans (hb56.mono hb04s)
      have hal := ((Below.refl w6.heap.size w6).alloc (Nat.le_refl _) (.cells #[.slice ba bn bc, .slice va vn vc, .slice ka kn kc] 30)).alloc (by simp) (.cells #[.slice ba' bn' bc', .slice va' vn' vc', .slice ka' kn' kc'] 30)
      have HQ := Lib.hid (eqComb_any _ _ _ _ _ ((HC.out.1.below hb6).below hal) (hC2.below hal))
      rw [eqCombB_refl] at HQ
      have hwa := hw6.trans (hal.mono hw6.size)
      have hcc : ∀ (W : World) (i : Nat) (u : Value), Below ((w6.alloc (.cells #[.slice ba bn bc, .slice va vn vc, .slice ka kn kc] 30)).alloc (.cells #[.slice ba' bn' bc', .slice va' vn' vc', .slice ka' kn' kc'] 30)).heap.size ((w6.alloc (.cells #[.slice ba bn bc, .slice va vn vc, .slice ka kn kc] 30)).alloc (.cells #[.slice ba' bn' bc', .slice va' vn' vc', .slice ka' kn' kc'] 30)) W → #[Value.slice ba bn bc, Value.slice va vn vc, Value.slice ka kn kc][i]? = some u → W.cell? ⟨w6.heap.size, i, none⟩ = some u := fun W i u hW hu => by
        rw [hW.cell (p := ⟨w6.heap.size, i, none⟩) (by simp; omega), World.cell?_alloc_past _ _ _ (by simp), World.cell?_alloc_at _ _ _ _ rfl]; exact hu
      have HCC := Lib.hid hcc
      have HBN := Lib.hid hbn
      have HWA := Lib.hid hwa
      clear hC2 hb6 hb56 hw6 hal hcc hbn hwa HL2
      go_wp2_with fail
      refine HQ.out.mono ?_
      rintro e w7 ⟨rfl, hb7⟩
      have p0 := HCC.out w7 0 _ hb7 rfl
      have hwe := HWA.out.trans (hb7.mono HWA.out.size)
      have hEq : ((bn : Int) == (rn : Int)) = true := by rw [HBN.out, hrn.out]; simp
      clear hb7
      go_wp2_with fail
      go_ret
      exact ⟨rfl, hwe⟩
end Go.Proofs.YtjeebcnjdhlcfaaDoor
