/- The walk of NamesSorted. -/
import Derived.Test.YtijnekbhpdcemaaNames14
namespace Go.Proofs.Ytijnekbhpdcemaa
open Go.RowKit Go.Maps Go.Sort
set_option linter.unusedVariables false

theorem names_cell_ne {w : World} {base b : Nat} {L : List ByteArray} (h : NamesV w base b L) {b' o : Nat} {y : ByteArray} (hc : w.cell? ⟨b', o, none⟩ = some (.string y)) : b' ≠ b := by
  rintro rfl
  obtain ⟨_, _, sv, mv, hb, hr, hm⟩ := h
  obtain ⟨a, c, rfl⟩ := row_slice hr
  rw [cell_of_row w b' o _ _ (0, 0) hb] at hc
  match o, hc with
  | 0, hc => cases hc
  | 1, hc =>
    rcases hm with ⟨rfl, _⟩ | ⟨mb, D, rfl, _⟩
    · cases hc
    · cases hc
  | o + 2, hc => simp at hc

def SortedTells (W : List ByteArray) (B : Nat) (w : World) (e : Ending) (w' : World) : Prop :=
  ∃ (v : Value) (zs : List Int), e = .returned v ∧ zs.length = W.length ∧ (∀ i, i < zs.length → 0 ≤ zs.getD i 0 ∧ zs.getD i 0 < W.length) ∧ (∀ i, i + 1 < zs.length → Op.bytesLess (W.getD (zs.getD i 0).toNat ByteArray.empty).toList (W.getD (zs.getD (i + 1) 0).toNat ByteArray.empty).toList = true) ∧ IntsV w' v zs ∧ Below w.heap.size w w'

theorem sorted_tells (b base : Nat) (W : List ByteArray) (w : World) (hnd : W.Nodup) (h : NamesV w base b W) (hS : ∀ (L : List ByteArray) m, SortsN L m) (h0 : SortsNone) :
    Calls Try.prog 14 #[.pointer (some ⟨b, 0, none⟩)] w (SortedTells W base w) := by
  cases hW : W.length with
  | zero =>
    have : W = [] := List.eq_nil_of_length_eq_zero hW
    subst this
    refine (sorted_none b base w h h0).mono ?_
    rintro e w' ⟨⟨v, rfl, hv⟩, hb⟩
    exact ⟨v, [], rfl, rfl, fun i hi => absurd hi (Nat.not_lt_zero _), fun i hi => absurd hi (Nat.not_lt_zero _), hv, hb⟩
  | succ m =>
    refine (sorted_walk b m W base w hW h (hS _ _)).mono ?_
    rintro e w' ⟨v, d, rfl, hd, hp, hs, hv, hb⟩
    have hl : (NumsOf m d).length = m + 1 := by simp [NumsOf, hd]
    refine ⟨v, NumsOf m d, rfl, by rw [hl, hW], fun i hi => ?_, fun i hi => ?_, hv, hb⟩
    · rw [nums_getD hd (by omega)]
      have := d[i]!.isLt
      omega
    · rw [nums_getD hd (by omega), nums_getD hd (by omega)]
      exact sorted_less W hW hnd hd hp hs (by omega)

theorem bytes_geq {s t : ByteArray} (h : Op.bytesLess s.toList t.toList = true) : (!Op.bytesLess s.toList t.toList) = false := by rw [h]; rfl

set_option maxRecDepth 100000 in
theorem namesSorted_walk (v : Value) (l : List ByteArray) (w : World) (h : StrsIn w v l) (hS : ∀ (L : List ByteArray) m, SortsN L m) (h0 : SortsNone) :
    Calls Try.prog 4 #[v] w fun e w' => e = .returned (.bool true) ∧ Below w.heap.size w w' := by
  obtain ⟨hv, hl⟩ := h
  have HS := Lib.hid hS
  have H0 := Lib.hid h0
  have HV := Lib.hid hv
  have HL := Lib.hid hl
  clear hS hv hl h0
  go_enter Try.func4, Try.ntmps4
  go_wp2_with fail
  refine (namesWakes_any _ (fun L => HS.out L 1)).mono ?_
  rintro e w1 ⟨rfl, hbw⟩
  go_wp2_with fail
  refine (names_new _).mono ?_
  rintro e w4 ⟨rfl, rfl⟩
  have hn : ∀ base, NamesV (w1.alloc (.cells #[.slice none 0 0, .map none] 40)) base w1.heap.size [] := fun base => names_made w1 base
  have hb4 : Below w1.heap.size w1 (w1.alloc (.cells #[.slice none 0 0, .map none] 40)) := (Below.refl _ _).alloc (Nat.le_refl _) _
  have hs4 : w1.heap.size < (w1.alloc (.cells #[.slice none 0 0, .map none] 40)).heap.size := by simp
  have HN := Lib.hid hn
  clear hn
  generalize w1.alloc (.cells #[.slice none 0 0, .map none] 40) = w4 at HN hb4 hs4 ⊢
  go_wp2_with fail
  refine (cut_any v l _ ((HV.out.below hbw).far rfl hb4) HL.out).mono ?_
  rintro e w3 ⟨⟨vc, rfl, hvc⟩, hb2⟩
  have hb3 := hb4.trans (hb2.mono hb4.size)
  have HN0 := Lib.hid (names_below (HN.out w3.heap.size) hb2)
  have hcl := cutS_len l
  have hcs := Lib.hid (cutS_size l)
  generalize cutS l = c at hvc hcl hcs
  have HC := Lib.hid hvc
  have h13 : w1.heap.size ≤ w3.heap.size := Nat.le_of_lt (Nat.lt_of_lt_of_le hs4 hb2.size)
  clear hvc hb2 HN hs4 hb4
  have hB := hbw.size
  replace hbw := hbw.trans (hb3.mono hbw.size)
  clear hb3
  generalize w1.heap.size = B at HN0 h13 hbw hB ⊢
  obtain ⟨ac, nc, cc, rfl, hlc, hncc, hcc, hxc⟩ := HC.out.open
  go_wp2_with fail
  go_loopw [4] (fun i wr => ∃ k : Nat, k ≤ nc ∧ i = .int .i64 k ∧ Hid (NamesV wr w3.heap.size B ((c.take k).foldl putS [])) ∧ Hid (BelowX w3.heap.size B w3 wr)) (fun i _ => nc - (intOf i).toNat)
  case atStart => exact ⟨0, Nat.zero_le _, rfl, HN0, Lib.hid (BelowX.of (Below.refl _ _))⟩
  case round =>
    obtain ⟨k, hk, rfl, HN, hbx⟩ := hrel
    have hcell : Hid (∀ i, i < nc → ∃ b off, ac = some ⟨b, off, none⟩ ∧ wr.cell? ⟨b, off + i, none⟩ = some (.string (c.getD i ByteArray.empty))) := Lib.hid (fun i hi => by
      obtain ⟨b, o, rfl, c0⟩ := hxc.out i hi
      exact ⟨b, o, rfl, (hbx.out.cell (World.block_lt_of_cell? _ _ c0) (names_cell_ne HN0.out c0)).trans c0⟩)
    by_cases hlt : k < nc
    · obtain ⟨b, o, rfl, c1⟩ := hcell.out k hlt
      have hkc : k < c.length := by have := hlc.out; omega
      have hy : (c.getD k ByteArray.empty).size ≤ maxLen := by
        have := hcs.out (c.getD k ByteArray.empty) (by rw [getD_of hkc]; exact List.getElem_mem _)
        unfold maxLen; omega
      have HT := Lib.hid (foldl_take_snoc hkc)
      have hLL : ((c.take k).foldl putS []).length + 1 ≤ 1000000 := by
        have h1 := foldl_len (c.take k) []
        have h2 : (c.take k).length ≤ 40 := by simp; omega
        simp at h1; simp at h2; omega
      clear hcell
      generalize c.getD k ByteArray.empty = y at c1 hy HT
      generalize (c.take k).foldl putS [] = L at HN HT hLL
      go_wp2_with fail
      refine (names_put B L y w3.heap.size _ hy hLL hbx.out.size HN.out).mono ?_
      rintro e w5 ⟨rfl, hn2, hb2⟩
      go_wp2_with fail
      go_roundw
      case rel => exact ⟨k + 1, by omega, by go_num, Lib.hid (by rw [← HT.out]; exact hn2), Lib.hid (hbx.out.trans hb2)⟩
      case measure => simp [intOf]; omega
    · have HN2 : Hid (NamesV wr w3.heap.size B (c.foldl putS [])) := Lib.hid (by
        have := HN.out
        rwa [List.take_of_length_le (by have := hlc.out; omega)] at this)
      have hcw : Hid (StrsV wr (.slice ac nc cc) c) := Lib.hid (by
        obtain ⟨a', c', hv, hn, hc, hnone, hx⟩ := HC.out
        cases hv
        refine ⟨ac, cc, by rw [hlc.out], by rw [← hlc.out]; exact hncc, hcc, hnone, fun i hi => ?_⟩
        have hi' : i < c.length := by simpa using hi
        obtain ⟨b, o, hb, c0⟩ := hcell.out i (by rw [hlc.out]; exact hi')
        exact ⟨b, o, hb, c0.trans (by rw [getD_map_str c i hi'])⟩)
      have hnd := foldl_nodup c [] List.nodup_nil
      have hwb : Below w.heap.size w wr := hbw.trans ((hbx.out.below' h13).mono hB)
      have hunl := Lib.hid (fun W (hb : Below wr.heap.size wr W) => unlike_any (.slice ac nc cc) c W (hcw.out.far rfl hb) (by omega))
      clear HN hxc HC hlc hcell hbx hbw HN0 hcs hncc hcc hcw hcl
      generalize c.foldl putS [] = W at HN2 hnd hunl
      have HND := Lib.hid hnd
      clear hnd
      go_wp2_with fail
      refine (sorted_tells B w3.heap.size W wr HND.out HN2.out HS.out H0.out).mono ?_
      rintro e w5 ⟨vs, zs, rfl, hzl, hzr, hzs, hvs, hb5⟩
      have HN5 := Lib.hid (names_below HN2.out hb5)
      have hwb5 := hwb.trans (hb5.mono hwb.size)
      have HVS := Lib.hid hvs
      obtain ⟨az, nz, cz, rfl, hnz, hnzc, hczm, hxz⟩ := hvs.open
      have hnzW : Hid (nz = W.length) := Lib.hid (by rw [hnz.out, hzl])
      have HZR := Lib.hid hzr
      have HZS := Lib.hid hzs
      clear hvs hzl hzr hzs HN2 hwb
      go_wp2_with fail
      refine (names_len B W _ _ HN5.out).mono ?_
      rintro e w6 ⟨rfl, rfl⟩
      rw [← hnzW.out]
      go_wp2_with fail
      refine (names_len B W _ _ HN5.out).mono ?_
      rintro e w6 ⟨rfl, rfl⟩
      rw [← hnzW.out]
      go_wp2_with fail
      refine (hunl.out _ hb5).mono ?_
      rintro e w6 ⟨⟨vu, rfl, hvu⟩, hb6⟩
      have HN6 := Lib.hid (names_below HN5.out hb6)
      have HVS6 := HVS.out.below hb6
      obtain ⟨au, nu, cu, rfl, hnu, _, _, _⟩ := hvu.open
      obtain rfl : nu = nz := by rw [hnu.out, hnzW.out]
      have hwb6 := hwb5.trans (hb6.mono hwb5.size)
      obtain ⟨az', nz', cz', hvz, hnz', hnzc', hczm', hxz6⟩ := HVS6.open
      cases hvz
      clear hvu hb6 HVS HVS6 hb5 hwb5 HN5 hxz hunl hnz' hnu
      go_wp2_with fail
      go_loop [6] (fun i => ∃ j : Nat, i = .int .i64 ((j : Int) + 1)) (fun i => nu - (intOf i).toNat)
      case atStart => exact ⟨0, rfl⟩
      case round =>
        obtain ⟨j, rfl⟩ := hrel
        by_cases hj : j + 1 < nu
        · obtain ⟨b, o, rfl, c1⟩ := hxz6.out j (by omega)
          obtain ⟨b', o', hbb, c2⟩ := hxz6.out (j + 1) hj
          cases hbb
          have hlz : nu = zs.length := hnz.out
          obtain ⟨p1, p2⟩ := HZR.out j (by omega)
          obtain ⟨q1, q2⟩ := HZR.out (j + 1) (by omega)
          have hless := HZS.out j (by omega)
          have hA1 := names_at B W (zs.getD j 0) w3.heap.size w6 HN6.out
          have hA2 := names_at B W (zs.getD (j + 1) 0) w3.heap.size w6 HN6.out
          rw [show atS W (zs.getD j 0) = W.getD (zs.getD j 0).toNat ByteArray.empty from if_pos ⟨p1, p2⟩, show atB W (zs.getD j 0) = true from decide_eq_true ⟨p1, p2⟩] at hA1
          rw [show atS W (zs.getD (j + 1) 0) = W.getD (zs.getD (j + 1) 0).toNat ByteArray.empty from if_pos ⟨q1, q2⟩, show atB W (zs.getD (j + 1) 0) = true from decide_eq_true ⟨q1, q2⟩] at hA2
          have HA1 := Lib.hid hA1
          have HA2 := Lib.hid hA2
          clear hA1 hA2 p1 p2 q1 q2 hlz
          generalize W.getD (zs.getD j 0).toNat ByteArray.empty = x at HA1 hless
          generalize W.getD (zs.getD (j + 1) 0).toNat ByteArray.empty = y at HA2 hless
          generalize zs.getD j 0 = p at HA1 c1
          generalize zs.getD (j + 1) 0 = q at HA2 c2
          go_wp2_with fail
          refine HA1.out.mono ?_
          rintro e w7 ⟨rfl, rfl⟩
          go_wp2_with fail
          refine HA2.out.mono ?_
          rintro e w7 ⟨rfl, rfl⟩
          go_wp2_with fail
          go_round
          case rel => exact ⟨j + 1, by go_num⟩
          case measure => simp [intOf]; omega
        · go_wp2_with fail
          go_ret
          exact ⟨rfl, hwb6⟩

end Go.Proofs.Ytijnekbhpdcemaa
