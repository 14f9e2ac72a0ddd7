/- What the document fixes of actions' texts. -/
import Derived.Test.YtmpdpgbcflogfaaDoorJoin2
namespace Go.Proofs.YtmpdpgbcflogfaaDoor
open Go.RowKit
set_option linter.unusedVariables false

def s1 : ByteArray := ⟨#[123, 36, 36, 61, 36, 49, 125]⟩
theorem k1 : (cutS s1).2 = 0 := by decide +kernel
theorem k2 : (cutS s1).1.length = 5 := by decide +kernel
theorem k3 : ((cutS s1).1.getD 1 noPc).kind = 2 := by decide +kernel
theorem k4 : ((cutS s1).1.getD 3 noPc).num = 1 := by decide +kernel
theorem k5 : (joinS (cutS s1).1).1 = s1 := by decide +kernel
theorem k6 : (joinS (cutS s1).1).2 = 0 := by decide +kernel
theorem k7 : ((cutS s1).1.all fun p => decide (p.text.size ≤ 1000000) && decide (p.tag.size ≤ 1000000)) = true := by decide +kernel
theorem k8 : (cutS ⟨#[120]⟩).2 = 1 := by decide +kernel
theorem k9 : endS ⟨#[97, 123, 98, 125]⟩ 1 = 4 := by decide +kernel
theorem k10 : endS ⟨#[123]⟩ 0 = -1 := by decide +kernel

theorem CutTells.pcs {s : ByteArray} {w w' : World} {e : Ending} (h : CutTells s w e w') : ∃ v, e = .returned (.tuple #[v, .int .i64 (cutS s).2]) ∧ PcsV w' v (cutS s).1 ∧ Below w.heap.size w w' := by
  obtain ⟨v, h1, h2, h3⟩ := h
  exact ⟨v, h1, PcsV.of_owns h2, h3⟩

theorem small_of {L : List Pc} (h1 : L.length ≤ 1000) (h : (L.all fun p => decide (p.text.size ≤ 1000000) && decide (p.tag.size ≤ 1000000)) = true) : Small L := by
  refine ⟨h1, fun p hp => ?_⟩
  rw [List.all_eq_true] at h
  have := h p hp
  simpa using this

set_option maxRecDepth 100000 in
theorem bodyWakes_any (w : World) (hE : Env w) : Calls Tryd.prog 14 #[] w fun e w' => e = .returned (.bool true) ∧ Below w.heap.size w w' := by
  have HE := Lib.hid hE
  clear hE
  have t1 : s1.toList = [123, 36, 36, 61, 36, 49, 125] := by rw [Lib.toList_data]; rfl
  go_enter Tryd.func14, Tryd.ntmps14
  go_wp2_with fail
  refine (cut_any s1 _ HE.out.max (by decide)).mono ?_
  intro e w1 h1
  obtain ⟨v, rfl, hv, hb1⟩ := h1.pcs
  rw [k1]
  clear h1
  have HV := Lib.hid hv
  obtain ⟨a, n, c, rfl, hn, hnc, hc, hx⟩ := hv.open
  obtain rfl : n = 5 := hn.out.trans k2
  clear hv hn
  go_wp2_with fail
  refine (join_any _ _ _ HV.out (HE.out.below hb1) (small_of (by rw [k2]; omega) k7)).mono ?_
  rintro e w2 ⟨rfl, hb2⟩
  rw [k5, k6]
  have hb3 := hb1.trans (hb2.mono hb1.size)
  obtain ⟨b, o, rfl, c0, _⟩ := hx.out 1 (by omega)
  obtain ⟨b', o', hbb, _, _, c2, _⟩ := hx.out 3 (by omega)
  cases hbb
  rw [k3] at c0
  rw [k4] at c2
  have hbl := World.block_lt_of_cell? _ _ c0
  go_wp2_with fail
  refine (cut_any ⟨#[120]⟩ _ (HE.out.below hb3).max (by decide)).mono ?_
  rintro e w3 ⟨v2, rfl, _, hb4⟩
  rw [k8]
  have hb5 := hb3.trans (hb4.mono hb3.size)
  have e0 := ((hb2.trans (hb4.mono hb2.size)).cell (p := ⟨b, o + 1 * 4, none⟩) hbl).trans c0
  have e2 := ((hb2.trans (hb4.mono hb2.size)).cell (p := ⟨b, o + 3 * 4 + 2, none⟩) hbl).trans c2
  simp at e0 e2
  clear hb1 hb2 hb3 hb4 c0 c2 hx
  go_wp2_with fail
  refine (end_any ⟨#[97, 123, 98, 125]⟩ 1 _ (HE.out.below hb5).max (by decide)).mono ?_
  rintro e w4 ⟨rfl, hb6⟩
  rw [k9]
  have hb7 := hb5.trans (hb6.mono hb5.size)
  go_wp2_with fail
  refine (end_any ⟨#[123]⟩ 0 _ (HE.out.below hb7).max (by decide)).mono ?_
  rintro e w5 ⟨rfl, hb8⟩
  rw [k10]
  have hb9 := hb7.trans (hb8.mono hb7.size)
  go_wp2_with fail
  go_ret
  exact ⟨rfl, hb9⟩

/-- a text, cut -/
def cutT (s : ByteArray) (m : Nat) : ByteArray := if m < s.size then s.extract 0 m else s
theorem cutT_size (s : ByteArray) (m : Nat) : (cutT s m).size ≤ m := by
  unfold cutT; split
  · simp; omega
  · omega

theorem text_any (s : ByteArray) (m : Nat) (w : World) (hs : s.size ≤ maxLen) (hm : m ≤ 1000000) :
    Calls Tryd.prog 15 #[.string s, .int .i64 m] w fun e w' => e = .returned (.string (cutT s m)) ∧ w = w' := by
  unfold maxLen at hs
  by_cases h : m < s.size
  · have hc := Lib.hid (show cutT s m = s.extract 0 m from if_pos h)
    have hm' : m ≤ s.size := Nat.le_of_lt h
    have d1 : decide ((m : Int) < (s.size : Int)) = true := by simp; omega
    go_enter Tryd.func15, Tryd.ntmps15
    go_wp2
    go_ret
    exact ⟨ret_str hc.out.symm, rfl⟩
  · have hc := Lib.hid (show cutT s m = s from if_neg h)
    have d1 : decide ((m : Int) < (s.size : Int)) = false := by simp; omega
    go_enter Tryd.func15, Tryd.ntmps15
    go_wp2
    go_ret
    exact ⟨ret_str hc.out.symm, rfl⟩

def inBraces (s : ByteArray) : ByteArray := ⟨#[123]⟩ ++ s ++ ⟨#[125]⟩
theorem inBraces_size (s : ByteArray) : (inBraces s).size = s.size + 2 := by
  unfold inBraces
  rw [ByteArray.size_append, ByteArray.size_append]
  show 1 + s.size + 1 = _; omega

set_option maxRecDepth 100000 in
theorem bodyEnds_walk (s : ByteArray) (i : Int) (w : World) (hs : s.size ≤ maxLen) (hE : Env w) :
    Calls Tryd.prog 3 #[.string s, .int .i64 i] w fun e w' => e = .returned (.bool true) ∧ Below w.heap.size w w' := by
  have HE := Lib.hid hE
  have HS := Lib.hid hs
  clear hE hs
  go_enter Tryd.func3, Tryd.ntmps3
  go_wp2_with fail
  refine (bodyWakes_any _ HE.out).mono ?_
  rintro e w1 ⟨rfl, hb1⟩
  go_wp2_with fail
  refine (text_any s 120 _ HS.out (by omega)).mono ?_
  rintro e w2 ⟨rfl, rfl⟩
  have ht := cutT_size s 120
  generalize cutT s 120 = t at ht ⊢
  go_wp2_with fail
  go_loopw [5] (fun x wr => ∃ j : Int, -1 ≤ j ∧ j ≤ t.size + 1 ∧ x = .int .i64 j ∧ Below w.heap.size w wr) (fun x _ => (t.size + 1 - intOf x).toNat)
  case atStart => exact ⟨-1, by omega, by omega, rfl, hb1⟩
  case round =>
    obtain ⟨j, hj1, hj2, rfl, hb⟩ := hrel
    by_cases hlt : j ≤ t.size
    · go_wp2_with fail
      refine (end_any t j _ (HE.out.below hb).max (by omega)).mono ?_
      rintro e w3 ⟨rfl, hb3⟩
      have hb4 := hb.trans (hb3.mono hb.size)
      go_wp2_with fail
      refine (rend_any t j _ (by omega)).mono ?_
      rintro e w4 ⟨rfl, hb5⟩
      have hb6 := hb4.trans (hb5.mono hb4.size)
      generalize endS t j = r
      go_wp2_with fail
      go_roundw
      case rel => exact ⟨j + 1, by omega, by omega, rfl, hb6⟩
      case measure => simp [intOf]; omega
    · have hz := inBraces_size t
      go_wp2_with fail
      refine (end_any t i _ (HE.out.below hb).max (by omega)).mono ?_
      rintro e w3 ⟨rfl, hb3⟩
      have hb4 := hb.trans (hb3.mono hb.size)
      go_wp2_with fail
      refine (rend_any t i _ (by omega)).mono ?_
      rintro e w4 ⟨rfl, hb5⟩
      have hb6 := hb4.trans (hb5.mono hb4.size)
      generalize endS t i = r
      clear hb hb3 hb4 hb5
      go_wp2_with fail
      refine (end_any (inBraces t) 0 _ (HE.out.below hb6).max (by omega)).mono ?_
      rintro e w5 ⟨rfl, hb7⟩
      have hb8 := hb6.trans (hb7.mono hb6.size)
      go_wp2_with fail
      refine (rend_any (inBraces t) 0 _ (by omega)).mono ?_
      rintro e w6 ⟨rfl, hb9⟩
      have hb10 := hb8.trans (hb9.mono hb8.size)
      generalize endS (inBraces t) 0 = r'
      go_wp2_with fail
      go_ret
      exact ⟨rfl, hb10⟩

end Go.Proofs.YtmpdpgbcflogfaaDoor
