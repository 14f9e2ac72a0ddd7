/- The law LexEnds. -/
import Derived.Test.YtmpdpgbcflogfaaDoorLexEnds
import Derived.Test.YtmpdpgbcflogfaaDoorLexLong2
namespace Go.Proofs.YtmpdpgbcflogfaaDoor
open Go.RowKit
set_option linter.unusedVariables false
set_option linter.unusedSimpArgs false

theorem text_100 (s : ByteArray) (w : World) (hs : s.size ≤ maxLen) :
    Calls Tryd.prog 15 #[.string s, .int .i64 100] w fun e w' => e = .returned (.string (cutT s 100)) ∧ w = w' := text_any s 100 w hs (by omega)
theorem text_60 (s : ByteArray) (w : World) (hs : s.size ≤ maxLen) :
    Calls Tryd.prog 15 #[.string s, .int .i64 60] w fun e w' => e = .returned (.string (cutT s 60)) ∧ w = w' := text_any s 60 w hs (by omega)

theorem gAt_app (a b : ByteArray) (j : Nat) : gAt (a ++ b) j = if j < a.size then gAt a j else gAt b (j - a.size) := by
  have ha : a.data.toList.length = a.size := rfl
  unfold gAt
  rw [ByteArray.data_append, Array.toList_append, List.getD_eq_getElem?_getD]
  by_cases h : j < a.size
  · rw [if_pos h, List.getElem?_append_left (by omega), List.getD_eq_getElem?_getD]
  · rw [if_neg h, List.getElem?_append_right (by omega), List.getD_eq_getElem?_getD, ha]
theorem ext_app (a b : ByteArray) : (a ++ b).extract a.size (a ++ b).size = b := by
  apply ByteArray.ext
  apply Array.toList_inj.1
  rw [drop_data, ByteArray.data_append, Array.toList_append]
  have ha : a.data.toList.length = a.size := rfl
  rw [← ha, List.drop_left]

def marksT : ByteArray := ⟨#[10, 37, 37, 10, 37, 37]⟩
theorem marks_of (A tl : ByteArray) : Marks A (A ++ marksT ++ tl) ∧ (A ++ marksT ++ tl).extract (A.size + 6) (A ++ marksT ++ tl).size = tl := by
  have hm : marksT.size = 6 := rfl
  have hs : (A ++ marksT).size = A.size + 6 := by rw [ByteArray.size_append, hm]
  have hT : (A ++ marksT ++ tl).size = A.size + 6 + tl.size := by rw [ByteArray.size_append, hs]
  have hg : ∀ j, j < 6 → gAt (A ++ marksT ++ tl) (A.size + j) = gAt marksT j := fun j hj => by
    rw [gAt_app, if_pos (by omega), gAt_app, if_neg (by omega), show A.size + j - A.size = j by omega]
  refine ⟨⟨⟨by omega, fun j hj => by rw [gAt_app, if_pos (by omega), gAt_app, if_pos hj], ?_⟩, by omega, ?_, ?_, ?_, ?_, ?_⟩, ?_⟩
  · have := hg 0 (by omega); rw [Nat.add_zero] at this; rw [this]; decide
  · rw [hg 1 (by omega)]; decide
  · rw [hg 2 (by omega)]; decide
  · rw [hg 3 (by omega)]; decide
  · rw [hg 4 (by omega)]; decide
  · rw [hg 5 (by omega)]; decide
  · have := ext_app (A ++ marksT) tl
    rw [hs] at this
    exact this

theorem ends_words (A tl : ByteArray) (hA : A.size ≤ 60) (ht : tl.size ≤ 100) (h0 : (wordsS A).2.1 = 0) (h7 : ∀ j, j < (wordsS A).1.length → ((wordsS A).1.getD j noWd).kind ≠ 7) :
    (wordsS (A ++ marksT ++ tl)).2.1 = 0 ∧ (wordsS (A ++ marksT ++ tl)).1.length = (wordsS A).1.length + 1 ∧ (wordsS (A ++ marksT ++ tl)).1.getD (wordsS A).1.length noWd = ⟨10, tl, (A.size : Int) + 6⟩ := by
  obtain ⟨hM, hx⟩ := marks_of A tl
  have hs : (A ++ marksT ++ tl).size ≤ 166 := by rw [ByteArray.size_append, ByteArray.size_append]; have : marksT.size = 6 := rfl; omega
  have h7' : ∀ w ∈ (wordsS A).1, w.kind ≠ 7 := fun w hw => by
    obtain ⟨j, hj, e⟩ := List.getElem_of_mem hw
    have := h7 j hj
    rw [List.getD_eq_getElem?_getD, List.getElem?_eq_getElem hj, Option.getD_some, e] at this
    exact this
  have eA : wordsS A = wordsF A 0 0 [] := by unfold wordsS; rw [if_neg (by omega)]
  have eT : wordsS (A ++ marksT ++ tl) = wordsF (A ++ marksT ++ tl) 0 0 [] := by unfold wordsS; rw [if_neg (by omega)]
  rw [eA] at h0 h7' ⊢
  rw [eT]
  obtain ⟨W, hW1, hW2⟩ := words_marks hM _ 0 [] rfl (by omega) h0 h7'
  rw [hW2, hW1, hx]
  refine ⟨rfl, by simp, ?_⟩
  simp only [List.length_append, List.length_cons, List.length_nil]
  rw [List.getD_eq_getElem?_getD, List.getElem?_append_right (by simp)]
  simp
theorem short_err (A : ByteArray) (hA : A.size ≤ 60) : (wordsS A).2.1 = 0 ∨ (wordsS A).2.1 = 2 := by
  unfold wordsS
  rw [if_neg (by omega)]
  exact wordsF_err A _ 0 0 [] rfl

set_option maxRecDepth 100000 in
set_option maxHeartbeats 4000000 in
theorem lexEnds_walk (tl0 A0 : ByteArray) (w : World) (h1 : tl0.size ≤ maxLen) (h2 : A0.size ≤ maxLen) (hE : LexEnv w) (hB : Both) :
    Calls Tryd.prog 11 #[.string tl0, .string A0] w fun e w' => e = .returned (.bool true) ∧ Below w.heap.size w w' := by
  have hW := lexWakes_any w hE hB
  have HT1 := Lib.hid (fun W => text_100 tl0 W h1)
  have HT2 := Lib.hid (fun W => text_60 A0 W h2)
  have z1 := cutT_size tl0 100
  have z2 := cutT_size A0 60
  generalize cutT tl0 100 = tl at *
  generalize cutT A0 60 = A at *
  have hew := ends_words A tl z2 z1
  have herr := short_err A z2
  have hln := wordsS_len A
  have hm : marksT.size = 6 := rfl
  have H1 := Lib.hid (fun W hW => hB.1.out A W (by omega) hW)
  have H2 := Lib.hid (fun W hW => hB.1.out (A ++ marksT ++ tl) W (by rw [ByteArray.size_append, ByteArray.size_append]; omega) hW)
  clear hB
  unfold LWordsTells at H1 H2
  rw [show ByteArray.empty = ⟨#[]⟩ from rfl] at H1 H2
  generalize wordsS (A ++ marksT ++ tl) = R2 at *
  generalize wordsS A = R1 at *
  obtain ⟨L1, E1, A1⟩ := R1
  obtain ⟨L2, E2, A2⟩ := R2
  simp only at H1 H2 hew herr hln
  have HEW := Lib.hid hew
  have HER := Lib.hid herr
  clear hew herr
  unfold marksT at H2 hm
  go_enter Tryd.func11, Tryd.ntmps11
  go_wp2_with fail
  refine hW.mono ?_
  rintro e w1 ⟨rfl, hb⟩
  go_wp2_with fail
  refine (HT1.out _).mono ?_
  rintro e w2 ⟨rfl, rfl⟩
  go_wp2_with fail
  refine (HT2.out _).mono ?_
  rintro e w2 ⟨rfl, rfl⟩
  go_wp2_with fail
  refine (H1.out _ (hE.below hb)).mono ?_
  rintro e w2 ⟨⟨v1, rfl, ho1⟩, hb1⟩
  replace hb := hb.trans (hb1.mono hb.size)
  have hv1 := (WdsV.of_owns ho1).below ((Below.refl w2.heap.size w2).alloc (Nat.le_refl _) (.cells #[.int .i64 E1, .int .i64 A1, .string ⟨#[]⟩] 49))
  have hx1 := heap_alloc_new w2 (.cells #[.int .i64 E1, .int .i64 A1, .string ⟨#[]⟩] 49)
  replace hb := hb.alloc hb.size (.cells #[.int .i64 E1, .int .i64 A1, .string ⟨#[]⟩] 49)
  clear hb1 ho1
  obtain ⟨a1, n1, cc1, rfl, hn1, hnc1, hc1, hxx⟩ := hv1.open
  have hn1b : n1 ≤ 100000 := by rw [hn1.out]; exact hln
  go_wp2_with fail
  generalize w2.alloc (.cells #[.int .i64 E1, .int .i64 A1, .string ⟨#[]⟩] 49) = w3 at *
  go_loop [7] (fun x => ∃ j : Nat, j ≤ n1 ∧ x = .int .i64 j ∧ Hid (∀ j', j' < j → (L1.getD j' noWd).kind ≠ 7)) (fun x => n1 + 1 - (intOf x).toNat)
  case atStart => exact ⟨0, by omega, rfl, Lib.hid (fun j' hj' => absurd hj' (Nat.not_lt_zero _))⟩
  case round =>
    obtain ⟨j, hj, rfl, HJ⟩ := hrel
    by_cases hlt : j < n1
    · obtain ⟨b, o, rfl, x0, _, _⟩ := hxx.out j hlt
      by_cases h7 : (L1.getD j noWd).kind = 7
      · rw [h7] at x0
        go_wp2_with fail
        go_ret
        exact ⟨rfl, hb⟩
      · have d7 : ((L1.getD j noWd).kind == 7) = false := by simpa using h7
        have HJ2 : Hid (∀ j', j' < j + 1 → (L1.getD j' noWd).kind ≠ 7) := Lib.hid (fun j' hj' => by
          by_cases h : j' = j
          · subst h; exact h7
          · exact HJ.out j' (by omega))
        clear HJ h7
        generalize L1.getD j noWd = p at *
        go_wp2_with fail
        go_round
        case rel => exact ⟨j + 1, by omega, by go_num, HJ2⟩
        case measure => simp [intOf]; omega
    · obtain rfl : n1 = j := by omega
      go_wp2_with fail
      refine (H2.out _ (hE.below hb)).mono ?_
      rintro e w4 ⟨⟨v2, rfl, ho2⟩, hb1⟩
      replace hb := hb.trans (hb1.mono hb.size)
      have hy1 := block_below hx1 hb1 (lt_of_block hx1)
      obtain ⟨c0, c1, _⟩ := fl_facts3 hy1
      have l1 := lt_of_block hy1
      have hv2 := WdsV.of_owns ho2
      obtain ⟨a2, n2, cc2, rfl, hn2, hnc2, hc2, hxy⟩ := hv2.open
      have hbz := hb.alloc hb.size (.cells #[.int .i64 E2, .int .i64 A2, .string ⟨#[]⟩] 49)
      rcases HER.out with rfl | rfl
      · obtain ⟨r1, r2, r3⟩ := HEW.out rfl (fun j' hj' => HJ.out j' (by rw [hn1.out]; exact hj'))
        subst r1
        obtain rfl : n2 = n1 + 1 := by rw [hn2.out, r2, hn1.out]
        obtain ⟨b, o, rfl, x0, x1, x2⟩ := hxy.out n1 (by omega)
        have hbl : b < w4.heap.size := World.block_lt_of_cell? _ _ x0
        rw [hn1.out, r3] at x0 x1 x2
        rw [← hn1.out] at x0 x1 x2
        simp only at x0 x1 x2
        clear HEW HER HJ hv2 hn2 hxy hxx hn1 hv1 ho2 hb1 hx1 hy1 r2 r3
        go_wp2_with fail
        go_ret
        exact ⟨rfl, hbz⟩
      · clear HEW HER HJ hv2 hn2 hxy hxx hn1 hv1 ho2 hb1 hx1 hy1
        by_cases q1 : E2 = 2
        · subst q1
          by_cases q2 : A2 = A1
          · subst q2
            go_wp2_with fail
            go_ret
            exact ⟨rfl, hbz⟩
          · have dq : (A2 == A1) = false := by simpa using q2
            go_wp2_with fail
            go_ret
            exact ⟨rfl, hbz⟩
        · have dq : (E2 == 2) = false := by simpa using q1
          go_wp2_with fail
          go_ret
          exact ⟨rfl, hbz⟩

end Go.Proofs.YtmpdpgbcflogfaaDoor
