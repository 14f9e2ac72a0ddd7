/- The law LexJoins. -/
import Derived.Test.YtmpdpgbcflogfaaDoorLexJoins3
import Derived.Test.YtmpdpgbcflogfaaDoorLexEnds2
import Derived.Deep.RegionHeld3
import Derived.Laws.Closers25
import Derived.Deep.DeepCutAuto
namespace Go.Proofs.YtmpdpgbcflogfaaDoor
open Go.RowKit
set_option linter.unusedVariables false
set_option linter.unusedSimpArgs false

theorem text_300 (s : ByteArray) (w : World) (hs : s.size ≤ maxLen) :
    Calls Tryd.prog 15 #[.string s, .int .i64 300] w fun e w' => e = .returned (.string (cutT s 300)) ∧ w = w' := text_any s 300 w hs (by omega)
theorem within_5 (i : Int) (w : World) (hi : (Lit.int .i64 i).wf = true) :
    Calls Tryd.prog 23 #[.int .i64 i, .int .i64 5] w fun e w' => e = .returned (.int .i64 (i % 5)) ∧ w = w' := within_any i 5 w hi (by omega) (by omega)

theorem tdiv5 (n : Int) (h1 : -9223372036854775808 ≤ n) (h2 : n ≤ 9223372036854775807) : -9223372036854775808 ≤ Int.tdiv n 5 ∧ Int.tdiv n 5 ≤ 9223372036854775807 := by
  by_cases h : 0 ≤ n
  · rw [Int.tdiv_eq_ediv_of_nonneg h]; omega
  · have e : Int.tdiv n 5 = -(Int.tdiv (-n) 5) := by rw [Int.neg_tdiv]; omega
    rw [e, Int.tdiv_eq_ediv_of_nonneg (by omega)]; omega

set_option maxRecDepth 100000 in
set_option maxHeartbeats 20000000 in
theorem lexJoins_in (s0 s : ByteArray) (n : Int) (w : World) (ja jb : Nat) (sA sB : ByteArray) (h1 : s0.size ≤ maxLen) (hcs : cutT s0 300 = s) (hn : (Lit.int .i64 n).wf = true)
    (hja : n % 5 = (ja : Int)) (hjb : (Int.tdiv n 5) % 5 = (jb : Int)) (hA : seps.getD ja ByteArray.empty = sA) (hB' : seps.getD jb ByteArray.empty = sB) (hja5 : ja < 5) (hjb5 : jb < 5) (hE : LexEnv w) (hB : Both) :
    Calls Tryd.prog 10 #[.string s0, .int .i64 n] w fun e w' => e = .returned (.bool true) ∧ Below w.heap.size w w' := by
  have hW := lexWakes_any w hE hB
  have HT1 := Lib.hid (fun W => text_300 s0 W h1)
  have hs3 := cutT_size s0 300
  rw [hcs] at HT1 hs3
  clear hcs h1
  have hnw : -9223372036854775808 ≤ n ∧ n ≤ 9223372036854775807 := by simpa [Lit.wf, IntKind.min, IntKind.max, IntKind.signed, IntKind.bits] using hn
  have hA' : sA ∈ seps := by rw [← hA, List.getD_eq_getElem?_getD, List.getElem?_eq_getElem (show ja < seps.length from hja5)]; exact List.getElem_mem _
  have hBB : sB ∈ seps := by rw [← hB', List.getD_eq_getElem?_getD, List.getElem?_eq_getElem (show jb < seps.length from hjb5)]; exact List.getElem_mem _
  have HN1 := Lib.hid (fun W => within_5 n W hn)
  rw [hja] at HN1
  have htd := tdiv5 n hnw.1 hnw.2
  have HN2 := Lib.hid (fun W => within_5 (Int.tdiv n 5) W (by simp [Lit.wf, IntKind.min, IntKind.max, IntKind.signed, IntKind.bits]; omega))
  rw [hjb] at HN2
  have hw1 : IntKind.i64.wrap (Int.tdiv n 5) = Int.tdiv n 5 := wrap_i64_tdiv n 5 hnw.1 hnw.2 (by decide)
  have hw2 := wrapped_tdiv n 5 hnw.1 hnw.2 (by decide)
  have zA := (seps_head sA hA').2.2
  have zB := (seps_head sB hBB).2.2
  have H1 := Lib.hid (fun W hW => hB.1.out s W (by omega) hW)
  have HL := Lib.hid (fun t W (ht : t.size ≤ 1000000) hW => hB.1.out t W ht hW)
  have herr := wordsS_err s
  have hnil := wordsS_nil s
  have hlaw := law_of s sA sB hs3 hA' hBB
  have HC1 : Hid (∀ (W : World), (W.alloc (.cells #[.string ⟨#[32]⟩, .string ⟨#[10]⟩, .string ⟨#[47, 42, 32, 37, 37, 32, 42, 47]⟩, .string ⟨#[47, 47, 32, 120, 10]⟩, .string ⟨#[9, 13]⟩] 9)).cell? ⟨W.heap.size, ja, none⟩ = some (.string sA) ∧ (W.alloc (.cells #[.string ⟨#[32]⟩, .string ⟨#[10]⟩, .string ⟨#[47, 42, 32, 37, 37, 32, 42, 47]⟩, .string ⟨#[47, 47, 32, 120, 10]⟩, .string ⟨#[9, 13]⟩] 9)).cell? ⟨W.heap.size, jb, none⟩ = some (.string sB)) := Lib.hid (fun W => by
    rw [cell_top W _ _ _ ja rfl, cell_top W _ _ _ jb rfl, ← hA, ← hB']
    constructor
    · match ja, hja5 with
      | 0, _ => rfl
      | 1, _ => rfl
      | 2, _ => rfl
      | 3, _ => rfl
      | 4, _ => rfl
    · match jb, hjb5 with
      | 0, _ => rfl
      | 1, _ => rfl
      | 2, _ => rfl
      | 3, _ => rfl
      | 4, _ => rfl)
  clear hB hA hB' hA' hBB hja hjb hn
  unfold LWordsTells at H1 HL
  rw [show ByteArray.empty = ⟨#[]⟩ from rfl] at H1 HL
  generalize wordsS s = R1 at *
  obtain ⟨L, E, A1⟩ := R1
  simp only at H1 herr hnil hlaw
  have HLaw := Lib.hid hlaw
  have HNil := Lib.hid hnil
  clear hlaw hnil
  go_enter Tryd.func10, Tryd.ntmps10
  go_wp2_with fail
  refine hW.mono ?_
  rintro e w1 ⟨rfl, hb⟩
  go_wp2_with fail
  refine (HT1.out _).mono ?_
  rintro e w2 ⟨rfl, rfl⟩
  go_wp2_with fail
  refine (H1.out _ (hE.below hb)).mono ?_
  rintro e w2 ⟨⟨v1, rfl, ho1⟩, hb1⟩
  replace hb := hb.trans (hb1.mono hb.size)
  have hx1 := heap_alloc_new w2 (.cells #[.int .i64 E, .int .i64 A1, .string ⟨#[]⟩] 49)
  have hv1 := (WdsV.of_owns ho1).below ((Below.refl w2.heap.size w2).alloc (Nat.le_refl _) (.cells #[.int .i64 E, .int .i64 A1, .string ⟨#[]⟩] 49))
  replace hb := hb.alloc hb.size (.cells #[.int .i64 E, .int .i64 A1, .string ⟨#[]⟩] 49)
  clear hb1 ho1
  by_cases hE0 : E = 0
  · obtain ⟨N, hN, hlw⟩ := HLaw.out hE0
    subst hE0
    have HW := Lib.hid hlw
    have dN0 : ((N : Int) + 1 == 0) = false := by simp; omega
    clear herr HLaw HNil hx1
    have hcc := HC1.out (w2.alloc (.cells #[.int .i64 0, .int .i64 A1, .string ⟨#[]⟩] 49))
    rw [show (w2.alloc (.cells #[.int .i64 0, .int .i64 A1, .string ⟨#[]⟩] 49)).heap.size = w2.heap.size + 1 by simp] at hcc
    obtain ⟨kA, kB⟩ := hcc
    have hb2 := hb.alloc hb.size (.cells #[.string ⟨#[32]⟩, .string ⟨#[10]⟩, .string ⟨#[47, 42, 32, 37, 37, 32, 42, 47]⟩, .string ⟨#[47, 47, 32, 120, 10]⟩, .string ⟨#[9, 13]⟩] 9)
    have hu := (Below.refl _ (w2.alloc (.cells #[.int .i64 0, .int .i64 A1, .string ⟨#[]⟩] 49))).alloc (Nat.le_refl _) (.cells #[.string ⟨#[32]⟩, .string ⟨#[10]⟩, .string ⟨#[47, 42, 32, 37, 37, 32, 42, 47]⟩, .string ⟨#[47, 47, 32, 120, 10]⟩, .string ⟨#[9, 13]⟩] 9)
    obtain ⟨a1, n1, cc1, rfl, hn1, hnc1, hc1, hxx⟩ := (hv1.below hu).open
    obtain rfl : n1 = N + 1 := hn1.out.trans hlw.len
    clear hlw hn1 hv1
    go_wp2_with fail
    generalize (w2.alloc (.cells #[.int .i64 0, .int .i64 A1, .string ⟨#[]⟩] 49)).alloc (.cells #[.string ⟨#[32]⟩, .string ⟨#[10]⟩, .string ⟨#[47, 42, 32, 37, 37, 32, 42, 47]⟩, .string ⟨#[47, 47, 32, 120, 10]⟩, .string ⟨#[9, 13]⟩] 9) = w3 at *
    have hlA := World.block_lt_of_cell? _ _ kA
    go_loopw [8, 9] (fun x y wr => ∃ j : Nat, j ≤ N ∧ x = .string (TJ sA sB L j) ∧ y = .int .i64 j ∧ Below w3.heap.size w3 wr) (fun _ y _ => N + 1 - (intOf y).toNat)
    case atStart => exact ⟨0, by omega, rfl, rfl, Below.refl _ _⟩
    case round =>
      obtain ⟨j, hj, rfl, rfl, hbr⟩ := hrel
      by_cases hlt : j < N
      · obtain ⟨T2, hT2, hT2e, hT2z, hTz⟩ := HW.out.next j hlt
        obtain ⟨hr, hp0, hp1, hp2⟩ := HW.out.word j hlt
        obtain ⟨b, o, rfl, x0, x1, x2⟩ := hxx.out j (by omega)
        obtain ⟨b', o', hbb, y0, y1, y2⟩ := hxx.out (j + 1) (by omega)
        cases hbb
        have hlx := World.block_lt_of_cell? _ _ x0
        replace x0 := (hbr.cell hlx).trans x0
        replace x1 := (hbr.cell (p := ⟨b, o + j * 3 + 1, none⟩) hlx).trans x1
        replace x2 := (hbr.cell (p := ⟨b, o + j * 3 + 2, none⟩) hlx).trans x2
        replace y0 := (hbr.cell (p := ⟨b, o + (j + 1) * 3, none⟩) hlx).trans y0
        replace y1 := (hbr.cell (p := ⟨b, o + (j + 1) * 3 + 1, none⟩) hlx).trans y1
        replace y2 := (hbr.cell (p := ⟨b, o + (j + 1) * 3 + 2, none⟩) hlx).trans y2
        have kA2 := (hbr.cell (p := ⟨w2.heap.size + 1, ja, none⟩) hlA).trans kA
        have kB2 := (hbr.cell (p := ⟨w2.heap.size + 1, jb, none⟩) hlA).trans kB
        have hwj := HW.out.word (j + 1)
        have hlast := HW.out.last
        have hlz : b < wr.heap.size := Nat.lt_of_lt_of_le hlx hbr.size
        have hlC : w2.heap.size + 1 < wr.heap.size := Nat.lt_of_lt_of_le hlA hbr.size
        have HX := Lib.hid (fun W => wordText_any (L.getD j noWd).kind (L.getD j noWd).place (L.getD j noWd).text W hr.2.1 (by have := hr.2.2; omega))
        have hts := txtOf_size (L.getD j noWd) s.size hr
        have hpe : (⟨(L.getD j noWd).kind, (L.getD j noWd).text, (L.getD j noWd).place⟩ : Wd) = L.getD j noWd := rfl
        rw [hpe] at HX
        have HT2 := Lib.hid hT2
        have HTe := Lib.hid hT2e
        clear hT2 hT2e hpe
        by_cases hjN : j + 1 < N
        · obtain ⟨hq, hq0, hq1, _⟩ := hwj hjN
          have hpq := hp2 hjN
          have hqk := hq.1
          have dk : ((L.getD (j + 1) noWd).kind != 10) = true := by simpa using hqk
          clear hwj hp2 hq hlast hqk hr hxx
          generalize L.getD (j + 1) noWd = q at *
          obtain ⟨qk, qt, qp⟩ := q
          generalize txtOf (L.getD j noWd) = X at *
          generalize L.getD j noWd = p at *
          obtain ⟨pk, pt, pp⟩ := p
          simp only at x0 x1 x2 y0 y1 y2 hq0 hq1 hpq hp0 hp1 dk HX
          generalize TJ sA sB L j = T at *
          have i1 : (0 : Int) ≤ (ja : Int) := by omega
          have i2 : (ja : Int) < 5 := by omega
          have i3 : (0 : Int) ≤ (jb : Int) := by omega
          have i4 : (jb : Int) < 5 := by omega
          have f1 : T.size + sA.size ≤ 9223372036854775807 := by omega
          have f2 : (T ++ sA).size + X.size ≤ 9223372036854775807 := by rw [ByteArray.size_append]; omega
          have f3 : (T ++ sA ++ X).size + sB.size ≤ 9223372036854775807 := by rw [ByteArray.size_append, ByteArray.size_append]; omega
          have f1n : ¬ 9223372036854775807 < T.size + sA.size := by omega
          have f2n : ¬ 9223372036854775807 < T.size + sA.size + X.size := by omega
          have f3n : ¬ 9223372036854775807 < T.size + sA.size + X.size + sB.size := by omega
          have g1 : ∀ W, (Op.stringOp .add T sA).run Tryd.prog W = .ok (.string (T ++ sA)) W := fun W => run_string_add_sum W _ _ f1
          have g2 : ∀ W, (Op.stringOp .add (T ++ sA) X).run Tryd.prog W = .ok (.string (T ++ sA ++ X)) W := fun W => run_string_add_sum W _ _ f2
          have g3 : ∀ W, (Op.stringOp .add (T ++ sA ++ X) sB).run Tryd.prog W = .ok (.string (T ++ sA ++ X ++ sB)) W := fun W => run_string_add_sum W _ _ f3
          go_wp2_with fail
          go_region_held3 (fun w' => w'.cell? ⟨w2.heap.size + 1, ja, none⟩ = some (.string sA) ∧ w'.cell? ⟨w2.heap.size + 1, jb, none⟩ = some (.string sB) ∧ w'.cell? ⟨b, o + j * 3, none⟩ = some (.int .i64 pk) ∧ w'.cell? ⟨b, o + j * 3 + 1, none⟩ = some (.string pt) ∧ w'.cell? ⟨b, o + j * 3 + 2, none⟩ = some (.int .i64 pp))
            (first | go_keep | exact ⟨e1, e2, e3, e4, e5⟩)
            (first
              | (go_at_call 23; (with_reducible refine (HN1.out _).mono ?_); rintro e w' ⟨rfl, rfl⟩)
              | (go_at_call 23; (with_reducible refine (HN2.out _).mono ?_); rintro e w' ⟨rfl, rfl⟩)
              | (go_at_call 28; refine (HX.out _).mono ?_; rintro e w9 ⟨rfl, hb9⟩; have e1 := (hb9.cell (p := ⟨w2.heap.size + 1, ja, none⟩) hlC).trans kA2; have e2 := (hb9.cell (p := ⟨w2.heap.size + 1, jb, none⟩) hlC).trans kB2; have e3 := (hb9.cell (p := ⟨b, o + j * 3, none⟩) hlz).trans x0; have e4 := (hb9.cell (p := ⟨b, o + j * 3 + 1, none⟩) hlz).trans x1; have e5 := (hb9.cell (p := ⟨b, o + j * 3 + 2, none⟩) hlz).trans x2))
          all_goals
            have hb10 : Below w3.heap.size w3 w9 := hbr.drew.trans (hb9.mono hbr.size)
            go_wp2_with fail
            go_roundw
            case rel => exact ⟨j + 1, by omega, by rw [← HT2.out, HTe.out], by go_num, hb10⟩
            case measure => simp [intOf]; omega
        · have hq10 : (L.getD (j + 1) noWd).kind = 10 := by rw [show j + 1 = N by omega]; exact hlast
          clear hwj hp2 hlast hr hxx hjN
          generalize L.getD (j + 1) noWd = q at *
          obtain ⟨qk, qt, qp⟩ := q
          generalize txtOf (L.getD j noWd) = X at *
          generalize L.getD j noWd = p at *
          obtain ⟨pk, pt, pp⟩ := p
          simp only at x0 x1 x2 y0 y1 y2 hp0 hp1 hq10 HX
          subst hq10
          have hbz := hb2.trans (hbr.mono hb2.size)
          have hql : qt.toList.length = qt.size := by rw [Lib.toList_data]; rfl
          by_cases hq : qt.size = 0
          · have dq : qt.toList = [] := List.eq_nil_of_length_eq_zero (by omega)
            clear hql
            by_cases hqp : qp < (s.size : Int)
            · go_wp2_with fail
              go_ret
              exact ⟨rfl, hbz⟩
            · have dqp : decide (qp < (s.size : Int)) = false := by simpa using hqp
              generalize TJ sA sB L j = T at *
              have i1 : (0 : Int) ≤ (ja : Int) := by omega
              have i2 : (ja : Int) < 5 := by omega
              have i3 : (0 : Int) ≤ (jb : Int) := by omega
              have i4 : (jb : Int) < 5 := by omega
              have f1 : T.size + sA.size ≤ 9223372036854775807 := by omega
              have f2 : (T ++ sA).size + X.size ≤ 9223372036854775807 := by rw [ByteArray.size_append]; omega
              have f3 : (T ++ sA ++ X).size + sB.size ≤ 9223372036854775807 := by rw [ByteArray.size_append, ByteArray.size_append]; omega
              have f1n : ¬ 9223372036854775807 < T.size + sA.size := by omega
              have f2n : ¬ 9223372036854775807 < T.size + sA.size + X.size := by omega
              have f3n : ¬ 9223372036854775807 < T.size + sA.size + X.size + sB.size := by omega
              have g1 : ∀ W, (Op.stringOp .add T sA).run Tryd.prog W = .ok (.string (T ++ sA)) W := fun W => run_string_add_sum W _ _ f1
              have g2 : ∀ W, (Op.stringOp .add (T ++ sA) X).run Tryd.prog W = .ok (.string (T ++ sA ++ X)) W := fun W => run_string_add_sum W _ _ f2
              have g3 : ∀ W, (Op.stringOp .add (T ++ sA ++ X) sB).run Tryd.prog W = .ok (.string (T ++ sA ++ X ++ sB)) W := fun W => run_string_add_sum W _ _ f3
              go_wp2_with fail
              go_region_held3 (fun w' => w'.cell? ⟨w2.heap.size + 1, ja, none⟩ = some (.string sA) ∧ w'.cell? ⟨w2.heap.size + 1, jb, none⟩ = some (.string sB) ∧ w'.cell? ⟨b, o + j * 3, none⟩ = some (.int .i64 pk) ∧ w'.cell? ⟨b, o + j * 3 + 1, none⟩ = some (.string pt) ∧ w'.cell? ⟨b, o + j * 3 + 2, none⟩ = some (.int .i64 pp))
                (first | go_keep | exact ⟨e1, e2, e3, e4, e5⟩)
                (first
                  | (go_at_call 23; (with_reducible refine (HN1.out _).mono ?_); rintro e w' ⟨rfl, rfl⟩)
                  | (go_at_call 23; (with_reducible refine (HN2.out _).mono ?_); rintro e w' ⟨rfl, rfl⟩)
                  | (go_at_call 28; refine (HX.out _).mono ?_; rintro e w9 ⟨rfl, hb9⟩; have e1 := (hb9.cell (p := ⟨w2.heap.size + 1, ja, none⟩) hlC).trans kA2; have e2 := (hb9.cell (p := ⟨w2.heap.size + 1, jb, none⟩) hlC).trans kB2; have e3 := (hb9.cell (p := ⟨b, o + j * 3, none⟩) hlz).trans x0; have e4 := (hb9.cell (p := ⟨b, o + j * 3 + 1, none⟩) hlz).trans x1; have e5 := (hb9.cell (p := ⟨b, o + j * 3 + 2, none⟩) hlz).trans x2))
              all_goals
                have hb10 : Below w3.heap.size w3 w9 := hbr.drew.trans (hb9.mono hbr.size)
                go_wp2_with fail
                go_roundw
                case rel => exact ⟨j + 1, by omega, by rw [← HT2.out, HTe.out], by go_num, hb10⟩
                case measure => simp [intOf]; omega
          · have dq : qt.toList.isEmpty = false := by rw [List.isEmpty_eq_false_iff]; intro h; rw [h] at hql; exact hq (by simpa using hql.symm)
            clear hql
            go_wp2_with fail
            go_ret
            exact ⟨rfl, hbz⟩
      · obtain rfl : N = j := by omega
        have hTN : (TJ sA sB L N).size ≤ 100000 := by
          cases N with
          | zero => exact Nat.zero_le _
          | succ k =>
            obtain ⟨T2, e, _, hz, _⟩ := HW.out.next k (by omega)
            rw [← e]; omega
        have hbk := HW.out.back
        have HTW := Lib.hid (fun W hW => HL.out (TJ sA sB L N) W (by omega) hW)
        generalize TJ sA sB L N = T at *
        generalize wordsS T = R2 at *
        obtain ⟨M, E2, A2⟩ := R2
        simp only at HTW hbk
        have HBK := Lib.hid hbk
        clear hbk hlt hj
        have hbz := hb2.trans (hbr.mono hb2.size)
        go_wp2_with fail
        refine (HTW.out _ (hE.below hbz)).mono ?_
        rintro e w5 ⟨⟨v2, rfl, ho2⟩, hb5⟩
        have hb6 := hbz.trans (hb5.mono hbz.size)
        have hb7 := hb6.alloc hb6.size (.cells #[.int .i64 E2, .int .i64 A2, .string ⟨#[]⟩] 49)
        have hv2 := (WdsV.of_owns ho2).below ((Below.refl w5.heap.size w5).alloc (Nat.le_refl _) (.cells #[.int .i64 E2, .int .i64 A2, .string ⟨#[]⟩] 49))
        have hb8 := hbr.trans (hb5.mono hbr.size)
        have hb9 := hb8.alloc hb8.size (.cells #[.int .i64 E2, .int .i64 A2, .string ⟨#[]⟩] 49)
        obtain ⟨a2, n2, cc2, rfl, hn2, hnc2, hc2, hxy⟩ := hv2.open
        by_cases hT4 : T.size ≤ 4000
        · obtain ⟨r1, r2, r3⟩ := HBK.out hT4
          subst r1
          obtain rfl : n2 = N + 1 := hn2.out.trans r2
          have HR3 := Lib.hid r3
          clear r2 r3 hn2 hv2 ho2 HBK hb6 hb8
          go_wp2_with fail
          generalize w5.alloc (.cells #[.int .i64 0, .int .i64 A2, .string ⟨#[]⟩] 49) = w6 at *
          go_loopw [13] (fun x wr => ∃ k : Nat, k ≤ N ∧ x = .int .i64 k ∧ Below w6.heap.size w6 wr) (fun x _ => N + 1 - (intOf x).toNat)
          case atStart => exact ⟨0, by omega, rfl, Below.refl _ _⟩
          case round =>
            obtain ⟨k, hk, rfl, hbq⟩ := hrel
            by_cases hkl : k < N
            · obtain ⟨b1, o1, rfl, p0, p1, p2⟩ := hxx.out k (by omega)
              obtain ⟨b2, o2, rfl, q0, q1, q2⟩ := hxy.out k (by omega)
              obtain ⟨s1, s2⟩ := HR3.out k hkl
              have hl1 := World.block_lt_of_cell? _ _ p0
              have hl2 := World.block_lt_of_cell? _ _ q0
              have hl1' : b1 < w6.heap.size := Nat.lt_of_lt_of_le hl1 hb9.size
              replace p0 := (hbq.cell (p := ⟨b1, o1 + k * 3, none⟩) hl1').trans ((hb9.cell hl1).trans p0)
              replace p1 := (hbq.cell (p := ⟨b1, o1 + k * 3 + 1, none⟩) hl1').trans ((hb9.cell (p := ⟨b1, o1 + k * 3 + 1, none⟩) hl1).trans p1)
              replace q0 := (hbq.cell (p := ⟨b2, o2 + k * 3, none⟩) hl2).trans q0
              replace q1 := (hbq.cell (p := ⟨b2, o2 + k * 3 + 1, none⟩) hl2).trans q1
              rw [s1] at q0
              rw [s2] at q1
              generalize L.getD k noWd = p at *
              obtain ⟨pk, pt, pp⟩ := p
              simp only at p0 p1 q0 q1
              clear p2 q2 s1 s2
              go_wp2_with fail
              go_quiet (fail)
              have hb10 : Below w6.heap.size w6 (wr.drewN nq) := ⟨hbq.os, hbq.tape, hbq.output, hbq.size, hbq.block⟩
              clear p0 p1 q0 q1 hbq
              generalize wr.drewN nq = W7 at hb10 ⊢
              go_wp2_with fail
              go_roundw
              case rel => exact ⟨k + 1, by omega, by go_num, hb10⟩
              case measure => simp [intOf]; omega
            · obtain rfl : N = k := by omega
              have hbe := hb7.trans (hbq.mono hb7.size)
              go_wp2_with fail
              go_ret
              exact ⟨rfl, hbe⟩
        · have dT : decide ((4000 : Int) < (T.size : Int)) = true := by simp; omega
          clear HBK hxy hn2 hv2 ho2
          go_wp2_with fail
          go_ret
          exact ⟨rfl, hb7⟩
  · have hLn := HNil.out hE0
    obtain ⟨a1, n1, cc1, rfl, hn1, hnc1, hc1, hxx⟩ := hv1.open
    obtain rfl : n1 = 0 := by rw [hn1.out, hLn]; rfl
    have dE : (E != 0) = true := by simpa using hE0
    clear hn1 hv1 hxx HLaw HNil herr hE0
    go_wp2_with fail
    go_ret
    exact ⟨rfl, hb⟩

end Go.Proofs.YtmpdpgbcflogfaaDoor
