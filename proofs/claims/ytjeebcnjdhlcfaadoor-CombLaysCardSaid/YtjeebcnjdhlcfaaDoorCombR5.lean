/- The document's Lay. -/
import Derived.Test.YtjeebcnjdhlcfaaDoorCombR4
import Derived.BigRegion
import Derived.BigQuiet
namespace Go.Proofs.YtjeebcnjdhlcfaaDoor
open Go.RowKit
set_option linter.unusedVariables false
set_option linter.unusedSimpArgs false

set_option maxRecDepth 100000 in
set_option maxHeartbeats 16000000 in
theorem refLay_any (v : Value) (rows : List (List Pr)) (w : World) (h : PRowsV w v rows) (hl : (orderS rows).length ≤ 20) (hb9 : ∀ i, (rowAt rows i).length ≤ 1000000) :
    Calls Tryd.prog 14 #[v] w (CombTells (layS rows) w) := by
  have HM := Lib.hid (fun (W : World) (hW : Below w.heap.size w W) => refMay_any v rows W (PRowsV.below h hW) hb9)
  have hb1 := (Below.refl w.heap.size w).alloc (Nat.le_refl _) (.cells #[.slice none 0 0, .slice none 0 0, .slice none 0 0] 30)
  cases hm : mayS rows with
  | false =>
    rw [hm] at HM
    have HL : Hid (layS rows = ([], [], [])) := Lib.hid (by unfold layS; rw [hm]; rfl)
    clear h hm
    go_enter Tryd.func14, Tryd.ntmps14
    go_wp2_with fail
    refine (HM.out _ hb1).mono ?_
    rintro e w9 ⟨rfl, hb9'⟩
    have hh0 := block_below (heap_alloc_new w _) hb9' (by simp)
    have hb := hb1.trans (hb9'.mono (by simp))
    clear hb1 hb9' HM
    have hc0 : w9.cell? ⟨w.heap.size, 0, none⟩ = some (.slice none 0 0) := cell_of_row _ _ _ _ _ _ hh0
    have hc1 : w9.cell? ⟨w.heap.size, 1, none⟩ = some (.slice none 0 0) := cell_of_row _ _ _ _ _ _ hh0
    have hc2 : w9.cell? ⟨w.heap.size, 2, none⟩ = some (.slice none 0 0) := cell_of_row _ _ _ _ _ _ hh0
    have hf0 : w9.frozen? ⟨w.heap.size, 0, none⟩ = false := free_of_block hh0
    have hf1 : w9.frozen? ⟨w.heap.size, 1, none⟩ = false := free_of_block hh0
    have hf2 : w9.frozen? ⟨w.heap.size, 2, none⟩ = false := free_of_block hh0
    go_wp2_with fail
    refine bodyPost_ret (v := .agg #[.slice none 0 0, .slice none 0 0, .slice none 0 0]) (by simp [results, Tryd.results14, go_sem, hc0, hc1, hc2]) rfl ⟨⟨_, _, _, rfl, ?_, ?_, ?_⟩, ((hb.setCell (p := ⟨w.heap.size, 0, none⟩) (Nat.le_refl _) _).setCell (p := ⟨w.heap.size, 1, none⟩) (Nat.le_refl _) _).setCell (p := ⟨w.heap.size, 2, none⟩) (Nat.le_refl _) _⟩
    all_goals (rw [HL.out]; exact IntsV.nil _)
  | true =>
    have hr4 : rows.length ≤ 400 := by
      unfold mayS at hm
      rw [Bool.and_eq_true, decide_eq_true_eq] at hm
      exact hm.1
    rw [hm] at HM
    have hmk := fun (W : World) => run_make_row' (P := Tryd.prog) 28 3 (.int .i64 0) 8 Tryd.underlying28 Tryd.infoInt rfl .i64 .i64 rows.length (by omega) (by omega) W
    have hmb := fun (W : World) => run_make_row' (P := Tryd.prog) 52 4 (.bool false) 1 Tryd.underlying52 Tryd.infoBool rfl .i64 .i64 rows.length (by omega) (by omega) W
    have HK := Lib.hid (And.intro hmk hmb)
    obtain ⟨i0, hi0, hz0, hz1, hz2⟩ := info_parts Tryd.infoInt
    obtain ⟨a, n, c, rfl, hn, hnc, hcm, hx⟩ := h.open
    obtain rfl : n = rows.length := hn.out
    clear h hmk hmb hn
    go_enter Tryd.func14, Tryd.ntmps14
    go_wp2_with fail
    refine (HM.out _ hb1).mono ?_
    rintro e w2 ⟨rfl, hb2⟩
    have hh0 := block_below (heap_alloc_new w _) hb2 (by simp)
    have hb := hb1.trans (hb2.mono (by simp))
    have hmk := HK.out.1
    have hmb := HK.out.2
    clear hb1 hb2 HM HK
    have hS := RefW.start w w2 rows.length (by unfold maxLen; omega) hb (lt_of_block hh0) hh0
    have hbs := ((hb.alloc hb.size (.cells (madeCells #[.int .i64 0] rows.length) 3)).alloc (by have := hb.size; simp; omega) (.cells #[.slice (some ⟨w2.heap.size, 0, none⟩) rows.length rows.length, .slice none 0 0, .slice none 0 0] 30)).alloc (by have := hb.size; simp; omega) (.cells (madeCells #[.bool false] rows.length) 4)
    have HS := Lib.hid (And.intro hS hbs)
    have hrow := Lib.hid (fun i (hi : i < rows.length) => (show ∃ b off u, a = some ⟨b, off, none⟩ ∧ PairsV w u (rowAt rows i) ∧ ∀ W : World, Below w.heap.size w W → W.cell? ⟨b, off + i, none⟩ = some u from by
      obtain ⟨b, off, u, e, hc, hp⟩ := hx.out i hi
      exact ⟨b, off, u, e, hp, fun W hW => (hW.cell (World.block_lt_of_cell? _ _ hc)).trans hc⟩))
    have HMay := Lib.hid hm
    have hlay : Hid (layS rows = (orderS rows).foldl (layOne rows) (start rows)) := Lib.hid (by unfold layS; rw [if_pos hm])
    have hlp := Lib.hid (laid_pre hm)
    clear hS hbs hb hh0 hm hx hnc hcm
    go_wp2_with fail
    rw [show (fun _ => false) = takenTo rows 0 from funext (fun j => (taken_zero j).symm)] at HS
    generalize (((w2.alloc (.cells (madeCells #[.int .i64 0] rows.length) 3)).alloc (.cells #[.slice (some ⟨w2.heap.size, 0, none⟩) rows.length rows.length, .slice none 0 0, .slice none 0 0] 30)).alloc (.cells (madeCells #[.bool false] rows.length) 4)) = w3 at HS ⊢
    generalize Value.slice (some ⟨w2.heap.size, 0, none⟩) rows.length rows.length = bv0 at HS ⊢
    generalize w2.heap.size + 1 + 1 = L0 at HS ⊢
    generalize w2.heap.size + 1 = c0 at HS ⊢
    clear hmk hmb
    obtain ⟨m, hm⟩ : ∃ m, m = (orderS rows).length := ⟨_, rfl⟩
    have hm20 : m ≤ 20 := by omega
    have HLen := Lib.hid hm
    clear hm hl
    go_loopg [] (m + 1) (fun gg W => ∃ (t : Nat) (bv vv kv : Value) (s : CombS), t ≤ m ∧ m + 1 ≤ t + gg ∧ Hid (s = ((orderS rows).take t).foldl (layOne rows) (start rows)) ∧ RefW W w.heap.size w.heap.size c0 L0 rows.length (takenTo rows t) [] vv kv bv vv kv s.1 s.2.1 s.2.2 ∧ Below w.heap.size w W)
    case atStart => exact ⟨0, _, _, _, (List.replicate rows.length 0, [], []), Nat.zero_le _, by omega, Lib.hid (by simp [start]), HS.out.1, HS.out.2⟩
    case round =>
      obtain ⟨t, bv, vv, kv, s, ht, hgg, hs, hR, hbw⟩ := hrel
      rename World => w5
      have HT := Lib.hid (And.intro ht hgg)
      have H5 := Lib.hid (And.intro hR hbw)
      clear hR hbw ht hgg
      go_wp2_with fail
      go_loopw [5, 6] (fun x y W => ∃ (k : Nat) (X : Int), k ≤ rows.length ∧ y = .int .i64 (k : Int) ∧ x = .int .i64 X ∧ Hid (Pick rows (takenTo rows t) k X) ∧ RefW W w.heap.size w.heap.size c0 L0 rows.length (takenTo rows t) [] vv kv bv vv kv s.1 s.2.1 s.2.2 ∧ Below w.heap.size w W) (fun _ y _ => rows.length - (intOf y).toNat)
      case atStart => exact ⟨0, -1, Nat.zero_le _, rfl, rfl, Lib.hid (.inl ⟨rfl, fun j hj => absurd hj (Nat.not_lt_zero _)⟩), H5.out.1, H5.out.2⟩
      case round =>
        clear H5
        obtain ⟨k, X, hk, rfl, rfl, hP, hR, hbw⟩ := hrel
        rename World => w6
        by_cases hlt : k < rows.length
        · have hkI : (k : Int) < (rows.length : Int) := by omega
          have hkb : (k : Int) + 1 ≤ 9223372036854775807 := by omega
          obtain ⟨rb, ro, ru, rfl, hru0, hrc⟩ := hrow.out k hlt
          have rc := hrc w6 hbw
          obtain ⟨pa, pn, pc, rfl, hpn, hpnc, hpcm, hpx⟩ := hru0.open
          have lk := hR.lc k hlt
          have H6 := Lib.hid (And.intro (fun q => hR.below (Go.below_drewN (Below.refl _ _) q)) (fun q => Go.below_drewN hbw q))
          have hpl := hb9 k
          have hpn' : pn = (rowAt rows k).length := hpn.out
          have hp6 : pn ≤ 1000000 := by omega
          have HPN := Lib.hid hpn'
          clear hrc hpcm hpnc hpx hru0 hR hbw hpl hpn hpn'
          cases htk : takenTo rows t k with
          | true =>
            rw [htk] at lk
            have HP' := Lib.hid (hP.out.skip (.inl htk))
            clear hP htk
            go_wp2_with fail
            go_quiet (fail)
            go_wp2_with fail
            go_roundw
            case rel => exact ⟨k + 1, X, by omega, by go_num, rfl, HP', H6.out.1 _, H6.out.2 _⟩
            case measure => simp [intOf]; omega
          | false =>
            rw [htk] at lk
            by_cases hp0 : pn = 0
            · subst hp0
              have HP' := Lib.hid (hP.out.skip (.inr (List.eq_nil_of_length_eq_zero HPN.out.symm)))
              clear hP htk
              go_wp2_with fail
              go_quiet (fail)
              go_wp2_with fail
              go_roundw
              case rel => exact ⟨k + 1, X, by omega, by go_num, rfl, HP', H6.out.1 _, H6.out.2 _⟩
              case measure => simp [intOf]; omega
            · have hpos : 0 < pn := by omega
              have hposI : (0 : Int) < (pn : Int) := by omega
              have hposD : decide (0 < pn) = true := decide_eq_true hpos
              have hne : rowAt rows k ≠ [] := fun e => by have := HPN.out; rw [e] at this; simp at this; omega
              rcases (show X = -1 ∨ ∃ i : Nat, X = (i : Int) ∧ i < rows.length from by
                rcases hP.out with ⟨e, _⟩ | ⟨i, e, h1, _⟩
                · exact .inl e
                · exact .inr ⟨i, e, by omega⟩) with rfl | ⟨i, rfl, hir⟩
              · have HP' := Lib.hid (hP.out.first htk hne)
                clear hP htk hne
                go_wp2_with fail
                go_quiet (fail)
                go_wp2_with fail
                go_roundw
                case rel => exact ⟨k + 1, k, by omega, by go_num, rfl, HP', H6.out.1 _, H6.out.2 _⟩
                case measure => simp [intOf]; omega
              · obtain ⟨rb2, ro2, ru2, e2, hru2, hrc2⟩ := hrow.out i hir
                cases e2
                have rc2 := hrc2 w6 (by have := H6.out.2 0; simpa [World.drewN] using this)
                obtain ⟨pa2, pn2, pc2, rfl, hpn2, _, _, _⟩ := hru2.open
                have hpl2 := hb9 i
                have hpn2' : pn2 = (rowAt rows i).length := hpn2.out
                have hp62 : pn2 ≤ 1000000 := by omega
                have hirI : (i : Int) < (rows.length : Int) := by omega
                have hi0 : decide ((i : Int) < 0) = false := decide_eq_false (by omega)
                have hi1 : ¬ ((i : Int) < 0) := by omega
                have hi2 : (0 : Int) ≤ (i : Int) := by omega
                have hi3 : ((i : Int)).toNat = i := by omega
                by_cases hbt : pn2 < pn
                · have HP' := Lib.hid (hP.out.better htk hne (by have := HPN.out; omega))
                  have hbI : (pn2 : Int) < (pn : Int) := by omega
                  have hbD : decide (pn2 < pn) = true := decide_eq_true hbt
                  clear hP htk hne hru2 hrc2 hpl2 hpn2 hpn2'
                  go_wp2_with fail
                  go_quiet (fail)
                  go_wp2_with fail
                  go_roundw
                  case rel => exact ⟨k + 1, k, by omega, by go_num, rfl, HP', H6.out.1 _, H6.out.2 _⟩
                  case measure => simp [intOf]; omega
                · have HP' := Lib.hid (hP.out.stay htk (by have := HPN.out; omega))
                  have hbI : ¬ (pn2 : Int) < (pn : Int) := by omega
                  have hbD : decide (pn2 < pn) = false := decide_eq_false hbt
                  clear hP htk hne hru2 hrc2 hpl2 hpn2 hpn2'
                  go_wp2_with fail
                  go_quiet (fail)
                  go_wp2_with fail
                  go_roundw
                  case rel => exact ⟨k + 1, i, by omega, by go_num, rfl, HP', H6.out.1 _, H6.out.2 _⟩
                  case measure => simp [intOf]; omega
        · obtain rfl : k = rows.length := by omega
          have hX : RefX w w6 w.heap.size w.heap.size c0 L0 rows.length (takenTo rows t) [] vv kv bv vv kv s.1 s.2.1 s.2.2 := ⟨hR, hbw⟩
          clear hR hbw
          rcases (show X = -1 ∨ ∃ i : Nat, X = (i : Int) ∧ i < rows.length from by
            rcases hP.out with ⟨e, _⟩ | ⟨i, e, h1, _⟩
            · exact .inl e
            · exact .inr ⟨i, e, by omega⟩) with rfl | ⟨i, rfl, hir⟩
          · have htm := pick_none (by have := HT.out; have := HLen.out; omega) hP.out
            have HSL : Hid (s = layS rows) := Lib.hid (by rw [hlay.out, hs.out, List.take_of_length_le (by omega)])
            obtain ⟨ba, bc, rfl⟩ : ∃ a1 c1, bv = .slice a1 s.1.length c1 := by
              rcases hX.1.ob.2 with ⟨rfl, h0⟩ | ⟨g, cap, cur, rfl, _⟩
              · exact ⟨none, 0, by rw [h0]⟩
              · exact ⟨_, cap, rfl⟩
            obtain ⟨va, vc, rfl⟩ : ∃ a1 c1, vv = .slice a1 s.2.2.length c1 := by
              rcases hX.1.ov.2 with ⟨rfl, h0⟩ | ⟨g, cap, cur, rfl, _⟩
              · exact ⟨none, 0, by rw [h0]⟩
              · exact ⟨_, cap, rfl⟩
            obtain ⟨ka, kc, rfl⟩ : ∃ a1 c1, kv = .slice a1 s.2.1.length c1 := by
              rcases hX.1.ok.2 with ⟨rfl, h0⟩ | ⟨g, cap, cur, rfl, _⟩
              · exact ⟨none, 0, by rw [h0]⟩
              · exact ⟨_, cap, rfl⟩
            have q0 := hX.1.c0
            have q1 := hX.1.c1
            have q2 := hX.1.c2
            have hc0 : w6.cell? ⟨w.heap.size, 0, none⟩ = some (.slice none 0 0) := cell_of_row _ _ _ _ _ _ hX.1.res
            have hc1 : w6.cell? ⟨w.heap.size, 1, none⟩ = some (.slice none 0 0) := cell_of_row _ _ _ _ _ _ hX.1.res
            have hc2 : w6.cell? ⟨w.heap.size, 2, none⟩ = some (.slice none 0 0) := cell_of_row _ _ _ _ _ _ hX.1.res
            have hf0 : w6.frozen? ⟨w.heap.size, 0, none⟩ = false := free_of_block hX.1.res
            have hf1 : w6.frozen? ⟨w.heap.size, 1, none⟩ = false := free_of_block hX.1.res
            have hf2 : w6.frozen? ⟨w.heap.size, 2, none⟩ = false := free_of_block hX.1.res
            have HE := Lib.hid hX
            clear hX hP htm
            go_wp2_with fail
            have hne : ∀ j k, j ≠ 0 → own6 (some w.heap.size) (some c0) (Value.slice ba s.1.length bc).ownBlock (Value.slice va s.2.2.length vc).ownBlock (Value.slice ka s.2.1.length kc).ownBlock (some L0) j = some k → k ≠ w.heap.size := fun j k hj hk e => HE.out.1.ap j 0 hj k hk (by rw [e]; rfl)
            have key : ∀ (v : Value) (l : List Int) (x y z : Value), (∀ k, v.ownBlock = some k → k ≠ w.heap.size) → w6.ownsRow w.heap.size 3 1 v l.length (l.map (Value.int .i64)) →
                IntsV (((w6.setCell ⟨w.heap.size, 0, none⟩ x).setCell ⟨w.heap.size, 1, none⟩ y).setCell ⟨w.heap.size, 2, none⟩ z) v l := fun v l x y z hv ho =>
              IntsV.of_owns (row_kept ho (fun k hk => by
                rw [Below.heap_setCell _ _ _ _ (hv k hk), Below.heap_setCell _ _ _ _ (hv k hk), Below.heap_setCell _ _ _ _ (hv k hk)]))
            refine bodyPost_ret (v := .agg #[.slice ba s.1.length bc, .slice va s.2.2.length vc, .slice ka s.2.1.length kc]) (by simp [results, Tryd.results14, go_sem, hc0, hc1, hc2]) rfl ⟨⟨_, _, _, rfl, ?_, ?_, ?_⟩, ((HE.out.2.setCell (p := ⟨w.heap.size, 0, none⟩) (Nat.le_refl _) _).setCell (p := ⟨w.heap.size, 1, none⟩) (Nat.le_refl _) _).setCell (p := ⟨w.heap.size, 2, none⟩) (Nat.le_refl _) _⟩
            · rw [← HSL.out]; exact key _ _ _ _ _ (fun k hk => hne 2 k (by omega) hk) HE.out.1.ob
            · rw [← HSL.out]; exact key _ _ _ _ _ (fun k hk => hne 3 k (by omega) hk) HE.out.1.ov
            · rw [← HSL.out]; exact key _ _ _ _ _ (fun k hk => hne 4 k (by omega) hk) HE.out.1.ok
          · obtain ⟨htl, hti⟩ := pick_next (by have := HT.out; have := HLen.out; omega) hP.out
            have hlaid := hlp.out t (by omega)
            rw [← hs.out] at hlaid
            have hnext := Lib.hid (show ((orderS rows).take (t + 1)).foldl (layOne rows) (start rows) = layOne rows s i from by
              rw [List.take_succ_eq_append_getElem htl, List.foldl_append, ← hs.out, hti]; rfl)
            have hini := (((orderS_is rows).2 i).1 (by rw [← hti]; exact List.getElem_mem htl)).2
            have htm : t + 1 ≤ m := by have := HLen.out; omega
            have hset := hX.setL i (takenTo rows (t + 1)) (fun j => by rw [taken_next htl, hti])
            have hnot : i ∉ (orderS rows).take t := by
              rcases hP.out with ⟨e, _⟩ | ⟨i', e, h1, h2, _⟩
              · omega
              · obtain rfl : i = i' := by omega
                unfold takenTo at h2; simpa using h2
            have hbase0 := hlaid.base0 i hnot
            have hsmall : s.2.1.length ≤ 20000 := by
              have h1 := hlaid.small
              have h2 : ((orderS rows).take t).length ≤ t := List.length_take_le _ _
              have := Nat.mul_le_mul_left 1000 h2
              omega
            have hblen : s.1.length = rows.length := hlaid.blen
            have hvlen : s.2.1.length = s.2.2.length := hlaid.len
            obtain ⟨bg, bcap, rfl⟩ : ∃ g cap, bv = .slice (some ⟨g, 0, none⟩) rows.length cap := by
              rcases hX.1.ob.2 with ⟨rfl, h0⟩ | ⟨g, cap, cur, rfl, _⟩
              · omega
              · exact ⟨g, cap, by rw [hblen]⟩
            have lk := hX.1.lc i hir
            have lfz := hX.1.lfr i
            have hrm : rowMay (rowAt rows i) = true := mayS_row HMay.out i hir
            obtain ⟨hnd, hrg⟩ := nodup_nat hrm
            obtain ⟨rb, ro, ru, rfl, hru0, hrc⟩ := hrow.out i hir
            obtain ⟨pa, pn, pc, rfl, hpn, hpnc, hpcm, hpx⟩ := hru0.open
            have hpl := hb9 i
            have hp6 : pn ≤ 1000000 := by have := hpn.out; omega
            have hirI : (i : Int) < (rows.length : Int) := by omega
            have hi2 : (0 : Int) ≤ (i : Int) := by omega
            have hi3 : ((i : Int)).toNat = i := by omega
            have hi1 : ¬ ((i : Int) < 0) := by omega
            generalize hLF : leastFit s.2.1 (rowAt rows i) = LF at *
            have hlf := least_spec s.2.1 (rowAt rows i)
            rw [hLF] at hlf
            have hlfu := fun b h1 h2 => (least_unique s.2.1 (rowAt rows i) b h1 h2).symm.trans hLF
            have hlf20 : LF ≤ 20000 := by have := hlf.2.1; omega
            have HX := Lib.hid hset
            have HR := Lib.hid (And.intro hru0 (And.intro hrc hrg))
            have HP := Lib.hid (And.intro hpn.out hpx.out)
            have HN := Lib.hid (And.intro hbase0 (And.intro hsmall (And.intro hblen (And.intro hvlen (And.intro hlf hLF)))))
            clear hX hset hP hlaid hbase0 hsmall hblen hvlen hlf hLF hlfu hpl hru0 hrc hrm hnd hrg hpn hpx hpnc hpcm htl hti hnot hini
            go_wp2_with fail
            go_loopg [] (LF + 1) (fun gg W => ∃ b : Nat, b ≤ LF ∧ LF + 1 ≤ b + gg ∧ RefX w W w.heap.size w.heap.size c0 L0 rows.length (takenTo rows (t + 1)) [] vv kv (.slice (some ⟨bg, 0, none⟩) rows.length bcap) vv kv (s.1.set i (b : Int)) s.2.1 s.2.2)
            case atStart =>
              have e : s.1.set i ((0 : Nat) : Int) = s.1 := set_self0 _ _ HN.out.1
              exact ⟨0, Nat.zero_le _, by omega, by rw [e]; exact HX.out⟩
            case round =>
              clear HX lk lfz
              obtain ⟨b, hb, hgg, hX⟩ := hrel
              rename World => w7
              have hb2 : b ≤ 20000 := by omega
              have rc := HR.out.2.1 w7 hX.2
              have q0 := hX.1.c0
              have q2 := hX.1.c2
              have hsl : (s.1.set i (b : Int)).length = rows.length := by rw [List.length_set]; exact HN.out.2.2.1
              have hgb : (s.1.set i (b : Int)).getD i 0 = (b : Int) := by rw [getD_set _ _ _ _ _ (by rw [HN.out.2.2.1]; exact hir), if_pos rfl]
              have bc := (hX.atB hsl i hir).1
              have bf := (hX.atB hsl i hir).2
              rw [hgb] at bc
              clear hgb
              have HF := Lib.hid (fun q => refFits_any kv (.slice pa pn pc) s.2.1 (rowAt rows i) b (w7.drewN q) (IntsV.of_owns (hX.drewN q).1.ok) (PairsV.below HR.out.1 (hX.drewN q).2) HR.out.2.2 (by omega))
              have HX7 := Lib.hid hX
              have HSL := Lib.hid hsl
              cases hfb : fitsB s.2.1 (rowAt rows i) b with
              | false =>
                rw [hfb] at HF
                have hbl : b < LF := by
                  rcases Nat.lt_or_ge b LF with h | h
                  · exact h
                  · have e : b = LF := by omega
                    have h1 := HN.out.2.2.2.2.1.1
                    rw [← e, hfb] at h1; cases h1
                have HG := Lib.hid hgg
                clear hX hsl hfb hgg
                go_wp2_with fail
                go_quiet ((go_at_call 25; exact Calls.quiet_of_same ((HF.out _).mono fun e w' h => ⟨h.1, h.2.symm⟩)))
                have hX8 := HX7.out.drewN nq
                have d0 := hX8.1.c0
                have d1 : (w7.drewN nq).cell? ⟨bg, i, none⟩ = some (.int .i64 (b : Int)) := bc
                have d2 : (w7.drewN nq).frozen? ⟨bg, i, none⟩ = false := bf
                clear q0 q2 bc bf rc HF HX7
                generalize w7.drewN nq = w8 at hX8 d0 d1 d2 ⊢
                have HX8 := Lib.hid hX8
                clear hX8
                go_wp2_with fail
                go_roundg (LF - b)
                case measure => have := HG.out; omega
                case rel =>
                  have h9 := HX8.out.setB HSL.out i ((b : Int) + 1)
                  rw [List.set_set] at h9
                  exact ⟨b + 1, by omega, by omega, by rw [show ((b + 1 : Nat) : Int) = (b : Int) + 1 by omega]; exact h9⟩
              | true =>
                rw [hfb] at HF
                obtain rfl : b = LF := by
                  rcases Nat.lt_or_ge b LF with h | h
                  · have h1 := HN.out.2.2.2.2.1.2.2 b h
                    rw [hfb] at h1; cases h1
                  · omega
                clear hX hsl hfb hgg
                go_wp2_with fail
                go_quiet ((go_at_call 25; exact Calls.quiet_of_same ((HF.out _).mono fun e w' h => ⟨h.1, h.2.symm⟩)))
                have HX8 := Lib.hid (HX7.out.drewN nq)
                clear q0 q2 bc bf rc HF HX7
                generalize w7.drewN nq = w8 at HX8 ⊢
                go_wp2_with fail
                go_loopw [7] (fun x W => ∃ (j : Nat) (vv kv : Value) (cv : List Int × List Int), j ≤ pn ∧ x = .int .i64 (j : Int) ∧ Hid (cv = putRow i b ((rowAt rows i).take j) s.2) ∧ RefX w W w.heap.size w.heap.size c0 L0 rows.length (takenTo rows (t + 1)) [] vv kv (.slice (some ⟨bg, 0, none⟩) rows.length bcap) vv kv (s.1.set i (b : Int)) cv.1 cv.2 ∧ cv.1.length = cv.2.length ∧ cv.1.length ≤ 30000) (fun x _ => pn - (intOf x).toNat)
                case atStart => exact ⟨0, vv, kv, s.2, Nat.zero_le _, rfl, Lib.hid (by simp [putRow]), HX8.out, HN.out.2.2.2.1, by have := HN.out.2.1; omega⟩
                case round =>
                  clear HX8
                  obtain ⟨j, vv, kv, cv, hj, rfl, hcv, hX, hvl, hcl⟩ := hrel
                  rename World => w9
                  have rc := HR.out.2.1 w9 hX.2
                  have HVL := Lib.hid (And.intro hvl hcl)
                  have HX9 := Lib.hid hX
                  by_cases hjn : j < pn
                  · have hjI : (j : Int) < (pn : Int) := by omega
                    obtain ⟨b2, o2, rfl, p1, p2⟩ := HP.out.2 j hjn
                    have hpv := fun W (hW : Below w.heap.size w W) => (hW.cell (World.block_lt_of_cell? _ _ p2)).trans p2
                    replace p1 := (hX.2.cell (World.block_lt_of_cell? _ _ p1)).trans p1
                    replace p2 := (hX.2.cell (World.block_lt_of_cell? _ _ p2)).trans p2
                    have hjr : j < (rowAt rows i).length := by have := HP.out.1; omega
                    have hpm : (rowAt rows i).getD j (0, 0) ∈ rowAt rows i := by rw [List.getD_eq_getElem?_getD, List.getElem?_eq_getElem hjr]; simp
                    have hpr := HR.out.2.2 _ hpm
                    have hnx : Hid (putRow i b ((rowAt rows i).take (j + 1)) s.2 = (setPad cv.1 (b + ((rowAt rows i).getD j (0, 0)).1.toNat) ((i : Int) + 1), setPad cv.2 (b + ((rowAt rows i).getD j (0, 0)).1.toNat) ((rowAt rows i).getD j (0, 0)).2)) := Lib.hid (by
                      rw [List.take_succ_eq_append_getElem hjr, putRow_snoc, ← hcv.out, List.getD_eq_getElem?_getD, List.getElem?_eq_getElem hjr]; rfl)
                    generalize (rowAt rows i).getD j (0, 0) = p at p1 p2 hpr hnx hpv
                    obtain ⟨qa, qv⟩ := p
                    obtain ⟨q, rfl⟩ := Int.eq_ofNat_of_zero_le hpr.1
                    simp only [Int.toNat_natCast] at p1 p2 hnx
                    have HPV := Lib.hid hpv
                    clear hpv
                    have hq9 : q ≤ 999 := by have := hpr.2; simp at this; omega
                    have q0 := hX.1.c0
                    have hgb : (s.1.set i (b : Int)).getD i 0 = (b : Int) := by rw [getD_set _ _ _ _ _ (by rw [HN.out.2.2.1]; exact hir), if_pos rfl]
                    have bc := (hX.atB HSL.out i hir).1
                    rw [hgb] at bc
                    clear hgb
                    have hjb : (j : Int) + 1 ≤ 9223372036854775807 := by omega
                    clear hpr hpm hX hvl hcl hjr
                    go_wp2_with fail
                    go_quiet (fail)
                    have hXa := HX9.out.drewN nq
                    have rc' : (w9.drewN nq).cell? ⟨rb, ro + i, none⟩ = _ := rc
                    have p2' : (w9.drewN nq).cell? _ = _ := p2
                    clear rc p1 p2 bc q0 HX9
                    generalize w9.drewN nq = w10 at hXa rc' p2' ⊢
                    have HXA := Lib.hid (And.intro hXa p2')
                    have HW10 := Lib.hid (fun W (hW : Below w.heap.size w10 W) => hW)
                    clear hXa rc' p2'
                    go_wp2_with fail
                    go_loopg [] (b + q + 2) (fun gg W => ∃ (mm : Nat) (vv kv : Value), mm ≤ b + q + 1 - cv.1.length ∧ b + q + 2 ≤ cv.1.length + mm + gg ∧ RefX w W w.heap.size w.heap.size c0 L0 rows.length (takenTo rows (t + 1)) [] vv kv (.slice (some ⟨bg, 0, none⟩) rows.length bcap) vv kv (s.1.set i (b : Int)) (padTo cv.1 mm) (padTo cv.2 mm) ∧ W.cell? ⟨b2, o2 + j * 2 + 1, none⟩ = some (.int .i64 qv) ∧ W.cell? ⟨rb, ro + i, none⟩ = some (.slice (some ⟨b2, o2, none⟩) pn pc))
                    case atStart => exact ⟨0, vv, kv, Nat.zero_le _, by omega, by simpa [padTo] using HXA.out.1, HXA.out.2, HR.out.2.1 _ HXA.out.1.2⟩
                    case round =>
                      clear HXA
                      obtain ⟨mm, vv, kv, hmm, hgg, hX, p2, rc⟩ := hrel
                      rename World => w11
                      have hlen1 := padTo_len cv.1 mm
                      have hlen2 := padTo_len cv.2 mm
                      have hvl := HVL.out.1
                      have hcl := HVL.out.2
                      have q1 := hX.1.c1
                      have q2 := hX.1.c2
                      by_cases hlt3 : cv.1.length + mm ≤ b + q
                      · obtain ⟨av, ccv, rfl⟩ : ∃ a1 c1, vv = .slice a1 (padTo cv.2 mm).length c1 := by
                          rcases hX.1.ov.2 with ⟨rfl, h0⟩ | ⟨g, cap, cur, rfl, _⟩
                          · exact ⟨none, 0, by rw [h0]⟩
                          · exact ⟨_, cap, rfl⟩
                        obtain ⟨ak, cck, rfl⟩ : ∃ a1 c1, kv = .slice a1 (padTo cv.1 mm).length c1 := by
                          rcases hX.1.ok.2 with ⟨rfl, h0⟩ | ⟨g, cap, cur, rfl, _⟩
                          · exact ⟨none, 0, by rw [h0]⟩
                          · exact ⟨_, cap, rfl⟩
                        have hltI : (((padTo cv.1 mm).length : Nat) : Int) ≤ (b : Int) + (q : Int) := by omega
                        have hLK : (padTo cv.1 mm).length ≤ 1000000 := by omega
                        have hLV : (padTo cv.2 mm).length ≤ 1000000 := by omega
                        have e1 := padTo_next cv.1 mm
                        have e2 := padTo_next cv.2 mm
                        generalize hpk : padTo cv.1 mm = ck at *
                        generalize hpv : padTo cv.2 mm = vl at *
                        have HN2 := Lib.hid (And.intro hmm (And.intro hgg (And.intro e1 (And.intro e2 (And.intro hlen1 (And.intro hlt3 hvl))))))
                        generalize hlk : ck.length = lk at *
                        generalize hlv : vl.length = lv at *
                        have HLL := Lib.hid (And.intro hlk hlv)
                        have HXb := Lib.hid hX
                        clear hmm hgg e1 e2 hlen1 hlen2 hvl hcl hlt3 hpk hpv hlk hlv
                        go_wp2_with fail
                        have m1 := fun o => (HXb.out.1.alloc o).c1
                        have m2 := fun o => (HXb.out.1.alloc o).c2
                        have m3 := fun o o' => ((HXb.out.1.alloc o).alloc o').c1
                        have m4 := fun o o' => ((HXb.out.1.alloc o).alloc o').c2
                        clear p2 rc
                        go_region_law (first
                          | (refine stepX_pushK hi0 hz0 hz1 hz2 rfl (.tmp 112) (.tmp 113) rfl (kv := .slice ak lk cck) (by first | exact (HXb.out.lit _).drew | exact ((HXb.out.lit _).lit _).drew | exact HXb.out.drew.lit _ | exact (HXb.out.drew.lit _).lit _ | exact hX3 | exact hX3.lit _ | exact (hX3.lit _).lit _) _ rfl rfl (by first | simp | simp [World.setCell]) lk HLL.out.1 hLK ?_; intro g2 n2 W2 hX2; have l1 := hX2.1.c1; have l2 := hX2.1.c2; have l3 := hX2.1.free 1; have l4 := hX2.1.free 2; have l5 := fun o => (hX2.1.alloc o).c1; have l6 := fun o => (hX2.1.alloc o).c2; have l7 := fun o => (hX2.1.alloc o).free 2)
                          | (refine stepX_pushV hi0 hz0 hz1 hz2 rfl (.tmp 116) (.tmp 117) rfl (vv := .slice av lv ccv) (by first | exact (HXb.out.lit _).drew | exact ((HXb.out.lit _).lit _).drew | exact HXb.out.drew.lit _ | exact (HXb.out.drew.lit _).lit _ | exact hX2 | exact hX2.lit _ | exact hX2.putK | exact (hX2.lit _).putK | exact hX2.putK.lit _) _ rfl rfl (by first | simp | simp [World.setCell]) lv HLL.out.2 hLV ?_; intro g3 n3 W3 hX3; have l1 := hX3.1.c1; have l2 := hX3.1.c2; have l3 := hX3.1.free 1; have l4 := hX3.1.free 2; have l5 := fun o => (hX3.1.alloc o).c1; have l6 := fun o => (hX3.1.alloc o).c2; have l7 := fun o => (hX3.1.alloc o).free 2))
                        all_goals
                          have hF := hX3.put.forget
                          rw [← HN2.out.2.2.1, ← HN2.out.2.2.2.1] at hF
                          have HF := Lib.hid hF
                          clear hF l1 l2 l3 l4 l5 l6 l7 hX3 hX2 m1 m2 m3 m4
                          go_wp2_with fail
                          go_roundg (b + q + 2 - (cv.1.length + (mm + 1)))
                          case measure =>
                            have h1 := HN2.out.1
                            have h2 := HN2.out.2.1
                            have h3 := HN2.out.2.2.2.2.2.1
                            omega
                          case rel =>
                            have h1 := HN2.out.1
                            have h2 := HN2.out.2.1
                            have h3 := HN2.out.2.2.2.2.2.1
                            exact ⟨mm + 1, _, _, by omega, by omega, HF.out, HPV.out _ HF.out.2, HR.out.2.1 _ HF.out.2⟩
                      · have hmx : mm = b + q + 1 - cv.1.length := by omega
                        have hlt4 : b + q < cv.1.length + mm := by omega
                        obtain ⟨gv, gc, rfl⟩ : ∃ g2 c2, vv = .slice (some ⟨g2, 0, none⟩) (padTo cv.2 mm).length c2 := by
                          rcases hX.1.ov.2 with ⟨_, h0⟩ | ⟨g, cap, cur, rfl, _⟩
                          · omega
                          · exact ⟨g, cap, rfl⟩
                        obtain ⟨gz, gzc, rfl⟩ : ∃ g2 c2, kv = .slice (some ⟨g2, 0, none⟩) (padTo cv.1 mm).length c2 := by
                          rcases hX.1.ok.2 with ⟨_, h0⟩ | ⟨g, cap, cur, rfl, _⟩
                          · omega
                          · exact ⟨g, cap, rfl⟩
                        obtain ⟨hvc, hvf⟩ := hX.atV rfl (b + q) (by omega)
                        obtain ⟨hkc, hkf⟩ := hX.atK rfl (b + q) (by omega)
                        have hne : gz ≠ gv := fun e => hX.1.ap 4 3 (by omega) gz rfl (by rw [e]; rfl)
                        have hne2 : gv ≠ gz := fun e => hne e.symm
                        have HS3 := Lib.hid ((hX.setK rfl (b + q) ((i : Int) + 1)).setV rfl (b + q) qv).drew
                        have k1 := fun x => (hX.setK rfl (b + q) x).1.c1
                        have k2 := fun x => (hX.setK rfl (b + q) x).1.c2
                        have k3 := fun x => HR.out.2.1 _ (hX.setK rfl (b + q) x).2
                        have k4 := fun x => HPV.out _ (hX.setK rfl (b + q) x).2
                        have k5 := fun x => ((hX.setK rfl (b + q) x).atV rfl (b + q) (by omega)).1
                        have k6 := fun x => ((hX.setK rfl (b + q) x).atV rfl (b + q) (by omega)).2
                        generalize (padTo cv.2 mm).getD (b + q) 0 = y9 at hvc k5
                        generalize (padTo cv.1 mm).getD (b + q) 0 = z9 at hkc
                        have hltV : ¬ (((padTo cv.1 mm).length : Nat) : Int) ≤ (b : Int) + (q : Int) := by omega
                        have hvI : (b : Int) + (q : Int) < (((padTo cv.2 mm).length : Nat) : Int) := by omega
                        have hkI2 : (b : Int) + (q : Int) < (((padTo cv.1 mm).length : Nat) : Int) := by omega
                        have hv0 : (0 : Int) ≤ (b : Int) + (q : Int) := by omega
                        have hvN : ((b : Int) + (q : Int)).toNat = b + q := by omega
                        have HN3 := Lib.hid (And.intro hmx (And.intro hlen1 (And.intro hlen2 (And.intro hvl hcl))))
                        generalize hlk : (padTo cv.1 mm).length = lk at *
                        generalize hlv : (padTo cv.2 mm).length = lv at *
                        have HLL := Lib.hid (And.intro hlk hlv)
                        clear hX hmx hlt4 hlen1 hlen2 hvl hcl hmm hgg hlt3 hlk hlv
                        go_wp2_with fail
                        go_region
                        go_wp2_with fail
                        go_roundw
                        case rel =>
                          have hN := HN3.out
                          have hvl := hN.2.2.2.1
                          have hcl := hN.2.2.2.2
                          have e1 : setPad cv.1 (b + q) ((i : Int) + 1) = (padTo cv.1 mm).set (b + q) ((i : Int) + 1) := by rw [setPad_eq, hN.1]
                          have e2 : setPad cv.2 (b + q) qv = (padTo cv.2 mm).set (b + q) qv := by rw [setPad_eq, hN.1, hvl]
                          refine ⟨j + 1, .slice (some ⟨gv, 0, none⟩) lv gc, .slice (some ⟨gz, 0, none⟩) lk gzc, (setPad cv.1 (b + q) ((i : Int) + 1), setPad cv.2 (b + q) qv), by omega, by go_num, Lib.hid hnx.out.symm, ?_, ?_, ?_⟩
                          · have h3 := HS3.out
                            rw [← e1, ← e2] at h3
                            exact h3
                          · show (setPad cv.1 (b + q) ((i : Int) + 1)).length = (setPad cv.2 (b + q) qv).length
                            rw [setPad_len, setPad_len]; omega
                          · show (setPad cv.1 (b + q) ((i : Int) + 1)).length ≤ 30000
                            rw [setPad_len]; omega
                        case measure => simp [intOf]; omega
                  · have hjp : j = pn := by omega
                    subst hjp
                    clear hX
                    go_wp2_with fail
                    go_roundg (m - t)
                    case measure => have := HT.out; omega
                    case rel =>
                      have hend : cv = putRow i b (rowAt rows i) s.2 := by rw [hcv.out, List.take_of_length_le (by have := HP.out.1; omega)]
                      refine ⟨t + 1, _, _, _, (s.1.set i (b : Int), cv), by omega, by omega, Lib.hid ?_, HX9.out.1, HX9.out.2⟩
                      rw [hnext.out, hend]
                      unfold layOne
                      rw [HN.out.2.2.2.2.2]
end Go.Proofs.YtjeebcnjdhlcfaaDoor
