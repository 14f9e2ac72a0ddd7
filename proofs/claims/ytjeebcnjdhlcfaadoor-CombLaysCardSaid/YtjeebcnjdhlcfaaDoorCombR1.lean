/- The document's May, fits. -/
import Derived.Test.YtjeebcnjdhlcfaaDoorCombL6
namespace Go.Proofs.YtjeebcnjdhlcfaaDoor
open Go.RowKit
set_option linter.unusedVariables false
set_option linter.unusedSimpArgs false

def ats (r : List Pr) (j : Nat) : List Int := (r.take j).map (·.1)
theorem ats_next (r : List Pr) (j : Nat) (h : j < r.length) : ats r (j + 1) = ats r j ++ [(r.getD j (0, 0)).1] := by
  unfold ats
  rw [List.take_succ_eq_append_getElem h, List.map_append, List.getD_eq_getElem?_getD, List.getElem?_eq_getElem h]; rfl
theorem ats_has (r : List Pr) (j : Nat) (x : Int) : ((r.take j).any fun p => p.1 == x) = decide (x ∈ ats r j) := by
  unfold ats
  rw [Bool.eq_iff_iff]
  simp only [List.any_eq_true, beq_iff_eq, decide_eq_true_eq, List.mem_map]
theorem ats_len (r : List Pr) (j : Nat) (h : j ≤ r.length) : (ats r j).length = j := by unfold ats; simp; omega

set_option maxRecDepth 100000 in
set_option maxHeartbeats 4000000 in
theorem refMay_any (v : Value) (rows : List (List Pr)) (w : World) (h : PRowsV w v rows) (hb9 : ∀ i, (rowAt rows i).length ≤ 1000000) :
    Calls Tryd.prog 24 #[v] w fun e w' => e = .returned (.bool (mayS rows)) ∧ Below w.heap.size w w' := by
  obtain ⟨a, n, c, rfl, hn, hnc, hcm, hx⟩ := h.open
  clear h
  by_cases hbig : 400 < n
  · have HX := Lib.hid (mayS_long rows (by rw [← hn.out]; exact hbig))
    have hbI : (400 : Int) < (n : Int) := by omega
    go_enter Tryd.func24, Tryd.ntmps24
    go_wp2_with fail
    go_ret
    exact ⟨ret_bool HX.out.symm, Below.refl _ _⟩
  · have hbI : ¬ (400 : Int) < (n : Int) := by omega
    obtain ⟨i0, hi0, hz0, hz1, hz2⟩ := info_parts Tryd.infoInt
    go_enter Tryd.func24, Tryd.ntmps24
    go_wp2_with fail
    go_loopw [3] (fun i wr => ∃ k : Nat, k ≤ n ∧ i = .int .i64 k ∧ Below w.heap.size w wr ∧ Hid (∀ j, j < k → rowMay (rowAt rows j) = true)) (fun i _ => n - (intOf i).toNat)
    case atStart => exact ⟨0, Nat.zero_le _, rfl, Below.refl _ _, Lib.hid (fun j hj => absurd hj (Nat.not_lt_zero _))⟩
    case round =>
      obtain ⟨k, hk, rfl, hbr, hp⟩ := hrel
      rename World => wr
      by_cases hlt : k < n
      · obtain ⟨b1, o1, u1, rfl, c1, i1⟩ := hx.out k hlt
        obtain ⟨a2, m, c2, rfl, hm, hmc, hcm2, hx2⟩ := i1.open
        have hkI : (k : Int) < (n : Int) := by omega
        have hrow := Lib.hid (show m = (rowAt rows k).length from hm.out)
        have hm6 : m ≤ 1000000 := by have := hb9 k; rw [hrow.out]; exact this
        have HP := Lib.hid (fun (h : rowMay (rowAt rows k) = true) => (show ∀ j, j < k + 1 → rowMay (rowAt rows j) = true from fun j hj => by
          by_cases e : j = k
          · subst e; exact h
          · exact hp.out j (by omega)))
        have HN := Lib.hid (fun (h : rowMay (rowAt rows k) = false) => mayS_not rows k (by have := hn.out; omega) h)
        generalize rowAt rows k = r at hrow HP HN hx2
        have C1 := Lib.hid c1
        have HX2 := Lib.hid hx2.out
        have HB := Lib.hid hbr
        have hsr := hbr.size
        clear hm i1 hp c1 hx2 hcm2 hcm hbr
        go_wp2_with fail
        go_loopw [4, 5] (fun x i w6 => ∃ j : Nat, j ≤ m ∧ i = .int .i64 j ∧ Below w.heap.size w w6 ∧ w6.ownsRow w.heap.size 3 1 x (ats r j).length ((ats r j).map (Value.int .i64)) ∧ Hid (mayTo r j = true)) (fun _ i _ => m - (intOf i).toNat)
        case atStart => exact ⟨0, Nat.zero_le _, rfl, HB.out, World.ownsRow_nil _ _ _ _, Lib.hid rfl⟩
        case round =>
          obtain ⟨j, hj, rfl, hb6, ho6, hm6'⟩ := hrel
          rename World => w6
          have c1 := (hb6.cell (World.block_lt_of_cell? _ _ C1.out)).trans C1.out
          by_cases hjm : j < m
          · obtain ⟨b2, o2, rfl, d1, d2⟩ := HX2.out j hjm
            replace d1 := (hb6.cell (World.block_lt_of_cell? _ _ d1)).trans d1
            clear d2
            have hjI : (j : Int) < (m : Int) := by omega
            have hmn := may_next r j (by have := hrow.out; omega)
            have hnx := Lib.hid (ats_next r j (by have := hrow.out; omega))
            have hln := ats_len r j (by have := hrow.out; omega)
            rw [hm6'.out, ats_has] at hmn
            generalize (r.getD j (0, 0)).1 = pa at d1 hmn hnx
            have hI6 := IntsV.of_owns ho6
            have HQ := Lib.hid (zhas_any _ _ pa w6 hI6)
            have H6 := Lib.hid (And.intro hb6 (And.intro ho6 hln))
            by_cases hneg : pa < 0
            · have HX := Lib.hid (HN.out (may_mono r (j + 1) (by rw [hmn, decide_eq_false (by omega)]; rfl)))
              clear hmn hI6 hb6 ho6 hln
              go_wp2_with fail
              go_ret
              exact ⟨ret_bool HX.out.symm, H6.out.1⟩
            · by_cases hbg : (999 : Int) < pa
              · have HX := Lib.hid (HN.out (may_mono r (j + 1) (by rw [hmn, decide_eq_false (by omega)]; rfl)))
                clear hmn hI6 hb6 ho6 hln
                go_wp2_with fail
                go_ret
                exact ⟨ret_bool HX.out.symm, H6.out.1⟩
              · have hrd : decide ((0 : Int) ≤ pa ∧ pa ≤ 999) = true := decide_eq_true (by omega)
                rw [hrd] at hmn
                cases hhas : decide (pa ∈ ats r j) with
                | true =>
                  rw [hhas] at hmn HQ
                  have HX := Lib.hid (HN.out (may_mono r (j + 1) (by simpa using hmn)))
                  clear hmn hI6 hb6 ho6 hln hhas hrd
                  go_wp2_with (first | (go_at_call 18; refine HQ.out.mono ?_; rintro e w9 ⟨rfl, rfl⟩))
                  go_ret
                  exact ⟨ret_bool HX.out.symm, H6.out.1⟩
                | false =>
                  rw [hhas] at hmn HQ
                  have HM := Lib.hid (show mayTo r (j + 1) = true by simpa using hmn)
                  have hbs6 := hb6.size
                  rw [hln] at ho6
                  clear hmn hI6 hb6 hln hhas hrd
                  go_wp2_with (first
                    | (go_at_call 18; refine HQ.out.mono ?_; rintro e w9 ⟨rfl, rfl⟩)
                    | (at_builtin; refine wpList_append_own_at _ rfl _ _ 28 rfl w.heap.size 3 i0 (.int .i64 0) 1 8 Tryd.underlying28 hi0 hz0 hz1 hz2 rfl (by decide) _ _ _ rfl (ho6.alloc _) ⟨w6.heap.size, 0, none⟩ 1 1 [.int .i64 pa] rfl rfl (news1 _ _ _) (by intro u hu; simp at hu; rw [hu]; rfl) (by unfold maxLen; omega) (by omega) (by simp; omega) ?_))
                  intro v5 w5 ho5 hg5 _ hl5
                  have hb5 : Below w.heap.size w w5 := (H6.out.1.alloc hbs6 _).grown hg5 (by simp; omega) (fun k hk => (H6.out.2.1.lt k hk).1)
                  have ho7 : w5.ownsRow w.heap.size 3 1 v5 (ats r (j + 1)).length ((ats r (j + 1)).map (Value.int .i64)) := by
                    rw [hnx.out, List.map_append, List.length_append, H6.out.2.2]; exact ho5
                  have H7 := Lib.hid (And.intro hb5 ho7)
                  clear hb5 ho7 ho5 hg5 hl5 ho6
                  go_wp2_with fail
                  go_roundw
                  case rel => exact ⟨j + 1, by omega, by go_num, H7.out.1, H7.out.2, HM⟩
                  case measure => simp [intOf]; omega
          · have hm7 := Lib.hid (HP.out (may_all r j (by have := hrow.out; omega) hm6'.out))
            have H6 := Lib.hid hb6
            clear hb6 ho6
            go_wp2_with fail
            go_roundw
            case rel => exact ⟨k + 1, by omega, by go_num, H6.out, hm7⟩
            case measure => simp [intOf]; omega
      · have HX := Lib.hid (mayS_yes rows (by have := hn.out; omega) (fun i hi => hp.out i (by have := hn.out; omega)))
        go_wp2_with fail
        go_ret
        exact ⟨ret_bool HX.out.symm, hbr⟩
end Go.Proofs.YtjeebcnjdhlcfaaDoor
