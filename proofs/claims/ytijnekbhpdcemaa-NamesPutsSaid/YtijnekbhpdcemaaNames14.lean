/- The walk of NamesPuts. -/
import Derived.Test.YtijnekbhpdcemaaNames13
import Derived.Deep.RegionHeld3
import Derived.Deep.DeepCutAuto
namespace Go.Proofs.Ytijnekbhpdcemaa
open Go.RowKit Go.Maps Go.Sort
set_option linter.unusedVariables false

/-- strings that came in: none is longer than may be -/
def StrsIn (w : World) (v : Value) (l : List ByteArray) : Prop := StrsV w v l ∧ ∀ s ∈ l, s.size ≤ maxLen

theorem StrsV.far {w w' : World} {B : Nat} {v : Value} {l : List ByteArray} (h : StrsV w v l) (hB : B = w.heap.size) (hb : Below B w w') : StrsV w' v l := by
  subst hB; exact h.below hb

theorem foldl_take_snoc {l : List ByteArray} {k : Nat} (hk : k < l.length) : putS ((l.take k).foldl putS []) (l.getD k ByteArray.empty) = (l.take (k + 1)).foldl putS [] := by
  rw [List.take_succ_eq_append_getElem hk, List.foldl_append, getD_of hk]; rfl
theorem foldl_split {l : List ByteArray} {k : Nat} (hk : k < l.length) : l.foldl putS [] = (l.drop (k + 1)).foldl putS (putS ((l.take k).foldl putS []) (l.getD k ByteArray.empty)) := by
  rw [foldl_take_snoc hk, ← List.foldl_append, List.take_append_drop]

def AskIs (i : Int) (n : Nat) (L : List ByteArray) : Prop := True

set_option maxRecDepth 100000 in
theorem namesPuts_walk (v : Value) (l : List ByteArray) (s : ByteArray) (w : World) (h : StrsIn w v l) (hs : s.size ≤ maxLen) (hS : ∀ L : List ByteArray, SortsN L 1) :
    Calls Try.prog 3 #[v, .string s] w fun e w' => e = .returned (.bool true) ∧ Below w.heap.size w w' := by
  obtain ⟨hv, hl⟩ := h
  have HS := Lib.hid hS
  have HV := Lib.hid hv
  have HL := Lib.hid hl
  have HSS := Lib.hid hs
  clear hS hv hl hs
  go_enter Try.func3, Try.ntmps3
  go_wp2_with fail
  refine (namesWakes_any _ HS.out).mono ?_
  rintro e w1 ⟨rfl, hbw⟩
  go_wp2_with fail
  refine (cut_any v l _ (HV.out.below hbw) HL.out).mono ?_
  rintro e w2 ⟨⟨vc, rfl, hvc⟩, hb2⟩
  replace hbw := hbw.trans (hb2.mono hbw.size)
  have hcl := cutS_len l
  have hcs := Lib.hid (cutS_size l)
  generalize cutS l = c at hvc hcl hcs
  have HC2 := Lib.hid hvc
  clear hvc hb2
  go_wp2_with fail
  refine (unlike_any vc c _ HC2.out (by omega)).mono ?_
  rintro e w3 ⟨⟨vw, rfl, hvw⟩, hb2⟩
  replace hbw := hbw.trans (hb2.mono hbw.size)
  have HC := Lib.hid (HC2.out.below hb2)
  have HW := Lib.hid hvw
  clear hvw hb2 HC2
  go_wp2_with fail
  refine (names_new _).mono ?_
  rintro e w4 ⟨rfl, rfl⟩
  have hn := Lib.hid (names_made w3 w3.heap.size)
  have hb4 : Below w3.heap.size w3 (w3.alloc (.cells #[.slice none 0 0, .map none] 40)) := (Below.refl _ _).alloc (Nat.le_refl _) _
  generalize w3.alloc (.cells #[.slice none 0 0, .map none] 40) = w4 at hn hb4 ⊢
  obtain ⟨ac, nc, cc, rfl, hlc, hncc, hcc, hxc⟩ := HC.out.open
  go_wp2_with fail
  go_loopw [7] (fun i wr => ∃ k : Nat, k ≤ nc ∧ i = .int .i64 k ∧ Hid (NamesV wr w3.heap.size w3.heap.size ((c.take k).foldl putS [])) ∧ Below w3.heap.size w3 wr) (fun i _ => nc - (intOf i).toNat)
  case atStart => exact ⟨0, Nat.zero_le _, rfl, hn, hb4⟩
  case round =>
    obtain ⟨k, hk, rfl, HN, hbr⟩ := hrel
    by_cases hlt : k < nc
    · obtain ⟨b, o, rfl, c0⟩ := hxc.out k hlt
      have hblt := World.block_lt_of_cell? _ _ c0
      have c1 : wr.cell? ⟨b, o + k, none⟩ = some (.string (c.getD k ByteArray.empty)) := by rw [hbr.cell hblt]; exact c0
      have hkc : k < c.length := by have := hlc.out; omega
      have hy : (c.getD k ByteArray.empty).size ≤ maxLen := by
        have := hcs.out (c.getD k ByteArray.empty) (by rw [getD_of hkc]; exact List.getElem_mem _)
        unfold maxLen; omega
      have HI := Lib.hid (idx_put ((c.take k).foldl putS []) (c.getD k ByteArray.empty) (c.drop (k + 1)))
      rw [← foldl_split hkc] at HI
      have HT := Lib.hid (foldl_take_snoc hkc)
      have hLL : ((c.take k).foldl putS []).length + 1 ≤ 1000000 := by
        have h1 := foldl_len (c.take k) []
        have h2 : (c.take k).length ≤ 40 := by simp; omega
        simp at h1; simp at h2; omega
      clear c0
      generalize c.getD k ByteArray.empty = y at c1 hy HI HT
      generalize (c.take k).foldl putS [] = L at HN HI HT hLL
      have hp := Lib.hid (names_put w3.heap.size L y w3.heap.size _ hy hLL hbr.size HN.out)
      have hf : Hid (∀ W, Below w3.heap.size w3 W → Calls Try.prog 10 #[vw, .string y] W fun e w' => e = .returned (.int .i64 (place L y : Nat)) ∧ W = w') := Lib.hid (fun W hb => by
        have := find_any vw _ y W (HW.out.far rfl hb)
        rwa [HI.out] at this)
      have hp2 : Hid (∀ W, W.heap = wr.heap → Calls Try.prog 9 #[.pointer (some ⟨w3.heap.size, 0, none⟩), .string y] W (PutN w3.heap.size w3.heap.size L y W)) := Lib.hid (fun W hW => names_put w3.heap.size L y w3.heap.size W hy hLL (by rw [hW]; exact hbr.size) (by
        have := HN.out
        unfold NamesV World.ownsRow MapV World.ownsMap at this ⊢
        rw [hW]; exact this))
      have hbd : Below w3.heap.size w3 wr.drew := hbr.trans ⟨rfl, rfl, rfl, Nat.le_refl _, fun _ _ => rfl⟩
      go_wp2_with fail
      go_region_held3 (fun w' => w'.cell? ⟨b, o + k, none⟩ = some (.string y))
        (first | go_keep | exact (hb2.cell hblt).trans c1)
        (first
          | (go_at_call 9; refine (hp2.out wr.drew rfl).mono ?_; rintro e w5 ⟨rfl, hn2, hbx⟩; have hb2 := hbx.below (Nat.le_refl _))
          | (go_at_call 10; refine (hf.out _ (hbd.trans hb2)).mono ?_; rintro e w6 ⟨rfl, rfl⟩))
      go_wp2_with fail
      go_roundw
      case rel => exact ⟨k + 1, by omega, by go_num, Lib.hid (by rw [← HT.out]; exact hn2), hbd.trans hb2⟩
      case measure => simp [intOf]; omega
    · have HN2 : Hid (NamesV wr w3.heap.size w3.heap.size (c.foldl putS [])) := Lib.hid (by
        have := HN.out
        rwa [List.take_of_length_le (by have := hlc.out; omega)] at this)
      clear HN hn hb4 hxc HC hlc
      have hWl : (c.foldl putS []).length ≤ 40 := by
        have := foldl_len c []
        simp at this; omega
      generalize c.foldl putS [] = W at HN2 HW hWl
      have hwr := HW.out.far rfl hbr
      have HWR := Lib.hid hwr
      have hwb := hbw.trans (hbr.mono hbw.size)
      obtain ⟨aw, nw, cw, rfl, hlw, hnw, hcw, hxw⟩ := hwr.open
      have hnw40 : nw ≤ 40 := by rw [hlw.out]; exact hWl
      clear hWl hwr HW hbr
      go_wp2_with fail
      go_loopw [8] (fun i wq => ∃ (j : Int) (q : Nat), -1 ≤ j ∧ j ≤ nw + 1 ∧ i = .int .i64 j ∧ wq = wr.drewN q) (fun i _ => (nw + 1 - intOf i).toNat)
      case atStart => exact ⟨-1, 0, by omega, by omega, rfl, rfl⟩
      case round =>
        obtain ⟨j, q, hj1, hj2, rfl, rfl⟩ := hrel
        have HNq : Hid (∀ q, NamesV (wr.drewN q) w3.heap.size w3.heap.size W) := Lib.hid (fun q => HN2.out)
        by_cases hend : j = nw + 1
        · have hf : Hid (∀ W', W'.heap = wr.heap → Calls Try.prog 10 #[.slice aw nw cw, .string s] W' fun e w' => e = .returned (.int .i64 (idx W s)) ∧ W' = w') := Lib.hid (fun W' h => find_any _ _ s W' (by
            have := HWR.out
            unfold StrsV CellsV World.cell? at this ⊢
            rw [h]; exact this))
          have HLW : Hid (W.length = nw) := Lib.hid hlw.out.symm
          clear hlw hxw
          subst hend
          go_wp2_with fail
          refine (names_len _ W _ _ (HNq.out q)).mono ?_
          rintro e w5 ⟨rfl, rfl⟩
          rw [HLW.out]
          go_wp2_with fail
          refine (names_find _ W s _ _ HSS.out (HNq.out q)).mono ?_
          rintro e w5 ⟨rfl, rfl⟩
          go_wp2_with fail
          refine (hf.out (wr.drewN q) rfl).mono ?_
          rintro e w5 ⟨rfl, rfl⟩
          generalize idx W s = r
          go_wp2_with fail
          go_ret
          exact ⟨rfl, hwb.trans ⟨rfl, rfl, rfl, Nat.le_refl _, fun _ _ => rfl⟩⟩
        · by_cases hin : 0 ≤ j ∧ j < nw
          · obtain ⟨k, rfl⟩ := Int.eq_ofNat_of_zero_le hin.1
            have hk : k < nw := by omega
            obtain ⟨b, o, rfl, c1⟩ := hxw.out k hk
            have hA := (names_at w3.heap.size W (k : Int) w3.heap.size (wr.drewN q) (HNq.out q))
            rw [show atS W (k : Int) = W.getD k ByteArray.empty by unfold atS; rw [if_pos ⟨by omega, by rw [← hlw.out]; omega⟩]; rfl, show atB W (k : Int) = true from decide_eq_true ⟨by omega, by rw [← hlw.out]; omega⟩] at hA
            have HA := Lib.hid hA
            clear hA hin hend hj1 hj2
            generalize W.getD k ByteArray.empty = y at c1 HA
            go_wp2_with fail
            refine HA.out.mono ?_
            rintro e w5 ⟨rfl, rfl⟩
            go_wp2_with fail
            go_roundw
            case rel => exact ⟨(k : Int) + 1, _, by omega, by omega, rfl, rfl⟩
            case measure => simp [intOf]; omega
          · have hA := (names_at w3.heap.size W j w3.heap.size (wr.drewN q) (HNq.out q))
            rw [show atS W j = ByteArray.empty by unfold atS; rw [if_neg (by rw [← hlw.out]; omega)], show atB W j = false from decide_eq_false (by rw [← hlw.out]; omega)] at hA
            have HA := Lib.hid hA
            clear hA
            have hjj : j = -1 ∨ j = nw := by omega
            clear hin hend hj1 hj2
            rcases hjj with rfl | rfl
            · go_wp2_with fail
              refine HA.out.mono ?_
              rintro e w5 ⟨rfl, rfl⟩
              go_wp2_with fail
              go_roundw
              case rel => exact ⟨0, _, by omega, by omega, rfl, rfl⟩
              case measure => simp [intOf]; omega
            · go_wp2_with fail
              refine HA.out.mono ?_
              rintro e w5 ⟨rfl, rfl⟩
              go_wp2_with fail
              go_roundw
              case rel => exact ⟨(nw : Int) + 1, _, by omega, by omega, rfl, rfl⟩
              case measure => simp [intOf]

end Go.Proofs.Ytijnekbhpdcemaa
