/- The law CombGets: each pair is got by its row and place, nothing else is. -/
import Derived.Test.YtjeebcnjdhlcfaaDoorCombL1
namespace Go.Proofs.YtjeebcnjdhlcfaaDoor
open Go.RowKit
set_option linter.unusedVariables false
set_option linter.unusedSimpArgs false

theorem laid_base {rows : List (List Pr)} (h : mayS rows = true) (hl : rows.length ≤ 20) (i : Nat) : 0 ≤ (layS rows).1.getD i 0 ∧ (layS rows).1.getD i 0 ≤ 1000000 := by
  have H := laid_all h
  have ho := orderS_is rows
  refine ⟨H.nonneg i, ?_⟩
  by_cases hi : i ∈ orderS rows
  · have hne := ((ho.2 i).1 hi).2
    obtain ⟨p, hp⟩ := List.exists_mem_of_ne_nil _ hne
    have h1 := (H.pair i hi p hp).1
    have h2 := H.small
    have h3 := orderS_len rows
    have h4 := fullS_le rows
    have := Nat.mul_le_mul_left 1000 (show (orderS rows).length ≤ 20 by omega)
    omega
  · rw [H.base0 i hi]; omega

/-- what is told of a row and a place, or nothing -/
def wantS (rows : List (List Pr)) (i k : Int) : Int × Bool := if 0 ≤ i ∧ i < rows.length then getS (rowAt rows i.toNat) k else (0, false)

/-- the comb in a variable, and the rows -/
structure Held (w0 : World) (x : Addr) (b v k : Value) (rv : Value) (rows : List (List Pr)) : Prop where
  box : ∀ (W : World) (i : Nat) (u : Value), Below w0.heap.size w0 W → #[b, v, k][i]? = some u → W.cell? ⟨x.block, i, none⟩ = some u
  comb : CombV w0 (.agg #[b, v, k]) (layS rows)
  rws : PRowsV w0 rv rows
  may : mayS rows = true
  len : rows.length ≤ 14
theorem Held.get {w0 : World} {x : Addr} {b v k rv : Value} {rows : List (List Pr)} (h : Held w0 x b v k rv rows) (W : World) (hW : Below w0.heap.size w0 W) (i a : Int) :
    Calls Tryd.prog 16 #[.agg #[b, v, k], .int .i64 i, .int .i64 a] W (TellsPair (wantS rows i a) W) := by
  have := get_any _ _ i a W (h.comb.below hW) (laid_all h.may).len (laid_base h.may (by have := h.len; omega)) (fun hi => by have := (laid_all h.may).blen; have := h.len; omega)
  rw [get_laid h.may] at this
  unfold wantS
  exact this
theorem Held.below {w0 w1 : World} {x : Addr} {b v k rv : Value} {rows : List (List Pr)} (h : Held w0 x b v k rv rows) (hb : Below w0.heap.size w0 w1) : Held w1 x b v k rv rows :=
  ⟨fun W i u hW hu => h.box W i u (hb.trans (hW.mono hb.size)) hu, h.comb.below hb, PRowsV.below h.rws hb, h.may, h.len⟩

set_option maxRecDepth 100000 in
set_option maxHeartbeats 16000000 in
theorem combGets_walk (v : Value) (L : List (List Int)) (wide row at0 : Int) {w : World} (w0 : IRowsIn w v L) (w1 : (Lit.int .i64 wide).wf = true) (w2 : (Lit.int .i64 row).wf = true) (w3 : (Lit.int .i64 at0).wf = true) (hT : TabAt 0 Lib.deBruijn64tab w) :
    Calls Tryd.prog 4 #[v, .int .i64 wide, .int .i64 row, .int .i64 at0] w fun e w' => e = .returned (.bool true) ∧ Below w.heap.size w w' := by
  have hE := combEnv_of hT
  clear hT w3
  obtain ⟨hv, hvw⟩ := w0
  have HW := Lib.hid (wakes_any w hE)
  have HLD := Lib.hid (fun (W : World) (hW : Below w.heap.size w W) => laid_any v L wide W (IRowsV.below hv hW) hvw w1)
  have hmay := laidS_may L (1 + wide % 60) (by have := Int.emod_nonneg wide (show (60 : Int) ≠ 0 by omega); omega) (by have := Int.emod_lt_of_pos wide (show (0 : Int) < 60 by omega); omega)
  have hlen := laidS_len L (1 + wide % 60)
  have HE := Lib.hid hE
  generalize laidS L (1 + wide % 60) = rows at HLD hmay hlen
  have HM := Lib.hid hmay
  have hrl : rows.length ≤ 14 := by omega
  clear hv hvw hE hmay hlen w1
  go_enter Tryd.func4, Tryd.ntmps4
  go_wp2_with fail
  refine HW.out.mono ?_
  rintro e w2' ⟨rfl, hb2⟩
  have HB2 := Lib.hid hb2
  clear hb2
  go_wp2_with fail
  refine (HLD.out _ HB2.out).mono ?_
  rintro e w3 ⟨⟨rv, rfl, hrv⟩, hb3⟩
  have hb03 := HB2.out.trans (hb3.mono HB2.out.size)
  have HL1 := Lib.hid (layC_any hrv (by have := fullS_le rows; omega) (HE.out.below hb03))
  have HB3 := Lib.hid (And.intro hb03 hrv)
  clear hb03 hb3 hrv
  go_wp2_with fail
  refine HL1.out.mono ?_
  rintro e w5 ⟨ba, bn, bc, va, vn, vc, ka, kn, kc, rfl, hC, hb5⟩
  have hal := (Below.refl w5.heap.size w5).alloc (Nat.le_refl _) (.cells #[.slice ba bn bc, .slice va vn vc, .slice ka kn kc] 30)
  have hheld : Held (w5.alloc (.cells #[.slice ba bn bc, .slice va vn vc, .slice ka kn kc] 30)) ⟨w5.heap.size, 0, none⟩ (.slice ba bn bc) (.slice va vn vc) (.slice ka kn kc) rv rows :=
    ⟨fun W i u hW hu => by
      rw [hW.cell (p := ⟨w5.heap.size, i, none⟩) (by simp), World.cell?_alloc_at _ _ _ _ rfl]; exact hu, hC.below hal, PRowsV.below (PRowsV.below HB3.out.2 hb5) hal, HM.out, hrl⟩
  have hw6 := (HB3.out.1.trans (hb5.mono HB3.out.1.size)).trans (hal.mono (by have := (HB3.out.1.trans (hb5.mono HB3.out.1.size)).size; omega))
  obtain ⟨ra, rn, rc, rfl, hrn, hrc, hrm, hrx⟩ := PRowsV.open hheld.rws
  have HH := Lib.hid hheld
  have hrn14 : rn ≤ 14 := by have := hrn.out; omega
  have HW6 := Lib.hid hw6
  clear hC hb5 hal hheld hw6 HL1 hrc hrm HLD HW HB3 HB2
  go_wp2_with fail
  generalize w5.alloc (.cells #[.slice ba bn bc, .slice va vn vc, .slice ka kn kc] 30) = w6 at hrx HH HW6 ⊢
  generalize w5.heap.size = bx at HH ⊢
  have hg := Lib.hid (fun (W : World) (hW : Below w6.heap.size w6 W) (i a : Int) => HH.out.get W hW i a)
  have hbx := Lib.hid (fun (W : World) (hW : Below w6.heap.size w6 W) => (show W.cell? ⟨bx, 0, none⟩ = some (.slice ba bn bc) ∧ W.cell? ⟨bx, 1, none⟩ = some (.slice va vn vc) ∧ W.cell? ⟨bx, 2, none⟩ = some (.slice ka kn kc) from
    ⟨HH.out.box W 0 _ hW rfl, HH.out.box W 1 _ hW rfl, HH.out.box W 2 _ hW rfl⟩))
  go_loopw [11] (fun x W => ∃ i : Int, -1 ≤ i ∧ i ≤ rn + 1 ∧ x = .int .i64 i ∧ Below w6.heap.size w6 W) (fun x _ => (rn + 2 - intOf x).toNat)
  case atStart => exact ⟨-1, by omega, by omega, rfl, Below.refl _ _⟩
  case round =>
    obtain ⟨i, hi0, hi1, rfl, hb7⟩ := hrel
    rename World => w7
    by_cases hin : i ≤ (rn : Int)
    · have hi9 : i ≤ 1000000000000 := by omega
      by_cases hir : 0 ≤ i ∧ i < rn
      · obtain ⟨r, rfl⟩ := Int.eq_ofNat_of_zero_le hir.1
        have hrr : r < rn := by omega
        have hrI : (r : Int) < (rn : Int) := by omega
        obtain ⟨b1, o1, u1, rfl, c0, r1⟩ := hrx.out r hrr
        have hcell := Lib.hid (fun (W : World) (hW : Below w6.heap.size w6 W) => (hW.cell (World.block_lt_of_cell? _ _ c0)).trans c0)
        have hrf := Lib.hid (fun (W : World) (hW : Below w6.heap.size w6 W) (a : Int) => refGet_any u1 (rowAt rows r) a W (PairsV.below r1 hW))
        have hgB := Lib.hid (fun (W : World) (hW : Below w6.heap.size w6 W) (a : Int) => (show Calls Tryd.prog 16 #[.agg #[.slice ba bn bc, .slice va vn vc, .slice ka kn kc], .int .i64 (r : Int), .int .i64 a] W (TellsPair (getS (rowAt rows r) a) W) from by
          have := hg.out W hW r a
          unfold wantS at this
          rw [if_pos ⟨by omega, by have := hrn.out; omega⟩] at this
          exact this))
        clear c0 r1 hir
        have HB7 := Lib.hid hb7
        go_wp2_with fail
        go_loopw [12] (fun x W => ∃ k : Int, -1 ≤ k ∧ k ≤ 70 ∧ x = .int .i64 k ∧ Below w6.heap.size w6 W) (fun x _ => (70 - intOf x).toNat)
        case atStart => exact ⟨-1, by omega, by omega, rfl, HB7.out⟩
        case round =>
          clear hb7
          obtain ⟨k, hk0, hk1, rfl, hb8⟩ := hrel
          rename World => w8
          have c1 := hcell.out w8 hb8
          by_cases hk : k < 70
          · have HB8 := Lib.hid hb8
            clear hb8
            go_wp2_with fail
            refine (hrf.out _ HB8.out k).mono ?_
            rintro e w9 ⟨rfl, hb9⟩
            have hb69 := HB8.out.trans (hb9.mono HB8.out.size)
            obtain ⟨p0, p1, p2⟩ := hbx.out w9 hb69
            have HB9 := Lib.hid hb69
            have HGB := Lib.hid (hgB.out _ hb69 k)
            generalize getS (rowAt rows r) k = want at HGB
            obtain ⟨wv, wb⟩ := want
            clear hb9 hb69 c1
            go_wp2_with fail
            refine HGB.out.mono ?_
            rintro e w10 ⟨rfl, hb10⟩
            have hb70 := HB9.out.trans (hb10.mono HB9.out.size)
            have e1 : (wv != wv) = false := by simp
            have e2 : (wb != wb) = false := by simp
            clear hb10 p0 p1 p2
            go_wp2_with fail
            go_roundw
            case rel => exact ⟨k + 1, by omega, by omega, rfl, hb70⟩
            case measure => simp [intOf]; omega
          · have HB8 := Lib.hid hb8
            clear hb8
            go_wp2_with fail
            refine (hrf.out _ HB8.out at0).mono ?_
            rintro e w9 ⟨rfl, hb9⟩
            have hb69 := HB8.out.trans (hb9.mono HB8.out.size)
            obtain ⟨p0, p1, p2⟩ := hbx.out w9 hb69
            have HB9 := Lib.hid hb69
            have HGB := Lib.hid (hgB.out _ hb69 at0)
            generalize getS (rowAt rows r) at0 = want at HGB
            obtain ⟨wv, wb⟩ := want
            clear hb9 hb69 c1
            go_wp2_with fail
            refine HGB.out.mono ?_
            rintro e w10 ⟨rfl, hb10⟩
            have hb70 := HB9.out.trans (hb10.mono HB9.out.size)
            have e1 : (wv != wv) = false := by simp
            have e2 : (wb != wb) = false := by simp
            clear hb10 p0 p1 p2
            go_wp2_with fail
            go_roundw
            case rel => exact ⟨(r : Int) + 1, by omega, by omega, rfl, hb70⟩
            case measure => simp [intOf]; omega
      · have hgA := Lib.hid (fun (W : World) (hW : Below w6.heap.size w6 W) (a : Int) => (show Calls Tryd.prog 16 #[.agg #[.slice ba bn bc, .slice va vn vc, .slice ka kn kc], .int .i64 i, .int .i64 a] W (TellsPair (0, false) W) from by
          have := hg.out W hW i a
          unfold wantS at this
          rw [if_neg (by have := hrn.out; omega)] at this
          exact this))
        by_cases hneg : i < 0
        · have hneg' : ¬ 0 ≤ i := by omega
          clear hir
          have HB7 := Lib.hid hb7
          go_wp2_with fail
          go_loopw [12] (fun x W => ∃ k : Int, -1 ≤ k ∧ k ≤ 70 ∧ x = .int .i64 k ∧ Below w6.heap.size w6 W) (fun x _ => (70 - intOf x).toNat)
          case atStart => exact ⟨-1, by omega, by omega, rfl, HB7.out⟩
          case round =>
            clear hb7
            obtain ⟨k, hk0, hk1, rfl, hb8⟩ := hrel
            rename World => w8
            obtain ⟨p0, p1, p2⟩ := hbx.out w8 hb8
            by_cases hk : k < 70
            · have HB8 := Lib.hid hb8
              clear hb8
              go_wp2_with fail
              refine (hgA.out _ HB8.out k).mono ?_
              rintro e w9 ⟨rfl, hb9⟩
              have hb69 := HB8.out.trans (hb9.mono HB8.out.size)
              clear hb9 p0 p1 p2
              go_wp2_with fail
              go_roundw
              case rel => exact ⟨k + 1, by omega, by omega, rfl, hb69⟩
              case measure => simp [intOf]; omega
            · have HB8 := Lib.hid hb8
              clear hb8
              go_wp2_with fail
              refine (hgA.out _ HB8.out at0).mono ?_
              rintro e w9 ⟨rfl, hb9⟩
              have hb69 := HB8.out.trans (hb9.mono HB8.out.size)
              clear hb9 p0 p1 p2
              go_wp2_with fail
              go_roundw
              case rel => exact ⟨i + 1, by omega, by omega, rfl, hb69⟩
              case measure => simp [intOf]; omega
        · have hneg' : 0 ≤ i := by omega
          have hneg2 : ¬ i < (rn : Int) := by omega
          clear hir
          have HB7 := Lib.hid hb7
          go_wp2_with fail
          go_loopw [12] (fun x W => ∃ k : Int, -1 ≤ k ∧ k ≤ 70 ∧ x = .int .i64 k ∧ Below w6.heap.size w6 W) (fun x _ => (70 - intOf x).toNat)
          case atStart => exact ⟨-1, by omega, by omega, rfl, HB7.out⟩
          case round =>
            clear hb7
            obtain ⟨k, hk0, hk1, rfl, hb8⟩ := hrel
            rename World => w8
            obtain ⟨p0, p1, p2⟩ := hbx.out w8 hb8
            by_cases hk : k < 70
            · have HB8 := Lib.hid hb8
              clear hb8
              go_wp2_with fail
              refine (hgA.out _ HB8.out k).mono ?_
              rintro e w9 ⟨rfl, hb9⟩
              have hb69 := HB8.out.trans (hb9.mono HB8.out.size)
              clear hb9 p0 p1 p2
              go_wp2_with fail
              go_roundw
              case rel => exact ⟨k + 1, by omega, by omega, rfl, hb69⟩
              case measure => simp [intOf]; omega
            · have HB8 := Lib.hid hb8
              clear hb8
              go_wp2_with fail
              refine (hgA.out _ HB8.out at0).mono ?_
              rintro e w9 ⟨rfl, hb9⟩
              have hb69 := HB8.out.trans (hb9.mono HB8.out.size)
              clear hb9 p0 p1 p2
              go_wp2_with fail
              go_roundw
              case rel => exact ⟨i + 1, by omega, by omega, rfl, hb69⟩
              case measure => simp [intOf]; omega
    · obtain ⟨p0, p1, p2⟩ := hbx.out w7 hb7
      have HB7 := Lib.hid hb7
      have HGB := Lib.hid (hg.out w7 hb7 row 0)
      have hwant : ¬ (0 ≤ row ∧ row < (rn : Int)) → (wantS rows row 0).2 = false := fun h => by
        unfold wantS; rw [if_neg (by have := hrn.out; omega)]
      generalize wantS rows row 0 = want at HGB hwant
      obtain ⟨wv, wb⟩ := want
      have HWT := Lib.hid hwant
      clear hb7 hwant
      go_wp2_with fail
      refine HGB.out.mono ?_
      rintro e w8 ⟨rfl, hb8⟩
      have hwe := HW6.out.trans ((HB7.out.trans (hb8.mono HB7.out.size)).mono HW6.out.size)
      clear hb8 p0 p1 p2
      by_cases h0 : 0 ≤ row
      · by_cases h1 : row < (rn : Int)
        · go_wp2_with fail
          go_ret
          exact ⟨rfl, hwe⟩
        · obtain rfl : wb = false := HWT.out (by omega)
          go_wp2_with fail
          go_ret
          exact ⟨rfl, hwe⟩
      · obtain rfl : wb = false := HWT.out (by omega)
        go_wp2_with fail
        go_ret
        exact ⟨rfl, hwe⟩
end Go.Proofs.YtjeebcnjdhlcfaaDoor
