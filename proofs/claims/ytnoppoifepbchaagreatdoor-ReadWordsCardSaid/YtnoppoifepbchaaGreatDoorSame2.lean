/- Alternatives, sources: are they the same? The document's. -/
import Derived.Test.YtnoppoifepbchaaGreatDoorSame1
import Derived.Deep.RegionHeld3
namespace Go.Proofs.YtnoppoifepbchaaGreatDoor
open Go.RowKit
set_option linter.unusedVariables false
set_option linter.unusedSimpArgs false

/-- two values that were put into memory, in every world behind -/
theorem boxes2 {w : World} {A B : Array Value} {T U : TypeId} {W : World} (hW : Below ((w.alloc (.cells A T)).alloc (.cells B U)).heap.size ((w.alloc (.cells A T)).alloc (.cells B U)) W) :
  (∀ i u, A[i]? = some u → W.cell? ⟨w.heap.size, i, none⟩ = some u) ∧ (∀ i u, B[i]? = some u → W.cell? ⟨w.heap.size + 1, i, none⟩ = some u) := by
 refine ⟨fun i u hu => ?_, fun i u hu => ?_⟩
 · rw [hW.cell (p := ⟨w.heap.size, i, none⟩) (by simp; omega), World.cell?_alloc_past _ _ _ (by simp), World.cell?_alloc_at _ _ _ _ rfl]; exact hu
 · rw [hW.cell (p := ⟨w.heap.size + 1, i, none⟩) (by simp), World.cell?_alloc_at _ _ _ _ (by simp)]; exact hu

set_option maxRecDepth 100000 in
set_option maxHeartbeats 4000000 in
theorem eqAlt_any (va vb : Value) (a b : Al) (w : World) (ha : AlV w va a) (hb : AlV w vb b) : Calls Tryz.prog 50 #[va, vb] w fun e w' => e = .returned (.bool (a.same b)) ∧ Below w.heap.size w w' := by
 obtain ⟨pa, rfl, ha⟩ := ha
 obtain ⟨pb, rfl, hb⟩ := hb
 obtain ⟨a1, n1, c1, rfl, hn1, hc1, hm1, hx1⟩ := ha.open
 obtain ⟨a2, n2, c2, rfl, hn2, hc2, hm2, hx2⟩ := hb.open
 have HS := Lib.hid (fun W => eqSym_any a.prec b.prec W)
 have HR : Hid (a.same b = (a.prec.same b.prec && eqL Pt.same a.parts b.parts)) := Lib.hid rfl
 generalize a.same b = R at HR ⊢
 obtain ⟨la, xa, ka⟩ := a
 obtain ⟨lb, xb, kb⟩ := b
 simp only at *
 generalize hsm : xa.same xb = sm at HS HR
 clear hsm
 obtain ⟨an, al, am, ap⟩ := xa
 obtain ⟨bn, bl, bm, bp⟩ := xb
 simp only [Sm.agg] at *
 clear ha hb
 have hba := ((Below.refl w.heap.size w).alloc (Nat.le_refl _) (.cells #[.slice a1 n1 c1, .string an, .bool al, .int .i64 am, .int .i64 ap, .int .i64 ka] 62)).alloc (by simp) (.cells #[.slice a2 n2 c2, .string bn, .bool bl, .int .i64 bm, .int .i64 bp, .int .i64 kb] 62)
 have HC := Lib.hid (fun W hW => boxes2 (w := w) (A := #[.slice a1 n1 c1, .string an, .bool al, .int .i64 am, .int .i64 ap, .int .i64 ka]) (B := #[.slice a2 n2 c2, .string bn, .bool bl, .int .i64 bm, .int .i64 bp, .int .i64 kb]) (T := 62) (U := 62) (W := W) hW)
 by_cases hne : n1 = n2
 · obtain rfl := hne
   have HL : Hid (la.length = lb.length) := Lib.hid (by rw [← hn1.out, ← hn2.out])
   have h1 : (((n1 : Int)) != ((n1 : Int))) = false := by simp
   go_enter Tryz.func50, Tryz.ntmps50
   cases sm with
   | false =>
     go_wp2_with (first | (go_at_call 49; refine (HS.out _).mono ?_; rintro e w1 ⟨rfl, h1⟩))
     go_ret
     exact ⟨ret_bool (by rw [HR.out]; rfl), hba.trans (h1.mono (by simp; omega))⟩
   | true =>
     go_wp2_with (first | (go_at_call 49; refine (HS.out _).mono ?_; rintro e w1 ⟨rfl, h1⟩))
     have hw1 := hba.trans (h1.mono (by simp; omega))
     go_loopw [5] (fun i wr => ∃ k : Nat, k ≤ n1 ∧ i = .int .i64 k ∧ Below w1.heap.size w1 wr ∧ Hid (eqTo Pt.same la lb k)) (fun i _ => n1 - (intOf i).toNat)
     case atStart => exact ⟨0, Nat.zero_le _, rfl, Below.refl _ _, Lib.hid (eqTo_none _ _ _)⟩
     case round =>
      obtain ⟨k, hk, rfl, hbr, hp⟩ := hrel
      have hbz := h1.trans (hbr.mono h1.size)
      have q1 := (HC.out wr hbz).1 0 _ rfl
      have q2 := (HC.out wr hbz).2 0 _ rfl
      by_cases hlt : k < n1
      · obtain ⟨b1, o1, x, rfl, ex, x0, x1, x2, x3, x4, x5⟩ := hx1.out k hlt
        obtain ⟨b2, o2, y, rfl, ey, y0, y1, y2, y3, y4, y5⟩ := hx2.out k hlt
        have hbw := hw1.trans (hbr.mono hw1.size)
        have hb1 := World.block_lt_of_cell? _ _ x0
        have hb2 := World.block_lt_of_cell? _ _ y0
        replace x0 := (hbw.cell (p := ⟨b1, o1 + k * 6, none⟩) hb1).trans x0
        replace x1 := (hbw.cell (p := ⟨b1, o1 + k * 6 + 1, none⟩) hb1).trans x1
        replace x2 := (hbw.cell (p := ⟨b1, o1 + k * 6 + 2, none⟩) hb1).trans x2
        replace x3 := (hbw.cell (p := ⟨b1, o1 + k * 6 + 3, none⟩) hb1).trans x3
        replace x4 := (hbw.cell (p := ⟨b1, o1 + k * 6 + 4, none⟩) hb1).trans x4
        replace y0 := (hbw.cell (p := ⟨b2, o2 + k * 6, none⟩) hb2).trans y0
        replace y1 := (hbw.cell (p := ⟨b2, o2 + k * 6 + 1, none⟩) hb2).trans y1
        replace y2 := (hbw.cell (p := ⟨b2, o2 + k * 6 + 2, none⟩) hb2).trans y2
        replace y3 := (hbw.cell (p := ⟨b2, o2 + k * 6 + 3, none⟩) hb2).trans y3
        replace y4 := (hbw.cell (p := ⟨b2, o2 + k * 6 + 4, none⟩) hb2).trans y4
        have HY := Lib.hid (fun W => eqSym_any x.sym y.sym W)
        have HP : Hid (Pt.same x y = ((x.code.toList == y.code.toList) && x.sym.same y.sym)) := Lib.hid rfl
        have HN := Lib.hid (fun h => eqTo_next (p := Pt.same) hp.out ex ey h)
        have HF := Lib.hid (fun h => eqL_fails (p := Pt.same) ex ey h)
        generalize x.sym.same y.sym = ss at HY HP
        generalize Pt.same x y = R2 at HP HN HF
        obtain ⟨⟨xn, xl, xm, xp⟩, xc, xk⟩ := x
        obtain ⟨⟨yn, yl, ym, yp⟩, yc, yk⟩ := y
        simp only [Sm.agg] at x0 x1 x2 x3 x4 y0 y1 y2 y3 y4 HY HP
        clear ex ey hp hx1 hx2 h1 hbz
        cases hc : (xc.toList == yc.toList) with
        | false =>
          have hc2 : (xc.toList != yc.toList) = true := by simp [bne, hc]
          go_wp2_with fail
          go_quiet (fail)
          go_wp2_with fail
          go_ret
          exact ⟨ret_bool (by rw [HR.out, HF.out (by rw [HP.out, hc]; rfl), Bool.and_false]), ⟨hbw.os, hbw.tape, hbw.output, hbw.size, hbw.block⟩⟩
        | true =>
          have hc2 : (xc.toList != yc.toList) = false := by simp [bne, hc]
          have HSX := Lib.hid (fun (W : World) (hW : Below wr.heap.size wr W) => show W.cell? ⟨w.heap.size, 0, none⟩ = some (.slice (some ⟨b1, o1, none⟩) n1 c1) ∧ W.cell? ⟨w.heap.size + 1, 0, none⟩ = some (.slice (some ⟨b2, o2, none⟩) n1 c2) ∧ W.cell? ⟨b1, o1 + k * 6 + 4, none⟩ = some (.string xc) ∧ W.cell? ⟨b2, o2 + k * 6 + 4, none⟩ = some (.string yc) ∧ W.cell? ⟨b1, o1 + k * 6, none⟩ = some (.string xn) ∧ W.cell? ⟨b1, o1 + k * 6 + 1, none⟩ = some (.bool xl) ∧ W.cell? ⟨b1, o1 + k * 6 + 2, none⟩ = some (.int .i64 xm) ∧ W.cell? ⟨b1, o1 + k * 6 + 3, none⟩ = some (.int .i64 xp) ∧ W.cell? ⟨b2, o2 + k * 6, none⟩ = some (.string yn) ∧ W.cell? ⟨b2, o2 + k * 6 + 1, none⟩ = some (.bool yl) ∧ W.cell? ⟨b2, o2 + k * 6 + 2, none⟩ = some (.int .i64 ym) ∧ W.cell? ⟨b2, o2 + k * 6 + 3, none⟩ = some (.int .i64 yp) from
           ⟨(hW.cell (World.block_lt_of_cell? _ _ q1)).trans q1, (hW.cell (World.block_lt_of_cell? _ _ q2)).trans q2, (hW.cell (World.block_lt_of_cell? _ _ x4)).trans x4, (hW.cell (World.block_lt_of_cell? _ _ y4)).trans y4,
            (hW.cell (World.block_lt_of_cell? _ _ x0)).trans x0, (hW.cell (World.block_lt_of_cell? _ _ x1)).trans x1, (hW.cell (World.block_lt_of_cell? _ _ x2)).trans x2, (hW.cell (World.block_lt_of_cell? _ _ x3)).trans x3,
            (hW.cell (World.block_lt_of_cell? _ _ y0)).trans y0, (hW.cell (World.block_lt_of_cell? _ _ y1)).trans y1, (hW.cell (World.block_lt_of_cell? _ _ y2)).trans y2, (hW.cell (World.block_lt_of_cell? _ _ y3)).trans y3⟩)
          cases ss with
          | false =>
            go_wp2_with fail
            go_region_held3 (fun W => W.cell? ⟨w.heap.size, 0, none⟩ = some (.slice (some ⟨b1, o1, none⟩) n1 c1) ∧ W.cell? ⟨w.heap.size + 1, 0, none⟩ = some (.slice (some ⟨b2, o2, none⟩) n1 c2) ∧ W.cell? ⟨b1, o1 + k * 6 + 4, none⟩ = some (.string xc) ∧ W.cell? ⟨b2, o2 + k * 6 + 4, none⟩ = some (.string yc) ∧ W.cell? ⟨b1, o1 + k * 6, none⟩ = some (.string xn) ∧ W.cell? ⟨b1, o1 + k * 6 + 1, none⟩ = some (.bool xl) ∧ W.cell? ⟨b1, o1 + k * 6 + 2, none⟩ = some (.int .i64 xm) ∧ W.cell? ⟨b1, o1 + k * 6 + 3, none⟩ = some (.int .i64 xp) ∧ W.cell? ⟨b2, o2 + k * 6, none⟩ = some (.string yn) ∧ W.cell? ⟨b2, o2 + k * 6 + 1, none⟩ = some (.bool yl) ∧ W.cell? ⟨b2, o2 + k * 6 + 2, none⟩ = some (.int .i64 ym) ∧ W.cell? ⟨b2, o2 + k * 6 + 3, none⟩ = some (.int .i64 yp))
             (first | go_keep | exact ⟨q1, q2, x4, y4, x0, x1, x2, x3, y0, y1, y2, y3⟩ | exact hk9)
             (first | (go_at_call 49; refine (HY.out _).mono ?_; rintro e w9 ⟨rfl, hb9⟩; have hk9 := HSX.out _ ((Below.refl wr.heap.size wr).drew.trans hb9)))
            have hz : Below w.heap.size w w9 := hbw.drew.trans (hb9.mono hbw.size)
            go_wp2_with fail
            go_ret
            exact ⟨ret_bool (by rw [HR.out, HF.out (by rw [HP.out, hc]; rfl)]; rfl), hz⟩
          | true =>
            have HN2 := Lib.hid (HN.out (by rw [HP.out, hc]; rfl))
            go_wp2_with fail
            go_region_held3 (fun W => W.cell? ⟨w.heap.size, 0, none⟩ = some (.slice (some ⟨b1, o1, none⟩) n1 c1) ∧ W.cell? ⟨w.heap.size + 1, 0, none⟩ = some (.slice (some ⟨b2, o2, none⟩) n1 c2) ∧ W.cell? ⟨b1, o1 + k * 6 + 4, none⟩ = some (.string xc) ∧ W.cell? ⟨b2, o2 + k * 6 + 4, none⟩ = some (.string yc) ∧ W.cell? ⟨b1, o1 + k * 6, none⟩ = some (.string xn) ∧ W.cell? ⟨b1, o1 + k * 6 + 1, none⟩ = some (.bool xl) ∧ W.cell? ⟨b1, o1 + k * 6 + 2, none⟩ = some (.int .i64 xm) ∧ W.cell? ⟨b1, o1 + k * 6 + 3, none⟩ = some (.int .i64 xp) ∧ W.cell? ⟨b2, o2 + k * 6, none⟩ = some (.string yn) ∧ W.cell? ⟨b2, o2 + k * 6 + 1, none⟩ = some (.bool yl) ∧ W.cell? ⟨b2, o2 + k * 6 + 2, none⟩ = some (.int .i64 ym) ∧ W.cell? ⟨b2, o2 + k * 6 + 3, none⟩ = some (.int .i64 yp))
             (first | go_keep | exact ⟨q1, q2, x4, y4, x0, x1, x2, x3, y0, y1, y2, y3⟩ | exact hk9)
             (first | (go_at_call 49; refine (HY.out _).mono ?_; rintro e w9 ⟨rfl, hb9⟩; have hk9 := HSX.out _ ((Below.refl wr.heap.size wr).drew.trans hb9)))
            have hz : Below w1.heap.size w1 w9 := hbr.drew.trans (hb9.mono hbr.size)
            go_wp2_with fail
            go_roundw
            case rel => exact ⟨k + 1, by omega, by go_num, hz, HN2⟩
            case measure => simp [intOf]; omega
      · have HX := Lib.hid (eqL_done hp.out HL.out (by have := hn1.out; omega))
        clear hx1 hx2
        go_wp2_with fail
        go_ret
        exact ⟨ret_bool (by rw [HR.out, HX.out]; rfl), hw1.trans (hbr.mono hw1.size)⟩
 · have h1 : (((n1 : Int)) != ((n2 : Int))) = true := by simp; omega
   have HX : Hid (eqL Pt.same la lb = false) := Lib.hid (eqL_len (by rw [← hn1.out, ← hn2.out]; simpa using hne))
   go_enter Tryz.func50, Tryz.ntmps50
   go_wp2_with fail
   go_ret
   exact ⟨ret_bool (by rw [HR.out, HX.out, Bool.and_false]), hba⟩
end Go.Proofs.YtnoppoifepbchaaGreatDoor
