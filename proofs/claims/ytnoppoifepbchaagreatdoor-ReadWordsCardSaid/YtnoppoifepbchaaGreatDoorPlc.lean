/- Sources that are the same have the same places: the document's. -/
import Derived.Test.YtnoppoifepbchaaGreatDoorSame3
import Derived.BigQuiet
namespace Go.Proofs.YtnoppoifepbchaaGreatDoor
open Go.RowKit
set_option linter.unusedVariables false
set_option linter.unusedSimpArgs false

theorem cell_far {w W : World} (h : Below w.heap.size w W) {p : Addr} {u : Value} (hu : w.cell? p = some u) : W.cell? p = some u := (h.cell (World.block_lt_of_cell? _ _ hu)).trans hu
set_option maxRecDepth 100000 in
set_option maxHeartbeats 20000000 in
theorem places_any (va vb : Value) (s : So) (w : World) (ha : SoV w va s) (hb : SoV w vb s) : Calls Tryz.prog 24 #[va, vb] w fun e w' => e = .returned (.bool true) ∧ Below w.heap.size w w' := by
 obtain ⟨da, ra, rfl, hda, hra⟩ := ha
 obtain ⟨db, rb, rfl, hdb, hrb⟩ := hb
 obtain ⟨a1, n1, c1, rfl, hn1, hc1, hm1, hx1⟩ := hda.open
 obtain ⟨a2, n2, c2, rfl, hn2, hc2, hm2, hx2⟩ := hdb.open
 obtain ⟨a3, n3, c3, rfl, hn3, hc3, hm3, hx3⟩ := hra.open
 obtain ⟨a4, n4, c4, rfl, hn4, hc4, hm4, hx4⟩ := hrb.open
 obtain rfl : n1 = n2 := hn1.out.trans hn2.out.symm
 obtain rfl : n3 = n4 := hn3.out.trans hn4.out.symm
 obtain ⟨pa, la, ka, ta⟩ := s
 simp only at *
 clear hda hdb hra hrb
 have hba : Below w.heap.size w ((w.alloc (.cells #[.string pa, .slice a1 n1 c1, .slice a3 n3 c3, .string ta] 36)).alloc (.cells #[.string pa, .slice a2 n1 c2, .slice a4 n3 c4, .string ta] 36)) := ((Below.refl w.heap.size w).alloc (Nat.le_refl _) (.cells #[.string pa, .slice a1 n1 c1, .slice a3 n3 c3, .string ta] 36)).alloc (by simp) (.cells #[.string pa, .slice a2 n1 c2, .slice a4 n3 c4, .string ta] 36)
 have HC := Lib.hid (fun W (hW : Below ((w.alloc (.cells #[.string pa, .slice a1 n1 c1, .slice a3 n3 c3, .string ta] 36)).alloc (.cells #[.string pa, .slice a2 n1 c2, .slice a4 n3 c4, .string ta] 36)).heap.size ((w.alloc (.cells #[.string pa, .slice a1 n1 c1, .slice a3 n3 c3, .string ta] 36)).alloc (.cells #[.string pa, .slice a2 n1 c2, .slice a4 n3 c4, .string ta] 36)) W) => show W.cell? ⟨w.heap.size, 1, none⟩ = some (.slice a1 n1 c1) ∧ W.cell? ⟨w.heap.size + 1, 1, none⟩ = some (.slice a2 n1 c2) ∧ W.cell? ⟨w.heap.size, 2, none⟩ = some (.slice a3 n3 c3) ∧ W.cell? ⟨w.heap.size + 1, 2, none⟩ = some (.slice a4 n3 c4) from
  ⟨(boxes2 (w := w) hW).1 1 _ rfl, (boxes2 (w := w) hW).2 1 _ rfl, (boxes2 (w := w) hW).1 2 _ rfl, (boxes2 (w := w) hW).2 2 _ rfl⟩)
 go_enter Tryz.func24, Tryz.ntmps24
 go_wp2_with fail
 generalize ((w.alloc (.cells #[.string pa, .slice a1 n1 c1, .slice a3 n3 c3, .string ta] 36)).alloc (.cells #[.string pa, .slice a2 n1 c2, .slice a4 n3 c4, .string ta] 36)) = w1 at hba HC ⊢
 generalize w.heap.size + 1 = Q at HC ⊢
 generalize hP : w.heap.size = P at HC ⊢
 clear hn1 hn2 hn3 hn4
 go_loopw [5] (fun i wr => ∃ k : Nat, k ≤ n1 ∧ i = .int .i64 k ∧ Below w1.heap.size w1 wr) (fun i _ => n1 - (intOf i).toNat)
 case atStart => exact ⟨0, Nat.zero_le _, rfl, Below.refl _ _⟩
 case round =>
  obtain ⟨k, hk, rfl, hbr⟩ := hrel
  by_cases hlt : k < n1
  · obtain ⟨b1, o1, x, sx, rfl, ex, hsx, x0, x1, x2, x3⟩ := hx1.out k hlt
    obtain ⟨b2, o2, y, sy, rfl, ey, hsy, y0, y1, y2, y3⟩ := hx2.out k hlt
    obtain rfl : y = x := Option.some.inj (ey.symm.trans ex)
    obtain ⟨ax, nx, cx, rfl, hnx, hcx, hmx, hxx⟩ := hsx.open
    obtain ⟨ay, ny, cy, rfl, hny, hcy, hmy, hxy⟩ := hsy.open
    obtain rfl : ny = nx := hny.out.trans hnx.out.symm
    have HX := Lib.hid (fun W (hW : Below w1.heap.size w1 W) => show W.cell? ⟨b1, o1 + k * 4 + 2, none⟩ = some (.slice ax ny cx) ∧ W.cell? ⟨b2, o2 + k * 4 + 2, none⟩ = some (.slice ay ny cy) ∧ W.cell? ⟨b1, o1 + k * 4 + 3, none⟩ = some (.int .i64 y.pos) ∧ W.cell? ⟨b2, o2 + k * 4 + 3, none⟩ = some (.int .i64 y.pos) from
     ⟨cell_far (hba.trans (hW.mono hba.size)) x2, cell_far (hba.trans (hW.mono hba.size)) y2, cell_far (hba.trans (hW.mono hba.size)) x3, cell_far (hba.trans (hW.mono hba.size)) y3⟩)
    obtain ⟨z2, v2, z3, v3⟩ := HX.out wr hbr
    obtain ⟨q1, q2, _, _⟩ := HC.out wr hbr
    have i1 : (k : Int) < (n1 : Int) := by omega
    have hpe : (y.pos != y.pos) = false := by simp
    clear ex ey hsx hsy x0 x1 x2 x3 y0 y1 y2 y3 hx1 hx2 hx3 hx4 hnx hny
    go_wp2_with fail
    go_quiet (fail)
    have w4h : Below w1.heap.size w1 (wr.drewN nq) := ⟨hbr.os, hbr.tape, hbr.output, hbr.size, hbr.block⟩
    generalize wr.drewN nq = w4 at w4h ⊢
    clear q1 q2 z2 v2 z3 v3 hbr
    obtain ⟨z2, v2, z3, v3⟩ := HX.out w4 w4h
    obtain ⟨q1, q2, _, _⟩ := HC.out w4 w4h
    go_wp2_with fail
    clear q1 q2 z2 v2 z3 v3
    go_loopw [6] (fun i wv => ∃ j : Nat, j ≤ ny ∧ i = .int .i64 j ∧ Below w1.heap.size w1 wv) (fun i _ => ny - (intOf i).toNat)
    case atStart => exact ⟨0, Nat.zero_le _, rfl, w4h⟩
    case round =>
     obtain ⟨j, hj, rfl, hbv⟩ := hrel
     rename World => wv
     obtain ⟨z2, v2, _, _⟩ := HX.out wv hbv
     obtain ⟨q1, q2, _, _⟩ := HC.out wv hbv
     by_cases hjt : j < ny
     · obtain ⟨b3, o3, u, rfl, eu, u0, u1, u2, u3⟩ := hxx.out j hjt
       obtain ⟨b4, o4, v, rfl, ev, v0, v1, vv2, vv3⟩ := hxy.out j hjt
       obtain rfl : v = u := Option.some.inj (ev.symm.trans eu)
       have g3 := cell_far (hba.trans (hbv.mono hba.size)) u3
       have h3 := cell_far (hba.trans (hbv.mono hba.size)) vv3
       have j1 : (j : Int) < (ny : Int) := by omega
       have hpu : (v.pos != v.pos) = false := by simp
       clear eu ev u0 u1 u2 u3 v0 v1 vv2 vv3 hxx hxy
       go_wp2_with fail
       go_quiet (fail)
       have w5h : Below w1.heap.size w1 (wv.drewN nq) := ⟨hbv.os, hbv.tape, hbv.output, hbv.size, hbv.block⟩
       generalize wv.drewN nq = w5 at w5h ⊢
       go_wp2_with fail
       go_roundw
       case rel => exact ⟨j + 1, by omega, by go_num, w5h⟩
       case measure => simp [intOf]; omega
     · clear hxx hxy
       go_wp2_with fail
       go_roundw
       case rel => exact ⟨k + 1, by omega, by go_num, hbv⟩
       case measure => simp [intOf]; omega
  · clear hx1 hx2
    obtain ⟨q1, q2, _, _⟩ := HC.out wr hbr
    rename World => w2
    go_wp2_with fail
    clear q1 q2
    go_loopw [7] (fun i wr => ∃ k : Nat, k ≤ n3 ∧ i = .int .i64 k ∧ Below w1.heap.size w1 wr) (fun i _ => n3 - (intOf i).toNat)
    case atStart => exact ⟨0, Nat.zero_le _, rfl, hbr⟩
    case round =>
     clear hbr
     obtain ⟨k, hk, rfl, hbr⟩ := hrel
     rename World => wr
     by_cases hlt : k < n3
     · obtain ⟨b1, o1, x, sx, rfl, ex, hsx, x0, x1, x2⟩ := hx3.out k hlt
       obtain ⟨b2, o2, y, sy, rfl, ey, hsy, y0, y1, y2⟩ := hx4.out k hlt
       obtain rfl : y = x := Option.some.inj (ey.symm.trans ex)
       obtain ⟨ax, nx, cx, rfl, hnx, hcx, hmx, hxx⟩ := hsx.open
       obtain ⟨ay, ny, cy, rfl, hny, hcy, hmy, hxy⟩ := hsy.open
       obtain rfl : ny = nx := hny.out.trans hnx.out.symm
       have HX := Lib.hid (fun W (hW : Below w1.heap.size w1 W) => show W.cell? ⟨b1, o1 + k * 3 + 1, none⟩ = some (.slice ax ny cx) ∧ W.cell? ⟨b2, o2 + k * 3 + 1, none⟩ = some (.slice ay ny cy) ∧ W.cell? ⟨b1, o1 + k * 3 + 2, none⟩ = some (.int .i64 y.pos) ∧ W.cell? ⟨b2, o2 + k * 3 + 2, none⟩ = some (.int .i64 y.pos) from
        ⟨cell_far (hba.trans (hW.mono hba.size)) x1, cell_far (hba.trans (hW.mono hba.size)) y1, cell_far (hba.trans (hW.mono hba.size)) x2, cell_far (hba.trans (hW.mono hba.size)) y2⟩)
       obtain ⟨z1, v1, z2, v2⟩ := HX.out wr hbr
       obtain ⟨_, _, q3, q4⟩ := HC.out wr hbr
       have i1 : (k : Int) < (n3 : Int) := by omega
       have hpe : (y.pos != y.pos) = false := by simp
       clear ex ey hsx hsy x0 x1 x2 y0 y1 y2 hx3 hx4 hnx hny
       go_wp2_with fail
       go_quiet (fail)
       have w4h : Below w1.heap.size w1 (wr.drewN nq) := ⟨hbr.os, hbr.tape, hbr.output, hbr.size, hbr.block⟩
       generalize wr.drewN nq = w4 at w4h ⊢
       clear q3 q4 z1 v1 z2 v2 hbr
       go_wp2_with fail
       go_loopw [8] (fun i wv => ∃ j : Nat, j ≤ ny ∧ i = .int .i64 j ∧ Below w1.heap.size w1 wv) (fun i _ => ny - (intOf i).toNat)
       case atStart => exact ⟨0, Nat.zero_le _, rfl, w4h⟩
       case round =>
        obtain ⟨j, hj, rfl, hbv⟩ := hrel
        rename World => wv
        obtain ⟨z1, v1, _, _⟩ := HX.out wv hbv
        obtain ⟨_, _, q3, q4⟩ := HC.out wv hbv
        by_cases hjt : j < ny
        · obtain ⟨b3, o3, u, pu, rfl, eu, hpu, u0, u1, u2, u3, u4, u5⟩ := hxx.out j hjt
          obtain ⟨b4, o4, v, pv, rfl, ev, hpv, v0, vv1, vv2, v3, v4, v5⟩ := hxy.out j hjt
          obtain rfl : v = u := Option.some.inj (ev.symm.trans eu)
          obtain ⟨ap, np, cp, rfl, hnp, hcp, hmp, hxp⟩ := hpu.open
          obtain ⟨aq, nq, cq, rfl, hnq, hcq, hmq, hxq⟩ := hpv.open
          obtain rfl : np = nq := hnp.out.trans hnq.out.symm
          replace u0 := cell_far (hba.trans (hbv.mono hba.size)) u0
          replace u1 := cell_far (hba.trans (hbv.mono hba.size)) u1
          replace u2 := cell_far (hba.trans (hbv.mono hba.size)) u2
          replace u3 := cell_far (hba.trans (hbv.mono hba.size)) u3
          replace u4 := cell_far (hba.trans (hbv.mono hba.size)) u4
          replace u5 := cell_far (hba.trans (hbv.mono hba.size)) u5
          replace v0 := cell_far (hba.trans (hbv.mono hba.size)) v0
          replace vv1 := cell_far (hba.trans (hbv.mono hba.size)) vv1
          replace vv2 := cell_far (hba.trans (hbv.mono hba.size)) vv2
          replace v3 := cell_far (hba.trans (hbv.mono hba.size)) v3
          replace v4 := cell_far (hba.trans (hbv.mono hba.size)) v4
          replace v5 := cell_far (hba.trans (hbv.mono hba.size)) v5
          have j1 : (j : Int) < (ny : Int) := by omega
          have i1 : (k : Int) < (n3 : Int) := by omega
          have hpe1 : (v.pos != v.pos) = false := by simp
          have hpe2 : (v.prec.pos != v.prec.pos) = false := by simp
          clear eu ev hxx hxy hnp hnq hpu hpv
          go_upto_region 19 with fail
          go_cut [9, 10] from 95 to 112 (fun x9 x10 wx => TwoIn wv x9 x10 #[.slice ap np cp, .string v.prec.name, .bool v.prec.lit, .int .i64 v.prec.num, .int .i64 v.prec.pos, .int .i64 v.pos] #[.slice aq np cq, .string v.prec.name, .bool v.prec.lit, .int .i64 v.prec.num, .int .i64 v.prec.pos, .int .i64 v.pos] 62 wx)
          case first =>
           go_region_held3 (fun W => W.cell? ⟨P, 2, none⟩ = some (.slice (some ⟨b1, o1, none⟩) n3 c3) ∧ W.cell? ⟨Q, 2, none⟩ = some (.slice (some ⟨b2, o2, none⟩) n3 c4) ∧ W.cell? ⟨b1, o1 + k * 3 + 1, none⟩ = some (.slice (some ⟨b3, o3, none⟩) ny cx) ∧ W.cell? ⟨b2, o2 + k * 3 + 1, none⟩ = some (.slice (some ⟨b4, o4, none⟩) ny cy) ∧
             W.cell? ⟨b3, o3 + j * 6, none⟩ = some (.slice ap np cp) ∧ W.cell? ⟨b3, o3 + j * 6 + 1, none⟩ = some (.string v.prec.name) ∧ W.cell? ⟨b3, o3 + j * 6 + 2, none⟩ = some (.bool v.prec.lit) ∧ W.cell? ⟨b3, o3 + j * 6 + 3, none⟩ = some (.int .i64 v.prec.num) ∧ W.cell? ⟨b3, o3 + j * 6 + 4, none⟩ = some (.int .i64 v.prec.pos) ∧ W.cell? ⟨b3, o3 + j * 6 + 5, none⟩ = some (.int .i64 v.pos) ∧
             W.cell? ⟨b4, o4 + j * 6, none⟩ = some (.slice aq np cq) ∧ W.cell? ⟨b4, o4 + j * 6 + 1, none⟩ = some (.string v.prec.name) ∧ W.cell? ⟨b4, o4 + j * 6 + 2, none⟩ = some (.bool v.prec.lit) ∧ W.cell? ⟨b4, o4 + j * 6 + 3, none⟩ = some (.int .i64 v.prec.num) ∧ W.cell? ⟨b4, o4 + j * 6 + 4, none⟩ = some (.int .i64 v.prec.pos) ∧ W.cell? ⟨b4, o4 + j * 6 + 5, none⟩ = some (.int .i64 v.pos))
            (first | go_keep | exact ⟨q3, q4, z1, v1, u0, u1, u2, u3, u4, u5, v0, vv1, vv2, v3, v4, v5⟩)
            (first | fail)
           all_goals
            go_wp2_with fail
            go_meet
            case rel => first | exact two_in _ _ _ _ | exact two_in' _ _ _ _
          case rest =>
           obtain ⟨p, q, rfl, rfl, hp0, hq0, hbc⟩ := hcut
           have hbx := hbv.trans (hbc.mono hbv.size)
           have HB := Lib.hid (fun W (hW : Below wc.heap.size wc W) => show W.cell? ⟨p, 0, none⟩ = some (.slice ap np cp) ∧ W.cell? ⟨q, 0, none⟩ = some (.slice aq np cq) from
            ⟨cell_far hW (cell_of_row wc p 0 _ _ (0, 0) hp0), cell_far hW (cell_of_row wc q 0 _ _ (0, 0) hq0)⟩)
           have d4 : wc.cell? ⟨p, 4, none⟩ = some (.int .i64 v.prec.pos) := cell_of_row wc p 4 _ _ (0, 0) hp0
           have d5 : wc.cell? ⟨p, 5, none⟩ = some (.int .i64 v.pos) := cell_of_row wc p 5 _ _ (0, 0) hp0
           have e4 : wc.cell? ⟨q, 4, none⟩ = some (.int .i64 v.prec.pos) := cell_of_row wc q 4 _ _ (0, 0) hq0
           have e5 : wc.cell? ⟨q, 5, none⟩ = some (.int .i64 v.pos) := cell_of_row wc q 5 _ _ (0, 0) hq0
           clear u0 u1 u2 u3 u4 u5 v0 vv1 vv2 v3 v4 v5 hp0 hq0 q3 q4 z1 v1
           go_wp2_with fail
           clear d4 d5 e4 e5
           go_loopw [11] (fun i wy => ∃ t : Nat, t ≤ np ∧ i = .int .i64 t ∧ Below wc.heap.size wc wy) (fun i _ => np - (intOf i).toNat)
           case atStart => exact ⟨0, Nat.zero_le _, rfl, Below.refl _ _⟩
           case round =>
            obtain ⟨t, ht, rfl, hby⟩ := hrel
            rename World => wy
            obtain ⟨s1, s2⟩ := HB.out wy hby
            have hbxy := hbx.trans (hby.mono hbx.size)
            by_cases htt : t < np
            · obtain ⟨b5, o5, f, rfl, ef, f0, f1, f2, f3, f4, f5⟩ := hxp.out t htt
              obtain ⟨b6, o6, g, rfl, eg, g0, g1, g2, g3, g4, g5⟩ := hxq.out t htt
              obtain rfl : g = f := Option.some.inj (eg.symm.trans ef)
              have t3 := cell_far (hba.trans (hbxy.mono hba.size)) f3
              have t5 := cell_far (hba.trans (hbxy.mono hba.size)) f5
              have r3 := cell_far (hba.trans (hbxy.mono hba.size)) g3
              have r5 := cell_far (hba.trans (hbxy.mono hba.size)) g5
              have t1 : (t : Int) < (np : Int) := by omega
              have hp1 : (g.pos != g.pos) = false := by simp
              have hp2 : (g.sym.pos != g.sym.pos) = false := by simp
              clear ef eg f0 f1 f2 f3 f4 f5 g0 g1 g2 g3 g4 g5 hxp hxq
              go_wp2_with fail
              go_quiet (fail)
              have hb6 : Below wc.heap.size wc (wy.drewN nq) := ⟨hby.os, hby.tape, hby.output, hby.size, hby.block⟩
              generalize wy.drewN nq = w6 at hb6 ⊢
              go_wp2_with fail
              go_roundw
              case rel => exact ⟨t + 1, by omega, by go_num, hb6⟩
              case measure => simp [intOf]; omega
            · clear hxp hxq
              go_wp2_with fail
              go_roundw
              case rel => exact ⟨j + 1, by omega, by go_num, hbxy⟩
              case measure => simp [intOf]; omega
        · clear hxx hxy
          have i1 : (k : Int) < (n3 : Int) := by omega
          go_wp2_with fail
          go_roundw
          case rel => exact ⟨k + 1, by omega, by go_num, hbv⟩
          case measure => simp [intOf]; omega
     · clear hx3 hx4
       obtain ⟨_, _, q3, q4⟩ := HC.out wr hbr
       go_wp2_with fail
       go_ret
       exact ⟨rfl, hba.trans (hbr.mono hba.size)⟩
end Go.Proofs.YtnoppoifepbchaaGreatDoor
