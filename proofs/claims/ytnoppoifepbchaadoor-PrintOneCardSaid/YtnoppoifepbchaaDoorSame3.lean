/- Sources: are they the same? The document's. -/
import Derived.Test.YtnoppoifepbchaaDoorSame1
import Derived.Deep.CutRange
import Derived.Deep.LoopGhost
import Derived.BigRegion
namespace Go.Proofs.YtnoppoifepbchaaDoor

open Go.RowKit
set_option linter.unusedVariables false
set_option linter.unusedSimpArgs false

def Rl.same (a b : Rl) : Bool := (a.left.toList == b.left.toList) && eqL Al.same a.alts b.alts
def Dc.same (a b : Dc) : Bool := (a.kind == b.kind) && ((a.tag.toList == b.tag.toList) && eqL Sm.same a.syms b.syms)
def So.same (a b : So) : Bool := (a.pro.toList == b.pro.toList) && ((a.tail.toList == b.tail.toList) && (eqL Dc.same a.decls b.decls && eqL Rl.same a.rules b.rules))

/-- two values that lie in blocks of their own, and what lies below -/
def TwoIn (w : World) (x y : Value) (A B : Array Value) (T : TypeId) (wc : World) : Prop :=
 ∃ p q, x = .pointer (some ⟨p, 0, none⟩) ∧ y = .pointer (some ⟨q, 0, none⟩) ∧ wc.heap[p]? = some (.cells A T (0, 0)) ∧ wc.heap[q]? = some (.cells B T (0, 0)) ∧ Below w.heap.size w wc

theorem two_in (w : World) (A B : Array Value) (T : TypeId) : TwoIn w (.pointer (some ⟨w.heap.size, 0, none⟩)) (.pointer (some ⟨w.heap.size + 1, 0, none⟩)) A B T ((w.alloc (.cells A T)).alloc (.cells B T)).drew := by
 have h2 := heap_alloc_new (w.alloc (.cells A T)) (.cells B T)
 have h1 : ((w.alloc (.cells A T)).alloc (.cells B T)).heap[w.heap.size]? = some (.cells A T (0, 0)) := (Below.heap_alloc _ _ _ (by simp)).trans (heap_alloc_new w (.cells A T))
 exact ⟨w.heap.size, w.heap.size + 1, rfl, rfl, h1, by rw [World.size_alloc] at h2; exact h2, (((Below.refl w.heap.size w).alloc (Nat.le_refl _) _).alloc (by simp) _).drew⟩
theorem two_in' (w : World) (A B : Array Value) (T : TypeId) : TwoIn w (.pointer (some ⟨w.heap.size + 1, 0, none⟩)) (.pointer (some ⟨w.heap.size, 0, none⟩)) A B T ((w.alloc (.cells B T)).alloc (.cells A T)).drew := by
 obtain ⟨p, q, e1, e2, h1, h2, h3⟩ := two_in w B A T
 exact ⟨q, p, e2, e1, h2, h1, h3⟩

set_option maxRecDepth 100000 in
set_option maxHeartbeats 8000000 in
theorem rsame_any (va vb : Value) (a b : So) (w : World) (ha : SoV w va a) (hb : SoV w vb b) : Calls Tryd.prog 13 #[va, vb] w fun e w' => e = .returned (.bool (a.same b)) ∧ Below w.heap.size w w' := by
 obtain ⟨da, ra, rfl, hda, hra⟩ := ha
 obtain ⟨db, rb, rfl, hdb, hrb⟩ := hb
 obtain ⟨a1, n1, c1, rfl, hn1, hc1, hm1, hx1⟩ := hda.open
 obtain ⟨a2, n2, c2, rfl, hn2, hc2, hm2, hx2⟩ := hdb.open
 obtain ⟨a3, n3, c3, rfl, hn3, hc3, hm3, hx3⟩ := hra.open
 obtain ⟨a4, n4, c4, rfl, hn4, hc4, hm4, hx4⟩ := hrb.open
 have HR : Hid (a.same b = ((a.pro.toList == b.pro.toList) && ((a.tail.toList == b.tail.toList) && (eqL Dc.same a.decls b.decls && eqL Rl.same a.rules b.rules)))) := Lib.hid rfl
 generalize a.same b = R at HR ⊢
 obtain ⟨pa, la, ka, ta⟩ := a
 obtain ⟨pb, lb, kb, tb⟩ := b
 simp only at *
 clear hda hdb hra hrb
 have hba := ((Below.refl w.heap.size w).alloc (Nat.le_refl _) (.cells #[.string pa, .slice a1 n1 c1, .slice a3 n3 c3, .string ta] 29)).alloc (by simp) (.cells #[.string pb, .slice a2 n2 c2, .slice a4 n4 c4, .string tb] 29)
 have HC := Lib.hid (fun W hW => boxes2 (w := w) (A := #[.string pa, .slice a1 n1 c1, .slice a3 n3 c3, .string ta]) (B := #[.string pb, .slice a2 n2 c2, .slice a4 n4 c4, .string tb]) (T := 29) (U := 29) (W := W) hW)
 go_enter Tryd.func13, Tryd.ntmps13
 cases h1 : (pa.toList == pb.toList) with
 | false =>
   have h1' : (pa.toList != pb.toList) = true := by simp [bne, h1]
   go_wp2_with fail
   go_ret
   exact ⟨ret_bool (by rw [HR.out, h1]; rfl), hba⟩
 | true =>
   have h1' : (pa.toList != pb.toList) = false := by simp [bne, h1]
   cases h2 : (ta.toList == tb.toList) with
   | false =>
     have h2' : (ta.toList != tb.toList) = true := by simp [bne, h2]
     go_wp2_with fail
     go_ret
     exact ⟨ret_bool (by rw [HR.out, h1, h2]; rfl), hba⟩
   | true =>
     have h2' : (ta.toList != tb.toList) = false := by simp [bne, h2]
     by_cases hne : n1 = n2
     · obtain rfl := hne
       have h3 : (((n1 : Int)) != ((n1 : Int))) = false := by simp
       by_cases hne4 : n3 = n4
       · obtain rfl := hne4
         have h4 : (((n3 : Int)) != ((n3 : Int))) = false := by simp
         have HL1 : Hid (la.length = lb.length) := Lib.hid (by rw [← hn1.out, ← hn2.out])
         have HL2 : Hid (ka.length = kb.length) := Lib.hid (by rw [← hn3.out, ← hn4.out])
         have HR2 : Hid (R = (eqL Dc.same la lb && eqL Rl.same ka kb)) := Lib.hid (by rw [HR.out, h1, h2]; rfl)
         clear HR
         go_wp2_with fail
         go_loopw [5] (fun i wr => ∃ k : Nat, k ≤ n1 ∧ i = .int .i64 k ∧ Below ((w.alloc (.cells #[.string pa, .slice a1 n1 c1, .slice a3 n3 c3, .string ta] 29)).alloc (.cells #[.string pb, .slice a2 n1 c2, .slice a4 n3 c4, .string tb] 29)).heap.size ((w.alloc (.cells #[.string pa, .slice a1 n1 c1, .slice a3 n3 c3, .string ta] 29)).alloc (.cells #[.string pb, .slice a2 n1 c2, .slice a4 n3 c4, .string tb] 29)) wr ∧ Hid (eqTo Dc.same la lb k)) (fun i _ => n1 - (intOf i).toNat)
         case atStart => exact ⟨0, Nat.zero_le _, rfl, Below.refl _ _, Lib.hid (eqTo_none _ _ _)⟩
         case round =>
          obtain ⟨k, hk, rfl, hbr, hp⟩ := hrel
          have q := HC.out wr hbr
          have q1 := q.1 1 _ rfl
          have q2 := q.2 1 _ rfl
          have q3 := q.1 2 _ rfl
          have q4 := q.2 2 _ rfl
          clear q
          by_cases hlt : k < n1
          · obtain ⟨b1, o1, x, sx, rfl, ex, hsx, x0, x1, x2, x3⟩ := hx1.out k hlt
            obtain ⟨b2, o2, y, sy, rfl, ey, hsy, y0, y1, y2, y3⟩ := hx2.out k hlt
            obtain ⟨ax, nx, cx, rfl, hnx, hcx, hmx, hxx⟩ := hsx.open
            obtain ⟨ay, ny, cy, rfl, hny, hcy, hmy, hxy⟩ := hsy.open
            clear hsx hsy
            have hbw := hba.trans (hbr.mono hba.size)
            have hb1 := World.block_lt_of_cell? _ _ x0
            have hb2 := World.block_lt_of_cell? _ _ y0
            replace x0 := (hbw.cell (p := ⟨b1, o1 + k * 4, none⟩) hb1).trans x0
            replace x1 := (hbw.cell (p := ⟨b1, o1 + k * 4 + 1, none⟩) hb1).trans x1
            replace x2 := (hbw.cell (p := ⟨b1, o1 + k * 4 + 2, none⟩) hb1).trans x2
            replace x3 := (hbw.cell (p := ⟨b1, o1 + k * 4 + 3, none⟩) hb1).trans x3
            replace y0 := (hbw.cell (p := ⟨b2, o2 + k * 4, none⟩) hb2).trans y0
            replace y1 := (hbw.cell (p := ⟨b2, o2 + k * 4 + 1, none⟩) hb2).trans y1
            replace y2 := (hbw.cell (p := ⟨b2, o2 + k * 4 + 2, none⟩) hb2).trans y2
            replace y3 := (hbw.cell (p := ⟨b2, o2 + k * 4 + 3, none⟩) hb2).trans y3
            have i1 : (k : Int) < (n1 : Int) := by omega
            go_upto_region 6 with fail
            go_cut [6, 7] from 43 to 99 (fun x6 x7 wx => TwoIn wr x6 x7 #[.int .i64 x.kind, .string x.tag, .slice ax nx cx, .int .i64 x.pos] #[.int .i64 y.kind, .string y.tag, .slice ay ny cy, .int .i64 y.pos] 51 wx)
            case first =>
             go_region_held3 (fun W => W.cell? ⟨w.heap.size, 1, none⟩ = some (.slice (some ⟨b1, o1, none⟩) n1 c1) ∧ W.cell? ⟨w.heap.size + 1, 1, none⟩ = some (.slice (some ⟨b2, o2, none⟩) n1 c2) ∧ W.cell? ⟨b1, o1 + k * 4, none⟩ = some (.int .i64 x.kind) ∧ W.cell? ⟨b1, o1 + k * 4 + 1, none⟩ = some (.string x.tag) ∧ W.cell? ⟨b1, o1 + k * 4 + 2, none⟩ = some (.slice ax nx cx) ∧ W.cell? ⟨b1, o1 + k * 4 + 3, none⟩ = some (.int .i64 x.pos) ∧ W.cell? ⟨b2, o2 + k * 4, none⟩ = some (.int .i64 y.kind) ∧ W.cell? ⟨b2, o2 + k * 4 + 1, none⟩ = some (.string y.tag) ∧ W.cell? ⟨b2, o2 + k * 4 + 2, none⟩ = some (.slice ay ny cy) ∧ W.cell? ⟨b2, o2 + k * 4 + 3, none⟩ = some (.int .i64 y.pos))
              (first | go_keep | exact ⟨q1, q2, x0, x1, x2, x3, y0, y1, y2, y3⟩)
              (first | fail)
             all_goals
              go_wp2_with fail
              go_meet
              case rel => first | exact two_in _ _ _ _ | exact two_in' _ _ _ _
            case rest =>
             obtain ⟨p, q, rfl, rfl, hp0, hq0, hbc⟩ := hcut
             have hbr2 := hbr.trans (hbc.mono hbr.size)
             have hbw2 := hbw.trans (hbc.mono hbw.size)
             have HP : Hid (Dc.same x y = ((x.kind == y.kind) && ((x.tag.toList == y.tag.toList) && eqL Sm.same x.syms y.syms))) := Lib.hid rfl
             have HN := Lib.hid (fun h => eqTo_next (p := Dc.same) hp.out ex ey h)
             have HF := Lib.hid (fun h => eqL_fails (p := Dc.same) ex ey h)
             generalize Dc.same x y = R2 at HP HN HF
             obtain ⟨xk, xt, xs, xp⟩ := x
             obtain ⟨yk, yt, ys, yp⟩ := y
             simp only at hp0 hq0 HP hnx hny hxx hxy
             have d0 : wc.cell? ⟨p, 0, none⟩ = some (.int .i64 xk) := by rw [cell_of_row wc p 0 _ _ (0, 0) hp0]; rfl
             have d1 : wc.cell? ⟨p, 1, none⟩ = some (.string xt) := by rw [cell_of_row wc p 1 _ _ (0, 0) hp0]; rfl
             have d2 : wc.cell? ⟨p, 2, none⟩ = some (.slice ax nx cx) := by rw [cell_of_row wc p 2 _ _ (0, 0) hp0]; rfl
             have e0 : wc.cell? ⟨q, 0, none⟩ = some (.int .i64 yk) := by rw [cell_of_row wc q 0 _ _ (0, 0) hq0]; rfl
             have e1 : wc.cell? ⟨q, 1, none⟩ = some (.string yt) := by rw [cell_of_row wc q 1 _ _ (0, 0) hq0]; rfl
             have e2 : wc.cell? ⟨q, 2, none⟩ = some (.slice ay ny cy) := by rw [cell_of_row wc q 2 _ _ (0, 0) hq0]; rfl
             clear x0 x1 x2 x3 y0 y1 y2 y3 ex ey hp hp0 hq0 hbc hbr hbw hb1 hb2 q1 q2 q3 q4 hx3 hx4
             by_cases hk1 : xk = yk
             · have hk2 : (xk != yk) = false := by simp [hk1]
               cases ht : (xt.toList == yt.toList) with
               | false =>
                 have ht2 : (xt.toList != yt.toList) = true := by simp [bne, ht]
                 go_wp2_with fail
                 go_ret
                 exact ⟨ret_bool (by rw [HR2.out, HF.out (by rw [HP.out, ht, Bool.false_and, Bool.and_false])]; rfl), hbw2⟩
               | true =>
                 have ht2 : (xt.toList != yt.toList) = false := by simp [bne, ht]
                 by_cases hl : nx = ny
                 · obtain rfl := hl
                   have hl2 : (((nx : Int)) != ((nx : Int))) = false := by simp
                   have HL : Hid (xs.length = ys.length) := Lib.hid (by rw [← hnx.out, ← hny.out])
                   have HP2 : Hid (R2 = eqL Sm.same xs ys) := Lib.hid (by rw [HP.out, ht]; simp [hk1])
                   clear HP
                   go_wp2_with fail
                   go_loopw [8] (fun i wv => ∃ j : Nat, j ≤ nx ∧ i = .int .i64 j ∧ Below wc.heap.size wc wv ∧ Hid (eqTo Sm.same xs ys j)) (fun i _ => nx - (intOf i).toNat)
                   case atStart => exact ⟨0, Nat.zero_le _, rfl, Below.refl _ _, Lib.hid (eqTo_none _ _ _)⟩
                   case round =>
                    obtain ⟨j, hj, rfl, hbv, hpj⟩ := hrel
                    rename World => wv
                    replace d2 := (hbv.cell (World.block_lt_of_cell? _ _ d2)).trans d2
                    replace e2 := (hbv.cell (World.block_lt_of_cell? _ _ e2)).trans e2
                    by_cases hjt : j < nx
                    · obtain ⟨b3, o3, u, rfl, eu, u0, u1, u2, u3⟩ := hxx.out j hjt
                      obtain ⟨b4, o4, v, rfl, ev, v0, v1, v2, v3⟩ := hxy.out j hjt
                      have hbw3 := hbw2.trans (hbv.mono hbw2.size)
                      have hb3 := World.block_lt_of_cell? _ _ u0
                      have hb4 := World.block_lt_of_cell? _ _ v0
                      replace u0 := (hbw3.cell (p := ⟨b3, o3 + j * 4, none⟩) hb3).trans u0
                      replace u1 := (hbw3.cell (p := ⟨b3, o3 + j * 4 + 1, none⟩) hb3).trans u1
                      replace u2 := (hbw3.cell (p := ⟨b3, o3 + j * 4 + 2, none⟩) hb3).trans u2
                      replace u3 := (hbw3.cell (p := ⟨b3, o3 + j * 4 + 3, none⟩) hb3).trans u3
                      replace v0 := (hbw3.cell (p := ⟨b4, o4 + j * 4, none⟩) hb4).trans v0
                      replace v1 := (hbw3.cell (p := ⟨b4, o4 + j * 4 + 1, none⟩) hb4).trans v1
                      replace v2 := (hbw3.cell (p := ⟨b4, o4 + j * 4 + 2, none⟩) hb4).trans v2
                      replace v3 := (hbw3.cell (p := ⟨b4, o4 + j * 4 + 3, none⟩) hb4).trans v3
                      have HY := Lib.hid (fun W => eqSym_any u v W)
                      have HN3 := Lib.hid (fun h => eqTo_next (p := Sm.same) hpj.out eu ev h)
                      have HF3 := Lib.hid (fun h => eqL_fails (p := Sm.same) eu ev h)
                      generalize Sm.same u v = ss at HY HN3 HF3
                      obtain ⟨un, ul, um, up⟩ := u
                      obtain ⟨vn, vl, vm, vp⟩ := v
                      simp only [Sm.agg] at u0 u1 u2 u3 v0 v1 v2 v3 HY
                      clear eu ev hpj hxx hxy
                      have j1 : (j : Int) < (nx : Int) := by omega
                      have HSX := Lib.hid (fun (W : World) (hW : Below wv.heap.size wv W) => show W.cell? ⟨p, 2, none⟩ = some (.slice (some ⟨b3, o3, none⟩) nx cx) ∧ W.cell? ⟨q, 2, none⟩ = some (.slice (some ⟨b4, o4, none⟩) nx cy) ∧ W.cell? ⟨b3, o3 + j * 4, none⟩ = some (.string un) ∧ W.cell? ⟨b3, o3 + j * 4 + 1, none⟩ = some (.bool ul) ∧ W.cell? ⟨b3, o3 + j * 4 + 2, none⟩ = some (.int .i64 um) ∧ W.cell? ⟨b3, o3 + j * 4 + 3, none⟩ = some (.int .i64 up) ∧ W.cell? ⟨b4, o4 + j * 4, none⟩ = some (.string vn) ∧ W.cell? ⟨b4, o4 + j * 4 + 1, none⟩ = some (.bool vl) ∧ W.cell? ⟨b4, o4 + j * 4 + 2, none⟩ = some (.int .i64 vm) ∧ W.cell? ⟨b4, o4 + j * 4 + 3, none⟩ = some (.int .i64 vp) from
                       ⟨(hW.cell (World.block_lt_of_cell? _ _ d2)).trans d2, (hW.cell (World.block_lt_of_cell? _ _ e2)).trans e2, (hW.cell (World.block_lt_of_cell? _ _ u0)).trans u0, (hW.cell (World.block_lt_of_cell? _ _ u1)).trans u1, (hW.cell (World.block_lt_of_cell? _ _ u2)).trans u2, (hW.cell (World.block_lt_of_cell? _ _ u3)).trans u3,
                        (hW.cell (World.block_lt_of_cell? _ _ v0)).trans v0, (hW.cell (World.block_lt_of_cell? _ _ v1)).trans v1, (hW.cell (World.block_lt_of_cell? _ _ v2)).trans v2, (hW.cell (World.block_lt_of_cell? _ _ v3)).trans v3⟩)
                      cases ss with
                      | false =>
                        go_wp2_with fail
                        go_region_held3 (fun W => W.cell? ⟨p, 2, none⟩ = some (.slice (some ⟨b3, o3, none⟩) nx cx) ∧ W.cell? ⟨q, 2, none⟩ = some (.slice (some ⟨b4, o4, none⟩) nx cy) ∧ W.cell? ⟨b3, o3 + j * 4, none⟩ = some (.string un) ∧ W.cell? ⟨b3, o3 + j * 4 + 1, none⟩ = some (.bool ul) ∧ W.cell? ⟨b3, o3 + j * 4 + 2, none⟩ = some (.int .i64 um) ∧ W.cell? ⟨b3, o3 + j * 4 + 3, none⟩ = some (.int .i64 up) ∧ W.cell? ⟨b4, o4 + j * 4, none⟩ = some (.string vn) ∧ W.cell? ⟨b4, o4 + j * 4 + 1, none⟩ = some (.bool vl) ∧ W.cell? ⟨b4, o4 + j * 4 + 2, none⟩ = some (.int .i64 vm) ∧ W.cell? ⟨b4, o4 + j * 4 + 3, none⟩ = some (.int .i64 vp))
                         (first | go_keep | exact ⟨d2, e2, u0, u1, u2, u3, v0, v1, v2, v3⟩ | exact hk9)
                         (first | (go_at_call 29; refine (HY.out _).mono ?_; rintro e w9 ⟨rfl, hb9⟩; have hk9 := HSX.out _ ((Below.refl wv.heap.size wv).drew.trans hb9)))
                        have hz : Below w.heap.size w w9 := hbw3.drew.trans (hb9.mono hbw3.size)
                        go_wp2_with fail
                        go_ret
                        exact ⟨ret_bool (by rw [HR2.out, HF.out (by rw [HP2.out]; first | exact HF3.out rfl | exact HF3.out trivial)]; rfl), hz⟩
                      | true =>
                        have HN4 := Lib.hid (HN3.out rfl)
                        go_wp2_with fail
                        go_region_held3 (fun W => W.cell? ⟨p, 2, none⟩ = some (.slice (some ⟨b3, o3, none⟩) nx cx) ∧ W.cell? ⟨q, 2, none⟩ = some (.slice (some ⟨b4, o4, none⟩) nx cy) ∧ W.cell? ⟨b3, o3 + j * 4, none⟩ = some (.string un) ∧ W.cell? ⟨b3, o3 + j * 4 + 1, none⟩ = some (.bool ul) ∧ W.cell? ⟨b3, o3 + j * 4 + 2, none⟩ = some (.int .i64 um) ∧ W.cell? ⟨b3, o3 + j * 4 + 3, none⟩ = some (.int .i64 up) ∧ W.cell? ⟨b4, o4 + j * 4, none⟩ = some (.string vn) ∧ W.cell? ⟨b4, o4 + j * 4 + 1, none⟩ = some (.bool vl) ∧ W.cell? ⟨b4, o4 + j * 4 + 2, none⟩ = some (.int .i64 vm) ∧ W.cell? ⟨b4, o4 + j * 4 + 3, none⟩ = some (.int .i64 vp))
                         (first | go_keep | exact ⟨d2, e2, u0, u1, u2, u3, v0, v1, v2, v3⟩ | exact hk9)
                         (first | (go_at_call 29; refine (HY.out _).mono ?_; rintro e w9 ⟨rfl, hb9⟩; have hk9 := HSX.out _ ((Below.refl wv.heap.size wv).drew.trans hb9)))
                        have hz : Below wc.heap.size wc w9 := hbv.drew.trans (hb9.mono hbv.size)
                        go_wp2_with fail
                        go_roundw
                        case rel => exact ⟨j + 1, by omega, by go_num, hz, HN4⟩
                        case measure => simp [intOf]; omega
                    · have HN4 := Lib.hid (HN.out (by rw [HP2.out]; exact eqL_done hpj.out HL.out (by have := hnx.out; omega)))
                      have hz := hbr2.trans (hbv.mono hbr2.size)
                      clear hxx hxy
                      go_wp2_with fail
                      go_roundw
                      case rel => exact ⟨k + 1, by omega, by go_num, hz, HN4⟩
                      case measure => simp [intOf]; omega
                 · have hl2 : (((nx : Int)) != ((ny : Int))) = true := by simp; omega
                   have HX : Hid (eqL Sm.same xs ys = false) := Lib.hid (eqL_len (by rw [← hnx.out, ← hny.out]; simpa using hl))
                   go_wp2_with fail
                   go_ret
                   exact ⟨ret_bool (by rw [HR2.out, HF.out (by rw [HP.out, HX.out, Bool.and_false, Bool.and_false])]; rfl), hbw2⟩
             · have hk2 : (xk != yk) = true := by simp [hk1]
               have hk3 : (xk == yk) = false := by simp [hk1]
               go_wp2_with fail
               go_ret
               exact ⟨ret_bool (by rw [HR2.out, HF.out (by rw [HP.out, hk3]; rfl)]; rfl), hbw2⟩
          · have HD := Lib.hid (eqL_done hp.out HL1.out (by have := hn1.out; omega))
            have HR3 : Hid (R = eqL Rl.same ka kb) := Lib.hid (by rw [HR2.out, HD.out]; rfl)
            clear hx1 hx2 HR2 HD hp
            rename World => w0
            go_wp2_with fail
            go_loopw [9] (fun i wr => ∃ k : Nat, k ≤ n3 ∧ i = .int .i64 k ∧ Below ((w.alloc (.cells #[.string pa, .slice a1 n1 c1, .slice a3 n3 c3, .string ta] 29)).alloc (.cells #[.string pb, .slice a2 n1 c2, .slice a4 n3 c4, .string tb] 29)).heap.size ((w.alloc (.cells #[.string pa, .slice a1 n1 c1, .slice a3 n3 c3, .string ta] 29)).alloc (.cells #[.string pb, .slice a2 n1 c2, .slice a4 n3 c4, .string tb] 29)) wr ∧ Hid (eqTo Rl.same ka kb k)) (fun i _ => n3 - (intOf i).toNat)
            case atStart => exact ⟨0, Nat.zero_le _, rfl, hbr, Lib.hid (eqTo_none _ _ _)⟩
            case round =>
             clear q1 q2 q3 q4 hbr hlt
             obtain ⟨k, hk, rfl, hbr, hp⟩ := hrel
             rename World => wr
             have q := HC.out wr hbr
             have q3 := q.1 2 _ rfl
             have q4 := q.2 2 _ rfl
             clear q
             have hbw := hba.trans (hbr.mono hba.size)
             by_cases hlt : k < n3
             · obtain ⟨b1, o1, x, sx, rfl, ex, hsx, x0, x1, x2⟩ := hx3.out k hlt
               obtain ⟨b2, o2, y, sy, rfl, ey, hsy, y0, y1, y2⟩ := hx4.out k hlt
               obtain ⟨ax, nx, cx, rfl, hnx, hcx, hmx, hxx⟩ := hsx.open
               obtain ⟨ay, ny, cy, rfl, hny, hcy, hmy, hxy⟩ := hsy.open
               clear hsx hsy
               have hb1 := World.block_lt_of_cell? _ _ x0
               have hb2 := World.block_lt_of_cell? _ _ y0
               replace x0 := (hbw.cell (p := ⟨b1, o1 + k * 3, none⟩) hb1).trans x0
               replace x1 := (hbw.cell (p := ⟨b1, o1 + k * 3 + 1, none⟩) hb1).trans x1
               replace x2 := (hbw.cell (p := ⟨b1, o1 + k * 3 + 2, none⟩) hb1).trans x2
               replace y0 := (hbw.cell (p := ⟨b2, o2 + k * 3, none⟩) hb2).trans y0
               replace y1 := (hbw.cell (p := ⟨b2, o2 + k * 3 + 1, none⟩) hb2).trans y1
               replace y2 := (hbw.cell (p := ⟨b2, o2 + k * 3 + 2, none⟩) hb2).trans y2
               have i1 : (k : Int) < (n3 : Int) := by omega
               go_upto_region 17 with fail
               go_cut [10, 11] from 100 to 149 (fun x6 x7 wx => TwoIn wr x6 x7 #[.string x.left, .slice ax nx cx, .int .i64 x.pos] #[.string y.left, .slice ay ny cy, .int .i64 y.pos] 37 wx)
               case first =>
                go_region_held3 (fun W => W.cell? ⟨w.heap.size, 2, none⟩ = some (.slice (some ⟨b1, o1, none⟩) n3 c3) ∧ W.cell? ⟨w.heap.size + 1, 2, none⟩ = some (.slice (some ⟨b2, o2, none⟩) n3 c4) ∧ W.cell? ⟨b1, o1 + k * 3, none⟩ = some (.string x.left) ∧ W.cell? ⟨b1, o1 + k * 3 + 1, none⟩ = some (.slice ax nx cx) ∧ W.cell? ⟨b1, o1 + k * 3 + 2, none⟩ = some (.int .i64 x.pos) ∧ W.cell? ⟨b2, o2 + k * 3, none⟩ = some (.string y.left) ∧ W.cell? ⟨b2, o2 + k * 3 + 1, none⟩ = some (.slice ay ny cy) ∧ W.cell? ⟨b2, o2 + k * 3 + 2, none⟩ = some (.int .i64 y.pos))
                 (first | go_keep | exact ⟨q3, q4, x0, x1, x2, y0, y1, y2⟩)
                 (first | fail)
                all_goals
                 go_wp2_with fail
                 go_meet
                 case rel => first | exact two_in _ _ _ _ | exact two_in' _ _ _ _
               case rest =>
                obtain ⟨p, q, rfl, rfl, hp0, hq0, hbc⟩ := hcut
                have hbr2 := hbr.trans (hbc.mono hbr.size)
                have hbw2 := hbw.trans (hbc.mono hbw.size)
                have HP : Hid (Rl.same x y = ((x.left.toList == y.left.toList) && eqL Al.same x.alts y.alts)) := Lib.hid rfl
                have HN := Lib.hid (fun h => eqTo_next (p := Rl.same) hp.out ex ey h)
                have HF := Lib.hid (fun h => eqL_fails (p := Rl.same) ex ey h)
                generalize Rl.same x y = R2 at HP HN HF
                obtain ⟨xt, xs, xp⟩ := x
                obtain ⟨yt, ys, yp⟩ := y
                simp only at hp0 hq0 HP hnx hny hxx hxy
                have d0 : wc.cell? ⟨p, 0, none⟩ = some (.string xt) := by rw [cell_of_row wc p 0 _ _ (0, 0) hp0]; rfl
                have d1 : wc.cell? ⟨p, 1, none⟩ = some (.slice ax nx cx) := by rw [cell_of_row wc p 1 _ _ (0, 0) hp0]; rfl
                have e0 : wc.cell? ⟨q, 0, none⟩ = some (.string yt) := by rw [cell_of_row wc q 0 _ _ (0, 0) hq0]; rfl
                have e1 : wc.cell? ⟨q, 1, none⟩ = some (.slice ay ny cy) := by rw [cell_of_row wc q 1 _ _ (0, 0) hq0]; rfl
                clear x0 x1 x2 y0 y1 y2 ex ey hp hp0 hq0 hbc hbr hbw hb1 hb2 q3 q4
                cases ht : (xt.toList == yt.toList) with
                | false =>
                  have ht2 : (xt.toList != yt.toList) = true := by simp [bne, ht]
                  go_wp2_with fail
                  go_ret
                  exact ⟨ret_bool (by rw [HR3.out, HF.out (by rw [HP.out, ht, Bool.false_and])]), hbw2⟩
                | true =>
                  have ht2 : (xt.toList != yt.toList) = false := by simp [bne, ht]
                  by_cases hl : nx = ny
                  · obtain rfl := hl
                    have hl2 : (((nx : Int)) != ((nx : Int))) = false := by simp
                    have HL : Hid (xs.length = ys.length) := Lib.hid (by rw [← hnx.out, ← hny.out])
                    have HP2 : Hid (R2 = eqL Al.same xs ys) := Lib.hid (by rw [HP.out, ht]; rfl)
                    clear HP
                    go_wp2_with fail
                    go_loopw [12] (fun i wv => ∃ j : Nat, j ≤ nx ∧ i = .int .i64 j ∧ Below wc.heap.size wc wv ∧ Hid (eqTo Al.same xs ys j)) (fun i _ => nx - (intOf i).toNat)
                    case atStart => exact ⟨0, Nat.zero_le _, rfl, Below.refl _ _, Lib.hid (eqTo_none _ _ _)⟩
                    case round =>
                     obtain ⟨j, hj, rfl, hbv, hpj⟩ := hrel
                     rename World => wv
                     replace d1 := (hbv.cell (World.block_lt_of_cell? _ _ d1)).trans d1
                     replace e1 := (hbv.cell (World.block_lt_of_cell? _ _ e1)).trans e1
                     by_cases hjt : j < nx
                     · obtain ⟨b3, o3, u, pu, rfl, eu, hpu, u0, u1, u2, u3, u4, u5⟩ := hxx.out j hjt
                       obtain ⟨b4, o4, v, pv, rfl, ev, hpv, v0, v1, v2, v3, v4, v5⟩ := hxy.out j hjt
                       have hbw3 := hbw2.trans (hbv.mono hbw2.size)
                       have hb3 := World.block_lt_of_cell? _ _ u0
                       have hb4 := World.block_lt_of_cell? _ _ v0
                       replace u0 := (hbw3.cell (p := ⟨b3, o3 + j * 6, none⟩) hb3).trans u0
                       replace u1 := (hbw3.cell (p := ⟨b3, o3 + j * 6 + 1, none⟩) hb3).trans u1
                       replace u2 := (hbw3.cell (p := ⟨b3, o3 + j * 6 + 2, none⟩) hb3).trans u2
                       replace u3 := (hbw3.cell (p := ⟨b3, o3 + j * 6 + 3, none⟩) hb3).trans u3
                       replace u4 := (hbw3.cell (p := ⟨b3, o3 + j * 6 + 4, none⟩) hb3).trans u4
                       replace u5 := (hbw3.cell (p := ⟨b3, o3 + j * 6 + 5, none⟩) hb3).trans u5
                       replace v0 := (hbw3.cell (p := ⟨b4, o4 + j * 6, none⟩) hb4).trans v0
                       replace v1 := (hbw3.cell (p := ⟨b4, o4 + j * 6 + 1, none⟩) hb4).trans v1
                       replace v2 := (hbw3.cell (p := ⟨b4, o4 + j * 6 + 2, none⟩) hb4).trans v2
                       replace v3 := (hbw3.cell (p := ⟨b4, o4 + j * 6 + 3, none⟩) hb4).trans v3
                       replace v4 := (hbw3.cell (p := ⟨b4, o4 + j * 6 + 4, none⟩) hb4).trans v4
                       replace v5 := (hbw3.cell (p := ⟨b4, o4 + j * 6 + 5, none⟩) hb4).trans v5
                       have HY := Lib.hid (eqAlt_any (.agg #[pu, .string u.prec.name, .bool u.prec.lit, .int .i64 u.prec.num, .int .i64 u.prec.pos, .int .i64 u.pos]) (.agg #[pv, .string v.prec.name, .bool v.prec.lit, .int .i64 v.prec.num, .int .i64 v.prec.pos, .int .i64 v.pos]) u v wv.drew ⟨pu, rfl, hpu.below hbw3.drew⟩ ⟨pv, rfl, hpv.below hbw3.drew⟩)
                       have HN3 := Lib.hid (fun h => eqTo_next (p := Al.same) hpj.out eu ev h)
                       have HF3 := Lib.hid (fun h => eqL_fails (p := Al.same) eu ev h)
                       generalize Al.same u v = ss at HY HN3 HF3
                       obtain ⟨uq, ⟨un, ul, um, up⟩, ua⟩ := u
                       obtain ⟨vq, ⟨vn, vl, vm, vp⟩, va⟩ := v
                       simp only at u0 u1 u2 u3 u4 u5 v0 v1 v2 v3 v4 v5 HY
                       clear eu ev hpj hxx hxy hpu hpv
                       have j1 : (j : Int) < (nx : Int) := by omega
                       have HSX := Lib.hid (fun (W : World) (hW : Below wv.heap.size wv W) => show W.cell? ⟨p, 1, none⟩ = some (.slice (some ⟨b3, o3, none⟩) nx cx) ∧ W.cell? ⟨q, 1, none⟩ = some (.slice (some ⟨b4, o4, none⟩) nx cy) ∧ W.cell? ⟨b3, o3 + j * 6, none⟩ = some pu ∧ W.cell? ⟨b3, o3 + j * 6 + 1, none⟩ = some (.string un) ∧ W.cell? ⟨b3, o3 + j * 6 + 2, none⟩ = some (.bool ul) ∧ W.cell? ⟨b3, o3 + j * 6 + 3, none⟩ = some (.int .i64 um) ∧ W.cell? ⟨b3, o3 + j * 6 + 4, none⟩ = some (.int .i64 up) ∧ W.cell? ⟨b3, o3 + j * 6 + 5, none⟩ = some (.int .i64 ua) ∧ W.cell? ⟨b4, o4 + j * 6, none⟩ = some pv ∧ W.cell? ⟨b4, o4 + j * 6 + 1, none⟩ = some (.string vn) ∧ W.cell? ⟨b4, o4 + j * 6 + 2, none⟩ = some (.bool vl) ∧ W.cell? ⟨b4, o4 + j * 6 + 3, none⟩ = some (.int .i64 vm) ∧ W.cell? ⟨b4, o4 + j * 6 + 4, none⟩ = some (.int .i64 vp) ∧ W.cell? ⟨b4, o4 + j * 6 + 5, none⟩ = some (.int .i64 va) from
                        ⟨(hW.cell (World.block_lt_of_cell? _ _ d1)).trans d1, (hW.cell (World.block_lt_of_cell? _ _ e1)).trans e1, (hW.cell (World.block_lt_of_cell? _ _ u0)).trans u0, (hW.cell (World.block_lt_of_cell? _ _ u1)).trans u1, (hW.cell (World.block_lt_of_cell? _ _ u2)).trans u2, (hW.cell (World.block_lt_of_cell? _ _ u3)).trans u3, (hW.cell (World.block_lt_of_cell? _ _ u4)).trans u4, (hW.cell (World.block_lt_of_cell? _ _ u5)).trans u5, (hW.cell (World.block_lt_of_cell? _ _ v0)).trans v0, (hW.cell (World.block_lt_of_cell? _ _ v1)).trans v1, (hW.cell (World.block_lt_of_cell? _ _ v2)).trans v2, (hW.cell (World.block_lt_of_cell? _ _ v3)).trans v3, (hW.cell (World.block_lt_of_cell? _ _ v4)).trans v4, (hW.cell (World.block_lt_of_cell? _ _ v5)).trans v5⟩)
                       cases ss with
                       | false =>
                         go_wp2_with fail
                         go_region_held3 (fun W => W.cell? ⟨p, 1, none⟩ = some (.slice (some ⟨b3, o3, none⟩) nx cx) ∧ W.cell? ⟨q, 1, none⟩ = some (.slice (some ⟨b4, o4, none⟩) nx cy) ∧ W.cell? ⟨b3, o3 + j * 6, none⟩ = some pu ∧ W.cell? ⟨b3, o3 + j * 6 + 1, none⟩ = some (.string un) ∧ W.cell? ⟨b3, o3 + j * 6 + 2, none⟩ = some (.bool ul) ∧ W.cell? ⟨b3, o3 + j * 6 + 3, none⟩ = some (.int .i64 um) ∧ W.cell? ⟨b3, o3 + j * 6 + 4, none⟩ = some (.int .i64 up) ∧ W.cell? ⟨b3, o3 + j * 6 + 5, none⟩ = some (.int .i64 ua) ∧ W.cell? ⟨b4, o4 + j * 6, none⟩ = some pv ∧ W.cell? ⟨b4, o4 + j * 6 + 1, none⟩ = some (.string vn) ∧ W.cell? ⟨b4, o4 + j * 6 + 2, none⟩ = some (.bool vl) ∧ W.cell? ⟨b4, o4 + j * 6 + 3, none⟩ = some (.int .i64 vm) ∧ W.cell? ⟨b4, o4 + j * 6 + 4, none⟩ = some (.int .i64 vp) ∧ W.cell? ⟨b4, o4 + j * 6 + 5, none⟩ = some (.int .i64 va))
                          (first | go_keep | exact ⟨d1, e1, u0, u1, u2, u3, u4, u5, v0, v1, v2, v3, v4, v5⟩ | exact hk9)
                          (first | (go_at_call 30; refine HY.out.mono ?_; rintro e w9 ⟨rfl, hb9⟩; have hk9 := HSX.out _ ((Below.refl wv.heap.size wv).drew.trans hb9)))
                         have hz : Below w.heap.size w w9 := hbw3.drew.trans (hb9.mono hbw3.size)
                         go_wp2_with fail
                         go_ret
                         exact ⟨ret_bool (by rw [HR3.out, HF.out (by rw [HP2.out]; first | exact HF3.out rfl | exact HF3.out trivial)]), hz⟩
                       | true =>
                         have HN4 := Lib.hid (HN3.out rfl)
                         go_wp2_with fail
                         go_region_held3 (fun W => W.cell? ⟨p, 1, none⟩ = some (.slice (some ⟨b3, o3, none⟩) nx cx) ∧ W.cell? ⟨q, 1, none⟩ = some (.slice (some ⟨b4, o4, none⟩) nx cy) ∧ W.cell? ⟨b3, o3 + j * 6, none⟩ = some pu ∧ W.cell? ⟨b3, o3 + j * 6 + 1, none⟩ = some (.string un) ∧ W.cell? ⟨b3, o3 + j * 6 + 2, none⟩ = some (.bool ul) ∧ W.cell? ⟨b3, o3 + j * 6 + 3, none⟩ = some (.int .i64 um) ∧ W.cell? ⟨b3, o3 + j * 6 + 4, none⟩ = some (.int .i64 up) ∧ W.cell? ⟨b3, o3 + j * 6 + 5, none⟩ = some (.int .i64 ua) ∧ W.cell? ⟨b4, o4 + j * 6, none⟩ = some pv ∧ W.cell? ⟨b4, o4 + j * 6 + 1, none⟩ = some (.string vn) ∧ W.cell? ⟨b4, o4 + j * 6 + 2, none⟩ = some (.bool vl) ∧ W.cell? ⟨b4, o4 + j * 6 + 3, none⟩ = some (.int .i64 vm) ∧ W.cell? ⟨b4, o4 + j * 6 + 4, none⟩ = some (.int .i64 vp) ∧ W.cell? ⟨b4, o4 + j * 6 + 5, none⟩ = some (.int .i64 va))
                          (first | go_keep | exact ⟨d1, e1, u0, u1, u2, u3, u4, u5, v0, v1, v2, v3, v4, v5⟩ | exact hk9)
                          (first | (go_at_call 30; refine HY.out.mono ?_; rintro e w9 ⟨rfl, hb9⟩; have hk9 := HSX.out _ ((Below.refl wv.heap.size wv).drew.trans hb9)))
                         have hz : Below wc.heap.size wc w9 := hbv.drew.trans (hb9.mono hbv.size)
                         go_wp2_with fail
                         go_roundw
                         case rel => exact ⟨j + 1, by omega, by go_num, hz, HN4⟩
                         case measure => simp [intOf]; omega
                     · have HN4 := Lib.hid (HN.out (by rw [HP2.out]; exact eqL_done hpj.out HL.out (by have := hnx.out; omega)))
                       have hz := hbr2.trans (hbv.mono hbr2.size)
                       clear hxx hxy
                       go_wp2_with fail
                       go_roundw
                       case rel => exact ⟨k + 1, by omega, by go_num, hz, HN4⟩
                       case measure => simp [intOf]; omega
                  · have hl2 : (((nx : Int)) != ((ny : Int))) = true := by simp; omega
                    have HX : Hid (eqL Al.same xs ys = false) := Lib.hid (eqL_len (by rw [← hnx.out, ← hny.out]; simpa using hl))
                    go_wp2_with fail
                    go_ret
                    exact ⟨ret_bool (by rw [HR3.out, HF.out (by rw [HP.out, HX.out, Bool.and_false])]), hbw2⟩
             · have HX := Lib.hid (eqL_done hp.out HL2.out (by have := hn3.out; omega))
               clear hx3 hx4
               go_wp2_with fail
               go_ret
               exact ⟨ret_bool (by rw [HR3.out, HX.out]), hbw⟩
       · have h4 : (((n3 : Int)) != ((n4 : Int))) = true := by simp; omega
         have HX : Hid (eqL Rl.same ka kb = false) := Lib.hid (eqL_len (by rw [← hn3.out, ← hn4.out]; simpa using hne4))
         go_wp2_with fail
         go_ret
         exact ⟨ret_bool (by rw [HR.out, HX.out]; simp), hba⟩
     · have h3 : (((n1 : Int)) != ((n2 : Int))) = true := by simp; omega
       have HX : Hid (eqL Dc.same la lb = false) := Lib.hid (eqL_len (by rw [← hn1.out, ← hn2.out]; simpa using hne))
       go_wp2_with fail
       go_ret
       exact ⟨ret_bool (by rw [HR.out, HX.out]; simp), hba⟩
end Go.Proofs.YtnoppoifepbchaaDoor
