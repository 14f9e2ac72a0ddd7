/- Sources: are they the same? print's. -/
import Derived.Test.YtnoppoifepbchaaDoorSame3
import Derived.Test.YtnoppoifepbchaaDoorMay2
namespace Go.Proofs.YtnoppoifepbchaaDoor

open Go.RowKit
set_option linter.unusedVariables false
set_option linter.unusedSimpArgs false

/-- what is put into memory leaves the elder cells -/
theorem cell_alloc {w : World} {p : Addr} {u : Value} (h : w.cell? p = some u) (o : Obj) : (w.alloc o).cell? p = some u :=
 (((Below.refl w.heap.size w).alloc (Nat.le_refl _) o).cell (World.block_lt_of_cell? _ _ h)).trans h

set_option maxRecDepth 100000 in
theorem psameSym_any (a b : Sm) (w : World) : Calls Tryd.prog 75 #[a.agg, b.agg] w fun e w' => e = .returned (.bool (a.same b)) ∧ Below w.heap.size w w' := by
 have HR : Hid (a.same b = ((a.name.toList == b.name.toList) && ((a.lit == b.lit) && (a.num == b.num)))) := Lib.hid rfl
 generalize a.same b = R at HR ⊢
 obtain ⟨n, l, m, p⟩ := a
 obtain ⟨n', l', m', p'⟩ := b
 unfold Sm.agg
 simp only at HR ⊢
 go_enter Tryd.func75, Tryd.ntmps75
 cases h1 : (n.toList == n'.toList) with
 | false =>
   go_wp2_with fail
   go_ret
   exact ⟨ret_bool (by rw [HR.out, h1]; rfl), ((Below.refl _ _).alloc (Nat.le_refl _) _).alloc (by simp) _⟩
 | true =>
   cases h2 : (l == l') with
   | false =>
     go_wp2_with fail
     go_ret
     exact ⟨ret_bool (by rw [HR.out, h1, h2]; rfl), ((Below.refl _ _).alloc (Nat.le_refl _) _).alloc (by simp) _⟩
   | true =>
     go_wp2_with fail
     go_ret
     exact ⟨ret_bool (by rw [HR.out, h1, h2]; rfl), ((Below.refl _ _).alloc (Nat.le_refl _) _).alloc (by simp) _⟩

set_option maxRecDepth 100000 in
theorem psamePart_any (a b : Pt) (w : World) : Calls Tryd.prog 104 #[a.agg, b.agg] w fun e w' => e = .returned (.bool (a.same b)) ∧ Below w.heap.size w w' := by
 have HR : Hid (a.same b = ((a.code.toList == b.code.toList) && a.sym.same b.sym)) := Lib.hid rfl
 have HS := Lib.hid (fun W => psameSym_any a.sym b.sym W)
 generalize a.same b = R at HR ⊢
 generalize a.sym.same b.sym = sb at HR HS
 obtain ⟨⟨n, l, m, p⟩, c, k⟩ := a
 obtain ⟨⟨n', l', m', p'⟩, c', k'⟩ := b
 unfold Pt.agg
 simp only [Sm.agg] at HR HS ⊢
 go_enter Tryd.func104, Tryd.ntmps104
 cases h1 : (c.toList == c'.toList) with
 | false =>
   go_wp2_with fail
   go_ret
   exact ⟨ret_bool (by rw [HR.out, h1]; rfl), ((Below.refl _ _).alloc (Nat.le_refl _) _).alloc (by simp) _⟩
 | true =>
   go_wp2_with (first | (go_at_call 75; refine (HS.out _).mono ?_; rintro e w9 ⟨rfl, hb9⟩))
   go_ret
   exact ⟨ret_bool (by rw [HR.out, h1]; rfl), (((Below.refl _ _).alloc (Nat.le_refl _) _).alloc (by simp) _).trans (hb9.mono (by simp; omega))⟩

set_option maxRecDepth 100000 in
set_option maxHeartbeats 4000000 in
theorem eqfSm_any (va vb : Value) (la lb : List Sm) (w : World) (ha : SmsV w va la) (hb : SmsV w vb lb) :
  Calls Tryd.prog 74 #[va, vb, .func (.func 75) #[] #[]] w fun e w' => e = .returned (.bool (eqL Sm.same la lb)) ∧ Below w.heap.size w w' := by
 obtain ⟨a1, n1, c1, rfl, hn1, hc1, hm1, hx1⟩ := ha.open
 obtain ⟨a2, n2, c2, rfl, hn2, hc2, hm2, hx2⟩ := hb.open
 clear ha hb
 generalize hR0 : eqL Sm.same la lb = R
 have HR0 : Hid (R = eqL Sm.same la lb) := Lib.hid hR0.symm
 clear hR0
 by_cases hne : n1 = n2
 · obtain rfl := hne
   have HL : Hid (la.length = lb.length) := Lib.hid (by rw [← hn1.out, ← hn2.out])
   have h1 : (((n1 : Int)) != ((n1 : Int))) = false := by simp
   go_enter Tryd.func74, Tryd.ntmps74
   go_wp2_with fail
   go_loopw [17] (fun i wr => ∃ k : Nat, k ≤ n1 ∧ i = .int .i64 k ∧ Below w.heap.size w wr ∧ Hid (eqTo Sm.same la lb k)) (fun i _ => n1 - (intOf i).toNat)
   case atStart => exact ⟨0, Nat.zero_le _, rfl, Below.refl _ _, Lib.hid (eqTo_none _ _ _)⟩
   case round =>
    obtain ⟨k, hk, rfl, hbr, hp⟩ := hrel
    have hs1 := hbr.size
    by_cases hlt : k < n1
    · obtain ⟨b1, o1, x, rfl, ex, x0, x1, x2, x3⟩ := hx1.out k hlt
      obtain ⟨b2, o2, y, rfl, ey, y0, y1, y2, y3⟩ := hx2.out k hlt
      have hb1 := World.block_lt_of_cell? _ _ x0
      have hb2 := World.block_lt_of_cell? _ _ y0
      replace x0 := (hbr.cell (p := ⟨b1, o1 + k * 4, none⟩) hb1).trans x0
      replace x1 := (hbr.cell (p := ⟨b1, o1 + k * 4 + 1, none⟩) hb1).trans x1
      replace x2 := (hbr.cell (p := ⟨b1, o1 + k * 4 + 2, none⟩) hb1).trans x2
      replace x3 := (hbr.cell (p := ⟨b1, o1 + k * 4 + 3, none⟩) hb1).trans x3
      replace y0 := (hbr.cell (p := ⟨b2, o2 + k * 4, none⟩) hb2).trans y0
      replace y1 := (hbr.cell (p := ⟨b2, o2 + k * 4 + 1, none⟩) hb2).trans y1
      replace y2 := (hbr.cell (p := ⟨b2, o2 + k * 4 + 2, none⟩) hb2).trans y2
      replace y3 := (hbr.cell (p := ⟨b2, o2 + k * 4 + 3, none⟩) hb2).trans y3
      have HY := Lib.hid (fun (W : World) (hW : Below w.heap.size w W) => psameSym_any x y W)
      have HN := Lib.hid (fun h => eqTo_next (p := Sm.same) hp.out ex ey h)
      have HF := Lib.hid (fun h => eqL_fails (p := Sm.same) ex ey h)
      generalize Sm.same x y = ss at HY HN HF
      obtain ⟨xn, xl, xm, xp⟩ := x
      obtain ⟨yn, yl, ym, yp⟩ := y
      simp only [Sm.agg, Pt.agg] at x0 x1 x2 x3 y0 y1 y2 y3 HY
      have z0 := cell_alloc y0
      have z1 := cell_alloc y1
      have z2 := cell_alloc y2
      have z3 := cell_alloc y3
      have i1 : (k : Int) < (n1 : Int) := by omega
      clear ex ey hp hx1 hx2
      cases ss with
      | false =>
        go_wp2_with (first | (go_at_call 75; refine (HY.out _ ((hbr.alloc hs1 _).alloc (by simp; omega) _)).mono ?_; rintro e w9 ⟨rfl, hb9⟩))
        go_ret
        exact ⟨ret_bool (by have e := HR0.out; first | rw [e, HF.out rfl] | rw [e, HF.out trivial]), ((hbr.alloc hs1 _).alloc (by simp; omega) _).trans (hb9.mono (by simp; omega))⟩
      | true =>
        have HN3 := Lib.hid (HN.out rfl)
        go_wp2_with (first | (go_at_call 75; refine (HY.out _ ((hbr.alloc hs1 _).alloc (by simp; omega) _)).mono ?_; rintro e w9 ⟨rfl, hb9⟩))
        have hz2 := ((hbr.alloc hs1 _).alloc (by simp; omega) _).trans (hb9.mono (by simp; omega))
        go_roundw
        case rel => exact ⟨k + 1, by omega, by go_num, hz2, HN3⟩
        case measure => simp [intOf]; omega
    · have HX := Lib.hid (eqL_done hp.out HL.out (by have := hn1.out; omega))
      clear hx1 hx2
      go_wp2_with fail
      go_ret
      exact ⟨ret_bool (by rw [HR0.out, HX.out]), hbr⟩
 · have h1 : (((n1 : Int)) != ((n2 : Int))) = true := by simp; omega
   have HX : Hid (eqL Sm.same la lb = false) := Lib.hid (eqL_len (by rw [← hn1.out, ← hn2.out]; simpa using hne))
   go_enter Tryd.func74, Tryd.ntmps74
   go_wp2_with fail
   go_ret
   exact ⟨ret_bool (by rw [HR0.out, HX.out]), Below.refl _ _⟩

set_option maxRecDepth 100000 in
set_option maxHeartbeats 4000000 in
theorem eqfPt_any (va vb : Value) (la lb : List Pt) (w : World) (ha : PtsV w va la) (hb : PtsV w vb lb) :
  Calls Tryd.prog 103 #[va, vb, .func (.func 104) #[] #[]] w fun e w' => e = .returned (.bool (eqL Pt.same la lb)) ∧ Below w.heap.size w w' := by
 obtain ⟨a1, n1, c1, rfl, hn1, hc1, hm1, hx1⟩ := ha.open
 obtain ⟨a2, n2, c2, rfl, hn2, hc2, hm2, hx2⟩ := hb.open
 clear ha hb
 generalize hR0 : eqL Pt.same la lb = R
 have HR0 : Hid (R = eqL Pt.same la lb) := Lib.hid hR0.symm
 clear hR0
 by_cases hne : n1 = n2
 · obtain rfl := hne
   have HL : Hid (la.length = lb.length) := Lib.hid (by rw [← hn1.out, ← hn2.out])
   have h1 : (((n1 : Int)) != ((n1 : Int))) = false := by simp
   go_enter Tryd.func103, Tryd.ntmps103
   go_wp2_with fail
   go_loopw [17] (fun i wr => ∃ k : Nat, k ≤ n1 ∧ i = .int .i64 k ∧ Below w.heap.size w wr ∧ Hid (eqTo Pt.same la lb k)) (fun i _ => n1 - (intOf i).toNat)
   case atStart => exact ⟨0, Nat.zero_le _, rfl, Below.refl _ _, Lib.hid (eqTo_none _ _ _)⟩
   case round =>
    obtain ⟨k, hk, rfl, hbr, hp⟩ := hrel
    have hs1 := hbr.size
    by_cases hlt : k < n1
    · obtain ⟨b1, o1, x, rfl, ex, x0, x1, x2, x3, x4, x5⟩ := hx1.out k hlt
      obtain ⟨b2, o2, y, rfl, ey, y0, y1, y2, y3, y4, y5⟩ := hx2.out k hlt
      have hb1 := World.block_lt_of_cell? _ _ x0
      have hb2 := World.block_lt_of_cell? _ _ y0
      replace x0 := (hbr.cell (p := ⟨b1, o1 + k * 6, none⟩) hb1).trans x0
      replace x1 := (hbr.cell (p := ⟨b1, o1 + k * 6 + 1, none⟩) hb1).trans x1
      replace x2 := (hbr.cell (p := ⟨b1, o1 + k * 6 + 2, none⟩) hb1).trans x2
      replace x3 := (hbr.cell (p := ⟨b1, o1 + k * 6 + 3, none⟩) hb1).trans x3
      replace x4 := (hbr.cell (p := ⟨b1, o1 + k * 6 + 4, none⟩) hb1).trans x4
      replace x5 := (hbr.cell (p := ⟨b1, o1 + k * 6 + 5, none⟩) hb1).trans x5
      replace y0 := (hbr.cell (p := ⟨b2, o2 + k * 6, none⟩) hb2).trans y0
      replace y1 := (hbr.cell (p := ⟨b2, o2 + k * 6 + 1, none⟩) hb2).trans y1
      replace y2 := (hbr.cell (p := ⟨b2, o2 + k * 6 + 2, none⟩) hb2).trans y2
      replace y3 := (hbr.cell (p := ⟨b2, o2 + k * 6 + 3, none⟩) hb2).trans y3
      replace y4 := (hbr.cell (p := ⟨b2, o2 + k * 6 + 4, none⟩) hb2).trans y4
      replace y5 := (hbr.cell (p := ⟨b2, o2 + k * 6 + 5, none⟩) hb2).trans y5
      have HY := Lib.hid (fun (W : World) (hW : Below w.heap.size w W) => psamePart_any x y W)
      have HN := Lib.hid (fun h => eqTo_next (p := Pt.same) hp.out ex ey h)
      have HF := Lib.hid (fun h => eqL_fails (p := Pt.same) ex ey h)
      generalize Pt.same x y = ss at HY HN HF
      obtain ⟨⟨xn, xl, xm, xp⟩, xc, xk⟩ := x
      obtain ⟨⟨yn, yl, ym, yp⟩, yc, yk⟩ := y
      simp only [Sm.agg, Pt.agg] at x0 x1 x2 x3 x4 x5 y0 y1 y2 y3 y4 y5 HY
      have z0 := cell_alloc y0
      have z1 := cell_alloc y1
      have z2 := cell_alloc y2
      have z3 := cell_alloc y3
      have z4 := cell_alloc y4
      have z5 := cell_alloc y5
      have i1 : (k : Int) < (n1 : Int) := by omega
      clear ex ey hp hx1 hx2
      cases ss with
      | false =>
        go_wp2_with (first | (go_at_call 104; refine (HY.out _ ((hbr.alloc hs1 _).alloc (by simp; omega) _)).mono ?_; rintro e w9 ⟨rfl, hb9⟩))
        go_ret
        exact ⟨ret_bool (by have e := HR0.out; first | rw [e, HF.out rfl] | rw [e, HF.out trivial]), ((hbr.alloc hs1 _).alloc (by simp; omega) _).trans (hb9.mono (by simp; omega))⟩
      | true =>
        have HN3 := Lib.hid (HN.out rfl)
        go_wp2_with (first | (go_at_call 104; refine (HY.out _ ((hbr.alloc hs1 _).alloc (by simp; omega) _)).mono ?_; rintro e w9 ⟨rfl, hb9⟩))
        have hz2 := ((hbr.alloc hs1 _).alloc (by simp; omega) _).trans (hb9.mono (by simp; omega))
        go_roundw
        case rel => exact ⟨k + 1, by omega, by go_num, hz2, HN3⟩
        case measure => simp [intOf]; omega
    · have HX := Lib.hid (eqL_done hp.out HL.out (by have := hn1.out; omega))
      clear hx1 hx2
      go_wp2_with fail
      go_ret
      exact ⟨ret_bool (by rw [HR0.out, HX.out]), hbr⟩
 · have h1 : (((n1 : Int)) != ((n2 : Int))) = true := by simp; omega
   have HX : Hid (eqL Pt.same la lb = false) := Lib.hid (eqL_len (by rw [← hn1.out, ← hn2.out]; simpa using hne))
   go_enter Tryd.func103, Tryd.ntmps103
   go_wp2_with fail
   go_ret
   exact ⟨ret_bool (by rw [HR0.out, HX.out]), Below.refl _ _⟩

set_option maxRecDepth 100000 in
set_option maxHeartbeats 1000000 in
theorem psameAlt_any (va vb : Value) (a b : Al) (w : World) (ha : AlV w va a) (hb : AlV w vb b) : Calls Tryd.prog 77 #[va, vb] w fun e w' => e = .returned (.bool (a.same b)) ∧ Below w.heap.size w w' := by
 obtain ⟨pa, rfl, ha⟩ := ha
 obtain ⟨pb, rfl, hb⟩ := hb
 obtain ⟨a1, n1, c1, rfl, _⟩ := ha.open
 obtain ⟨a2, n2, c2, rfl, _⟩ := hb.open
 have HS := Lib.hid (fun W => psameSym_any a.prec b.prec W)
 have HE := Lib.hid (fun (W : World) (hW : Below w.heap.size w W) => eqfPt_any _ _ a.parts b.parts W (ha.below hW) (hb.below hW))
 have HR : Hid (a.same b = (a.prec.same b.prec && eqL Pt.same a.parts b.parts)) := Lib.hid rfl
 generalize a.same b = R at HR ⊢
 generalize a.prec.same b.prec = sb at HR HS
 generalize eqL Pt.same a.parts b.parts = pb at HR HE
 obtain ⟨la, ⟨an, al, am, ap⟩, ka⟩ := a
 obtain ⟨lb, ⟨bn, bl, bm, bp⟩, kb⟩ := b
 simp only [Sm.agg] at *
 have hba := ((Below.refl w.heap.size w).alloc (Nat.le_refl _) (.cells #[.slice a1 n1 c1, .string an, .bool al, .int .i64 am, .int .i64 ap, .int .i64 ka] 42)).alloc (by simp) (.cells #[.slice a2 n2 c2, .string bn, .bool bl, .int .i64 bm, .int .i64 bp, .int .i64 kb] 42)
 have HC := Lib.hid (fun W hW => boxes2 (w := w) (A := #[.slice a1 n1 c1, .string an, .bool al, .int .i64 am, .int .i64 ap, .int .i64 ka]) (B := #[.slice a2 n2 c2, .string bn, .bool bl, .int .i64 bm, .int .i64 bp, .int .i64 kb]) (T := 42) (U := 42) (W := W) hW)
 clear ha hb
 go_enter Tryd.func77, Tryd.ntmps77
 cases sb with
 | false =>
   go_wp2_with (first | (go_at_call 75; refine (HS.out _).mono ?_; rintro e w9 ⟨rfl, hb9⟩))
   go_ret
   exact ⟨ret_bool (by rw [HR.out]; rfl), hba.trans (hb9.mono hba.size)⟩
 | true =>
   go_wp2_with (first | (go_at_call 75; refine (HS.out _).mono ?_; rintro e w9 ⟨rfl, hb9⟩; have q1 := (HC.out _ hb9).1 0 _ rfl; have q2 := (HC.out _ hb9).2 0 _ rfl) | (go_at_call 103; refine (HE.out _ (hba.trans (hb9.mono hba.size))).mono ?_; rintro e w8 ⟨rfl, hb8⟩))
   go_ret
   exact ⟨ret_bool (by rw [HR.out]; rfl), hba.trans ((hb9.trans (hb8.mono hb9.size)).mono hba.size)⟩

set_option maxRecDepth 100000 in
set_option maxHeartbeats 4000000 in
theorem eqfAl_any (va vb : Value) (la lb : List Al) (w : World) (ha : AlsV w va la) (hb : AlsV w vb lb) :
  Calls Tryd.prog 76 #[va, vb, .func (.func 77) #[] #[]] w fun e w' => e = .returned (.bool (eqL Al.same la lb)) ∧ Below w.heap.size w w' := by
 obtain ⟨a1, n1, c1, rfl, hn1, hc1, hm1, hx1⟩ := ha.open
 obtain ⟨a2, n2, c2, rfl, hn2, hc2, hm2, hx2⟩ := hb.open
 clear ha hb
 generalize hR0 : eqL Al.same la lb = R
 have HR0 : Hid (R = eqL Al.same la lb) := Lib.hid hR0.symm
 clear hR0
 by_cases hne : n1 = n2
 · obtain rfl := hne
   have HL : Hid (la.length = lb.length) := Lib.hid (by rw [← hn1.out, ← hn2.out])
   have h1 : (((n1 : Int)) != ((n1 : Int))) = false := by simp
   go_enter Tryd.func76, Tryd.ntmps76
   go_wp2_with fail
   go_loopw [17] (fun i wr => ∃ k : Nat, k ≤ n1 ∧ i = .int .i64 k ∧ Below w.heap.size w wr ∧ Hid (eqTo Al.same la lb k)) (fun i _ => n1 - (intOf i).toNat)
   case atStart => exact ⟨0, Nat.zero_le _, rfl, Below.refl _ _, Lib.hid (eqTo_none _ _ _)⟩
   case round =>
    obtain ⟨k, hk, rfl, hbr, hp⟩ := hrel
    have hs1 := hbr.size
    by_cases hlt : k < n1
    · obtain ⟨b1, o1, x, sx, rfl, ex, hsx, x0, x1, x2, x3, x4, x5⟩ := hx1.out k hlt
      obtain ⟨b2, o2, y, sy, rfl, ey, hsy, y0, y1, y2, y3, y4, y5⟩ := hx2.out k hlt
      obtain ⟨ax, nx, cx, rfl, _⟩ := hsx.open
      obtain ⟨ay, ny, cy, rfl, _⟩ := hsy.open
      have hb1 := World.block_lt_of_cell? _ _ x0
      have hb2 := World.block_lt_of_cell? _ _ y0
      replace x0 := (hbr.cell (p := ⟨b1, o1 + k * 6, none⟩) hb1).trans x0
      replace x1 := (hbr.cell (p := ⟨b1, o1 + k * 6 + 1, none⟩) hb1).trans x1
      replace x2 := (hbr.cell (p := ⟨b1, o1 + k * 6 + 2, none⟩) hb1).trans x2
      replace x3 := (hbr.cell (p := ⟨b1, o1 + k * 6 + 3, none⟩) hb1).trans x3
      replace x4 := (hbr.cell (p := ⟨b1, o1 + k * 6 + 4, none⟩) hb1).trans x4
      replace x5 := (hbr.cell (p := ⟨b1, o1 + k * 6 + 5, none⟩) hb1).trans x5
      replace y0 := (hbr.cell (p := ⟨b2, o2 + k * 6, none⟩) hb2).trans y0
      replace y1 := (hbr.cell (p := ⟨b2, o2 + k * 6 + 1, none⟩) hb2).trans y1
      replace y2 := (hbr.cell (p := ⟨b2, o2 + k * 6 + 2, none⟩) hb2).trans y2
      replace y3 := (hbr.cell (p := ⟨b2, o2 + k * 6 + 3, none⟩) hb2).trans y3
      replace y4 := (hbr.cell (p := ⟨b2, o2 + k * 6 + 4, none⟩) hb2).trans y4
      replace y5 := (hbr.cell (p := ⟨b2, o2 + k * 6 + 5, none⟩) hb2).trans y5
      have HY := Lib.hid (fun (W : World) (hW : Below w.heap.size w W) => psameAlt_any (.agg #[(.slice ax nx cx), .string x.prec.name, .bool x.prec.lit, .int .i64 x.prec.num, .int .i64 x.prec.pos, .int .i64 x.pos]) (.agg #[(.slice ay ny cy), .string y.prec.name, .bool y.prec.lit, .int .i64 y.prec.num, .int .i64 y.prec.pos, .int .i64 y.pos]) x y W ⟨_, rfl, hsx.below hW⟩ ⟨_, rfl, hsy.below hW⟩)
      have HN := Lib.hid (fun h => eqTo_next (p := Al.same) hp.out ex ey h)
      have HF := Lib.hid (fun h => eqL_fails (p := Al.same) ex ey h)
      generalize Al.same x y = ss at HY HN HF
      obtain ⟨xs, ⟨xn, xl, xm, xp⟩, xk⟩ := x
      obtain ⟨ys, ⟨yn, yl, ym, yp⟩, yk⟩ := y
      simp only [Sm.agg, Pt.agg] at x0 x1 x2 x3 x4 x5 y0 y1 y2 y3 y4 y5 HY
      have z0 := cell_alloc y0
      have z1 := cell_alloc y1
      have z2 := cell_alloc y2
      have z3 := cell_alloc y3
      have z4 := cell_alloc y4
      have z5 := cell_alloc y5
      have i1 : (k : Int) < (n1 : Int) := by omega
      clear ex ey hp hx1 hx2 hsx hsy
      cases ss with
      | false =>
        go_wp2_with (first | (go_at_call 77; refine (HY.out _ ((hbr.alloc hs1 _).alloc (by simp; omega) _)).mono ?_; rintro e w9 ⟨rfl, hb9⟩))
        go_ret
        exact ⟨ret_bool (by have e := HR0.out; first | rw [e, HF.out rfl] | rw [e, HF.out trivial]), ((hbr.alloc hs1 _).alloc (by simp; omega) _).trans (hb9.mono (by simp; omega))⟩
      | true =>
        have HN3 := Lib.hid (HN.out rfl)
        go_wp2_with (first | (go_at_call 77; refine (HY.out _ ((hbr.alloc hs1 _).alloc (by simp; omega) _)).mono ?_; rintro e w9 ⟨rfl, hb9⟩))
        have hz2 := ((hbr.alloc hs1 _).alloc (by simp; omega) _).trans (hb9.mono (by simp; omega))
        go_roundw
        case rel => exact ⟨k + 1, by omega, by go_num, hz2, HN3⟩
        case measure => simp [intOf]; omega
    · have HX := Lib.hid (eqL_done hp.out HL.out (by have := hn1.out; omega))
      clear hx1 hx2
      go_wp2_with fail
      go_ret
      exact ⟨ret_bool (by rw [HR0.out, HX.out]), hbr⟩
 · have h1 : (((n1 : Int)) != ((n2 : Int))) = true := by simp; omega
   have HX : Hid (eqL Al.same la lb = false) := Lib.hid (eqL_len (by rw [← hn1.out, ← hn2.out]; simpa using hne))
   go_enter Tryd.func76, Tryd.ntmps76
   go_wp2_with fail
   go_ret
   exact ⟨ret_bool (by rw [HR0.out, HX.out]), Below.refl _ _⟩

set_option maxRecDepth 100000 in
set_option maxHeartbeats 1000000 in
theorem psameRule_any (va vb : Value) (a b : Rl) (w : World) (ha : RlV w va a) (hb : RlV w vb b) : Calls Tryd.prog 47 #[va, vb] w fun e w' => e = .returned (.bool (a.same b)) ∧ Below w.heap.size w w' := by
 obtain ⟨pa, rfl, ha⟩ := ha
 obtain ⟨pb, rfl, hb⟩ := hb
 obtain ⟨a1, n1, c1, rfl, _⟩ := ha.open
 obtain ⟨a2, n2, c2, rfl, _⟩ := hb.open
 have HE := Lib.hid (fun (W : World) (hW : Below w.heap.size w W) => eqfAl_any _ _ a.alts b.alts W (ha.below hW) (hb.below hW))
 have HR : Hid (a.same b = ((a.left.toList == b.left.toList) && eqL Al.same a.alts b.alts)) := Lib.hid rfl
 generalize a.same b = R at HR ⊢
 generalize eqL Al.same a.alts b.alts = pb at HR HE
 obtain ⟨xa, la, ka⟩ := a
 obtain ⟨xb, lb, kb⟩ := b
 simp only at *
 have hba := ((Below.refl w.heap.size w).alloc (Nat.le_refl _) (.cells #[.string xa, .slice a1 n1 c1, .int .i64 ka] 37)).alloc (by simp) (.cells #[.string xb, .slice a2 n2 c2, .int .i64 kb] 37)
 clear ha hb
 go_enter Tryd.func47, Tryd.ntmps47
 cases h1 : (xa.toList == xb.toList) with
 | false =>
   go_wp2_with fail
   go_ret
   exact ⟨ret_bool (by rw [HR.out, h1]; rfl), hba⟩
 | true =>
   go_wp2_with (first | (go_at_call 76; refine (HE.out _ hba).mono ?_; rintro e w8 ⟨rfl, hb8⟩))
   go_ret
   exact ⟨ret_bool (by rw [HR.out, h1]; rfl), hba.trans (hb8.mono hba.size)⟩

set_option maxRecDepth 100000 in
set_option maxHeartbeats 1000000 in
theorem psameDecl_any (va vb : Value) (a b : Dc) (w : World) (ha : DcV w va a) (hb : DcV w vb b) : Calls Tryd.prog 45 #[va, vb] w fun e w' => e = .returned (.bool (a.same b)) ∧ Below w.heap.size w w' := by
 obtain ⟨pa, rfl, ha⟩ := ha
 obtain ⟨pb, rfl, hb⟩ := hb
 obtain ⟨a1, n1, c1, rfl, _⟩ := ha.open
 obtain ⟨a2, n2, c2, rfl, _⟩ := hb.open
 have HE := Lib.hid (fun (W : World) (hW : Below w.heap.size w W) => eqfSm_any _ _ a.syms b.syms W (ha.below hW) (hb.below hW))
 have HR : Hid (a.same b = ((a.kind == b.kind) && ((a.tag.toList == b.tag.toList) && eqL Sm.same a.syms b.syms))) := Lib.hid rfl
 generalize a.same b = R at HR ⊢
 generalize eqL Sm.same a.syms b.syms = pb at HR HE
 obtain ⟨da, xa, la, ka⟩ := a
 obtain ⟨db, xb, lb, kb⟩ := b
 simp only at *
 have hba := ((Below.refl w.heap.size w).alloc (Nat.le_refl _) (.cells #[.int .i64 da, .string xa, .slice a1 n1 c1, .int .i64 ka] 51)).alloc (by simp) (.cells #[.int .i64 db, .string xb, .slice a2 n2 c2, .int .i64 kb] 51)
 clear ha hb
 go_enter Tryd.func45, Tryd.ntmps45
 cases h0 : (da == db) with
 | false =>
   go_wp2_with fail
   go_ret
   exact ⟨ret_bool (by rw [HR.out, h0]; rfl), hba⟩
 | true =>
   cases h1 : (xa.toList == xb.toList) with
   | false =>
     go_wp2_with fail
     go_ret
     exact ⟨ret_bool (by rw [HR.out, h0, h1]; rfl), hba⟩
   | true =>
     go_wp2_with (first | (go_at_call 74; refine (HE.out _ hba).mono ?_; rintro e w8 ⟨rfl, hb8⟩))
     go_ret
     exact ⟨ret_bool (by rw [HR.out, h0, h1]; rfl), hba.trans (hb8.mono hba.size)⟩

set_option maxRecDepth 100000 in
set_option maxHeartbeats 4000000 in
theorem eqfRl_any (va vb : Value) (la lb : List Rl) (w : World) (ha : RlsV w va la) (hb : RlsV w vb lb) :
  Calls Tryd.prog 46 #[va, vb, .func (.func 47) #[] #[]] w fun e w' => e = .returned (.bool (eqL Rl.same la lb)) ∧ Below w.heap.size w w' := by
 obtain ⟨a1, n1, c1, rfl, hn1, hc1, hm1, hx1⟩ := ha.open
 obtain ⟨a2, n2, c2, rfl, hn2, hc2, hm2, hx2⟩ := hb.open
 clear ha hb
 generalize hR0 : eqL Rl.same la lb = R
 have HR0 : Hid (R = eqL Rl.same la lb) := Lib.hid hR0.symm
 clear hR0
 by_cases hne : n1 = n2
 · obtain rfl := hne
   have HL : Hid (la.length = lb.length) := Lib.hid (by rw [← hn1.out, ← hn2.out])
   have h1 : (((n1 : Int)) != ((n1 : Int))) = false := by simp
   go_enter Tryd.func46, Tryd.ntmps46
   go_wp2_with fail
   go_loopw [17] (fun i wr => ∃ k : Nat, k ≤ n1 ∧ i = .int .i64 k ∧ Below w.heap.size w wr ∧ Hid (eqTo Rl.same la lb k)) (fun i _ => n1 - (intOf i).toNat)
   case atStart => exact ⟨0, Nat.zero_le _, rfl, Below.refl _ _, Lib.hid (eqTo_none _ _ _)⟩
   case round =>
    obtain ⟨k, hk, rfl, hbr, hp⟩ := hrel
    have hs1 := hbr.size
    by_cases hlt : k < n1
    · obtain ⟨b1, o1, x, sx, rfl, ex, hsx, x0, x1, x2⟩ := hx1.out k hlt
      obtain ⟨b2, o2, y, sy, rfl, ey, hsy, y0, y1, y2⟩ := hx2.out k hlt
      obtain ⟨ax, nx, cx, rfl, _⟩ := hsx.open
      obtain ⟨ay, ny, cy, rfl, _⟩ := hsy.open
      have hb1 := World.block_lt_of_cell? _ _ x0
      have hb2 := World.block_lt_of_cell? _ _ y0
      replace x0 := (hbr.cell (p := ⟨b1, o1 + k * 3, none⟩) hb1).trans x0
      replace x1 := (hbr.cell (p := ⟨b1, o1 + k * 3 + 1, none⟩) hb1).trans x1
      replace x2 := (hbr.cell (p := ⟨b1, o1 + k * 3 + 2, none⟩) hb1).trans x2
      replace y0 := (hbr.cell (p := ⟨b2, o2 + k * 3, none⟩) hb2).trans y0
      replace y1 := (hbr.cell (p := ⟨b2, o2 + k * 3 + 1, none⟩) hb2).trans y1
      replace y2 := (hbr.cell (p := ⟨b2, o2 + k * 3 + 2, none⟩) hb2).trans y2
      have HY := Lib.hid (fun (W : World) (hW : Below w.heap.size w W) => psameRule_any (.agg #[.string x.left, (.slice ax nx cx), .int .i64 x.pos]) (.agg #[.string y.left, (.slice ay ny cy), .int .i64 y.pos]) x y W ⟨_, rfl, hsx.below hW⟩ ⟨_, rfl, hsy.below hW⟩)
      have HN := Lib.hid (fun h => eqTo_next (p := Rl.same) hp.out ex ey h)
      have HF := Lib.hid (fun h => eqL_fails (p := Rl.same) ex ey h)
      generalize Rl.same x y = ss at HY HN HF
      obtain ⟨xl, xs, xk⟩ := x
      obtain ⟨yl, ys, yk⟩ := y
      simp only [Sm.agg, Pt.agg] at x0 x1 x2 y0 y1 y2 HY
      have z0 := cell_alloc y0
      have z1 := cell_alloc y1
      have z2 := cell_alloc y2
      have i1 : (k : Int) < (n1 : Int) := by omega
      clear ex ey hp hx1 hx2 hsx hsy
      cases ss with
      | false =>
        go_wp2_with (first | (go_at_call 47; refine (HY.out _ ((hbr.alloc hs1 _).alloc (by simp; omega) _)).mono ?_; rintro e w9 ⟨rfl, hb9⟩))
        go_ret
        exact ⟨ret_bool (by have e := HR0.out; first | rw [e, HF.out rfl] | rw [e, HF.out trivial]), ((hbr.alloc hs1 _).alloc (by simp; omega) _).trans (hb9.mono (by simp; omega))⟩
      | true =>
        have HN3 := Lib.hid (HN.out rfl)
        go_wp2_with (first | (go_at_call 47; refine (HY.out _ ((hbr.alloc hs1 _).alloc (by simp; omega) _)).mono ?_; rintro e w9 ⟨rfl, hb9⟩))
        have hz2 := ((hbr.alloc hs1 _).alloc (by simp; omega) _).trans (hb9.mono (by simp; omega))
        go_roundw
        case rel => exact ⟨k + 1, by omega, by go_num, hz2, HN3⟩
        case measure => simp [intOf]; omega
    · have HX := Lib.hid (eqL_done hp.out HL.out (by have := hn1.out; omega))
      clear hx1 hx2
      go_wp2_with fail
      go_ret
      exact ⟨ret_bool (by rw [HR0.out, HX.out]), hbr⟩
 · have h1 : (((n1 : Int)) != ((n2 : Int))) = true := by simp; omega
   have HX : Hid (eqL Rl.same la lb = false) := Lib.hid (eqL_len (by rw [← hn1.out, ← hn2.out]; simpa using hne))
   go_enter Tryd.func46, Tryd.ntmps46
   go_wp2_with fail
   go_ret
   exact ⟨ret_bool (by rw [HR0.out, HX.out]), Below.refl _ _⟩

set_option maxRecDepth 100000 in
set_option maxHeartbeats 4000000 in
theorem eqfDc_any (va vb : Value) (la lb : List Dc) (w : World) (ha : DcsV w va la) (hb : DcsV w vb lb) :
  Calls Tryd.prog 44 #[va, vb, .func (.func 45) #[] #[]] w fun e w' => e = .returned (.bool (eqL Dc.same la lb)) ∧ Below w.heap.size w w' := by
 obtain ⟨a1, n1, c1, rfl, hn1, hc1, hm1, hx1⟩ := ha.open
 obtain ⟨a2, n2, c2, rfl, hn2, hc2, hm2, hx2⟩ := hb.open
 clear ha hb
 generalize hR0 : eqL Dc.same la lb = R
 have HR0 : Hid (R = eqL Dc.same la lb) := Lib.hid hR0.symm
 clear hR0
 by_cases hne : n1 = n2
 · obtain rfl := hne
   have HL : Hid (la.length = lb.length) := Lib.hid (by rw [← hn1.out, ← hn2.out])
   have h1 : (((n1 : Int)) != ((n1 : Int))) = false := by simp
   go_enter Tryd.func44, Tryd.ntmps44
   go_wp2_with fail
   go_loopw [17] (fun i wr => ∃ k : Nat, k ≤ n1 ∧ i = .int .i64 k ∧ Below w.heap.size w wr ∧ Hid (eqTo Dc.same la lb k)) (fun i _ => n1 - (intOf i).toNat)
   case atStart => exact ⟨0, Nat.zero_le _, rfl, Below.refl _ _, Lib.hid (eqTo_none _ _ _)⟩
   case round =>
    obtain ⟨k, hk, rfl, hbr, hp⟩ := hrel
    have hs1 := hbr.size
    by_cases hlt : k < n1
    · obtain ⟨b1, o1, x, sx, rfl, ex, hsx, x0, x1, x2, x3⟩ := hx1.out k hlt
      obtain ⟨b2, o2, y, sy, rfl, ey, hsy, y0, y1, y2, y3⟩ := hx2.out k hlt
      obtain ⟨ax, nx, cx, rfl, _⟩ := hsx.open
      obtain ⟨ay, ny, cy, rfl, _⟩ := hsy.open
      have hb1 := World.block_lt_of_cell? _ _ x0
      have hb2 := World.block_lt_of_cell? _ _ y0
      replace x0 := (hbr.cell (p := ⟨b1, o1 + k * 4, none⟩) hb1).trans x0
      replace x1 := (hbr.cell (p := ⟨b1, o1 + k * 4 + 1, none⟩) hb1).trans x1
      replace x2 := (hbr.cell (p := ⟨b1, o1 + k * 4 + 2, none⟩) hb1).trans x2
      replace x3 := (hbr.cell (p := ⟨b1, o1 + k * 4 + 3, none⟩) hb1).trans x3
      replace y0 := (hbr.cell (p := ⟨b2, o2 + k * 4, none⟩) hb2).trans y0
      replace y1 := (hbr.cell (p := ⟨b2, o2 + k * 4 + 1, none⟩) hb2).trans y1
      replace y2 := (hbr.cell (p := ⟨b2, o2 + k * 4 + 2, none⟩) hb2).trans y2
      replace y3 := (hbr.cell (p := ⟨b2, o2 + k * 4 + 3, none⟩) hb2).trans y3
      have HY := Lib.hid (fun (W : World) (hW : Below w.heap.size w W) => psameDecl_any (.agg #[.int .i64 x.kind, .string x.tag, (.slice ax nx cx), .int .i64 x.pos]) (.agg #[.int .i64 y.kind, .string y.tag, (.slice ay ny cy), .int .i64 y.pos]) x y W ⟨_, rfl, hsx.below hW⟩ ⟨_, rfl, hsy.below hW⟩)
      have HN := Lib.hid (fun h => eqTo_next (p := Dc.same) hp.out ex ey h)
      have HF := Lib.hid (fun h => eqL_fails (p := Dc.same) ex ey h)
      generalize Dc.same x y = ss at HY HN HF
      obtain ⟨xd, xt, xs, xk⟩ := x
      obtain ⟨yd, yt, ys, yk⟩ := y
      simp only [Sm.agg, Pt.agg] at x0 x1 x2 x3 y0 y1 y2 y3 HY
      have z0 := cell_alloc y0
      have z1 := cell_alloc y1
      have z2 := cell_alloc y2
      have z3 := cell_alloc y3
      have i1 : (k : Int) < (n1 : Int) := by omega
      clear ex ey hp hx1 hx2 hsx hsy
      cases ss with
      | false =>
        go_wp2_with (first | (go_at_call 45; refine (HY.out _ ((hbr.alloc hs1 _).alloc (by simp; omega) _)).mono ?_; rintro e w9 ⟨rfl, hb9⟩))
        go_ret
        exact ⟨ret_bool (by have e := HR0.out; first | rw [e, HF.out rfl] | rw [e, HF.out trivial]), ((hbr.alloc hs1 _).alloc (by simp; omega) _).trans (hb9.mono (by simp; omega))⟩
      | true =>
        have HN3 := Lib.hid (HN.out rfl)
        go_wp2_with (first | (go_at_call 45; refine (HY.out _ ((hbr.alloc hs1 _).alloc (by simp; omega) _)).mono ?_; rintro e w9 ⟨rfl, hb9⟩))
        have hz2 := ((hbr.alloc hs1 _).alloc (by simp; omega) _).trans (hb9.mono (by simp; omega))
        go_roundw
        case rel => exact ⟨k + 1, by omega, by go_num, hz2, HN3⟩
        case measure => simp [intOf]; omega
    · have HX := Lib.hid (eqL_done hp.out HL.out (by have := hn1.out; omega))
      clear hx1 hx2
      go_wp2_with fail
      go_ret
      exact ⟨ret_bool (by rw [HR0.out, HX.out]), hbr⟩
 · have h1 : (((n1 : Int)) != ((n2 : Int))) = true := by simp; omega
   have HX : Hid (eqL Dc.same la lb = false) := Lib.hid (eqL_len (by rw [← hn1.out, ← hn2.out]; simpa using hne))
   go_enter Tryd.func44, Tryd.ntmps44
   go_wp2_with fail
   go_ret
   exact ⟨ret_bool (by rw [HR0.out, HX.out]), Below.refl _ _⟩

set_option maxRecDepth 100000 in
set_option maxHeartbeats 2000000 in
theorem psame_any (va vb : Value) (a b : So) (w : World) (ha : SoV w va a) (hb : SoV w vb b) : Calls Tryd.prog 20 #[va, vb] w fun e w' => e = .returned (.bool (a.same b)) ∧ Below w.heap.size w w' := by
 obtain ⟨da, ra, rfl, hda, hra⟩ := ha
 obtain ⟨db, rb, rfl, hdb, hrb⟩ := hb
 obtain ⟨a1, n1, c1, rfl, _⟩ := hda.open
 obtain ⟨a2, n2, c2, rfl, _⟩ := hdb.open
 obtain ⟨a3, n3, c3, rfl, _⟩ := hra.open
 obtain ⟨a4, n4, c4, rfl, _⟩ := hrb.open
 have HD := Lib.hid (fun (W : World) (hW : Below w.heap.size w W) => eqfDc_any _ _ a.decls b.decls W (hda.below hW) (hdb.below hW))
 have HU := Lib.hid (fun (W : World) (hW : Below w.heap.size w W) => eqfRl_any _ _ a.rules b.rules W (hra.below hW) (hrb.below hW))
 have HR : Hid (a.same b = ((a.pro.toList == b.pro.toList) && ((a.tail.toList == b.tail.toList) && (eqL Dc.same a.decls b.decls && eqL Rl.same a.rules b.rules)))) := Lib.hid rfl
 generalize a.same b = R at HR ⊢
 generalize eqL Dc.same a.decls b.decls = pd at HR HD
 generalize eqL Rl.same a.rules b.rules = pr at HR HU
 obtain ⟨pa, la, ka, ta⟩ := a
 obtain ⟨pb, lb, kb, tb⟩ := b
 simp only at *
 clear hda hdb hra hrb
 have hba := ((Below.refl w.heap.size w).alloc (Nat.le_refl _) (.cells #[.string pa, .slice a1 n1 c1, .slice a3 n3 c3, .string ta] 29)).alloc (by simp) (.cells #[.string pb, .slice a2 n2 c2, .slice a4 n4 c4, .string tb] 29)
 have HC := Lib.hid (fun W hW => boxes2 (w := w) (A := #[.string pa, .slice a1 n1 c1, .slice a3 n3 c3, .string ta]) (B := #[.string pb, .slice a2 n2 c2, .slice a4 n4 c4, .string tb]) (T := 29) (U := 29) (W := W) hW)
 go_enter Tryd.func20, Tryd.ntmps20
 cases h1 : (pa.toList == pb.toList) with
 | false =>
   go_wp2_with fail
   go_ret
   exact ⟨ret_bool (by rw [HR.out, h1]; rfl), hba⟩
 | true =>
   cases h2 : (ta.toList == tb.toList) with
   | false =>
     go_wp2_with fail
     go_ret
     exact ⟨ret_bool (by rw [HR.out, h1, h2]; rfl), hba⟩
   | true =>
     cases pd with
     | false =>
       go_wp2_with (first | (go_at_call 44; refine (HD.out _ hba).mono ?_; rintro e w9 ⟨rfl, hb9⟩))
       go_ret
       exact ⟨ret_bool (by rw [HR.out, h1, h2]; rfl), hba.trans (hb9.mono hba.size)⟩
     | true =>
       go_wp2_with (first | (go_at_call 44; refine (HD.out _ hba).mono ?_; rintro e w9 ⟨rfl, hb9⟩; have q1 := (HC.out _ hb9).1 2 _ rfl; have q2 := (HC.out _ hb9).2 2 _ rfl) | (go_at_call 46; refine (HU.out _ (hba.trans (hb9.mono hba.size))).mono ?_; rintro e w8 ⟨rfl, hb8⟩))
       go_ret
       exact ⟨ret_bool (by rw [HR.out, h1, h2]; rfl), hba.trans ((hb9.trans (hb8.mono hb9.size)).mono hba.size)⟩
end Go.Proofs.YtnoppoifepbchaaDoor
