/- Symbols, parts, alternatives: are they the same? The document's. -/
import Derived.Test.YtnoppoifepbchaaDoorChecked
import Derived.Test.YtnoppoifepbchaaDoorSrc
import Derived.Deep.QuietTactic
import Derived.Deep.RegionHeld3
import Derived.Test.YtnoppoifepbchaaDoorBuilder
import Derived.Test.YtnoppoifepbchaaDoorQuote
import Derived.BigQuiet
namespace Go.Proofs.YtnoppoifepbchaaDoor
section
open Go.RowKit
set_option linter.unusedVariables false
set_option linter.unusedSimpArgs false

def Sm.same (a b : Sm) : Bool := (a.name.toList == b.name.toList) && ((a.lit == b.lit) && (a.num == b.num))
def Pt.same (a b : Pt) : Bool := (a.code.toList == b.code.toList) && a.sym.same b.sym
def Al.same (a b : Al) : Bool := a.prec.same b.prec && eqL Pt.same a.parts b.parts

set_option maxRecDepth 100000 in
theorem eqSym_any (a b : Sm) (w : World) : Calls Tryd.prog 29 #[a.agg, b.agg] w fun e w' => e = .returned (.bool (a.same b)) ∧ Below w.heap.size w w' := by
 have HR : Hid (a.same b = ((a.name.toList == b.name.toList) && ((a.lit == b.lit) && (a.num == b.num)))) := Lib.hid rfl
 generalize a.same b = R at HR ⊢
 obtain ⟨n, l, m, p⟩ := a
 obtain ⟨n', l', m', p'⟩ := b
 unfold Sm.agg
 simp only at HR ⊢
 go_enter Tryd.func29, Tryd.ntmps29
 cases h1 : (n.toList == n'.toList) with
 | false =>
   go_wp2_with fail
   go_ret
   exact ⟨ret_bool (by rw [HR.out, h1]; rfl), ((Below.refl _ _).alloc (Nat.le_refl _) _).alloc (by simp) _⟩
 | true =>
   cases h2 : (l == l') with
   | false =>
     go_wp2_with fail
     go_ret
     exact ⟨ret_bool (by rw [HR.out, h1, h2]; rfl), ((Below.refl _ _).alloc (Nat.le_refl _) _).alloc (by simp) _⟩
   | true =>
     go_wp2_with fail
     go_ret
     exact ⟨ret_bool (by rw [HR.out, h1, h2]; rfl), ((Below.refl _ _).alloc (Nat.le_refl _) _).alloc (by simp) _⟩
end
section
open Go.RowKit
set_option linter.unusedVariables false
set_option linter.unusedSimpArgs false

/-- two values that were put into memory, in every world behind -/
theorem boxes2 {w : World} {A B : Array Value} {T U : TypeId} {W : World} (hW : Below ((w.alloc (.cells A T)).alloc (.cells B U)).heap.size ((w.alloc (.cells A T)).alloc (.cells B U)) W) :
  (∀ i u, A[i]? = some u → W.cell? ⟨w.heap.size, i, none⟩ = some u) ∧ (∀ i u, B[i]? = some u → W.cell? ⟨w.heap.size + 1, i, none⟩ = some u) := by
 refine ⟨fun i u hu => ?_, fun i u hu => ?_⟩
 · rw [hW.cell (p := ⟨w.heap.size, i, none⟩) (by simp; omega), World.cell?_alloc_past _ _ _ (by simp), World.cell?_alloc_at _ _ _ _ rfl]; exact hu
 · rw [hW.cell (p := ⟨w.heap.size + 1, i, none⟩) (by simp), World.cell?_alloc_at _ _ _ _ (by simp)]; exact hu

set_option maxRecDepth 100000 in
set_option maxHeartbeats 4000000 in
theorem eqAlt_any (va vb : Value) (a b : Al) (w : World) (ha : AlV w va a) (hb : AlV w vb b) : Calls Tryd.prog 30 #[va, vb] w fun e w' => e = .returned (.bool (a.same b)) ∧ Below w.heap.size w w' := by
 obtain ⟨pa, rfl, ha⟩ := ha
 obtain ⟨pb, rfl, hb⟩ := hb
 obtain ⟨a1, n1, c1, rfl, hn1, hc1, hm1, hx1⟩ := ha.open
 obtain ⟨a2, n2, c2, rfl, hn2, hc2, hm2, hx2⟩ := hb.open
 have HS := Lib.hid (fun W => eqSym_any a.prec b.prec W)
 have HR : Hid (a.same b = (a.prec.same b.prec && eqL Pt.same a.parts b.parts)) := Lib.hid rfl
 generalize a.same b = R at HR ⊢
 obtain ⟨la, xa, ka⟩ := a
 obtain ⟨lb, xb, kb⟩ := b
 simp only at *
 generalize hsm : xa.same xb = sm at HS HR
 clear hsm
 obtain ⟨an, al, am, ap⟩ := xa
 obtain ⟨bn, bl, bm, bp⟩ := xb
 simp only [Sm.agg] at *
 clear ha hb
 have hba := ((Below.refl w.heap.size w).alloc (Nat.le_refl _) (.cells #[.slice a1 n1 c1, .string an, .bool al, .int .i64 am, .int .i64 ap, .int .i64 ka] 42)).alloc (by simp) (.cells #[.slice a2 n2 c2, .string bn, .bool bl, .int .i64 bm, .int .i64 bp, .int .i64 kb] 42)
 have HC := Lib.hid (fun W hW => boxes2 (w := w) (A := #[.slice a1 n1 c1, .string an, .bool al, .int .i64 am, .int .i64 ap, .int .i64 ka]) (B := #[.slice a2 n2 c2, .string bn, .bool bl, .int .i64 bm, .int .i64 bp, .int .i64 kb]) (T := 42) (U := 42) (W := W) hW)
 by_cases hne : n1 = n2
 · obtain rfl := hne
   have HL : Hid (la.length = lb.length) := Lib.hid (by rw [← hn1.out, ← hn2.out])
   have h1 : (((n1 : Int)) != ((n1 : Int))) = false := by simp
   go_enter Tryd.func30, Tryd.ntmps30
   cases sm with
   | false =>
     go_wp2_with (first | (go_at_call 29; refine (HS.out _).mono ?_; rintro e w1 ⟨rfl, h1⟩))
     go_ret
     exact ⟨ret_bool (by rw [HR.out]; rfl), hba.trans (h1.mono (by simp; omega))⟩
   | true =>
     go_wp2_with (first | (go_at_call 29; refine (HS.out _).mono ?_; rintro e w1 ⟨rfl, h1⟩))
     have hw1 := hba.trans (h1.mono (by simp; omega))
     go_loopw [5] (fun i wr => ∃ k : Nat, k ≤ n1 ∧ i = .int .i64 k ∧ Below w1.heap.size w1 wr ∧ Hid (eqTo Pt.same la lb k)) (fun i _ => n1 - (intOf i).toNat)
     case atStart => exact ⟨0, Nat.zero_le _, rfl, Below.refl _ _, Lib.hid (eqTo_none _ _ _)⟩
     case round =>
      obtain ⟨k, hk, rfl, hbr, hp⟩ := hrel
      have hbz := h1.trans (hbr.mono h1.size)
      have q1 := (HC.out wr hbz).1 0 _ rfl
      have q2 := (HC.out wr hbz).2 0 _ rfl
      by_cases hlt : k < n1
      · obtain ⟨b1, o1, x, rfl, ex, x0, x1, x2, x3, x4, x5⟩ := hx1.out k hlt
        obtain ⟨b2, o2, y, rfl, ey, y0, y1, y2, y3, y4, y5⟩ := hx2.out k hlt
        have hbw := hw1.trans (hbr.mono hw1.size)
        have hb1 := World.block_lt_of_cell? _ _ x0
        have hb2 := World.block_lt_of_cell? _ _ y0
        replace x0 := (hbw.cell (p := ⟨b1, o1 + k * 6, none⟩) hb1).trans x0
        replace x1 := (hbw.cell (p := ⟨b1, o1 + k * 6 + 1, none⟩) hb1).trans x1
        replace x2 := (hbw.cell (p := ⟨b1, o1 + k * 6 + 2, none⟩) hb1).trans x2
        replace x3 := (hbw.cell (p := ⟨b1, o1 + k * 6 + 3, none⟩) hb1).trans x3
        replace x4 := (hbw.cell (p := ⟨b1, o1 + k * 6 + 4, none⟩) hb1).trans x4
        replace y0 := (hbw.cell (p := ⟨b2, o2 + k * 6, none⟩) hb2).trans y0
        replace y1 := (hbw.cell (p := ⟨b2, o2 + k * 6 + 1, none⟩) hb2).trans y1
        replace y2 := (hbw.cell (p := ⟨b2, o2 + k * 6 + 2, none⟩) hb2).trans y2
        replace y3 := (hbw.cell (p := ⟨b2, o2 + k * 6 + 3, none⟩) hb2).trans y3
        replace y4 := (hbw.cell (p := ⟨b2, o2 + k * 6 + 4, none⟩) hb2).trans y4
        have HY := Lib.hid (fun W => eqSym_any x.sym y.sym W)
        have HP : Hid (Pt.same x y = ((x.code.toList == y.code.toList) && x.sym.same y.sym)) := Lib.hid rfl
        have HN := Lib.hid (fun h => eqTo_next (p := Pt.same) hp.out ex ey h)
        have HF := Lib.hid (fun h => eqL_fails (p := Pt.same) ex ey h)
        generalize x.sym.same y.sym = ss at HY HP
        generalize Pt.same x y = R2 at HP HN HF
        obtain ⟨⟨xn, xl, xm, xp⟩, xc, xk⟩ := x
        obtain ⟨⟨yn, yl, ym, yp⟩, yc, yk⟩ := y
        simp only [Sm.agg] at x0 x1 x2 x3 x4 y0 y1 y2 y3 y4 HY HP
        clear ex ey hp hx1 hx2 h1 hbz
        cases hc : (xc.toList == yc.toList) with
        | false =>
          have hc2 : (xc.toList != yc.toList) = true := by simp [bne, hc]
          go_wp2_with fail
          go_quiet (fail)
          go_wp2_with fail
          go_ret
          exact ⟨ret_bool (by rw [HR.out, HF.out (by rw [HP.out, hc]; rfl), Bool.and_false]), ⟨hbw.os, hbw.tape, hbw.output, hbw.size, hbw.block⟩⟩
        | true =>
          have hc2 : (xc.toList != yc.toList) = false := by simp [bne, hc]
          have HSX := Lib.hid (fun (W : World) (hW : Below wr.heap.size wr W) => show W.cell? ⟨w.heap.size, 0, none⟩ = some (.slice (some ⟨b1, o1, none⟩) n1 c1) ∧ W.cell? ⟨w.heap.size + 1, 0, none⟩ = some (.slice (some ⟨b2, o2, none⟩) n1 c2) ∧ W.cell? ⟨b1, o1 + k * 6 + 4, none⟩ = some (.string xc) ∧ W.cell? ⟨b2, o2 + k * 6 + 4, none⟩ = some (.string yc) ∧ W.cell? ⟨b1, o1 + k * 6, none⟩ = some (.string xn) ∧ W.cell? ⟨b1, o1 + k * 6 + 1, none⟩ = some (.bool xl) ∧ W.cell? ⟨b1, o1 + k * 6 + 2, none⟩ = some (.int .i64 xm) ∧ W.cell? ⟨b1, o1 + k * 6 + 3, none⟩ = some (.int .i64 xp) ∧ W.cell? ⟨b2, o2 + k * 6, none⟩ = some (.string yn) ∧ W.cell? ⟨b2, o2 + k * 6 + 1, none⟩ = some (.bool yl) ∧ W.cell? ⟨b2, o2 + k * 6 + 2, none⟩ = some (.int .i64 ym) ∧ W.cell? ⟨b2, o2 + k * 6 + 3, none⟩ = some (.int .i64 yp) from
           ⟨(hW.cell (World.block_lt_of_cell? _ _ q1)).trans q1, (hW.cell (World.block_lt_of_cell? _ _ q2)).trans q2, (hW.cell (World.block_lt_of_cell? _ _ x4)).trans x4, (hW.cell (World.block_lt_of_cell? _ _ y4)).trans y4,
            (hW.cell (World.block_lt_of_cell? _ _ x0)).trans x0, (hW.cell (World.block_lt_of_cell? _ _ x1)).trans x1, (hW.cell (World.block_lt_of_cell? _ _ x2)).trans x2, (hW.cell (World.block_lt_of_cell? _ _ x3)).trans x3,
            (hW.cell (World.block_lt_of_cell? _ _ y0)).trans y0, (hW.cell (World.block_lt_of_cell? _ _ y1)).trans y1, (hW.cell (World.block_lt_of_cell? _ _ y2)).trans y2, (hW.cell (World.block_lt_of_cell? _ _ y3)).trans y3⟩)
          cases ss with
          | false =>
            go_wp2_with fail
            go_region_held3 (fun W => W.cell? ⟨w.heap.size, 0, none⟩ = some (.slice (some ⟨b1, o1, none⟩) n1 c1) ∧ W.cell? ⟨w.heap.size + 1, 0, none⟩ = some (.slice (some ⟨b2, o2, none⟩) n1 c2) ∧ W.cell? ⟨b1, o1 + k * 6 + 4, none⟩ = some (.string xc) ∧ W.cell? ⟨b2, o2 + k * 6 + 4, none⟩ = some (.string yc) ∧ W.cell? ⟨b1, o1 + k * 6, none⟩ = some (.string xn) ∧ W.cell? ⟨b1, o1 + k * 6 + 1, none⟩ = some (.bool xl) ∧ W.cell? ⟨b1, o1 + k * 6 + 2, none⟩ = some (.int .i64 xm) ∧ W.cell? ⟨b1, o1 + k * 6 + 3, none⟩ = some (.int .i64 xp) ∧ W.cell? ⟨b2, o2 + k * 6, none⟩ = some (.string yn) ∧ W.cell? ⟨b2, o2 + k * 6 + 1, none⟩ = some (.bool yl) ∧ W.cell? ⟨b2, o2 + k * 6 + 2, none⟩ = some (.int .i64 ym) ∧ W.cell? ⟨b2, o2 + k * 6 + 3, none⟩ = some (.int .i64 yp))
             (first | go_keep | exact ⟨q1, q2, x4, y4, x0, x1, x2, x3, y0, y1, y2, y3⟩ | exact hk9)
             (first | (go_at_call 29; refine (HY.out _).mono ?_; rintro e w9 ⟨rfl, hb9⟩; have hk9 := HSX.out _ ((Below.refl wr.heap.size wr).drew.trans hb9)))
            have hz : Below w.heap.size w w9 := hbw.drew.trans (hb9.mono hbw.size)
            go_wp2_with fail
            go_ret
            exact ⟨ret_bool (by rw [HR.out, HF.out (by rw [HP.out, hc]; rfl)]; rfl), hz⟩
          | true =>
            have HN2 := Lib.hid (HN.out (by rw [HP.out, hc]; rfl))
            go_wp2_with fail
            go_region_held3 (fun W => W.cell? ⟨w.heap.size, 0, none⟩ = some (.slice (some ⟨b1, o1, none⟩) n1 c1) ∧ W.cell? ⟨w.heap.size + 1, 0, none⟩ = some (.slice (some ⟨b2, o2, none⟩) n1 c2) ∧ W.cell? ⟨b1, o1 + k * 6 + 4, none⟩ = some (.string xc) ∧ W.cell? ⟨b2, o2 + k * 6 + 4, none⟩ = some (.string yc) ∧ W.cell? ⟨b1, o1 + k * 6, none⟩ = some (.string xn) ∧ W.cell? ⟨b1, o1 + k * 6 + 1, none⟩ = some (.bool xl) ∧ W.cell? ⟨b1, o1 + k * 6 + 2, none⟩ = some (.int .i64 xm) ∧ W.cell? ⟨b1, o1 + k * 6 + 3, none⟩ = some (.int .i64 xp) ∧ W.cell? ⟨b2, o2 + k * 6, none⟩ = some (.string yn) ∧ W.cell? ⟨b2, o2 + k * 6 + 1, none⟩ = some (.bool yl) ∧ W.cell? ⟨b2, o2 + k * 6 + 2, none⟩ = some (.int .i64 ym) ∧ W.cell? ⟨b2, o2 + k * 6 + 3, none⟩ = some (.int .i64 yp))
             (first | go_keep | exact ⟨q1, q2, x4, y4, x0, x1, x2, x3, y0, y1, y2, y3⟩ | exact hk9)
             (first | (go_at_call 29; refine (HY.out _).mono ?_; rintro e w9 ⟨rfl, hb9⟩; have hk9 := HSX.out _ ((Below.refl wr.heap.size wr).drew.trans hb9)))
            have hz : Below w1.heap.size w1 w9 := hbr.drew.trans (hb9.mono hbr.size)
            go_wp2_with fail
            go_roundw
            case rel => exact ⟨k + 1, by omega, by go_num, hz, HN2⟩
            case measure => simp [intOf]; omega
      · have HX := Lib.hid (eqL_done hp.out HL.out (by have := hn1.out; omega))
        clear hx1 hx2
        go_wp2_with fail
        go_ret
        exact ⟨ret_bool (by rw [HR.out, HX.out]; rfl), hw1.trans (hbr.mono hw1.size)⟩
 · have h1 : (((n1 : Int)) != ((n2 : Int))) = true := by simp; omega
   have HX : Hid (eqL Pt.same la lb = false) := Lib.hid (eqL_len (by rw [← hn1.out, ← hn2.out]; simpa using hne))
   go_enter Tryd.func30, Tryd.ntmps30
   go_wp2_with fail
   go_ret
   exact ⟨ret_bool (by rw [HR.out, HX.out, Bool.and_false]), hba⟩
end
section
open Go.RowKit
set_option linter.unusedVariables false
set_option linter.unusedSimpArgs false

def noneB (x : Sm) : Bool := decide (x.name.size = 0 ∧ x.lit = false ∧ x.num = 0)
def symB (num lit : Bool) (x : Sm) : Bool :=
 if x.lit = true then decide (lit = true ∧ x.name.size = 1 ∧ x.num = 0 ∧ quotB (gAt x.name 0) = true)
 else decide (isNameB x.name = true ∧ (x.num = 0 ∨ num = true ∧ 1 ≤ x.num ∧ x.num ≤ 50000))
def mayPt (p : Pt) : Bool := if p.code.size = 0 then symB false true p.sym else noneB p.sym && decide (endS p.code 0 = p.code.size)
def mayAl (a : Al) : Bool := a.parts.all mayPt && (noneB a.prec || symB false true a.prec)
def mayRl (r : Rl) : Bool := isNameB r.left && (decide (r.alts.length ≠ 0) && r.alts.all mayAl)
def dcB (d : Dc) : Bool := decide (1 ≤ d.kind ∧ d.kind ≤ 6 ∧ d.syms.length ≠ 0 ∧ (d.kind = 6 → d.syms.length = 1 ∧ d.tag.size = 0) ∧ (d.kind = 5 → d.tag.size ≠ 0) ∧ (d.tag.size = 0 ∨ isNameB d.tag = true))
def mayDc (d : Dc) : Bool := dcB d && d.syms.all (symB (d.kind == 1) (decide (d.kind < 5)))

/-- names and texts are not too long -/
def SmSmall (x : Sm) : Prop := x.name.size ≤ 1000000
def PtSmall (p : Pt) : Prop := SmSmall p.sym ∧ p.code.size ≤ 1000000
def AlSmall (a : Al) : Prop := (∀ p ∈ a.parts, PtSmall p) ∧ SmSmall a.prec
def RlSmall (r : Rl) : Prop := r.left.size ≤ 1000000 ∧ ∀ a ∈ r.alts, AlSmall a
def DcSmall (d : Dc) : Prop := d.tag.size ≤ 1000000 ∧ ∀ x ∈ d.syms, SmSmall x
def SoSmall (s : So) : Prop := s.pro.size ≤ 1000000 ∧ s.tail.size ≤ 1000000 ∧ (∀ d ∈ s.decls, DcSmall d) ∧ ∀ r ∈ s.rules, RlSmall r

set_option maxRecDepth 100000 in
theorem none_any (x : Sm) (w : World) : Calls Tryd.prog 67 #[x.agg] w fun e w' => e = .returned (.bool (noneB x)) ∧ Below w.heap.size w w' := by
 have HR : Hid (noneB x = decide (x.name.size = 0 ∧ x.lit = false ∧ x.num = 0)) := Lib.hid rfl
 generalize noneB x = R at HR ⊢
 obtain ⟨n, l, m, p⟩ := x
 unfold Sm.agg
 simp only at HR ⊢
 by_cases h0 : n.size = 0
 · have d1 := str_empty h0
   have HR2 : Hid (R = decide (l = false ∧ m = 0)) := Lib.hid (by rw [HR.out]; simp [h0])
   clear HR h0
   cases l with
   | true =>
     go_enter Tryd.func67, Tryd.ntmps67
     go_wp2_with fail
     all_goals
      go_ret
      exact ⟨ret_bool (by rw [HR2.out, Bool.eq_iff_iff]; simp at *), (Below.refl _ _).alloc (Nat.le_refl _) _⟩
   | false =>
     go_enter Tryd.func67, Tryd.ntmps67
     go_wp2_with fail
     all_goals
      go_ret
      exact ⟨ret_bool (by rw [HR2.out, Bool.eq_iff_iff]; simp at *), (Below.refl _ _).alloc (Nat.le_refl _) _⟩
 · have d1 := str_some h0
   have HR2 : Hid (R = false) := Lib.hid (by rw [HR.out]; simp [h0])
   clear HR h0
   go_enter Tryd.func67, Tryd.ntmps67
   go_wp2_with fail
   all_goals
    go_ret
    exact ⟨ret_bool (by rw [HR2.out]), (Below.refl _ _).alloc (Nat.le_refl _) _⟩

set_option maxRecDepth 100000 in
set_option maxHeartbeats 4000000 in
theorem symbol_any (x : Sm) (num lit : Bool) (w : World) (hs : SmSmall x) : Calls Tryd.prog 66 #[x.agg, .bool num, .bool lit] w fun e w' => e = .returned (.bool (symB num lit x)) ∧ Below w.heap.size w w' := by
 have HR : Hid (symB num lit x = if x.lit = true then decide (lit = true ∧ x.name.size = 1 ∧ x.num = 0 ∧ quotB (gAt x.name 0) = true)
  else decide (isNameB x.name = true ∧ (x.num = 0 ∨ num = true ∧ 1 ≤ x.num ∧ x.num ≤ 50000))) := Lib.hid rfl
 generalize symB num lit x = R at HR ⊢
 obtain ⟨n, l, m, p⟩ := x
 unfold Sm.agg
 unfold SmSmall at hs
 simp only at HR hs ⊢
 have hg := fun j h => gAt_get n j h
 have HQ := Lib.hid (fun W => quoted_any (gAt n 0) W (gAt_lo n 0) (gAt_hi n 0))
 have HI := Lib.hid (fun W => rname_any n W hs)
 generalize gAt n = g at *
 cases l with
 | true =>
   have HR2 : Hid (R = decide (lit = true ∧ n.size = 1 ∧ m = 0 ∧ quotB (g 0) = true)) := Lib.hid (by rw [HR.out]; simp)
   clear HR HI
   generalize quotB (g 0) = qb at HQ HR2
   generalize quotC (g 0) = qc at HQ
   by_cases h1 : n.size = 1
   · have HR3 : Hid (R = decide (lit = true ∧ m = 0 ∧ qb = true)) := Lib.hid (by rw [HR2.out]; simp [h1])
     clear HR2
     cases lit <;> cases qb
     all_goals
      go_enter Tryd.func66, Tryd.ntmps66
      go_wp2_with (first | (go_at_call 52; rw [hg]; refine (HQ.out _).mono ?_; rintro e w' ⟨rfl, rfl⟩) | (go_at_call 52; refine (HQ.out _).mono ?_; rintro e w' ⟨rfl, rfl⟩))
      all_goals
       go_ret
       exact ⟨ret_bool (by rw [HR3.out, Bool.eq_iff_iff]; simp at *; try omega), (Below.refl _ _).alloc (Nat.le_refl _) _⟩
   · have HR3 : Hid (R = false) := Lib.hid (by rw [HR2.out]; simp [h1])
     have h2 : ((n.size : Int) != 1) = true := by simp; omega
     clear HR2 h1
     cases lit
     all_goals
      go_enter Tryd.func66, Tryd.ntmps66
      go_wp2_with fail
      all_goals
       go_ret
       exact ⟨ret_bool (by rw [HR3.out]), (Below.refl _ _).alloc (Nat.le_refl _) _⟩
 | false =>
   have HR2 : Hid (R = decide (isNameB n = true ∧ (m = 0 ∨ num = true ∧ 1 ≤ m ∧ m ≤ 50000))) := Lib.hid (by rw [HR.out]; simp)
   clear HR HQ
   generalize isNameB n = nb at HI HR2
   cases nb <;> cases num
   all_goals
    go_enter Tryd.func66, Tryd.ntmps66
    go_wp2_with (first | (go_at_call 24; refine (HI.out _).mono ?_; rintro e w' ⟨rfl, rfl⟩))
    all_goals
     go_ret
     exact ⟨ret_bool (by rw [HR2.out, Bool.eq_iff_iff]; simp at *; try omega), (Below.refl _ _).alloc (Nat.le_refl _) _⟩
end
section
open Go.RowKit
set_option linter.unusedVariables false

open Classical in
/-- a world that W is, if it leaves what lay in w as it was; else w -/
noncomputable def over (w W : World) : World := if Below w.heap.size w W then W else w
theorem over_below (w W : World) : Below w.heap.size w (over w W) := by
 unfold over
 split
 · assumption
 · exact Below.refl _ _
theorem over_of {w W : World} (h : Below w.heap.size w W) : W = over w W := (if_pos h).symm
theorem over_cell {w : World} {p : Addr} {u : Value} (h : w.cell? p = some u) (W : World) : (over w W).cell? p = some u :=
 ((over_below w W).cell (World.block_lt_of_cell? _ _ h)).trans h
theorem calls_over {P : Program} {f : FuncId} {args : Array Value} {w V : World} {v : Value} {R : Ending → World → Prop}
  (h : Calls P f args (over w V) R) (hr : ∀ e w', R e w' → e = .returned v ∧ Below (over w V).heap.size (over w V) w') : Calls P f args (over w V) fun e w'' => e = .returned v ∧ ∃ V', w'' = over w V' :=
 h.mono fun e w' hR => ⟨(hr e w' hR).1, w', over_of ((over_below w V).trans ((hr e w' hR).2.mono (over_below w V).size))⟩
theorem wp_region_over {P : Program} {id : Nat} {Q : Exit → Act → World → Prop} {a : Act} {w : World} {l : List Oper} (hm : P.follows .mixedOrders = true) (hB : Region.lexB .any l.toArray = true)
  (h : wpQuiet P l.toArray (fun w' => ∃ V, w' = over w V) (fun a' => ∀ w', (∃ V, w' = over w V) → Q .normal a' w') l a) : (Code.region id l.toArray true).wp P Q a w :=
 wp_region_quiet (C := fun w' => ∃ V, w' = over w V) hm hB ⟨w.drew, over_of (Below.refl _ _).drew⟩ (by simpa using h)
end
end Go.Proofs.YtnoppoifepbchaaDoor
