/- May a symbol, a part, a tag be? print's. -/
import Derived.Test.YtnoppoifepbchaaDoorMay3
import Derived.Test.YtnoppoifepbchaaDoorSame4
import Derived.Deep.CutRange
namespace Go.Proofs.YtnoppoifepbchaaDoor
section
open Go.RowKit
set_option linter.unusedVariables false
set_option linter.unusedSimpArgs false

def psymB (x : Sm) : Bool := if x.lit = true then decide (x.name.size = 1 ∧ quotB (gAt x.name 0) = true) else isNameB x.name
theorem symB_used (x : Sm) : symB false true x = (psymB x && (x.num == 0)) := by
 unfold symB psymB
 rw [Bool.eq_iff_iff]
 cases x.lit <;> simp
 constructor
 · rintro ⟨a, b, c⟩; exact ⟨⟨a, c⟩, b⟩
 · rintro ⟨⟨a, c⟩, b⟩; exact ⟨a, b, c⟩
theorem symB_decl (x : Sm) (kd : Int) (h1 : 1 ≤ kd) (h6 : kd ≤ 6) : symB (kd == 1) (decide (kd < 5)) x = decide (psymB x = true ∧ (x.lit = true → kd < 5) ∧ (x.num ≠ 0 → kd = 1 ∧ x.lit = false ∧ 0 ≤ x.num ∧ x.num ≤ 50000)) := by
 unfold symB psymB
 rw [Bool.eq_iff_iff]
 cases x.lit <;> simp <;> grind
theorem bytes_size (l : List Int) : (bytesOf l).size = l.length := by
 show ((l.map _).toArray).size = _
 simp
theorem quote_empty {c : Int} (h : quotB c = false) : (bytesOf (quoteL c)).toList = [] := by
 rw [(quoteL_some c).2 h]; exact str_empty rfl
theorem quote_there {c : Int} (h : quotB c = true) : (bytesOf (quoteL c)).toList.isEmpty = false := by
 refine str_some (fun e => ?_)
 rw [bytes_size] at e
 have := (quoteL_some c).1 (List.eq_nil_of_length_eq_zero e)
 rw [this] at h; cases h

set_option maxRecDepth 100000 in
theorem isZero_any (x : Sm) (w : World) : Calls Tryd.prog 63 #[x.agg] w fun e w' => e = .returned (.bool (noneB x)) ∧ Below w.heap.size w w' := by
 have HR : Hid (noneB x = decide (x.name.size = 0 ∧ x.lit = false ∧ x.num = 0)) := Lib.hid rfl
 generalize noneB x = R at HR ⊢
 obtain ⟨n, l, m, p⟩ := x
 unfold Sm.agg
 simp only at HR ⊢
 by_cases h0 : n.size = 0
 · have d1 := str_empty h0
   have HR2 : Hid (R = decide (l = false ∧ m = 0)) := Lib.hid (by rw [HR.out]; simp [h0])
   clear HR h0
   cases l with
   | true =>
     go_enter Tryd.func63, Tryd.ntmps63
     go_wp2_with fail
     all_goals
      go_ret
      exact ⟨ret_bool (by rw [HR2.out, Bool.eq_iff_iff]; simp at *), (Below.refl _ _).alloc (Nat.le_refl _) _⟩
   | false =>
     go_enter Tryd.func63, Tryd.ntmps63
     go_wp2_with fail
     all_goals
      go_ret
      exact ⟨ret_bool (by rw [HR2.out, Bool.eq_iff_iff]; simp at *), (Below.refl _ _).alloc (Nat.le_refl _) _⟩
 · have d1 := str_some h0
   have HR2 : Hid (R = false) := Lib.hid (by rw [HR.out]; simp [h0])
   clear HR h0
   go_enter Tryd.func63, Tryd.ntmps63
   go_wp2_with fail
   all_goals
    go_ret
    exact ⟨ret_bool (by rw [HR2.out]), (Below.refl _ _).alloc (Nat.le_refl _) _⟩

set_option maxRecDepth 100000 in
theorem pmaySym_any (x : Sm) (w : World) (hs : SmSmall x) : Calls Tryd.prog 61 #[x.agg] w fun e w' => e = .returned (.bool (psymB x)) ∧ Below w.heap.size w w' := by
 have HR : Hid (psymB x = if x.lit = true then decide (x.name.size = 1 ∧ quotB (gAt x.name 0) = true) else isNameB x.name) := Lib.hid rfl
 generalize psymB x = R at HR ⊢
 obtain ⟨n, l, m, p⟩ := x
 unfold Sm.agg
 unfold SmSmall at hs
 simp only at HR hs ⊢
 have hg := fun j h => gAt_get n j h
 have HQ := Lib.hid (fun W => ctext_any (gAt n 0) W (gAt_lo n 0) (gAt_hi n 0))
 have HI := Lib.hid (fun W => isName_any n W hs)
 have HE := Lib.hid (fun h => quote_empty (c := gAt n 0) h)
 have HT := Lib.hid (fun h => quote_there (c := gAt n 0) h)
 generalize gAt n = g at *
 cases l with
 | true =>
   have HR2 : Hid (R = decide (n.size = 1 ∧ quotB (g 0) = true)) := Lib.hid (by rw [HR.out]; simp)
   clear HR HI
   by_cases h1 : n.size = 1
   · have d2 : ((n.size : Int) == 1) = true := by simp; omega
     have h1' : 0 < n.size := by omega
     cases hq : quotB (g 0) with
     | true =>
       have HR3 : Hid (R = true) := Lib.hid (by rw [HR2.out]; simp [h1, hq])
       have ht := HT.out hq
       generalize bytesOf (quoteL (g 0)) = T at HQ ht
       clear HR2 h1 hq HE HT
       go_enter Tryd.func61, Tryd.ntmps61
       go_wp2_with (first | (go_at_call 98; rw [hg]; refine (HQ.out _).mono ?_; rintro e w9 ⟨rfl, hb9⟩) | (go_at_call 98; refine (HQ.out _).mono ?_; rintro e w9 ⟨rfl, hb9⟩))
       go_ret
       exact ⟨ret_bool (by rw [HR3.out]), ((Below.refl _ _).alloc (Nat.le_refl _) _).trans (hb9.mono (by simp))⟩
     | false =>
       have HR3 : Hid (R = false) := Lib.hid (by rw [HR2.out]; simp [h1, hq])
       have ht := HE.out hq
       generalize bytesOf (quoteL (g 0)) = T at HQ ht
       clear HR2 h1 hq HE HT
       go_enter Tryd.func61, Tryd.ntmps61
       go_wp2_with (first | (go_at_call 98; rw [hg]; refine (HQ.out _).mono ?_; rintro e w9 ⟨rfl, hb9⟩) | (go_at_call 98; refine (HQ.out _).mono ?_; rintro e w9 ⟨rfl, hb9⟩))
       go_ret
       exact ⟨ret_bool (by rw [HR3.out]), ((Below.refl _ _).alloc (Nat.le_refl _) _).trans (hb9.mono (by simp))⟩
   · have HR3 : Hid (R = false) := Lib.hid (by rw [HR2.out]; simp [h1])
     have h2 : ((n.size : Int) == 1) = false := by simp; omega
     clear HR2 h1 HE HT
     go_enter Tryd.func61, Tryd.ntmps61
     go_wp2_with fail
     go_ret
     exact ⟨ret_bool (by rw [HR3.out]), (Below.refl _ _).alloc (Nat.le_refl _) _⟩
 | false =>
   have HR2 : Hid (R = isNameB n) := Lib.hid (by rw [HR.out]; simp)
   clear HR HQ HE HT
   go_enter Tryd.func61, Tryd.ntmps61
   go_wp2_with (first | (go_at_call 62; refine (HI.out _).mono ?_; rintro e w' ⟨rfl, rfl⟩))
   go_ret
   exact ⟨ret_bool (by rw [HR2.out]), (Below.refl _ _).alloc (Nat.le_refl _) _⟩

set_option maxRecDepth 100000 in
theorem used_any (x : Sm) (w : World) (hs : SmSmall x) : Calls Tryd.prog 64 #[x.agg] w fun e w' => e = .returned (.bool (symB false true x)) ∧ Below w.heap.size w w' := by
 have HR : Hid (symB false true x = (psymB x && (x.num == 0))) := Lib.hid (symB_used x)
 have HS := Lib.hid (fun W => pmaySym_any x W hs)
 generalize symB false true x = R at HR ⊢
 generalize psymB x = sb at HR HS
 obtain ⟨n, l, m, p⟩ := x
 simp only [Sm.agg] at *
 have hba := (Below.refl w.heap.size w).alloc (Nat.le_refl _) (.cells #[.string n, .bool l, .int .i64 m, .int .i64 p] 40)
 have HC := Lib.hid (fun W hW => box1 (w := w) (A := #[.string n, .bool l, .int .i64 m, .int .i64 p]) (T := 40) (W := W) hW)
 cases sb with
 | false =>
   go_enter Tryd.func64, Tryd.ntmps64
   go_wp2_with (first | (go_at_call 61; refine (HS.out _).mono ?_; rintro e w9 ⟨rfl, hb9⟩))
   go_ret
   exact ⟨ret_bool (by rw [HR.out]; rfl), hba.trans (hb9.mono hba.size)⟩
 | true =>
   go_enter Tryd.func64, Tryd.ntmps64
   go_wp2_with (first | (go_at_call 61; refine (HS.out _).mono ?_; rintro e w9 ⟨rfl, hb9⟩; have q2 := HC.out _ hb9 2 _ rfl))
   go_ret
   exact ⟨ret_bool (by rw [HR.out]; rfl), hba.trans (hb9.mono hba.size)⟩

set_option maxRecDepth 100000 in
set_option maxHeartbeats 2000000 in
theorem pmayPart_any (x : Pt) (w : World) (hs : PtSmall x) (hm : MaxAt w) : Calls Tryd.prog 65 #[x.agg] w fun e w' => e = .returned (.bool (mayPt x)) ∧ Below w.heap.size w w' := by
 have HX : Hid (mayPt x = if x.code.size = 0 then symB false true x.sym else noneB x.sym && decide (endS x.code 0 = x.code.size)) := Lib.hid rfl
 have HN2 := Lib.hid (fun W => isZero_any x.sym W)
 have HS2 := Lib.hid (fun W => used_any x.sym W hs.1)
 have HE2 := Lib.hid (fun (W : World) (hW : Below w.heap.size w W) => end_any x.code 0 W (hm.below hW) hs.2)
 generalize mayPt x = mp at HX ⊢
 generalize noneB x.sym = nb2 at HN2 HX
 generalize symB false true x.sym = sb2 at HS2 HX
 obtain ⟨⟨xn, xl, xm, xp⟩, xc, xk⟩ := x
 simp only [Sm.agg, Pt.agg] at HX HN2 HS2 HE2 ⊢
 generalize endS xc 0 = en at HX HE2
 clear hs hm
 by_cases hcz : xc.size = 0
 · have d1 := str_empty hcz
   have HX2 : Hid (mp = sb2) := Lib.hid (by rw [HX.out, if_pos hcz])
   clear HX hcz HE2 HN2
   go_enter Tryd.func65, Tryd.ntmps65
   go_wp2_with (first | (go_at_call 64; refine (HS2.out _).mono ?_; rintro e w9 ⟨rfl, hb9⟩))
   go_ret
   exact ⟨ret_bool (by rw [HX2.out]), ((Below.refl _ _).alloc (Nat.le_refl _) _).trans (hb9.mono (by simp))⟩
 · have d1 := str_some hcz
   have HX2 : Hid (mp = (nb2 && decide (en = xc.size))) := Lib.hid (by rw [HX.out, if_neg hcz])
   clear HX hcz HS2
   go_enter Tryd.func65, Tryd.ntmps65
   cases nb2 with
   | false =>
     go_wp2_with fail
     have hbx := (Below.refl w.heap.size w).alloc (Nat.le_refl _) (.cells #[.string xn, .bool xl, .int .i64 xm, .int .i64 xp, .string xc, .int .i64 xk] 44)
     have hB := heap_alloc_new w (.cells #[.string xn, .bool xl, .int .i64 xm, .int .i64 xp, .string xc, .int .i64 xk] 44)
     generalize w.alloc (.cells #[.string xn, .bool xl, .int .i64 xm, .int .i64 xp, .string xc, .int .i64 xk] 44) = wB at hB hbx ⊢
     have p0 := over_cell (show wB.cell? ⟨w.heap.size, 0, none⟩ = some (.string xn) by rw [cell_of_row wB _ 0 _ _ (0, 0) hB]; rfl)
     have p1 := over_cell (show wB.cell? ⟨w.heap.size, 1, none⟩ = some (.bool xl) by rw [cell_of_row wB _ 1 _ _ (0, 0) hB]; rfl)
     have p2 := over_cell (show wB.cell? ⟨w.heap.size, 2, none⟩ = some (.int .i64 xm) by rw [cell_of_row wB _ 2 _ _ (0, 0) hB]; rfl)
     have p3 := over_cell (show wB.cell? ⟨w.heap.size, 3, none⟩ = some (.int .i64 xp) by rw [cell_of_row wB _ 3 _ _ (0, 0) hB]; rfl)
     have p4 := over_cell (show wB.cell? ⟨w.heap.size, 4, none⟩ = some (.string xc) by rw [cell_of_row wB _ 4 _ _ (0, 0) hB]; rfl)
     have HEw := Lib.hid (fun V => HE2.out _ (hbx.trans ((over_below wB V).mono hbx.size)))
     refine wp_region_over (by kernel_rfl) (by kernel_rfl) ?_
     repeat (first | go_big_quiet_skip | (go_big_quiet_want; go_big_quiet_op; first | go_big_quiet_on | (apply Exists.intro; refine ⟨fun _ => ?_, ?_⟩; (first | (go_at_call 63; exact calls_over (HN2.out _) (fun e w1 h => h))); go_big_quiet_on)))
     refine wpQuiet_nil ?_
     intro _ hw'
     obtain ⟨V, hw''⟩ := hw'
     subst hw''
     have hz := over_below wB V
     generalize over wB V = w9 at hz ⊢
     go_wp2_with fail
     go_ret
     exact ⟨ret_bool (by rw [HX2.out]; rfl), hbx.trans (hz.mono hbx.size)⟩
   | true =>
     by_cases hen : en = xc.size
     · have d2 : (en == (xc.size : Int)) = true := by simp [hen]
       have HX3 : Hid (mp = true) := Lib.hid (by rw [HX2.out]; simp [hen])
       subst hen
       clear HX2
       go_wp2_with fail
       have hbx := (Below.refl w.heap.size w).alloc (Nat.le_refl _) (.cells #[.string xn, .bool xl, .int .i64 xm, .int .i64 xp, .string xc, .int .i64 xk] 44)
       have hB := heap_alloc_new w (.cells #[.string xn, .bool xl, .int .i64 xm, .int .i64 xp, .string xc, .int .i64 xk] 44)
       generalize w.alloc (.cells #[.string xn, .bool xl, .int .i64 xm, .int .i64 xp, .string xc, .int .i64 xk] 44) = wB at hB hbx ⊢
       have p0 := over_cell (show wB.cell? ⟨w.heap.size, 0, none⟩ = some (.string xn) by rw [cell_of_row wB _ 0 _ _ (0, 0) hB]; rfl)
       have p1 := over_cell (show wB.cell? ⟨w.heap.size, 1, none⟩ = some (.bool xl) by rw [cell_of_row wB _ 1 _ _ (0, 0) hB]; rfl)
       have p2 := over_cell (show wB.cell? ⟨w.heap.size, 2, none⟩ = some (.int .i64 xm) by rw [cell_of_row wB _ 2 _ _ (0, 0) hB]; rfl)
       have p3 := over_cell (show wB.cell? ⟨w.heap.size, 3, none⟩ = some (.int .i64 xp) by rw [cell_of_row wB _ 3 _ _ (0, 0) hB]; rfl)
       have p4 := over_cell (show wB.cell? ⟨w.heap.size, 4, none⟩ = some (.string xc) by rw [cell_of_row wB _ 4 _ _ (0, 0) hB]; rfl)
       have HEw := Lib.hid (fun V => HE2.out _ (hbx.trans ((over_below wB V).mono hbx.size)))
       refine wp_region_over (by kernel_rfl) (by kernel_rfl) ?_
       repeat (first | go_big_quiet_skip | (go_big_quiet_want; go_big_quiet_op; first | go_big_quiet_on | (apply Exists.intro; refine ⟨fun _ => ?_, ?_⟩; (first | (go_at_call 63; exact calls_over (HN2.out _) (fun e w1 h => h)) | (go_at_call 90; exact calls_over (HEw.out _) (fun e w1 h => h))); go_big_quiet_on)))
       refine wpQuiet_nil ?_
       intro _ hw'
       obtain ⟨V, hw''⟩ := hw'
       subst hw''
       have hz := over_below wB V
       generalize over wB V = w9 at hz ⊢
       go_wp2_with fail
       go_ret
       exact ⟨ret_bool (by rw [HX3.out]), hbx.trans (hz.mono hbx.size)⟩
     · have d2 : (en == (xc.size : Int)) = false := by simp [hen]
       have HX3 : Hid (mp = false) := Lib.hid (by rw [HX2.out]; simp [hen])
       clear HX2
       go_wp2_with fail
       have hbx := (Below.refl w.heap.size w).alloc (Nat.le_refl _) (.cells #[.string xn, .bool xl, .int .i64 xm, .int .i64 xp, .string xc, .int .i64 xk] 44)
       have hB := heap_alloc_new w (.cells #[.string xn, .bool xl, .int .i64 xm, .int .i64 xp, .string xc, .int .i64 xk] 44)
       generalize w.alloc (.cells #[.string xn, .bool xl, .int .i64 xm, .int .i64 xp, .string xc, .int .i64 xk] 44) = wB at hB hbx ⊢
       have p0 := over_cell (show wB.cell? ⟨w.heap.size, 0, none⟩ = some (.string xn) by rw [cell_of_row wB _ 0 _ _ (0, 0) hB]; rfl)
       have p1 := over_cell (show wB.cell? ⟨w.heap.size, 1, none⟩ = some (.bool xl) by rw [cell_of_row wB _ 1 _ _ (0, 0) hB]; rfl)
       have p2 := over_cell (show wB.cell? ⟨w.heap.size, 2, none⟩ = some (.int .i64 xm) by rw [cell_of_row wB _ 2 _ _ (0, 0) hB]; rfl)
       have p3 := over_cell (show wB.cell? ⟨w.heap.size, 3, none⟩ = some (.int .i64 xp) by rw [cell_of_row wB _ 3 _ _ (0, 0) hB]; rfl)
       have p4 := over_cell (show wB.cell? ⟨w.heap.size, 4, none⟩ = some (.string xc) by rw [cell_of_row wB _ 4 _ _ (0, 0) hB]; rfl)
       have HEw := Lib.hid (fun V => HE2.out _ (hbx.trans ((over_below wB V).mono hbx.size)))
       refine wp_region_over (by kernel_rfl) (by kernel_rfl) ?_
       repeat (first | go_big_quiet_skip | (go_big_quiet_want; go_big_quiet_op; first | go_big_quiet_on | (apply Exists.intro; refine ⟨fun _ => ?_, ?_⟩; (first | (go_at_call 63; exact calls_over (HN2.out _) (fun e w1 h => h)) | (go_at_call 90; exact calls_over (HEw.out _) (fun e w1 h => h))); go_big_quiet_on)))
       refine wpQuiet_nil ?_
       intro _ hw'
       obtain ⟨V, hw''⟩ := hw'
       subst hw''
       have hz := over_below wB V
       generalize over wB V = w9 at hz ⊢
       go_wp2_with fail
       go_ret
       exact ⟨ret_bool (by rw [HX3.out]), hbx.trans (hz.mono hbx.size)⟩
end
section
open Go.RowKit
set_option linter.unusedVariables false
set_option linter.unusedSimpArgs false

def keyS (k : Int) : ByteArray := if k = 1 then ⟨#[37, 116, 111, 107, 101, 110]⟩ else if k = 2 then ⟨#[37, 108, 101, 102, 116]⟩ else if k = 3 then ⟨#[37, 114, 105, 103, 104, 116]⟩ else if k = 4 then ⟨#[37, 110, 111, 110, 97, 115, 115, 111, 99]⟩ else if k = 5 then ⟨#[37, 116, 121, 112, 101]⟩ else if k = 6 then ⟨#[37, 115, 116, 97, 114, 116]⟩ else ⟨#[]⟩
theorem key_any (k : Int) (w : World) : Calls Tryd.prog 59 #[.int .i64 k] w fun e w' => e = .returned (.string (keyS k)) ∧ w = w' := by
 go_enter Tryd.func59, Tryd.ntmps59
 go_wp2_with fail
 all_goals
  go_ret
  exact ⟨ret_str (by unfold keyS; simp at *; grind), rfl⟩
theorem keyS_none {k : Int} (h : ¬ (1 ≤ k ∧ k ≤ 6)) : (keyS k).toList = [] := by
 unfold keyS
 rw [if_neg (by omega), if_neg (by omega), if_neg (by omega), if_neg (by omega), if_neg (by omega), if_neg (by omega)]
 exact str_empty rfl
theorem keyS_some {k : Int} (h : 1 ≤ k ∧ k ≤ 6) : (keyS k).toList.isEmpty = false := by
 refine str_some (fun e => ?_)
 have : k = 1 ∨ k = 2 ∨ k = 3 ∨ k = 4 ∨ k = 5 ∨ k = 6 := by omega
 rcases this with h | h | h | h | h | h <;> subst h <;> exact absurd e (by decide)

def ptagB (d : Dc) : Bool := if d.kind = 5 then isNameB d.tag else if d.kind = 6 then decide (d.tag.size = 0) else decide (d.tag.size = 0 ∨ isNameB d.tag = true)
theorem isName_size {t : ByteArray} (h : isNameB t = true) : t.size ≠ 0 := by
 have := of_decide_eq_true (p := (1 ≤ t.size ∧ t.size ≤ 20 ∧ nameF t.size (gAt t) 0 = t.size)) h
 omega
theorem dcB_ptag (d : Dc) : dcB d = (decide (1 ≤ d.kind ∧ d.kind ≤ 6) && (ptagB d && decide (d.syms.length ≠ 0 ∧ (d.kind = 6 → d.syms.length = 1)))) := by
 unfold dcB ptagB
 have hs := fun h => isName_size (t := d.tag) h
 generalize isNameB d.tag = nb at *
 generalize d.tag.size = sz at *
 generalize d.syms.length = n at *
 rw [Bool.eq_iff_iff]
 by_cases h5 : d.kind = 5
 · rw [if_pos h5]; simp [h5]; cases nb <;> simp <;> grind
 · rw [if_neg h5]
   by_cases h6 : d.kind = 6
   · rw [if_pos h6]; simp [h6]; grind
   · rw [if_neg h6]; simp [h5, h6]; grind

set_option maxRecDepth 100000 in
set_option maxHeartbeats 2000000 in
theorem pmayTag_any (d : Dc) (v : Value) (w : World) (h : DcV w v d) (hs : d.tag.size ≤ 1000000) : Calls Tryd.prog 60 #[v] w fun e w' => e = .returned (.bool (ptagB d)) ∧ Below w.heap.size w w' := by
 obtain ⟨sv, rfl, h⟩ := h
 obtain ⟨a1, n, c, rfl, _⟩ := h.open
 have HR : Hid (ptagB d = if d.kind = 5 then isNameB d.tag else if d.kind = 6 then decide (d.tag.size = 0) else decide (d.tag.size = 0 ∨ isNameB d.tag = true)) := Lib.hid rfl
 have HI := Lib.hid (fun W => isName_any d.tag W hs)
 generalize ptagB d = R at HR ⊢
 obtain ⟨kd, tg, sy, po⟩ := d
 simp only at *
 clear h
 have hba := (Below.refl w.heap.size w).alloc (Nat.le_refl _) (.cells #[.int .i64 kd, .string tg, .slice a1 n c, .int .i64 po] 51)
 generalize isNameB tg = nb at *
 by_cases g5 : kd = 5
 · have d5 : (kd == 5) = true := by simp [g5]
   have HR2 : Hid (R = nb) := Lib.hid (by rw [HR.out, if_pos g5])
   clear g5 HR
   go_enter Tryd.func60, Tryd.ntmps60
   go_wp2_with (first | (go_at_call 62; refine (HI.out _).mono ?_; rintro e w' ⟨rfl, rfl⟩))
   go_ret
   exact ⟨ret_bool (by rw [HR2.out]), hba⟩
 · have d5 : (kd == 5) = false := by simp [g5]
   by_cases g0 : tg.size = 0
   · have d0 := str_empty g0
     by_cases g6 : kd = 6
     · have d6 : (kd == 6) = true := by simp [g6]
       have HR2 : Hid (R = true) := Lib.hid (by rw [HR.out, if_neg g5, if_pos g6]; simp [g0])
       clear g5 HR g0 g6
       go_enter Tryd.func60, Tryd.ntmps60
       go_wp2_with (first | (go_at_call 62; refine (HI.out _).mono ?_; rintro e w' ⟨rfl, rfl⟩))
       go_ret
       exact ⟨ret_bool (by rw [HR2.out]), hba⟩
     · have d6 : (kd == 6) = false := by simp [g6]
       have HR2 : Hid (R = true) := Lib.hid (by rw [HR.out, if_neg g5, if_neg g6]; simp [g0])
       clear g5 HR g0 g6
       go_enter Tryd.func60, Tryd.ntmps60
       go_wp2_with (first | (go_at_call 62; refine (HI.out _).mono ?_; rintro e w' ⟨rfl, rfl⟩))
       go_ret
       exact ⟨ret_bool (by rw [HR2.out]), hba⟩
   · have d0 := str_some g0
     by_cases g6 : kd = 6
     · have d6 : (kd == 6) = true := by simp [g6]
       have HR2 : Hid (R = false) := Lib.hid (by rw [HR.out, if_neg g5, if_pos g6]; simp [g0])
       clear g5 HR g0 g6
       go_enter Tryd.func60, Tryd.ntmps60
       go_wp2_with (first | (go_at_call 62; refine (HI.out _).mono ?_; rintro e w' ⟨rfl, rfl⟩))
       go_ret
       exact ⟨ret_bool (by rw [HR2.out]), hba⟩
     · have d6 : (kd == 6) = false := by simp [g6]
       have HR2 : Hid (R = nb) := Lib.hid (by rw [HR.out, if_neg g5, if_neg g6]; simp [g0])
       clear g5 HR g0 g6
       go_enter Tryd.func60, Tryd.ntmps60
       go_wp2_with (first | (go_at_call 62; refine (HI.out _).mono ?_; rintro e w' ⟨rfl, rfl⟩))
       go_ret
       exact ⟨ret_bool (by rw [HR2.out]), hba⟩
end
end Go.Proofs.YtnoppoifepbchaaDoor
