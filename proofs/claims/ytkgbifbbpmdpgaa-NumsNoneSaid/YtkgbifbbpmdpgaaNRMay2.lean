/- May an alternative, a declaration be? The document's. -/
import Derived.Test.YtkgbifbbpmdpgaaNOfW
import Derived.Test.YtkgbifbbpmdpgaaNROver3
import Derived.Test.YtkgbifbbpmdpgaaNREnd
set_option linter.unusedVariables false
set_option linter.unusedSimpArgs false
namespace Go.Proofs.Ytkgbifbbpmdpgaa

open Go.RowKit
theorem box1 {w : World} {A : Array Value} {T : TypeId} {W : World} (hW : Below (w.alloc (.cells A T)).heap.size (w.alloc (.cells A T)) W) (i : Nat) (u : Value) (hu : A[i]? = some u) : W.cell? ⟨w.heap.size, i, none⟩ = some u := by
 rw [hW.cell (p := ⟨w.heap.size, i, none⟩) (by simp), World.cell?_alloc_at _ _ _ _ rfl]; exact hu
theorem mem_at {α : Type} {l : List α} {k : Nat} {x : α} (h : l[k]? = some x) : x ∈ l := List.mem_of_getElem? h
set_option maxRecDepth 100000 in
set_option maxHeartbeats 8000000 in
theorem mayAlt_any (v : Value) (a : Al) (w : World) (h : AlV w v a) (hs : AlSmall a) : Calls Try.prog 56 #[v] w fun e w' => e = .returned (.bool (mayAl a)) ∧ Below w.heap.size w w' := by
 obtain ⟨pv, rfl, h⟩ := h
 obtain ⟨a1, n, c, rfl, hn, hc, hm, hx⟩ := h.open
 have HR : Hid (mayAl a = (a.parts.all mayPt && (noneB a.prec || symB false true a.prec))) := Lib.hid rfl
 have HN := Lib.hid (fun W => none_any a.prec W)
 have HS := Lib.hid (fun W => smay_any a.prec false true W hs.2)
 have HP := Lib.hid hs.1
 generalize mayAl a = R at HR ⊢
 generalize noneB a.prec = nb at HN HR
 generalize symB false true a.prec = sb at HS HR
 obtain ⟨la, ⟨an, al, am, ap⟩, ka⟩ := a
 simp only [Sm.agg] at *
 clear h hs
 have hba := (Below.refl w.heap.size w).alloc (Nat.le_refl _) (.cells #[.slice a1 n c, .string an, .bool al, .int .i64 am, .int .i64 ap, .int .i64 ka] 71)
 have HC := Lib.hid (fun W hW => box1 (w := w) (A := #[.slice a1 n c, .string an, .bool al, .int .i64 am, .int .i64 ap, .int .i64 ka]) (T := 71) (W := W) hW)
 go_enter Try.func56, Try.ntmps56
 go_wp2_with fail
 go_loopw [3] (fun i wr => ∃ k : Nat, k ≤ n ∧ i = .int .i64 k ∧ Below (w.alloc (.cells #[.slice a1 n c, .string an, .bool al, .int .i64 am, .int .i64 ap, .int .i64 ka] 71)).heap.size (w.alloc (.cells #[.slice a1 n c, .string an, .bool al, .int .i64 am, .int .i64 ap, .int .i64 ka] 71)) wr ∧ Hid ((la.take k).all mayPt = true)) (fun i _ => n - (intOf i).toNat)
 case atStart => exact ⟨0, Nat.zero_le _, rfl, Below.refl _ _, Lib.hid rfl⟩
 case round =>
  obtain ⟨k, hk, rfl, hbr, hp⟩ := hrel
  have q0 := HC.out wr hbr 0 _ rfl
  have q1 := HC.out wr hbr 1 _ rfl
  have q2 := HC.out wr hbr 2 _ rfl
  have q3 := HC.out wr hbr 3 _ rfl
  have q4 := HC.out wr hbr 4 _ rfl
  have hbw := hba.trans (hbr.mono hba.size)
  by_cases hlt : k < n
  · obtain ⟨b, o, x, rfl, ex, x0, x1, x2, x3, x4, x5⟩ := hx.out k hlt
    have hb1 := World.block_lt_of_cell? _ _ x0
    replace x0 := (hbw.cell (p := ⟨b, o + k * 6, none⟩) hb1).trans x0
    replace x1 := (hbw.cell (p := ⟨b, o + k * 6 + 1, none⟩) hb1).trans x1
    replace x2 := (hbw.cell (p := ⟨b, o + k * 6 + 2, none⟩) hb1).trans x2
    replace x3 := (hbw.cell (p := ⟨b, o + k * 6 + 3, none⟩) hb1).trans x3
    replace x4 := (hbw.cell (p := ⟨b, o + k * 6 + 4, none⟩) hb1).trans x4
    replace x5 := (hbw.cell (p := ⟨b, o + k * 6 + 5, none⟩) hb1).trans x5
    have hz := HP.out x (mem_at ex)
    have HX : Hid (mayPt x = if x.code.size = 0 then symB false true x.sym else noneB x.sym && decide (endS x.code 0 = x.code.size)) := Lib.hid rfl
    have HNx := Lib.hid (all_next (p := mayPt) ex hp.out)
    have HF := Lib.hid (all_fails (p := mayPt) ex)
    have HN2 := Lib.hid (fun W => none_any x.sym W)
    have HS2 := Lib.hid (fun W => smay_any x.sym false true W hz.1)
    have HE2 := Lib.hid (fun W => rend_any x.code 0 W hz.2)
    generalize mayPt x = mp at HX HNx HF
    generalize noneB x.sym = nb2 at HN2 HX
    generalize symB false true x.sym = sb2 at HS2 HX
    obtain ⟨⟨xn, xl, xm, xp⟩, xc, xk⟩ := x
    simp only [Sm.agg] at x0 x1 x2 x3 x4 x5 HX HN2 HS2 HE2
    generalize endS xc 0 = en at HX HE2
    have i1 : (k : Int) < (n : Int) := by omega
    have hbx := (Below.refl wr.heap.size wr).alloc (Nat.le_refl _) (.cells #[.string xn, .bool xl, .int .i64 xm, .int .i64 xp, .string xc, .int .i64 xk] 78)
    clear ex hp hx hz HP HN HS q1 q2 q3 q4
    by_cases hcz : xc.size = 0
    · have d1 := str_empty hcz
      have HX2 : Hid (mp = sb2) := Lib.hid (by rw [HX.out, if_pos hcz])
      clear HX hcz HE2 HN2
      cases sb2 with
      | false =>
        go_wp2_with fail
        have hbw2 := hbw.trans (hbx.mono hbw.size)
        have hbr2 := hbr.trans (hbx.mono hbr.size)
        have hB := heap_alloc_new wr (.cells #[.string xn, .bool xl, .int .i64 xm, .int .i64 xp, .string xc, .int .i64 xk] 78)
        generalize wr.alloc (.cells #[.string xn, .bool xl, .int .i64 xm, .int .i64 xp, .string xc, .int .i64 xk] 78) = wB at hB hbx hbw2 hbr2 ⊢
        have p0 := over_cell (show wB.cell? ⟨wr.heap.size, 0, none⟩ = some (.string xn) by rw [cell_of_row wB _ 0 _ _ (0, 0) hB]; rfl)
        have p1 := over_cell (show wB.cell? ⟨wr.heap.size, 1, none⟩ = some (.bool xl) by rw [cell_of_row wB _ 1 _ _ (0, 0) hB]; rfl)
        have p2 := over_cell (show wB.cell? ⟨wr.heap.size, 2, none⟩ = some (.int .i64 xm) by rw [cell_of_row wB _ 2 _ _ (0, 0) hB]; rfl)
        have p3 := over_cell (show wB.cell? ⟨wr.heap.size, 3, none⟩ = some (.int .i64 xp) by rw [cell_of_row wB _ 3 _ _ (0, 0) hB]; rfl)
        have p4 := over_cell (show wB.cell? ⟨wr.heap.size, 4, none⟩ = some (.string xc) by rw [cell_of_row wB _ 4 _ _ (0, 0) hB]; rfl)
        refine wp_region_over (by kernel_rfl) (by kernel_rfl) ?_
        repeat (first | go_big_quiet_skip | (go_big_quiet_want; go_big_quiet_op; first | go_big_quiet_on | (apply Exists.intro; refine ⟨fun _ => ?_, ?_⟩; (first | (go_at_call 71; exact calls_over (HS2.out _) (fun e w1 h => h))); go_big_quiet_on)))
        refine wpQuiet_nil ?_
        intro _ hw'
        obtain ⟨V, hw''⟩ := hw'
        subst hw''
        have hz := over_below wB V
        generalize over wB V = w9 at hz ⊢
        go_wp2_with fail
        go_ret
        exact ⟨ret_bool (by rw [HR.out, HF.out HX2.out]; rfl), hbw2.trans (hz.mono hbw2.size)⟩
      | true =>
        have HN3 := Lib.hid (HNx.out HX2.out)
        go_wp2_with fail
        have hbw2 := hbw.trans (hbx.mono hbw.size)
        have hbr2 := hbr.trans (hbx.mono hbr.size)
        have hB := heap_alloc_new wr (.cells #[.string xn, .bool xl, .int .i64 xm, .int .i64 xp, .string xc, .int .i64 xk] 78)
        generalize wr.alloc (.cells #[.string xn, .bool xl, .int .i64 xm, .int .i64 xp, .string xc, .int .i64 xk] 78) = wB at hB hbx hbw2 hbr2 ⊢
        have p0 := over_cell (show wB.cell? ⟨wr.heap.size, 0, none⟩ = some (.string xn) by rw [cell_of_row wB _ 0 _ _ (0, 0) hB]; rfl)
        have p1 := over_cell (show wB.cell? ⟨wr.heap.size, 1, none⟩ = some (.bool xl) by rw [cell_of_row wB _ 1 _ _ (0, 0) hB]; rfl)
        have p2 := over_cell (show wB.cell? ⟨wr.heap.size, 2, none⟩ = some (.int .i64 xm) by rw [cell_of_row wB _ 2 _ _ (0, 0) hB]; rfl)
        have p3 := over_cell (show wB.cell? ⟨wr.heap.size, 3, none⟩ = some (.int .i64 xp) by rw [cell_of_row wB _ 3 _ _ (0, 0) hB]; rfl)
        have p4 := over_cell (show wB.cell? ⟨wr.heap.size, 4, none⟩ = some (.string xc) by rw [cell_of_row wB _ 4 _ _ (0, 0) hB]; rfl)
        refine wp_region_over (by kernel_rfl) (by kernel_rfl) ?_
        repeat (first | go_big_quiet_skip | (go_big_quiet_want; go_big_quiet_op; first | go_big_quiet_on | (apply Exists.intro; refine ⟨fun _ => ?_, ?_⟩; (first | (go_at_call 71; exact calls_over (HS2.out _) (fun e w1 h => h))); go_big_quiet_on)))
        refine wpQuiet_nil ?_
        intro _ hw'
        obtain ⟨V, hw''⟩ := hw'
        subst hw''
        have hz := over_below wB V
        generalize over wB V = w9 at hz ⊢
        have hz2 := hbr2.trans (hz.mono hbr2.size)
        go_wp2_with fail
        go_roundw
        case rel => exact ⟨k + 1, by omega, by go_num, hz2, HN3⟩
        case measure => simp [intOf]; omega
    · have d1 := str_some hcz
      have HX2 : Hid (mp = (nb2 && decide (en = xc.size))) := Lib.hid (by rw [HX.out, if_neg hcz])
      clear HX hcz HS2
      cases nb2 with
      | false =>
        go_wp2_with fail
        have hbw2 := hbw.trans (hbx.mono hbw.size)
        have hbr2 := hbr.trans (hbx.mono hbr.size)
        have hB := heap_alloc_new wr (.cells #[.string xn, .bool xl, .int .i64 xm, .int .i64 xp, .string xc, .int .i64 xk] 78)
        generalize wr.alloc (.cells #[.string xn, .bool xl, .int .i64 xm, .int .i64 xp, .string xc, .int .i64 xk] 78) = wB at hB hbx hbw2 hbr2 ⊢
        have p0 := over_cell (show wB.cell? ⟨wr.heap.size, 0, none⟩ = some (.string xn) by rw [cell_of_row wB _ 0 _ _ (0, 0) hB]; rfl)
        have p1 := over_cell (show wB.cell? ⟨wr.heap.size, 1, none⟩ = some (.bool xl) by rw [cell_of_row wB _ 1 _ _ (0, 0) hB]; rfl)
        have p2 := over_cell (show wB.cell? ⟨wr.heap.size, 2, none⟩ = some (.int .i64 xm) by rw [cell_of_row wB _ 2 _ _ (0, 0) hB]; rfl)
        have p3 := over_cell (show wB.cell? ⟨wr.heap.size, 3, none⟩ = some (.int .i64 xp) by rw [cell_of_row wB _ 3 _ _ (0, 0) hB]; rfl)
        have p4 := over_cell (show wB.cell? ⟨wr.heap.size, 4, none⟩ = some (.string xc) by rw [cell_of_row wB _ 4 _ _ (0, 0) hB]; rfl)
        refine wp_region_over (by kernel_rfl) (by kernel_rfl) ?_
        repeat (first | go_big_quiet_skip | (go_big_quiet_want; go_big_quiet_op; first | go_big_quiet_on | (apply Exists.intro; refine ⟨fun _ => ?_, ?_⟩; (first | (go_at_call 73; exact calls_over (HN2.out _) (fun e w1 h => h))); go_big_quiet_on)))
        refine wpQuiet_nil ?_
        intro _ hw'
        obtain ⟨V, hw''⟩ := hw'
        subst hw''
        have hz := over_below wB V
        generalize over wB V = w9 at hz ⊢
        go_wp2_with fail
        go_ret
        exact ⟨ret_bool (by rw [HR.out, HF.out HX2.out]; rfl), hbw2.trans (hz.mono hbw2.size)⟩
      | true =>
        by_cases hen : en = xc.size
        · have HN3 := Lib.hid (HNx.out (by rw [HX2.out]; simp [hen]))
          have d2 : (en != (xc.size : Int)) = false := by simp [hen]
          subst hen
          clear HX2 HNx HF
          go_wp2_with fail
          have hbw2 := hbw.trans (hbx.mono hbw.size)
          have hbr2 := hbr.trans (hbx.mono hbr.size)
          have hB := heap_alloc_new wr (.cells #[.string xn, .bool xl, .int .i64 xm, .int .i64 xp, .string xc, .int .i64 xk] 78)
          generalize wr.alloc (.cells #[.string xn, .bool xl, .int .i64 xm, .int .i64 xp, .string xc, .int .i64 xk] 78) = wB at hB hbx hbw2 hbr2 ⊢
          have p0 := over_cell (show wB.cell? ⟨wr.heap.size, 0, none⟩ = some (.string xn) by rw [cell_of_row wB _ 0 _ _ (0, 0) hB]; rfl)
          have p1 := over_cell (show wB.cell? ⟨wr.heap.size, 1, none⟩ = some (.bool xl) by rw [cell_of_row wB _ 1 _ _ (0, 0) hB]; rfl)
          have p2 := over_cell (show wB.cell? ⟨wr.heap.size, 2, none⟩ = some (.int .i64 xm) by rw [cell_of_row wB _ 2 _ _ (0, 0) hB]; rfl)
          have p3 := over_cell (show wB.cell? ⟨wr.heap.size, 3, none⟩ = some (.int .i64 xp) by rw [cell_of_row wB _ 3 _ _ (0, 0) hB]; rfl)
          have p4 := over_cell (show wB.cell? ⟨wr.heap.size, 4, none⟩ = some (.string xc) by rw [cell_of_row wB _ 4 _ _ (0, 0) hB]; rfl)
          refine wp_region_over (by kernel_rfl) (by kernel_rfl) ?_
          repeat (first | go_big_quiet_skip | (go_big_quiet_want; go_big_quiet_op; first | go_big_quiet_on | (apply Exists.intro; refine ⟨fun _ => ?_, ?_⟩; (first | (go_at_call 73; exact calls_over (HN2.out _) (fun e w1 h => h)) | (go_at_call 74; exact calls_over (HE2.out _) (fun e w1 h => h))); go_big_quiet_on)))
          refine wpQuiet_nil ?_
          intro _ hw'
          obtain ⟨V, hw''⟩ := hw'
          subst hw''
          have hz := over_below wB V
          generalize over wB V = w9 at hz ⊢
          have hz2 := hbr2.trans (hz.mono hbr2.size)
          go_wp2_with fail
          go_roundw
          case rel => exact ⟨k + 1, by omega, by go_num, hz2, HN3⟩
          case measure => simp [intOf]; omega
        · have HN3 := Lib.hid (HF.out (by rw [HX2.out]; simp [hen]))
          have d2 : (en != (xc.size : Int)) = true := by simp [hen]
          go_wp2_with fail
          have hbw2 := hbw.trans (hbx.mono hbw.size)
          have hbr2 := hbr.trans (hbx.mono hbr.size)
          have hB := heap_alloc_new wr (.cells #[.string xn, .bool xl, .int .i64 xm, .int .i64 xp, .string xc, .int .i64 xk] 78)
          generalize wr.alloc (.cells #[.string xn, .bool xl, .int .i64 xm, .int .i64 xp, .string xc, .int .i64 xk] 78) = wB at hB hbx hbw2 hbr2 ⊢
          have p0 := over_cell (show wB.cell? ⟨wr.heap.size, 0, none⟩ = some (.string xn) by rw [cell_of_row wB _ 0 _ _ (0, 0) hB]; rfl)
          have p1 := over_cell (show wB.cell? ⟨wr.heap.size, 1, none⟩ = some (.bool xl) by rw [cell_of_row wB _ 1 _ _ (0, 0) hB]; rfl)
          have p2 := over_cell (show wB.cell? ⟨wr.heap.size, 2, none⟩ = some (.int .i64 xm) by rw [cell_of_row wB _ 2 _ _ (0, 0) hB]; rfl)
          have p3 := over_cell (show wB.cell? ⟨wr.heap.size, 3, none⟩ = some (.int .i64 xp) by rw [cell_of_row wB _ 3 _ _ (0, 0) hB]; rfl)
          have p4 := over_cell (show wB.cell? ⟨wr.heap.size, 4, none⟩ = some (.string xc) by rw [cell_of_row wB _ 4 _ _ (0, 0) hB]; rfl)
          refine wp_region_over (by kernel_rfl) (by kernel_rfl) ?_
          repeat (first | go_big_quiet_skip | (go_big_quiet_want; go_big_quiet_op; first | go_big_quiet_on | (apply Exists.intro; refine ⟨fun _ => ?_, ?_⟩; (first | (go_at_call 73; exact calls_over (HN2.out _) (fun e w1 h => h)) | (go_at_call 74; exact calls_over (HE2.out _) (fun e w1 h => h))); go_big_quiet_on)))
          refine wpQuiet_nil ?_
          intro _ hw'
          obtain ⟨V, hw''⟩ := hw'
          subst hw''
          have hz := over_below wB V
          generalize over wB V = w9 at hz ⊢
          go_wp2_with fail
          go_ret
          exact ⟨ret_bool (by rw [HR.out, HN3.out]; rfl), hbw2.trans (hz.mono hbw2.size)⟩
  · have HD := Lib.hid (all_done hp.out (by have := hn.out; omega))
    have HR2 : Hid (R = (nb || sb)) := Lib.hid (by rw [HR.out, HD.out]; rfl)
    clear HR HD hx HP
    cases nb with
    | false =>
      go_wp2_with (first | (go_at_call 73; refine (HN.out _).mono ?_; rintro e w9 ⟨rfl, hb9⟩; have p1 := (hb9.cell (World.block_lt_of_cell? _ _ q1)).trans q1; have p2 := (hb9.cell (World.block_lt_of_cell? _ _ q2)).trans q2; have p3 := (hb9.cell (World.block_lt_of_cell? _ _ q3)).trans q3; have p4 := (hb9.cell (World.block_lt_of_cell? _ _ q4)).trans q4) | (go_at_call 71; refine (HS.out _).mono ?_; rintro e w8 ⟨rfl, hb8⟩))
      go_ret
      exact ⟨ret_bool (by rw [HR2.out]; rfl), hbw.trans ((hb9.trans (hb8.mono hb9.size)).mono hbw.size)⟩
    | true =>
      go_wp2_with (first | (go_at_call 73; refine (HN.out _).mono ?_; rintro e w9 ⟨rfl, hb9⟩))
      go_ret
      exact ⟨ret_bool (by rw [HR2.out]; rfl), hbw.trans (hb9.mono hbw.size)⟩
end Go.Proofs.Ytkgbifbbpmdpgaa
