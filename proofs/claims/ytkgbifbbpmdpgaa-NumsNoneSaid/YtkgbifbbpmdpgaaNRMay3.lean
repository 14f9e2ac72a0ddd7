/- May a declaration be? The document's. -/
import Derived.Test.YtkgbifbbpmdpgaaNOfW
import Derived.Test.YtkgbifbbpmdpgaaNROver3
import Derived.Test.YtkgbifbbpmdpgaaNREnd
import Derived.Test.YtkgbifbbpmdpgaaNRMay2
import Derived.Deep.CutRange
set_option linter.unusedVariables false
set_option linter.unusedSimpArgs false
namespace Go.Proofs.Ytkgbifbbpmdpgaa

open Go.RowKit
set_option maxRecDepth 100000 in
set_option maxHeartbeats 8000000 in
theorem mayDecl_any (v : Value) (d : Dc) (w : World) (h : DcV w v d) (hs : DcSmall d) : Calls Try.prog 54 #[v] w fun e w' => e = .returned (.bool (mayDc d)) ∧ Below w.heap.size w w' := by
 obtain ⟨sv, rfl, h⟩ := h
 obtain ⟨a1, n, c, rfl, hn, hc, hm, hx⟩ := h.open
 have HR : Hid (mayDc d = (dcB d && d.syms.all (symB (d.kind == 1) (decide (d.kind < 5))))) := Lib.hid rfl
 have HD : Hid (dcB d = decide (1 ≤ d.kind ∧ d.kind ≤ 6 ∧ n ≠ 0 ∧ (d.kind = 6 → n = 1 ∧ d.tag.size = 0) ∧ (d.kind = 5 → d.tag.size ≠ 0) ∧ (d.tag.size = 0 ∨ isNameB d.tag = true))) := Lib.hid (by rw [hn.out]; rfl)
 have HI := Lib.hid (fun W => rname_any d.tag W hs.1)
 have HP := Lib.hid hs.2
 generalize mayDc d = R at HR ⊢
 generalize dcB d = B at HR HD
 obtain ⟨kd, tg, sy, po⟩ := d
 simp only at *
 clear h hs
 have hba := (Below.refl w.heap.size w).alloc (Nat.le_refl _) (.cells #[.int .i64 kd, .string tg, .slice a1 n c, .int .i64 po] 64)
 have HC := Lib.hid (fun W hW => box1 (w := w) (A := #[.int .i64 kd, .string tg, .slice a1 n c, .int .i64 po]) (T := 64) (W := W) hW)
 go_enter Try.func54, Try.ntmps54
 go_upto_region 1 with fail
 go_cut [54] from 4 to 54 (fun x wx => (∃ nb, x = .bool nb ∧ Hid (nb = !B)) ∧ wx = w.alloc (.cells #[.int .i64 kd, .string tg, .slice a1 n c, .int .i64 po] 64))
 case first =>
  have HX := Lib.hid hx
  clear hx HP HC HR
  by_cases h0 : tg.size = 0
  · have d1 := str_empty h0
    have HD2 : Hid (B = decide (1 ≤ kd ∧ kd ≤ 6 ∧ n ≠ 0 ∧ (kd = 6 → n = 1) ∧ kd ≠ 5)) := Lib.hid (by rw [HD.out]; simp [h0])
    clear HD h0
    by_cases g1 : kd < 1
    · skip
      go_wp2_with (first | (go_at_call 55; refine (HI.out _).mono ?_; rintro e w' ⟨rfl, rfl⟩))
      all_goals
       go_meet
       case rel => exact ⟨⟨_, rfl, Lib.hid (by rw [HD2.out, Bool.eq_iff_iff]; simp at *; omega)⟩, rfl⟩
    · by_cases g2 : 6 < kd
      · skip
        go_wp2_with (first | (go_at_call 55; refine (HI.out _).mono ?_; rintro e w' ⟨rfl, rfl⟩))
        all_goals
         go_meet
         case rel => exact ⟨⟨_, rfl, Lib.hid (by rw [HD2.out, Bool.eq_iff_iff]; simp at *; omega)⟩, rfl⟩
      · by_cases g3 : n = 0
        · have d3 : (((n : Nat) : Int) == 0) = true := by simp; omega
          have g3' : n ≤ 0 := by omega
          clear g3
          go_wp2_with (first | (go_at_call 55; refine (HI.out _).mono ?_; rintro e w' ⟨rfl, rfl⟩))
          all_goals
           go_meet
           case rel => exact ⟨⟨_, rfl, Lib.hid (by rw [HD2.out, Bool.eq_iff_iff]; simp at *; omega)⟩, rfl⟩
        · have d3 : (((n : Nat) : Int) == 0) = false := by simp; omega
          by_cases g4 : kd = 6
          · have d4 : (kd == 6) = true := by simp; omega
            have d4' : (kd == 5) = false := by simp; omega
            have g4' : 6 ≤ kd := by omega
            clear g4
            by_cases g5 : n = 1
            · have d5 : (((n : Nat) : Int) != 1) = false := by simp; omega
              have g5' : n ≤ 1 := by omega
              clear g5
              go_wp2_with (first | (go_at_call 55; refine (HI.out _).mono ?_; rintro e w' ⟨rfl, rfl⟩))
              all_goals
               go_meet
               case rel => exact ⟨⟨_, rfl, Lib.hid (by rw [HD2.out, Bool.eq_iff_iff]; simp at *; omega)⟩, rfl⟩
            · have d5 : (((n : Nat) : Int) != 1) = true := by simp; omega
              go_wp2_with (first | (go_at_call 55; refine (HI.out _).mono ?_; rintro e w' ⟨rfl, rfl⟩))
              all_goals
               go_meet
               case rel => exact ⟨⟨_, rfl, Lib.hid (by rw [HD2.out, Bool.eq_iff_iff]; simp at *; omega)⟩, rfl⟩
          · have d4 : (kd == 6) = false := by simp; omega
            by_cases g6 : kd = 5
            · have d6 : (kd == 5) = true := by simp; omega
              have g6' : 5 ≤ kd ∧ kd ≤ 5 := by omega
              obtain ⟨g6a, g6b⟩ := g6'
              clear g6
              go_wp2_with (first | (go_at_call 55; refine (HI.out _).mono ?_; rintro e w' ⟨rfl, rfl⟩))
              all_goals
               go_meet
               case rel => exact ⟨⟨_, rfl, Lib.hid (by rw [HD2.out, Bool.eq_iff_iff]; simp at *; omega)⟩, rfl⟩
            · have d6 : (kd == 5) = false := by simp; omega
              go_wp2_with (first | (go_at_call 55; refine (HI.out _).mono ?_; rintro e w' ⟨rfl, rfl⟩))
              all_goals
               go_meet
               case rel => exact ⟨⟨_, rfl, Lib.hid (by rw [HD2.out, Bool.eq_iff_iff]; simp at *; omega)⟩, rfl⟩
  · have d1 := str_some h0
    cases hb : isNameB tg with
    | true =>
      have HD2 : Hid (B = decide (1 ≤ kd ∧ kd ≤ 6 ∧ n ≠ 0 ∧ kd ≠ 6)) := Lib.hid (by rw [HD.out]; simp [h0, hb])
      rw [hb] at HI
      clear HD h0 hb
      by_cases g1 : kd < 1
      · skip
        go_wp2_with (first | (go_at_call 55; refine (HI.out _).mono ?_; rintro e w' ⟨rfl, rfl⟩))
        all_goals
         go_meet
         case rel => exact ⟨⟨_, rfl, Lib.hid (by rw [HD2.out, Bool.eq_iff_iff]; simp at *; omega)⟩, rfl⟩
      · by_cases g2 : 6 < kd
        · skip
          go_wp2_with (first | (go_at_call 55; refine (HI.out _).mono ?_; rintro e w' ⟨rfl, rfl⟩))
          all_goals
           go_meet
           case rel => exact ⟨⟨_, rfl, Lib.hid (by rw [HD2.out, Bool.eq_iff_iff]; simp at *; omega)⟩, rfl⟩
        · by_cases g3 : n = 0
          · have d3 : (((n : Nat) : Int) == 0) = true := by simp; omega
            have g3' : n ≤ 0 := by omega
            clear g3
            go_wp2_with (first | (go_at_call 55; refine (HI.out _).mono ?_; rintro e w' ⟨rfl, rfl⟩))
            all_goals
             go_meet
             case rel => exact ⟨⟨_, rfl, Lib.hid (by rw [HD2.out, Bool.eq_iff_iff]; simp at *; omega)⟩, rfl⟩
          · have d3 : (((n : Nat) : Int) == 0) = false := by simp; omega
            by_cases g4 : kd = 6
            · have d4 : (kd == 6) = true := by simp; omega
              have d4' : (kd == 5) = false := by simp; omega
              have g4' : 6 ≤ kd := by omega
              clear g4
              by_cases g5 : n = 1
              · have d5 : (((n : Nat) : Int) != 1) = false := by simp; omega
                have g5' : n ≤ 1 := by omega
                clear g5
                go_wp2_with (first | (go_at_call 55; refine (HI.out _).mono ?_; rintro e w' ⟨rfl, rfl⟩))
                all_goals
                 go_meet
                 case rel => exact ⟨⟨_, rfl, Lib.hid (by rw [HD2.out, Bool.eq_iff_iff]; simp at *; omega)⟩, rfl⟩
              · have d5 : (((n : Nat) : Int) != 1) = true := by simp; omega
                go_wp2_with (first | (go_at_call 55; refine (HI.out _).mono ?_; rintro e w' ⟨rfl, rfl⟩))
                all_goals
                 go_meet
                 case rel => exact ⟨⟨_, rfl, Lib.hid (by rw [HD2.out, Bool.eq_iff_iff]; simp at *; omega)⟩, rfl⟩
            · have d4 : (kd == 6) = false := by simp; omega
              by_cases g6 : kd = 5
              · have d6 : (kd == 5) = true := by simp; omega
                have g6' : 5 ≤ kd ∧ kd ≤ 5 := by omega
                obtain ⟨g6a, g6b⟩ := g6'
                clear g6
                go_wp2_with (first | (go_at_call 55; refine (HI.out _).mono ?_; rintro e w' ⟨rfl, rfl⟩))
                all_goals
                 go_meet
                 case rel => exact ⟨⟨_, rfl, Lib.hid (by rw [HD2.out, Bool.eq_iff_iff]; simp at *; omega)⟩, rfl⟩
              · have d6 : (kd == 5) = false := by simp; omega
                go_wp2_with (first | (go_at_call 55; refine (HI.out _).mono ?_; rintro e w' ⟨rfl, rfl⟩))
                all_goals
                 go_meet
                 case rel => exact ⟨⟨_, rfl, Lib.hid (by rw [HD2.out, Bool.eq_iff_iff]; simp at *; omega)⟩, rfl⟩
    | false =>
      have HD2 : Hid (B = false) := Lib.hid (by rw [HD.out]; simp [h0, hb])
      rw [hb] at HI
      clear HD h0 hb
      by_cases g1 : kd < 1
      · skip
        go_wp2_with (first | (go_at_call 55; refine (HI.out _).mono ?_; rintro e w' ⟨rfl, rfl⟩))
        all_goals
         go_meet
         case rel => exact ⟨⟨_, rfl, Lib.hid (by rw [HD2.out]; try simp)⟩, rfl⟩
      · by_cases g2 : 6 < kd
        · skip
          go_wp2_with (first | (go_at_call 55; refine (HI.out _).mono ?_; rintro e w' ⟨rfl, rfl⟩))
          all_goals
           go_meet
           case rel => exact ⟨⟨_, rfl, Lib.hid (by rw [HD2.out]; try simp)⟩, rfl⟩
        · by_cases g3 : n = 0
          · have d3 : (((n : Nat) : Int) == 0) = true := by simp; omega
            have g3' : n ≤ 0 := by omega
            clear g3
            go_wp2_with (first | (go_at_call 55; refine (HI.out _).mono ?_; rintro e w' ⟨rfl, rfl⟩))
            all_goals
             go_meet
             case rel => exact ⟨⟨_, rfl, Lib.hid (by rw [HD2.out]; try simp)⟩, rfl⟩
          · have d3 : (((n : Nat) : Int) == 0) = false := by simp; omega
            by_cases g4 : kd = 6
            · have d4 : (kd == 6) = true := by simp; omega
              have d4' : (kd == 5) = false := by simp; omega
              have g4' : 6 ≤ kd := by omega
              clear g4
              by_cases g5 : n = 1
              · have d5 : (((n : Nat) : Int) != 1) = false := by simp; omega
                have g5' : n ≤ 1 := by omega
                clear g5
                go_wp2_with (first | (go_at_call 55; refine (HI.out _).mono ?_; rintro e w' ⟨rfl, rfl⟩))
                all_goals
                 go_meet
                 case rel => exact ⟨⟨_, rfl, Lib.hid (by rw [HD2.out]; try simp)⟩, rfl⟩
              · have d5 : (((n : Nat) : Int) != 1) = true := by simp; omega
                go_wp2_with (first | (go_at_call 55; refine (HI.out _).mono ?_; rintro e w' ⟨rfl, rfl⟩))
                all_goals
                 go_meet
                 case rel => exact ⟨⟨_, rfl, Lib.hid (by rw [HD2.out]; try simp)⟩, rfl⟩
            · have d4 : (kd == 6) = false := by simp; omega
              by_cases g6 : kd = 5
              · have d6 : (kd == 5) = true := by simp; omega
                have g6' : 5 ≤ kd ∧ kd ≤ 5 := by omega
                obtain ⟨g6a, g6b⟩ := g6'
                clear g6
                go_wp2_with (first | (go_at_call 55; refine (HI.out _).mono ?_; rintro e w' ⟨rfl, rfl⟩))
                all_goals
                 go_meet
                 case rel => exact ⟨⟨_, rfl, Lib.hid (by rw [HD2.out]; try simp)⟩, rfl⟩
              · have d6 : (kd == 5) = false := by simp; omega
                go_wp2_with (first | (go_at_call 55; refine (HI.out _).mono ?_; rintro e w' ⟨rfl, rfl⟩))
                all_goals
                 go_meet
                 case rel => exact ⟨⟨_, rfl, Lib.hid (by rw [HD2.out]; try simp)⟩, rfl⟩
 case rest =>
  obtain ⟨⟨nb, rfl, hnb⟩, rfl⟩ := hcut
  clear HD HI
  cases B with
  | false =>
    obtain rfl : nb = true := hnb.out
    go_wp2_with fail
    go_ret
    exact ⟨ret_bool (by rw [HR.out]; rfl), hba⟩
  | true =>
    obtain rfl : nb = false := hnb.out
    go_wp2_with fail
    go_loopw [3] (fun i wr => ∃ k : Nat, k ≤ n ∧ i = .int .i64 k ∧ Below (w.alloc (.cells #[.int .i64 kd, .string tg, .slice a1 n c, .int .i64 po] 64)).heap.size (w.alloc (.cells #[.int .i64 kd, .string tg, .slice a1 n c, .int .i64 po] 64)) wr ∧ Hid ((sy.take k).all (symB (kd == 1) (decide (kd < 5))) = true)) (fun i _ => n - (intOf i).toNat)
    case atStart => exact ⟨0, Nat.zero_le _, rfl, Below.refl _ _, Lib.hid rfl⟩
    case round =>
     obtain ⟨k, hk, rfl, hbr, hp⟩ := hrel
     have q0 := HC.out wr hbr 0 _ rfl
     have q2 := HC.out wr hbr 2 _ rfl
     have hbw := hba.trans (hbr.mono hba.size)
     by_cases hlt : k < n
     · obtain ⟨b, o, x, rfl, ex, x0, x1, x2, x3⟩ := hx.out k hlt
       have hb1 := World.block_lt_of_cell? _ _ x0
       replace x0 := over_cell ((hbw.cell (p := ⟨b, o + k * 4, none⟩) hb1).trans x0)
       replace x1 := over_cell ((hbw.cell (p := ⟨b, o + k * 4 + 1, none⟩) hb1).trans x1)
       replace x2 := over_cell ((hbw.cell (p := ⟨b, o + k * 4 + 2, none⟩) hb1).trans x2)
       replace x3 := over_cell ((hbw.cell (p := ⟨b, o + k * 4 + 3, none⟩) hb1).trans x3)
       have q0' := over_cell q0
       have q2' := over_cell q2
       have HS2 := Lib.hid (fun W => smay_any x (kd == 1) (decide (kd < 5)) W (HP.out x (mem_at ex)))
       have HNx := Lib.hid (all_next (p := symB (kd == 1) (decide (kd < 5))) ex hp.out)
       have HF := Lib.hid (all_fails (p := symB (kd == 1) (decide (kd < 5))) ex)
       generalize symB (kd == 1) (decide (kd < 5)) x = sb at HS2 HNx HF
       obtain ⟨xn, xl, xm, xp⟩ := x
       simp only [Sm.agg] at x0 x1 x2 x3 HS2
       have i1 : (k : Int) < (n : Int) := by omega
       clear ex hp hx HP
       cases sb with
       | false =>
         go_wp2_with fail
         refine wp_region_over (by kernel_rfl) (by kernel_rfl) ?_
         repeat (first | go_big_quiet_skip | (go_big_quiet_want; go_big_quiet_op; first | go_big_quiet_on | (apply Exists.intro; refine ⟨fun _ => ?_, ?_⟩; (first | (go_at_call 71; exact calls_over (HS2.out _) (fun e w1 h => h))); go_big_quiet_on)))
         refine wpQuiet_nil ?_
         intro _ hw'
         obtain ⟨V, hw''⟩ := hw'
         subst hw''
         have hz := over_below wr V
         generalize over wr V = w9 at hz ⊢
         go_wp2_with fail
         go_ret
         exact ⟨ret_bool (by have e := HR.out; first | rw [e, HF.out rfl]; rfl | rw [e, HF.out trivial]; rfl), hbw.trans (hz.mono hbw.size)⟩
       | true =>
         have HN3 := Lib.hid (HNx.out rfl)
         go_wp2_with fail
         refine wp_region_over (by kernel_rfl) (by kernel_rfl) ?_
         repeat (first | go_big_quiet_skip | (go_big_quiet_want; go_big_quiet_op; first | go_big_quiet_on | (apply Exists.intro; refine ⟨fun _ => ?_, ?_⟩; (first | (go_at_call 71; exact calls_over (HS2.out _) (fun e w1 h => h))); go_big_quiet_on)))
         refine wpQuiet_nil ?_
         intro _ hw'
         obtain ⟨V, hw''⟩ := hw'
         subst hw''
         have hz := over_below wr V
         generalize over wr V = w9 at hz ⊢
         have hz2 := hbr.trans (hz.mono hbr.size)
         go_wp2_with fail
         go_roundw
         case rel => exact ⟨k + 1, by omega, by go_num, hz2, HN3⟩
         case measure => simp [intOf]; omega
     · have HX := Lib.hid (all_done hp.out (by have := hn.out; omega))
       clear hx HP
       go_wp2_with fail
       go_ret
       exact ⟨ret_bool (by rw [HR.out, HX.out]; rfl), hbw⟩
end Go.Proofs.Ytkgbifbbpmdpgaa
