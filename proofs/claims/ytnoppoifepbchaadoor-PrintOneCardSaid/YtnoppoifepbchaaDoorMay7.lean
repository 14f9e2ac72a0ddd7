/- May a declaration be? print's. -/
import Derived.Test.YtnoppoifepbchaaDoorMay5
namespace Go.Proofs.YtnoppoifepbchaaDoor

open Go.RowKit
set_option linter.unusedVariables false
set_option linter.unusedSimpArgs false

set_option maxRecDepth 100000 in
set_option maxHeartbeats 16000000 in
theorem pmayDecl_any (v : Value) (d : Dc) (w : World) (h : DcV w v d) (hs : DcSmall d) : Calls Tryd.prog 33 #[v] w fun e w' => e = .returned (.bool (mayDc d)) ∧ Below w.heap.size w w' := by
 obtain ⟨sv, rfl, h⟩ := h
 obtain ⟨a1, n, c, rfl, hn, hc, hm, hx⟩ := h.open
 have HR : Hid (mayDc d = (dcB d && d.syms.all (symB (d.kind == 1) (decide (d.kind < 5))))) := Lib.hid rfl
 have HD : Hid (dcB d = (decide (1 ≤ d.kind ∧ d.kind ≤ 6) && (ptagB d && decide (n ≠ 0 ∧ (d.kind = 6 → n = 1))))) := Lib.hid (by rw [hn.out]; exact dcB_ptag d)
 have HT := Lib.hid (fun (W : World) (hW : Below w.heap.size w W) => pmayTag_any d (.agg #[.int .i64 d.kind, .string d.tag, .slice a1 n c, .int .i64 d.pos]) W ⟨_, rfl, h.below hW⟩ hs.1)
 have HP := Lib.hid hs.2
 have HK := Lib.hid (fun W => key_any d.kind W)
 have HK1 := Lib.hid (fun h => keyS_none (k := d.kind) h)
 have HK2 := Lib.hid (fun h => keyS_some (k := d.kind) h)
 generalize mayDc d = R at HR ⊢
 generalize dcB d = B at HR HD
 generalize ptagB d = tb at HD HT
 obtain ⟨kd, tg, sy, po⟩ := d
 simp only at *
 generalize keyS kd = K at HK HK1 HK2
 clear h hs
 have hba := (Below.refl w.heap.size w).alloc (Nat.le_refl _) (.cells #[.int .i64 kd, .string tg, .slice a1 n c, .int .i64 po] 51)
 have HC := Lib.hid (fun W hW => box1 (w := w) (A := #[.int .i64 kd, .string tg, .slice a1 n c, .int .i64 po]) (T := 51) (W := W) hW)
 go_enter Tryd.func33, Tryd.ntmps33
 go_upto_region 1 with fail
 go_cut [30] from 5 to 30 (fun x wx => (∃ nb, x = .bool nb ∧ Hid (nb = !B)) ∧ Below (w.alloc (.cells #[.int .i64 kd, .string tg, .slice a1 n c, .int .i64 po] 51)).heap.size (w.alloc (.cells #[.int .i64 kd, .string tg, .slice a1 n c, .int .i64 po] 51)) wx)
 case first =>
  have HX := Lib.hid hx
  clear hx HP HR hn
  by_cases g1 : 1 ≤ kd ∧ kd ≤ 6
  · have k1 := HK2.out g1
    obtain ⟨g1a, g1b⟩ := g1
    clear HK1 HK2
    cases tb with
    | false =>
      have HB : Hid (B = false) := Lib.hid (by rw [HD.out]; simp)
      go_wp2_with (first | (go_at_call 59; refine (HK.out _).mono ?_; rintro e w' ⟨rfl, rfl⟩) | (go_at_call 60; refine (HT.out _ hba).mono ?_; rintro e w9 ⟨rfl, hb9⟩))
      go_meet
      case rel => exact ⟨⟨_, rfl, Lib.hid (by rw [HB.out]; rfl)⟩, hb9⟩
    | true =>
      have HB : Hid (B = decide (n ≠ 0 ∧ (kd = 6 → n = 1))) := Lib.hid (by rw [HD.out]; simp; omega)
      clear HD
      by_cases g3 : n = 0
      · have d3 : (((n : Nat) : Int) == 0) = true := by simp; omega
        have HB2 : Hid (B = false) := Lib.hid (by rw [HB.out]; simp [g3])
        clear g3
        go_wp2_with (first | (go_at_call 59; refine (HK.out _).mono ?_; rintro e w' ⟨rfl, rfl⟩) | (go_at_call 60; refine (HT.out _ hba).mono ?_; rintro e w9 ⟨rfl, hb9⟩; have q2 := HC.out _ hb9 2 _ rfl))
        go_meet
        case rel => exact ⟨⟨_, rfl, Lib.hid (by rw [HB2.out]; rfl)⟩, hb9⟩
      · have d3 : (((n : Nat) : Int) == 0) = false := by simp; omega
        by_cases g4 : kd = 6
        · have d4 : (kd == 6) = true := by simp; omega
          by_cases g5 : n = 1
          · have d5 : (((n : Nat) : Int) != 1) = false := by simp; omega
            have HB2 : Hid (B = true) := Lib.hid (by rw [HB.out]; simp [g4, g5])
            clear g3 g4 g5 g1a g1b
            go_wp2_with (first | (go_at_call 59; refine (HK.out _).mono ?_; rintro e w' ⟨rfl, rfl⟩) | (go_at_call 60; refine (HT.out _ hba).mono ?_; rintro e w9 ⟨rfl, hb9⟩; have q2 := HC.out _ hb9 2 _ rfl; have q0 := HC.out _ hb9 0 _ rfl))
            go_meet
            case rel => exact ⟨⟨_, rfl, Lib.hid (by rw [HB2.out]; rfl)⟩, hb9⟩
          · have d5 : (((n : Nat) : Int) != 1) = true := by simp; omega
            have HB2 : Hid (B = false) := Lib.hid (by rw [HB.out]; simp [g4, g5])
            clear g3 g4 g5 g1a g1b
            go_wp2_with (first | (go_at_call 59; refine (HK.out _).mono ?_; rintro e w' ⟨rfl, rfl⟩) | (go_at_call 60; refine (HT.out _ hba).mono ?_; rintro e w9 ⟨rfl, hb9⟩; have q2 := HC.out _ hb9 2 _ rfl; have q0 := HC.out _ hb9 0 _ rfl))
            go_meet
            case rel => exact ⟨⟨_, rfl, Lib.hid (by rw [HB2.out]; rfl)⟩, hb9⟩
        · have d4 : (kd == 6) = false := by simp; omega
          have HB2 : Hid (B = true) := Lib.hid (by rw [HB.out]; simp [g4, g3])
          clear g3 g4 g1a g1b
          go_wp2_with (first | (go_at_call 59; refine (HK.out _).mono ?_; rintro e w' ⟨rfl, rfl⟩) | (go_at_call 60; refine (HT.out _ hba).mono ?_; rintro e w9 ⟨rfl, hb9⟩; have q2 := HC.out _ hb9 2 _ rfl; have q0 := HC.out _ hb9 0 _ rfl))
          go_meet
          case rel => exact ⟨⟨_, rfl, Lib.hid (by rw [HB2.out]; rfl)⟩, hb9⟩
  · have k1 := HK1.out g1
    have HB : Hid (B = false) := Lib.hid (by rw [HD.out]; simp; omega)
    clear g1 HK1 HK2
    go_wp2_with (first | (go_at_call 59; refine (HK.out _).mono ?_; rintro e w' ⟨rfl, rfl⟩))
    go_meet
    case rel => exact ⟨⟨_, rfl, Lib.hid (by rw [HB.out]; rfl)⟩, Below.refl _ _⟩
 case rest =>
  obtain ⟨⟨nb, rfl, hnb⟩, hbc⟩ := hcut
  clear HT HK HK1 HK2
  have q2c := HC.out wc hbc 2 _ rfl
  cases B with
  | false =>
    obtain rfl : nb = true := hnb.out
    go_wp2_with fail
    go_ret
    exact ⟨ret_bool (by rw [HR.out]; rfl), hba.trans (hbc.mono hba.size)⟩
  | true =>
    obtain rfl : nb = false := hnb.out
    have hkd : 1 ≤ kd ∧ kd ≤ 6 := by have := HD.out; simp at this; omega
    clear HD
    go_wp2_with fail
    go_loopw [34] (fun i wr => ∃ k : Nat, k ≤ n ∧ i = .int .i64 k ∧ Below (w.alloc (.cells #[.int .i64 kd, .string tg, .slice a1 n c, .int .i64 po] 51)).heap.size (w.alloc (.cells #[.int .i64 kd, .string tg, .slice a1 n c, .int .i64 po] 51)) wr ∧ Hid ((sy.take k).all (symB (kd == 1) (decide (kd < 5))) = true)) (fun i _ => n - (intOf i).toNat)
    case atStart => exact ⟨0, Nat.zero_le _, rfl, hbc, Lib.hid rfl⟩
    case round =>
     clear q2c
     obtain ⟨k, hk, rfl, hbr, hp⟩ := hrel
     rename World => wr
     have q0 := HC.out wr hbr 0 _ rfl
     have hbw := hba.trans (hbr.mono hba.size)
     by_cases hlt : k < n
     · obtain ⟨b, o, x, rfl, ex, x0, x1, x2, x3⟩ := hx.out k hlt
       have hb1 := World.block_lt_of_cell? _ _ x0
       replace x0 := (hbw.cell (p := ⟨b, o + k * 4, none⟩) hb1).trans x0
       replace x1 := (hbw.cell (p := ⟨b, o + k * 4 + 1, none⟩) hb1).trans x1
       replace x2 := (hbw.cell (p := ⟨b, o + k * 4 + 2, none⟩) hb1).trans x2
       replace x3 := (hbw.cell (p := ⟨b, o + k * 4 + 3, none⟩) hb1).trans x3
       have HS2 := Lib.hid (fun W => pmaySym_any x W (HP.out x (mem_at ex)))
       have HNx := Lib.hid (all_next (p := symB (kd == 1) (decide (kd < 5))) ex hp.out)
       have HF := Lib.hid (all_fails (p := symB (kd == 1) (decide (kd < 5))) ex)
       have HSB := Lib.hid (symB_decl x kd hkd.1 hkd.2)
       generalize symB (kd == 1) (decide (kd < 5)) x = sb at HNx HF HSB
       generalize psymB x = pb at HS2 HSB
       obtain ⟨xn, xl, xm, xp⟩ := x
       simp only [Sm.agg] at x0 x1 x2 x3 HS2 HSB
       have i1 : (k : Int) < (n : Int) := by omega
       have hbx := (Below.refl wr.heap.size wr).alloc (Nat.le_refl _) (.cells #[.string xn, .bool xl, .int .i64 xm, .int .i64 xp] 40)
       have hbrx := hbr.trans (hbx.mono hbr.size)
       have hbwx := hbw.trans (hbx.mono hbw.size)
       have q0z := (hbx.cell (World.block_lt_of_cell? _ _ q0)).trans q0
       have HX4 := Lib.hid (fun W hW => box1 (w := wr) (A := #[.string xn, .bool xl, .int .i64 xm, .int .i64 xp]) (T := 40) (W := W) hW)
       clear ex hp hx HP hbx
       cases pb with
       | false =>
         have HF2 : Hid (R = false) := Lib.hid (by rw [HR.out, HF.out (by rw [HSB.out]; simp at *; try omega)]; rfl)
         clear hkd
         go_wp2_with (first | (go_at_call 61; refine (HS2.out _).mono ?_; rintro e w9 ⟨rfl, hb9⟩; have s1 := HX4.out _ hb9 1 _ rfl; have s2 := HX4.out _ hb9 2 _ rfl; have q0' := (hb9.cell (World.block_lt_of_cell? _ _ q0z)).trans q0z))
         go_ret
         exact ⟨ret_bool (by rw [HF2.out]), hbwx.trans (hb9.mono hbwx.size)⟩
       | true =>
         by_cases c1 : kd = 1
         · have e5 : (kd == 5) = false := by simp; omega
           have e6 : (kd == 6) = false := by simp; omega
           have e1 : (kd != 1) = false := by simp; omega
           by_cases c0 : xm = 0
           · have f0 : (xm != 0) = false := by simp; omega
             have HT : Hid ((sy.take (k + 1)).all (symB (kd == 1) (decide (kd < 5))) = true) := Lib.hid (HNx.out (by rw [HSB.out]; simp at *; try omega))
             clear c1 hkd c0
             cases xl
             · skip
               go_wp2_with (first | (go_at_call 61; refine (HS2.out _).mono ?_; rintro e w9 ⟨rfl, hb9⟩; have s1 := HX4.out _ hb9 1 _ rfl; have s2 := HX4.out _ hb9 2 _ rfl; have q0' := (hb9.cell (World.block_lt_of_cell? _ _ q0z)).trans q0z))
               have hz2 := hbrx.trans (hb9.mono hbrx.size)
               go_roundw
               case rel => exact ⟨k + 1, by omega, by go_num, hz2, HT.out⟩
               case measure => simp [intOf]; omega
             · skip
               go_wp2_with (first | (go_at_call 61; refine (HS2.out _).mono ?_; rintro e w9 ⟨rfl, hb9⟩; have s1 := HX4.out _ hb9 1 _ rfl; have s2 := HX4.out _ hb9 2 _ rfl; have q0' := (hb9.cell (World.block_lt_of_cell? _ _ q0z)).trans q0z))
               have hz2 := hbrx.trans (hb9.mono hbrx.size)
               go_roundw
               case rel => exact ⟨k + 1, by omega, by go_num, hz2, HT.out⟩
               case measure => simp [intOf]; omega
           · have f0 : (xm != 0) = true := by simp; omega
             cases xl with
             | true =>
               have HF2 : Hid (R = false) := Lib.hid (by rw [HR.out, HF.out (by rw [HSB.out]; simp at *; try omega)]; rfl)
               clear c1 hkd c0
               go_wp2_with (first | (go_at_call 61; refine (HS2.out _).mono ?_; rintro e w9 ⟨rfl, hb9⟩; have s1 := HX4.out _ hb9 1 _ rfl; have s2 := HX4.out _ hb9 2 _ rfl; have q0' := (hb9.cell (World.block_lt_of_cell? _ _ q0z)).trans q0z))
               go_ret
               exact ⟨ret_bool (by rw [HF2.out]), hbwx.trans (hb9.mono hbwx.size)⟩
             | false =>
               by_cases c2 : xm < 0
               · have HF2 : Hid (R = false) := Lib.hid (by rw [HR.out, HF.out (by rw [HSB.out]; simp at *; try omega)]; rfl)
                 clear c1 hkd c0
                 go_wp2_with (first | (go_at_call 61; refine (HS2.out _).mono ?_; rintro e w9 ⟨rfl, hb9⟩; have s1 := HX4.out _ hb9 1 _ rfl; have s2 := HX4.out _ hb9 2 _ rfl; have q0' := (hb9.cell (World.block_lt_of_cell? _ _ q0z)).trans q0z))
                 go_ret
                 exact ⟨ret_bool (by rw [HF2.out]), hbwx.trans (hb9.mono hbwx.size)⟩
               · by_cases c3 : 50000 < xm
                 · have HF2 : Hid (R = false) := Lib.hid (by rw [HR.out, HF.out (by rw [HSB.out]; simp at *; try omega)]; rfl)
                   clear c1 hkd c0
                   go_wp2_with (first | (go_at_call 61; refine (HS2.out _).mono ?_; rintro e w9 ⟨rfl, hb9⟩; have s1 := HX4.out _ hb9 1 _ rfl; have s2 := HX4.out _ hb9 2 _ rfl; have q0' := (hb9.cell (World.block_lt_of_cell? _ _ q0z)).trans q0z))
                   go_ret
                   exact ⟨ret_bool (by rw [HF2.out]), hbwx.trans (hb9.mono hbwx.size)⟩
                 · have HT : Hid ((sy.take (k + 1)).all (symB (kd == 1) (decide (kd < 5))) = true) := Lib.hid (HNx.out (by rw [HSB.out]; simp at *; try omega))
                   clear c1 hkd c0
                   go_wp2_with (first | (go_at_call 61; refine (HS2.out _).mono ?_; rintro e w9 ⟨rfl, hb9⟩; have s1 := HX4.out _ hb9 1 _ rfl; have s2 := HX4.out _ hb9 2 _ rfl; have q0' := (hb9.cell (World.block_lt_of_cell? _ _ q0z)).trans q0z))
                   have hz2 := hbrx.trans (hb9.mono hbrx.size)
                   go_roundw
                   case rel => exact ⟨k + 1, by omega, by go_num, hz2, HT.out⟩
                   case measure => simp [intOf]; omega
         · have e1 : (kd != 1) = true := by simp; omega
           by_cases c5 : kd < 5
           · have e5 : (kd == 5) = false := by simp; omega
             have e6 : (kd == 6) = false := by simp; omega
             by_cases c0 : xm = 0
             · have f0 : (xm != 0) = false := by simp; omega
               have HT : Hid ((sy.take (k + 1)).all (symB (kd == 1) (decide (kd < 5))) = true) := Lib.hid (HNx.out (by rw [HSB.out]; simp at *; try omega))
               clear c1 hkd c0
               cases xl
               · skip
                 go_wp2_with (first | (go_at_call 61; refine (HS2.out _).mono ?_; rintro e w9 ⟨rfl, hb9⟩; have s1 := HX4.out _ hb9 1 _ rfl; have s2 := HX4.out _ hb9 2 _ rfl; have q0' := (hb9.cell (World.block_lt_of_cell? _ _ q0z)).trans q0z))
                 have hz2 := hbrx.trans (hb9.mono hbrx.size)
                 go_roundw
                 case rel => exact ⟨k + 1, by omega, by go_num, hz2, HT.out⟩
                 case measure => simp [intOf]; omega
               · skip
                 go_wp2_with (first | (go_at_call 61; refine (HS2.out _).mono ?_; rintro e w9 ⟨rfl, hb9⟩; have s1 := HX4.out _ hb9 1 _ rfl; have s2 := HX4.out _ hb9 2 _ rfl; have q0' := (hb9.cell (World.block_lt_of_cell? _ _ q0z)).trans q0z))
                 have hz2 := hbrx.trans (hb9.mono hbrx.size)
                 go_roundw
                 case rel => exact ⟨k + 1, by omega, by go_num, hz2, HT.out⟩
                 case measure => simp [intOf]; omega
             · have f0 : (xm != 0) = true := by simp; omega
               have HF2 : Hid (R = false) := Lib.hid (by rw [HR.out, HF.out (by rw [HSB.out]; simp at *; try omega)]; rfl)
               clear c1 hkd c0
               cases xl
               · skip
                 go_wp2_with (first | (go_at_call 61; refine (HS2.out _).mono ?_; rintro e w9 ⟨rfl, hb9⟩; have s1 := HX4.out _ hb9 1 _ rfl; have s2 := HX4.out _ hb9 2 _ rfl; have q0' := (hb9.cell (World.block_lt_of_cell? _ _ q0z)).trans q0z))
                 go_ret
                 exact ⟨ret_bool (by rw [HF2.out]), hbwx.trans (hb9.mono hbwx.size)⟩
               · skip
                 go_wp2_with (first | (go_at_call 61; refine (HS2.out _).mono ?_; rintro e w9 ⟨rfl, hb9⟩; have s1 := HX4.out _ hb9 1 _ rfl; have s2 := HX4.out _ hb9 2 _ rfl; have q0' := (hb9.cell (World.block_lt_of_cell? _ _ q0z)).trans q0z))
                 go_ret
                 exact ⟨ret_bool (by rw [HF2.out]), hbwx.trans (hb9.mono hbwx.size)⟩
           · cases xl with
             | true =>
               have HF2 : Hid (R = false) := Lib.hid (by rw [HR.out, HF.out (by rw [HSB.out]; simp at *; try omega)]; rfl)
               by_cases c6 : kd = 5
               · have e5 : (kd == 5) = true := by simp; omega
                 clear c1 hkd c6
                 go_wp2_with (first | (go_at_call 61; refine (HS2.out _).mono ?_; rintro e w9 ⟨rfl, hb9⟩; have s1 := HX4.out _ hb9 1 _ rfl; have s2 := HX4.out _ hb9 2 _ rfl; have q0' := (hb9.cell (World.block_lt_of_cell? _ _ q0z)).trans q0z))
                 go_ret
                 exact ⟨ret_bool (by rw [HF2.out]), hbwx.trans (hb9.mono hbwx.size)⟩
               · have e5 : (kd == 5) = false := by simp; omega
                 have e6 : (kd == 6) = true := by simp; omega
                 clear c1 hkd c6
                 go_wp2_with (first | (go_at_call 61; refine (HS2.out _).mono ?_; rintro e w9 ⟨rfl, hb9⟩; have s1 := HX4.out _ hb9 1 _ rfl; have s2 := HX4.out _ hb9 2 _ rfl; have q0' := (hb9.cell (World.block_lt_of_cell? _ _ q0z)).trans q0z))
                 go_ret
                 exact ⟨ret_bool (by rw [HF2.out]), hbwx.trans (hb9.mono hbwx.size)⟩
             | false =>
               by_cases c0 : xm = 0
               · have f0 : (xm != 0) = false := by simp; omega
                 have HT : Hid ((sy.take (k + 1)).all (symB (kd == 1) (decide (kd < 5))) = true) := Lib.hid (HNx.out (by rw [HSB.out]; simp at *; try omega))
                 clear c1 hkd c0
                 go_wp2_with (first | (go_at_call 61; refine (HS2.out _).mono ?_; rintro e w9 ⟨rfl, hb9⟩; have s1 := HX4.out _ hb9 1 _ rfl; have s2 := HX4.out _ hb9 2 _ rfl; have q0' := (hb9.cell (World.block_lt_of_cell? _ _ q0z)).trans q0z))
                 have hz2 := hbrx.trans (hb9.mono hbrx.size)
                 go_roundw
                 case rel => exact ⟨k + 1, by omega, by go_num, hz2, HT.out⟩
                 case measure => simp [intOf]; omega
               · have f0 : (xm != 0) = true := by simp; omega
                 have HF2 : Hid (R = false) := Lib.hid (by rw [HR.out, HF.out (by rw [HSB.out]; simp at *; try omega)]; rfl)
                 clear c1 hkd c0
                 go_wp2_with (first | (go_at_call 61; refine (HS2.out _).mono ?_; rintro e w9 ⟨rfl, hb9⟩; have s1 := HX4.out _ hb9 1 _ rfl; have s2 := HX4.out _ hb9 2 _ rfl; have q0' := (hb9.cell (World.block_lt_of_cell? _ _ q0z)).trans q0z))
                 go_ret
                 exact ⟨ret_bool (by rw [HF2.out]), hbwx.trans (hb9.mono hbwx.size)⟩
     · have HX := Lib.hid (all_done hp.out (by have := hn.out; omega))
       clear hx HP
       go_wp2_with fail
       go_ret
       exact ⟨ret_bool (by rw [HR.out, HX.out]; rfl), hbw⟩
end Go.Proofs.YtnoppoifepbchaaDoor
