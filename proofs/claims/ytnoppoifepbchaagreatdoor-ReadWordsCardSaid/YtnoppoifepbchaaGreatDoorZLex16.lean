/- The document's word: numbers. -/
import Derived.Test.YtnoppoifepbchaaGreatDoorZA
import Derived.Test.YtnoppoifepbchaaGreatDoorZLex8
import Derived.Test.YtnoppoifepbchaaGreatDoorZLex11
import Derived.Test.YtnoppoifepbchaaGreatDoorZLex13
import Derived.Test.YtnoppoifepbchaaGreatDoorZLex14
namespace Go.Proofs.YtnoppoifepbchaaGreatDoor
open Go.RowKit
set_option linter.unusedVariables false
set_option linter.unusedSimpArgs false
set_option maxRecDepth 100000 in
set_option maxHeartbeats 4000000 in
theorem rword_dig (s : ByteArray) (i : Nat) (w : World) (hi : i < s.size) (hd : digB (gAt s i) = true) (hs : s.size ≤ 1000000) :
  Calls Tryz.prog 34 #[.string s, .int .i64 i] w fun r w' => WdTells r (rwd i (digWd s i)) ∧ Below w.heap.size w w' := by
 have hg := fun j h => gAt_get s j h
 have hg0 := gAt_get s i hi
 have hb := digF_bd s.size (gAt s) i (by omega)
 have hdi : i < digF s.size (gAt s) i := by
  have e1 : digF s.size (gAt s) i = digF s.size (gAt s) (i + 1) := by rw [digF, if_pos ⟨hi, hd⟩]
  have := digF_bd s.size (gAt s) (i + 1) (by omega)
  omega
 have hall := digF_all s.size (gAt s) i
 have hfin := digF_fin s.size (gAt s) i
 have hat := fun k => digL_at s i k (by omega)
 have hlen := digL_len s i (by omega)
 have hb6 := fun k => horA_six s i k (by omega)
 have hR := digWd_eq s i hi hd
 have hbeg : begB (gAt s i) = false := by
  have := digB_flat hd
  unfold begB; simp; omega
 have HL0 := Lib.hid (fun W => rletter_any (gAt s i) W)
 rw [hbeg] at HL0
 have HD0 := Lib.hid (fun W => rdigit_any (gAt s i) W)
 rw [hd] at HD0
 have d39 : (gAt s i == 39) = false := by have := digB_flat hd; simp; omega
 obtain ⟨V, hV⟩ : ∃ V : Nat → Nat, ∀ k, horA 0 ((digL s i).take k) = V k := ⟨_, fun _ => rfl⟩
 have hV0 : V 0 = 0 := (hV 0).symm
 have hVs : ∀ k, i + k < digF s.size (gAt s) i → 10 * (V k : Int) + (gAt s (i + k) - 48) = (V (k + 1) : Int) := fun k hk => by
  have h1 := horA_take (digL s i) k (by omega)
  have h2 := hat k hk
  have h3 := digB_flat (hall (i + k) (by omega) hk)
  rw [hV, hV] at h1
  omega
 have hVb : ∀ k, k ≤ 6 → V k < 1000000 := fun k hk => by rw [← hV]; exact hb6 k hk
 have hV6 : ¬ 5 < digF s.size (gAt s) i - i → V 6 = V (digF s.size (gAt s) i - i) := fun h => by
  rw [← hV, ← hV, List.take_of_length_le (by omega), List.take_of_length_le (by omega)]
 rw [hV] at hR
 clear hV hat hlen hb6 hd hbeg
 generalize digWd s i = R at hR ⊢
 generalize digF s.size (gAt s) i = D at *
 generalize gAt s = g at *
 have HV := Lib.hid hVs
 have HVb := Lib.hid hVb
 have Hall := Lib.hid hall
 have HG := Lib.hid hg
 clear hVs hVb hall
 go_enter Tryz.func34, Tryz.ntmps34
 go_wp2_with (first
  | (go_at_call 66; refine (HL0.out _).mono ?_; rintro e w1 ⟨rfl, rfl⟩)
  | (go_at_call 69; refine (HD0.out _).mono ?_; rintro e w1 ⟨rfl, rfl⟩))
 go_loop [12, 13] (fun x y => ∃ k : Nat, i + k ≤ D ∧ x = .int .i64 k ∧ y = .int .i64 (V (min k 6) : Nat)) (fun x y => s.size + 1 - (intOf x).toNat)
 case atStart => exact ⟨0, by omega, rfl, by rw [show min 0 6 = 0 from rfl, hV0]; rfl⟩
 case round =>
  obtain ⟨k, hk, rfl, rfl⟩ := hrel
  have e1 : ((i : Int) + (k : Int)).toNat = i + k := by omega
  by_cases hlt : i + k < D
  · have hdk := Hall.out (i + k) (by omega) hlt
    have HDk := Lib.hid (fun W => rdigit_any (g (i + k)) W)
    rw [hdk] at HDk
    obtain ⟨b1, b2⟩ := digB_flat hdk
    have hgk := HG.out (i + k) (by omega)
    by_cases h6 : k < 6
    · have HVk := Lib.hid (HV.out k hlt)
      have hbv := HVb.out k (by omega)
      rw [show min k 6 = k by omega]
      have hm : min (k + 1) 6 = k + 1 := by omega
      clear hR hg hdk
      generalize g (i + k) = c at *
      go_wp2_with (first
       | (go_at_call 69; refine (HDk.out _).mono ?_; rintro e w1 ⟨rfl, rfl⟩))
      go_round
      case rel => exact ⟨k + 1, by omega, by go_num, by rw [hm, ← HVk.out]⟩
      case measure => simp [intOf]; omega
    · have hm : min (k + 1) 6 = min k 6 := by omega
      have d6 : decide ((k : Int) < 6) = false := by simp; omega
      clear hR hg hdk
      go_wp2_with (first
       | (go_at_call 69; refine (HDk.out _).mono ?_; rintro e w1 ⟨rfl, rfl⟩))
      go_round
      case rel => exact ⟨k + 1, by omega, by go_num, by rw [hm]⟩
      case measure => simp [intOf]; omega
  · obtain rfl : D = i + k := by omega
    have eD : i + k - i = k := by omega
    rw [eD] at hR hV6
    have hbv := HVb.out (min k 6) (by omega)
    by_cases hds : i + k < s.size
    · have hdk : digB (g (i + k)) = false := by
       cases hq : digB (g (i + k)) with
       | false => rfl
       | true => exact absurd ⟨hds, hq⟩ hfin
      have HDk := Lib.hid (fun W => rdigit_any (g (i + k)) W)
      rw [hdk] at HDk
      have HLk := Lib.hid (fun W => rletter_any (g (i + k)) W)
      have hgk := HG.out (i + k) hds
      clear hdk hfin
      by_cases h48 : g i = 48
      · rw [if_pos (.inl h48)] at hR
        have hR2 : rwd i R = (⟨0, ByteArray.empty, i⟩, 0) := by rw [hR]; exact rwd_none rfl
        clear hR hV6 hg
        go_wp2_with (first
         | (go_at_call 69; refine (HDk.out _).mono ?_; rintro e w1 ⟨rfl, rfl⟩)
         | (go_at_call 66; refine (HLk.out _).mono ?_; rintro e w1 ⟨rfl, rfl⟩))
        exact bodyPost_ret (v := .tuple #[.agg #[.int .i64 0, .string ByteArray.empty, .int .i64 (i : Int)], .int .i64 0]) (by simp [results, Tryz.results34, go_sem, World.cell?_setCell_same, World.cell?_setCell_other]; rfl) rfl ⟨by first | rfl | (rw [hR2]; rfl), by
         repeat' first | exact Below.refl _ _ | assumption | refine Below.drew ?_ | refine Below.setCell ?_ ?_ _ | refine Below.alloc ?_ ?_ _ | (simp; omega) | simp⟩
      have d48 : (g i == 48) = false := by simpa using h48
      by_cases h5 : 5 < k
      · rw [if_pos (.inr (.inl h5))] at hR
        have hR2 : rwd i R = (⟨0, ByteArray.empty, i⟩, 0) := by rw [hR]; exact rwd_none rfl
        have d5 : decide ((5 : Int) < (k : Int)) = true := by simp; omega
        clear hR hV6 hg h48
        go_wp2_with (first
         | (go_at_call 69; refine (HDk.out _).mono ?_; rintro e w1 ⟨rfl, rfl⟩)
         | (go_at_call 66; refine (HLk.out _).mono ?_; rintro e w1 ⟨rfl, rfl⟩))
        exact bodyPost_ret (v := .tuple #[.agg #[.int .i64 0, .string ByteArray.empty, .int .i64 (i : Int)], .int .i64 0]) (by simp [results, Tryz.results34, go_sem, World.cell?_setCell_same, World.cell?_setCell_other]; rfl) rfl ⟨by first | rfl | (rw [hR2]; rfl), by
         repeat' first | exact Below.refl _ _ | assumption | refine Below.drew ?_ | refine Below.setCell ?_ ?_ _ | refine Below.alloc ?_ ?_ _ | (simp; omega) | simp⟩
      have d5 : decide ((5 : Int) < (k : Int)) = false := by simp; omega
      have hV6 := hV6 h5
      rw [show min k 6 = k by omega] at *
      by_cases hv : 50000 < V k
      · rw [if_pos (.inr (.inr (.inl (by omega))))] at hR
        have hR2 : rwd i R = (⟨0, ByteArray.empty, i⟩, 0) := by rw [hR]; exact rwd_none rfl
        have dv : decide ((50000 : Int) < (V k : Int)) = true := by simp; omega
        clear hR hV6 hg h48
        go_wp2_with (first
         | (go_at_call 69; refine (HDk.out _).mono ?_; rintro e w1 ⟨rfl, rfl⟩)
         | (go_at_call 66; refine (HLk.out _).mono ?_; rintro e w1 ⟨rfl, rfl⟩))
        exact bodyPost_ret (v := .tuple #[.agg #[.int .i64 0, .string ByteArray.empty, .int .i64 (i : Int)], .int .i64 0]) (by simp [results, Tryz.results34, go_sem, World.cell?_setCell_same, World.cell?_setCell_other]; rfl) rfl ⟨by first | rfl | (rw [hR2]; rfl), by
         repeat' first | exact Below.refl _ _ | assumption | refine Below.drew ?_ | refine Below.setCell ?_ ?_ _ | refine Below.alloc ?_ ?_ _ | (simp; omega) | simp⟩
      have dv : decide ((50000 : Int) < (V k : Int)) = false := by simp; omega
      cases hbk : begB (g (i + k)) with
      | true =>
        rw [hbk] at HLk
        rw [if_pos (.inr (.inr (.inr ⟨hds, hbk⟩)))] at hR
        have hR2 : rwd i R = (⟨0, ByteArray.empty, i⟩, 0) := by rw [hR]; exact rwd_none rfl
        clear hR hV6 hg h48
        go_wp2_with (first
         | (go_at_call 69; refine (HDk.out _).mono ?_; rintro e w1 ⟨rfl, rfl⟩)
         | (go_at_call 66; refine (HLk.out _).mono ?_; rintro e w1 ⟨rfl, rfl⟩))
        exact bodyPost_ret (v := .tuple #[.agg #[.int .i64 0, .string ByteArray.empty, .int .i64 (i : Int)], .int .i64 0]) (by simp [results, Tryz.results34, go_sem, World.cell?_setCell_same, World.cell?_setCell_other]; rfl) rfl ⟨by first | rfl | (rw [hR2]; rfl), by
         repeat' first | exact Below.refl _ _ | assumption | refine Below.drew ?_ | refine Below.setCell ?_ ?_ _ | refine Below.alloc ?_ ?_ _ | (simp; omega) | simp⟩
      | false =>
        rw [hbk] at HLk
        rw [if_neg (fun hx => hx.elim h48 (fun hx => hx.elim h5 (fun hx => hx.elim (by omega) (fun hx => by rw [hbk] at hx; exact absurd hx.2 (by simp)))))] at hR
        have hR2 : rwd i R = (⟨3, s.extract i (i + k), i⟩, k) := by rw [hR, rwd_some (by decide), eD]
        clear hR hV6 hg h48
        obtain ⟨L, hL⟩ : ∃ L, L = i + k := ⟨_, rfl⟩
        have eL : (i : Int) + (k : Int) = (L : Int) := by omega
        have hLs : (L : Int) ≤ (s.size : Int) := by omega
        have hLi : (i : Int) ≤ (L : Int) := by omega
        have hdsL : L < s.size := by omega
        have hgL := HG.out L hdsL
        clear hgk
        rw [← hL] at HLk HDk hR2
        clear e1 hds hL
        go_wp2_with (first
         | (go_at_call 69; refine (HDk.out _).mono ?_; rintro e w1 ⟨rfl, rfl⟩)
         | (go_at_call 66; refine (HLk.out _).mono ?_; rintro e w1 ⟨rfl, rfl⟩))
        go_region
        all_goals
         go_wp2_with fail
         exact bodyPost_ret (v := .tuple #[.agg #[.int .i64 3, .string (s.extract i L), .int .i64 (i : Int)], .int .i64 (k : Int)]) (by simp [results, Tryz.results34, go_sem, World.cell?_setCell_same, World.cell?_setCell_other]) rfl ⟨by first | rfl | (rw [hR2]; rfl), by
          repeat' first | exact Below.refl _ _ | assumption | refine Below.drew ?_ | refine Below.setCell ?_ ?_ _ | refine Below.alloc ?_ ?_ _ | (simp; omega) | simp⟩
    · have hse : i + k = s.size := by omega
      have esz : (i : Int) + (k : Int) = (s.size : Int) := by omega
      clear hfin
      by_cases h48 : g i = 48
      · rw [if_pos (.inl h48)] at hR
        have hR2 : rwd i R = (⟨0, ByteArray.empty, i⟩, 0) := by rw [hR]; exact rwd_none rfl
        clear hR hV6 hg
        go_wp2_with fail
        exact bodyPost_ret (v := .tuple #[.agg #[.int .i64 0, .string ByteArray.empty, .int .i64 (i : Int)], .int .i64 0]) (by simp [results, Tryz.results34, go_sem, World.cell?_setCell_same, World.cell?_setCell_other]; rfl) rfl ⟨by first | rfl | (rw [hR2]; rfl), by
         repeat' first | exact Below.refl _ _ | assumption | refine Below.drew ?_ | refine Below.setCell ?_ ?_ _ | refine Below.alloc ?_ ?_ _ | (simp; omega) | simp⟩
      have d48 : (g i == 48) = false := by simpa using h48
      by_cases h5 : 5 < k
      · rw [if_pos (.inr (.inl h5))] at hR
        have hR2 : rwd i R = (⟨0, ByteArray.empty, i⟩, 0) := by rw [hR]; exact rwd_none rfl
        have d5 : decide ((5 : Int) < (k : Int)) = true := by simp; omega
        clear hR hV6 hg h48
        go_wp2_with fail
        exact bodyPost_ret (v := .tuple #[.agg #[.int .i64 0, .string ByteArray.empty, .int .i64 (i : Int)], .int .i64 0]) (by simp [results, Tryz.results34, go_sem, World.cell?_setCell_same, World.cell?_setCell_other]; rfl) rfl ⟨by first | rfl | (rw [hR2]; rfl), by
         repeat' first | exact Below.refl _ _ | assumption | refine Below.drew ?_ | refine Below.setCell ?_ ?_ _ | refine Below.alloc ?_ ?_ _ | (simp; omega) | simp⟩
      have d5 : decide ((5 : Int) < (k : Int)) = false := by simp; omega
      have hV6 := hV6 h5
      rw [show min k 6 = k by omega] at *
      by_cases hv : 50000 < V k
      · rw [if_pos (.inr (.inr (.inl (by omega))))] at hR
        have hR2 : rwd i R = (⟨0, ByteArray.empty, i⟩, 0) := by rw [hR]; exact rwd_none rfl
        have dv : decide ((50000 : Int) < (V k : Int)) = true := by simp; omega
        clear hR hV6 hg h48
        go_wp2_with fail
        exact bodyPost_ret (v := .tuple #[.agg #[.int .i64 0, .string ByteArray.empty, .int .i64 (i : Int)], .int .i64 0]) (by simp [results, Tryz.results34, go_sem, World.cell?_setCell_same, World.cell?_setCell_other]; rfl) rfl ⟨by first | rfl | (rw [hR2]; rfl), by
         repeat' first | exact Below.refl _ _ | assumption | refine Below.drew ?_ | refine Below.setCell ?_ ?_ _ | refine Below.alloc ?_ ?_ _ | (simp; omega) | simp⟩
      have dv : decide ((50000 : Int) < (V k : Int)) = false := by simp; omega
      rw [if_neg (fun hx => hx.elim h48 (fun hx => hx.elim h5 (fun hx => hx.elim (by omega) (fun hx => hds hx.1))))] at hR
      have hR2 : rwd i R = (⟨3, s.extract i s.size, i⟩, k) := by rw [hR, rwd_some (by decide), eD, hse]
      clear hR hV6 hg h48 e1
      go_wp2_with fail
      go_region
      all_goals
       go_wp2_with fail
       exact bodyPost_ret (v := .tuple #[.agg #[.int .i64 3, .string (s.extract i s.size), .int .i64 (i : Int)], .int .i64 (k : Int)]) (by simp [results, Tryz.results34, go_sem, World.cell?_setCell_same, World.cell?_setCell_other]) rfl ⟨by first | rfl | (rw [hR2]; rfl), by
        repeat' first | exact Below.refl _ _ | assumption | refine Below.drew ?_ | refine Below.setCell ?_ ?_ _ | refine Below.alloc ?_ ?_ _ | (simp; omega) | simp⟩

end Go.Proofs.YtnoppoifepbchaaGreatDoor
