/- The document's word: a key word that ends the text. -/
import Derived.Test.YtnoppoifepbchaaGreatDoorZA
import Derived.Test.YtnoppoifepbchaaGreatDoorZLex8
import Derived.Test.YtnoppoifepbchaaGreatDoorZLex11
import Derived.Test.YtnoppoifepbchaaGreatDoorZLex13
import Derived.Test.YtnoppoifepbchaaGreatDoorZLex14
import Derived.Test.YtnoppoifepbchaaGreatDoorZLex16
import Derived.Test.YtnoppoifepbchaaGreatDoorZLex15
import Derived.Test.YtnoppoifepbchaaGreatDoorZLex17
namespace Go.Proofs.YtnoppoifepbchaaGreatDoor
open Go.RowKit
set_option linter.unusedVariables false
set_option linter.unusedSimpArgs false
theorem key_cell2 (w W7 : World) (B j : Nat) (X : ByteArray) (hBn : w.heap.size + 2 ≤ B) (kc7 : W7.cell? ⟨B, j, none⟩ = some (.string X)) : (W7.setCell ⟨w.heap.size + 1, 0, none⟩ (.int .i64 5)).cell? ⟨B, j, none⟩ = some (.string X) := by
 have hne : (⟨w.heap.size + 1, 0, none⟩ : Addr) ≠ ⟨B, j, none⟩ := fun h => by
  have h2 := congrArg Addr.block h
  simp at h2
  omega
 simp [World.cell?_setCell_other, hne, kc7]

theorem key_at2 (t : ByteArray) : isKeyB t = true ↔ ∃ j, j < 7 ∧ t.data.toList = keyL.getD j [] := by
 unfold isKeyB
 rw [decide_eq_true_iff]
 constructor
 · intro h
   obtain ⟨j, hj, e⟩ := List.getElem_of_mem h
   exact ⟨j, hj, by rw [List.getD_eq_getElem?_getD, List.getElem?_eq_getElem hj]; exact e.symm⟩
 · rintro ⟨j, hj, e⟩
   rw [e, List.getD_eq_getElem?_getD, List.getElem?_eq_getElem (show j < keyL.length from hj)]
   exact List.getElem_mem _

set_option maxRecDepth 100000 in
set_option maxHeartbeats 40000000 in
theorem rword_key2 (s : ByteArray) (i : Nat) (w : World) (h : gAt s i = 37) (hi : i < s.size) (h1 : ¬ (i + 1 < s.size ∧ gAt s (i + 1) = 37)) (h2 : ¬ (i + 1 < s.size ∧ gAt s (i + 1) = 123)) (hlE : letF s.size (gAt s) (i + 1) = s.size) (hs : s.size ≤ 1000000) :
  Calls Tryz.prog 34 #[.string s, .int .i64 i] w fun r w' => WdTells r (if isKeyB (s.extract i (letF s.size (gAt s) (i + 1))) = true then (⟨5, s.extract i (letF s.size (gAt s) (i + 1)), i⟩, letF s.size (gAt s) (i + 1) - i) else (⟨0, ByteArray.empty, i⟩, 0)) ∧ Below w.heap.size w w' := by
 have hg := fun j h => gAt_get s j h
 have hg0 := gAt_get s i hi
 have HL := Lib.hid (fun W => rletter_any 37 W)
 rw [show begB 37 = false by decide] at HL
 have HD := Lib.hid (fun W => rdigit_any 37 W)
 rw [show digB 37 = false by decide] at HD
 have HB1 := Lib.hid (fun W => begins_two s i 37 37 W (by omega) hs)
 rw [decide_eq_false (fun hc => h1 ⟨hc.1, hc.2.2⟩)] at HB1
 have HB2 := Lib.hid (fun W => begins_two s i 37 123 W (by omega) hs)
 rw [decide_eq_false (fun hc => h2 ⟨hc.1, hc.2.2⟩)] at HB2
 have HKs := Lib.hid (fun W => rkeys_any W)
 have hE : Hid (∃ E, E = letF s.size (gAt s) (i + 1)) := Lib.hid ⟨_, rfl⟩
 obtain ⟨E, hE⟩ := hE.out
 have hEb := letF_bd s.size (gAt s) (i + 1) (by omega)
 rw [← hE] at hEb hlE ⊢
 have HE := Lib.hid hE
 have hKA := key_at2 (s.extract i E)
 rw [h] at hg0
 clear h h1 h2 hE
 generalize isKeyB (s.extract i E) = KB at *
 have HKA := Lib.hid hKA
 have HP : Hid (∃ P : Wd × Nat, P = if KB = true then (⟨5, s.extract i E, i⟩, E - i) else (⟨0, ByteArray.empty, i⟩, 0)) := Lib.hid ⟨_, rfl⟩
 obtain ⟨P, hP⟩ := HP.out
 rw [← hP]
 have HR := Lib.hid hP
 clear hP HP
 generalize gAt s = g at *
 have HG := Lib.hid hg
 clear hg hKA
 go_enter Tryz.func34, Tryz.ntmps34
 go_wp2_with (first
  | (go_at_call 66; refine (HL.out _).mono ?_; rintro e w1 ⟨rfl, rfl⟩)
  | (go_at_call 69; refine (HD.out _).mono ?_; rintro e w1 ⟨rfl, rfl⟩))
 refine (HB1.out _).mono ?_
 rintro e w1 ⟨rfl, rfl⟩
 go_wp2_with fail
 refine (HB2.out _).mono ?_
 rintro e w1 ⟨rfl, rfl⟩
 go_wp2_with fail
 go_loop [17] (fun x => ∃ k : Nat, 1 ≤ k ∧ i + k ≤ s.size ∧ x = .int .i64 k ∧ Hid (E = letF s.size g (i + k))) (fun x => s.size + 1 - (intOf x).toNat)
 case atStart => exact ⟨1, by omega, by omega, rfl, HE⟩
 case round =>
  obtain ⟨k, hk1, hk2, rfl, HK⟩ := hrel
  have e1 : ((i : Int) + (k : Int)).toNat = i + k := by omega
  by_cases hlt : i + k < s.size ∧ letB (g (i + k)) = true
  · have HK2 : Hid (E = letF s.size g (i + (k + 1))) := Lib.hid (by have e := HK.out; rw [letF, if_pos hlt] at e; exact e)
    obtain ⟨hl1, hl2⟩ := hlt
    have hgk := HG.out (i + k) hl1
    generalize g (i + k) = c at *
    have hc : (97 ≤ c ∧ c ≤ 122) ∨ (c < 97 ∧ 65 ≤ c ∧ c ≤ 90) := by unfold letB at hl2; simp at hl2; omega
    rcases hc with ⟨b1, b2⟩ | ⟨b1, b2, b3⟩
    all_goals
     go_wp2_with fail
     go_round
     case rel => exact ⟨k + 1, by omega, by omega, by go_num, HK2⟩
     case measure => simp [intOf]; omega
  · have hEk : E = i + k := by have e := HK.out; rw [letF, if_neg hlt] at e; exact e
    have eE : (i : Int) + (k : Int) = (E : Int) := by omega
    have ek : (k : Int) = ((E - i : Nat) : Int) := by omega
    have hEs' : E ≤ s.size := hEb.2
    have hEi : i ≤ E := by omega
    · have hEn : E = s.size := hlE
      clear hlt HK e1 HE hEk hlE
      subst hEn
      go_wp2_with fail
      refine (HKs.out _).mono ?_
      rintro e w1 ⟨⟨v, rfl, B, K, hBK, rfl, hK⟩, hb1⟩
      obtain ⟨hx0, hx1, hbw⟩ := two_blocks w i (hb1.mono (by simp))
      have HKc := Lib.hid hK
      clear hK
      go_wp2_with fail
      go_loopw [19] (fun x wr => ∃ j : Nat, j ≤ 7 ∧ x = .int .i64 j ∧ Hid (∀ j', j' < j → (s.extract i s.size).data.toList ≠ keyL.getD j' []) ∧ Below w1.heap.size w1 wr) (fun x _ => 8 - (intOf x).toNat)
      case atStart => exact ⟨0, by omega, rfl, Lib.hid (fun j' hj' => absurd hj' (Nat.not_lt_zero _)), Below.refl _ _⟩
      case round =>
       obtain ⟨j, hj, rfl, HJ, hb⟩ := hrel
       have hy0 := block_below hx0 hb (lt_of_block hx0)
       have hy1 := block_below hx1 hb (lt_of_block hx1)
       have hbr := hbw.trans (hb.mono hbw.size)
       by_cases hj7 : j < 7
       · obtain ⟨kc, hkl⟩ := HKc.out j hj7
         replace kc := (hb.cell (World.block_lt_of_cell? _ _ kc)).trans kc
         by_cases heq : (s.extract i s.size).data.toList = keyL.getD j []
         · have hKt : K j = s.extract i s.size := ByteArray.ext (Array.toList_inj.1 (hkl.trans heq.symm))
           have hKB : KB = true := HKA.out.2 ⟨j, hj7, heq⟩
           have hR : Hid (P = (⟨5, s.extract i s.size, i⟩, s.size - i)) := Lib.hid (HR.out.trans (if_pos hKB))
           rw [hKt] at kc
           clear hKB hKt heq hkl HJ HKA HR
           go_wp2_with fail
           go_quiet (fail)
           have hb7 : Below w1.heap.size w1 (wr.drewN nq) := ⟨hb.os, hb.tape, hb.output, hb.size, hb.block⟩
           have hz0 := block_below hx0 hb7 (lt_of_block hx0)
           have hz1 := block_below hx1 hb7 (lt_of_block hx1)
           have hbr7 := hbw.trans (hb7.mono hbw.size)
           have kc7 : (wr.drewN nq).cell? ⟨B, j, none⟩ = some (.string (s.extract i s.size)) := kc
           clear kc hb hy0 hy1 hbr hb7
           generalize wr.drewN nq = W7 at hz0 hz1 hbr7 kc7 ⊢
           have hBn : w.heap.size + 2 ≤ B := by simpa using hBK
           have kc8 := key_cell2 w W7 B j _ hBn kc7
           obtain ⟨c0, c1, c2, f0, f1, f2⟩ := wd_facts3 hz0
           obtain ⟨l0, l1, l2, g0, g1, g2⟩ := wd_facts3 hz1
           go_wp2_with fail
           go_region
           all_goals
            go_wp2_with fail
            exact bodyPost_ret (v := .tuple #[.agg #[.int .i64 5, .string (s.extract i s.size), .int .i64 (i : Int)], .int .i64 ((s.size - i : Nat) : Int)]) (by simp [results, Tryz.results34, go_sem, c0, c1, c2, l0, l1, l2, World.cell?_setCell_same, World.cell?_setCell_other]) rfl ⟨by rw [hR.out]; rfl, by
             repeat' first | exact Below.refl _ _ | assumption | refine Below.drew ?_ | refine Below.setCell ?_ ?_ _ | refine Below.alloc ?_ ?_ _ | (simp; omega) | simp⟩
         · have hd : ((s.extract i s.size).toList == (K j).toList) = false := by rw [toList_beq, hkl]; exact decide_eq_false heq
           have HJ2 : Hid (∀ j', j' < j + 1 → (s.extract i s.size).data.toList ≠ keyL.getD j' []) := Lib.hid (fun j' hj' => by
            by_cases h : j' = j
            · subst h; exact heq
            · exact HJ.out j' (by omega))
           clear heq hkl HJ
           go_wp2_with fail
           go_quiet (fail)
           have hb7 : Below w1.heap.size w1 (wr.drewN nq) := ⟨hb.os, hb.tape, hb.output, hb.size, hb.block⟩
           clear hb kc hy0 hy1 hbr hd
           generalize wr.drewN nq = W7 at hb7 ⊢
           go_wp2_with fail
           go_roundw
           case rel => exact ⟨j + 1, by omega, by go_num, HJ2, hb7⟩
           case measure => simp [intOf]; omega
       · have hKB : ¬ KB = true := fun hx => by
          obtain ⟨j', h1, h2⟩ := HKA.out.1 hx
          exact HJ.out j' (by omega) h2
         have hR : Hid (P = (⟨0, ByteArray.empty, i⟩, 0)) := Lib.hid (HR.out.trans (if_neg hKB))
         clear hKB HJ HKA HR
         obtain ⟨c0, c1, c2, f0, f1, f2⟩ := wd_facts3 hy0
         obtain ⟨l0, l1, l2, g0, g1, g2⟩ := wd_facts3 hy1
         go_wp2_with fail
         exact bodyPost_ret (v := .tuple #[.agg #[.int .i64 0, .string ByteArray.empty, .int .i64 (i : Int)], .int .i64 0]) (by simp [results, Tryz.results34, go_sem, c0, c1, c2, l0, l1, l2, World.cell?_setCell_same, World.cell?_setCell_other]; rfl) rfl ⟨by rw [hR.out]; rfl, by
          repeat' first | exact Below.refl _ _ | assumption | refine Below.drew ?_ | refine Below.setCell ?_ ?_ _ | refine Below.alloc ?_ ?_ _ | (simp; omega) | simp⟩


end Go.Proofs.YtnoppoifepbchaaGreatDoor
