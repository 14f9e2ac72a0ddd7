/- The document's word: names, signs, and none. -/
import Derived.Test.YtnoppoifepbchaaGreatDoorZA
import Derived.Test.YtnoppoifepbchaaGreatDoorZLex8
import Derived.Test.YtnoppoifepbchaaGreatDoorZLex11
namespace Go.Proofs.YtnoppoifepbchaaGreatDoor
section
open Go.RowKit
set_option linter.unusedVariables false
set_option linter.unusedSimpArgs false
set_option maxRecDepth 100000 in
set_option maxHeartbeats 1000000 in
theorem rword_none (s : ByteArray) (i : Nat) (w : World) (hi : i < s.size) (hb : begB (gAt s i) = false) (hd : digB (gAt s i) = false) (h1 : gAt s i ≠ 39) (h2 : gAt s i ≠ 60) (h3 : gAt s i ≠ 58) (h4 : gAt s i ≠ 59) (h5 : gAt s i ≠ 124) (h6 : gAt s i ≠ 123) (h7 : gAt s i ≠ 37) (hs : s.size ≤ 1000000) :
  Calls Tryz.prog 34 #[.string s, .int .i64 i] w fun r w' => WdTells r (⟨0, ByteArray.empty, i⟩, 0) ∧ Below w.heap.size w w' := by
 have hg := gAt_get s i hi
 have HL := Lib.hid (fun W => rletter_any (gAt s i) W)
 rw [hb] at HL
 have HD := Lib.hid (fun W => rdigit_any (gAt s i) W)
 rw [hd] at HD
 have HB1 := Lib.hid (fun W => begins_two s i 37 37 W (by omega) hs)
 rw [decide_eq_false (fun hc => h7 (by simpa using hc.2.1))] at HB1
 have HB2 := Lib.hid (fun W => begins_two s i 37 123 W (by omega) hs)
 rw [decide_eq_false (fun hc => h7 (by simpa using hc.2.1))] at HB2
 clear hb hd
 generalize gAt s i = c at *
 have d1 : (c == 39) = false := by simpa using h1
 have d2 : (c == 60) = false := by simpa using h2
 have d3 : (c == 58) = false := by simpa using h3
 have d4 : (c == 59) = false := by simpa using h4
 have d5 : (c == 124) = false := by simpa using h5
 have d6 : (c == 123) = false := by simpa using h6
 have d7 : (c == 37) = false := by simpa using h7
 clear h1 h2 h3 h4 h5 h6 h7
 go_enter Tryz.func34, Tryz.ntmps34
 go_wp2_with (first
  | (go_at_call 66; refine (HL.out _).mono ?_; rintro e w1 ⟨rfl, rfl⟩)
  | (go_at_call 69; refine (HD.out _).mono ?_; rintro e w1 ⟨rfl, rfl⟩))
 refine (HB1.out _).mono ?_
 rintro e w1 ⟨rfl, rfl⟩
 go_wp2_with fail
 refine (HB2.out _).mono ?_
 rintro e w1 ⟨rfl, rfl⟩
 go_wp2_with fail
 exact bodyPost_ret (v := .tuple #[.agg #[.int .i64 0, .string ByteArray.empty, .int .i64 (i : Int)], .int .i64 0]) (by simp [results, Tryz.results34, go_sem, World.cell?_setCell_same, World.cell?_setCell_other]; rfl) rfl ⟨rfl, by
  repeat' first | exact Below.refl _ _ | refine Below.drew ?_ | refine Below.setCell ?_ ?_ _ | refine Below.alloc ?_ ?_ _ | (simp; omega) | simp⟩

set_option maxRecDepth 100000 in
set_option maxHeartbeats 1000000 in
theorem rword_sign (s : ByteArray) (i : Nat) (w : World) (c : Int) (h : Sign s i c) (hc : c = 58 ∨ c = 59 ∨ c = 124) (hs : s.size ≤ 1000000) :
  Calls Tryz.prog 34 #[.string s, .int .i64 i] w fun r w' => WdTells r (⟨6, s.extract i (i + 1), i⟩, 1) ∧ Below w.heap.size w w' := by
 have hi := h.hi
 have hg := gAt_get s i hi
 have HL := Lib.hid (fun W => rletter_any c W)
 rw [h.beg] at HL
 have HD := Lib.hid (fun W => rdigit_any c W)
 rw [h.dig] at HD
 rw [h.eq] at hg
 rcases hc with rfl | rfl | rfl
 all_goals
  go_enter Tryz.func34, Tryz.ntmps34
  go_wp2_with (first
   | (go_at_call 66; refine (HL.out _).mono ?_; rintro e w1 ⟨rfl, rfl⟩)
   | (go_at_call 69; refine (HD.out _).mono ?_; rintro e w1 ⟨rfl, rfl⟩))
  go_region
  all_goals
   go_wp2_with fail
   exact bodyPost_ret (v := .tuple #[.agg #[.int .i64 6, .string (s.extract i (i + 1)), .int .i64 (i : Int)], .int .i64 1]) (by simp [results, Tryz.results34, go_sem, World.cell?_setCell_same, World.cell?_setCell_other]) rfl ⟨rfl, by
    repeat' first | exact Below.refl _ _ | refine Below.drew ?_ | refine Below.setCell ?_ ?_ _ | refine Below.alloc ?_ ?_ _ | (simp; omega) | simp⟩
end
section
open Go.RowKit
set_option linter.unusedVariables false
set_option linter.unusedSimpArgs false
theorem wd_facts3 {w1 : World} {B : Nat} {a b c : Value} (hbx : w1.heap[B]? = some (.cells #[a, b, c] 42 (0, 0))) :
  w1.cell? ⟨B, 0, none⟩ = some a ∧ w1.cell? ⟨B, 1, none⟩ = some b ∧ w1.cell? ⟨B, 2, none⟩ = some c ∧ w1.frozen? ⟨B, 0, none⟩ = false ∧ w1.frozen? ⟨B, 1, none⟩ = false ∧ w1.frozen? ⟨B, 2, none⟩ = false :=
 ⟨by rw [cell_of_row w1 _ 0 _ _ (0, 0) hbx]; rfl, by rw [cell_of_row w1 _ 1 _ _ (0, 0) hbx]; rfl, by rw [cell_of_row w1 _ 2 _ _ (0, 0) hbx]; rfl, free_of_block hbx, free_of_block hbx, free_of_block hbx⟩
/-- the two blocks of a word under way: the result's, and the local one -/
theorem two_blocks (w : World) (i : Int) {w1 : World} (hb : Below (w.heap.size + 2) ((w.alloc (.cells #[.int .i64 0, .string ⟨#[]⟩, .int .i64 0] 42)).alloc (.cells #[.int .i64 0, .string ⟨#[]⟩, .int .i64 i] 42)) w1) :
  w1.heap[w.heap.size]? = some (.cells #[.int .i64 0, .string ⟨#[]⟩, .int .i64 0] 42 (0, 0)) ∧ w1.heap[w.heap.size + 1]? = some (.cells #[.int .i64 0, .string ⟨#[]⟩, .int .i64 i] 42 (0, 0)) ∧ Below w.heap.size w w1 := by
 have hA := heap_alloc_new w (.cells #[.int .i64 0, .string ⟨#[]⟩, .int .i64 0] 42)
 have hA2 := block_below hA ((Below.refl _ (w.alloc (.cells #[.int .i64 0, .string ⟨#[]⟩, .int .i64 0] 42))).alloc (Nat.le_refl _) (.cells #[.int .i64 0, .string ⟨#[]⟩, .int .i64 i] 42)) (lt_of_block hA)
 have hB := heap_alloc_new (w.alloc (.cells #[.int .i64 0, .string ⟨#[]⟩, .int .i64 0] 42)) (.cells #[.int .i64 0, .string ⟨#[]⟩, .int .i64 i] 42)
 rw [show (w.alloc (.cells #[.int .i64 0, .string ⟨#[]⟩, .int .i64 0] 42)).heap.size = w.heap.size + 1 by simp] at hB
 refine ⟨block_below hA2 hb (by omega), block_below hB hb (by omega), ?_⟩
 exact (((Below.refl w.heap.size w).alloc (Nat.le_refl _) _).alloc (by simp) _).trans (hb.mono (by omega))

set_option maxRecDepth 100000 in
set_option maxHeartbeats 1000000 in
theorem rword_name (s : ByteArray) (i : Nat) (w : World) (hi : i < s.size) (hb : begB (gAt s i) = true) (hs : s.size ≤ 1000000) :
  Calls Tryz.prog 34 #[.string s, .int .i64 i] w fun r w' => WdTells r (rwd i (nameWd s i)) ∧ Below w.heap.size w w' := by
 have hg := gAt_get s i hi
 have hn := (name_begins hi).2 hb
 have hbd := nameF_bd s.size (gAt s) i (by omega)
 have HL := Lib.hid (fun W => rletter_any (gAt s i) W)
 rw [hb] at HL
 have HN := Lib.hid (fun W => nameAt_any s i W (by omega) hs)
 have hR : nameWd s i = if nameF s.size (gAt s) i - i ≤ 20 then (⟨1, s.extract i (nameF s.size (gAt s) i), i⟩, nameF s.size (gAt s) i) else (noWd, i) := rfl
 generalize nameWd s i = R at hR ⊢
 generalize nameF s.size (gAt s) i = n at *
 generalize gAt s i = c at *
 by_cases h : n - i ≤ 20
 · rw [if_pos h] at hR
   rw [hR, rwd_some (by decide)]
   have d1 : decide ((20 : Int) < ((n - i : Nat) : Int)) = false := by simp; omega
   have e1 : (i : Int) + ((n - i : Nat) : Int) = (n : Int) := by omega
   have hns : (n : Int) ≤ (s.size : Int) := by omega
   have hni : (i : Int) ≤ (n : Int) := by omega
   go_enter Tryz.func34, Tryz.ntmps34
   go_wp2_with (first
    | (go_at_call 66; refine (HL.out _).mono ?_; rintro e w1 ⟨rfl, rfl⟩)
    | (go_at_call 67; refine (HN.out _).mono ?_; rintro e w1 ⟨rfl, rfl⟩))
   go_region
   all_goals
    go_wp2_with fail
    exact bodyPost_ret (v := .tuple #[.agg #[.int .i64 1, .string (s.extract i n), .int .i64 (i : Int)], .int .i64 ((n - i : Nat) : Int)]) (by simp [results, Tryz.results34, go_sem, World.cell?_setCell_same, World.cell?_setCell_other]) rfl ⟨rfl, by
     repeat' first | exact Below.refl _ _ | assumption | refine Below.drew ?_ | refine Below.setCell ?_ ?_ _ | refine Below.alloc ?_ ?_ _ | (simp; omega) | simp⟩
 · rw [if_neg h] at hR
   rw [hR, rwd_none rfl]
   have d1 : decide ((20 : Int) < ((n - i : Nat) : Int)) = true := by simp; omega
   go_enter Tryz.func34, Tryz.ntmps34
   go_wp2_with (first
    | (go_at_call 66; refine (HL.out _).mono ?_; rintro e w1 ⟨rfl, rfl⟩)
    | (go_at_call 67; refine (HN.out _).mono ?_; rintro e w1 ⟨rfl, rfl⟩))
   exact bodyPost_ret (v := .tuple #[.agg #[.int .i64 0, .string ByteArray.empty, .int .i64 (i : Int)], .int .i64 0]) (by simp [results, Tryz.results34, go_sem, World.cell?_setCell_same, World.cell?_setCell_other]; rfl) rfl ⟨rfl, by
    repeat' first | exact Below.refl _ _ | assumption | refine Below.drew ?_ | refine Below.setCell ?_ ?_ _ | refine Below.alloc ?_ ?_ _ | (simp; omega) | simp⟩

set_option maxRecDepth 100000 in
set_option maxHeartbeats 1000000 in
theorem rword_code (s : ByteArray) (i : Nat) (w : World) (h : gAt s i = 123) (hi : i < s.size) (hs : s.size ≤ 1000000) :
  Calls Tryz.prog 34 #[.string s, .int .i64 i] w fun r w' => WdTells r (rwd i (if (i : Int) < endS s i then (⟨8, s.extract i (endS s i).toNat, i⟩, (endS s i).toNat) else (noWd, i))) ∧ Below w.heap.size w w' := by
 have hg := gAt_get s i hi
 have HL := Lib.hid (fun W => rletter_any 123 W)
 rw [show begB 123 = false by decide] at HL
 have HD := Lib.hid (fun W => rdigit_any 123 W)
 rw [show digB 123 = false by decide] at HD
 have HT := Lib.hid (fun W => rend_any s i W hs)
 have heb : endS s i = -1 ∨ ((i : Int) < endS s i ∧ endS s i ≤ s.size) := by
  unfold endS; split
  · have := endF_le s.size (gAt s) i 0 (by omega); simpa using this
  · left; rfl
 rw [h] at hg
 generalize endS s i = T at *
 by_cases hT : (i : Int) < T
 · rw [if_pos hT]
   obtain ⟨q, rfl⟩ := Int.eq_ofNat_of_zero_le (show 0 ≤ T by omega)
   have hq : q ≤ s.size := by omega
   have hq2 : i < q := by omega
   have e1 : (q : Int) - (i : Int) = ((q - i : Nat) : Int) := by omega
   rw [rwd_some (by decide)]
   clear heb
   go_enter Tryz.func34, Tryz.ntmps34
   go_wp2_with (first
    | (go_at_call 66; refine (HL.out _).mono ?_; rintro e w1 ⟨rfl, rfl⟩)
    | (go_at_call 69; refine (HD.out _).mono ?_; rintro e w1 ⟨rfl, rfl⟩))
   refine (HT.out _).mono ?_
   rintro e w1 ⟨rfl, hb1⟩
   obtain ⟨hx0, hx1, hbw⟩ := two_blocks w i (hb1.mono (by simp))
   obtain ⟨c0, c1, c2, f0, f1, f2⟩ := wd_facts3 hx0
   obtain ⟨l0, l1, l2, g0, g1, g2⟩ := wd_facts3 hx1
   go_wp2_with fail
   go_region
   all_goals
    go_wp2_with fail
    exact bodyPost_ret (v := .tuple #[.agg #[.int .i64 8, .string (s.extract i q), .int .i64 (i : Int)], .int .i64 ((q - i : Nat) : Int)]) (by simp [results, Tryz.results34, go_sem, c0, c1, c2, l0, l1, l2, World.cell?_setCell_same, World.cell?_setCell_other, e1]) rfl ⟨rfl, by
     repeat' first | exact Below.refl _ _ | assumption | refine Below.drew ?_ | refine Below.setCell ?_ ?_ _ | refine Below.alloc ?_ ?_ _ | (simp; omega) | simp⟩
 · rw [if_neg hT]
   obtain rfl : T = -1 := by omega
   rw [rwd_none rfl]
   clear heb
   go_enter Tryz.func34, Tryz.ntmps34
   go_wp2_with (first
    | (go_at_call 66; refine (HL.out _).mono ?_; rintro e w1 ⟨rfl, rfl⟩)
    | (go_at_call 69; refine (HD.out _).mono ?_; rintro e w1 ⟨rfl, rfl⟩))
   refine (HT.out _).mono ?_
   rintro e w1 ⟨rfl, hb1⟩
   obtain ⟨hx0, hx1, hbw⟩ := two_blocks w i (hb1.mono (by simp))
   obtain ⟨c0, c1, c2, f0, f1, f2⟩ := wd_facts3 hx0
   obtain ⟨l0, l1, l2, g0, g1, g2⟩ := wd_facts3 hx1
   go_wp2_with fail
   exact bodyPost_ret (v := .tuple #[.agg #[.int .i64 0, .string ByteArray.empty, .int .i64 (i : Int)], .int .i64 0]) (by simp [results, Tryz.results34, go_sem, c0, c1, c2, l0, l1, l2, World.cell?_setCell_same, World.cell?_setCell_other]; rfl) rfl ⟨rfl, by
    repeat' first | exact Below.refl _ _ | assumption | refine Below.drew ?_ | refine Below.setCell ?_ ?_ _ | refine Below.alloc ?_ ?_ _ | (simp; omega) | simp⟩

set_option maxRecDepth 100000 in
set_option maxHeartbeats 1000000 in
theorem rword_tag (s : ByteArray) (i : Nat) (w : World) (h : gAt s i = 60) (hi : i < s.size) (hs : s.size ≤ 1000000) :
  Calls Tryz.prog 34 #[.string s, .int .i64 i] w fun r w' => WdTells r (rwd i (if i < tagF s.size (gAt s) i then (⟨4, s.extract (i + 1) (tagF s.size (gAt s) i - 1), i⟩, tagF s.size (gAt s) i) else (noWd, i))) ∧ Below w.heap.size w w' := by
 have hg := fun j h => gAt_get s j h
 have hg0 := gAt_get s i hi
 have HL := Lib.hid (fun W => rletter_any 60 W)
 rw [show begB 60 = false by decide] at HL
 have HD := Lib.hid (fun W => rdigit_any 60 W)
 rw [show digB 60 = false by decide] at HD
 have HN := fun W => nameAt_any s (i + 1) W (by omega) hs
 push_cast at HN
 have HN := Lib.hid HN
 have hbd := nameF_bd s.size (gAt s) (i + 1) (by omega)
 have hT : tagF s.size (gAt s) i = if i + 1 < nameF s.size (gAt s) (i + 1) ∧ nameF s.size (gAt s) (i + 1) - (i + 1) ≤ 20 ∧ nameF s.size (gAt s) (i + 1) < s.size ∧ gAt s (nameF s.size (gAt s) (i + 1)) = 62 then nameF s.size (gAt s) (i + 1) + 1 else i := by
  unfold tagF
  by_cases hc : i + 1 < nameF s.size (gAt s) (i + 1) ∧ nameF s.size (gAt s) (i + 1) - (i + 1) ≤ 20 ∧ nameF s.size (gAt s) (i + 1) < s.size ∧ gAt s (nameF s.size (gAt s) (i + 1)) = 62
  · rw [if_pos hc, if_pos ⟨hi, h, hc⟩]
  · rw [if_neg hc, if_neg (fun hd => hc hd.2.2)]
 rw [h] at hg0
 clear h
 generalize tagF s.size (gAt s) i = T at *
 generalize nameF s.size (gAt s) (i + 1) = n at *
 generalize gAt s = g at *
 by_cases hc : i + 1 < n ∧ n - (i + 1) ≤ 20 ∧ n < s.size ∧ g n = 62
 · rw [if_pos hc] at hT
   subst hT
   obtain ⟨h1, h2, h3, h4⟩ := hc
   rw [if_pos (by omega), rwd_some (by decide)]
   have hgn := hg n h3
   rw [h4] at hgn
   have d1 : decide (((n - (i + 1) : Nat) : Int) < 1) = false := by simp; omega
   have d2 : decide ((20 : Int) < ((n - (i + 1) : Nat) : Int)) = false := by simp; omega
   have e1 : (i : Int) + 1 + ((n - (i + 1) : Nat) : Int) = (n : Int) := by omega
   have hns : (n : Int) ≤ (s.size : Int) := by omega
   have hni : (i : Int) + 1 ≤ (n : Int) := by omega
   have e2 : ((n - (i + 1) : Nat) : Int) + 2 = ((n + 1 - i : Nat) : Int) := by omega
   go_enter Tryz.func34, Tryz.ntmps34
   go_wp2_with (first
    | (go_at_call 66; refine (HL.out _).mono ?_; rintro e w1 ⟨rfl, rfl⟩)
    | (go_at_call 69; refine (HD.out _).mono ?_; rintro e w1 ⟨rfl, rfl⟩)
    | (go_at_call 67; refine (HN.out _).mono ?_; rintro e w1 ⟨rfl, rfl⟩))
   go_region
   all_goals
    go_wp2_with fail
    exact bodyPost_ret (v := .tuple #[.agg #[.int .i64 4, .string (s.extract (i + 1) n), .int .i64 (i : Int)], .int .i64 ((n + 1 - i : Nat) : Int)]) (by simp [results, Tryz.results34, go_sem, World.cell?_setCell_same, World.cell?_setCell_other, e2]) rfl ⟨rfl, by
     repeat' first | exact Below.refl _ _ | assumption | refine Below.drew ?_ | refine Below.setCell ?_ ?_ _ | refine Below.alloc ?_ ?_ _ | (simp; omega) | simp⟩
 · rw [if_neg hc] at hT
   rw [hT, if_neg (Nat.lt_irrefl _), rwd_none rfl]
   clear hT
   have hc' : n - (i + 1) < 1 ∨ (1 ≤ n - (i + 1) ∧ 20 < n - (i + 1)) ∨ (1 ≤ n - (i + 1) ∧ n - (i + 1) ≤ 20 ∧ n = s.size) ∨ (1 ≤ n - (i + 1) ∧ n - (i + 1) ≤ 20 ∧ n < s.size ∧ g n ≠ 62) := by
    by_cases a1 : n - (i + 1) < 1
    · exact .inl a1
    by_cases a2 : 20 < n - (i + 1)
    · exact .inr (.inl ⟨by omega, a2⟩)
    by_cases a3 : n = s.size
    · exact .inr (.inr (.inl ⟨by omega, by omega, a3⟩))
    · exact .inr (.inr (.inr ⟨by omega, by omega, by omega, fun hx => hc ⟨by omega, by omega, by omega, hx⟩⟩))
   clear hc
   rcases hc' with h1 | ⟨h1, h2⟩ | ⟨h1, h2, h3⟩ | ⟨h1, h2, h3, h4⟩
   · have d1 : decide (((n - (i + 1) : Nat) : Int) < 1) = true := by simp; omega
     clear hg
     go_enter Tryz.func34, Tryz.ntmps34
     go_wp2_with (first
      | (go_at_call 66; refine (HL.out _).mono ?_; rintro e w1 ⟨rfl, rfl⟩)
      | (go_at_call 69; refine (HD.out _).mono ?_; rintro e w1 ⟨rfl, rfl⟩)
      | (go_at_call 67; refine (HN.out _).mono ?_; rintro e w1 ⟨rfl, rfl⟩))
     exact bodyPost_ret (v := .tuple #[.agg #[.int .i64 0, .string ByteArray.empty, .int .i64 (i : Int)], .int .i64 0]) (by simp [results, Tryz.results34, go_sem, World.cell?_setCell_same, World.cell?_setCell_other]; rfl) rfl ⟨rfl, by
      repeat' first | exact Below.refl _ _ | assumption | refine Below.drew ?_ | refine Below.setCell ?_ ?_ _ | refine Below.alloc ?_ ?_ _ | (simp; omega) | simp⟩
   · have d1 : decide (((n - (i + 1) : Nat) : Int) < 1) = false := by simp; omega
     have d2 : decide ((20 : Int) < ((n - (i + 1) : Nat) : Int)) = true := by simp; omega
     clear hg
     go_enter Tryz.func34, Tryz.ntmps34
     go_wp2_with (first
      | (go_at_call 66; refine (HL.out _).mono ?_; rintro e w1 ⟨rfl, rfl⟩)
      | (go_at_call 69; refine (HD.out _).mono ?_; rintro e w1 ⟨rfl, rfl⟩)
      | (go_at_call 67; refine (HN.out _).mono ?_; rintro e w1 ⟨rfl, rfl⟩))
     exact bodyPost_ret (v := .tuple #[.agg #[.int .i64 0, .string ByteArray.empty, .int .i64 (i : Int)], .int .i64 0]) (by simp [results, Tryz.results34, go_sem, World.cell?_setCell_same, World.cell?_setCell_other]; rfl) rfl ⟨rfl, by
      repeat' first | exact Below.refl _ _ | assumption | refine Below.drew ?_ | refine Below.setCell ?_ ?_ _ | refine Below.alloc ?_ ?_ _ | (simp; omega) | simp⟩
   · have d1 : decide (((n - (i + 1) : Nat) : Int) < 1) = false := by simp; omega
     have d2 : decide ((20 : Int) < ((n - (i + 1) : Nat) : Int)) = false := by simp; omega
     have e1 : (i : Int) + 1 + ((n - (i + 1) : Nat) : Int) = (s.size : Int) := by omega
     clear hg
     go_enter Tryz.func34, Tryz.ntmps34
     go_wp2_with (first
      | (go_at_call 66; refine (HL.out _).mono ?_; rintro e w1 ⟨rfl, rfl⟩)
      | (go_at_call 69; refine (HD.out _).mono ?_; rintro e w1 ⟨rfl, rfl⟩)
      | (go_at_call 67; refine (HN.out _).mono ?_; rintro e w1 ⟨rfl, rfl⟩))
     exact bodyPost_ret (v := .tuple #[.agg #[.int .i64 0, .string ByteArray.empty, .int .i64 (i : Int)], .int .i64 0]) (by simp [results, Tryz.results34, go_sem, World.cell?_setCell_same, World.cell?_setCell_other]; rfl) rfl ⟨rfl, by
      repeat' first | exact Below.refl _ _ | assumption | refine Below.drew ?_ | refine Below.setCell ?_ ?_ _ | refine Below.alloc ?_ ?_ _ | (simp; omega) | simp⟩
   · have d1 : decide (((n - (i + 1) : Nat) : Int) < 1) = false := by simp; omega
     have d2 : decide ((20 : Int) < ((n - (i + 1) : Nat) : Int)) = false := by simp; omega
     have e1 : (i : Int) + 1 + ((n - (i + 1) : Nat) : Int) = (n : Int) := by omega
     have hgn := hg n h3
     have d4 : (g n != 62) = true := by simpa using h4
     have hns : (n : Int) < (s.size : Int) := by omega
     clear hg
     go_enter Tryz.func34, Tryz.ntmps34
     go_wp2_with (first
      | (go_at_call 66; refine (HL.out _).mono ?_; rintro e w1 ⟨rfl, rfl⟩)
      | (go_at_call 69; refine (HD.out _).mono ?_; rintro e w1 ⟨rfl, rfl⟩)
      | (go_at_call 67; refine (HN.out _).mono ?_; rintro e w1 ⟨rfl, rfl⟩))
     exact bodyPost_ret (v := .tuple #[.agg #[.int .i64 0, .string ByteArray.empty, .int .i64 (i : Int)], .int .i64 0]) (by simp [results, Tryz.results34, go_sem, World.cell?_setCell_same, World.cell?_setCell_other]; rfl) rfl ⟨rfl, by
      repeat' first | exact Below.refl _ _ | assumption | refine Below.drew ?_ | refine Below.setCell ?_ ?_ _ | refine Below.alloc ?_ ?_ _ | (simp; omega) | simp⟩
end
end Go.Proofs.YtnoppoifepbchaaGreatDoor
