/- Words: any word. -/
import Derived.Test.YtnoppoifepbchaaDoorWd
import Derived.Test.YtnoppoifepbchaaDoorLLex3
import Derived.Test.YtnoppoifepbchaaDoorLAtoi
namespace Go.Proofs.YtnoppoifepbchaaDoor
section
section
open Go.RowKit
set_option linter.unusedVariables false
def wordWd (s : ByteArray) (i : Nat) : Wd × Nat :=
 if i < nameF s.size (gAt s) i then nameWd s i
 else if digB (gAt s i) = true then digWd s i
 else if gAt s i = 39 then (if (takeS s i).2.2 = true then (⟨2, bytesOf [(takeS s i).1], i⟩, (takeS s i).2.1.toNat) else (noWd, i))
 else if gAt s i = 60 then (if i < tagF s.size (gAt s) i then (⟨4, s.extract (i + 1) (tagF s.size (gAt s) i - 1), i⟩, tagF s.size (gAt s) i) else (noWd, i))
 else if gAt s i = 58 ∨ gAt s i = 59 ∨ gAt s i = 124 then (⟨6, s.extract i (i + 1), i⟩, i + 1)
 else if gAt s i = 123 then (if (i : Int) < endS s i then (⟨8, s.extract i (endS s i).toNat, i⟩, (endS s i).toNat) else (noWd, i))
 else if gAt s i = 37 then pctWd s i
 else (noWd, i)

set_option maxRecDepth 100000 in
set_option maxHeartbeats 1000000 in
theorem word_name (s : ByteArray) (i : Nat) (w : World) (hi : i < s.size) (hn : i < nameF s.size (gAt s) i) (hs : s.size ≤ 1000000) :
  Calls Tryd.prog 55 #[.string s, .int .i64 i] w fun r w' => WdTells r (nameWd s i) ∧ Below w.heap.size w w' := by
 have hg := fun j h => gAt_get s j h
 have HN := Lib.hid (fun W => name_at s i W (by omega) hs)
 have HX := Lib.hid (fun W => lname_any s i W hi hn hs)
 generalize nameWd s i = R at *
 generalize nameF s.size (gAt s) i = n at *
 obtain ⟨⟨k, t, p⟩, z⟩ := R
 unfold Wd.agg at HX
 simp only at HX
 go_enter Tryd.func55, Tryd.ntmps55
 go_wp2_with (first | (go_at_call 83; refine (HN.out _).mono ?_; rintro e w1 ⟨rfl, rfl⟩))
 refine (HX.out _).mono ?_
 rintro e w1 ⟨rfl, hb1⟩
 have hbx := block_below (heap_alloc_new w _) hb1 (by simp)
 have hb2 := ((Below.refl w.heap.size w).alloc (Nat.le_refl _) _).trans (hb1.mono (by simp))
 obtain ⟨c0, c1, c2, f0, f1, f2⟩ := wd_facts hbx
 go_wp2_with fail
 exact bodyPost_ret (v := .tuple #[.agg #[.int .i64 k, .string t, .int .i64 p], .int .i64 (z : Int)]) (by simp [results, Tryd.results55, go_sem, c0, c1, c2, World.cell?_setCell_same, World.cell?_setCell_other]) rfl ⟨rfl, wd_below hb2 (Nat.le_refl _) _ _ _⟩

theorem name_not {s : ByteArray} {i : Nat} (hi : i < s.size) (h : begB (gAt s i) = false) : nameF s.size (gAt s) i = i := by
 unfold nameF; rw [if_neg (by simp [h])]

set_option maxRecDepth 100000 in
set_option maxHeartbeats 1000000 in
theorem word_dig (s : ByteArray) (i : Nat) (w : World) (hi : i < s.size) (hd : digB (gAt s i) = true) (hs : s.size ≤ 1000000) (hE : LexEnv w) :
  Calls Tryd.prog 55 #[.string s, .int .i64 i] w fun r w' => WdTells r (digWd s i) ∧ Below w.heap.size w w' := by
 have hg := fun j h => gAt_get s j h
 have HN := Lib.hid (fun W => name_at s i W (by omega) hs)
 have hnb : begB (gAt s i) = false := by
  have := digB_flat hd
  unfold begB; simp; omega
 rw [name_not hi hnb] at HN
 have HX := Lib.hid (fun W hW => ldigits_any s i W hi hd hs hW)
 have HD := Lib.hid (fun W => digit_any (gAt s i) W)
 rw [hd] at HD
 have hEx : LexEnv (w.alloc (.cells #[.int .i64 0, .string ⟨#[]⟩, .int .i64 0] 76)) := hE.below ((Below.refl _ _).alloc (Nat.le_refl _) _)
 generalize digWd s i = R at *
 obtain ⟨⟨k, t, p⟩, z⟩ := R
 unfold WdTells Wd.agg at HX
 simp only at HX
 clear hd hnb
 generalize gAt s = g at *
 go_enter Tryd.func55, Tryd.ntmps55
 go_wp2_with (first
  | (go_at_call 83; refine (HN.out _).mono ?_; rintro e w1 ⟨rfl, rfl⟩)
  | (go_at_call 85; refine (HD.out _).mono ?_; rintro e w1 ⟨rfl, rfl⟩))
 refine (HX.out _ hEx).mono ?_
 rintro e w1 ⟨rfl, hb1⟩
 have hbx := block_below (heap_alloc_new w _) hb1 (by simp)
 have hb2 := ((Below.refl w.heap.size w).alloc (Nat.le_refl _) _).trans (hb1.mono (by simp))
 obtain ⟨c0, c1, c2, f0, f1, f2⟩ := wd_facts hbx
 go_wp2_with fail
 exact bodyPost_ret (v := .tuple #[.agg #[.int .i64 k, .string t, .int .i64 p], .int .i64 (z : Int)]) (by simp [results, Tryd.results55, go_sem, c0, c1, c2, World.cell?_setCell_same, World.cell?_setCell_other]) rfl ⟨rfl, wd_below hb2 (Nat.le_refl _) _ _ _⟩
end
section
open Go.RowKit
set_option linter.unusedVariables false
/-- neither a name nor a number begins there -/
structure Sign (s : ByteArray) (i : Nat) (c : Int) : Prop where
 hi : i < s.size
 eq : gAt s i = c
 beg : begB c = false
 dig : digB c = false

set_option maxRecDepth 100000 in
set_option maxHeartbeats 1000000 in
theorem word_sign (s : ByteArray) (i : Nat) (w : World) (c : Int) (h : Sign s i c) (hc : c = 58 ∨ c = 59 ∨ c = 124) (hs : s.size ≤ 1000000) :
  Calls Tryd.prog 55 #[.string s, .int .i64 i] w fun r w' => WdTells r (⟨6, s.extract i (i + 1), i⟩, i + 1) ∧ Below w.heap.size w w' := by
 have hi := h.hi
 have hg := gAt_get s i hi
 have HN := Lib.hid (fun W => name_at s i W (by omega) hs)
 rw [name_not hi (by rw [h.eq]; exact h.beg)] at HN
 have HX := Lib.hid (fun W => whole_any 6 s i (i + 1) W (by omega) (by omega) hs)
 have HD := Lib.hid (fun W => digit_any c W)
 rw [h.dig] at HD
 rw [h.eq] at hg
 have e2 : ((i + 1 : Nat) : Int) = (i : Int) + 1 := by omega
 rw [e2] at HX
 rcases hc with rfl | rfl | rfl
 all_goals
  go_enter Tryd.func55, Tryd.ntmps55
  go_wp2_with (first
   | (go_at_call 83; refine (HN.out _).mono ?_; rintro e w1 ⟨rfl, rfl⟩)
   | (go_at_call 85; refine (HD.out _).mono ?_; rintro e w1 ⟨rfl, rfl⟩))
  refine (HX.out _).mono ?_
  rintro e w1 ⟨rfl, hb1⟩
  have hbx := block_below (heap_alloc_new w _) hb1 (by simp)
  have hb2 := ((Below.refl w.heap.size w).alloc (Nat.le_refl _) _).trans (hb1.mono (by simp))
  obtain ⟨c0, c1, c2, f0, f1, f2⟩ := wd_facts hbx
  go_wp2_with fail
  exact bodyPost_ret (v := .tuple #[.agg #[.int .i64 6, .string (s.extract i (i + 1)), .int .i64 (i : Int)], .int .i64 ((i : Int) + 1)]) (by simp [results, Tryd.results55, go_sem, c0, c1, c2, World.cell?_setCell_same, World.cell?_setCell_other]) rfl ⟨wdTells_mk rfl e2, wd_below hb2 (Nat.le_refl _) _ _ _⟩

set_option maxRecDepth 100000 in
set_option maxHeartbeats 1000000 in
theorem word_pct (s : ByteArray) (i : Nat) (w : World) (h : gAt s i = 37) (hi : i < s.size) (hm : MaxAt w) (hs : s.size ≤ 1000000) :
  Calls Tryd.prog 55 #[.string s, .int .i64 i] w fun r w' => WdTells r (pctWd s i) ∧ Below w.heap.size w w' := by
 have hg := gAt_get s i hi
 have HN := Lib.hid (fun W => name_at s i W (by omega) hs)
 rw [name_not hi (by rw [h]; decide)] at HN
 have HX := Lib.hid (fun W hW => percent_any s i W hW hi hs)
 have HD := Lib.hid (fun W => digit_any 37 W)
 rw [show digB 37 = false by decide] at HD
 rw [h] at hg
 have hEx : MaxAt (w.alloc (.cells #[.int .i64 0, .string ⟨#[]⟩, .int .i64 0] 76)) := hm.below ((Below.refl _ _).alloc (Nat.le_refl _) _)
 generalize pctWd s i = R at *
 obtain ⟨⟨k, t, p⟩, z⟩ := R
 unfold WdTells Wd.agg at HX
 simp only at HX
 go_enter Tryd.func55, Tryd.ntmps55
 go_wp2_with (first
  | (go_at_call 83; refine (HN.out _).mono ?_; rintro e w1 ⟨rfl, rfl⟩)
  | (go_at_call 85; refine (HD.out _).mono ?_; rintro e w1 ⟨rfl, rfl⟩))
 refine (HX.out _ hEx).mono ?_
 rintro e w1 ⟨rfl, hb1⟩
 have hbx := block_below (heap_alloc_new w _) hb1 (by simp)
 have hb2 := ((Below.refl w.heap.size w).alloc (Nat.le_refl _) _).trans (hb1.mono (by simp))
 obtain ⟨c0, c1, c2, f0, f1, f2⟩ := wd_facts hbx
 go_wp2_with fail
 exact bodyPost_ret (v := .tuple #[.agg #[.int .i64 k, .string t, .int .i64 p], .int .i64 (z : Int)]) (by simp [results, Tryd.results55, go_sem, c0, c1, c2, World.cell?_setCell_same, World.cell?_setCell_other]) rfl ⟨rfl, wd_below hb2 (Nat.le_refl _) _ _ _⟩

set_option maxRecDepth 100000 in
set_option maxHeartbeats 1000000 in
theorem word_tag (s : ByteArray) (i : Nat) (w : World) (h : gAt s i = 60) (hi : i < s.size) (hs : s.size ≤ 1000000) :
  Calls Tryd.prog 55 #[.string s, .int .i64 i] w fun r w' => WdTells r (if i < tagF s.size (gAt s) i then (⟨4, s.extract (i + 1) (tagF s.size (gAt s) i - 1), i⟩, tagF s.size (gAt s) i) else (noWd, i)) ∧ Below w.heap.size w w' := by
 have hg := gAt_get s i hi
 have HN := Lib.hid (fun W => name_at s i W (by omega) hs)
 rw [name_not hi (by rw [h]; decide)] at HN
 have HT := Lib.hid (fun W => tag_any s i W (by omega) hs)
 have htb := tagF_bd s.size (gAt s) i (by omega)
 have ht3 := tagF_two s.size (gAt s) i
 have HD := Lib.hid (fun W => digit_any 60 W)
 rw [show digB 60 = false by decide] at HD
 rw [h] at hg
 generalize tagF s.size (gAt s) i = T at *
 by_cases hT : i < T
 · rw [if_pos hT]
   have e3 : (T : Int) - 1 = ((T - 1 : Nat) : Int) := by omega
   have hT3 : i + 3 ≤ T := by omega
   go_enter Tryd.func55, Tryd.ntmps55
   go_wp2_with (first
    | (go_at_call 83; refine (HN.out _).mono ?_; rintro e w1 ⟨rfl, rfl⟩)
    | (go_at_call 85; refine (HD.out _).mono ?_; rintro e w1 ⟨rfl, rfl⟩)
    | (go_at_call 88; refine (HT.out _).mono ?_; rintro e w1 ⟨rfl, rfl⟩))
   exact bodyPost_ret (v := .tuple #[.agg #[.int .i64 4, .string (s.extract (i + 1) (T - 1)), .int .i64 (i : Int)], .int .i64 (T : Int)]) (by simp [results, Tryd.results55, go_sem]) rfl ⟨wdTells_mk rfl rfl, (Below.refl _ _).alloc (Nat.le_refl _) _⟩
 · rw [if_neg hT]
   obtain rfl : T = i := by omega
   go_enter Tryd.func55, Tryd.ntmps55
   go_wp2_with (first
    | (go_at_call 83; refine (HN.out _).mono ?_; rintro e w1 ⟨rfl, rfl⟩)
    | (go_at_call 85; refine (HD.out _).mono ?_; rintro e w1 ⟨rfl, rfl⟩)
    | (go_at_call 88; refine (HT.out _).mono ?_; rintro e w1 ⟨rfl, rfl⟩))
   exact bodyPost_ret (v := .tuple #[.agg #[.int .i64 0, .string ByteArray.empty, .int .i64 0], .int .i64 (T : Int)]) (by simp [results, Tryd.results55, go_sem]; rfl) rfl ⟨rfl, (Below.refl _ _).alloc (Nat.le_refl _) _⟩
end
section
open Go.RowKit
set_option linter.unusedVariables false
theorem endF_le (n : Nat) (g : Nat → Int) (i : Nat) (d : Int) (hi : i ≤ n) : endF n g i d = -1 ∨ ((i : Int) < endF n g i d ∧ endF n g i d ≤ n) := by
 fun_induction endF n g i d with
 | case1 i d h h2 => left; rfl
 | case2 i d h h2 h3 ih =>
   have := overF_bd n g i h
   have := ih (by omega)
   omega
 | case3 i d h h2 h3 h4 => right; omega
 | case4 i d h h2 h3 h4 ih => have := ih (by omega); omega
 | case5 i d h => left; rfl

set_option maxRecDepth 100000 in
set_option maxHeartbeats 1000000 in
theorem word_code (s : ByteArray) (i : Nat) (w : World) (h : gAt s i = 123) (hi : i < s.size) (hm : MaxAt w) (hs : s.size ≤ 1000000) :
  Calls Tryd.prog 55 #[.string s, .int .i64 i] w fun r w' => WdTells r (if (i : Int) < endS s i then (⟨8, s.extract i (endS s i).toNat, i⟩, (endS s i).toNat) else (noWd, i)) ∧ Below w.heap.size w w' := by
 have hg := gAt_get s i hi
 have HN := Lib.hid (fun W => name_at s i W (by omega) hs)
 rw [name_not hi (by rw [h]; decide)] at HN
 have HT := Lib.hid (fun W (hW : MaxAt W) => end_any s i W hW hs)
 have heb : endS s i = -1 ∨ ((i : Int) < endS s i ∧ endS s i ≤ s.size) := by
  unfold endS; split
  · have := endF_le s.size (gAt s) i 0 (by omega); simpa using this
  · left; rfl
 have HD := Lib.hid (fun W => digit_any 123 W)
 rw [show digB 123 = false by decide] at HD
 rw [h] at hg
 have hEx : MaxAt (w.alloc (.cells #[.int .i64 0, .string ⟨#[]⟩, .int .i64 0] 76)) := hm.below ((Below.refl _ _).alloc (Nat.le_refl _) _)
 generalize endS s i = T at *
 by_cases hT : (i : Int) < T
 · rw [if_pos hT]
   obtain ⟨q, rfl⟩ := Int.eq_ofNat_of_zero_le (show 0 ≤ T by omega)
   have hq : q ≤ s.size := by omega
   have hq2 : i < q := by omega
   have HX := Lib.hid (fun W => whole_any 8 s i q W (by omega) hq hs)
   clear heb
   go_enter Tryd.func55, Tryd.ntmps55
   go_wp2_with (first
    | (go_at_call 83; refine (HN.out _).mono ?_; rintro e w1 ⟨rfl, rfl⟩)
    | (go_at_call 85; refine (HD.out _).mono ?_; rintro e w1 ⟨rfl, rfl⟩))
   refine (HT.out _ hEx).mono ?_
   rintro e w1 ⟨rfl, hb1⟩
   have hbx := block_below (heap_alloc_new w _) hb1 (by simp)
   have hb2 := ((Below.refl w.heap.size w).alloc (Nat.le_refl _) _).trans (hb1.mono (by simp))
   go_wp2_with fail
   refine (HX.out _).mono ?_
   rintro e w2 ⟨rfl, hb3⟩
   have hbx2 := block_below hbx hb3 (lt_of_block hbx)
   have hb4 := hb2.trans (hb3.mono hb2.size)
   obtain ⟨c0, c1, c2, f0, f1, f2⟩ := wd_facts hbx2
   go_wp2_with fail
   exact bodyPost_ret (v := .tuple #[.agg #[.int .i64 8, .string (s.extract i q), .int .i64 (i : Int)], .int .i64 (q : Int)]) (by simp [results, Tryd.results55, go_sem, c0, c1, c2, World.cell?_setCell_same, World.cell?_setCell_other]) rfl ⟨wdTells_mk rfl rfl, wd_below hb4 (Nat.le_refl _) _ _ _⟩
 · rw [if_neg hT]
   obtain rfl : T = -1 := by omega
   clear heb
   go_enter Tryd.func55, Tryd.ntmps55
   go_wp2_with (first
    | (go_at_call 83; refine (HN.out _).mono ?_; rintro e w1 ⟨rfl, rfl⟩)
    | (go_at_call 85; refine (HD.out _).mono ?_; rintro e w1 ⟨rfl, rfl⟩))
   refine (HT.out _ hEx).mono ?_
   rintro e w1 ⟨rfl, hb1⟩
   have hbx := block_below (heap_alloc_new w _) hb1 (by simp)
   have hb2 := ((Below.refl w.heap.size w).alloc (Nat.le_refl _) _).trans (hb1.mono (by simp))
   obtain ⟨c0, c1, c2, f0, f1, f2⟩ := wd_facts hbx
   go_wp2_with fail
   exact bodyPost_ret (v := .tuple #[.agg #[.int .i64 0, .string ByteArray.empty, .int .i64 0], .int .i64 (i : Int)]) (by simp [results, Tryd.results55, go_sem, c0, c1, c2, World.cell?_setCell_same, World.cell?_setCell_other]; rfl) rfl ⟨rfl, wd_below hb2 (Nat.le_refl _) _ _ _⟩

set_option maxRecDepth 100000 in
set_option maxHeartbeats 1000000 in
theorem word_none (s : ByteArray) (i : Nat) (w : World) (hi : i < s.size) (hb : begB (gAt s i) = false) (hd : digB (gAt s i) = false) (h1 : gAt s i ≠ 39) (h2 : gAt s i ≠ 60) (h3 : gAt s i ≠ 58) (h4 : gAt s i ≠ 59) (h5 : gAt s i ≠ 124) (h6 : gAt s i ≠ 123) (h7 : gAt s i ≠ 37) (hs : s.size ≤ 1000000) :
  Calls Tryd.prog 55 #[.string s, .int .i64 i] w fun r w' => WdTells r (noWd, i) ∧ Below w.heap.size w w' := by
 have hg := gAt_get s i hi
 have HN := Lib.hid (fun W => name_at s i W (by omega) hs)
 rw [name_not hi hb] at HN
 have HD := Lib.hid (fun W => digit_any (gAt s i) W)
 rw [hd] at HD
 clear hb hd
 generalize gAt s i = c at *
 go_enter Tryd.func55, Tryd.ntmps55
 go_wp2_with (first
  | (go_at_call 83; refine (HN.out _).mono ?_; rintro e w1 ⟨rfl, rfl⟩)
  | (go_at_call 85; refine (HD.out _).mono ?_; rintro e w1 ⟨rfl, rfl⟩))
 exact bodyPost_ret (v := .tuple #[.agg #[.int .i64 0, .string ByteArray.empty, .int .i64 0], .int .i64 (i : Int)]) (by simp [results, Tryd.results55, go_sem]; rfl) rfl ⟨rfl, (Below.refl _ _).alloc (Nat.le_refl _) _⟩
end
section
open Go.RowKit
set_option linter.unusedVariables false
theorem takeS_end (s : ByteArray) (i : Nat) (h : (takeS s i).2.2 = true) : (i : Int) < (takeS s i).2.1 ∧ (takeS s i).2.1 ≤ s.size := by
 unfold takeS at h ⊢
 by_cases hi : 0 ≤ (i : Int) ∧ (i : Int) < s.size
 · rw [if_pos hi] at h ⊢
   unfold takeF at h ⊢
   split
   · rename_i hc; simp only; omega
   · split
     · rename_i hc; simp only; omega
     · rename_i h1 h2; rw [if_neg h1, if_neg h2] at h; cases h
 · rw [if_neg hi] at h; cases h

set_option maxRecDepth 100000 in
set_option maxHeartbeats 1000000 in
theorem word_lit (s : ByteArray) (i : Nat) (w : World) (h : gAt s i = 39) (hi : i < s.size) (hs : s.size ≤ 1000000) :
  Calls Tryd.prog 55 #[.string s, .int .i64 i] w fun r w' => WdTells r (if (takeS s i).2.2 = true then (⟨2, bytesOf [(takeS s i).1], i⟩, (takeS s i).2.1.toNat) else (noWd, i)) ∧ Below w.heap.size w w' := by
 have hc1 : ∀ (x : Int) (w : World), (convert 63 9 (.slice (some ⟨w.heap.size,0,none⟩) 1 1)).run Tryd.prog (w.alloc (.cells #[.int .u8 x] 5)) = .ok (.string (bytesOf [x])) (w.alloc (.cells #[.int .u8 x] 5)) :=
  fun x w => run_conv_new w _ _ _ [x] 1 Tryd.underlying63 Tryd.underlying5 Tryd.underlying9
 have hc2 : ∀ (x : Int), (convert 63 9 (.slice (some ⟨w.heap.size + 1,0,none⟩) 1 1)).run Tryd.prog ((w.alloc (.cells #[.int .i64 0, .string ⟨#[]⟩, .int .i64 0] 76)).alloc (.cells #[.int .u8 x] 5)) = .ok (.string (bytesOf [x])) ((w.alloc (.cells #[.int .i64 0, .string ⟨#[]⟩, .int .i64 0] 76)).alloc (.cells #[.int .u8 x] 5)) := fun x => by
  have h := hc1 x (w.alloc (.cells #[.int .i64 0, .string ⟨#[]⟩, .int .i64 0] 76))
  rw [show (w.alloc (.cells #[.int .i64 0, .string ⟨#[]⟩, .int .i64 0] 76)).heap.size = w.heap.size + 1 by simp] at h
  exact h
 clear hc1
 have hg := gAt_get s i hi
 have HN := Lib.hid (fun W => name_at s i W (by omega) hs)
 rw [name_not hi (by rw [h]; decide)] at HN
 have HT := fun W => take_any s i W (by omega)
 unfold TakeTells at HT
 have hte := takeS_end s i
 have HD := Lib.hid (fun W => digit_any 39 W)
 rw [show digB 39 = false by decide] at HD
 rw [h] at hg
 generalize takeS s i = T at *
 obtain ⟨c, e, ok⟩ := T
 simp only at HT hte ⊢
 have HT := Lib.hid HT
 cases ok with
 | true =>
   obtain ⟨h1, h2⟩ := hte rfl
   obtain ⟨q, rfl⟩ := Int.eq_ofNat_of_zero_le (show 0 ≤ e by omega)
   clear hte
   rw [if_pos rfl]
   go_enter Tryd.func55, Tryd.ntmps55
   go_wp2_with (first
    | (go_at_call 83; refine (HN.out _).mono ?_; rintro e w1 ⟨rfl, rfl⟩)
    | (go_at_call 85; refine (HD.out _).mono ?_; rintro e w1 ⟨rfl, rfl⟩)
    | (go_at_call 87; refine (HT.out _).mono ?_; rintro e w1 ⟨rfl, rfl⟩))
   exact bodyPost_ret (v := .tuple #[.agg #[.int .i64 2, .string (bytesOf [c]), .int .i64 (i : Int)], .int .i64 (q : Int)]) (by simp [results, Tryd.results55, go_sem]) rfl ⟨wdTells_mk rfl rfl, ((Below.refl _ _).alloc (Nat.le_refl _) _).alloc (by simp) _⟩
 | false =>
   rw [if_neg (by simp)]
   clear hte
   go_enter Tryd.func55, Tryd.ntmps55
   go_wp2_with (first
    | (go_at_call 83; refine (HN.out _).mono ?_; rintro e w1 ⟨rfl, rfl⟩)
    | (go_at_call 85; refine (HD.out _).mono ?_; rintro e w1 ⟨rfl, rfl⟩)
    | (go_at_call 87; refine (HT.out _).mono ?_; rintro e w1 ⟨rfl, rfl⟩))
   exact bodyPost_ret (v := .tuple #[.agg #[.int .i64 0, .string ByteArray.empty, .int .i64 0], .int .i64 (i : Int)]) (by simp [results, Tryd.results55, go_sem]; rfl) rfl ⟨rfl, (Below.refl _ _).alloc (Nat.le_refl _) _⟩

theorem name_begins {s : ByteArray} {i : Nat} (hi : i < s.size) : i < nameF s.size (gAt s) i ↔ begB (gAt s i) = true := by
 constructor
 · intro h
   cases hb : begB (gAt s i) with
   | true => rfl
   | false => rw [name_not hi hb] at h; omega
 · intro hb
   unfold nameF
   rw [if_pos ⟨hi, hb⟩, nameW, if_pos ⟨hi, .inl hb⟩]
   have := nameW_bd s.size (gAt s) (i + 1) (by omega)
   omega

theorem lword_any (s : ByteArray) (i : Nat) (w : World) (hi : i < s.size) (hs : s.size ≤ 1000000) (hE : LexEnv w) :
  Calls Tryd.prog 55 #[.string s, .int .i64 i] w fun r w' => WdTells r (wordWd s i) ∧ Below w.heap.size w w' := by
 unfold wordWd
 have hni := name_begins (s := s) hi
 by_cases hb : begB (gAt s i) = true
 · rw [if_pos (hni.2 hb)]; exact word_name s i w hi (hni.2 hb) hs
 rw [if_neg (fun hc => hb (hni.1 hc))]
 by_cases hd : digB (gAt s i) = true
 · rw [if_pos hd]; exact word_dig s i w hi hd hs hE
 rw [if_neg hd]
 by_cases h1 : gAt s i = 39
 · rw [if_pos h1]; exact word_lit s i w h1 hi hs
 rw [if_neg h1]
 by_cases h2 : gAt s i = 60
 · rw [if_pos h2]; exact word_tag s i w h2 hi hs
 rw [if_neg h2]
 by_cases h3 : gAt s i = 58 ∨ gAt s i = 59 ∨ gAt s i = 124
 · rw [if_pos h3]; exact word_sign s i w _ ⟨hi, rfl, by simpa using hb, by simpa using hd⟩ h3 hs
 rw [if_neg h3]
 by_cases h4 : gAt s i = 123
 · rw [if_pos h4]; exact word_code s i w h4 hi hE.env.max hs
 rw [if_neg h4]
 by_cases h5 : gAt s i = 37
 · rw [if_pos h5]; exact word_pct s i w h5 hi hE.env.max hs
 rw [if_neg h5]
 exact word_none s i w hi (by simpa using hb) (by simpa using hd) h1 h2 (fun h => h3 (.inl h)) (fun h => h3 (.inr (.inl h))) (fun h => h3 (.inr (.inr h))) h4 h5 hs
end
end
section
section
open Go.RowKit
set_option linter.unusedVariables false
end
section
open Go.RowKit
set_option linter.unusedVariables false
def Wd.cells (p : Wd) : List Value := [.int .i64 p.kind, .string p.text, .int .i64 p.place]
def wds (L : List Wd) : List Value := L.flatMap Wd.cells
theorem wds_app (L M : List Wd) : wds (L ++ M) = wds L ++ wds M := by unfold wds; rw [List.flatMap_append]

/-- a slice of words -/
def WdsV (w : World) (v : Value) (L : List Wd) : Prop := CellsV w v L.length (wds L)
theorem WdsV.below {w w' : World} {v : Value} {L : List Wd} (h : WdsV w v L) (hb : Below w.heap.size w w') : WdsV w' v L := CellsV.below h hb

end
section
open Go.RowKit
set_option linter.unusedVariables false
end
end
end Go.Proofs.YtnoppoifepbchaaDoor
