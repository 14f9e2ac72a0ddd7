/- What is read may be printed. -/
import Derived.Test.YtnoppoifepbchaaDoorPlA
namespace Go.Proofs.YtnoppoifepbchaaDoor

open Go.RowKit
section
set_option linter.unusedVariables false
set_option linter.unusedSimpArgs false
/-- a word may be printed -/
def WdMay (w : Wd) : Prop := (w.kind = 1 → isNameB w.text = true) ∧ (w.kind = 2 → w.text.size = 1 ∧ quotB (gAt w.text 0) = true) ∧ (w.kind = 3 → rdNum w.text ≤ 50000) ∧
 (w.kind = 4 → isNameB w.text = true) ∧ (w.kind = 8 → endS w.text 0 = w.text.size ∧ w.text.size ≠ 0) ∧ (w.kind = 9 → pctB w.text = false)
theorem wm1 {t : ByteArray} {p : Int} (h : isNameB t = true) : WdMay ⟨1, t, p⟩ :=
 ⟨fun _ => h, fun e => absurd (show (1 : Int) = 2 from e) (by decide), fun e => absurd (show (1 : Int) = 3 from e) (by decide), fun e => absurd (show (1 : Int) = 4 from e) (by decide), fun e => absurd (show (1 : Int) = 8 from e) (by decide), fun e => absurd (show (1 : Int) = 9 from e) (by decide)⟩
theorem wm2 {t : ByteArray} {p : Int} (h : t.size = 1 ∧ quotB (gAt t 0) = true) : WdMay ⟨2, t, p⟩ :=
 ⟨fun e => absurd (show (2 : Int) = 1 from e) (by decide), fun _ => h, fun e => absurd (show (2 : Int) = 3 from e) (by decide), fun e => absurd (show (2 : Int) = 4 from e) (by decide), fun e => absurd (show (2 : Int) = 8 from e) (by decide), fun e => absurd (show (2 : Int) = 9 from e) (by decide)⟩
theorem wm3 {t : ByteArray} {p : Int} (h : rdNum t ≤ 50000) : WdMay ⟨3, t, p⟩ :=
 ⟨fun e => absurd (show (3 : Int) = 1 from e) (by decide), fun e => absurd (show (3 : Int) = 2 from e) (by decide), fun _ => h, fun e => absurd (show (3 : Int) = 4 from e) (by decide), fun e => absurd (show (3 : Int) = 8 from e) (by decide), fun e => absurd (show (3 : Int) = 9 from e) (by decide)⟩
theorem wm4 {t : ByteArray} {p : Int} (h : isNameB t = true) : WdMay ⟨4, t, p⟩ :=
 ⟨fun e => absurd (show (4 : Int) = 1 from e) (by decide), fun e => absurd (show (4 : Int) = 2 from e) (by decide), fun e => absurd (show (4 : Int) = 3 from e) (by decide), fun _ => h, fun e => absurd (show (4 : Int) = 8 from e) (by decide), fun e => absurd (show (4 : Int) = 9 from e) (by decide)⟩
theorem wm8 {t : ByteArray} {p : Int} (h : endS t 0 = t.size ∧ t.size ≠ 0) : WdMay ⟨8, t, p⟩ :=
 ⟨fun e => absurd (show (8 : Int) = 1 from e) (by decide), fun e => absurd (show (8 : Int) = 2 from e) (by decide), fun e => absurd (show (8 : Int) = 3 from e) (by decide), fun e => absurd (show (8 : Int) = 4 from e) (by decide), fun _ => h, fun e => absurd (show (8 : Int) = 9 from e) (by decide)⟩
theorem wm9 {t : ByteArray} {p : Int} (h : pctB t = false) : WdMay ⟨9, t, p⟩ :=
 ⟨fun e => absurd (show (9 : Int) = 1 from e) (by decide), fun e => absurd (show (9 : Int) = 2 from e) (by decide), fun e => absurd (show (9 : Int) = 3 from e) (by decide), fun e => absurd (show (9 : Int) = 4 from e) (by decide), fun e => absurd (show (9 : Int) = 8 from e) (by decide), fun _ => h⟩
theorem wm0 {t : ByteArray} {p k : Int} (h : k = 5 ∨ k = 6 ∨ k = 7 ∨ k = 10) : WdMay ⟨k, t, p⟩ :=
 ⟨fun e => absurd (show k = 1 from e) (by omega), fun e => absurd (show k = 2 from e) (by omega), fun e => absurd (show k = 3 from e) (by omega), fun e => absurd (show k = 4 from e) (by omega), fun e => absurd (show k = 8 from e) (by omega), fun e => absurd (show k = 9 from e) (by omega)⟩
theorem same_cut {s : ByteArray} {i e : Nat} (h1 : i ≤ e) (h2 : e ≤ s.size) : Same s (s.extract i e) i 0 (e - i) :=
 ⟨by omega, by rw [ByteArray.size_extract]; omega, fun m hm => by rw [Nat.zero_add]; exact gAt_sub s i e m h2 (by omega)⟩
theorem name_cut {s : ByteArray} {i e : Nat} (h1 : i < e) (h2 : e ≤ s.size) (h20 : e - i ≤ 20) (hb : begB (gAt s i) = true) (ha : ∀ j, i ≤ j → j < e → nameB (gAt s j) = true) : isNameB (s.extract i e) = true := by
 have hz : (s.extract i e).size = e - i := by rw [ByteArray.size_extract]; omega
 have hg : ∀ m, m < e - i → gAt (s.extract i e) m = gAt s (i + m) := fun m hm => gAt_sub s i e m h2 (by omega)
 unfold isNameB
 rw [decide_eq_true_iff]
 refine ⟨by omega, by omega, ?_⟩
 rw [nameF_o, oAt_lt (by omega), hg 0 (by omega), Nat.add_zero, if_pos hb]
 exact nameW_to _ _ (by rw [oAt_end (Nat.lt_irrefl _)]; decide) _ 0 rfl (Nat.zero_le _) (fun j _ hj => by rw [oAt_lt hj, hg j (by omega)]; exact ha _ (by omega) (by omega))
theorem findW_first (n : Nat) (g : Nat → Int) (a b : Int) (z : Nat) (i : Nat) (h : findW n g a b i = (z : Int)) : (g z = a ∧ g (z + 1) = b) ∧ ∀ j, i ≤ j → j < z → ¬ (g j = a ∧ g (j + 1) = b) := by
 fun_induction findW n g a b i with
 | case1 i hi hc => obtain rfl : i = z := by omega
                    exact ⟨hc, fun j h1 h2 => by omega⟩
 | case2 i hi hc ih =>
   obtain ⟨h1, h2⟩ := ih h
   refine ⟨h1, fun j h3 h4 => ?_⟩
   by_cases e : j = i
   · rw [e]; exact hc
   · exact h2 j (by omega) h4
 | case3 i hi => omega
theorem word_may (s : ByteArray) (i : Nat) (hi : i < s.size) (hk : (wordWd s i).1.kind ≠ 0) : WdMay (wordWd s i).1 := by
 unfold wordWd at hk ⊢
 split
 · rename_i h; rw [if_pos h] at hk
   unfold nameWd at hk ⊢
   split
   · rename_i h20
     have hb := nameF_bd s.size (gAt s) i (by omega)
     exact wm1 (name_cut h hb.2 h20 ((name_begins hi).1 h) (nameF_all s.size (gAt s) i))
   · rename_i h2; rw [if_neg h2] at hk; exact absurd rfl hk
 rename_i h; rw [if_neg h] at hk; clear h
 split
 · rename_i h; rw [if_pos h] at hk
   unfold digWd at hk ⊢
   split
   · rename_i h; rw [if_pos h] at hk; exact absurd rfl hk
   rename_i h; rw [if_neg h] at hk
   split
   · rename_i h2; rw [if_pos h2] at hk; exact absurd rfl hk
   rename_i h2
   exact wm3 (Nat.le_of_not_lt (fun e => h2 (.inr e)))
 rename_i h; rw [if_neg h] at hk; clear h
 split
 · rename_i h; rw [if_pos h] at hk
   split
   · rename_i h2
     refine wm2 ⟨rfl, ?_⟩
     rw [takeS_in i hi] at h2 ⊢
     unfold takeF at h2 ⊢
     split
     · rename_i h3
       have h4 := h3.2.2.1
       unfold plainB at h4
       have h5 : 32 ≤ gAt s (i + 1) ∧ gAt s (i + 1) ≤ 126 ∧ gAt s (i + 1) ≠ 39 ∧ gAt s (i + 1) ≠ 92 := of_decide_eq_true h4
       simp only
       rw [gAt_byte _ (by omega) (by omega)]
       unfold quotB; rw [decide_eq_true_iff]; omega
     · rename_i h3
       rw [if_neg h3] at h2
       split
       · rename_i h4
         simp only
         obtain ⟨h5, h6, h7, h8, h9⟩ := esc_quote h4.2.2.2.2
         rw [gAt_byte _ h6 h7]
         have h10 := h4.2.2.2.2
         unfold escB at h10
         have h11 := of_decide_eq_true h10
         unfold quotB escC
         rw [decide_eq_true_iff]
         omega
       · rename_i h4; rw [if_neg h4] at h2; cases h2
   · rename_i h2; rw [if_neg h2] at hk; exact absurd rfl hk
 rename_i h; rw [if_neg h] at hk; clear h
 split
 · rename_i h; rw [if_pos h] at hk
   split
   · rename_i h2
     refine wm4 ?_
     unfold tagF at h2 ⊢
     split
     · rename_i h3
       have hb := nameF_bd s.size (gAt s) (i + 1) (by omega)
       rw [show nameF s.size (gAt s) (i + 1) + 1 - 1 = nameF s.size (gAt s) (i + 1) by omega]
       exact name_cut h3.2.2.1 hb.2 h3.2.2.2.1 ((name_begins (by omega)).1 h3.2.2.1) (nameF_all s.size (gAt s) (i + 1))
     · rename_i h3; rw [if_neg h3] at h2; omega
   · rename_i h2; rw [if_neg h2] at hk; exact absurd rfl hk
 rename_i h; rw [if_neg h] at hk; clear h
 split
 · exact wm0 (by decide)
 rename_i h; rw [if_neg h] at hk; clear h
 split
 · rename_i h; rw [if_pos h] at hk
   split
   · rename_i h2
     have hb := endS_bd s i (by omega)
     obtain ⟨e, he⟩ := Int.eq_ofNat_of_zero_le (show 0 ≤ endS s i by omega)
     have hz : (s.extract i (endS s i).toNat).size = e - i := by rw [ByteArray.size_extract, he]; simp; omega
     have h3 : endF s.size (gAt s) i 0 = (e : Int) := by
      rw [← he]; unfold endS
      rw [if_pos (by simp only [Int.toNat_natCast]; omega), Int.toNat_natCast]
     have hS := same_cut (s := s) (i := i) (e := e) (by omega) (by omega)
     have h4 := endF_move e _ i 0 0 rfl (.inr ⟨rfl, h⟩) h3 hS
     have hg := hS.2.2 0 (by omega)
     rw [Nat.add_zero, Nat.add_zero, h] at hg
     refine wm8 ⟨?_, by omega⟩
     rw [he, Int.toNat_natCast] at hz ⊢
     unfold endS
     rw [if_pos ⟨by decide, by omega, hg⟩]
     simp only [Int.toNat_zero]
     omega
   · rename_i h2; rw [if_neg h2] at hk; exact absurd rfl hk
 rename_i h; rw [if_neg h] at hk; clear h
 split
 · rename_i h; rw [if_pos h] at hk
   unfold pctWd at hk ⊢
   split
   · rename_i h2; rw [if_pos h2] at hk; exact absurd rfl hk
   rename_i h2; rw [if_neg h2] at hk
   split
   · exact wm0 (by decide)
   rename_i h3; rw [if_neg h3] at hk
   split
   · rename_i h4; rw [if_pos h4] at hk
     split
     · rename_i h5; rw [if_pos h5] at hk; exact absurd rfl hk
     · rename_i h5
       refine wm9 ?_
       unfold behW at h5 ⊢
       by_cases h6 : findW s.size (gAt s) 37 125 (i + 2) = -1
       · rw [if_pos h6] at h5; exact absurd rfl h5
       rw [if_neg h6]
       have hb := findW_bd s.size (gAt s) 37 125 (i + 2)
       obtain ⟨z, hz⟩ := Int.eq_ofNat_of_zero_le (show 0 ≤ findW s.size (gAt s) 37 125 (i + 2) by omega)
       have hf := findW_first _ _ _ _ z _ hz
       rw [hz, show ((z : Int) + 2).toNat - 2 = z by omega]
       have hsz : (s.extract (i + 2) z).size = z - (i + 2) := by rw [ByteArray.size_extract]; omega
       unfold pctB
       rw [decide_eq_false_iff_not, Decidable.not_not]
       rcases findW_bd (s.extract (i + 2) z).size (gAt (s.extract (i + 2) z)) 37 125 0 with h7 | h7
       · exact h7
       · exfalso
         obtain ⟨y, hy⟩ := Int.eq_ofNat_of_zero_le (show 0 ≤ findW (s.extract (i + 2) z).size (gAt (s.extract (i + 2) z)) 37 125 0 by omega)
         have h8 := (findW_first _ _ _ _ y _ hy).1
         rw [gAt_sub s (i + 2) z y (by omega) (by omega), gAt_sub s (i + 2) z (y + 1) (by omega) (by omega)] at h8
         exact hf.2 (i + 2 + y) (by omega) (by omega) h8
   rename_i h4; rw [if_neg h4] at hk
   split
   · exact wm0 (by decide)
   · rename_i h5; rw [if_neg h5] at hk; exact absurd rfl hk
 · rename_i h; rw [if_neg h] at hk; exact absurd rfl hk
theorem wordsF_may (s : ByteArray) : ∀ (i m : Nat) (L : List Wd), i ≤ s.size → (∀ x ∈ L, WdMay x) → ∀ x ∈ (wordsF s i m L).1, WdMay x := by
 intro i m L
 fun_induction wordsF s i m L with
 | case1 i m L h ih =>
   intro hi hL
   have h1 := betF_bd s.size (gAt s) _ i rfl hi
   have h2 := wordWd_bd s _ h.2.2.1 h.2.2.2.1
   refine ih (by omega) (fun x hx => ?_)
   rcases List.mem_append.1 hx with h3 | h3
   · exact hL x h3
   · rw [List.mem_singleton.1 h3]; exact word_may s _ h.2.2.1 h.2.2.2.1
 | case2 i m L h =>
   intro hi hL x hx
   unfold stopF at hx
   split at hx
   · cases hx
   · split at hx
     · split at hx
       · cases hx
       · rcases List.mem_append.1 hx with h3 | h3
         · exact hL x h3
         · rw [List.mem_singleton.1 h3]; exact wm0 (by decide)
     · rcases List.mem_append.1 hx with h3 | h3
       · exact hL x h3
       · rw [List.mem_singleton.1 h3]; exact wm0 (by decide)
theorem wordsS_may (s : ByteArray) : ∀ x ∈ (wordsS s).1, WdMay x := by
 unfold wordsS
 split
 · intro x hx; cases hx
 · exact wordsF_may s 0 0 [] (Nat.zero_le _) (fun x hx => by cases hx)
end
section
set_option linter.unusedVariables false
set_option linter.unusedSimpArgs false
abbrev AllMay (l : Wds) : Prop := ∀ w ∈ l, WdMay w
theorem AllMay.tail {l : Wds} (h : AllMay l) : AllMay l.tail := fun w hw => h w (List.mem_of_mem_tail hw)
theorem AllMay.hd {l : Wds} (h : AllMay l) : WdMay (hdW l) := by
 cases l with
 | nil => exact ⟨fun e => absurd (show (0 : Int) = 1 from e) (by decide), fun e => absurd (show (0 : Int) = 2 from e) (by decide), fun e => absurd (show (0 : Int) = 3 from e) (by decide), fun e => absurd (show (0 : Int) = 4 from e) (by decide), fun e => absurd (show (0 : Int) = 8 from e) (by decide), fun e => absurd (show (0 : Int) = 9 from e) (by decide)⟩
 | cons w l => exact h w (by simp)
theorem sm_may {w : Wd} {num lit : Bool} {n : Int} (h : WdMay w) (hk : w.kind = 1 ∨ (w.kind = 2 ∧ lit = true ∧ n = 0)) (hn : n = 0 ∨ num = true ∧ 1 ≤ n ∧ n ≤ 50000) : symB num lit (smOf w n) = true := by
 unfold symB smOf
 rcases hk with hk | hk
 · simp only [hk]
   rw [if_neg (by decide), decide_eq_true_iff]
   exact ⟨h.1 hk, hn⟩
 · simp only [hk.1]
   rw [if_pos (by decide), decide_eq_true_iff]
   exact ⟨hk.2.1, (h.2.1 hk.1).1, hk.2.2, (h.2.1 hk.1).2⟩
theorem syms_may (k : Int) (hk6 : k ≤ 6) : ∀ n (l : Wds), l.length ≤ n → AllMay l → ((∀ x ∈ (rdSyms k l).1, symB (k == 1) (decide (k < 5)) x = true) ∧ (k = 6 → (rdSyms k l).1.length ≤ 1)) ∧ AllMay (rdSyms k l).2 := by
 intro n
 induction n with
 | zero =>
   intro l hl h
   obtain rfl := List.eq_nil_of_length_eq_zero (Nat.le_zero.1 hl)
   rw [rdSyms]; exact ⟨⟨(fun x hx => by cases hx), (fun _ => by simp)⟩, h⟩
 | succ n ih =>
   intro l hl h
   match l with
   | [] => rw [rdSyms]; exact ⟨⟨(fun x hx => by cases hx), (fun _ => by simp)⟩, h⟩
   | w :: l =>
     simp only [List.length_cons] at hl
     have hw := h w (by simp)
     have hl' : AllMay l := fun v hv => h v (by simp [hv])
     rw [rdSyms]
     split
     · rename_i hd
       unfold declaresB at hd
       have hd := of_decide_eq_true hd
       split
       · rename_i h6
         subst h6
         refine ⟨⟨fun x hx => ?_, fun _ => by simp⟩, hl'⟩
         simp only [List.mem_singleton] at hx
         subst hx
         exact sm_may hw (.inl (by omega)) (.inl rfl)
       · rename_i h6
         split
         · rename_i hn
           unfold numbered at hn
           have hn := of_decide_eq_true hn
           obtain ⟨⟨i1, _⟩, i2⟩ := ih l.tail (by rw [List.length_tail]; omega) hl'.tail
           refine ⟨⟨fun x hx => ?_, fun e => absurd e h6⟩, i2⟩
           rcases List.mem_cons.1 hx with rfl | hx
           · have h3 := hl'.hd.2.2.1 hn.2.2
             refine sm_may hw (.inl hn.2.1) ?_
             by_cases h0 : rdNum (hdW l).text = 0
             · left; omega
             · right; exact ⟨by rw [hn.1]; rfl, by omega, by omega⟩
           · exact i1 x hx
         · obtain ⟨⟨i1, _⟩, i2⟩ := ih l (by omega) hl'
           refine ⟨⟨fun x hx => ?_, fun e => absurd e h6⟩, i2⟩
           rcases List.mem_cons.1 hx with rfl | hx
           · refine sm_may hw ?_ (.inl rfl)
             rcases hd with hd | hd
             · exact .inl hd
             · exact .inr ⟨hd.1, by rw [decide_eq_true_iff]; omega, rfl⟩
           · exact i1 x hx
     · exact ⟨⟨(fun x hx => by cases hx), (fun _ => by simp)⟩, h⟩

theorem tag_may (k : Int) {l : Wds} (h : AllMay l) : AllMay (tagS k l).2 ∧ ((tagS k l).1.size = 0 ∨ isNameB (tagS k l).1 = true) ∧ (k = 6 → (tagS k l).1.size = 0) ∧ (k ≠ 6 → (hdW l).kind = 4 → isNameB (tagS k l).1 = true) := by
 unfold tagS
 split
 · rename_i hc
   have h4 := h.hd.2.2.2.1 hc.2
   exact ⟨h.tail, .inr h4, fun e => absurd e hc.1, fun _ _ => h4⟩
 · rename_i hc
   exact ⟨h, .inl rfl, fun _ => rfl, fun h6 h4 => absurd ⟨h6, h4⟩ hc⟩
theorem name_ne {t : ByteArray} (h : isNameB t = true) : t.size ≠ 0 := by
 unfold isNameB at h
 have := (of_decide_eq_true h).1
 omega
theorem decl_may {k : Int} {w : Wd} {l r : Wds} {d : Dc} (h1 : 1 ≤ k) (h6 : k ≤ 6) (hl : AllMay l) (h : declS k w l = .ok d r) : mayDc d = true ∧ AllMay r := by
 obtain ⟨t1, t2, t3, t4⟩ := tag_may k hl
 obtain ⟨⟨s1, s2⟩, s3⟩ := syms_may k h6 _ (tagS k l).2 (Nat.le_refl _) t1
 unfold declS at h
 split at h
 · cases h
 · rename_i h5
   split at h
   · cases h
   · rename_i hne
     cases h
     refine ⟨?_, s3⟩
     have hpos := List.length_pos_iff.2 hne
     unfold mayDc dcB
     rw [Bool.and_eq_true, List.all_eq_true, decide_eq_true_iff]
     exact ⟨⟨h1, h6, by simp only; omega, fun e => ⟨by have := s2 e; simp only; omega, t3 e⟩, fun e => name_ne (t4 (by simp only at e; omega) (Decidable.byContradiction (fun hc => h5 ⟨e, hc⟩))), t2⟩, s1⟩
theorem keyN_in (t : ByteArray) : 0 ≤ keyN t ∧ keyN t ≤ 6 := by
 unfold keyN
 repeat' split
 all_goals omega
theorem decls_may : ∀ n (l : Wds), l.length ≤ n → ∀ (P : ByteArray) (b : Bool) (ds : List Dc), AllMay l → pctB P = false → (∀ d ∈ ds, mayDc d = true) → ∀ x r, declsS P b ds l = .ok x r → (pctB x.1 = false ∧ ∀ d ∈ x.2, mayDc d = true) ∧ AllMay r := by
 intro n
 induction n with
 | zero =>
   intro l hl P b ds hm hp hd x r h
   obtain rfl := List.eq_nil_of_length_eq_zero (Nat.le_zero.1 hl)
   rw [declsS] at h; cases h
 | succ n ih =>
   intro l hl P b ds hm hp hd x r h
   match l with
   | [] => rw [declsS] at h; cases h
   | w :: l =>
     simp only [List.length_cons] at hl
     have hw := hm w (by simp)
     have hl' : AllMay l := fun v hv => hm v (by simp [hv])
     rw [declsS] at h
     split at h
     · cases h; exact ⟨⟨hp, hd⟩, hl'⟩
     · split at h
       · rename_i h9
         exact ih l (by omega) _ _ _ hl' (hw.2.2.2.2.2 h9.1) hd _ _ h
       · split at h
         · rename_i h5
           have hb := keyN_in w.text
           split at h
           · rename_i d r' he
             obtain ⟨d1, d2⟩ := decl_may (by omega) hb.2 hl' he
             have := declS_le he
             refine ih r' (by omega) _ _ _ d2 hp (fun c hc => ?_) _ _ h
             rcases List.mem_append.1 hc with hc | hc
             · exact hd c hc
             · rw [List.mem_singleton.1 hc]; exact d1
           · cases h
         · cases h
theorem pt_may {w : Wd} (hw : WdMay w) (h : (symB2 w = true) ∨ w.kind = 8) : mayPt (ptOf w) = true := by
 unfold ptOf mayPt
 by_cases h8 : w.kind = 8
 · rw [if_pos h8]
   have h9 := hw.2.2.2.2.1 h8
   simp only
   rw [if_neg h9.2, Bool.and_eq_true, decide_eq_true_iff]
   exact ⟨by decide, h9.1⟩
 · rw [if_neg h8]
   simp only
   rw [if_pos (by rfl)]
   unfold symB2 at h
   have h2 := of_decide_eq_true (h.resolve_right h8)
   exact sm_may hw (by rcases h2 with h2 | h2; exact .inl h2; exact .inr ⟨h2, rfl, rfl⟩) (.inl rfl)
theorem parts_may : ∀ l : Wds, AllMay l → (∀ p ∈ (rdParts l).1, mayPt p = true) ∧ AllMay (rdParts l).2
 | [], h => by rw [rdParts]; exact ⟨(fun x hx => by cases hx), h⟩
 | w :: l, h => by
   have hw := h w (by simp)
   have hl' : AllMay l := fun v hv => h v (by simp [hv])
   rw [rdParts]
   split
   · rename_i hc
     obtain ⟨h1, h2⟩ := parts_may l hl'
     refine ⟨fun p hp => ?_, h2⟩
     rcases List.mem_cons.1 hp with rfl | hp
     · rw [Bool.or_eq_true, Bool.and_eq_true, decide_eq_true_iff] at hc
       exact pt_may hw (by rcases hc with hc | hc; exact .inl hc.1; exact .inr hc)
     · exact h1 p hp
   · exact ⟨(fun x hx => by cases hx), h⟩
theorem sym2_may {w : Wd} (hw : WdMay w) (h : symB2 w = true) : symB false true (smOf w 0) = true := by
 unfold symB2 at h
 have h2 := of_decide_eq_true h
 exact sm_may hw (by rcases h2 with h2 | h2; exact .inl h2; exact .inr ⟨h2, rfl, rfl⟩) (.inl rfl)
theorem alt_may {l r : Wds} {a : Al} (hl : AllMay l) (h : altS l = .ok a r) : mayAl a = true ∧ AllMay r := by
 obtain ⟨h1, h2⟩ := parts_may l hl
 unfold altS altEnd at h
 unfold mayAl
 rw [Bool.and_eq_true, List.all_eq_true, Bool.or_eq_true]
 split at h
 · split at h
   · rename_i h3
     have h4 := sym2_may h2.tail.hd h3
     split at h
     · rename_i h8
       cases h
       refine ⟨⟨fun p hp => ?_, .inr h4⟩, h2.tail.tail.tail⟩
       rcases List.mem_append.1 hp with hp | hp
       · exact h1 p hp
       · rw [List.mem_singleton.1 hp]; exact pt_may h2.tail.tail.hd (.inr h8)
     · cases h
       exact ⟨⟨h1, .inr h4⟩, h2.tail.tail⟩
   · cases h
 · cases h
   exact ⟨⟨h1, .inl (show noneB noSm = true by decide)⟩, h2⟩
theorem alts_may : ∀ n (l : Wds), l.length ≤ n → ∀ zs x r, AllMay l → (∀ a ∈ zs, mayAl a = true) → altsS zs l = .ok x r → (x.length ≠ 0 ∧ ∀ a ∈ x, mayAl a = true) ∧ AllMay r := by
 intro n
 induction n with
 | zero =>
   intro l hl zs x r hm ha h
   rw [altsS] at h
   split at h
   · cases h
   · rename_i a r' he
     have h0 := altS_le he
     obtain ⟨a1, a2⟩ := alt_may hm he
     split at h
     · rename_i h2
       have := List.length_pos_iff.2 h2.1
       omega
     · cases h
       refine ⟨⟨by simp, fun c hc => ?_⟩, a2⟩
       rcases List.mem_append.1 hc with hc | hc
       · exact ha c hc
       · rw [List.mem_singleton.1 hc]; exact a1
 | succ n ih =>
   intro l hl zs x r hm ha h
   rw [altsS] at h
   split at h
   · cases h
   · rename_i a r' he
     have h0 := altS_le he
     obtain ⟨a1, a2⟩ := alt_may hm he
     have ha' : ∀ c ∈ zs ++ [a], mayAl c = true := fun c hc => by
      rcases List.mem_append.1 hc with hc | hc
      · exact ha c hc
      · rw [List.mem_singleton.1 hc]; exact a1
     split at h
     · rename_i h2
       have h3 := List.length_pos_iff.2 h2.1
       exact ih r'.tail (by rw [List.length_tail]; omega) _ _ _ a2.tail ha' h
     · cases h
       exact ⟨⟨by simp, ha'⟩, a2⟩
theorem semi_may {l : Wds} (h : AllMay l) : AllMay (semiS l) := by
 unfold semiS
 split
 · exact h.tail
 · exact h
theorem rule_may {l r : Wds} {x : Rl} (hl : AllMay l) (h : ruleS l = .ok x r) : mayRl x = true ∧ AllMay r := by
 unfold ruleS at h
 split at h
 · cases h
 · rename_i h1
   split at h
   · cases h
   · split at h
     · cases h
     · rename_i zs r' he
       cases h
       obtain ⟨⟨a1, a2⟩, a3⟩ := alts_may _ _ (Nat.le_refl _) _ _ _ hl.tail.tail (fun c hc => by cases hc) he
       unfold mayRl
       rw [Bool.and_eq_true, Bool.and_eq_true, List.all_eq_true, decide_eq_true_iff]
       exact ⟨⟨hl.hd.1 (Decidable.not_not.1 h1), a1, a2⟩, semi_may a3⟩
theorem rules_may : ∀ n (l : Wds), l.length ≤ n → ∀ rs x r, AllMay l → (∀ a ∈ rs, mayRl a = true) → rulesS rs l = .ok x r → (x.length ≠ 0 ∧ ∀ a ∈ x, mayRl a = true) ∧ AllMay r := by
 intro n
 induction n with
 | zero =>
   intro l hl rs x r hm ha h
   rw [rulesS] at h
   split at h
   · cases h
   · rename_i y r' he
     have := ruleS_lt he
     omega
 | succ n ih =>
   intro l hl rs x r hm ha h
   rw [rulesS] at h
   split at h
   · cases h
   · rename_i y r' he
     have hlt := ruleS_lt he
     obtain ⟨a1, a2⟩ := rule_may hm he
     have ha' : ∀ c ∈ rs ++ [y], mayRl c = true := fun c hc => by
      rcases List.mem_append.1 hc with hc | hc
      · exact ha c hc
      · rw [List.mem_singleton.1 hc]; exact a1
     split at h
     · cases h
       exact ⟨⟨by simp, ha'⟩, a2⟩
     · exact ih r' (by omega) _ _ _ a2 ha' h
/-- what is read may be printed: the document's form -/
theorem so_may {l r : Wds} {x : So} (hl : AllMay l) (h : soS l = .ok x r) : maySo x = true := by
 unfold soS at h
 split at h
 · cases h
 · rename_i y r1 he
   obtain ⟨⟨d1, d2⟩, d3⟩ := decls_may _ _ (Nat.le_refl _) _ _ _ hl (by decide +kernel) (fun c hc => by cases hc) _ _ he
   split at h
   · cases h
   · rename_i rs r2 he2
     obtain ⟨⟨g1, g2⟩, g3⟩ := rules_may _ _ (Nat.le_refl _) _ _ _ d3 (fun c hc => by cases hc) he2
     cases h
     unfold maySo
     rw [Bool.and_eq_true, Bool.and_eq_true, Bool.and_eq_true, List.all_eq_true, List.all_eq_true, decide_eq_true_iff, Bool.not_eq_true']
     exact ⟨d1, d2, g2, g1⟩
end
end Go.Proofs.YtnoppoifepbchaaDoor
