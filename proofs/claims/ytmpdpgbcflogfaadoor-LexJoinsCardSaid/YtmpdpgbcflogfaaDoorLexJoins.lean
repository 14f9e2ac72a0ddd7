/- Words of a text stand again in their texts, with blanks or remarks between. -/
import Derived.Test.YtmpdpgbcflogfaaDoorLexEnds
namespace Go.Proofs.YtmpdpgbcflogfaaDoor
open Go.RowKit
set_option linter.unusedVariables false
set_option linter.unusedSimpArgs false

theorem ext_two' (s : ByteArray) (i : Nat) (a b : UInt8) (h : i + 1 < s.size) (ha : gAt s i = a.toNat) (hb : gAt s (i + 1) = b.toNat) : (⟨#[a, b]⟩ : ByteArray) = s.extract i (i + 2) := by
  apply ByteArray.ext
  apply Array.toList_inj.1
  have hl : (s.extract i (i + 2)).data.toList.length = i + 2 - i := extract_len s (by omega)
  have e0 := extract_getD s (x := i) (e := i + 2) (m := 0) (by omega) (by omega)
  have e1 := extract_getD s (x := i) (e := i + 2) (m := 1) (by omega) (by omega)
  generalize (s.extract i (i + 2)).data.toList = l at *
  match l, hl with
  | [x, y], _ =>
    simp at e0 e1
    have h0 : x = a := UInt8.toNat_inj.1 (by omega)
    have h1 : y = b := UInt8.toNat_inj.1 (by omega)
    rw [h0, h1]
  | [], hl => simp at hl
  | [x], hl => simp at hl
  | x :: y :: z :: r, hl => simp at hl

theorem nameWd_ten (s : ByteArray) (i : Nat) : (nameWd s i).1.kind ≠ 10 := by unfold nameWd; split <;> simp [noWd]
theorem digWd_ten (s : ByteArray) (i : Nat) : (digWd s i).1.kind ≠ 10 := by unfold digWd; split <;> (try split) <;> simp [noWd]
theorem pctWd_ten (s : ByteArray) (i : Nat) : (pctWd s i).1.kind ≠ 10 := by
  unfold pctWd
  split
  · simp [noWd]
  split
  · simp
  split
  · split <;> simp [noWd]
  · split <;> simp [noWd]
theorem wordWd_ten (s : ByteArray) (i : Nat) : (wordWd s i).1.kind ≠ 10 := by
  unfold wordWd
  split
  · exact nameWd_ten s i
  split
  · exact digWd_ten s i
  split
  · split <;> simp [noWd]
  split
  · split <;> simp [noWd]
  split
  · simp
  split
  · split <;> simp [noWd]
  split
  · exact pctWd_ten s i
  · simp [noWd]

theorem word_no {s : ByteArray} {b : Nat} {c : Int} (hb : b < s.size) (h : gAt s b = c) (h1 : begB c = false) (h2 : digB c = false) (h3 : c ≠ 39 ∧ c ≠ 60 ∧ c ≠ 58 ∧ c ≠ 59 ∧ c ≠ 124 ∧ c ≠ 123 ∧ c ≠ 37) : wordWd s b = (noWd, b) := by
  unfold wordWd
  rw [if_neg (fun hc => by have := (name_begins (s := s) hb).1 hc; rw [h, h1] at this; cases this), h, h2, if_neg (by simp), if_neg h3.1, if_neg h3.2.1, if_neg (by omega), if_neg h3.2.2.2.2.2.1, if_neg h3.2.2.2.2.2.2]
theorem word_first {s : ByteArray} {b : Nat} (hb : b < s.size) (hk : (wordWd s b).1.kind ≠ 0) : gAt s b ≠ 47 ∧ blankB (gAt s b) = false := by
  refine ⟨fun h => hk ?_, ?_⟩
  · rw [word_no hb h (by decide) (by decide) (by decide)]; rfl
  · cases hbl : blankB (gAt s b) with
    | false => rfl
    | true =>
      exfalso
      apply hk
      unfold blankB at hbl
      simp at hbl
      rcases hbl with h | h | h | h
      all_goals rw [word_no hb h (by decide) (by decide) (by decide)]; rfl

/-- the text that a word stands in -/
def txtOf (w : Wd) : ByteArray := if w.kind = 2 then bytesOf (quoteL (gAt w.text 0)) else if w.kind = 4 then ⟨#[60]⟩ ++ w.text ++ ⟨#[62]⟩ else if w.kind = 9 then ⟨#[37, 123]⟩ ++ w.text ++ ⟨#[37, 125]⟩ else w.text
theorem txt_plain {k a : Int} {t : ByteArray} (h1 : k ≠ 2) (h2 : k ≠ 4) (h3 : k ≠ 9) : txtOf ⟨k, t, a⟩ = t := by
  unfold txtOf; rw [if_neg h1, if_neg h2, if_neg h3]

theorem ext_list (s : ByteArray) (i e : Nat) (l : List Int) (he : e = i + l.length) (hl : e ≤ s.size) (hb : ∀ x ∈ l, 0 ≤ x ∧ x ≤ 255) (h : ∀ j, j < l.length → gAt s (i + j) = l.getD j 0) : s.extract i e = bytesOf l := by
  subst he
  have := (extract_beq hl hb).2 h
  rw [toList_beq, decide_eq_true_iff] at this
  exact ByteArray.ext (Array.toList_inj.1 this)
theorem ext_split (s : ByteArray) {a b c : Nat} (h1 : a ≤ b) (h2 : b ≤ c) : s.extract a c = s.extract a b ++ s.extract b c := by
  apply ByteArray.ext
  apply Array.toList_inj.1
  rw [ByteArray.data_append, Array.toList_append]
  exact extract_cat s h1 h2
theorem ext_one (s : ByteArray) (i : Nat) (c : UInt8) (hi : i < s.size) (h : gAt s i = (c.toNat : Int)) : s.extract i (i + 1) = ⟨#[c]⟩ := by
  apply ByteArray.ext
  apply Array.toList_inj.1
  rw [extract_one s i c hi h]

theorem esc_quote {l : Int} (h : escB l = true) : quoteL (escC l) = [39, 92, l, 39] ∧ 0 ≤ escC l ∧ escC l ≤ 255 ∧ 0 ≤ l ∧ l ≤ 255 := by
  unfold escB at h
  simp at h
  rcases h with rfl | rfl | rfl | rfl | rfl
  all_goals exact ⟨by decide, by decide, by decide, by decide, by decide⟩
theorem gAt_byte (c : Int) (h0 : 0 ≤ c) (h1 : c ≤ 255) : gAt (bytesOf [c]) 0 = c := by
  unfold gAt bytesOf
  simp
  omega

theorem lit_txt (s : ByteArray) (b : Nat) (hb : b < s.size) (h : (takeS s b).2.2 = true) : s.extract b (takeS s b).2.1.toNat = txtOf ⟨2, bytesOf [(takeS s b).1], b⟩ := by
  have he := takeS_end s b h
  rw [takeS_in b hb] at h he ⊢
  unfold takeF at h he ⊢
  simp only [Nat.add_zero] at h he ⊢
  have g1 := gAt_lo s (b + 1)
  have g2 := gAt_hi s (b + 1)
  by_cases c1 : 3 ≤ s.size - b ∧ gAt s b = 39 ∧ plainB (gAt s (b + 1)) = true ∧ gAt s (b + 2) = 39
  · rw [if_pos c1] at h he ⊢
    simp only at he ⊢
    unfold txtOf
    rw [if_pos rfl, gAt_byte _ g1 g2, ql_plain c1.2.2.1]
    refine ext_list s b _ [39, gAt s (b + 1), 39] (by simp; omega) (by omega) (by intro x hx; simp at hx; rcases hx with rfl | rfl | rfl <;> omega) (fun j hj => ?_)
    match j, hj with
    | 0, _ => exact c1.2.1
    | 1, _ => rfl
    | 2, _ => exact c1.2.2.2
  · rw [if_neg c1] at h he ⊢
    by_cases c2 : 4 ≤ s.size - b ∧ gAt s b = 39 ∧ gAt s (b + 1) = 92 ∧ gAt s (b + 3) = 39 ∧ escB (gAt s (b + 2)) = true
    · rw [if_pos c2] at h he ⊢
      simp only at he ⊢
      obtain ⟨q1, q2, q3, q4, q5⟩ := esc_quote c2.2.2.2.2
      unfold txtOf
      rw [if_pos rfl, gAt_byte _ q2 q3, q1]
      refine ext_list s b _ [39, 92, gAt s (b + 2), 39] (by simp; omega) (by omega) (by intro x hx; simp at hx; rcases hx with rfl | rfl | rfl | rfl <;> omega) (fun j hj => ?_)
      match j, hj with
      | 0, _ => exact c2.2.1
      | 1, _ => exact c2.2.2.1
      | 2, _ => rfl
      | 3, _ => exact c2.2.2.2.1
    · rw [if_neg c2] at h; cases h

theorem findW_val (n : Nat) (g : Nat → Int) (a b : Int) (i : Nat) : ∀ k : Nat, findW n g a b i = (k : Int) → g k = a ∧ g (k + 1) = b := by
  fun_induction findW n g a b i with
  | case1 i h h2 => intro k hk; obtain rfl : i = k := (by omega); exact h2
  | case2 i h h2 ih => intro k hk; exact ih k hk
  | case3 i h => intro k hk; omega

theorem pct_txt (s : ByteArray) (b : Nat) (hb : b < s.size) (h37 : gAt s b = 37) (hk : (pctWd s b).1.kind ≠ 0) : s.extract b (pctWd s b).2 = txtOf (pctWd s b).1 := by
  unfold pctWd at hk ⊢
  by_cases c0 : b + 1 = s.size
  · rw [if_pos c0] at hk; exact absurd rfl hk
  rw [if_neg c0] at hk ⊢
  by_cases c1 : gAt s (b + 1) = 37
  · rw [if_pos c1]; exact (txt_plain (by decide) (by decide) (by decide)).symm
  rw [if_neg c1] at hk ⊢
  by_cases c2 : gAt s (b + 1) = 123
  · rw [if_pos c2] at hk ⊢
    by_cases c3 : behW s.size (gAt s) 37 125 (b + 2) = -1
    · rw [if_pos c3] at hk; exact absurd rfl hk
    rw [if_neg c3]
    have hfb := findW_bd s.size (gAt s) 37 125 (b + 2)
    have hfv := findW_val s.size (gAt s) 37 125 (b + 2)
    unfold behW at c3 ⊢
    by_cases c4 : findW s.size (gAt s) 37 125 (b + 2) = -1
    · rw [if_pos c4] at c3; exact absurd rfl c3
    rw [if_neg c4] at c3 ⊢
    obtain ⟨k, hkf⟩ := Int.eq_ofNat_of_zero_le (show 0 ≤ findW s.size (gAt s) 37 125 (b + 2) by omega)
    rw [hkf] at hfb hfv ⊢
    obtain ⟨v1, v2⟩ := hfv k rfl
    simp only
    rw [show ((k : Int) + 2).toNat = k + 2 by omega, show k + 2 - 2 = k by omega]
    unfold txtOf
    rw [if_neg (by simp), if_neg (by simp), if_pos rfl]
    rw [ext_two' s b 37 123 (by omega) h37 c2, ext_two' s k 37 125 (by omega) v1 v2]
    rw [ext_split s (show b ≤ b + 2 by omega) (show b + 2 ≤ k + 2 by omega), ext_split s (show b + 2 ≤ k by omega) (show k ≤ k + 2 by omega)]
    apply ByteArray.ext
    simp only [ByteArray.data_append, Array.append_assoc]
  · rw [if_neg c2] at hk ⊢
    by_cases c3 : isKeyB (s.extract b (letF s.size (gAt s) (b + 1))) = true
    · rw [if_pos c3]; exact (txt_plain (by decide) (by decide) (by decide)).symm
    · rw [if_neg c3] at hk; exact absurd rfl hk

theorem word_txt (s : ByteArray) (b : Nat) (hb : b < s.size) (hk : (wordWd s b).1.kind ≠ 0) : s.extract b (wordWd s b).2 = txtOf (wordWd s b).1 := by
  unfold wordWd at hk ⊢
  by_cases c1 : b < nameF s.size (gAt s) b
  · rw [if_pos c1] at hk ⊢
    unfold nameWd at hk ⊢
    split
    · exact (txt_plain (by decide) (by decide) (by decide)).symm
    · rename_i h; rw [if_neg h] at hk; exact absurd rfl hk
  rw [if_neg c1] at hk ⊢
  by_cases c2 : digB (gAt s b) = true
  · rw [if_pos c2] at hk ⊢
    unfold digWd at hk ⊢
    split
    · rename_i h; rw [if_pos h] at hk; exact absurd rfl hk
    · rename_i h; rw [if_neg h] at hk
      split
      · rename_i h2; rw [if_pos h2] at hk; exact absurd rfl hk
      · exact (txt_plain (by decide) (by decide) (by decide)).symm
  rw [if_neg c2] at hk ⊢
  by_cases c3 : gAt s b = 39
  · rw [if_pos c3] at hk ⊢
    by_cases c4 : (takeS s b).2.2 = true
    · rw [if_pos c4]; exact lit_txt s b hb c4
    · rw [if_neg c4] at hk; exact absurd rfl hk
  rw [if_neg c3] at hk ⊢
  by_cases c5 : gAt s b = 60
  · rw [if_pos c5] at hk ⊢
    by_cases c6 : b < tagF s.size (gAt s) b
    · rw [if_pos c6]
      have ht3 := tagF_is s b
      have htb := tagF_bd s.size (gAt s) b (by omega)
      rcases ht3 with h | ⟨_, h1, h2, h3⟩
      · omega
      generalize tagF s.size (gAt s) b = e at *
      simp only
      unfold txtOf
      rw [if_neg (by simp), if_pos rfl]
      have e1 := ext_one s b 60 hb c5
      have e2 := ext_one s (e - 1) 62 (by omega) h3
      rw [show e - 1 + 1 = e by omega] at e2
      rw [← e1, ← e2, ext_split s (show b ≤ b + 1 by omega) (show b + 1 ≤ e by omega), ext_split s (show b + 1 ≤ e - 1 by omega) (show e - 1 ≤ e by omega)]
      apply ByteArray.ext
      simp only [ByteArray.data_append, Array.append_assoc]
    · rw [if_neg c6] at hk; exact absurd rfl hk
  rw [if_neg c5] at hk ⊢
  by_cases c6 : gAt s b = 58 ∨ gAt s b = 59 ∨ gAt s b = 124
  · rw [if_pos c6]; exact (txt_plain (by decide) (by decide) (by decide)).symm
  rw [if_neg c6] at hk ⊢
  by_cases c7 : gAt s b = 123
  · rw [if_pos c7] at hk ⊢
    by_cases c8 : (b : Int) < endS s b
    · rw [if_pos c8]; exact (txt_plain (by decide) (by decide) (by decide)).symm
    · rw [if_neg c8] at hk; exact absurd rfl hk
  rw [if_neg c7] at hk ⊢
  by_cases c8 : gAt s b = 37
  · rw [if_pos c8] at hk ⊢; exact pct_txt s b hb c8 hk
  · rw [if_neg c8] at hk; exact absurd rfl hk

end Go.Proofs.YtmpdpgbcflogfaaDoor
