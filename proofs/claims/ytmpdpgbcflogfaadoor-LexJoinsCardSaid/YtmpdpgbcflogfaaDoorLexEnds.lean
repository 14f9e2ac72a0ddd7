/- Words of a text with two marks behind it. -/
import Derived.Test.YtmpdpgbcflogfaaDoorMove2
namespace Go.Proofs.YtmpdpgbcflogfaaDoor
open Go.RowKit
set_option linter.unusedVariables false
set_option linter.unusedSimpArgs false

theorem stopF_ext {s : ByteArray} {i m : Nat} {L : List Wd} (h : (stopF s i m L).2.1 = 0) : ∃ W, (stopF s i m L).1 = L ++ W := by
  unfold stopF at h ⊢
  split
  · rename_i hc; rw [if_pos hc] at h; cases h
  · rename_i hc; rw [if_neg hc] at h
    split
    · rename_i hc2; rw [if_pos hc2] at h
      split
      · rename_i hc3; rw [if_pos hc3] at h; cases h
      · exact ⟨_, rfl⟩
    · exact ⟨_, rfl⟩
theorem wordsF_ext (s : ByteArray) : ∀ n i m L, s.size - i = n → (wordsF s i m L).2.1 = 0 → ∃ W, (wordsF s i m L).1 = L ++ W := by
  intro n
  induction n using Nat.strongRecOn with
  | ind n ih =>
    intro i m L hn h0
    rw [wordsF] at h0 ⊢
    split
    · rename_i h
      rw [dif_pos h] at h0
      have h1 := betF_bd s.size (gAt s) _ i rfl (by omega)
      have h2 := wordWd_bd s _ h.2.2.1 h.2.2.2.1
      obtain ⟨W, hW⟩ := ih (s.size - (wordWd s (betF s.size (gAt s) i).1).2) (by omega) (wordWd s (betF s.size (gAt s) i).1).2 _ _ rfl h0
      exact ⟨_, by rw [hW, List.append_assoc]⟩
    · rename_i h
      rw [dif_neg h] at h0
      exact stopF_ext h0

/-- a text, then a line's end -/
structure Ahead (A T : ByteArray) : Prop where
  big : A.size < T.size
  eq : ∀ j, j < A.size → gAt T j = gAt A j
  nl : gAt T A.size = 10

theorem findB_nl {A T : ByteArray} (h : Ahead A T) : ∀ m i, A.size - i = m → i ≤ A.size → findB A.size (gAt A) 10 i = -1 → findB T.size (gAt T) 10 i = (A.size : Int) := by
  intro m
  induction m with
  | zero =>
    intro i hm hi hf
    obtain rfl : i = A.size := (by omega)
    rw [findB, if_pos h.big, if_pos h.nl]
  | succ m ih =>
    intro i hm hi hf
    rw [findB, if_pos (show i < A.size by omega)] at hf
    by_cases hc : gAt A i = 10
    · rw [if_pos hc] at hf; omega
    · rw [if_neg hc] at hf
      rw [findB, if_pos (by have := h.big; omega), h.eq i (by omega), if_neg hc]
      exact ih (i + 1) (by omega) (by omega) hf
theorem Ahead.o {A T : ByteArray} (h : Ahead A T) {j : Nat} (hj : j < A.size) : oAt T j = oAt A j := by
  have := h.big
  rw [oAt_lt (by omega), oAt_lt hj, h.eq j hj]
theorem Ahead.same {A T : ByteArray} (h : Ahead A T) {x len : Nat} (hl : x + len ≤ A.size) : Same A T x x len :=
  ⟨hl, by have := h.big; omega, fun m hm => h.eq _ (by omega)⟩

theorem gap_ahead {A T : ByteArray} (h : Ahead A T) {i : Nat} (hi : i < A.size) (hg : 0 ≤ gapF A.size (gAt A) i) : gapF T.size (gAt T) i = gapF A.size (gAt A) i := by
  have hb := h.big
  have hgi := h.eq i hi
  unfold gapF at hg ⊢
  rw [hgi]
  by_cases hbl : blankB (gAt A i) = true
  · rw [if_pos hbl, if_pos hbl]
  rw [if_neg hbl] at hg ⊢
  rw [if_neg hbl]
  by_cases h47 : gAt A i = 47
  · unfold remF at hg ⊢
    rw [hgi]
    by_cases c1 : i + 1 < A.size ∧ gAt A i = 47 ∧ gAt A (i + 1) = 47
    · have e1 := h.eq (i + 1) c1.1
      rw [if_pos c1] at hg ⊢
      rw [if_pos ⟨by omega, h47, by rw [e1]; exact c1.2.2⟩]
      by_cases c2 : findB A.size (gAt A) 10 i = -1
      · rw [if_pos c2]
        have := findB_nl h _ i rfl (by omega) c2
        rw [this, if_neg (by omega)]
      · rw [if_neg c2]
        have hbd := findB_bd A.size (gAt A) 10 i
        obtain ⟨k, hk⟩ := Int.eq_ofNat_of_zero_le (show 0 ≤ findB A.size (gAt A) 10 i by omega)
        have := findB_alike (t := T) (y := i) (c := 10) k _ i rfl hk ((h.same (x := i) (len := k + 1 - i) (by omega)).alike (by omega)) |> fun f => f
        have e2 : findB T.size (gAt T) 10 i = (k : Int) := by omega
        rw [e2, hk, if_neg (by omega)]
    · rw [if_neg c1] at hg ⊢
      have c1' : ¬ (i + 1 < T.size ∧ gAt A i = 47 ∧ gAt T (i + 1) = 47) := by
        rintro ⟨_, _, h3⟩
        by_cases hlt : i + 1 < A.size
        · rw [h.eq _ hlt] at h3; exact c1 ⟨hlt, h47, h3⟩
        · have e : i + 1 = A.size := by omega
          rw [e, h.nl] at h3; exact absurd h3 (by decide)
      rw [if_neg c1']
      by_cases c3 : i + 1 < A.size ∧ gAt A i = 47 ∧ gAt A (i + 1) = 42
      · have e1 := h.eq (i + 1) c3.1
        rw [if_pos c3] at hg ⊢
        rw [if_pos ⟨by omega, h47, by rw [e1]; exact c3.2.2⟩]
        have hbd := findW_bd A.size (gAt A) 42 47 (i + 2)
        by_cases c4 : findW A.size (gAt A) 42 47 (i + 2) = -1
        · rw [if_pos c4] at hg; omega
        · rw [if_neg c4] at hg ⊢
          obtain ⟨k, hk⟩ := Int.eq_ofNat_of_zero_le (show 0 ≤ findW A.size (gAt A) 42 47 (i + 2) by omega)
          have := findW_alike (t := T) (y := i + 2) (a := 42) (b := 47) k _ (i + 2) rfl hk ((h.same (x := i + 2) (len := k + 2 - (i + 2)) (by omega)).alike (by omega))
          have e2 : findW T.size (gAt T) 42 47 (i + 2) = (k : Int) := by omega
          rw [e2, hk, if_neg (by omega)]
      · rw [if_neg c3]
        have c3' : ¬ (i + 1 < T.size ∧ gAt A i = 47 ∧ gAt T (i + 1) = 42) := by
          rintro ⟨_, _, h3⟩
          by_cases hlt : i + 1 < A.size
          · rw [h.eq _ hlt] at h3; exact c3 ⟨hlt, h47, h3⟩
          · have e : i + 1 = A.size := by omega
            rw [e, h.nl] at h3; exact absurd h3 (by decide)
        rw [if_neg c3']
  · rw [remF_none h47, remF_none (by rw [hgi]; exact h47)]

theorem bet_ahead {A T : ByteArray} (h : Ahead A T) : ∀ m i b, A.size - i = m → i ≤ A.size → betF A.size (gAt A) i = (b, true) → betF T.size (gAt T) i = if b < A.size then (b, true) else betF T.size (gAt T) A.size := by
  intro m
  induction m using Nat.strongRecOn with
  | ind m ih =>
    intro i b hm hi hb
    have hbig := h.big
    by_cases hlt : i < A.size
    · have hgb := gapF_bd A.size (gAt A) i hlt
      rw [betF, dif_pos hlt] at hb
      by_cases h0 : gapF A.size (gAt A) i < 0
      · rw [if_pos h0] at hb; cases hb
      rw [if_neg h0] at hb
      have hga := gap_ahead h hlt (by omega)
      by_cases h1 : gapF A.size (gAt A) i = i
      · rw [if_pos h1] at hb
        cases hb
        rw [if_pos hlt]
        exact bet_here (by omega) (hga.trans h1)
      · rw [if_neg h1] at hb
        rw [betF, dif_pos (by omega), hga, if_neg h0, if_neg h1]
        exact ih (A.size - max (gapF A.size (gAt A) i).toNat (i + 1)) (by omega) _ b rfl (by omega) hb
    · obtain rfl : i = A.size := by omega
      rw [bet_out] at hb
      cases hb
      rw [if_neg (Nat.lt_irrefl _)]

theorem nameWd_place (s : ByteArray) (i : Nat) (hk : (nameWd s i).1.kind ≠ 0) : (nameWd s i).1.place = (i : Int) := by
  unfold nameWd at hk ⊢
  split
  · rfl
  · rename_i h; rw [if_neg h] at hk; exact absurd rfl hk
theorem digWd_place (s : ByteArray) (i : Nat) (hk : (digWd s i).1.kind ≠ 0) : (digWd s i).1.place = (i : Int) := by
  unfold digWd at hk ⊢
  split
  · rename_i h; rw [if_pos h] at hk; exact absurd rfl hk
  · rename_i h; rw [if_neg h] at hk
    split
    · rename_i h2; rw [if_pos h2] at hk; exact absurd rfl hk
    · rfl
theorem pctWd_place (s : ByteArray) (i : Nat) (hk : (pctWd s i).1.kind ≠ 0) : (pctWd s i).1.place = (i : Int) := by
  unfold pctWd at hk ⊢
  split
  · rename_i h; rw [if_pos h] at hk; exact absurd rfl hk
  rename_i h1
  rw [if_neg h1] at hk
  split
  · rfl
  rename_i h2
  rw [if_neg h2] at hk
  split
  · rename_i h3
    rw [if_pos h3] at hk
    split
    · rename_i h4; rw [if_pos h4] at hk; exact absurd rfl hk
    · rfl
  · rename_i h3
    rw [if_neg h3] at hk
    split
    · rfl
    · rename_i h4; rw [if_neg h4] at hk; exact absurd rfl hk
theorem wordWd_place (s : ByteArray) (i : Nat) (hi : i < s.size) (hk : (wordWd s i).1.kind ≠ 0) : (wordWd s i).1.place = (i : Int) := by
  unfold wordWd at hk ⊢
  split
  · rename_i h; rw [if_pos h] at hk; exact nameWd_place s i hk
  rename_i h; rw [if_neg h] at hk; clear h
  split
  · rename_i h; rw [if_pos h] at hk; exact digWd_place s i hk
  rename_i h; rw [if_neg h] at hk; clear h
  split
  · rename_i h; rw [if_pos h] at hk
    split
    · rfl
    · rename_i h2; rw [if_neg h2] at hk; exact absurd rfl hk
  rename_i h; rw [if_neg h] at hk; clear h
  split
  · rename_i h; rw [if_pos h] at hk
    split
    · rfl
    · rename_i h2; rw [if_neg h2] at hk; exact absurd rfl hk
  rename_i h; rw [if_neg h] at hk; clear h
  split
  · rfl
  rename_i h; rw [if_neg h] at hk; clear h
  split
  · rename_i h; rw [if_pos h] at hk
    split
    · rfl
    · rename_i h2; rw [if_neg h2] at hk; exact absurd rfl hk
  rename_i h; rw [if_neg h] at hk; clear h
  split
  · rename_i h; rw [if_pos h] at hk; exact pctWd_place s i hk
  · rename_i h; rw [if_neg h] at hk; exact absurd rfl hk

/-- a text, a line's end, a mark, a line's end, a mark -/
structure Marks (A T : ByteArray) : Prop where
  ah : Ahead A T
  big : A.size + 6 ≤ T.size
  b1 : gAt T (A.size + 1) = 37
  b2 : gAt T (A.size + 2) = 37
  b3 : gAt T (A.size + 3) = 10
  b4 : gAt T (A.size + 4) = 37
  b5 : gAt T (A.size + 5) = 37

theorem mark_word {T : ByteArray} {i : Nat} (h : i + 1 < T.size) (h0 : gAt T i = 37) (h1 : gAt T (i + 1) = 37) : wordWd T i = (⟨7, T.extract i (i + 2), i⟩, i + 2) := by
  unfold wordWd pctWd
  rw [if_neg (fun hc => by have := (name_begins (s := T) (by omega)).1 hc; rw [h0] at this; exact absurd this (by decide)), h0]
  rw [if_neg (by decide), if_neg (by decide), if_neg (by decide), if_neg (by decide), if_neg (by decide), if_pos rfl, if_neg (by omega), if_pos h1]
theorem nl_bet {T : ByteArray} {i : Nat} (h : i + 1 < T.size) (h0 : gAt T i = 10) (h1 : gAt T (i + 1) = 37) : betF T.size (gAt T) i = (i + 1, true) := by
  have e : gapF T.size (gAt T) i = ((i + 1 : Nat) : Int) := by unfold gapF blankB; rw [h0, if_pos (by decide)]; omega
  rw [betF, dif_pos (by omega), e, if_neg (by omega), if_neg (by omega), show max ((i + 1 : Nat) : Int).toNat (i + 1) = i + 1 by omega]
  exact bet_here h (by unfold gapF blankB; rw [h1, if_neg (by decide)]; exact remF_none (by rw [h1]; decide))

theorem marks_end {A T : ByteArray} (h : Marks A T) (i : Nat) (hi : i ≤ A.size) (L : List Wd) (hb : betF T.size (gAt T) i = betF T.size (gAt T) A.size) :
    wordsF T i 0 L = (L ++ [⟨7, T.extract (A.size + 1) (A.size + 3), (A.size + 1 : Nat)⟩] ++ [⟨10, T.extract (A.size + 6) T.size, (A.size + 6 : Nat)⟩], 0, 0) := by
  have hbig := h.big
  have e0 := nl_bet (T := T) (i := A.size) (by omega) h.ah.nl h.b1
  have w0 := mark_word (T := T) (i := A.size + 1) (by omega) h.b1 h.b2
  have e1 := nl_bet (T := T) (i := A.size + 3) (by omega) h.b3 h.b4
  have w1 := mark_word (T := T) (i := A.size + 4) (by omega) h.b4 h.b5
  have s1 := words_on (m := 0) (L := L) (hb.trans e0) (by omega) (by omega) (by rw [w0]; simp) (by rw [w0]; simp)
  rw [w0] at s1
  rw [s1]
  have s2 := words_last (L := L ++ [⟨7, T.extract (A.size + 1) (A.size + 3), (A.size + 1 : Nat)⟩]) e1 (by omega) (by rw [w1])
  rw [w1] at s2
  exact s2

theorem words_marks {A T : ByteArray} (h : Marks A T) : ∀ n i L, A.size - i = n → i ≤ A.size → (wordsF A i 0 L).2.1 = 0 → (∀ w ∈ (wordsF A i 0 L).1, w.kind ≠ 7) →
    ∃ W, (wordsF A i 0 L).1 = W ++ [⟨10, ByteArray.empty, A.size⟩] ∧ wordsF T i 0 L = (W ++ [⟨7, T.extract (A.size + 1) (A.size + 3), (A.size + 1 : Nat)⟩] ++ [⟨10, T.extract (A.size + 6) T.size, (A.size + 6 : Nat)⟩], 0, 0) := by
  intro n
  induction n using Nat.strongRecOn with
  | ind n ih =>
    intro i L hn hi h0 h7
    have hbd := betF_bd A.size (gAt A) _ i rfl hi
    rcases hbe : betF A.size (gAt A) i with ⟨b, ok⟩
    rw [hbe] at hbd
    simp only at hbd
    cases ok with
    | false => rw [words_bad hbe] at h0; cases h0
    | true =>
      have hba := bet_ahead h.ah _ i b rfl hi hbe
      by_cases hlt : b < A.size
      · rw [if_pos hlt] at hba
        have hwb := wordWd_bd A b hlt
        by_cases hk : (wordWd A b).1.kind = 0
        · rw [words_none hbe hlt hk] at h0; cases h0
        obtain ⟨hz1, hz2⟩ := hwb hk
        have hon := words_on (m := 0) (L := L) hbe hbd.1 hlt hk (by omega)
        have hk7 : (wordWd A b).1.kind ≠ 7 := by
          intro hc
          rw [hon] at h0 h7
          obtain ⟨W, hW⟩ := wordsF_ext A _ _ _ _ rfl h0
          exact h7 (wordWd A b).1 (by rw [hW]; simp) hc
        rw [if_neg hk7] at hon
        rw [hon] at h0 h7 ⊢
        have hS := h.ah.same (x := b) (len := (wordWd A b).2 - b) (by omega)
        have hE : Ends A T (wordWd A b).2 (b + ((wordWd A b).2 - b)) := by
          rw [show b + ((wordWd A b).2 - b) = (wordWd A b).2 by omega]
          rcases Nat.lt_or_ge (wordWd A b).2 A.size with h1 | h1
          · exact .inl (h.ah.o h1)
          · have e : (wordWd A b).2 = A.size := by omega
            right
            rw [e, oAt_lt h.ah.big, h.ah.nl]; decide
        have hmv := word_move hlt hk hS hE
        rw [show b + ((wordWd A b).2 - b) = (wordWd A b).2 by omega] at hmv
        have hpl : (⟨(wordWd A b).1.kind, (wordWd A b).1.text, (b : Int)⟩ : Wd) = (wordWd A b).1 := by
          have hp := wordWd_place A b hlt hk
          rw [← hp]
        rw [hpl] at hmv
        have hont := words_on (s := T) (m := 0) (L := L) hba hbd.1 (by have := h.big; omega) (by rw [hmv]; exact hk) (by omega)
        rw [hmv, if_neg hk7] at hont
        rw [hont]
        exact ih (A.size - (wordWd A b).2) (by omega) (wordWd A b).2 (L ++ [(wordWd A b).1]) rfl hz2 h0 h7
      · obtain rfl : b = A.size := by omega
        rw [if_neg (Nat.lt_irrefl _)] at hba
        rw [words_out hbe]
        exact ⟨L, rfl, marks_end h i hi L hba⟩

end Go.Proofs.YtmpdpgbcflogfaaDoor
