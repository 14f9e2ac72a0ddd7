/- The laws LexWords, LexBytes, LexKeys. -/
import Derived.Test.YtnoppoifepbchaaDoorLRd9
import Derived.Test.YtnoppoifepbchaaDoorQMove2
import Derived.Lib.ItoaLen
import Derived.Deep.OwnRows
namespace Go.Proofs.YtnoppoifepbchaaDoor
section
section
open Go.RowKit
set_option linter.unusedVariables false
set_option linter.unusedSimpArgs false
end
section
open Go.RowKit
set_option linter.unusedVariables false
set_option linter.unusedSimpArgs false
theorem dec_lt' {n : Nat} (h : n < 10) : Lib.decDigits n = [UInt8.ofNat (48 + n)] := by rw [Lib.decDigits, dif_pos h]
theorem dec_ge' {n : Nat} (h : 10 ≤ n) : Lib.decDigits n = Lib.decDigits (n / 10) ++ [UInt8.ofNat (48 + n % 10)] := by rw [Lib.decDigits, dif_neg (by omega)]
theorem horA_dec : ∀ n, horA 0 (Lib.decDigits n) = n := by
 intro n
 induction n using Nat.strongRecOn with
 | ind n ih =>
   by_cases h : n < 10
   · rw [dec_lt' h]
     show horA 0 [UInt8.ofNat (48 + n)] = n
     rw [horA_cons]
     show 0 * 10 + ((UInt8.ofNat (48 + n)).toNat - 48) = n
     rw [UInt8.toNat_ofNat']; omega
   · rw [dec_ge' (by omega), horA_snoc, ih (n / 10) (by omega), UInt8.toNat_ofNat']
     omega
theorem dec_ne (n : Nat) : Lib.decDigits n ≠ [] := fun h => by
 by_cases h1 : n < 10
 · rw [dec_lt' h1] at h; cases h
 · rw [dec_ge' (by omega)] at h; simp at h
theorem dec_head : ∀ n, 1 ≤ n → ((Lib.decDigits n).getD 0 0).toNat ≠ 48 := by
 intro n
 induction n using Nat.strongRecOn with
 | ind n ih =>
   intro hn
   by_cases h : n < 10
   · rw [dec_lt' h]
     show (UInt8.ofNat (48 + n)).toNat ≠ 48
     rw [UInt8.toNat_ofNat']; omega
   · rw [dec_ge' (by omega)]
     have := ih (n / 10) (by omega) (by omega)
     cases hl : Lib.decDigits (n / 10) with
     | nil => exact absurd hl (dec_ne _)
     | cons c r => rw [hl] at this; exact this

end
section
open Go.RowKit
set_option linter.unusedVariables false
set_option linter.unusedSimpArgs false
end
end
section
open Go.RowKit
set_option linter.unusedVariables false
set_option linter.unusedSimpArgs false
/-- a text, then a line's end -/
structure Ahead (A T : ByteArray) : Prop where
 big : A.size < T.size
 eq : ∀ j, j < A.size → gAt T j = gAt A j
 nl : gAt T A.size = 10

theorem Ahead.o {A T : ByteArray} (h : Ahead A T) {j : Nat} (hj : j < A.size) : oAt T j = oAt A j := by
 have := h.big
 rw [oAt_lt (by omega), oAt_lt hj, h.eq j hj]
theorem mark_word {T : ByteArray} {i : Nat} (h : i + 1 < T.size) (h0 : gAt T i = 37) (h1 : gAt T (i + 1) = 37) : wordWd T i = (⟨7, T.extract i (i + 2), i⟩, i + 2) := by
 unfold wordWd pctWd
 rw [if_neg (fun hc => by have := (name_begins (s := T) (by omega)).1 hc; rw [h0] at this; exact absurd this (by decide)), h0]
 rw [if_neg (by decide), if_neg (by decide), if_neg (by decide), if_neg (by decide), if_neg (by decide), if_pos rfl, if_neg (by omega), if_pos h1]
end
section
open Go.RowKit
set_option linter.unusedVariables false
set_option linter.unusedSimpArgs false
theorem gAt_app (a b : ByteArray) (j : Nat) : gAt (a ++ b) j = if j < a.size then gAt a j else gAt b (j - a.size) := by
 have ha : a.data.toList.length = a.size := rfl
 unfold gAt
 rw [ByteArray.data_append, Array.toList_append, List.getD_eq_getElem?_getD]
 by_cases h : j < a.size
 · rw [if_pos h, List.getElem?_append_left (by omega), List.getD_eq_getElem?_getD]
 · rw [if_neg h, List.getElem?_append_right (by omega), List.getD_eq_getElem?_getD, ha]
end
section
open Go.RowKit
set_option linter.unusedVariables false
set_option linter.unusedSimpArgs false
theorem word_no {s : ByteArray} {b : Nat} {c : Int} (hb : b < s.size) (h : gAt s b = c) (h1 : begB c = false) (h2 : digB c = false) (h3 : c ≠ 39 ∧ c ≠ 60 ∧ c ≠ 58 ∧ c ≠ 59 ∧ c ≠ 124 ∧ c ≠ 123 ∧ c ≠ 37) : wordWd s b = (noWd, b) := by
 unfold wordWd
 rw [if_neg (fun hc => by have := (name_begins (s := s) hb).1 hc; rw [h, h1] at this; cases this), h, h2, if_neg (by simp), if_neg h3.1, if_neg h3.2.1, if_neg (by omega), if_neg h3.2.2.2.2.2.1, if_neg h3.2.2.2.2.2.2]
theorem word_first {s : ByteArray} {b : Nat} (hb : b < s.size) (hk : (wordWd s b).1.kind ≠ 0) : gAt s b ≠ 47 ∧ blankB (gAt s b) = false := by
 refine ⟨fun h => hk ?_, ?_⟩
 · rw [word_no hb h (by decide) (by decide) (by decide)]; rfl
 · cases hbl : blankB (gAt s b) with
   | false => rfl
   | true =>
     exfalso
     apply hk
     unfold blankB at hbl
     simp at hbl
     rcases hbl with h | h | h | h
     all_goals rw [word_no hb h (by decide) (by decide) (by decide)]; rfl

theorem esc_quote {l : Int} (h : escB l = true) : quoteL (escC l) = [39, 92, l, 39] ∧ 0 ≤ escC l ∧ escC l ≤ 255 ∧ 0 ≤ l ∧ l ≤ 255 := by
 unfold escB at h
 simp at h
 rcases h with rfl | rfl | rfl | rfl | rfl
 all_goals exact ⟨by decide, by decide, by decide, by decide, by decide⟩
theorem gAt_byte (c : Int) (h0 : 0 ≤ c) (h1 : c ≤ 255) : gAt (bytesOf [c]) 0 = c := by
 unfold gAt bytesOf
 simp
 omega
end
section
open Go.RowKit
set_option linter.unusedVariables false
set_option linter.unusedSimpArgs false
def seps : List ByteArray := [⟨#[32]⟩, ⟨#[10]⟩, ⟨#[47, 42, 32, 37, 37, 32, 42, 47]⟩, ⟨#[47, 47, 32, 120, 10]⟩, ⟨#[9, 13]⟩]
theorem gap_blank {t : ByteArray} {i : Nat} (h : blankB (gAt t i) = true) : gapF t.size (gAt t) i = ((i + 1 : Nat) : Int) := by
 unfold gapF; rw [if_pos h]; omega

theorem sep_skip {t p : ByteArray} (hp : p ∈ seps) {i : Nat} (hS : Same p t 0 i p.size) : ∀ m L, wordsF t i m L = wordsF t (i + p.size) m L := by
 intro m L
 have hb := hS.2.1
 have hg := hS.2.2
 simp only [Nat.zero_add] at hg
 unfold seps at hp
 simp only [List.mem_cons, List.not_mem_nil, or_false] at hp
 rcases hp with rfl | rfl | rfl | rfl | rfl
 · have h0 := hg 0 (by decide)
   rw [Nat.add_zero, show gAt ⟨#[32]⟩ 0 = 32 by decide] at h0
   have hz : (⟨#[32]⟩ : ByteArray).size = 1 := rfl
   rw [hz] at hb ⊢
   exact words_gap (by omega) (gap_blank (by rw [h0]; decide)) (by omega)
 · have h0 := hg 0 (by decide)
   rw [Nat.add_zero, show gAt ⟨#[10]⟩ 0 = 10 by decide] at h0
   have hz : (⟨#[10]⟩ : ByteArray).size = 1 := rfl
   rw [hz] at hb ⊢
   exact words_gap (by omega) (gap_blank (by rw [h0]; decide)) (by omega)
 · have h0 := hg 0 (by decide)
   rw [Nat.add_zero, show gAt ⟨#[47, 42, 32, 37, 37, 32, 42, 47]⟩ 0 = 47 by decide] at h0
   have h1 := hg 1 (by decide)
   rw [show gAt ⟨#[47, 42, 32, 37, 37, 32, 42, 47]⟩ 1 = 42 by decide] at h1
   have hz : (⟨#[47, 42, 32, 37, 37, 32, 42, 47]⟩ : ByteArray).size = 8 := rfl
   have hf : findW (⟨#[47, 42, 32, 37, 37, 32, 42, 47]⟩ : ByteArray).size (gAt ⟨#[47, 42, 32, 37, 37, 32, 42, 47]⟩) 42 47 2 = ((6 : Nat) : Int) := by decide +kernel
   have hm := findW_alike (a := 42) (b := 47) 6 _ 2 (i + 2) rfl hf ((hS.from (k := 2) (by rw [hz]; omega)).alike (by rw [hz]; omega))
   rw [hz] at hb ⊢
   refine words_gap (by omega) ?_ (by omega)
   unfold gapF
   rw [if_neg (by rw [h0]; decide)]
   unfold remF
   rw [if_neg (fun hc => by rw [h1] at hc; exact absurd hc.2.2 (by decide)), if_pos ⟨by omega, h0, h1⟩]
   rw [if_neg (by omega)]
   omega
 · have h0 := hg 0 (by decide)
   rw [Nat.add_zero, show gAt ⟨#[47, 47, 32, 120, 10]⟩ 0 = 47 by decide] at h0
   have h1 := hg 1 (by decide)
   rw [show gAt ⟨#[47, 47, 32, 120, 10]⟩ 1 = 47 by decide] at h1
   have h4 := hg 4 (by decide)
   rw [show gAt ⟨#[47, 47, 32, 120, 10]⟩ 4 = 10 by decide] at h4
   have hz : (⟨#[47, 47, 32, 120, 10]⟩ : ByteArray).size = 5 := rfl
   have hf : findB (⟨#[47, 47, 32, 120, 10]⟩ : ByteArray).size (gAt ⟨#[47, 47, 32, 120, 10]⟩) 10 0 = ((4 : Nat) : Int) := by decide +kernel
   have hm := findB_alike (c := 10) 4 _ 0 i rfl hf (hS.alike (by rw [hz]; omega))
   rw [hz] at hb ⊢
   have hgap : gapF t.size (gAt t) i = ((i + 4 : Nat) : Int) := by
    unfold gapF
    rw [if_neg (by rw [h0]; decide)]
    unfold remF
    rw [if_pos ⟨by omega, h0, h1⟩, if_neg (by omega)]
    omega
   rw [words_gap (by omega) hgap (by omega)]
   exact words_gap (by omega) (gap_blank (by rw [h4]; decide)) (by omega)
 · have h0 := hg 0 (by decide)
   rw [Nat.add_zero, show gAt ⟨#[9, 13]⟩ 0 = 9 by decide] at h0
   have h1 := hg 1 (by decide)
   rw [show gAt ⟨#[9, 13]⟩ 1 = 13 by decide] at h1
   have hz : (⟨#[9, 13]⟩ : ByteArray).size = 2 := rfl
   rw [hz] at hb ⊢
   rw [words_gap (by omega) (gap_blank (by rw [h0]; decide)) (by omega)]
   exact words_gap (by omega) (gap_blank (by rw [h1]; decide)) (by omega)

def Rise (n : Nat) : Int → List Wd → Prop
 | _, [] => True
 | lo, w :: r => lo ≤ w.place ∧ w.place ≤ n ∧ Rise n w.place r
theorem Rise.le {n : Nat} {lo lo' : Int} {W : List Wd} (h : Rise n lo W) (hl : lo' ≤ lo) : Rise n lo' W := by
 cases W with
 | nil => trivial
 | cons w r => exact ⟨by have := h.1; omega, h.2⟩
theorem bet_none {n : Nat} {g : Nat → Int} {b : Nat} (hb : b < n) (h1 : g b ≠ 47) (h2 : blankB (g b) = false) : betF n g b = (b, true) :=
 bet_here hb (by unfold gapF; rw [if_neg (by rw [h2]; simp)]; exact remF_none h1)
end
end Go.Proofs.YtnoppoifepbchaaDoor
