/- Words stand again: the joined text's words. -/
import Derived.Test.YtmpdpgbcflogfaaDoorLexJoins
namespace Go.Proofs.YtmpdpgbcflogfaaDoor
open Go.RowKit
set_option linter.unusedVariables false
set_option linter.unusedSimpArgs false

def seps : List ByteArray := [⟨#[32]⟩, ⟨#[10]⟩, ⟨#[47, 42, 32, 37, 37, 32, 42, 47]⟩, ⟨#[47, 47, 32, 120, 10]⟩, ⟨#[9, 13]⟩]
theorem seps_head : ∀ p ∈ seps, nameB (gAt p 0) = false ∧ 1 ≤ p.size ∧ p.size ≤ 8 := by decide

theorem gap_blank {t : ByteArray} {i : Nat} (h : blankB (gAt t i) = true) : gapF t.size (gAt t) i = ((i + 1 : Nat) : Int) := by
  unfold gapF; rw [if_pos h]; omega

theorem sep_skip {t p : ByteArray} (hp : p ∈ seps) {i : Nat} (hS : Same p t 0 i p.size) : ∀ m L, wordsF t i m L = wordsF t (i + p.size) m L := by
  intro m L
  have hb := hS.2.1
  have hg := hS.2.2
  simp only [Nat.zero_add] at hg
  unfold seps at hp
  simp only [List.mem_cons, List.not_mem_nil, or_false] at hp
  rcases hp with rfl | rfl | rfl | rfl | rfl
  · have h0 := hg 0 (by decide)
    rw [Nat.add_zero, show gAt ⟨#[32]⟩ 0 = 32 by decide] at h0
    have hz : (⟨#[32]⟩ : ByteArray).size = 1 := rfl
    rw [hz] at hb ⊢
    exact words_gap (by omega) (gap_blank (by rw [h0]; decide)) (by omega)
  · have h0 := hg 0 (by decide)
    rw [Nat.add_zero, show gAt ⟨#[10]⟩ 0 = 10 by decide] at h0
    have hz : (⟨#[10]⟩ : ByteArray).size = 1 := rfl
    rw [hz] at hb ⊢
    exact words_gap (by omega) (gap_blank (by rw [h0]; decide)) (by omega)
  · have h0 := hg 0 (by decide)
    rw [Nat.add_zero, show gAt ⟨#[47, 42, 32, 37, 37, 32, 42, 47]⟩ 0 = 47 by decide] at h0
    have h1 := hg 1 (by decide)
    rw [show gAt ⟨#[47, 42, 32, 37, 37, 32, 42, 47]⟩ 1 = 42 by decide] at h1
    have hz : (⟨#[47, 42, 32, 37, 37, 32, 42, 47]⟩ : ByteArray).size = 8 := rfl
    have hf : findW (⟨#[47, 42, 32, 37, 37, 32, 42, 47]⟩ : ByteArray).size (gAt ⟨#[47, 42, 32, 37, 37, 32, 42, 47]⟩) 42 47 2 = ((6 : Nat) : Int) := by decide +kernel
    have hm := findW_alike (a := 42) (b := 47) 6 _ 2 (i + 2) rfl hf ((hS.from (k := 2) (by rw [hz]; omega)).alike (by rw [hz]; omega))
    rw [hz] at hb ⊢
    refine words_gap (by omega) ?_ (by omega)
    unfold gapF
    rw [if_neg (by rw [h0]; decide)]
    unfold remF
    rw [if_neg (fun hc => by rw [h1] at hc; exact absurd hc.2.2 (by decide)), if_pos ⟨by omega, h0, h1⟩]
    rw [if_neg (by omega)]
    omega
  · have h0 := hg 0 (by decide)
    rw [Nat.add_zero, show gAt ⟨#[47, 47, 32, 120, 10]⟩ 0 = 47 by decide] at h0
    have h1 := hg 1 (by decide)
    rw [show gAt ⟨#[47, 47, 32, 120, 10]⟩ 1 = 47 by decide] at h1
    have h4 := hg 4 (by decide)
    rw [show gAt ⟨#[47, 47, 32, 120, 10]⟩ 4 = 10 by decide] at h4
    have hz : (⟨#[47, 47, 32, 120, 10]⟩ : ByteArray).size = 5 := rfl
    have hf : findB (⟨#[47, 47, 32, 120, 10]⟩ : ByteArray).size (gAt ⟨#[47, 47, 32, 120, 10]⟩) 10 0 = ((4 : Nat) : Int) := by decide +kernel
    have hm := findB_alike (c := 10) 4 _ 0 i rfl hf (hS.alike (by rw [hz]; omega))
    rw [hz] at hb ⊢
    have hgap : gapF t.size (gAt t) i = ((i + 4 : Nat) : Int) := by
      unfold gapF
      rw [if_neg (by rw [h0]; decide)]
      unfold remF
      rw [if_pos ⟨by omega, h0, h1⟩, if_neg (by omega)]
      omega
    rw [words_gap (by omega) hgap (by omega)]
    exact words_gap (by omega) (gap_blank (by rw [h4]; decide)) (by omega)
  · have h0 := hg 0 (by decide)
    rw [Nat.add_zero, show gAt ⟨#[9, 13]⟩ 0 = 9 by decide] at h0
    have h1 := hg 1 (by decide)
    rw [show gAt ⟨#[9, 13]⟩ 1 = 13 by decide] at h1
    have hz : (⟨#[9, 13]⟩ : ByteArray).size = 2 := rfl
    rw [hz] at hb ⊢
    rw [words_gap (by omega) (gap_blank (by rw [h0]; decide)) (by omega)]
    exact words_gap (by omega) (gap_blank (by rw [h1]; decide)) (by omega)

def joinW (sA sB : ByteArray) (W : List Wd) : List UInt8 := W.flatMap (fun w => sA.data.toList ++ (txtOf w).data.toList ++ sB.data.toList)
def keyW (w : Wd) : Int × ByteArray := (w.kind, w.text)
/-- a word that stands in a text; no end -/
def Real (n : Nat) (w : Wd) : Prop := w.kind ≠ 10 ∧ (w.kind = 2 → w.text.size = 1) ∧ w.text.size ≤ n
def Rise (n : Nat) : Int → List Wd → Prop
  | _, [] => True
  | lo, w :: r => lo ≤ w.place ∧ w.place ≤ n ∧ Rise n w.place r
theorem Rise.le {n : Nat} {lo lo' : Int} {W : List Wd} (h : Rise n lo W) (hl : lo' ≤ lo) : Rise n lo' W := by
  cases W with
  | nil => trivial
  | cons w r => exact ⟨by have := h.1; omega, h.2⟩
theorem Rise.at {n : Nat} : ∀ (W : List Wd) (lo : Int), Rise n lo W → ∀ j, j < W.length → lo ≤ (W.getD j noWd).place ∧ (W.getD j noWd).place ≤ n ∧ (j + 1 < W.length → (W.getD j noWd).place ≤ (W.getD (j + 1) noWd).place) := by
  intro W
  induction W with
  | nil => intro lo h j hj; exact absurd hj (Nat.not_lt_zero _)
  | cons w r ih =>
    intro lo h j hj
    obtain ⟨h1, h2, h3⟩ := h
    cases j with
    | zero =>
      refine ⟨h1, h2, fun hl => ?_⟩
      cases r with
      | nil => simp at hl
      | cons v r' => exact h3.1
    | succ j =>
      have := ih w.place h3 j (by simpa using hj)
      exact ⟨by have := this.1; simp only [List.getD_cons_succ]; omega, this.2.1, fun hl => this.2.2 (by simpa using hl)⟩

theorem bet_none {n : Nat} {g : Nat → Int} {b : Nat} (hb : b < n) (h1 : g b ≠ 47) (h2 : blankB (g b) = false) : betF n g b = (b, true) :=
  bet_here hb (by unfold gapF; rw [if_neg (by rw [h2]; simp)]; exact remF_none h1)

theorem word_real (s : ByteArray) (b : Nat) (hb : b < s.size) (hk : (wordWd s b).1.kind ≠ 0) : Real s.size (wordWd s b).1 := by
  have hbd := wordWd_bd s b hb hk
  have hlit : (wordWd s b).1.kind = 2 → (wordWd s b).1.text.size = 1 := fun h2 => by
    by_cases c3 : gAt s b = 39
    · unfold wordWd at h2 hk ⊢
      rw [if_neg (fun hc => by have := (name_begins (s := s) hb).1 hc; rw [c3] at this; exact absurd this (by decide)), c3, if_neg (by decide), if_pos rfl] at h2 hk ⊢
      by_cases c4 : (takeS s b).2.2 = true
      · rw [if_pos c4]; rfl
      · rw [if_neg c4] at hk; exact absurd rfl hk
    · exfalso
      revert h2
      unfold wordWd at hk ⊢
      rw [if_neg c3] at hk ⊢
      split
      · rename_i h; rw [if_pos h] at hk; unfold nameWd; split <;> simp [noWd]
      split
      · unfold digWd; split <;> (try split) <;> simp [noWd]
      split
      · split <;> simp [noWd]
      split
      · simp
      split
      · split <;> simp [noWd]
      split
      · unfold pctWd
        split
        · simp [noWd]
        split
        · simp
        split
        · split <;> simp [noWd]
        · split <;> simp [noWd]
      · simp [noWd]
  refine ⟨wordWd_ten s b, hlit, ?_⟩
  · have hx := word_txt s b hb hk
    have hsz := congrArg ByteArray.size hx
    rw [ByteArray.size_extract] at hsz
    unfold txtOf at hsz
    by_cases k2 : (wordWd s b).1.kind = 2
    · have := hlit k2; omega
    · rw [if_neg k2] at hsz
      split at hsz
      · rw [ByteArray.size_append, ByteArray.size_append] at hsz; omega
      · split at hsz
        · rw [ByteArray.size_append, ByteArray.size_append] at hsz; omega
        · omega

theorem wordsF_stop {s : ByteArray} {b e : Nat} {w : Wd} (hb : b < s.size) (hw : wordWd s b = (w, e)) (hk : w.kind ≠ 0) : b < e ∧ e ≤ s.size := by
  have := wordWd_bd s b hb (by rw [hw]; exact hk)
  rw [hw] at this
  exact this

theorem join_words (s sA sB : ByteArray) (hA : sA ∈ seps) (hB : sB ∈ seps) : ∀ n i m L, s.size - i = n → i ≤ s.size → (wordsF s i m L).2.1 = 0 →
    ∃ (W : List Wd) (last : Wd), (wordsF s i m L).1 = L ++ W ++ [last] ∧ last.kind = 10 ∧ (∀ w ∈ W, Real s.size w) ∧ Rise s.size i W ∧
      ∀ (t : ByteArray) (y : Nat) (L' : List Wd), y ≤ t.size → t.data.toList.drop y = joinW sA sB W → ∃ W2, wordsF t y m L' = (L' ++ W2 ++ [⟨10, ByteArray.empty, t.size⟩], 0, 0) ∧ W2.map keyW = W.map keyW := by
  intro n
  induction n using Nat.strongRecOn with
  | ind n ih =>
    intro i m L hn hi h0
    have hbd := betF_bd s.size (gAt s) _ i rfl hi
    rcases hbe : betF s.size (gAt s) i with ⟨b, ok⟩
    rw [hbe] at hbd
    simp only at hbd
    have hEmpty : ∀ (t : ByteArray) (y : Nat) (L' : List Wd), y ≤ t.size → t.data.toList.drop y = joinW sA sB [] → ∃ W2, wordsF t y m L' = (L' ++ W2 ++ [⟨10, ByteArray.empty, t.size⟩], 0, 0) ∧ W2.map keyW = ([] : List Wd).map keyW := by
      intro t y L' hy hd
      have hl := congrArg List.length hd
      rw [List.length_drop] at hl
      have hts : t.data.toList.length = t.size := rfl
      have hj : (joinW sA sB []).length = 0 := rfl
      obtain rfl : y = t.size := by omega
      exact ⟨[], by rw [words_out bet_out, List.append_nil], rfl⟩
    cases ok with
    | false => rw [words_bad hbe] at h0; cases h0
    | true =>
      by_cases hlt : b < s.size
      · by_cases hk : (wordWd s b).1.kind = 0
        · rw [words_none hbe hlt hk] at h0; cases h0
        by_cases h7 : (wordWd s b).1.kind = 7 ∧ m = 1
        · obtain ⟨h7, rfl⟩ := h7
          rw [words_last hbe hlt h7]
          exact ⟨[], _, by rw [List.append_nil], rfl, by simp, trivial, hEmpty⟩
        · have hon := words_on (m := m) (L := L) hbe hbd.1 hlt hk h7
          have hwb := wordWd_bd s b hlt hk
          rw [hon] at h0 ⊢
          obtain ⟨W, last, e1, e2, e3, e4, e5⟩ := ih (s.size - (wordWd s b).2) (by omega) (wordWd s b).2 _ (L ++ [(wordWd s b).1]) rfl hwb.2 h0
          have hpl := wordWd_place s b hlt hk
          refine ⟨(wordWd s b).1 :: W, last, by rw [e1]; simp, e2, ?_, ?_, ?_⟩
          · intro w hw
            rcases List.mem_cons.1 hw with rfl | hw
            · exact word_real s b hlt hk
            · exact e3 w hw
          · exact ⟨by rw [hpl]; omega, by rw [hpl]; omega, e4.le (by rw [hpl]; omega)⟩
          · intro t y L' hy hd
            have hx := word_txt s b hlt hk
            have ed : joinW sA sB ((wordWd s b).1 :: W) = (sA.extract 0 sA.size).data.toList ++ ((s.extract b (wordWd s b).2).data.toList ++ ((sB.extract 0 sB.size).data.toList ++ joinW sA sB W)) := by
              unfold joinW
              rw [List.flatMap_cons, hx, drop_data, drop_data]
              simp
            rw [ed] at hd
            obtain ⟨p1, p2, p3⟩ := drop_extract hd (Nat.zero_le _) (Nat.le_refl _) hy
            simp only [Nat.sub_zero] at p1 p2 p3
            obtain ⟨q1, q2, q3⟩ := drop_extract p2 (by omega) hwb.2 p1
            obtain ⟨r1, r2, r3⟩ := drop_extract q2 (Nat.zero_le _) (Nat.le_refl _) q1
            simp only [Nat.sub_zero] at r1 r2 r3
            have SA : Same sA t 0 y sA.size := ⟨by omega, p1, p3⟩
            have SW : Same s t b (y + sA.size) ((wordWd s b).2 - b) := ⟨by omega, q1, q3⟩
            have SB : Same sB t 0 (y + sA.size + ((wordWd s b).2 - b)) sB.size := ⟨by omega, r1, r3⟩
            obtain ⟨hB1, hB2, _⟩ := seps_head sB hB
            have hEnds : Ends s t (wordWd s b).2 (y + sA.size + ((wordWd s b).2 - b)) := by
              right
              have := r3 0 (by omega)
              rw [Nat.add_zero, Nat.zero_add] at this
              rw [oAt_lt (by omega), this]
              exact hB1
            have hmv := word_move hlt hk SW hEnds
            have hf := word_first hlt hk
            have hg0 := q3 0 (by omega)
            rw [Nat.add_zero, Nat.add_zero] at hg0
            have hbt := bet_none (n := t.size) (g := gAt t) (b := y + sA.size) (by omega) (by rw [hg0]; exact hf.1) (by rw [hg0]; exact hf.2)
            have hont := words_on (s := t) (m := m) (L := L') hbt (Nat.le_refl _) (by omega) (by rw [hmv]; exact hk) (by rw [hmv]; exact h7)
            rw [hmv] at hont
            simp only at hont
            obtain ⟨W2, f1, f2⟩ := e5 t (y + sA.size + ((wordWd s b).2 - b) + sB.size) (L' ++ [⟨(wordWd s b).1.kind, (wordWd s b).1.text, ((y + sA.size : Nat) : Int)⟩]) r1 r2
            refine ⟨⟨(wordWd s b).1.kind, (wordWd s b).1.text, ((y + sA.size : Nat) : Int)⟩ :: W2, ?_, ?_⟩
            · rw [sep_skip hA SA, hont, sep_skip hB SB, f1]; simp
            · rw [List.map_cons, List.map_cons, f2]; rfl
      · obtain rfl : b = s.size := by omega
        rw [words_out hbe]
        exact ⟨[], _, by rw [List.append_nil], rfl, by simp, trivial, hEmpty⟩

end Go.Proofs.YtmpdpgbcflogfaaDoor
