/- What is within quotes and remarks is passed over. -/
import Derived.Test.YtmpdpgbcflogfaaDoorBodyParts
namespace Go.Proofs.YtmpdpgbcflogfaaDoor
open Go.RowKit
set_option linter.unusedVariables false

theorem quo_run {n : Nat} {g : Nat → Int} {q : Int} (e : Nat) (he : e ≤ n) : ∀ m i, e - i = m → i ≤ e → (∀ j, i ≤ j → j < e → g j ≠ q ∧ g j ≠ 92 ∧ g j ≠ 10) → quo n g q i = quo n g q e := by
  intro m
  induction m with
  | zero => intro i h1 h2 _; rw [show i = e by omega]
  | succ m ih =>
    intro i h1 h2 h
    obtain ⟨a, b, c⟩ := h i (Nat.le_refl _) (by omega)
    rw [quo, if_pos (by omega), if_neg a, if_neg b, if_neg c]
    exact ih (i + 1) (by omega) (by omega) (fun j hj hj2 => h j (by omega) hj2)
theorem findB_run {n : Nat} {g : Nat → Int} {c : Int} (e : Nat) (he : e ≤ n) : ∀ m i, e - i = m → i ≤ e → (∀ j, i ≤ j → j < e → g j ≠ c) → findB n g c i = findB n g c e := by
  intro m
  induction m with
  | zero => intro i h1 h2 _; rw [show i = e by omega]
  | succ m ih =>
    intro i h1 h2 h
    rw [findB, if_pos (by omega), if_neg (h i (Nat.le_refl _) (by omega))]
    exact ih (i + 1) (by omega) (by omega) (fun j hj hj2 => h j (by omega) hj2)
theorem findW_run {n : Nat} {g : Nat → Int} {a b : Int} (e : Nat) (he : e + 1 < n) : ∀ m i, e - i = m → i ≤ e → (∀ j, i ≤ j → j < e → g j ≠ a) → findW n g a b i = findW n g a b e := by
  intro m
  induction m with
  | zero => intro i h1 h2 _; rw [show i = e by omega]
  | succ m ih =>
    intro i h1 h2 h
    rw [findW, if_pos (by omega), if_neg (fun hc => h i (Nat.le_refl _) (by omega) hc.1)]
    exact ih (i + 1) (by omega) (by omega) (fun j hj hj2 => h j (by omega) hj2)

/-- a text in which what begins at place 1 is passed over up to place a, and a part with the number 2 stands at place e -/
structure Skips (n : Nat) (g : Nat → Int) (a e : Nat) : Prop where
  len : n = e + 3
  a1 : 1 < a
  ae : a ≤ e
  g0 : g 0 = 123
  g1 : g 1 ≠ 36
  over : overF n g 1 = a
  run : ∀ j, a ≤ j → j < e → PlainAt g j ∧ g j ≠ 36 ∧ g j ≠ 123 ∧ g j ≠ 125
  e0 : g e = 36
  e1 : g (e + 1) = 50
  e2 : g (e + 2) = 125

theorem Skips.at {n : Nat} {g : Nat → Int} {a e : Nat} (h : Skips n g a e) (j : Nat) (h1 : a ≤ j) (h2 : j < e + 2) : PlainAt g j ∧ (j ≠ e → g j ≠ 36) ∧ g j ≠ 123 ∧ g j ≠ 125 := by
  by_cases hj : j < e
  · obtain ⟨p1, p2, p3, p4⟩ := h.run j h1 hj
    exact ⟨p1, fun _ => p2, p3, p4⟩
  · have e0 := h.e0
    have e1 := h.e1
    have : j = e ∨ j = e + 1 := by omega
    unfold PlainAt
    rcases this with rfl | rfl <;> omega

theorem Skips.endF {n : Nat} {g : Nat → Int} {a e : Nat} (h : Skips n g a e) : endF n g 0 0 = n := by
  have hn := h.len; have ha := h.a1; have hae := h.ae; have g0 := h.g0; have e2 := h.e2
  have d0 : deepF g 0 0 = 1 := by unfold deepF; rw [if_pos h.g0]; rfl
  rw [endF_plain (by omega) ⟨by omega, by omega, by omega, by omega⟩ (by rw [d0]; omega), d0, endF_over (by omega) h.over ha,
    endF_run (by omega) (e + 2) (by omega) _ a rfl (by omega) (fun j h1 h2 => ⟨(h.at j h1 h2).1, (h.at j h1 h2).2.2⟩)]
  rw [endF_last (by omega) ⟨by omega, by omega, by omega, by omega⟩ (by unfold deepF; rw [if_neg (by omega), if_pos e2]; rfl)]
  omega

theorem Skips.digF {n : Nat} {g : Nat → Int} {a e : Nat} (h : Skips n g a e) : digF n g (e + 1) = e + 2 := by
  have hn := h.len; have e1 := h.e1; have e2 := h.e2
  refine digF_stop (e + 2) (by omega) ?_ _ _ rfl (by omega) (fun j h1 h2 => ?_)
  · rw [e2]; rintro ⟨_, h⟩; revert h; decide
  · obtain rfl : j = e + 1 := by omega
    rw [e1]; rfl
theorem Skips.tagF {n : Nat} {g : Nat → Int} {a e : Nat} (h : Skips n g a e) : tagF n g (e + 1) = e + 1 := tagF_none (by rw [h.e1]; omega)

theorem Skips.tooF {n : Nat} {g : Nat → Int} {a e : Nat} (h : Skips n g a e) : tooF n g 0 = false := by
  have hn := h.len; have ha := h.a1; have hae := h.ae; have g0 := h.g0; have e2 := h.e2; have e0 := h.e0; have e1 := h.e1
  rw [tooF_run 1 (by omega) _ 0 rfl (by omega) (fun j h1 h2 => by
    obtain rfl : j = 0 := by omega
    exact ⟨⟨by omega, by omega, by omega, by omega⟩, by omega⟩)]
  rw [tooF_over (by omega) h.g1 h.over ha, tooF_run e (by omega) _ a rfl (by omega) (fun j h1 h2 => ⟨(h.at j h1 (by omega)).1, (h.at j h1 (by omega)).2.1 (by omega)⟩)]
  rw [Go.Proofs.YtmpdpgbcflogfaaDoor.tooF, if_pos (by omega), h.tagF, h.digF, if_neg (by omega), nextF_plain ⟨by omega, by omega, by omega, by omega⟩]
  rw [tooF_run n (Nat.le_refl _) _ (e + 1) rfl (by omega) (fun j h1 h2 => by
    have : j = e + 1 ∨ j = e + 2 := by omega
    rcases this with rfl | rfl
    · exact ⟨⟨by omega, by omega, by omega, by omega⟩, by omega⟩
    · exact ⟨⟨by omega, by omega, by omega, by omega⟩, by omega⟩)]
  exact tooF_end (by omega)

theorem Skips.cutS {s : ByteArray} {a e : Nat} (h : Skips s.size (gAt s) a e) : endS s 0 = s.size ∧ cutS s = ([⟨1, s.extract 0 e, 0, ByteArray.empty⟩, ⟨3, ByteArray.empty, 2, ByteArray.empty⟩, ⟨1, s.extract (e + 2) s.size, 0, ByteArray.empty⟩], 0) := by
  have hn := h.len; have ha := h.a1; have hae := h.ae; have g0 := h.g0; have e2 := h.e2; have e0 := h.e0; have e1 := h.e1
  have he : endS s 0 = s.size := by unfold endS; rw [if_pos ⟨by omega, by omega, g0⟩]; exact h.endF
  refine ⟨he, ?_⟩
  unfold Go.Proofs.YtmpdpgbcflogfaaDoor.cutS
  rw [if_pos he, h.tooF, if_neg (by simp)]
  have hp : pieceF s s.size (gAt s) e = (⟨3, ByteArray.empty, 2, ByteArray.empty⟩, e + 2) := by
    rw [pieceF_eq, h.tagF, h.digF, if_neg (by omega), if_neg (by omega)]
    have e3 : e + 2 - (e + 1) = 1 := by omega
    have e4 : tagT s e (e + 1) = ByteArray.empty := by unfold tagT; rw [if_neg (by omega)]
    have e5 : numW (gAt s) (e + 1) 1 = 2 := by
      rw [numW, numW, Nat.add_zero, e1]; decide +kernel
    rw [e3, e4, e5]
  have hc : cutF s s.size (gAt s) 0 0 = [⟨1, s.extract 0 e, 0, ByteArray.empty⟩, ⟨3, ByteArray.empty, 2, ByteArray.empty⟩, ⟨1, s.extract (e + 2) s.size, 0, ByteArray.empty⟩] := by
    rw [cutF_run 1 (by omega) _ 0 rfl (by omega) (fun j h1 h2 => by
      obtain rfl : j = 0 := by omega
      exact ⟨⟨by omega, by omega, by omega, by omega⟩, by omega⟩)]
    rw [cutF_skip (by omega) h.g1, nextF_over h.over ha, cutF_run e (by omega) _ a rfl (by omega) (fun j h1 h2 => ⟨(h.at j h1 (by omega)).1, (h.at j h1 (by omega)).2.1 (by omega)⟩)]
    rw [cutF_piece (by omega) e0 (by rw [hp]; show ¬ (3 : Int) = 0; omega), hp]
    rw [cutF_run s.size (Nat.le_refl _) _ (e + 2) rfl (by omega) (fun j h1 h2 => by
      obtain rfl : j = e + 2 := by omega
      exact ⟨⟨by omega, by omega, by omega, by omega⟩, by omega⟩)]
    rw [cutF_end (by omega)]
    have t1 : txtL (s.extract 0 e) = [⟨1, s.extract 0 e, 0, ByteArray.empty⟩] := by unfold txtL; rw [if_neg (by rw [ByteArray.size_extract]; omega)]
    have t2 : txtL (s.extract (e + 2) s.size) = [⟨1, s.extract (e + 2) s.size, 0, ByteArray.empty⟩] := by unfold txtL; rw [if_neg (by rw [ByteArray.size_extract]; omega)]
    rw [t1, t2]; rfl
  rw [hc]

def Good (c : Int) : Prop := c ≠ 34 ∧ c ≠ 39 ∧ c ≠ 96 ∧ c ≠ 92 ∧ c ≠ 10 ∧ c ≠ 42 ∧ c ≠ 47
def AllGood (t : ByteArray) : Prop := ∀ j, j < t.size → Good (gAt t j)

def midC : ByteArray := ⟨#[123, 125, 125, 36, 49, 32, 36, 36]⟩
def endC : ByteArray := ⟨#[36, 50, 125]⟩
def skipsS (w0 t w1 : ByteArray) : ByteArray := ⟨#[123]⟩ ++ w0 ++ t ++ midC ++ w1 ++ endC
theorem skipsS_size (w0 t w1 : ByteArray) : (skipsS w0 t w1).size = 1 + w0.size + t.size + 8 + w1.size + 3 := by
  unfold skipsS
  rw [ByteArray.size_append, ByteArray.size_append, ByteArray.size_append, ByteArray.size_append, ByteArray.size_append]; rfl

theorem skips_at (w0 t w1 : ByteArray) (ht : AllGood t) : gAt (skipsS w0 t w1) 0 = 123 ∧ (∀ j, j < w0.size → gAt (skipsS w0 t w1) (1 + j) = gAt w0 j) ∧ (∀ j, 1 + w0.size ≤ j → j < 1 + w0.size + t.size + 8 → Good (gAt (skipsS w0 t w1) j)) ∧
    (∀ j, j < w1.size → gAt (skipsS w0 t w1) (1 + w0.size + t.size + 8 + j) = gAt w1 j) ∧ (∀ j, gAt (skipsS w0 t w1) (1 + w0.size + t.size + 8 + w1.size + j) = gAt endC j) := by
  have z1 : (⟨#[123]⟩ ++ w0 : ByteArray).size = 1 + w0.size := by rw [ByteArray.size_append]; rfl
  have z2 : (⟨#[123]⟩ ++ w0 ++ t : ByteArray).size = 1 + w0.size + t.size := by rw [ByteArray.size_append, z1]
  have z3 : (⟨#[123]⟩ ++ w0 ++ t ++ midC : ByteArray).size = 1 + w0.size + t.size + 8 := by rw [ByteArray.size_append, z2]; rfl
  have z4 : (⟨#[123]⟩ ++ w0 ++ t ++ midC ++ w1 : ByteArray).size = 1 + w0.size + t.size + 8 + w1.size := by rw [ByteArray.size_append, z3]
  have l5 : ∀ j, gAt (skipsS w0 t w1) (1 + w0.size + t.size + 8 + w1.size + j) = gAt endC j := fun j => by
    unfold skipsS; rw [gAt_right _ _ _ j (by omega)]
  have l4 : ∀ j, j < w1.size → gAt (skipsS w0 t w1) (1 + w0.size + t.size + 8 + j) = gAt w1 j := fun j hj => by
    unfold skipsS; rw [gAt_left _ _ _ (by omega), gAt_right _ _ _ j (by omega)]
  have l3 : ∀ j, j < 8 → gAt (skipsS w0 t w1) (1 + w0.size + t.size + j) = gAt midC j := fun j hj => by
    unfold skipsS; rw [gAt_left _ _ _ (by omega), gAt_left _ _ _ (by omega), gAt_right _ _ _ j (by omega)]
  have l2 : ∀ j, j < t.size → gAt (skipsS w0 t w1) (1 + w0.size + j) = gAt t j := fun j hj => by
    unfold skipsS; rw [gAt_left _ _ _ (by omega), gAt_left _ _ _ (by omega), gAt_left _ _ _ (by omega), gAt_right _ _ _ j (by omega)]
  have l1 : ∀ j, j < w0.size → gAt (skipsS w0 t w1) (1 + j) = gAt w0 j := fun j hj => by
    unfold skipsS; rw [gAt_left _ _ _ (by omega), gAt_left _ _ _ (by omega), gAt_left _ _ _ (by omega), gAt_left _ _ _ (by omega), gAt_right _ _ _ j (by show 1 + j = 1 + j; rfl)]
  have l0 : gAt (skipsS w0 t w1) 0 = 123 := by
    unfold skipsS; rw [gAt_left _ _ _ (by omega), gAt_left _ _ _ (by omega), gAt_left _ _ _ (by omega), gAt_left _ _ _ (by omega), gAt_left _ _ _ (by decide)]; decide
  refine ⟨l0, l1, fun j h1 h2 => ?_, l4, l5⟩
  by_cases h : j < 1 + w0.size + t.size
  · have := l2 (j - (1 + w0.size)) (by omega)
    rw [show 1 + w0.size + (j - (1 + w0.size)) = j by omega] at this
    rw [this]; exact ht _ (by omega)
  · have := l3 (j - (1 + w0.size + t.size)) (by omega)
    rw [show 1 + w0.size + t.size + (j - (1 + w0.size + t.size)) = j by omega] at this
    rw [this]
    have hk : j - (1 + w0.size + t.size) < 8 := by omega
    generalize j - (1 + w0.size + t.size) = k at hk ⊢
    have : k = 0 ∨ k = 1 ∨ k = 2 ∨ k = 3 ∨ k = 4 ∨ k = 5 ∨ k = 6 ∨ k = 7 := by omega
    unfold Good
    rcases this with rfl | rfl | rfl | rfl | rfl | rfl | rfl | rfl <;> decide

/-- the five ways in which a text is passed over -/
def aroundL : List (ByteArray × ByteArray) := [(⟨#[34]⟩, ⟨#[34]⟩), (⟨#[39]⟩, ⟨#[39]⟩), (⟨#[96]⟩, ⟨#[96]⟩), (⟨#[47, 47]⟩, ⟨#[10]⟩), (⟨#[47, 42]⟩, ⟨#[42, 47]⟩)]

theorem skips_quote {c : UInt8} (hc : c = 34 ∨ c = 39) (t : ByteArray) (ht : AllGood t) : ∃ a e, Skips (skipsS ⟨#[c]⟩ t ⟨#[c]⟩).size (gAt (skipsS ⟨#[c]⟩ t ⟨#[c]⟩)) a e := by
  obtain ⟨l0, l1, l3, l4, l5⟩ := skips_at ⟨#[c]⟩ t ⟨#[c]⟩ ht
  have hz := skipsS_size ⟨#[c]⟩ t ⟨#[c]⟩
  have hs : (⟨#[c]⟩ : ByteArray).size = 1 := rfl
  have hg : gAt ⟨#[c]⟩ 0 = c.toNat := rfl
  rw [hs] at hz l1 l3 l4 l5
  have g1 := l1 0 (by omega)
  have g4 := l4 0 (by omega)
  have q0 := l5 0; have q1 := l5 1; have q2 := l5 2
  generalize skipsS ⟨#[c]⟩ t ⟨#[c]⟩ = s at *
  rw [hg] at g1 g4
  simp only [Nat.add_zero] at g1 g4
  have hcc : (c.toNat : Int) = 34 ∨ (c.toNat : Int) = 39 := by rcases hc with rfl | rfl; exact .inl rfl; exact .inr rfl
  refine ⟨1 + 1 + t.size + 8 + 1, 1 + 1 + t.size + 8 + 1, by omega, by omega, by omega, l0, by omega, ?_, fun j h1 h2 => by omega, q0.trans (by decide), q1.trans (by decide), q2.trans (by decide)⟩
  unfold overF
  rw [if_pos (by rw [g1]; exact hcc), g1]
  rw [quo_run (1 + 1 + t.size + 8) (by omega) _ (1 + 1) rfl (by omega) (fun j h1 h2 => by
    obtain ⟨a1, a2, a3, a4, a5, a6, a7⟩ := l3 j (by omega) h2
    exact ⟨by omega, a4, a5⟩)]
  rw [quo, if_pos (by omega), if_pos g4]; omega

theorem skips_back (t : ByteArray) (ht : AllGood t) : ∃ a e, Skips (skipsS ⟨#[96]⟩ t ⟨#[96]⟩).size (gAt (skipsS ⟨#[96]⟩ t ⟨#[96]⟩)) a e := by
  obtain ⟨l0, l1, l3, l4, l5⟩ := skips_at ⟨#[96]⟩ t ⟨#[96]⟩ ht
  have hz := skipsS_size ⟨#[96]⟩ t ⟨#[96]⟩
  have hs : (⟨#[96]⟩ : ByteArray).size = 1 := rfl
  have hg : gAt ⟨#[96]⟩ 0 = 96 := by decide
  rw [hs] at hz l1 l3 l4 l5
  have g1 := l1 0 (by omega)
  have g4 := l4 0 (by omega)
  have q0 := l5 0; have q1 := l5 1; have q2 := l5 2
  generalize skipsS ⟨#[96]⟩ t ⟨#[96]⟩ = s at *
  rw [hg] at g1 g4
  refine ⟨1 + 1 + t.size + 8 + 1, 1 + 1 + t.size + 8 + 1, by omega, by omega, by omega, l0, by simp at g1; omega, ?_, fun j h1 h2 => by omega, q0.trans (by decide), q1.trans (by decide), q2.trans (by decide)⟩
  have hf : findB s.size (gAt s) 96 (1 + 1) = ((1 + 1 + t.size + 8 : Nat) : Int) := by
    rw [findB_run (1 + 1 + t.size + 8) (by omega) _ (1 + 1) rfl (by omega) (fun j h1 h2 => by
      obtain ⟨a1, a2, a3, a4, a5, a6, a7⟩ := l3 j (by omega) h2
      exact a3)]
    rw [findB, if_pos (by omega), if_pos g4]
  simp only [Nat.add_zero] at g1
  unfold overF
  rw [if_neg (by omega), if_pos g1, hf, if_neg (by omega)]; omega

theorem skips_line (t : ByteArray) (ht : AllGood t) : ∃ a e, Skips (skipsS ⟨#[47, 47]⟩ t ⟨#[10]⟩).size (gAt (skipsS ⟨#[47, 47]⟩ t ⟨#[10]⟩)) a e := by
  obtain ⟨l0, l1, l3, l4, l5⟩ := skips_at ⟨#[47, 47]⟩ t ⟨#[10]⟩ ht
  have hz := skipsS_size ⟨#[47, 47]⟩ t ⟨#[10]⟩
  have hs : (⟨#[47, 47]⟩ : ByteArray).size = 2 := rfl
  have hs2 : (⟨#[10]⟩ : ByteArray).size = 1 := rfl
  rw [hs, hs2] at hz
  rw [hs] at l1 l3 l4 l5
  rw [hs2] at l4 l5
  have g1 := (l1 0 (by omega)).trans (show _ = (47 : Int) by decide)
  have g2 := (l1 1 (by omega)).trans (show _ = (47 : Int) by decide)
  have g4 := (l4 0 (by omega)).trans (show _ = (10 : Int) by decide)
  have q0 := l5 0; have q1 := l5 1; have q2 := l5 2
  generalize skipsS ⟨#[47, 47]⟩ t ⟨#[10]⟩ = s at *
  simp only [Nat.add_zero] at g1 g4
  have g2' : gAt s 2 = 47 := g2
  refine ⟨1 + 2 + t.size + 8, 1 + 2 + t.size + 8 + 1, by omega, by omega, by omega, l0, by omega, ?_, fun j h1 h2 => ?_, q0.trans (by decide), q1.trans (by decide), q2.trans (by decide)⟩
  · have hf : findB s.size (gAt s) 10 1 = ((1 + 2 + t.size + 8 : Nat) : Int) := by
      rw [findB_run (1 + 2 + t.size + 8) (by omega) _ 1 rfl (by omega) (fun j h1 h2 => by
        by_cases h3 : j < 3
        · have : j = 1 ∨ j = 2 := by omega
          rcases this with rfl | rfl <;> omega
        · exact (l3 j (by omega) h2).2.2.2.2.1)]
      rw [findB, if_pos (by omega), if_pos g4]
    unfold overF
    rw [if_neg (by omega), if_neg (by omega), if_pos ⟨by omega, g1, g2'⟩, hf, if_neg (by omega)]
  · obtain rfl : j = 1 + 2 + t.size + 8 := by omega
    unfold PlainAt; omega

theorem skips_block (t : ByteArray) (ht : AllGood t) : ∃ a e, Skips (skipsS ⟨#[47, 42]⟩ t ⟨#[42, 47]⟩).size (gAt (skipsS ⟨#[47, 42]⟩ t ⟨#[42, 47]⟩)) a e := by
  obtain ⟨l0, l1, l3, l4, l5⟩ := skips_at ⟨#[47, 42]⟩ t ⟨#[42, 47]⟩ ht
  have hz := skipsS_size ⟨#[47, 42]⟩ t ⟨#[42, 47]⟩
  have hs : (⟨#[47, 42]⟩ : ByteArray).size = 2 := rfl
  have hs2 : (⟨#[42, 47]⟩ : ByteArray).size = 2 := rfl
  rw [hs, hs2] at hz
  rw [hs] at l1 l3 l4 l5
  rw [hs2] at l4 l5
  have g1 := (l1 0 (by omega)).trans (show _ = (47 : Int) by decide)
  have g2 := (l1 1 (by omega)).trans (show _ = (42 : Int) by decide)
  have g4 := (l4 0 (by omega)).trans (show _ = (42 : Int) by decide)
  have g5 := (l4 1 (by omega)).trans (show _ = (47 : Int) by decide)
  have q0 := l5 0; have q1 := l5 1; have q2 := l5 2
  generalize skipsS ⟨#[47, 42]⟩ t ⟨#[42, 47]⟩ = s at *
  simp only [Nat.add_zero] at g1 g4
  have g2' : gAt s 2 = 42 := g2
  refine ⟨1 + 2 + t.size + 8 + 2, 1 + 2 + t.size + 8 + 2, by omega, by omega, by omega, l0, by omega, ?_, fun j h1 h2 => by omega, q0.trans (by decide), q1.trans (by decide), q2.trans (by decide)⟩
  have hf : findW s.size (gAt s) 42 47 3 = ((1 + 2 + t.size + 8 : Nat) : Int) := by
    rw [findW_run (1 + 2 + t.size + 8) (by omega) _ 3 rfl (by omega) (fun j h1 h2 => (l3 j (by omega) h2).2.2.2.2.2.1)]
    rw [findW, if_pos (by omega), if_pos ⟨g4, g5⟩]
  unfold overF
  rw [if_neg (by omega), if_neg (by omega), if_neg (fun hc => by have h2 := hc.2.2; simp at h2; omega), if_pos ⟨by omega, g1, g2'⟩, show 1 + 2 = 3 from rfl, hf, if_neg (by omega)]; omega

end Go.Proofs.YtmpdpgbcflogfaaDoor
