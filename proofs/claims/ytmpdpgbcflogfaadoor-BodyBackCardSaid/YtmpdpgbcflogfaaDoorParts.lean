/- A dollar with digits behind it: how it is cut. -/
import Derived.Test.YtmpdpgbcflogfaaDoorRun
namespace Go.Proofs.YtmpdpgbcflogfaaDoor
open Go.RowKit
set_option linter.unusedVariables false

theorem gAt_left (a b : ByteArray) (j : Nat) (h : j < a.size) : gAt (a ++ b) j = gAt a j := by
  unfold gAt
  rw [ByteArray.data_append, Array.toList_append, List.getD_eq_getElem?_getD, List.getD_eq_getElem?_getD, List.getElem?_append_left (by simpa using h)]
theorem gAt_right (a b : ByteArray) (j k : Nat) (h : j = a.size + k) : gAt (a ++ b) j = gAt b k := by
  subst h
  have hs : a.data.toList.length = a.size := rfl
  unfold gAt
  rw [ByteArray.data_append, Array.toList_append, List.getD_eq_getElem?_getD, List.getD_eq_getElem?_getD, List.getElem?_append_right (by omega)]
  rw [show a.size + k - a.data.toList.length = k by omega]

/-- the shape of such a text: q: how long the tag is with its angles (0: there is none); m: how many digits -/
structure Parts (n : Nat) (g : Nat → Int) (q m : Nat) : Prop where
  n : n = 2 + q + m + 2
  g0 : g 0 = 123
  g1 : g 1 = 36
  tag : q = 0 ∨ q = 3 ∧ g 2 = 60 ∧ g 3 = 118 ∧ g 4 = 62
  digs : ∀ j, j < m → 48 ≤ g (2 + q + j) ∧ g (2 + q + j) ≤ 57
  m1 : 1 ≤ m
  e0 : g (2 + q + m) = 32
  e1 : g (2 + q + m + 1) = 125

theorem Parts.at {n : Nat} {g : Nat → Int} {q m : Nat} (h : Parts n g q m) (j : Nat) (hj : j < 2 + q + m + 1) : PlainAt g j ∧ (j ≠ 0 → g j ≠ 123) ∧ g j ≠ 125 ∧ (j ≠ 1 → g j ≠ 36) := by
  unfold PlainAt
  have hc : j = 0 ∨ j = 1 ∨ (2 ≤ j ∧ j < 2 + q) ∨ (∃ k, k < m ∧ j = 2 + q + k) ∨ j = 2 + q + m := by
    by_cases h2 : j < 2 + q
    · omega
    · by_cases h3 : j < 2 + q + m
      · exact .inr (.inr (.inr (.inl ⟨j - (2 + q), by omega, by omega⟩)))
      · omega
  rcases hc with rfl | rfl | ⟨h2, h3⟩ | ⟨k, hk, rfl⟩ | rfl
  · have := h.g0; omega
  · have := h.g1; omega
  · rcases h.tag with hq | ⟨hq, t2, t3, t4⟩
    · omega
    · have : j = 2 ∨ j = 3 ∨ j = 4 := by omega
      rcases this with rfl | rfl | rfl <;> omega
  · have := h.digs k hk; omega
  · have := h.e0; omega

theorem Parts.endF {n : Nat} {g : Nat → Int} {q m : Nat} (h : Parts n g q m) : endF n g 0 0 = n := by
  have hn := h.n
  have h0 := h.at 0 (by omega)
  have d0 : deepF g 0 0 = 1 := by unfold deepF; rw [if_pos h.g0]; rfl
  rw [endF_plain (by omega) h0.1 (by rw [d0]; omega), d0, endF_run (by omega) (2 + q + m + 1) (by omega) _ 1 rfl (by omega) (fun j h1 h2 => ⟨(h.at j h2).1, (h.at j h2).2.1 (by omega), (h.at j h2).2.2.1⟩)]
  have he := h.e1
  rw [endF_last (by omega) ⟨by omega, by omega, by omega, by omega⟩ (by unfold deepF; rw [if_neg (by omega), if_pos he]; rfl)]
  omega

theorem Parts.tagF {n : Nat} {g : Nat → Int} {q m : Nat} (h : Parts n g q m) : tagF n g 2 = 2 + q := by
  have hn := h.n
  rcases h.tag with hq | ⟨hq, t2, t3, t4⟩
  · have := h.digs 0 h.m1
    rw [tagF_none (by rw [hq] at this; simp at this; omega), hq]
  · have hb : begB (g 3) = true := by rw [t3]; rfl
    have hm := h.m1
    have hnw : nameW n g 3 = 4 := by
      rw [nameW, if_pos ⟨by omega, .inl hb⟩, nameW, if_neg]
      rw [t4]; rintro ⟨_, h | h | h⟩
      · revert h; decide
      · revert h; decide
      · omega
    have hnf : nameF n g 3 = 4 := by unfold nameF; rw [if_pos ⟨by omega, hb⟩, hnw]
    unfold Go.Proofs.YtmpdpgbcflogfaaDoor.tagF
    rw [hnf, if_pos ⟨by omega, t2, by omega, by omega, by omega, t4⟩, hq]

theorem Parts.digF {n : Nat} {g : Nat → Int} {q m : Nat} (h : Parts n g q m) : digF n g (2 + q) = 2 + q + m := by
  have hn := h.n
  refine digF_stop (2 + q + m) (by omega) ?_ _ _ rfl (by omega) (fun j h1 h2 => ?_)
  · rw [h.e0]; rintro ⟨_, h⟩; revert h; decide
  · have := h.digs (j - (2 + q)) (by omega)
    rw [show 2 + q + (j - (2 + q)) = j by omega] at this
    unfold digB; simpa using this

theorem Parts.tooF {n : Nat} {g : Nat → Int} {q m : Nat} (h : Parts n g q m) : tooF n g 0 = decide (3 < m) := by
  have hn := h.n
  rw [tooF_run 1 (by omega) _ 0 rfl (by omega) (fun j h1 h2 => ⟨(h.at j (by omega)).1, (h.at j (by omega)).2.2.2 (by omega)⟩)]
  rw [Go.Proofs.YtmpdpgbcflogfaaDoor.tooF, if_pos (by omega), h.tagF, h.digF, nextF_plain (h.at 1 (by omega)).1]
  by_cases h3 : 3 < m
  · rw [if_pos ⟨h.g1, by omega⟩, decide_eq_true h3]
  · rw [if_neg (fun hc => h3 (by omega)), decide_eq_false h3]
    rw [tooF_run (2 + q + m + 1) (by omega) _ 2 rfl (by omega) (fun j h1 h2 => ⟨(h.at j h2).1, (h.at j h2).2.2.2 (by omega)⟩)]
    have he := h.e1
    rw [tooF_run n (Nat.le_refl _) _ (2 + q + m + 1) rfl (by omega) (fun j h1 h2 => by
      obtain rfl : j = 2 + q + m + 1 := by omega
      exact ⟨⟨by omega, by omega, by omega, by omega⟩, by omega⟩)]
    exact tooF_end (by omega)

theorem Parts.cutF {s : ByteArray} {n : Nat} {g : Nat → Int} {q m : Nat} (h : Parts n g q m) (hs : s.size = n) :
    cutF s n g 0 0 = [⟨1, s.extract 0 1, 0, ByteArray.empty⟩, ⟨3, ByteArray.empty, numW g (2 + q) m, if q = 0 then ByteArray.empty else s.extract 3 4⟩, ⟨1, s.extract (2 + q + m) n, 0, ByteArray.empty⟩] := by
  have hn := h.n
  have hp : pieceF s n g 1 = (⟨3, ByteArray.empty, numW g (2 + q) m, if q = 0 then ByteArray.empty else s.extract 3 4⟩, 2 + q + m) := by
    rw [pieceF_eq, h.tagF, h.digF]
    have hd := h.digs 0 h.m1
    have hm := h.m1
    rw [if_neg (fun hc => by have := hc.2; simp at hd; omega), if_neg (by omega)]
    have e1 : 2 + q + m - (2 + q) = m := by omega
    have e2 : tagT s 1 (2 + q) = if q = 0 then ByteArray.empty else s.extract 3 4 := by
      unfold tagT
      rcases h.tag with hq | ⟨hq, _⟩
      · rw [if_neg (by omega), if_pos hq]
      · rw [if_pos (by omega), if_neg (by omega), hq]
    rw [e1, e2]
  rw [cutF_run 1 (by omega) _ 0 rfl (by omega) (fun j h1 h2 => ⟨(h.at j (by omega)).1, (h.at j (by omega)).2.2.2 (by omega)⟩)]
  rw [cutF_piece (by omega) h.g1 (by rw [hp]; show ¬ (3 : Int) = 0; omega), hp]
  have he := h.e1
  rw [cutF_run n (Nat.le_refl _) _ (2 + q + m) rfl (by omega) (fun j h1 h2 => by
    by_cases hj : j = 2 + q + m + 1
    · subst hj; exact ⟨⟨by omega, by omega, by omega, by omega⟩, by omega⟩
    · exact ⟨(h.at j (by omega)).1, (h.at j (by omega)).2.2.2 (by omega)⟩)]
  rw [cutF_end (by omega)]
  have t1 : txtL (s.extract 0 1) = [⟨1, s.extract 0 1, 0, ByteArray.empty⟩] := by unfold txtL; rw [if_neg (by rw [ByteArray.size_extract]; omega)]
  have t2 : txtL (s.extract (2 + q + m) s.size) = [⟨1, s.extract (2 + q + m) n, 0, ByteArray.empty⟩] := by unfold txtL; rw [if_neg (by rw [ByteArray.size_extract]; omega), hs]
  rw [t1, t2]
  rfl

theorem Parts.cutS {s : ByteArray} {q m : Nat} (h : Parts s.size (gAt s) q m) : cutS s = if 3 < m then ([], 6) else ([⟨1, s.extract 0 1, 0, ByteArray.empty⟩, ⟨3, ByteArray.empty, numW (gAt s) (2 + q) m, if q = 0 then ByteArray.empty else s.extract 3 4⟩, ⟨1, s.extract (2 + q + m) s.size, 0, ByteArray.empty⟩], 0) := by
  unfold Go.Proofs.YtmpdpgbcflogfaaDoor.cutS
  have he : endS s 0 = s.size := by unfold endS; rw [if_pos ⟨by omega, by have := h.n; omega, h.g0⟩]; exact h.endF
  rw [if_pos he, h.tooF]
  by_cases h3 : 3 < m
  · rw [if_pos h3, if_pos (decide_eq_true h3)]
  · rw [if_neg h3, if_neg (by simpa using h3), h.cutF rfl]

/-- the number that digits are -/
def hor (l : List UInt8) : Nat := l.foldl (fun a c => a * 10 + (c.toNat - 48)) 0
theorem hor_snoc (l : List UInt8) (c : UInt8) : hor (l ++ [c]) = hor l * 10 + (c.toNat - 48) := by unfold hor; rw [List.foldl_append]; rfl
theorem hor_nought (l : List UInt8) : hor (48 :: l) = hor l := rfl
theorem hor_dec (n : Nat) : hor (Lib.decDigits n) = n := by
  induction n using Nat.strongRecOn with
  | ind n ih =>
    rw [Lib.decDigits]
    split
    · rename_i h
      show 0 * 10 + ((UInt8.ofNat (48 + n)).toNat - 48) = n
      rw [UInt8.toNat_ofNat']
      omega
    · rename_i h
      rw [hor_snoc, ih (n / 10) (by omega), UInt8.toNat_ofNat']
      omega

theorem wrap64_small {x : Int} (h0 : 0 ≤ x) (h1 : x < 1000000) : wrap64 x = x := by unfold wrap64; omega

theorem numW_hor (g : Nat → Int) (b : Nat) (l : List UInt8) (hl : l.length ≤ 3) (hd : ∀ j, j < l.length → 48 ≤ g (b + j) ∧ g (b + j) ≤ 57 ∧ g (b + j) = ((l.getD j 0).toNat : Int)) :
    ∀ k, k ≤ l.length → numW g b k = (hor (l.take k) : Nat) ∧ hor (l.take k) < 10 ^ k := by
  intro k
  induction k with
  | zero => intro _; exact ⟨rfl, by simp [hor]⟩
  | succ k ih =>
    intro hk
    obtain ⟨h1, h2⟩ := ih (by omega)
    obtain ⟨d1, d2, d3⟩ := hd k (by omega)
    have hkl : k < l.length := by omega
    have hp : 10 ^ k ≤ 100 := by
      have : k = 0 ∨ k = 1 ∨ k = 2 := by omega
      rcases this with rfl | rfl | rfl <;> decide
    have hg : l.getD k 0 = l[k] := by rw [List.getD_eq_getElem?_getD, List.getElem?_eq_getElem hkl]; rfl
    rw [hg] at d3
    rw [numW, h1, List.take_succ_eq_append_getElem hkl, hor_snoc]
    have e1 : wrap64 ((hor (l.take k) : Nat) * 10 : Int) = (hor (l.take k) : Nat) * 10 := wrap64_small (by omega) (by omega)
    rw [e1, wrap64_small (by omega) (by omega)]
    refine ⟨by omega, ?_⟩
    rw [Nat.pow_succ]; omega

end Go.Proofs.YtmpdpgbcflogfaaDoor
