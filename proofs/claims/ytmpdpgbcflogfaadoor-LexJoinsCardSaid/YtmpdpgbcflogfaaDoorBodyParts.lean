/- Runs of plain bytes: nothing is passed over, no brace, no dollar. -/
import Derived.Test.YtmpdpgbcflogfaaDoorBodyJoins
namespace Go.Proofs.YtmpdpgbcflogfaaDoor
section
open Go.RowKit
set_option linter.unusedVariables false

theorem overF_self {n : Nat} {g : Nat → Int} {i : Nat} (h1 : g i ≠ 34) (h2 : g i ≠ 39) (h3 : g i ≠ 96) (h4 : g i ≠ 47) : overF n g i = i := by
  unfold overF
  rw [if_neg (by omega), if_neg h3, if_neg (fun h => h4 h.2.1), if_neg (fun h => h4 h.2.1)]

/-- a byte at which nothing happens -/
def PlainAt (g : Nat → Int) (i : Nat) : Prop := g i ≠ 34 ∧ g i ≠ 39 ∧ g i ≠ 96 ∧ g i ≠ 47
theorem PlainAt.over {n : Nat} {g : Nat → Int} {i : Nat} (h : PlainAt g i) : overF n g i = i := overF_self h.1 h.2.1 h.2.2.1 h.2.2.2

theorem endF_plain {n : Nat} {g : Nat → Int} {i : Nat} {d : Int} (hi : i < n) (h : PlainAt g i) (hd : deepF g i d ≠ 0) : endF n g i d = endF n g (i + 1) (deepF g i d) := by
  rw [endF, if_pos hi, if_neg (by rw [h.over]; omega), if_neg (by rw [h.over]; omega), if_neg hd]
theorem endF_last {n : Nat} {g : Nat → Int} {i : Nat} {d : Int} (hi : i < n) (h : PlainAt g i) (hd : deepF g i d = 0) : endF n g i d = (i : Int) + 1 := by
  rw [endF, if_pos hi, if_neg (by rw [h.over]; omega), if_neg (by rw [h.over]; omega), if_pos hd]
theorem endF_over {n : Nat} {g : Nat → Int} {i k : Nat} {d : Int} (hi : i < n) (h : overF n g i = k) (hk : i < k) : endF n g i d = endF n g k d := by
  rw [endF, if_pos hi, if_neg (by rw [h]; omega), if_pos (by rw [h]; omega), h]; rfl

theorem endF_run {n : Nat} {g : Nat → Int} {d : Int} (hd : d ≠ 0) (e : Nat) (he : e ≤ n) : ∀ m i, e - i = m → i ≤ e → (∀ j, i ≤ j → j < e → PlainAt g j ∧ g j ≠ 123 ∧ g j ≠ 125) → endF n g i d = endF n g e d := by
  intro m
  induction m with
  | zero => intro i h1 h2 _; rw [show i = e by omega]
  | succ m ih =>
    intro i h1 h2 h
    obtain ⟨hp, h3, h4⟩ := h i (Nat.le_refl _) (by omega)
    have hde : deepF g i d = d := by unfold deepF; rw [if_neg h3, if_neg h4]
    rw [endF_plain (by omega) hp (by rw [hde]; exact hd), hde]
    exact ih (i + 1) (by omega) (by omega) (fun j hj hj2 => h j (by omega) hj2)

theorem nextF_plain {n : Nat} {g : Nat → Int} {i : Nat} (h : PlainAt g i) : nextF n g i = i + 1 := by
  unfold nextF; rw [h.over]; omega
theorem nextF_over {n : Nat} {g : Nat → Int} {i k : Nat} (h : overF n g i = k) (hk : i < k) : nextF n g i = k := by
  unfold nextF; rw [h]; omega

theorem tooF_run {n : Nat} {g : Nat → Int} (e : Nat) (he : e ≤ n) : ∀ m i, e - i = m → i ≤ e → (∀ j, i ≤ j → j < e → PlainAt g j ∧ g j ≠ 36) → tooF n g i = tooF n g e := by
  intro m
  induction m with
  | zero => intro i h1 h2 _; rw [show i = e by omega]
  | succ m ih =>
    intro i h1 h2 h
    obtain ⟨hp, h3⟩ := h i (Nat.le_refl _) (by omega)
    rw [tooF, if_pos (by omega), if_neg (fun hc => h3 hc.1), nextF_plain hp]
    exact ih (i + 1) (by omega) (by omega) (fun j hj hj2 => h j (by omega) hj2)
theorem tooF_end {n : Nat} {g : Nat → Int} {i : Nat} (h : ¬ i < n) : tooF n g i = false := by rw [tooF, if_neg h]
theorem tooF_over {n : Nat} {g : Nat → Int} {i k : Nat} (hi : i < n) (h36 : g i ≠ 36) (h : overF n g i = k) (hk : i < k) : tooF n g i = tooF n g k := by
  rw [tooF, if_pos hi, if_neg (fun hc => h36 hc.1), nextF_over h hk]

theorem cutF_run {s : ByteArray} {n : Nat} {g : Nat → Int} {f : Nat} (e : Nat) (he : e ≤ n) : ∀ m i, e - i = m → i ≤ e → (∀ j, i ≤ j → j < e → PlainAt g j ∧ g j ≠ 36) → cutF s n g f i = cutF s n g f e := by
  intro m
  induction m with
  | zero => intro i h1 h2 _; rw [show i = e by omega]
  | succ m ih =>
    intro i h1 h2 h
    obtain ⟨hp, h3⟩ := h i (Nat.le_refl _) (by omega)
    rw [cutF_skip (by omega) h3, nextF_plain hp]
    exact ih (i + 1) (by omega) (by omega) (fun j hj hj2 => h j (by omega) hj2)

theorem digF_stop {n : Nat} {g : Nat → Int} (e : Nat) (he : e ≤ n) (hs : ¬ (e < n ∧ digB (g e) = true)) : ∀ m i, e - i = m → i ≤ e → (∀ j, i ≤ j → j < e → digB (g j) = true) → digF n g i = e := by
  intro m
  induction m with
  | zero => intro i h1 h2 _; rw [show i = e by omega, digF, if_neg hs]
  | succ m ih =>
    intro i h1 h2 h
    rw [digF, if_pos ⟨by omega, h i (Nat.le_refl _) (by omega)⟩]
    exact ih (i + 1) (by omega) (by omega) (fun j hj hj2 => h j (by omega) hj2)

theorem tagF_none {n : Nat} {g : Nat → Int} {i : Nat} (h : g i ≠ 60) : tagF n g i = i := by
  unfold tagF; rw [if_neg (fun hc => h hc.2.1)]
end

section
open Go.RowKit
set_option linter.unusedVariables false

theorem gAt_left (a b : ByteArray) (j : Nat) (h : j < a.size) : gAt (a ++ b) j = gAt a j := by
  unfold gAt
  rw [ByteArray.data_append, Array.toList_append, List.getD_eq_getElem?_getD, List.getD_eq_getElem?_getD, List.getElem?_append_left (by simpa using h)]
theorem gAt_right (a b : ByteArray) (j k : Nat) (h : j = a.size + k) : gAt (a ++ b) j = gAt b k := by
  subst h
  have hs : a.data.toList.length = a.size := rfl
  unfold gAt
  rw [ByteArray.data_append, Array.toList_append, List.getD_eq_getElem?_getD, List.getD_eq_getElem?_getD, List.getElem?_append_right (by omega)]
  rw [show a.size + k - a.data.toList.length = k by omega]

/-- the shape of such a text: q: how long the tag is with its angles (0: there is none); m: how many digits -/
structure Parts (n : Nat) (g : Nat → Int) (q m : Nat) : Prop where
  n : n = 2 + q + m + 2
  g0 : g 0 = 123
  g1 : g 1 = 36
  tag : q = 0 ∨ q = 3 ∧ g 2 = 60 ∧ g 3 = 118 ∧ g 4 = 62
  digs : ∀ j, j < m → 48 ≤ g (2 + q + j) ∧ g (2 + q + j) ≤ 57
  m1 : 1 ≤ m
  e0 : g (2 + q + m) = 32
  e1 : g (2 + q + m + 1) = 125

theorem Parts.at {n : Nat} {g : Nat → Int} {q m : Nat} (h : Parts n g q m) (j : Nat) (hj : j < 2 + q + m + 1) : PlainAt g j ∧ (j ≠ 0 → g j ≠ 123) ∧ g j ≠ 125 ∧ (j ≠ 1 → g j ≠ 36) := by
  unfold PlainAt
  have hc : j = 0 ∨ j = 1 ∨ (2 ≤ j ∧ j < 2 + q) ∨ (∃ k, k < m ∧ j = 2 + q + k) ∨ j = 2 + q + m := by
    by_cases h2 : j < 2 + q
    · omega
    · by_cases h3 : j < 2 + q + m
      · exact .inr (.inr (.inr (.inl ⟨j - (2 + q), by omega, by omega⟩)))
      · omega
  rcases hc with rfl | rfl | ⟨h2, h3⟩ | ⟨k, hk, rfl⟩ | rfl
  · have := h.g0; omega
  · have := h.g1; omega
  · rcases h.tag with hq | ⟨hq, t2, t3, t4⟩
    · omega
    · have : j = 2 ∨ j = 3 ∨ j = 4 := by omega
      rcases this with rfl | rfl | rfl <;> omega
  · have := h.digs k hk; omega
  · have := h.e0; omega

theorem Parts.endF {n : Nat} {g : Nat → Int} {q m : Nat} (h : Parts n g q m) : endF n g 0 0 = n := by
  have hn := h.n
  have h0 := h.at 0 (by omega)
  have d0 : deepF g 0 0 = 1 := by unfold deepF; rw [if_pos h.g0]; rfl
  rw [endF_plain (by omega) h0.1 (by rw [d0]; omega), d0, endF_run (by omega) (2 + q + m + 1) (by omega) _ 1 rfl (by omega) (fun j h1 h2 => ⟨(h.at j h2).1, (h.at j h2).2.1 (by omega), (h.at j h2).2.2.1⟩)]
  have he := h.e1
  rw [endF_last (by omega) ⟨by omega, by omega, by omega, by omega⟩ (by unfold deepF; rw [if_neg (by omega), if_pos he]; rfl)]
  omega

theorem Parts.tagF {n : Nat} {g : Nat → Int} {q m : Nat} (h : Parts n g q m) : tagF n g 2 = 2 + q := by
  have hn := h.n
  rcases h.tag with hq | ⟨hq, t2, t3, t4⟩
  · have := h.digs 0 h.m1
    rw [tagF_none (by rw [hq] at this; simp at this; omega), hq]
  · have hb : begB (g 3) = true := by rw [t3]; rfl
    have hm := h.m1
    have hnw : nameW n g 3 = 4 := by
      rw [nameW, if_pos ⟨by omega, .inl hb⟩, nameW, if_neg]
      rw [t4]; rintro ⟨_, h | h | h⟩
      · revert h; decide
      · revert h; decide
      · omega
    have hnf : nameF n g 3 = 4 := by unfold nameF; rw [if_pos ⟨by omega, hb⟩, hnw]
    unfold Go.Proofs.YtmpdpgbcflogfaaDoor.tagF
    rw [hnf, if_pos ⟨by omega, t2, by omega, by omega, by omega, t4⟩, hq]

theorem Parts.digF {n : Nat} {g : Nat → Int} {q m : Nat} (h : Parts n g q m) : digF n g (2 + q) = 2 + q + m := by
  have hn := h.n
  refine digF_stop (2 + q + m) (by omega) ?_ _ _ rfl (by omega) (fun j h1 h2 => ?_)
  · rw [h.e0]; rintro ⟨_, h⟩; revert h; decide
  · have := h.digs (j - (2 + q)) (by omega)
    rw [show 2 + q + (j - (2 + q)) = j by omega] at this
    unfold digB; simpa using this

theorem Parts.tooF {n : Nat} {g : Nat → Int} {q m : Nat} (h : Parts n g q m) : tooF n g 0 = decide (3 < m) := by
  have hn := h.n
  rw [tooF_run 1 (by omega) _ 0 rfl (by omega) (fun j h1 h2 => ⟨(h.at j (by omega)).1, (h.at j (by omega)).2.2.2 (by omega)⟩)]
  rw [Go.Proofs.YtmpdpgbcflogfaaDoor.tooF, if_pos (by omega), h.tagF, h.digF, nextF_plain (h.at 1 (by omega)).1]
  by_cases h3 : 3 < m
  · rw [if_pos ⟨h.g1, by omega⟩, decide_eq_true h3]
  · rw [if_neg (fun hc => h3 (by omega)), decide_eq_false h3]
    rw [tooF_run (2 + q + m + 1) (by omega) _ 2 rfl (by omega) (fun j h1 h2 => ⟨(h.at j h2).1, (h.at j h2).2.2.2 (by omega)⟩)]
    have he := h.e1
    rw [tooF_run n (Nat.le_refl _) _ (2 + q + m + 1) rfl (by omega) (fun j h1 h2 => by
      obtain rfl : j = 2 + q + m + 1 := by omega
      exact ⟨⟨by omega, by omega, by omega, by omega⟩, by omega⟩)]
    exact tooF_end (by omega)

theorem Parts.cutF {s : ByteArray} {n : Nat} {g : Nat → Int} {q m : Nat} (h : Parts n g q m) (hs : s.size = n) :
    cutF s n g 0 0 = [⟨1, s.extract 0 1, 0, ByteArray.empty⟩, ⟨3, ByteArray.empty, numW g (2 + q) m, if q = 0 then ByteArray.empty else s.extract 3 4⟩, ⟨1, s.extract (2 + q + m) n, 0, ByteArray.empty⟩] := by
  have hn := h.n
  have hp : pieceF s n g 1 = (⟨3, ByteArray.empty, numW g (2 + q) m, if q = 0 then ByteArray.empty else s.extract 3 4⟩, 2 + q + m) := by
    rw [pieceF_eq, h.tagF, h.digF]
    have hd := h.digs 0 h.m1
    have hm := h.m1
    rw [if_neg (fun hc => by have := hc.2; simp at hd; omega), if_neg (by omega)]
    have e1 : 2 + q + m - (2 + q) = m := by omega
    have e2 : tagT s 1 (2 + q) = if q = 0 then ByteArray.empty else s.extract 3 4 := by
      unfold tagT
      rcases h.tag with hq | ⟨hq, _⟩
      · rw [if_neg (by omega), if_pos hq]
      · rw [if_pos (by omega), if_neg (by omega), hq]
    rw [e1, e2]
  rw [cutF_run 1 (by omega) _ 0 rfl (by omega) (fun j h1 h2 => ⟨(h.at j (by omega)).1, (h.at j (by omega)).2.2.2 (by omega)⟩)]
  rw [cutF_piece (by omega) h.g1 (by rw [hp]; show ¬ (3 : Int) = 0; omega), hp]
  have he := h.e1
  rw [cutF_run n (Nat.le_refl _) _ (2 + q + m) rfl (by omega) (fun j h1 h2 => by
    by_cases hj : j = 2 + q + m + 1
    · subst hj; exact ⟨⟨by omega, by omega, by omega, by omega⟩, by omega⟩
    · exact ⟨(h.at j (by omega)).1, (h.at j (by omega)).2.2.2 (by omega)⟩)]
  rw [cutF_end (by omega)]
  have t1 : txtL (s.extract 0 1) = [⟨1, s.extract 0 1, 0, ByteArray.empty⟩] := by unfold txtL; rw [if_neg (by rw [ByteArray.size_extract]; omega)]
  have t2 : txtL (s.extract (2 + q + m) s.size) = [⟨1, s.extract (2 + q + m) n, 0, ByteArray.empty⟩] := by unfold txtL; rw [if_neg (by rw [ByteArray.size_extract]; omega), hs]
  rw [t1, t2]
  rfl

theorem Parts.cutS {s : ByteArray} {q m : Nat} (h : Parts s.size (gAt s) q m) : cutS s = if 3 < m then ([], 6) else ([⟨1, s.extract 0 1, 0, ByteArray.empty⟩, ⟨3, ByteArray.empty, numW (gAt s) (2 + q) m, if q = 0 then ByteArray.empty else s.extract 3 4⟩, ⟨1, s.extract (2 + q + m) s.size, 0, ByteArray.empty⟩], 0) := by
  unfold Go.Proofs.YtmpdpgbcflogfaaDoor.cutS
  have he : endS s 0 = s.size := by unfold endS; rw [if_pos ⟨by omega, by have := h.n; omega, h.g0⟩]; exact h.endF
  rw [if_pos he, h.tooF]
  by_cases h3 : 3 < m
  · rw [if_pos h3, if_pos (decide_eq_true h3)]
  · rw [if_neg h3, if_neg (by simpa using h3), h.cutF rfl]

/-- the number that digits are -/
def hor (l : List UInt8) : Nat := l.foldl (fun a c => a * 10 + (c.toNat - 48)) 0
theorem hor_snoc (l : List UInt8) (c : UInt8) : hor (l ++ [c]) = hor l * 10 + (c.toNat - 48) := by unfold hor; rw [List.foldl_append]; rfl
theorem hor_nought (l : List UInt8) : hor (48 :: l) = hor l := rfl
theorem hor_dec (n : Nat) : hor (Lib.decDigits n) = n := by
  induction n using Nat.strongRecOn with
  | ind n ih =>
    rw [Lib.decDigits]
    split
    · rename_i h
      show 0 * 10 + ((UInt8.ofNat (48 + n)).toNat - 48) = n
      rw [UInt8.toNat_ofNat']
      omega
    · rename_i h
      rw [hor_snoc, ih (n / 10) (by omega), UInt8.toNat_ofNat']
      omega

theorem wrap64_small {x : Int} (h0 : 0 ≤ x) (h1 : x < 1000000) : wrap64 x = x := by unfold wrap64; omega

theorem numW_hor (g : Nat → Int) (b : Nat) (l : List UInt8) (hl : l.length ≤ 3) (hd : ∀ j, j < l.length → 48 ≤ g (b + j) ∧ g (b + j) ≤ 57 ∧ g (b + j) = ((l.getD j 0).toNat : Int)) :
    ∀ k, k ≤ l.length → numW g b k = (hor (l.take k) : Nat) ∧ hor (l.take k) < 10 ^ k := by
  intro k
  induction k with
  | zero => intro _; exact ⟨rfl, by simp [hor]⟩
  | succ k ih =>
    intro hk
    obtain ⟨h1, h2⟩ := ih (by omega)
    obtain ⟨d1, d2, d3⟩ := hd k (by omega)
    have hkl : k < l.length := by omega
    have hp : 10 ^ k ≤ 100 := by
      have : k = 0 ∨ k = 1 ∨ k = 2 := by omega
      rcases this with rfl | rfl | rfl <;> decide
    have hg : l.getD k 0 = l[k] := by rw [List.getD_eq_getElem?_getD, List.getElem?_eq_getElem hkl]; rfl
    rw [hg] at d3
    rw [numW, h1, List.take_succ_eq_append_getElem hkl, hor_snoc]
    have e1 : wrap64 ((hor (l.take k) : Nat) * 10 : Int) = (hor (l.take k) : Nat) * 10 := wrap64_small (by omega) (by omega)
    rw [e1, wrap64_small (by omega) (by omega)]
    refine ⟨by omega, ?_⟩
    rw [Nat.pow_succ]; omega
end

section
open Go.RowKit
set_option linter.unusedVariables false

/-- digits that are a number -/
def DigsOf (d : ByteArray) (N : Nat) : Prop := hor d.data.toList = N ∧ 1 ≤ d.size ∧ ∀ j, j < d.size → 48 ≤ gAt d j ∧ gAt d j ≤ 57

theorem dec_digits (n : Nat) : ∀ c ∈ Lib.decDigits n, 48 ≤ c.toNat ∧ c.toNat ≤ 57 := by
  induction n using Nat.strongRecOn with
  | ind n ih =>
    intro c hc
    rw [Lib.decDigits] at hc
    split at hc
    · have e := List.mem_singleton.1 hc
      subst e
      rw [UInt8.toNat_ofNat']; omega
    · rw [List.mem_append] at hc
      rcases hc with hc | hc
      · exact ih (n / 10) (by omega) c hc
      · have e := List.mem_singleton.1 hc
        subst e
        rw [UInt8.toNat_ofNat']; omega
theorem numT_data (n : Nat) : (numT n).data.toList = Lib.decDigits n := by unfold numT Lib.itoa; rw [if_neg (by omega)]; rfl
theorem nDigits_small5 (n : Nat) (h : n < 100000) : 1 ≤ Lib.nDigits n ∧ Lib.nDigits n ≤ 5 := by
  rw [Lib.nDigits]; split
  · omega
  rw [Lib.nDigits]; split
  · omega
  rw [Lib.nDigits]; split
  · omega
  rw [Lib.nDigits]; split
  · omega
  rw [Lib.nDigits]; split
  · omega
  · omega
theorem numT_len (n : Nat) : (numT n).size = Lib.nDigits n := by
  have : (numT n).data.toList.length = (numT n).size := rfl
  rw [← this, numT_data, Lib.decDigits_length]
theorem digsOf_num (n : Nat) (h : n < 100000) : DigsOf (numT n) n := by
  refine ⟨by rw [numT_data]; exact hor_dec n, by rw [numT_len]; exact (nDigits_small5 n h).1, fun j hj => ?_⟩
  have hs : (numT n).data.toList.length = (numT n).size := rfl
  rw [← gAt_at _ j (by omega)]
  have := dec_digits n ((numT n).data.toList[j]'(by omega)) (by rw [← numT_data]; exact List.getElem_mem _)
  omega
theorem digsOf_nought {d : ByteArray} {N : Nat} (h : DigsOf d N) : DigsOf (⟨#[48]⟩ ++ d) N := by
  obtain ⟨h1, h2, h3⟩ := h
  have hz : (⟨#[48]⟩ ++ d : ByteArray).size = d.size + 1 := by rw [ByteArray.size_append]; show 1 + d.size = _; omega
  refine ⟨?_, by omega, fun j hj => ?_⟩
  · rw [ByteArray.data_append, Array.toList_append]
    show hor (48 :: d.data.toList) = N
    rw [hor_nought, h1]
  · by_cases h0 : j = 0
    · subst h0
      rw [gAt_left _ _ 0 (by decide)]; decide
    · rw [gAt_right _ _ j (j - 1) (by show j = 1 + (j - 1); omega)]
      exact h3 _ (by omega)

def partsS (nm d : ByteArray) : ByteArray := ⟨#[123, 36]⟩ ++ nm ++ d ++ ⟨#[32, 125]⟩
theorem partsS_size (nm d : ByteArray) : (partsS nm d).size = 2 + nm.size + d.size + 2 := by
  unfold partsS; rw [ByteArray.size_append, ByteArray.size_append, ByteArray.size_append]; rfl

theorem parts_mk {nm d : ByteArray} {N : Nat} (hd : DigsOf d N) (hn : nm = ⟨#[]⟩ ∨ nm = ⟨#[60, 118, 62]⟩) : Parts (partsS nm d).size (gAt (partsS nm d)) nm.size d.size := by
  obtain ⟨h1, h2, h3⟩ := hd
  have hz := partsS_size nm d
  have hA : (⟨#[123, 36]⟩ ++ nm : ByteArray).size = 2 + nm.size := by rw [ByteArray.size_append]; rfl
  have hB : (⟨#[123, 36]⟩ ++ nm ++ d : ByteArray).size = 2 + nm.size + d.size := by rw [ByteArray.size_append, hA]
  have l1 : ∀ j, j < 2 → gAt (partsS nm d) j = gAt ⟨#[123, 36]⟩ j := fun j hj => by
    unfold partsS
    rw [gAt_left _ _ j (by omega), gAt_left _ _ j (by omega), gAt_left _ _ j (by show j < 2; omega)]
  have l2 : ∀ j, j < nm.size → gAt (partsS nm d) (2 + j) = gAt nm j := fun j hj => by
    unfold partsS
    rw [gAt_left _ _ _ (by omega), gAt_left _ _ _ (by omega), gAt_right _ _ (2 + j) j rfl]
  have l3 : ∀ j, j < d.size → gAt (partsS nm d) (2 + nm.size + j) = gAt d j := fun j hj => by
    unfold partsS
    rw [gAt_left _ _ _ (by omega), gAt_right _ _ (2 + nm.size + j) j (by omega)]
  have l4 : ∀ j, gAt (partsS nm d) (2 + nm.size + d.size + j) = gAt ⟨#[32, 125]⟩ j := fun j => by
    unfold partsS
    rw [gAt_right _ _ (2 + nm.size + d.size + j) j (by omega)]
  refine ⟨hz, (l1 0 (by omega)).trans (by decide), (l1 1 (by omega)).trans (by decide), ?_, fun j hj => by rw [l3 j hj]; exact h3 j hj, h2, (l4 0).trans (by decide), (l4 1).trans (by decide)⟩
  rcases hn with rfl | rfl
  · exact .inl rfl
  · exact .inr ⟨rfl, (l2 0 (by decide)).trans (by decide), (l2 1 (by decide)).trans (by decide), (l2 2 (by decide)).trans (by decide)⟩

theorem parts_num {nm d : ByteArray} {N : Nat} (hd : DigsOf d N) (h3 : d.size ≤ 3) : numW (gAt (partsS nm d)) (2 + nm.size) d.size = N := by
  obtain ⟨h1, h2, hg⟩ := hd
  have hA : (⟨#[123, 36]⟩ ++ nm : ByteArray).size = 2 + nm.size := by rw [ByteArray.size_append]; rfl
  have hB : (⟨#[123, 36]⟩ ++ nm ++ d : ByteArray).size = 2 + nm.size + d.size := by rw [ByteArray.size_append, hA]
  have hl : d.data.toList.length = d.size := rfl
  have := (numW_hor (gAt (partsS nm d)) (2 + nm.size) d.data.toList (by omega) (fun j hj => by
    have l3 : gAt (partsS nm d) (2 + nm.size + j) = gAt d j := by
      unfold partsS
      rw [gAt_left _ _ _ (by omega), gAt_right _ _ (2 + nm.size + j) j (by omega)]
    rw [l3]
    exact ⟨(hg j (by omega)).1, (hg j (by omega)).2, rfl⟩) d.size (by omega)).1
  rw [this, ← hl, List.take_length, h1]

theorem parts_tag {d : ByteArray} : (partsS ⟨#[60, 118, 62]⟩ d).extract 3 4 = ⟨#[118]⟩ := by
  apply ByteArray.ext
  apply Array.toList_inj.1
  rw [Lib.extract_data]
  unfold partsS
  simp [ByteArray.data_append]

def tagN (t : Bool) : ByteArray := if t = true then ⟨#[60, 118, 62]⟩ else ⟨#[]⟩
theorem tagN_or (t : Bool) : tagN t = ⟨#[]⟩ ∨ tagN t = ⟨#[60, 118, 62]⟩ := by cases t; exact .inl rfl; exact .inr rfl
theorem tagN_size (t : Bool) : (tagN t).size ≤ 3 := by cases t <;> decide

/-- what Cut tells of such a text -/
theorem parts_cut {d : ByteArray} {N : Nat} (t : Bool) (hd : DigsOf d N) : (3 < d.size → (cutS (partsS (tagN t) d)).1.length = 0 ∧ (cutS (partsS (tagN t) d)).2 = 6) ∧
    (d.size ≤ 3 → (cutS (partsS (tagN t) d)).1.length = 3 ∧ (cutS (partsS (tagN t) d)).2 = 0 ∧ ((cutS (partsS (tagN t) d)).1.getD 1 noPc) = ⟨3, ByteArray.empty, N, if t = true then ⟨#[118]⟩ else ByteArray.empty⟩) := by
  have h := (parts_mk hd (tagN_or t)).cutS
  refine ⟨fun h3 => ?_, fun h3 => ?_⟩
  · rw [h, if_pos h3]; exact ⟨rfl, rfl⟩
  · rw [h, if_neg (by omega), parts_num hd h3]
    refine ⟨rfl, rfl, ?_⟩
    cases t with
    | false => rfl
    | true =>
      show (⟨3, ByteArray.empty, (N : Int), if (tagN true).size = 0 then ByteArray.empty else (partsS (tagN true) d).extract 3 4⟩ : Pc) = _
      rw [if_neg (by decide), show tagN true = ⟨#[60, 118, 62]⟩ from rfl, parts_tag]
      rfl

set_option maxRecDepth 100000 in
set_option maxHeartbeats 1000000 in
theorem bodyParts_walk (n0 : Int) (t : Bool) (z : Int) (w : World) (hn : (Lit.int .i64 n0).wf = true) (hz : (Lit.int .i64 z).wf = true) (hE : Env w) :
    Calls Tryd.prog 7 #[.int .i64 n0, .bool t, .int .i64 z] w fun e w' => e = .returned (.bool true) ∧ Below w.heap.size w w' := by
  have HE := Lib.hid hE
  have hW1 := fun W => within_any n0 20000 W hn (by omega) (by omega)
  have hW2 := fun W => within_any z 3 W hz (by omega) (by omega)
  have hm := Int.emod_nonneg n0 (show (20000 : Int) ≠ 0 by omega)
  have hm2 := Int.emod_lt_of_pos n0 (show (0 : Int) < 20000 by omega)
  have hq := Int.emod_nonneg z (show (3 : Int) ≠ 0 by omega)
  have hq2 := Int.emod_lt_of_pos z (show (0 : Int) < 3 by omega)
  push_cast at hW1 hW2
  generalize n0 % 20000 = m at hW1 hm hm2
  generalize z % 3 = q at hW2 hq hq2
  obtain ⟨N, rfl⟩ := Int.eq_ofNat_of_zero_le hm
  have HW1 := Lib.hid hW1
  have HW2 := Lib.hid hW2
  have HD0 := Lib.hid (digsOf_num N (by omega))
  have hnl := nDigits_small5 N (by omega)
  have hnz := numT_len N
  clear hE hW1 hW2
  go_enter Tryd.func7, Tryd.ntmps7
  go_wp2_with fail
  refine (bodyWakes_any _ HE.out).mono ?_
  rintro e w1 ⟨rfl, hb1⟩
  go_wp2_with fail
  refine (HW1.out _).mono ?_
  rintro e w2 ⟨rfl, rfl⟩
  go_wp2_with fail
  refine (digitsOf_any N _ (by omega)).mono ?_
  rintro e w3 ⟨rfl, hb2⟩
  have hb3 := hb1.trans (hb2.mono hb1.size)
  have hsz : (numT N).size ≤ 5 := by omega
  clear hnz hnl hb1 hb2
  generalize numT N = d0 at HD0 hsz ⊢
  go_wp2_with fail
  go_loop [7, 8] (fun x y => ∃ (k : Nat) (d : ByteArray), k ≤ 3 ∧ y = .int .i64 k ∧ x = .string d ∧ Hid (DigsOf d N) ∧ d.size ≤ 5 + k) (fun _ y => 4 - (intOf y).toNat)
  case atStart => exact ⟨0, d0, by omega, rfl, rfl, HD0, by omega⟩
  case round =>
    obtain ⟨k, d, hk, rfl, rfl, HD, hds⟩ := hrel
    by_cases hlt : (k : Int) < q
    · have hz : (⟨#[48]⟩ ++ d : ByteArray).size = d.size + 1 := by rw [ByteArray.size_append]; show 1 + d.size = _; omega
      have HZ := Lib.hid hz
      clear hz
      go_wp2_with fail
      refine (HW2.out _).mono ?_
      rintro e w5 ⟨rfl, rfl⟩
      go_wp2_with fail
      go_round
      case rel => exact ⟨k + 1, _, by omega, by go_num, rfl, Lib.hid (digsOf_nought HD.out), by rw [HZ.out]; omega⟩
      case measure => simp [intOf]; omega
    · cases t with
      | true =>
        have hpz := partsS_size (tagN true) d
        have htz := tagN_size true
        have HPC := Lib.hid (parts_cut true HD.out)
        have HCA := Lib.hid (cut_any (partsS (tagN true) d) w3 (HE.out.below hb3).max (by omega))
        have htt : (⟨#[118]⟩ : ByteArray).toList = [118] := Lib.toList_data _
        have hte : ByteArray.empty.toList = [] := Lib.toList_data _
        clear hpz htz
        generalize hCS : cutS (partsS (tagN true) d) = CS at HPC
        have HCS := Lib.hid hCS
        clear hCS
        go_wp2_with fail
        refine (HW2.out _).mono ?_
        rintro e w5 ⟨rfl, rfl⟩
        go_wp2_with fail
        refine HCA.out.mono ?_
        intro e w6 h6
        obtain ⟨v, rfl, hv, hb6⟩ := h6.pcs
        rw [HCS.out] at hv ⊢
        clear h6
        obtain ⟨CL, CE⟩ := CS
        obtain ⟨a, n, c, rfl, hnl, hnc, hc, hx⟩ := hv.open
        have hb7 := hb3.trans (hb6.mono hb3.size)
        clear hv HCA
        by_cases h3 : 3 < d.size
        · obtain ⟨c1, c2⟩ := HPC.out.1 h3
          simp only at c1 c2 hnl
          have hn0 : n = 0 := hnl.out.trans c1
          subst hn0; subst c2
          clear hx HPC HCS hnl
          go_wp2_with fail
          go_ret
          exact ⟨rfl, hb7⟩
        · obtain ⟨c1, c2, c3⟩ := HPC.out.2 (by omega)
          simp only at c1 c2 c3 hnl
          have hn0 : n = 3 := hnl.out.trans c1
          subst hn0; subst c2
          obtain ⟨b, o, rfl, e0, e1, e2, e3⟩ := hx.out 1 (by omega)
          simp only at e0 e2 e3
          rw [c3] at e0 e2 e3
          simp at e0 e2 e3
          clear hx HPC HCS hnl c3 e1 c1
          go_wp2_with fail
          go_ret
          exact ⟨rfl, hb7⟩
      | false =>
        have hpz := partsS_size (tagN false) d
        have htz := tagN_size false
        have HPC := Lib.hid (parts_cut false HD.out)
        have HCA := Lib.hid (cut_any (partsS (tagN false) d) w3 (HE.out.below hb3).max (by omega))
        have htt : (⟨#[118]⟩ : ByteArray).toList = [118] := Lib.toList_data _
        have hte : ByteArray.empty.toList = [] := Lib.toList_data _
        clear hpz htz
        generalize hCS : cutS (partsS (tagN false) d) = CS at HPC
        have HCS := Lib.hid hCS
        clear hCS
        go_wp2_with fail
        refine (HW2.out _).mono ?_
        rintro e w5 ⟨rfl, rfl⟩
        go_wp2_with fail
        refine HCA.out.mono ?_
        intro e w6 h6
        obtain ⟨v, rfl, hv, hb6⟩ := h6.pcs
        rw [HCS.out] at hv ⊢
        clear h6
        obtain ⟨CL, CE⟩ := CS
        obtain ⟨a, n, c, rfl, hnl, hnc, hc, hx⟩ := hv.open
        have hb7 := hb3.trans (hb6.mono hb3.size)
        clear hv HCA
        by_cases h3 : 3 < d.size
        · obtain ⟨c1, c2⟩ := HPC.out.1 h3
          simp only at c1 c2 hnl
          have hn0 : n = 0 := hnl.out.trans c1
          subst hn0; subst c2
          clear hx HPC HCS hnl
          go_wp2_with fail
          go_ret
          exact ⟨rfl, hb7⟩
        · obtain ⟨c1, c2, c3⟩ := HPC.out.2 (by omega)
          simp only at c1 c2 c3 hnl
          have hn0 : n = 3 := hnl.out.trans c1
          subst hn0; subst c2
          obtain ⟨b, o, rfl, e0, e1, e2, e3⟩ := hx.out 1 (by omega)
          simp only at e0 e2 e3
          rw [c3] at e0 e2 e3
          simp at e0 e2 e3
          clear hx HPC HCS hnl c3 e1 c1
          go_wp2_with fail
          go_ret
          exact ⟨rfl, hb7⟩
end

end Go.Proofs.YtmpdpgbcflogfaaDoor
