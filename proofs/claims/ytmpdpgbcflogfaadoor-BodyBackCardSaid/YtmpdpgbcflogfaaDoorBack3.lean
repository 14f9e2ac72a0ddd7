/- What is joined is cut as the text was. -/
import Derived.Test.YtmpdpgbcflogfaaDoorBack2
namespace Go.Proofs.YtmpdpgbcflogfaaDoor
open Go.RowKit
set_option linter.unusedVariables false

theorem tooF_step {n : Nat} {g : Nat → Int} {i : Nat} (hi : i < n) (h : tooF n g i = false) : (g i = 36 → digF n g (tagF n g (i + 1)) - tagF n g (i + 1) ≤ 3) ∧ tooF n g (nextF n g i) = false := by
  rw [tooF, if_pos hi] at h
  by_cases hc : g i = 36 ∧ 3 < digF n g (tagF n g (i + 1)) - tagF n g (i + 1)
  · rw [if_pos hc] at h; cases h
  · rw [if_neg hc] at h
    exact ⟨fun h36 => by omega, h⟩
theorem tooF_go {n : Nat} {g : Nat → Int} (e : Nat) (he : e ≤ n) : ∀ m i, e - i = m → i ≤ e → (∀ j, i ≤ j → j < e → PlainAt g j) → tooF n g i = false →
    tooF n g e = false ∧ ∀ j, i ≤ j → j < e → g j = 36 → digF n g (tagF n g (j + 1)) - tagF n g (j + 1) ≤ 3 := by
  intro m
  induction m with
  | zero => intro i h1 h2 _ h; rw [show i = e by omega] at h; exact ⟨h, fun j _ _ => by omega⟩
  | succ m ih =>
    intro i h1 h2 hp h
    obtain ⟨a1, a2⟩ := tooF_step (by omega) h
    rw [nextF_plain (hp i (Nat.le_refl _) (by omega))] at a2
    obtain ⟨b1, b2⟩ := ih (i + 1) (by omega) (by omega) (fun j h1 h2 => hp j (by omega) h2) a2
    refine ⟨b1, fun j h1 h2 h3 => ?_⟩
    by_cases hj : j = i
    · subst hj; exact a1 h3
    · exact b2 j (by omega) h2 h3
theorem digF_fin (n : Nat) (g : Nat → Int) (i : Nat) : ¬ (digF n g i < n ∧ digB (g (digF n g i)) = true) := by
  fun_induction digF n g i with
  | case1 i h ih => exact ih
  | case2 i h => exact h

theorem extract_one (s : ByteArray) (i : Nat) (c : UInt8) (hi : i < s.size) (h : gAt s i = (c.toNat : Int)) : (s.extract i (i + 1)).data.toList = [c] := by
  have hl := extract_len s (a := i) (b := i + 1) (by omega)
  have hg := extract_getD s (x := i) (e := i + 1) (m := 0) (by omega) (by omega)
  match hm : (s.extract i (i + 1)).data.toList with
  | [] => rw [hm] at hl; simp at hl
  | [d] =>
    rw [hm] at hg
    have : d = c := UInt8.toNat_inj.1 (by have : (d.toNat : Int) = gAt s i := hg; omega)
    rw [this]
  | d :: e :: r => rw [hm] at hl; simp at hl

theorem tagF_is (s : ByteArray) (i : Nat) : tagF s.size (gAt s) i = i ∨ (oAt s i = 60 ∧ i + 3 ≤ tagF s.size (gAt s) i ∧ nameF s.size (gAt s) (i + 1) + 1 = tagF s.size (gAt s) i ∧ gAt s (tagF s.size (gAt s) i - 1) = 62) := by
  rw [tagF_o]; split
  · rename_i h
    have := (oAt_is (by omega)).1 h.2.2.2
    exact .inr ⟨h.1, by omega, rfl, this.2⟩
  · exact .inl rfl

theorem tag_text (s : ByteArray) (i : Nat) (hi : i < s.size) (h36 : gAt s i = 36) : (s.extract i (tagF s.size (gAt s) (i + 1))).data.toList = 36 :: (tagB (tagT s i (tagF s.size (gAt s) (i + 1)))).data.toList := by
  have hb := tagF_bd s.size (gAt s) (i + 1) (by omega)
  have h1 := extract_one s i 36 hi (by rw [h36]; rfl)
  rcases tagF_is s (i + 1) with h | ⟨h, h3, h4, h5⟩
  · rw [h, h1]
    unfold tagT
    rw [if_neg (by omega)]
    unfold tagB
    rw [if_pos (by decide)]; rfl
  · generalize tagF s.size (gAt s) (i + 1) = b at *
    have hx := (oAt_is (by omega)).1 h
    have h2 := extract_one s (i + 1) 60 hx.1 (by rw [hx.2]; rfl)
    have h6 := extract_one s (b - 1) 62 (by omega) (by rw [h5]; rfl)
    rw [show b - 1 + 1 = b by omega] at h6
    rw [extract_cat s (show i ≤ i + 1 by omega) (show i + 1 ≤ b by omega), h1, extract_cat s (show i + 1 ≤ i + 1 + 1 by omega) (show i + 1 + 1 ≤ b by omega), h2,
      extract_cat s (show i + 1 + 1 ≤ b - 1 by omega) (show b - 1 ≤ b by omega), h6]
    unfold tagT
    rw [if_pos (by omega)]
    unfold tagB
    rw [if_neg (by rw [ByteArray.size_extract]; omega), ByteArray.data_append, ByteArray.data_append, Array.toList_append, Array.toList_append]
    rfl

theorem pieceF_two (s : ByteArray) (i : Nat) (h : oAt s (tagF s.size (gAt s) (i + 1)) = 36) : pieceF s s.size (gAt s) i = (⟨2, ByteArray.empty, 0, tagT s i (tagF s.size (gAt s) (i + 1))⟩, tagF s.size (gAt s) (i + 1) + 1) := by
  rw [pieceF_eq, if_pos ((oAt_is (by omega)).1 h)]
theorem pieceF_zero (s : ByteArray) (i : Nat) : (pieceF s s.size (gAt s) i).1.kind = 0 ↔ oAt s (tagF s.size (gAt s) (i + 1)) ≠ 36 ∧ digF s.size (gAt s) (tagF s.size (gAt s) (i + 1)) = tagF s.size (gAt s) (i + 1) := by
  have h := @oAt_is s (tagF s.size (gAt s) (i + 1)) 36 (by omega)
  rw [pieceF_eq]
  split
  · rename_i h2
    exact ⟨fun hc => absurd hc (show ¬ (2 : Int) = 0 by omega), fun hc => absurd (h.2 h2) hc.1⟩
  · rename_i h2
    split
    · rename_i h3; exact ⟨fun _ => ⟨fun hc => h2 (h.1 hc), h3⟩, fun _ => rfl⟩
    · rename_i h3; exact ⟨fun hc => absurd hc (show ¬ (3 : Int) = 0 by omega), fun hc => absurd hc.2 h3⟩
theorem pieceF_three (s : ByteArray) (i : Nat) (h : oAt s (tagF s.size (gAt s) (i + 1)) ≠ 36) (h2 : digF s.size (gAt s) (tagF s.size (gAt s) (i + 1)) ≠ tagF s.size (gAt s) (i + 1)) :
    pieceF s s.size (gAt s) i = (⟨3, ByteArray.empty, numW (gAt s) (tagF s.size (gAt s) (i + 1)) (digF s.size (gAt s) (tagF s.size (gAt s) (i + 1)) - tagF s.size (gAt s) (i + 1)), tagT s i (tagF s.size (gAt s) (i + 1))⟩, digF s.size (gAt s) (tagF s.size (gAt s) (i + 1))) := by
  rw [pieceF_eq, if_neg (fun hc => h ((oAt_is (by omega)).2 hc)), if_neg h2]

theorem num_of (s : ByteArray) (b : Nat) (hb : b ≤ s.size) (h3 : digF s.size (gAt s) b - b ≤ 3) :
    ∃ N : Nat, N < 1000 ∧ numW (gAt s) b (digF s.size (gAt s) b - b) = N ∧ N = hor (s.extract b (digF s.size (gAt s) b)).data.toList := by
  have hdb := digF_bd s.size (gAt s) b hb
  have hl := extract_len s (a := b) hdb.2
  have hda := digF_all s.size (gAt s) b
  generalize digF s.size (gAt s) b = e at *
  have h := numW_hor (gAt s) b (s.extract b e).data.toList (by omega) (fun j hj => by
    have := digB_flat (hda (b + j) (by omega) (by omega))
    exact ⟨this.1, this.2, (extract_getD s hdb.2 (by omega)).symm⟩) (e - b) (by omega)
  rw [show List.take (e - b) (s.extract b e).data.toList = (s.extract b e).data.toList from List.take_of_length_le (by omega)] at h
  refine ⟨_, ?_, h.1, rfl⟩
  have : 10 ^ (e - b) ≤ 1000 := by
    have : e - b = 0 ∨ e - b = 1 ∨ e - b = 2 ∨ e - b = 3 := by omega
    rcases this with h | h | h | h <;> rw [h] <;> decide
  omega

/-- a piece's text -/
theorem outF_two (s : ByteArray) (i : Nat) (hi : i < s.size) (h36 : gAt s i = 36) (h : oAt s (tagF s.size (gAt s) (i + 1)) = 36) : outF s i = (s.extract i (tagF s.size (gAt s) (i + 1) + 1)).data.toList := by
  have hb := tagF_bd s.size (gAt s) (i + 1) (by omega)
  have hx := (oAt_is (by omega)).1 h
  unfold outF
  rw [pieceF_two s i h, if_pos ⟨h36, show (2 : Int) ≠ 0 by omega⟩]
  rw [extract_cat s (show i ≤ tagF s.size (gAt s) (i + 1) by omega) (Nat.le_succ _), tag_text s i hi h36, extract_one s _ 36 hx.1 (by rw [hx.2]; rfl)]
  unfold textP
  rw [if_neg (show ¬ (2 : Int) = 1 by omega), if_pos rfl, ByteArray.data_append, ByteArray.data_append, Array.toList_append, Array.toList_append]
  rfl
theorem outF_three (s : ByteArray) (i : Nat) (hi : i < s.size) (h36 : gAt s i = 36) (h : oAt s (tagF s.size (gAt s) (i + 1)) ≠ 36) (h2 : digF s.size (gAt s) (tagF s.size (gAt s) (i + 1)) ≠ tagF s.size (gAt s) (i + 1)) :
    outF s i = (s.extract i (tagF s.size (gAt s) (i + 1))).data.toList ++ (numT (numW (gAt s) (tagF s.size (gAt s) (i + 1)) (digF s.size (gAt s) (tagF s.size (gAt s) (i + 1)) - tagF s.size (gAt s) (i + 1)))).data.toList := by
  unfold outF
  rw [pieceF_three s i h h2, if_pos ⟨h36, show (3 : Int) ≠ 0 by omega⟩, tag_text s i hi h36]
  unfold textP
  rw [if_neg (show ¬ (3 : Int) = 1 by omega), if_neg (show ¬ (3 : Int) = 2 by omega), ByteArray.data_append, ByteArray.data_append, Array.toList_append, Array.toList_append]
  rfl

def Flat (g : Nat → Int) (a e : Nat) : Prop := ∀ j, a ≤ j → j < e → PlainAt g j ∧ g j ≠ 123 ∧ g j ≠ 125

theorem piece_sim {s t : ByteArray} {i j : Nat} (hi : i < s.size) (hj : j ≤ t.size) (h36 : gAt s i = 36) (hk : (pieceF s s.size (gAt s) i).1.kind ≠ 0) (hd : t.data.toList.drop j = outF s i ++ normF s (stepF s i)) (ht : tooF s.size (gAt s) i = false) :
    ∃ e', j < e' ∧ e' ≤ t.size ∧ gAt t j = 36 ∧ (pieceF t t.size (gAt t) j).1.kind ≠ 0 ∧ (pieceF t t.size (gAt t) j).2 = e' ∧ t.data.toList.drop e' = normF s (stepF s i) ∧ Flat (gAt t) j e' ∧ Flat (gAt s) i (stepF s i) ∧ (tooF t.size (gAt t) e' = false → tooF t.size (gAt t) j = false) := by
  have hb := tagF_bd s.size (gAt s) (i + 1) (by omega)
  have hta := tagF_all s.size (gAt s) (i + 1)
  have hti := tagF_is s (i + 1)
  have htd := tooF_step hi ht
  have hpb : ∀ x, i ≤ x → x < tagF s.size (gAt s) (i + 1) → PlainAt (gAt s) x ∧ gAt s x ≠ 123 ∧ gAt s x ≠ 125 ∧ (x ≠ i → gAt s x ≠ 36) := fun x h1 h2 => by
    unfold PlainAt
    by_cases hx : x = i
    · subst hx; omega
    · have := hta x (by omega) h2; omega
  by_cases h2 : oAt s (tagF s.size (gAt s) (i + 1)) = 36
  · have hx := (oAt_is (by omega)).1 h2
    have es : stepF s i = tagF s.size (gAt s) (i + 1) + 1 := by unfold stepF; rw [if_pos h36, if_neg hk, pieceF_two s i h2]
    rw [es, outF_two s i hi h36 h2] at hd
    rw [es]
    have hgo := tooF_go (tagF s.size (gAt s) (i + 1) + 1) (by omega) _ i rfl (by omega) (fun x h1 h3 => by
      by_cases hc : x < tagF s.size (gAt s) (i + 1)
      · exact (hpb x h1 hc).1
      · obtain rfl : x = tagF s.size (gAt s) (i + 1) := by omega
        unfold PlainAt; omega) ht
    have hds := hgo.2 _ (show i ≤ tagF s.size (gAt s) (i + 1) by omega) (by omega) hx.2
    have ha := alike_of hd (by omega) (by omega) hj
    obtain ⟨c1, c2, c3⟩ := drop_extract hd (by omega) (by omega) hj
    have htt : tagF t.size (gAt t) (j + 1) + (i + 1) = j + 1 + tagF s.size (gAt s) (i + 1) := by
      refine tagF_alike (ha.from (k := 1) (by omega)) (fun h60 => ?_)
      rcases hti with h | h
      · rw [h, h60] at h2; omega
      · omega
    generalize hbb : tagF s.size (gAt s) (i + 1) = b at *
    have hbt : tagF t.size (gAt t) (j + 1) = j + (b - i) := by omega
    have hc0 := c3 0 (by omega)
    have hcb := c3 (b - i) (by omega)
    rw [show i + (b - i) = b by omega] at hcb
    have h2t : oAt t (tagF t.size (gAt t) (j + 1)) = 36 := by rw [hbt]; exact (oAt_is (by omega)).2 ⟨by omega, by omega⟩
    have hpt := pieceF_two t j h2t
    have hft : ∀ x, j ≤ x → x < j + (b + 1 - i) → PlainAt (gAt t) x ∧ gAt t x ≠ 123 ∧ gAt t x ≠ 125 ∧ (x ≠ j → x ≠ j + (b - i) → gAt t x ≠ 36) := fun x h1 h3 => by
      have := c3 (x - j) (by omega)
      rw [show j + (x - j) = x by omega] at this
      unfold PlainAt
      rw [this]
      by_cases hc : i + (x - j) < b
      · have h4 := hpb (i + (x - j)) (by omega) hc
        exact ⟨h4.1, h4.2.1, h4.2.2.1, fun h5 _ => h4.2.2.2 (by omega)⟩
      · have : i + (x - j) = b := by omega
        rw [this]; omega
    have hal := after_loc c2 (by omega) c1
    refine ⟨j + (b + 1 - i), by omega, c1, by rw [Nat.add_zero, Nat.add_zero] at hc0; omega, by rw [hpt]; exact (show (2 : Int) ≠ 0 by omega), by rw [hpt]; show _ + 1 = _; omega, c2, fun x h1 h3 => ⟨(hft x h1 h3).1, (hft x h1 h3).2.1, (hft x h1 h3).2.2.1⟩, fun x h1 h3 => ?_, fun hto => ?_⟩
    · by_cases hc : x < b
      · exact ⟨(hpb x h1 hc).1, (hpb x h1 hc).2.1, (hpb x h1 hc).2.2.1⟩
      · obtain rfl : x = b := by omega
        unfold PlainAt; omega
    · have hdg : digF t.size (gAt t) (j + (b - i)) = j + (b - i) := by
        rw [digF_o, if_neg (by rw [← hbt, h2t]; decide)]
      rw [tooF, if_pos (by omega), if_neg (by rw [hbt, hdg]; omega), nextF_plain (hft j (Nat.le_refl _) (by omega)).1]
      rw [tooF_run (j + (b - i)) (by omega) _ (j + 1) rfl (by omega) (fun x h1 h3 => ⟨(hft x (by omega) (by omega)).1, (hft x (by omega) (by omega)).2.2.2 (by omega) (by omega)⟩)]
      rw [tooF, if_pos (by omega), show j + (b - i) + 1 = j + (b + 1 - i) by omega, if_neg (by omega), nextF_plain (hft _ (by omega) (by omega)).1, show j + (b - i) + 1 = j + (b + 1 - i) by omega]
      exact hto
  · have hdz : digF s.size (gAt s) (tagF s.size (gAt s) (i + 1)) ≠ tagF s.size (gAt s) (i + 1) := fun hc => hk ((pieceF_zero s i).2 ⟨h2, hc⟩)
    have es : stepF s i = digF s.size (gAt s) (tagF s.size (gAt s) (i + 1)) := by unfold stepF; rw [if_pos h36, if_neg hk, pieceF_three s i h2 hdz]
    have hdb := digF_bd s.size (gAt s) (tagF s.size (gAt s) (i + 1)) hb.2
    obtain ⟨N, hN, hnw, _⟩ := num_of s _ hb.2 (htd.1 h36)
    rw [es, outF_three s i hi h36 h2 hdz, hnw, List.append_assoc] at hd
    rw [es]
    have hds := digF_all s.size (gAt s) (tagF s.size (gAt s) (i + 1))
    have hfin := digF_fin s.size (gAt s) (tagF s.size (gAt s) (i + 1))
    have hnz := numT_size N (by omega) (by omega)
    obtain ⟨_, hn1, hng⟩ := digsOf_num N (by omega)
    obtain ⟨c1, c2, c3⟩ := drop_extract hd (by omega) (by omega) hj
    have hnl : (numT N).data.toList.length = (numT N).size := rfl
    obtain ⟨d1, d2, d3⟩ := drop_at c2 c1
    rw [hnl] at d1 d2 d3
    have hdt : ∀ x, x < (numT N).size → 48 ≤ gAt t (j + (tagF s.size (gAt s) (i + 1) - i) + x) ∧ gAt t (j + (tagF s.size (gAt s) (i + 1) - i) + x) ≤ 57 := fun x hx => by
      rw [d3 x hx]
      exact hng x hx
    have hhd := head_norm d2 d1 hdb.2
    have htt : tagF t.size (gAt t) (j + 1) = j + (tagF s.size (gAt s) (i + 1) - i) := by
      rcases hti with h | ⟨h60, h3, h4, h5⟩
      · rw [h]
        have := hdt 0 (by omega)
        rw [h, show j + (i + 1 - i) + 0 = j + 1 by omega] at this
        rw [tagF_none (by omega)]; omega
      · have hal : Alike s t (i + 1) (j + 1) (tagF s.size (gAt s) (i + 1) - i - 2) := fun m hm => by
          have := c3 (m + 1) (by omega)
          rw [show j + (m + 1) = j + 1 + m by omega, show i + (m + 1) = i + 1 + m by omega] at this
          rw [oAt_lt (show j + 1 + m < t.size by omega), oAt_lt (show i + 1 + m < s.size by omega), this]
        have := tagF_alike hal (fun _ => by omega)
        omega
    generalize hbb : tagF s.size (gAt s) (i + 1) = b at *
    generalize digF s.size (gAt s) b = e at *
    have hc0 := c3 0 (by omega)
    rw [Nat.add_zero, Nat.add_zero] at hc0
    have hdg : digF t.size (gAt t) (j + (b - i)) = j + (b - i) + (numT N).size := by
      refine digF_stop _ d1 (fun hc => ?_) _ _ rfl (by omega) (fun x h1 h3 => ?_)
      · have h1 := oAt_dig.2 hc
        rw [hhd.1] at h1
        exact hfin (oAt_dig.1 h1)
      · have := hdt (x - (j + (b - i))) (by omega)
        rw [show j + (b - i) + (x - (j + (b - i))) = x by omega] at this
        unfold digB; simpa using this
    have hb0 := hdt 0 (by omega)
    rw [Nat.add_zero] at hb0
    have h2t : oAt t (tagF t.size (gAt t) (j + 1)) ≠ 36 := by rw [htt, oAt_lt (by omega)]; omega
    have hpt := pieceF_three t j h2t (by rw [htt, hdg]; omega)
    rw [htt, hdg] at hpt
    have hft : ∀ x, j ≤ x → x < j + (b - i) + (numT N).size → PlainAt (gAt t) x ∧ gAt t x ≠ 123 ∧ gAt t x ≠ 125 ∧ (x ≠ j → gAt t x ≠ 36) := fun x h1 h3 => by
      by_cases hc : x < j + (b - i)
      · have := c3 (x - j) (by omega)
        rw [show j + (x - j) = x by omega] at this
        unfold PlainAt
        rw [this]
        have h4 := hpb (i + (x - j)) (by omega) (by omega)
        exact ⟨h4.1, h4.2.1, h4.2.2.1, fun h5 => h4.2.2.2 (by omega)⟩
      · have := hdt (x - (j + (b - i))) (by omega)
        rw [show j + (b - i) + (x - (j + (b - i))) = x by omega] at this
        unfold PlainAt; omega
    refine ⟨j + (b - i) + (numT N).size, by omega, d1, by omega, by rw [hpt]; exact (show (3 : Int) ≠ 0 by omega), by rw [hpt], d2, fun x h1 h3 => ⟨(hft x h1 h3).1, (hft x h1 h3).2.1, (hft x h1 h3).2.2.1⟩, fun x h1 h3 => ?_, fun hto => ?_⟩
    · by_cases hc : x < b
      · exact ⟨(hpb x h1 hc).1, (hpb x h1 hc).2.1, (hpb x h1 hc).2.2.1⟩
      · have := digB_flat (hds x (by omega) h3)
        unfold PlainAt; omega
    · rw [tooF, if_pos (by omega), if_neg (by rw [htt, hdg]; omega), nextF_plain (hft j (Nat.le_refl _) (by omega)).1]
      rw [tooF_run _ d1 _ (j + 1) rfl (by omega) (fun x h1 h3 => ⟨(hft x (by omega) (by omega)).1, (hft x (by omega) (by omega)).2.2.2 (by omega)⟩)]
      exact hto

end Go.Proofs.YtmpdpgbcflogfaaDoor
