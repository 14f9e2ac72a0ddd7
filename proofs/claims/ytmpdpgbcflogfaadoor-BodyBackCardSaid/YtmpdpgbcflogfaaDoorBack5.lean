/- The pieces of a text: they may be joined; they are joined to the text. -/
import Derived.Test.YtmpdpgbcflogfaaDoorBack4
namespace Go.Proofs.YtmpdpgbcflogfaaDoor
open Go.RowKit
set_option linter.unusedVariables false

theorem tag_may (s : ByteArray) (i : Nat) (hi : i < s.size) : (tagT s i (tagF s.size (gAt s) (i + 1))).size = 0 ∨ isNameB (tagT s i (tagF s.size (gAt s) (i + 1))) = true := by
  rw [tagF_o s (i + 1)]
  split
  · rename_i h
    right
    have hx := (oAt_is (by omega)).1 h.1
    have hb := nameF_bd s.size (gAt s) (i + 1 + 1) (by omega)
    unfold tagT
    rw [if_pos (by omega), show nameF s.size (gAt s) (i + 1 + 1) + 1 - 1 = nameF s.size (gAt s) (i + 1 + 1) by omega]
    rw [isName_sub s (i + 2) (by omega)]
    exact decide_eq_true ⟨h.2.1, h.2.2.1⟩
  · left
    unfold tagT
    rw [if_neg (by omega)]; rfl

theorem piece_flat {s : ByteArray} {i : Nat} (hi : i < s.size) (h36 : gAt s i = 36) (hk : (pieceF s s.size (gAt s) i).1.kind ≠ 0) : ∀ x, i ≤ x → x < (pieceF s s.size (gAt s) i).2 → PlainAt (gAt s) x := by
  have hta := tagF_all s.size (gAt s) (i + 1)
  have hda := digF_all s.size (gAt s) (tagF s.size (gAt s) (i + 1))
  intro x h1 h2
  unfold PlainAt
  by_cases hx : x = i
  · subst hx; omega
  by_cases hb : x < tagF s.size (gAt s) (i + 1)
  · have := hta x (by omega) hb; omega
  by_cases hc : oAt s (tagF s.size (gAt s) (i + 1)) = 36
  · rw [pieceF_two s i hc] at h2
    have h3 := (oAt_is (by omega)).1 hc
    have : x = tagF s.size (gAt s) (i + 1) := by simp only at h2; omega
    rw [this]; omega
  · have hz : digF s.size (gAt s) (tagF s.size (gAt s) (i + 1)) ≠ tagF s.size (gAt s) (i + 1) := fun h => hk ((pieceF_zero s i).2 ⟨hc, h⟩)
    rw [pieceF_three s i hc hz] at h2
    have := digB_flat (hda x (by omega) h2); omega

def Fine (s : ByteArray) (p : Pc) : Prop := mayB p = true ∧ p.text.size ≤ s.size ∧ p.tag.size ≤ s.size
theorem fine_txt (s x : ByteArray) (h : x.size ≤ s.size) : ∀ p ∈ txtL x, Fine s p := by
  intro p hp
  unfold txtL at hp
  split at hp
  · cases hp
  · obtain rfl := List.mem_singleton.1 hp
    exact ⟨decide_eq_true (show (1 : Int) ≤ 1 ∧ (1 : Int) ≤ 3 ∧ (0 : Int) ≤ 0 ∧ (0 : Int) ≤ 999 ∧ _ from ⟨by omega, by omega, by omega, by omega, .inl rfl⟩), h, Nat.zero_le _⟩
theorem tagT_size (s : ByteArray) (i b : Nat) : (tagT s i b).size ≤ s.size := by
  unfold tagT; split
  · rw [ByteArray.size_extract]; omega
  · exact Nat.zero_le _
theorem fine_piece (s : ByteArray) (i : Nat) (hi : i < s.size) (h36 : gAt s i = 36) (hk : (pieceF s s.size (gAt s) i).1.kind ≠ 0) (ht : tooF s.size (gAt s) i = false) : Fine s (pieceF s s.size (gAt s) i).1 := by
  have htb := tagF_bd s.size (gAt s) (i + 1) (by omega)
  have hm := tag_may s i hi
  have hz := tagT_size s i (tagF s.size (gAt s) (i + 1))
  by_cases hc : oAt s (tagF s.size (gAt s) (i + 1)) = 36
  · rw [pieceF_two s i hc]
    exact ⟨decide_eq_true (show (1 : Int) ≤ 2 ∧ (2 : Int) ≤ 3 ∧ (0 : Int) ≤ 0 ∧ (0 : Int) ≤ 999 ∧ _ from ⟨by omega, by omega, by omega, by omega, hm⟩), Nat.zero_le _, hz⟩
  · have hz2 : digF s.size (gAt s) (tagF s.size (gAt s) (i + 1)) ≠ tagF s.size (gAt s) (i + 1) := fun h => hk ((pieceF_zero s i).2 ⟨hc, h⟩)
    rw [pieceF_three s i hc hz2]
    obtain ⟨N, hN, hnw, _⟩ := num_of s _ htb.2 ((tooF_step hi ht).1 h36)
    rw [hnw]
    exact ⟨decide_eq_true (show (1 : Int) ≤ 3 ∧ (3 : Int) ≤ 3 ∧ (0 : Int) ≤ N ∧ (N : Int) ≤ 999 ∧ _ from ⟨by omega, by omega, by omega, by omega, hm⟩), Nat.zero_le _, hz⟩

theorem fine_cut (s : ByteArray) : ∀ m f i, s.size - i = m → i ≤ s.size → tooF s.size (gAt s) i = false → (∀ p ∈ cutF s s.size (gAt s) f i, Fine s p) ∧ (cutF s s.size (gAt s) f i).length ≤ 2 * (s.size - i) + 1 := by
  intro m
  induction m using Nat.strongRecOn with
  | ind m ih =>
    intro f i hm hi ht
    by_cases hlt : i < s.size
    · have hb := stepF_bd s i hlt
      by_cases h36 : gAt s i = 36
      · by_cases hk : (pieceF s s.size (gAt s) i).1.kind = 0
        · rw [cutF_zero hlt h36 hk]
          have hpi : PlainAt (gAt s) i := by unfold PlainAt; omega
          have ht2 := (tooF_step hlt ht).2
          rw [nextF_plain hpi] at ht2
          have := ih (s.size - (i + 1)) (by omega) f (i + 1) rfl (by omega) ht2
          exact ⟨this.1, by omega⟩
        · have e : stepF s i = (pieceF s s.size (gAt s) i).2 := by unfold stepF; rw [if_pos h36, if_neg hk]
          rw [e] at hb
          have hgo := tooF_go _ hb.2 _ i rfl (by omega) (piece_flat hlt h36 hk) ht
          have := ih (s.size - (pieceF s s.size (gAt s) i).2) (by omega) (pieceF s s.size (gAt s) i).2 _ rfl hb.2 hgo.1
          rw [cutF_piece hlt h36 hk]
          have hl := txtL_len (s.extract f i)
          refine ⟨fun p hp => ?_, by rw [List.length_append, List.length_cons]; omega⟩
          rcases List.mem_append.1 hp with hp | hp
          · exact fine_txt s _ (by rw [ByteArray.size_extract]; omega) p hp
          · rcases List.mem_cons.1 hp with rfl | hp
            · exact fine_piece s i hlt h36 hk ht
            · exact this.1 p hp
      · have e : stepF s i = nextF s.size (gAt s) i := by unfold stepF; rw [if_neg h36]
        rw [e] at hb
        rw [cutF_skip hlt h36]
        have := ih (s.size - nextF s.size (gAt s) i) (by omega) f _ rfl hb.2 (tooF_step hlt ht).2
        exact ⟨this.1, by omega⟩
    · rw [cutF_end hlt]
      exact ⟨fine_txt s _ (by rw [ByteArray.size_extract]; omega), by have := txtL_len (s.extract f s.size); omega⟩

theorem norm_len (s : ByteArray) : ∀ m i, s.size - i = m → i ≤ s.size → tooF s.size (gAt s) i = false → (normF s i).length ≤ 4 * (s.size - i) := by
  intro m
  induction m using Nat.strongRecOn with
  | ind m ih =>
    intro i hm hi ht
    by_cases hlt : i < s.size
    · have hb := stepF_bd s i hlt
      rw [normF, dif_pos hlt, List.length_append]
      have key : (outF s i).length ≤ stepF s i - i + 3 ∧ tooF s.size (gAt s) (stepF s i) = false := by
        by_cases h36 : gAt s i = 36
        · by_cases hk : (pieceF s s.size (gAt s) i).1.kind = 0
          · have e : stepF s i = i + 1 := by unfold stepF; rw [if_pos h36, if_pos hk]
            have hpi : PlainAt (gAt s) i := by unfold PlainAt; omega
            have ht2 := (tooF_step hlt ht).2
            rw [nextF_plain hpi] at ht2
            refine ⟨?_, by rw [e]; exact ht2⟩
            unfold outF
            rw [if_neg (fun hc => hc.2 hk), extract_len s hb.2]; omega
          · have e : stepF s i = (pieceF s s.size (gAt s) i).2 := by unfold stepF; rw [if_pos h36, if_neg hk]
            refine ⟨?_, by rw [e]; rw [e] at hb; exact (tooF_go _ hb.2 _ i rfl (by omega) (piece_flat hlt h36 hk) ht).1⟩
            have htb := tagF_bd s.size (gAt s) (i + 1) (by omega)
            by_cases hc : oAt s (tagF s.size (gAt s) (i + 1)) = 36
            · rw [outF_two s i hlt h36 hc, extract_len s (by have := (oAt_is (by omega)).1 hc; omega), e, pieceF_two s i hc]
              simp only; omega
            · have hz2 : digF s.size (gAt s) (tagF s.size (gAt s) (i + 1)) ≠ tagF s.size (gAt s) (i + 1) := fun h => hk ((pieceF_zero s i).2 ⟨hc, h⟩)
              obtain ⟨N, hN, hnw, _⟩ := num_of s _ htb.2 ((tooF_step hlt ht).1 h36)
              have hdb := digF_bd s.size (gAt s) (tagF s.size (gAt s) (i + 1)) htb.2
              have hnz := numT_size N (by omega) (by omega)
              rw [outF_three s i hlt h36 hc hz2, hnw, List.length_append, extract_len s htb.2, e, pieceF_three s i hc hz2]
              have : (numT N).data.toList.length = (numT N).size := rfl
              simp only
              omega
        · have e : stepF s i = nextF s.size (gAt s) i := by unfold stepF; rw [if_neg h36]
          refine ⟨?_, by rw [e]; exact (tooF_step hlt ht).2⟩
          unfold outF
          rw [if_neg (fun hc => h36 hc.1), extract_len s hb.2]; omega
      have := ih (s.size - stepF s i) (by omega) _ rfl hb.2 key.2
      omega
    · rw [normF, dif_neg hlt]; exact Nat.zero_le _

theorem dec_lt {n : Nat} (h : n < 10) : Lib.decDigits n = [UInt8.ofNat (48 + n)] := by rw [Lib.decDigits, dif_pos h]
theorem dec_ge {n : Nat} (h : 10 ≤ n) : Lib.decDigits n = Lib.decDigits (n / 10) ++ [UInt8.ofNat (48 + n % 10)] := by rw [Lib.decDigits, dif_neg (by omega)]
theorem u8_dig (a : UInt8) (n : Nat) (h : a.toNat = 48 + n) (hn : n < 10) : UInt8.ofNat (48 + n) = a := UInt8.toNat_inj.1 (by rw [UInt8.toNat_ofNat']; omega)
theorem dec_hor (l : List UInt8) (h1 : 1 ≤ l.length) (h3 : l.length ≤ 3) (hd : ∀ j, j < l.length → 48 ≤ (l.getD j 0).toNat ∧ (l.getD j 0).toNat ≤ 57) (h0 : (l.getD 0 0).toNat ≠ 48) : Lib.decDigits (hor l) = l := by
  match l with
  | [a] =>
    have ha := hd 0 (by simp)
    simp at ha h0
    have e : hor [a] = a.toNat - 48 := by show 0 * 10 + _ = _; omega
    rw [e, dec_lt (by omega), u8_dig a (a.toNat - 48) (by omega) (by omega)]
  | [a, b] =>
    have ha := hd 0 (by simp)
    have hb := hd 1 (by simp)
    simp at ha hb h0
    have e : hor [a, b] = (a.toNat - 48) * 10 + (b.toNat - 48) := by show (0 * 10 + _) * 10 + _ = _; omega
    rw [e, dec_ge (by omega), show ((a.toNat - 48) * 10 + (b.toNat - 48)) / 10 = a.toNat - 48 by omega, show ((a.toNat - 48) * 10 + (b.toNat - 48)) % 10 = b.toNat - 48 by omega,
      dec_lt (by omega), u8_dig a (a.toNat - 48) (by omega) (by omega), u8_dig b (b.toNat - 48) (by omega) (by omega)]
    rfl
  | [a, b, c] =>
    have ha := hd 0 (by simp)
    have hb := hd 1 (by simp)
    have hc := hd 2 (by simp)
    simp at ha hb hc h0
    have e : hor [a, b, c] = ((a.toNat - 48) * 10 + (b.toNat - 48)) * 10 + (c.toNat - 48) := by show ((0 * 10 + _) * 10 + _) * 10 + _ = _; omega
    rw [e, dec_ge (by omega), show (((a.toNat - 48) * 10 + (b.toNat - 48)) * 10 + (c.toNat - 48)) / 10 = (a.toNat - 48) * 10 + (b.toNat - 48) by omega, show (((a.toNat - 48) * 10 + (b.toNat - 48)) * 10 + (c.toNat - 48)) % 10 = c.toNat - 48 by omega,
      dec_ge (by omega), show ((a.toNat - 48) * 10 + (b.toNat - 48)) / 10 = a.toNat - 48 by omega, show ((a.toNat - 48) * 10 + (b.toNat - 48)) % 10 = b.toNat - 48 by omega,
      dec_lt (by omega), u8_dig a (a.toNat - 48) (by omega) (by omega), u8_dig b (b.toNat - 48) (by omega) (by omega), u8_dig c (c.toNat - 48) (by omega) (by omega)]
    rfl
  | [] => simp at h1
  | _ :: _ :: _ :: _ :: _ => simp at h3

/-- no number begins with a nought -/
def NoNought (s : ByteArray) : Prop := ∀ i, i + 1 < s.size → (gAt s i = 36 ∨ gAt s i = 62) → gAt s (i + 1) ≠ 48

theorem norm_self (s : ByteArray) (hn : NoNought s) : ∀ m i, s.size - i = m → i ≤ s.size → tooF s.size (gAt s) i = false → normF s i = (s.extract i s.size).data.toList := by
  intro m
  induction m using Nat.strongRecOn with
  | ind m ih =>
    intro i hm hi ht
    by_cases hlt : i < s.size
    · have hb := stepF_bd s i hlt
      rw [normF, dif_pos hlt]
      have key : outF s i = (s.extract i (stepF s i)).data.toList ∧ tooF s.size (gAt s) (stepF s i) = false := by
        by_cases h36 : gAt s i = 36
        · by_cases hk : (pieceF s s.size (gAt s) i).1.kind = 0
          · have e : stepF s i = i + 1 := by unfold stepF; rw [if_pos h36, if_pos hk]
            have hpi : PlainAt (gAt s) i := by unfold PlainAt; omega
            have ht2 := (tooF_step hlt ht).2
            rw [nextF_plain hpi] at ht2
            refine ⟨?_, by rw [e]; exact ht2⟩
            unfold outF
            rw [if_neg (fun hc => hc.2 hk)]
          · have e : stepF s i = (pieceF s s.size (gAt s) i).2 := by unfold stepF; rw [if_pos h36, if_neg hk]
            refine ⟨?_, by rw [e]; rw [e] at hb; exact (tooF_go _ hb.2 _ i rfl (by omega) (piece_flat hlt h36 hk) ht).1⟩
            have htb := tagF_bd s.size (gAt s) (i + 1) (by omega)
            by_cases hc : oAt s (tagF s.size (gAt s) (i + 1)) = 36
            · rw [outF_two s i hlt h36 hc, e, pieceF_two s i hc]
            · have hz2 : digF s.size (gAt s) (tagF s.size (gAt s) (i + 1)) ≠ tagF s.size (gAt s) (i + 1) := fun h => hk ((pieceF_zero s i).2 ⟨hc, h⟩)
              obtain ⟨N, hN, hnw, hnh⟩ := num_of s _ htb.2 ((tooF_step hlt ht).1 h36)
              have hdb := digF_bd s.size (gAt s) (tagF s.size (gAt s) (i + 1)) htb.2
              have h3 := (tooF_step hlt ht).1 h36
              have hda := digF_all s.size (gAt s) (tagF s.size (gAt s) (i + 1))
              have hlen := extract_len s (a := tagF s.size (gAt s) (i + 1)) hdb.2
              have hbefore : gAt s (tagF s.size (gAt s) (i + 1) - 1) = 36 ∨ gAt s (tagF s.size (gAt s) (i + 1) - 1) = 62 := by
                rcases tagF_is s (i + 1) with h | h
                · left; rw [h, Nat.add_sub_cancel]; exact h36
                · right; exact h.2.2.2
              have hnb := hn (tagF s.size (gAt s) (i + 1) - 1) (by omega) hbefore
              rw [show tagF s.size (gAt s) (i + 1) - 1 + 1 = tagF s.size (gAt s) (i + 1) by omega] at hnb
              rw [outF_three s i hlt h36 hc hz2, hnw, e, pieceF_three s i hc hz2, numT_data, hnh]
              simp only
              rw [dec_hor _ (by omega) (by omega) (fun j hj => by
                have h1 := extract_getD s (x := tagF s.size (gAt s) (i + 1)) (m := j) hdb.2 (by omega)
                have h2 := digB_flat (hda (tagF s.size (gAt s) (i + 1) + j) (by omega) (by omega))
                omega) (by
                have h1 := extract_getD s (x := tagF s.size (gAt s) (i + 1)) (m := 0) hdb.2 (by omega)
                rw [Nat.add_zero] at h1
                intro hc48
                rw [hc48] at h1
                exact hnb h1.symm)]
              exact (extract_cat s (by omega) hdb.1).symm
        · have e : stepF s i = nextF s.size (gAt s) i := by unfold stepF; rw [if_neg h36]
          refine ⟨?_, by rw [e]; exact (tooF_step hlt ht).2⟩
          unfold outF
          rw [if_neg (fun hc => h36 hc.1)]
      rw [key.1, ih (s.size - stepF s i) (by omega) _ rfl hb.2 key.2, ← extract_cat s (show i ≤ stepF s i by omega) hb.2]
    · rw [normF, dif_neg hlt, show i = s.size by omega, extract_self]

/-- what Join and Cut tell of a text's pieces -/
theorem back_tells (s : ByteArray) (hs : s.size ≤ 200) (h : (cutS s).2 = 0) : (cutS s).1.all mayB = true ∧ Small (cutS s).1 ∧ (joinS (cutS s).1).2 = 0 ∧ (joinS (cutS s).1).1.size ≤ 1000 ∧
    (cutS (joinS (cutS s).1).1).1.length = (cutS s).1.length ∧ (NoNought s → (joinS (cutS s).1).1 = s) := by
  have he : endS s 0 = s.size := by
    by_cases hc : endS s 0 = s.size
    · exact hc
    · unfold cutS at h; rw [if_neg hc] at h; cases h
  have ht : tooF s.size (gAt s) 0 = false := by
    cases hc : tooF s.size (gAt s) 0 with
    | false => rfl
    | true => unfold cutS at h; rw [if_pos he, hc, if_pos rfl] at h; cases h
  have hL : (cutS s).1 = cutF s s.size (gAt s) 0 0 := by unfold cutS; rw [if_pos he, ht, if_neg (by simp)]
  have hst : 0 < s.size ∧ gAt s 0 = 123 ∧ endF s.size (gAt s) 0 0 = s.size := by
    unfold endS at he
    by_cases hc : 0 ≤ (0 : Int) ∧ (0 : Int) < s.size ∧ gAt s (0 : Int).toNat = 123
    · rw [if_pos hc] at he
      exact ⟨by omega, hc.2.2, he⟩
    · rw [if_neg hc] at he; omega
  obtain ⟨s1, s2, s3⟩ := hst
  obtain ⟨hf, hl⟩ := fine_cut s _ 0 0 rfl (Nat.zero_le _) ht
  have hm : (cutS s).1.all mayB = true := by rw [hL, List.all_eq_true]; exact fun p hp => (hf p hp).1
  have hj : joinS (cutS s).1 = (⟨(joinL (cutS s).1).toArray⟩, 0) := by unfold joinS; rw [if_pos hm]
  have hjl := join_cut s _ 0 0 rfl (Nat.le_refl _) (Nat.zero_le _)
  rw [extract_self, List.nil_append, ← hL] at hjl
  have hnl := norm_len s _ 0 rfl (Nat.zero_le _) ht
  rw [hj]
  simp only
  generalize htt : (⟨(joinL (cutS s).1).toArray⟩ : ByteArray) = t
  have htd : t.data.toList = normF s 0 := by rw [← htt, ← hjl]
  have htz : t.size = (normF s 0).length := by rw [← htd]; rfl
  obtain ⟨q1, q2, q3⟩ := sim s t _ 0 0 0 rfl (Nat.zero_le _) (Nat.zero_le _) (by rw [List.drop_zero]; exact htd) ht (fun _ => ⟨s3, .inr s2⟩)
  have hh := head_norm (s := s) (t := t) (y := 0) (e := 0) (by rw [List.drop_zero]; exact htd) (Nat.zero_le _) (Nat.zero_le _)
  have ht0 := hh.2.1 s1
  have hg0 : gAt t 0 = 123 := by have := hh.1; rw [oAt_lt s1, oAt_lt ht0] at this; omega
  have het : endS t 0 = t.size := by
    unfold endS
    rw [if_pos ⟨by omega, by omega, hg0⟩]; exact q1 s1
  refine ⟨hm, ⟨by rw [hL]; omega, fun p hp => ?_⟩, trivial, by omega, ?_, fun hno => ?_⟩
  · rw [hL] at hp
    have := hf p hp
    exact ⟨by have := this.2.1; omega, by have := this.2.2; omega⟩
  · rw [hL]
    unfold cutS
    rw [if_pos het, q2, if_neg (by simp)]
    exact q3 0 0 (Nat.le_refl _) (Nat.le_refl _) (by omega)
  · have := norm_self s hno _ 0 rfl (Nat.zero_le _) ht
    rw [← htd] at this
    apply ByteArray.ext
    apply Array.toList_inj.1
    rw [this, drop_data, List.drop_zero]

end Go.Proofs.YtmpdpgbcflogfaaDoor
