/- What is joined is cut as the text was: the whole text. -/
import Derived.Test.YtmpdpgbcflogfaaDoorBack3
namespace Go.Proofs.YtmpdpgbcflogfaaDoor
open Go.RowKit
set_option linter.unusedVariables false

theorem txtL_length (x : ByteArray) : (txtL x).length = if x.size = 0 then 0 else 1 := by unfold txtL; split <;> rfl
theorem txtL_alike {s t : ByteArray} {f i f' j : Nat} (hi : i ≤ s.size) (hj : j ≤ t.size) (h : f < i ↔ f' < j) : (txtL (t.extract f' j)).length = (txtL (s.extract f i)).length := by
  rw [txtL_length, txtL_length, ByteArray.size_extract, ByteArray.size_extract]
  by_cases hc : f < i
  · have := h.1 hc
    rw [if_neg (by omega), if_neg (by omega)]
  · have : ¬ f' < j := fun hx => hc (h.2 hx)
    rw [if_pos (by omega), if_pos (by omega)]

set_option maxHeartbeats 2000000 in
theorem sim (s t : ByteArray) : ∀ m i j d, s.size - i = m → i ≤ s.size → j ≤ t.size → t.data.toList.drop j = normF s i → tooF s.size (gAt s) i = false →
    (i < s.size → endF s.size (gAt s) i d = s.size ∧ (d ≠ 0 ∨ gAt s i = 123)) →
    (i < s.size → endF t.size (gAt t) j d = t.size) ∧ tooF t.size (gAt t) j = false ∧
      ∀ f f', f ≤ i → f' ≤ j → (f < i ↔ f' < j) → (cutF t t.size (gAt t) f' j).length = (cutF s s.size (gAt s) f i).length := by
  intro m
  induction m using Nat.strongRecOn with
  | ind m ih =>
    intro i j d hm hi hj hd ht he
    obtain ⟨hh, hiff⟩ := head_norm hd hj hi
    by_cases hlt : i < s.size
    · have hjt := hiff.1 hlt
      obtain ⟨he1, he2⟩ := he hlt
      rw [oAt_lt hlt, oAt_lt hjt] at hh
      have hsb := stepF_bd s i hlt
      have hd' := hd
      rw [normF, dif_pos hlt] at hd'
      have hob := overF_bd s.size (gAt s) i hlt
      have ho0 : ¬ overF s.size (gAt s) i < 0 := fun hc => by rw [endF, if_pos hlt, if_pos hc] at he1; omega
      obtain ⟨ht1, ht2⟩ := tooF_step hlt ht
      by_cases h36 : gAt s i = 36
      · have hpi : PlainAt (gAt s) i := by unfold PlainAt; omega
        have hpj : PlainAt (gAt t) j := by unfold PlainAt; omega
        have hd0 : d ≠ 0 := by omega
        have hj36 : gAt t j = 36 := by omega
        by_cases hk : (pieceF s s.size (gAt s) i).1.kind = 0
        · have es : stepF s i = i + 1 := by unfold stepF; rw [if_pos h36, if_pos hk]
          unfold outF at hd'
          rw [if_neg (fun hc => hc.2 hk), es] at hd'
          obtain ⟨b1, b2, b3⟩ := drop_extract hd' (by omega) (by omega) hj
          rw [show i + 1 - i = 1 by omega] at b1 b2
          obtain ⟨a1, a2, a3⟩ := after_loc b2 (by omega) b1
          obtain ⟨k1, k2⟩ := (pieceF_zero s i).1 hk
          have hkt : (pieceF t t.size (gAt t) j).1.kind = 0 := (pieceF_zero t j).2 ⟨by rw [a3]; exact k1, by omega⟩
          have dd : deepF (gAt s) i d = d := by unfold deepF; rw [if_neg (by omega), if_neg (by omega)]
          have ddt : deepF (gAt t) j d = d := by unfold deepF; rw [if_neg (by omega), if_neg (by omega)]
          have he3 : endF s.size (gAt s) (i + 1) d = s.size := by rw [endF_plain hlt hpi (by rw [dd]; exact hd0), dd] at he1; exact he1
          have hls : i + 1 < s.size := by
            by_cases hc : i + 1 < s.size
            · exact hc
            · rw [endF, if_neg hc] at he3; omega
          rw [nextF_plain hpi] at ht2
          obtain ⟨q1, q2, q3⟩ := ih (s.size - (i + 1)) (by omega) (i + 1) (j + 1) d rfl (by omega) b1 b2 ht2 (fun _ => ⟨he3, .inl hd0⟩)
          refine ⟨fun _ => by rw [endF_plain hjt hpj (by rw [ddt]; exact hd0), ddt]; exact q1 hls, ?_, fun f f' h1 h2 h3 => ?_⟩
          · rw [tooF, if_pos hjt, if_neg (by omega), nextF_plain hpj]; exact q2
          · rw [cutF_zero hjt hj36 hkt, cutF_zero hlt h36 hk]
            exact q3 f f' (by omega) (by omega) (by omega)
        · obtain ⟨e', p1, p2, p3, p4, p5, p6, p7, p8, p9⟩ := piece_sim hlt hj h36 hk hd' ht
          have es : stepF s i = (pieceF s s.size (gAt s) i).2 := by unfold stepF; rw [if_pos h36, if_neg hk]
          have he3 : endF s.size (gAt s) (stepF s i) d = s.size := by rw [endF_run hd0 (stepF s i) hsb.2 _ i rfl (by omega) p8] at he1; exact he1
          have hls : stepF s i < s.size := by
            by_cases hc : stepF s i < s.size
            · exact hc
            · rw [endF, if_neg hc] at he3; omega
          have hgo := tooF_go (stepF s i) hsb.2 _ i rfl (by omega) (fun x h1 h2 => (p8 x h1 h2).1) ht
          obtain ⟨q1, q2, q3⟩ := ih (s.size - stepF s i) (by omega) (stepF s i) e' d rfl (by omega) p2 p6 hgo.1 (fun _ => ⟨he3, .inl hd0⟩)
          refine ⟨fun _ => by rw [endF_run hd0 e' p2 _ j rfl (by omega) p7]; exact q1 hls, p9 q2, fun f f' h1 h2 h3 => ?_⟩
          have q4 := q3 (stepF s i) e' (Nat.le_refl _) (Nat.le_refl _) (by omega)
          rw [cutF_piece hjt p3 p4, cutF_piece hlt h36 hk, List.length_append, List.length_append, List.length_cons, List.length_cons, txtL_alike hi hj h3, p5, ← es, q4]
      · have es : stepF s i = nextF s.size (gAt s) i := by unfold stepF; rw [if_neg h36]
        have hj36 : ¬ gAt t j = 36 := by omega
        unfold outF at hd'
        rw [if_neg (fun hc => h36 hc.1)] at hd'
        obtain ⟨b1, b2, b3⟩ := drop_extract hd' (by omega) hsb.2 hj
        have hal := alike_of hd' (by omega) hsb.2 hj
        rw [es] at hd' b1 b2 b3 hal hsb
        by_cases hov : (i : Int) < overF s.size (gAt s) i
        · -- passed over
          obtain ⟨k, hk⟩ := Int.eq_ofNat_of_zero_le (show 0 ≤ overF s.size (gAt s) i by omega)
          have hnk : nextF s.size (gAt s) i = k := nextF_over hk (by omega)
          rw [hnk] at b1 b2 b3 hal hsb ht2
          have hd0 : d ≠ 0 := by
            rcases he2 with h | h
            · exact h
            · exact absurd hov (by rw [overF_self (by omega) (by omega) (by omega) (by omega)]; omega)
          have he3 : endF s.size (gAt s) k d = s.size := by rw [endF_over hlt hk (by omega)] at he1; exact he1
          have hls : k < s.size := by
            by_cases hc : k < s.size
            · exact hc
            · rw [endF, if_neg hc] at he3; omega
          have hto := overF_alike hlt hls hk (by rw [show max 1 (k - i) = k - i by omega]; exact hal)
          have hto2 : overF t.size (gAt t) j = ((j + (k - i) : Nat) : Int) := by omega
          obtain ⟨q1, q2, q3⟩ := ih (s.size - k) (by omega) k (j + (k - i)) d rfl (by omega) b1 b2 ht2 (fun _ => ⟨he3, .inl hd0⟩)
          refine ⟨fun _ => by rw [endF_over hjt hto2 (by omega)]; exact q1 hls, by rw [tooF_over hjt hj36 hto2 (by omega)]; exact q2, fun f f' h1 h2 h3 => ?_⟩
          rw [cutF_skip hjt hj36, cutF_skip hlt h36, nextF_over hto2 (by omega), hnk]
          exact q3 f f' (by omega) (by omega) (by omega)
        · have hk : overF s.size (gAt s) i = i := by omega
          have hnk : nextF s.size (gAt s) i = i + 1 := by unfold nextF; rw [hk]; omega
          rw [hnk] at b1 b2 b3 hal hsb ht2
          rw [show i + 1 - i = 1 by omega] at b1 b2 hal
          have hto := overF_alike hlt hlt hk (by rw [show max 1 (i - i) = 1 by omega]; exact hal)
          have hto2 : overF t.size (gAt t) j = (j : Int) := by omega
          have hnt : nextF t.size (gAt t) j = j + 1 := by unfold nextF; rw [hto2]; omega
          have hdt : deepF (gAt t) j d = deepF (gAt s) i d := by unfold deepF; rw [hh]
          rw [endF, if_pos hlt, if_neg ho0, if_neg hov] at he1
          have hnn := head_norm b2 b1 hsb.2
          have he4 : i + 1 < s.size → endF s.size (gAt s) (i + 1) (deepF (gAt s) i d) = s.size ∧ (deepF (gAt s) i d ≠ 0 ∨ gAt s (i + 1) = 123) := fun h => by
            by_cases hz : deepF (gAt s) i d = 0
            · rw [if_pos hz] at he1; omega
            · rw [if_neg hz] at he1; exact ⟨he1, .inl hz⟩
          obtain ⟨q1, q2, q3⟩ := ih (s.size - (i + 1)) (by omega) (i + 1) (j + 1) (deepF (gAt s) i d) rfl (by omega) b1 b2 ht2 he4
          refine ⟨fun _ => ?_, by rw [tooF, if_pos hjt, if_neg (fun hc => hj36 hc.1), hnt]; exact q2, fun f f' h1 h2 h3 => ?_⟩
          · rw [endF, if_pos hjt, if_neg (by omega), if_neg (by omega), hdt]
            by_cases hz : deepF (gAt s) i d = 0
            · rw [if_pos hz] at he1 ⊢
              have h1 := hnn.2
              omega
            · rw [if_neg hz] at he1 ⊢
              have hls : i + 1 < s.size := by
                by_cases hc : i + 1 < s.size
                · exact hc
                · rw [endF, if_neg hc] at he1; omega
              exact q1 hls
          · rw [cutF_skip hjt hj36, cutF_skip hlt h36, hnt, hnk]
            exact q3 f f' (by omega) (by omega) (by omega)
    · have hjt : ¬ j < t.size := fun hc => hlt (hiff.2 hc)
      obtain rfl : i = s.size := by omega
      obtain rfl : j = t.size := by omega
      refine ⟨fun h => absurd h hlt, tooF_end hjt, fun f f' h1 h2 h3 => ?_⟩
      rw [cutF_end hjt, cutF_end hlt]
      exact txtL_alike (Nat.le_refl _) (Nat.le_refl _) h3

end Go.Proofs.YtmpdpgbcflogfaaDoor
