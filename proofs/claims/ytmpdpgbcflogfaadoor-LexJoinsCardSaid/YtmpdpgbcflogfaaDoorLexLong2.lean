/- The laws LexWords, LexBytes, LexKeys. -/
import Derived.Test.YtmpdpgbcflogfaaDoorLexWakes
import Derived.Test.YtmpdpgbcflogfaaDoorLex15
import Derived.Test.YtmpdpgbcflogfaaDoorMove2
import Derived.Lib.ItoaLen
import Derived.Deep.OwnRows
namespace Go.Proofs.YtmpdpgbcflogfaaDoor
section
open Go.RowKit
set_option linter.unusedVariables false
set_option linter.unusedSimpArgs false

theorem text_500 (s : ByteArray) (w : World) (hs : s.size ≤ maxLen) :
    Calls Tryd.prog 15 #[.string s, .int .i64 500] w fun e w' => e = .returned (.string (cutT s 500)) ∧ w = w' := text_any s 500 w hs (by omega)
theorem text_10 (s : ByteArray) (w : World) (hs : s.size ≤ maxLen) :
    Calls Tryd.prog 15 #[.string s, .int .i64 10] w fun e w' => e = .returned (.string (cutT s 10)) ∧ w = w' := text_any s 10 w hs (by omega)
theorem within_7 (i : Int) (w : World) (hi : (Lit.int .i64 i).wf = true) :
    Calls Tryd.prog 23 #[.int .i64 i, .int .i64 7] w fun e w' => e = .returned (.int .i64 (i % 7)) ∧ w = w' := within_any i 7 w hi (by omega) (by omega)

set_option maxRecDepth 100000 in
theorem lexWords_walk (s : ByteArray) (w : World) (hs : s.size ≤ maxLen) (hE : LexEnv w) (hB : Both) :
    Calls Tryd.prog 8 #[.string s] w fun e w' => e = .returned (.bool true) ∧ Below w.heap.size w w' := by
  have hW := lexWakes_any w hE hB
  have HT := Lib.hid (fun W => text_500 s W hs)
  have hz := cutT_size s 500
  generalize cutT s 500 = t at *
  have HS := Lib.hid (fun W hW => hB.2.out t W (by omega) hW)
  clear hB
  go_enter Tryd.func8, Tryd.ntmps8
  go_wp2_with fail
  refine hW.mono ?_
  rintro e w1 ⟨rfl, hb1⟩
  go_wp2_with fail
  refine (HT.out _).mono ?_
  rintro e w2 ⟨rfl, rfl⟩
  go_wp2_with fail
  refine (HS.out _ (hE.below hb1)).mono ?_
  rintro e w2 ⟨rfl, hb2⟩
  have hb3 := hb1.trans (hb2.mono hb1.size)
  go_wp2_with fail
  go_ret
  exact ⟨rfl, hb3⟩

set_option maxRecDepth 100000 in
set_option maxHeartbeats 2000000 in
theorem lexBytes_walk (a b c d : Int) (w : World) (hE : LexEnv w) (hB : Both) :
    Calls Tryd.prog 9 #[.int .u8 a, .int .u8 b, .int .u8 c, .int .u8 d] w fun e w' => e = .returned (.bool true) ∧ Below w.heap.size w w' := by
  have hW := lexWakes_any w hE hB
  have hc1 : ∀ (w : World), (convert 45 9 (.slice (some ⟨w.heap.size,0,none⟩) 4 4)).run Tryd.prog (w.alloc (.cells #[.int .u8 a, .int .u8 b, .int .u8 c, .int .u8 d] 5)) = .ok (.string (bytesOf [a, b, c, d])) (w.alloc (.cells #[.int .u8 a, .int .u8 b, .int .u8 c, .int .u8 d] 5)) :=
    fun w => run_conv_new w _ _ _ [a, b, c, d] 4 Tryd.underlying45 Tryd.underlying5 Tryd.underlying9
  have hz : (bytesOf [a, b, c, d]).size = 4 := rfl
  generalize bytesOf [a, b, c, d] = X at *
  have z1 : (⟨#[120, 32]⟩ : ByteArray).size = 2 := rfl
  have z2 : (⟨#[32, 121]⟩ : ByteArray).size = 2 := rfl
  have z3 : (⟨#[123]⟩ : ByteArray).size = 1 := rfl
  have z4 : (⟨#[125]⟩ : ByteArray).size = 1 := rfl
  have z5 : (⟨#[37]⟩ : ByteArray).size = 1 := rfl
  have z6 : (⟨#[49, 50]⟩ : ByteArray).size = 2 := rfl
  have z7 : (⟨#[37, 37, 32]⟩ : ByteArray).size = 3 := rfl
  have z8 : (⟨#[32, 37, 37]⟩ : ByteArray).size = 3 := rfl
  have HS := Lib.hid (fun t W (ht : t.size ≤ 1000000) hW => hB.2.out t W ht hW)
  clear hB
  go_enter Tryd.func9, Tryd.ntmps9
  go_wp2_with fail
  refine hW.mono ?_
  rintro e w1 ⟨rfl, hb1⟩
  have hb2 := hb1.alloc hb1.size (.cells #[.int .u8 a, .int .u8 b, .int .u8 c, .int .u8 d] 5)
  go_wp2_with fail
  refine (HS.out _ _ (by omega) (hE.below hb2)).mono ?_
  rintro e w2 ⟨rfl, hb⟩
  replace hb := hb2.trans (hb.mono hb2.size)
  clear hb1 hb2
  go_wp2_with fail
  refine (HS.out _ _ (by simp only [ByteArray.size_append]; omega) (hE.below hb)).mono ?_
  rintro e w3 ⟨rfl, hb2⟩
  replace hb := hb.trans (hb2.mono hb.size)
  clear hb2
  go_wp2_with fail
  refine (HS.out _ _ (by simp only [ByteArray.size_append]; omega) (hE.below hb)).mono ?_
  rintro e w4 ⟨rfl, hb2⟩
  replace hb := hb.trans (hb2.mono hb.size)
  clear hb2
  go_wp2_with fail
  refine (HS.out _ _ (by simp only [ByteArray.size_append]; omega) (hE.below hb)).mono ?_
  rintro e w5 ⟨rfl, hb2⟩
  replace hb := hb.trans (hb2.mono hb.size)
  clear hb2
  go_wp2_with fail
  refine (HS.out _ _ (by simp only [ByteArray.size_append]; omega) (hE.below hb)).mono ?_
  rintro e w6 ⟨rfl, hb2⟩
  replace hb := hb.trans (hb2.mono hb.size)
  clear hb2
  go_wp2_with fail
  refine (HS.out _ _ (by simp only [ByteArray.size_append]; omega) (hE.below hb)).mono ?_
  rintro e w7 ⟨rfl, hb2⟩
  replace hb := hb.trans (hb2.mono hb.size)
  clear hb2
  go_wp2_with fail
  go_ret
  exact ⟨rfl, hb⟩

def keyT (j : Nat) : ByteArray := ⟨(keyL.getD j []).toArray⟩
theorem keyT_words : ∀ j, j < 7 → (wordsS (keyT j)).2 = (0, 0) ∧ (wordsS (keyT j)).1.length = 2 ∧ ((wordsS (keyT j)).1.getD 0 noWd).kind = 5 ∧ ((wordsS (keyT j)).1.getD 0 noWd).text = keyT j ∧ (keyT j).size ≤ 20 := by decide +kernel
theorem keyT_two : ∀ j, j < 7 → (wordsS (keyT j ++ ⟨#[32, 120]⟩)).2 = (0, 0) ∧ (wordsS (keyT j ++ ⟨#[32, 120]⟩)).1.length = 3 := by decide +kernel

set_option maxRecDepth 100000 in
set_option maxHeartbeats 2000000 in
theorem lexKeys_walk (s : ByteArray) (k : Int) (w : World) (hs : s.size ≤ maxLen) (hk : (Lit.int .i64 k).wf = true) (hE : LexEnv w) (hB : Both) :
    Calls Tryd.prog 13 #[.string s, .int .i64 k] w fun e w' => e = .returned (.bool true) ∧ Below w.heap.size w w' := by
  have hW := lexWakes_any w hE hB
  have HKs := Lib.hid (fun W => rkeys_any W)
  have HN := Lib.hid (fun W => within_7 k W hk)
  have HT := Lib.hid (fun W => text_10 s W hs)
  have hz := cutT_size s 10
  generalize cutT s 10 = t at *
  obtain ⟨j, hj⟩ := Int.eq_ofNat_of_zero_le (Int.emod_nonneg k (show (7 : Int) ≠ 0 by decide))
  have hj7 : j < 7 := by have := Int.emod_lt_of_pos k (show (0 : Int) < 7 by decide); omega
  rw [hj] at HN
  clear hj hk
  obtain ⟨q1, q2, q3, q4, q5⟩ := keyT_words j hj7
  obtain ⟨p1, p2⟩ := keyT_two j hj7
  have HS := Lib.hid (fun t W (ht : t.size ≤ 1000000) hW => hB.2.out t W ht hW)
  have z2 : (⟨#[32, 120]⟩ : ByteArray).size = 2 := rfl
  have z5 : (⟨#[37]⟩ : ByteArray).size = 1 := rfl
  have H1 := Lib.hid (fun W hW => hB.1.out (keyT j) W (by omega) hW)
  have H2 := Lib.hid (fun W hW => hB.1.out (keyT j ++ ⟨#[32, 120]⟩) W (by rw [ByteArray.size_append]; omega) hW)
  clear hB
  unfold LWordsTells at H1 H2
  rw [q1, show ByteArray.empty = ⟨#[]⟩ from rfl] at H1
  rw [p1, show ByteArray.empty = ⟨#[]⟩ from rfl] at H2
  simp only at H1 H2
  have HQ : Hid (∀ T : ByteArray, T.data.toList = keyL.getD j [] → T = keyT j) := Lib.hid (fun T h => ByteArray.ext (Array.toList_inj.1 h))
  generalize keyT j = KT at *
  generalize wordsS (KT ++ ⟨#[32, 120]⟩) = R2 at *
  obtain ⟨L2, E2⟩ := R2
  generalize wordsS KT = R1 at *
  obtain ⟨L1, E1⟩ := R1
  simp only at q1 q2 q3 q4 p1 p2 H1 H2
  go_enter Tryd.func13, Tryd.ntmps13
  go_wp2_with fail
  refine hW.mono ?_
  rintro e w1 ⟨rfl, hb1⟩
  go_wp2_with fail
  refine (HKs.out _).mono ?_
  rintro e w2 ⟨⟨v, rfl, B, K, hBK, rfl, hK⟩, hb2⟩
  have hb := hb1.trans (hb2.mono hb1.size)
  obtain ⟨kc, hkl⟩ := hK j hj7
  rw [HQ.out _ hkl] at kc
  clear hK hb1 hb2 HQ hkl
  go_wp2_with fail
  refine (HN.out _).mono ?_
  rintro e w3 ⟨rfl, rfl⟩
  go_wp2_with fail
  refine (H1.out _ (hE.below hb)).mono ?_
  rintro e w3 ⟨⟨v1, rfl, ho1⟩, hb1⟩
  have hv1 := WdsV.of_owns ho1
  replace hb := hb.trans (hb1.mono hb.size)
  clear ho1 hb1 kc
  have hbx := heap_alloc_new w3 (.cells #[.int .i64 0, .int .i64 0, .string ⟨#[]⟩] 49)
  have hba := hb.alloc hb.size (.cells #[.int .i64 0, .int .i64 0, .string ⟨#[]⟩] 49)
  have hv1a := hv1.below ((Below.refl w3.heap.size w3).alloc (Nat.le_refl _) (.cells #[.int .i64 0, .int .i64 0, .string ⟨#[]⟩] 49))
  go_wp2_with fail
  refine (H2.out _ (hE.below hba)).mono ?_
  rintro e w4 ⟨⟨v2, rfl, ho2⟩, hb2⟩
  have hv2 := WdsV.of_owns ho2
  have hb3 := hba.trans (hb2.mono hba.size)
  obtain ⟨c0, c1, c2⟩ := fl_facts3 (block_below hbx hb2 (lt_of_block hbx))
  have hlt := lt_of_block (block_below hbx hb2 (lt_of_block hbx))
  have hv := hv1a.below hb2
  clear hv1 hv1a hba hbx hb2 ho2 hb
  obtain ⟨a1, n1, cc1, rfl, hn1, hnc1, hc1, hx1⟩ := hv.open
  obtain rfl : n1 = 2 := hn1.out.trans q2
  obtain ⟨a2, n2, cc2, rfl, hn2, hnc2, hc2, hx2⟩ := hv2.open
  obtain rfl : n2 = 3 := hn2.out.trans p2
  obtain ⟨b, o, rfl, x0, x1, _⟩ := hx1.out 0 (by omega)
  rw [q3] at x0
  rw [q4] at x1
  have hbl : b < w4.heap.size := World.block_lt_of_cell? _ _ x0
  simp at x0 x1
  clear hv hn1 hx1 hv2 hn2 hx2
  have hb := hb3.alloc hb3.size (.cells #[.int .i64 0, .int .i64 0, .string ⟨#[]⟩] 49)
  clear hb3
  go_wp2_with (first
    | (go_at_call 15; refine (HT.out _).mono ?_; rintro e w' ⟨rfl, rfl⟩))
  refine (HS.out _ _ (by simp only [ByteArray.size_append]; omega) (hE.below hb)).mono ?_
  rintro e w5 ⟨rfl, hb2⟩
  replace hb := hb.trans (hb2.mono hb.size)
  clear hb2
  go_wp2_with (first
    | (go_at_call 15; refine (HT.out _).mono ?_; rintro e w' ⟨rfl, rfl⟩))
  refine (HS.out _ _ (by simp only [ByteArray.size_append]; omega) (hE.below hb)).mono ?_
  rintro e w6 ⟨rfl, hb2⟩
  replace hb := hb.trans (hb2.mono hb.size)
  clear hb2
  go_wp2_with fail
  go_ret
  exact ⟨rfl, hb⟩
end

section
open Go.RowKit
set_option linter.unusedVariables false
set_option linter.unusedSimpArgs false

theorem dec_lt' {n : Nat} (h : n < 10) : Lib.decDigits n = [UInt8.ofNat (48 + n)] := by rw [Lib.decDigits, dif_pos h]
theorem dec_ge' {n : Nat} (h : 10 ≤ n) : Lib.decDigits n = Lib.decDigits (n / 10) ++ [UInt8.ofNat (48 + n % 10)] := by rw [Lib.decDigits, dif_neg (by omega)]
def nnT (n : Nat) : ByteArray := ⟨(List.replicate n 110).toArray⟩
theorem nnT_size (n : Nat) : (nnT n).size = n := by unfold nnT; simp [ByteArray.size]
theorem nnT_succ (n : Nat) : nnT n ++ ⟨#[110]⟩ = nnT (n + 1) := by
  unfold nnT
  rw [ba_append]
  congr 1
  apply Array.toList_inj.1
  rw [List.replicate_succ']
  simp
theorem nn_words : ∀ n, n < 31 → 1 ≤ n → (wordsS (⟨#[32]⟩ ++ nnT n)).2 = (if n ≤ 20 then (0, 0) else (2, 1)) ∧ (wordsS (⟨#[60]⟩ ++ nnT n ++ ⟨#[62]⟩)).2.1 = (if n ≤ 20 then 0 else 2) := by decide +kernel

theorem horA_dec : ∀ n, horA 0 (Lib.decDigits n) = n := by
  intro n
  induction n using Nat.strongRecOn with
  | ind n ih =>
    by_cases h : n < 10
    · rw [dec_lt' h]
      show horA 0 [UInt8.ofNat (48 + n)] = n
      rw [horA_cons]
      show 0 * 10 + ((UInt8.ofNat (48 + n)).toNat - 48) = n
      rw [UInt8.toNat_ofNat']; omega
    · rw [dec_ge' (by omega), horA_snoc, ih (n / 10) (by omega), UInt8.toNat_ofNat']
      omega
theorem dec_ne (n : Nat) : Lib.decDigits n ≠ [] := fun h => by
  by_cases h1 : n < 10
  · rw [dec_lt' h1] at h; cases h
  · rw [dec_ge' (by omega)] at h; simp at h
theorem dec_head : ∀ n, 1 ≤ n → ((Lib.decDigits n).getD 0 0).toNat ≠ 48 := by
  intro n
  induction n using Nat.strongRecOn with
  | ind n ih =>
    intro hn
    by_cases h : n < 10
    · rw [dec_lt' h]
      show (UInt8.ofNat (48 + n)).toNat ≠ 48
      rw [UInt8.toNat_ofNat']; omega
    · rw [dec_ge' (by omega)]
      have := ih (n / 10) (by omega) (by omega)
      cases hl : Lib.decDigits (n / 10) with
      | nil => exact absurd hl (dec_ne _)
      | cons c r => rw [hl] at this; exact this

theorem gAt_data (s : ByteArray) (j : Nat) : gAt s j = ((s.data.toList.getD j 0).toNat : Int) := rfl

theorem num_words (v : Nat) (hv : v < 60000) : (wordsS (⟨#[120, 32]⟩ ++ numT v)).2 = if 1 ≤ v ∧ v ≤ 50000 then (0, 0) else (2, 2) := by
  have hd : (⟨#[120, 32]⟩ ++ numT v).data.toList = 120 :: 32 :: Lib.decDigits v := by
    rw [ByteArray.data_append]
    simp [numT_data]
  have hsz : (⟨#[120, 32]⟩ ++ numT v).size = (Lib.decDigits v).length + 2 := by
    have : (⟨#[120, 32]⟩ ++ numT v).size = (⟨#[120, 32]⟩ ++ numT v).data.toList.length := rfl
    rw [this, hd]; rfl
  have hdl : (Lib.decDigits v).length ≤ 20 := by
    rw [Lib.decDigits_length]
    exact Lib.nDigits_le20 v (by omega)
  generalize (⟨#[120, 32]⟩ ++ numT v) = T at *
  have hpos : 1 ≤ (Lib.decDigits v).length := List.length_pos_iff.2 (dec_ne v)
  have g0 : gAt T 0 = 120 := by rw [gAt_data, hd]; rfl
  have g1 : gAt T 1 = 32 := by rw [gAt_data, hd]; rfl
  have gj : ∀ j, gAt T (2 + j) = (((Lib.decDigits v).getD j 0).toNat : Int) := fun j => by rw [gAt_data, hd, show 2 + j = j + 1 + 1 by omega]; rfl
  have gdig : ∀ j, 2 ≤ j → j < T.size → digB (gAt T j) = true := fun j h1 h2 => by
    have e := gj (j - 2)
    rw [show 2 + (j - 2) = j by omega] at e
    rw [e]
    have hj : j - 2 < (Lib.decDigits v).length := by omega
    have := dec_digits v ((Lib.decDigits v).getD (j - 2) 0) (by rw [List.getD_eq_getElem?_getD, List.getElem?_eq_getElem hj]; exact List.getElem_mem _)
    unfold digB; exact decide_eq_true (by omega)
  have hb0 : betF T.size (gAt T) 0 = (0, true) := bet_here (by omega) (by unfold gapF blankB; rw [g0, if_neg (by decide)]; exact remF_none (by rw [g0]; decide))
  have hgap1 : gapF T.size (gAt T) 1 = ((2 : Nat) : Int) := by unfold gapF blankB; rw [g1, if_pos (by decide)]; rfl
  have hg2 := gdig 2 (by omega) (by omega)
  have hb2 : betF T.size (gAt T) 2 = (2, true) := bet_here (by omega) (by
    have := digB_flat hg2
    unfold gapF blankB
    rw [if_neg (by simp; omega)]
    exact remF_none (by omega))
  have hn0 : nameF T.size (gAt T) 0 = 1 := by
    unfold nameF
    rw [if_pos ⟨by omega, by rw [g0]; decide⟩, nameW, if_pos ⟨by omega, .inl (by rw [g0]; decide)⟩, nameW, if_neg (fun hc => by rw [g1] at hc; exact absurd hc.2 (by decide))]
  have hw0 : wordWd T 0 = (⟨1, T.extract 0 1, 0⟩, 1) := by
    unfold wordWd nameWd
    rw [hn0, if_pos (by omega), if_pos (by omega)]; rfl
  have hD : digF T.size (gAt T) 2 = T.size := by
    have hb := digF_bd T.size (gAt T) 2 (by omega)
    have hf := digF_fin T.size (gAt T) 2
    rcases Nat.lt_or_ge (digF T.size (gAt T) 2) T.size with h | h
    · exact absurd ⟨h, gdig _ hb.1 h⟩ hf
    · omega
  have hL : digL T 2 = Lib.decDigits v := by
    unfold digL
    rw [hD, drop_data, hd]; rfl
  have hw2 : wordWd T 2 = if v = 0 ∨ 50000 < v then (noWd, 2) else (⟨3, T.extract 2 T.size, 2⟩, T.size) := by
    unfold wordWd
    rw [if_neg (fun hc => by
      have := (name_begins (s := T) (by omega)).1 hc
      have h2 := digB_flat hg2
      unfold begB at this; simp at this; omega), if_pos hg2]
    unfold digWd
    rw [hD, hL, horA_dec, if_neg (fun hc => absurd hc.1 (Nat.lt_irrefl _))]
    have e0 := gj 0
    by_cases h0 : v = 0
    · subst h0
      have e1 : gAt T 2 = 48 := by rw [show (2 : Nat) = 2 + 0 from rfl, e0, dec_lt' (by omega)]; rfl
      rw [if_pos (.inl e1), if_pos (.inl rfl)]
    · have := dec_head v (by omega)
      have h48 : ¬ gAt T 2 = 48 := by rw [show (2 : Nat) = 2 + 0 from rfl, e0]; omega
      by_cases h5 : 50000 < v
      · rw [if_pos (.inr h5), if_pos (.inr h5)]
      · rw [if_neg (fun hc => hc.elim h48 h5), if_neg (fun hc => hc.elim h0 h5)]; rfl
  unfold wordsS
  rw [if_neg (by omega)]
  have e1 : wordsF T 0 0 [] = wordsF T 1 0 [⟨1, T.extract 0 1, 0⟩] := by
    rw [words_on hb0 (Nat.le_refl _) (by omega) (by rw [hw0]; simp) (by rw [hw0]; simp), hw0]; rfl
  rw [e1, words_gap (by omega) hgap1 (by omega)]
  by_cases hc : v = 0 ∨ 50000 < v
  · rw [if_pos hc] at hw2
    rw [words_none hb2 (by omega) (by rw [hw2]; rfl), if_neg (by omega)]; rfl
  · rw [if_neg hc] at hw2
    have e2 : wordsF T 2 0 [⟨1, T.extract 0 1, 0⟩] = wordsF T T.size 0 ([⟨1, T.extract 0 1, 0⟩] ++ [⟨3, T.extract 2 T.size, 2⟩]) := by
      rw [words_on hb2 (Nat.le_refl _) (by omega) (by rw [hw2]; simp) (by rw [hw2]; simp), hw2]; rfl
    rw [e2, words_out bet_out, if_pos (by omega)]

theorem bet_blanks (n : Nat) (g : Nat → Int) (h : ∀ j, j < n → g j = 32) : ∀ m i, n - i = m → i ≤ n → betF n g i = (n, true) := by
  intro m
  induction m with
  | zero => intro i hm hi; obtain rfl : i = n := (by omega); exact bet_out
  | succ m ih =>
    intro i hm hi
    have e : gapF n g i = ((i + 1 : Nat) : Int) := by unfold gapF blankB; rw [h i (by omega), if_pos (by decide)]; omega
    rw [betF, dif_pos (by omega), e, if_neg (by omega), if_neg (by omega), show max ((i + 1 : Nat) : Int).toNat (i + 1) = i + 1 by omega]
    exact ih (i + 1) (by omega) (by omega)
theorem pad_words (s : ByteArray) (N : Nat) (hN : s.size = N) (h : ∀ j, j < N → gAt s j = 32) : (wordsS s).2 = if N ≤ 4000 then (0, 0) else (4, 0) := by
  subst hN
  unfold wordsS
  by_cases hc : s.size ≤ 4000
  · rw [if_neg (by omega), if_pos hc, words_out (bet_blanks _ _ h _ 0 rfl (by omega))]
  · rw [if_pos (by omega), if_neg hc]
end

section
open Go.RowKit
set_option linter.unusedVariables false
set_option linter.unusedSimpArgs false

theorem within_30' (i : Int) (w : World) (hi : (Lit.int .i64 i).wf = true) :
    Calls Tryd.prog 23 #[.int .i64 i, .int .i64 30] w fun e w' => e = .returned (.int .i64 (i % 30)) ∧ w = w' := within_any i 30 w hi (by omega) (by omega)
theorem within_60000 (i : Int) (w : World) (hi : (Lit.int .i64 i).wf = true) :
    Calls Tryd.prog 23 #[.int .i64 i, .int .i64 60000] w fun e w' => e = .returned (.int .i64 (i % 60000)) ∧ w = w' := within_any i 60000 w hi (by omega) (by omega)

set_option maxRecDepth 100000 in
set_option maxHeartbeats 20000000 in
theorem lexLong_in (n : Int) (num : Int) (N V : Nat) (w : World) (hN1 : 1 ≤ N) (hN2 : N ≤ 30) (hV : V < 60000) (hnn : n % 30 + 1 = N) (hvv : num % 60000 = V) (hn : (Lit.int .i64 n).wf = true) (hm : (Lit.int .i64 num).wf = true) (hE : LexEnv w) (hB : Both) :
    Calls Tryd.prog 12 #[.int .i64 n, .int .i64 num] w fun e w' => e = .returned (.bool true) ∧ Below w.heap.size w w' := by
  have hW := lexWakes_any w hE hB
  have HN := Lib.hid (fun W => within_30' n W hn)
  have HV := Lib.hid (fun W => within_60000 num W hm)
  rw [show n % 30 = ((N - 1 : Nat) : Int) by omega] at HN
  rw [hvv] at HV
  have eN : (1 : Int) + ((N - 1 : Nat) : Int) = (N : Int) := by omega
  clear hn hm hnn hvv
  have HD := Lib.hid (fun W => digitsOf_any V W (by omega))
  have hdz : (numT V).size ≤ 20 := by
    have e : (numT V).size = (numT V).data.toList.length := rfl
    rw [e, numT_data, Lib.decDigits_length]
    exact Lib.nDigits_le20 V (by omega)
  obtain ⟨q1, q2⟩ := nn_words N (by omega) hN1
  have q3 := num_words V hV
  have z1 : (⟨#[32]⟩ : ByteArray).size = 1 := rfl
  have z2 : (⟨#[60]⟩ : ByteArray).size = 1 := rfl
  have z3 : (⟨#[62]⟩ : ByteArray).size = 1 := rfl
  have z4 : (⟨#[120, 32]⟩ : ByteArray).size = 2 := rfl
  have z5 : (⟨#[110]⟩ : ByteArray).size = 1 := rfl
  have hnz := nnT_size N
  have H1 := Lib.hid (fun W hW => hB.1.out (⟨#[32]⟩ ++ nnT N) W (by rw [ByteArray.size_append]; omega) hW)
  have H2 := Lib.hid (fun W hW => hB.1.out (⟨#[60]⟩ ++ nnT N ++ ⟨#[62]⟩) W (by rw [ByteArray.size_append, ByteArray.size_append]; omega) hW)
  have H3 := Lib.hid (fun W hW => hB.1.out (⟨#[120, 32]⟩ ++ numT V) W (by rw [ByteArray.size_append]; omega) hW)
  have hpz : (bytesOf (List.replicate (3985 + N) 32)).size = 3985 + N := by unfold bytesOf; simp [ByteArray.size]
  have hpg : ∀ j, j < 3985 + N → gAt (bytesOf (List.replicate (3985 + N) 32)) j = 32 := fun j hj => by
    rw [gAt_data]
    unfold bytesOf
    simp [List.getD_eq_getElem?_getD, List.getElem?_replicate, hj]
  have q4 := pad_words _ (3985 + N) hpz hpg
  have H4 := Lib.hid (fun W hW => hB.1.out (bytesOf (List.replicate (3985 + N) 32)) W (by omega) hW)
  have HCv : Hid (∀ (W : World) (B : Nat), (∀ j, j < 3985 + N → W.cell? ⟨B, j, none⟩ = some (.int .u8 32)) → (convert 45 9 (.slice (some ⟨B,0,none⟩) (3985 + N) (3985 + N))).run Tryd.prog W = .ok (.string (bytesOf (List.replicate (3985 + N) 32))) W) := Lib.hid (fun W B h => by
    have := run_conv_cells W 45 9 _ ⟨B, 0, none⟩ (List.replicate (3985 + N) 32) (3985 + N) Tryd.underlying45 Tryd.underlying5 Tryd.underlying9 (fun j v hj => by
      rw [List.getElem?_map, List.getElem?_replicate] at hj
      by_cases hlt : j < 3985 + N
      · rw [if_pos hlt] at hj; simp at hj; subst hj
        rw [addr_add, Nat.zero_add]; exact h j hlt
      · rw [if_neg hlt] at hj; cases hj)
    rw [List.length_replicate] at this
    exact this)
  clear hB hpg
  unfold LWordsTells at H1 H2 H3 H4
  rw [show ByteArray.empty = ⟨#[]⟩ from rfl] at H1 H2 H3 H4
  generalize bytesOf (List.replicate (3985 + N) 32) = P at *
  generalize wordsS (⟨#[32]⟩ ++ nnT N) = R1 at *
  generalize wordsS (⟨#[60]⟩ ++ nnT N ++ ⟨#[62]⟩) = R2 at *
  generalize wordsS (⟨#[120, 32]⟩ ++ numT V) = R3 at *
  generalize wordsS P = R4 at *
  generalize numT V = D at *
  obtain ⟨L1, E1, A1⟩ := R1
  obtain ⟨L2, E2, A2⟩ := R2
  obtain ⟨L3, E3, A3⟩ := R3
  obtain ⟨L4, E4, A4⟩ := R4
  simp only at q1 q2 q3 q4 H1 H2 H3 H4
  have HQ1 := Lib.hid q1
  have HQ2 := Lib.hid q2
  have HQ3 := Lib.hid q3
  obtain ⟨M, hM⟩ : ∃ M, M = 3985 + N := ⟨_, rfl⟩
  rw [← hM] at HCv hpz q4
  have eM : (3985 : Int) + (N : Int) = (M : Int) := by omega
  have hMb : M ≤ 5000 := by omega
  have hq15 : M ≤ 4000 ↔ N ≤ 15 := by omega
  have HQ4 := Lib.hid q4
  clear hM q1 q2 q3 q4
  have HQ15 := Lib.hid hq15
  clear hq15
  have hmk := run_make_row' (P := Tryd.prog) 45 5 (.int .u8 0) 1 Tryd.underlying45 Tryd.infoByte rfl .i64 .i64 M (by omega) (by omega)
  go_enter Tryd.func12, Tryd.ntmps12
  go_wp2_with fail
  refine hW.mono ?_
  rintro e w1 ⟨rfl, hb⟩
  go_wp2_with fail
  refine (HN.out _).mono ?_
  rintro e w2 ⟨rfl, rfl⟩
  go_wp2_with fail
  refine (HV.out _).mono ?_
  rintro e w2 ⟨rfl, rfl⟩
  go_wp2_with fail
  go_loop [5, 6] (fun x y => ∃ k : Nat, k ≤ N ∧ y = .int .i64 k ∧ x = .string (nnT k)) (fun x y => N + 1 - (intOf y).toNat)
  case atStart => exact ⟨0, by omega, rfl, rfl⟩
  case round =>
    obtain ⟨k, hk, rfl, rfl⟩ := hrel
    by_cases hlt : k < N
    · have hks := nnT_size k
      have hkk := nnT_succ k
      generalize nnT k = x at *
      go_wp2_with fail
      go_round
      case rel => exact ⟨k + 1, by omega, by go_num, by first | rfl | rw [hkk]⟩
      case measure => simp [intOf]; omega
    · obtain rfl : N = k := by omega
      clear hlt hk
      have hw1 := hE.below hb
      generalize nnT N = x at *
      go_wp2_with fail
      refine (H1.out _ hw1).mono ?_
      rintro e w2 ⟨⟨v1, rfl, _⟩, hb1⟩
      replace hb := hb.trans (hb1.mono hb.size)
      have hx1 := heap_alloc_new w2 (.cells #[.int .i64 E1, .int .i64 A1, .string ⟨#[]⟩] 49)
      replace hb := hb.alloc hb.size (.cells #[.int .i64 E1, .int .i64 A1, .string ⟨#[]⟩] 49)
      clear hb1
      go_wp2_with fail
      refine (H2.out _ (hE.below hb)).mono ?_
      rintro e w3 ⟨⟨v2, rfl, _⟩, hb1⟩
      replace hb := hb.trans (hb1.mono hb.size)
      replace hx1 := block_below hx1 hb1 (lt_of_block hx1)
      have hx2 := heap_alloc_new w3 (.cells #[.int .i64 E2, .int .i64 A2, .string ⟨#[]⟩] 49)
      have hu := (Below.refl w3.heap.size w3).alloc (Nat.le_refl _) (.cells #[.int .i64 E2, .int .i64 A2, .string ⟨#[]⟩] 49)
      replace hx1 := block_below hx1 hu (lt_of_block hx1)
      replace hb := hb.alloc hb.size (.cells #[.int .i64 E2, .int .i64 A2, .string ⟨#[]⟩] 49)
      clear hb1 hu
      go_wp2_with fail
      refine (HD.out _).mono ?_
      rintro e w4 ⟨rfl, hb1⟩
      replace hb := hb.trans (hb1.mono hb.size)
      replace hx1 := block_below hx1 hb1 (lt_of_block hx1)
      replace hx2 := block_below hx2 hb1 (lt_of_block hx2)
      clear hb1
      go_wp2_with fail
      refine (H3.out _ (hE.below hb)).mono ?_
      rintro e w5 ⟨⟨v3, rfl, _⟩, hb1⟩
      replace hb := hb.trans (hb1.mono hb.size)
      replace hx1 := block_below hx1 hb1 (lt_of_block hx1)
      replace hx2 := block_below hx2 hb1 (lt_of_block hx2)
      have hx3 := heap_alloc_new w5 (.cells #[.int .i64 E3, .int .i64 A3, .string ⟨#[]⟩] 49)
      have hu := (Below.refl w5.heap.size w5).alloc (Nat.le_refl _) (.cells #[.int .i64 E3, .int .i64 A3, .string ⟨#[]⟩] 49)
      replace hx1 := block_below hx1 hu (lt_of_block hx1)
      replace hx2 := block_below hx2 hu (lt_of_block hx2)
      replace hb := hb.alloc hb.size (.cells #[.int .i64 E3, .int .i64 A3, .string ⟨#[]⟩] 49)
      clear hb1 hu
      have hrow : ((w5.alloc (.cells #[.int .i64 E3, .int .i64 A3, .string ⟨#[]⟩] 49)).alloc (.cells (madeCells #[.int .u8 0] M) 5)).rowIs (w5.heap.size + 1) 5 M (fun j => .int .u8 (if j < 0 then 32 else 0)) := by
        have h := World.rowIs_made (w5.alloc (.cells #[.int .i64 E3, .int .i64 A3, .string ⟨#[]⟩] 49)) (.int .u8 0) M 5
        rw [show (w5.alloc (.cells #[.int .i64 E3, .int .i64 A3, .string ⟨#[]⟩] 49)).heap.size = w5.heap.size + 1 by simp] at h
        exact h.congr (fun j _ => by rw [if_neg (Nat.not_lt_zero _)])
      have hlw := hb.size
      have hu := (Below.refl (w5.alloc (.cells #[.int .i64 E3, .int .i64 A3, .string ⟨#[]⟩] 49)).heap.size (w5.alloc (.cells #[.int .i64 E3, .int .i64 A3, .string ⟨#[]⟩] 49))).alloc (Nat.le_refl _) (.cells (madeCells #[.int .u8 0] M) 5)
      have hBe : (w5.alloc (.cells #[.int .i64 E3, .int .i64 A3, .string ⟨#[]⟩] 49)).heap.size = w5.heap.size + 1 := by simp
      go_wp2_with fail
      generalize (w5.alloc (.cells #[.int .i64 E3, .int .i64 A3, .string ⟨#[]⟩] 49)).alloc (.cells (madeCells #[.int .u8 0] M) 5) = w7 at hrow hu ⊢
      generalize (w5.alloc (.cells #[.int .i64 E3, .int .i64 A3, .string ⟨#[]⟩] 49)) = w6 at *
      generalize w5.heap.size + 1 = B at *
      go_loopw [14] (fun x wr => ∃ k : Nat, k ≤ M ∧ x = .int .i64 k ∧ wr.rowIs B 5 M (fun j => .int .u8 (if j < k then 32 else 0)) ∧ Below w6.heap.size w6 wr) (fun x _ => M + 1 - (intOf x).toNat)
      case atStart => exact ⟨0, by omega, rfl, hrow, hu⟩
      case round =>
        obtain ⟨k, hk, rfl, hC, hbr⟩ := hrel
        by_cases hlt : k < M
        · have kc := hC.cell hlt
          have kf := hC.frozen k
          have hC2 := (hC.set k (.int .u8 32)).congr (g := fun j => .int .u8 (if j < k + 1 then 32 else 0)) (fun j hj => by
            by_cases hjk : j = k
            · rw [if_pos hjk, if_pos (by omega)]
            · rw [if_neg hjk]
              by_cases hlk : j < k
              · rw [if_pos hlk, if_pos (by omega)]
              · rw [if_neg hlk, if_neg (by omega)])
          have hb2 := hbr.setCell (p := ⟨B, k, none⟩) (Nat.le_of_eq hBe) (.int .u8 32)
          clear hC hbr
          go_wp2_with fail
          go_roundw
          case rel => exact ⟨k + 1, by omega, by go_num, hC2, hb2⟩
          case measure => simp [intOf]; omega
        · obtain rfl : M = k := by omega
          have hcv := HCv.out wr B (fun j hj => by have := hC.cell hj; rwa [if_pos hj] at this)
          have hbw := hb.trans (hbr.mono hb.size)
          replace hx1 := block_below hx1 hbr (lt_of_block hx1)
          replace hx2 := block_below hx2 hbr (lt_of_block hx2)
          have hx3' : w6.heap[w5.heap.size]? = some (.cells #[.int .i64 E3, .int .i64 A3, .string ⟨#[]⟩] 49 (0, 0)) := hx3
          replace hx3 := block_below hx3' hbr (lt_of_block hx3')
          clear hlt hk hC hbr hx3' hb hu hrow
          go_wp2_with fail
          refine (H4.out _ (hE.below hbw)).mono ?_
          rintro e w8 ⟨⟨v4, rfl, _⟩, hb1⟩
          replace hbw := hbw.trans (hb1.mono hbw.size)
          replace hx1 := block_below hx1 hb1 (lt_of_block hx1)
          replace hx2 := block_below hx2 hb1 (lt_of_block hx2)
          replace hx3 := block_below hx3 hb1 (lt_of_block hx3)
          obtain ⟨c0, c1, _⟩ := fl_facts3 hx1
          obtain ⟨d0, d1, _⟩ := fl_facts3 hx2
          obtain ⟨e0, e1, _⟩ := fl_facts3 hx3
          have l1 := lt_of_block hx1
          have l2 := lt_of_block hx2
          have l3 := lt_of_block hx3
          have r1 := HQ1.out
          have r2 := HQ2.out
          have r3 := HQ3.out
          have r4 := HQ4.out
          have r15 := HQ15.out
          clear HQ1 HQ2 HQ3 HQ4 HQ15
          clear hx1 hx2 hx3 hb1 hcv H1 H2 H3 H4 HCv HD HV HN hmk
          have hcN : N ≤ 15 ∨ (15 < N ∧ N ≤ 20) ∨ 20 < N := by omega
          have hcV : V = 0 ∨ (1 ≤ V ∧ V ≤ 50000) ∨ 50000 < V := by omega
          rcases hcN with hN | ⟨hNa, hN⟩ | hN
          · rw [if_pos (by omega)] at r1 r2
            rw [if_pos (by omega)] at r4
            cases r1; subst r2; cases r4
            clear r15
            have dN15 : decide ((N : Int) ≤ 15) = true := by simp <;> omega
            have dN20 : decide ((N : Int) ≤ 20) = true := by simp <;> omega
            rcases hcV with hVc | ⟨hVa, hVc⟩ | hVc
            · rw [if_neg (by omega)] at r3; cases r3; subst hVc
              have hbz := hbw.alloc hbw.size (.cells #[.int .i64 0, .int .i64 0, .string ⟨#[]⟩] 49)
              go_wp2_with fail
              go_ret
              exact ⟨rfl, hbz⟩
            · rw [if_pos (by omega)] at r3; cases r3
              have hbz := hbw.alloc hbw.size (.cells #[.int .i64 0, .int .i64 0, .string ⟨#[]⟩] 49)
              have dV : decide ((V : Int) ≤ 50000) = true := by simp <;> omega
              go_wp2_with fail
              go_ret
              exact ⟨rfl, hbz⟩
            · rw [if_neg (by omega)] at r3; cases r3
              have hbz := hbw.alloc hbw.size (.cells #[.int .i64 0, .int .i64 0, .string ⟨#[]⟩] 49)
              have dV : decide ((V : Int) ≤ 50000) = false := by simp <;> omega
              go_wp2_with fail
              go_ret
              exact ⟨rfl, hbz⟩
          · rw [if_pos hN] at r1 r2
            rw [if_neg (by omega)] at r4
            cases r1; subst r2; cases r4
            clear r15
            have dN15 : decide ((N : Int) ≤ 15) = false := by simp <;> omega
            have dN20 : decide ((N : Int) ≤ 20) = true := by simp <;> omega
            rcases hcV with hVc | ⟨hVa, hVc⟩ | hVc
            · rw [if_neg (by omega)] at r3; cases r3; subst hVc
              have hbz := hbw.alloc hbw.size (.cells #[.int .i64 4, .int .i64 0, .string ⟨#[]⟩] 49)
              go_wp2_with fail
              go_ret
              exact ⟨rfl, hbz⟩
            · rw [if_pos (by omega)] at r3; cases r3
              have hbz := hbw.alloc hbw.size (.cells #[.int .i64 4, .int .i64 0, .string ⟨#[]⟩] 49)
              have dV : decide ((V : Int) ≤ 50000) = true := by simp <;> omega
              go_wp2_with fail
              go_ret
              exact ⟨rfl, hbz⟩
            · rw [if_neg (by omega)] at r3; cases r3
              have hbz := hbw.alloc hbw.size (.cells #[.int .i64 4, .int .i64 0, .string ⟨#[]⟩] 49)
              have dV : decide ((V : Int) ≤ 50000) = false := by simp <;> omega
              go_wp2_with fail
              go_ret
              exact ⟨rfl, hbz⟩
          · rw [if_neg (by omega)] at r1 r2
            rw [if_neg (by omega)] at r4
            cases r1; subst r2; cases r4
            clear r15
            have dN15 : decide ((N : Int) ≤ 15) = false := by simp <;> omega
            have dN20 : decide ((N : Int) ≤ 20) = false := by simp <;> omega
            rcases hcV with hVc | ⟨hVa, hVc⟩ | hVc
            · rw [if_neg (by omega)] at r3; cases r3; subst hVc
              have hbz := hbw.alloc hbw.size (.cells #[.int .i64 4, .int .i64 0, .string ⟨#[]⟩] 49)
              go_wp2_with fail
              go_ret
              exact ⟨rfl, hbz⟩
            · rw [if_pos (by omega)] at r3; cases r3
              have hbz := hbw.alloc hbw.size (.cells #[.int .i64 4, .int .i64 0, .string ⟨#[]⟩] 49)
              have dV : decide ((V : Int) ≤ 50000) = true := by simp <;> omega
              go_wp2_with fail
              go_ret
              exact ⟨rfl, hbz⟩
            · rw [if_neg (by omega)] at r3; cases r3
              have hbz := hbw.alloc hbw.size (.cells #[.int .i64 4, .int .i64 0, .string ⟨#[]⟩] 49)
              have dV : decide ((V : Int) ≤ 50000) = false := by simp <;> omega
              go_wp2_with fail
              go_ret
              exact ⟨rfl, hbz⟩
end

end Go.Proofs.YtmpdpgbcflogfaaDoor
