/- The walks of the laws on bytes in quotes, second part. -/
import Derived.Test.YtoifpljfgpnmgaaCharLaw
import Derived.Outline
namespace Go.Proofs.Ytoifpljfgpnmgaa
open Go.RowKit
set_option linter.unusedVariables false

theorem gAt_bytesOf (l : List Int) (j : Nat) (hj : j < l.length) (hb : ∀ x ∈ l, 0 ≤ x ∧ x ≤ 255) : gAt (bytesOf l) j = l.getD j 0 := by
  unfold gAt bytesOf
  rw [List.getD_eq_getElem?_getD, List.getD_eq_getElem?_getD]
  simp [List.getElem?_eq_getElem hj]
  have := hb l[j] (List.getElem_mem hj)
  omega

theorem gAt_append_right (a b : ByteArray) (j : Nat) (h : a.size ≤ j) : gAt (a ++ b) j = gAt b (j - a.size) := by
  unfold gAt
  have e : (a ++ b).data.toList = a.data.toList ++ b.data.toList := by rw [ByteArray.data_append]; simp
  rw [e, List.getD_eq_getElem?_getD, List.getD_eq_getElem?_getD, List.getElem?_append_right (by simpa using h)]
  rfl

theorem gAt_append_left (a b : ByteArray) (j : Nat) (h : j < a.size) : gAt (a ++ b) j = gAt a j := by
  unfold gAt
  have e : (a ++ b).data.toList = a.data.toList ++ b.data.toList := by rw [ByteArray.data_append]; simp
  rw [e, List.getD_eq_getElem?_getD, List.getD_eq_getElem?_getD, List.getElem?_append_left (by simpa using h)]

theorem take_around (c : Int) (a b : ByteArray) (hn : quoteL c ≠ []) :
    takeS (a ++ bytesOf (quoteL c) ++ b) a.size = (c, (a.size : Int) + ((bytesOf (quoteL c)).size : Int), true) := by
  have hz := quote_size c
  have hp : 0 < (quoteL c).length := List.length_pos_iff.2 hn
  have hs : (a ++ bytesOf (quoteL c) ++ b).size = a.size + (quoteL c).length + b.size := by
    rw [ByteArray.size_append, ByteArray.size_append, hz]
  rw [takeS_in a.size (by omega), hz]
  refine take_match _ ⟨hn, by omega, fun j hj => ?_⟩
  show gAt (a ++ bytesOf (quoteL c) ++ b) (a.size + j) = _
  rw [gAt_append_left _ _ _ (by rw [ByteArray.size_append, hz]; omega), gAt_append_right _ _ _ (by omega)]
  rw [show a.size + j - a.size = j by omega]
  exact gAt_bytesOf _ _ hj (quote_lo c)

theorem take_short (c : Int) : takeS ((bytesOf (quoteL c)).extract 0 ((bytesOf (quoteL c)).size - 1)) 0 = (0, 0, false) := by
  have hz := quote_size c
  unfold takeS
  split
  · unfold takeF
    rw [ByteArray.size_extract, hz]
    rcases quoteL_cases c with ⟨hp, hq⟩ | hq | ⟨l, hb, hc, hq, hp⟩
    · rw [hq]; simp
    · rw [hq]; simp
    · rw [hq, if_neg, if_neg]
      · simp
      · rintro ⟨_, _, h, _⟩
        have e : gAt ((bytesOf [39, 92, l, 39]).extract 0 ([39, 92, l, 39].length - 1)) (Int.toNat 0 + 1) = 92 := by
          unfold gAt
          rw [Lib.extract_data]
          simp [bytesOf]
        have h' : plainB (gAt ((bytesOf [39, 92, l, 39]).extract 0 ([39, 92, l, 39].length - 1)) (Int.toNat 0 + 1)) = true := h
        rw [e] at h'
        revert h'; decide
  · rfl

theorem charBack_walk (c : Int) (s t : ByteArray) (w0 : (Lit.int .u8 c).wf = true) (w1 : s.size ≤ maxLen) (w2 : t.size ≤ maxLen) (w : World) :
    Calls Try.prog 4 #[.int .u8 c, .string s, .string t] w fun e w' => e = .returned (.bool true) ∧ Below w.heap.size w w' := by
  unfold maxLen at w1 w2
  have hc : 0 ≤ c ∧ c ≤ 255 := by simpa [Lit.wf, IntKind.min, IntKind.max, IntKind.signed, IntKind.bits] using w0
  obtain ⟨B, hB⟩ : ∃ B, Hid (B = bytesOf (quoteL c)) := ⟨_, Lib.hid rfl⟩
  have hBz : B.size ≤ 4 := by rw [hB.out, quote_size]; rcases quoteL_cases c with ⟨_, h⟩ | h | ⟨l, _, _, h, _⟩ <;> rw [h] <;> simp
  by_cases hq : quoteL c = []
  · have hq' : B.toList.isEmpty = true := by rw [hB.out, hq, Lib.toList_data]; rfl
    have hcc : (c < 32 ∧ c ≠ 9 ∧ c ≠ 10 ∧ c ≠ 13) ∨ 126 < c := by
      rcases quoteL_cases c with ⟨_, h⟩ | h | ⟨l, _, _, h, _⟩
      · rw [h] at hq; cases hq
      · unfold quoteL at h
        by_cases h1 : plainB c = true
        · have h1' := h1
          unfold plainB at h1'
          grind
        · unfold plainB at h1
          grind
      · rw [h] at hq; cases hq
    clear hq
    go_enter Try.func4, Try.ntmps4
    go_wp2_with fail
    refine (charWakes_any _).mono ?_
    rintro e w1 ⟨rfl, hb1⟩
    go_wp2_with fail
    refine (text_any _ _ hc.1 hc.2).mono ?_
    rintro e w2 ⟨rfl, hb2⟩
    rw [← hB.out]
    rcases hcc with ⟨h1, h2, h3, h4⟩ | h1
    · have h3' : (c != 10) = true := by rw [bne_iff_ne]; exact h3
      have h2' : (c != 9) = true := by rw [bne_iff_ne]; exact h2
      have h4' : (c != 13) = true := by rw [bne_iff_ne]; exact h4
      go_wp2_with fail
      go_ret
      exact ⟨rfl, hb1.trans (hb2.mono hb1.size)⟩
    · by_cases h2 : 32 ≤ c
      · go_wp2_with fail
        go_ret
        exact ⟨ret_bool (by simp), hb1.trans (hb2.mono hb1.size)⟩
      · omega
  · have hq' : B.toList.isEmpty = false := by rw [hB.out, Lib.toList_data]; simpa [bytesOf] using hq
    have hBp : 1 ≤ B.size := by rw [hB.out, quote_size]; exact List.length_pos_iff.2 hq
    have K1 : Hid (∀ a b, takeS (a ++ B ++ b) a.size = (c, (a.size : Int) + (B.size : Int), true)) := Lib.hid (fun a b => by rw [hB.out]; exact take_around c a b hq)
    have K2 : Hid (takeS (B.extract 0 (B.size - 1)) 0 = (0, 0, false)) := Lib.hid (by rw [hB.out]; exact take_short c)
    clear hq
    go_enter Try.func4, Try.ntmps4
    go_wp2_with fail
    refine (charWakes_any _).mono ?_
    rintro e w1 ⟨rfl, hb1⟩
    go_wp2_with fail
    refine (text_any _ _ hc.1 hc.2).mono ?_
    rintro e w2 ⟨rfl, hb2⟩
    rw [← hB.out]
    go_wp2_with fail
    refine (textCut_any _ 20 _ (by omega) (by omega)).mono ?_
    rintro e w' ⟨⟨a, rfl, ha, _⟩, rfl⟩
    go_wp2_with fail
    refine (textCut_any _ 20 _ (by omega) (by omega)).mono ?_
    rintro e w' ⟨⟨b, rfl, hb, _⟩, rfl⟩
    go_wp2_with fail
    refine (take_any _ _ _ (by rw [ByteArray.size_append, ByteArray.size_append]; omega)).mono ?_
    rintro e w' ⟨he, rfl⟩
    obtain rfl := tells_eq he (K1.out a b)
    clear he
    go_wp2_with fail
    refine (take_any _ _ _ (by rw [ByteArray.size_extract]; omega)).mono ?_
    rintro e w' ⟨he, rfl⟩
    obtain rfl := tells_eq he K2.out
    clear he
    go_wp2_with fail
    go_ret
    exact ⟨rfl, hb1.trans (hb2.mono hb1.size)⟩
theorem charBytes_walk (a b d : Int) (w0 : (Lit.int .u8 a).wf = true) (w1 : (Lit.int .u8 b).wf = true) (w2 : (Lit.int .u8 d).wf = true) (w : World) :
    Calls Try.prog 5 #[.int .u8 a, .int .u8 b, .int .u8 d] w fun e w' => e = .returned (.bool true) ∧ Below w.heap.size w w' := by
  have hc3 : ∀ (x y z : Int) (w : World) (B : Nat), B = w.heap.size → (convert 29 9 (.slice (some ⟨B,0,none⟩) 3 3)).run Try.prog (w.alloc (.cells #[.int .u8 x, .int .u8 y, .int .u8 z] 5)) = .ok (.string (bytesOf [x,y,z])) (w.alloc (.cells #[.int .u8 x, .int .u8 y, .int .u8 z] 5)) :=
    fun x y z w B hB => hB ▸ run_conv_new w _ _ _ [x, y, z] 3 Try.underlying29 Try.underlying5 Try.underlying9
  have hc4 : ∀ (x y z u : Int) (w : World) (B : Nat), B = w.heap.size → (convert 29 9 (.slice (some ⟨B,0,none⟩) 4 4)).run Try.prog (w.alloc (.cells #[.int .u8 x, .int .u8 y, .int .u8 z, .int .u8 u] 5)) = .ok (.string (bytesOf [x,y,z,u])) (w.alloc (.cells #[.int .u8 x, .int .u8 y, .int .u8 z, .int .u8 u] 5)) :=
    fun x y z u w B hB => hB ▸ run_conv_new w _ _ _ [x, y, z, u] 4 Try.underlying29 Try.underlying5 Try.underlying9
  have hc5 : ∀ (x y z u v : Int) (w : World) (B : Nat), B = w.heap.size → (convert 29 9 (.slice (some ⟨B,0,none⟩) 5 5)).run Try.prog (w.alloc (.cells #[.int .u8 x, .int .u8 y, .int .u8 z, .int .u8 u, .int .u8 v] 5)) = .ok (.string (bytesOf [x,y,z,u,v])) (w.alloc (.cells #[.int .u8 x, .int .u8 y, .int .u8 z, .int .u8 u, .int .u8 v] 5)) :=
    fun x y z u v w B hB => hB ▸ run_conv_new w _ _ _ [x, y, z, u, v] 5 Try.underlying29 Try.underlying5 Try.underlying9
  go_enter Try.func5, Try.ntmps5
  go_wp2_with fail
  refine (charWakes_any _).mono ?_
  rintro e w1 ⟨rfl, hb1⟩
  go_wp2_with fail
  go_loopw [8] (fun v wr => ∃ k : Nat, k ≤ 5 ∧ v = .int .i64 k ∧ Below (w1.heap.size + 6) ((((((w1.alloc (.cells #[.int .u8 39, .int .u8 a, .int .u8 39] 5)).alloc (.cells #[.int .u8 39, .int .u8 92, .int .u8 a, .int .u8 39] 5)).alloc (.cells #[.int .u8 39, .int .u8 a, .int .u8 b, .int .u8 39] 5)).alloc (.cells #[.int .u8 a, .int .u8 b, .int .u8 d] 5)).alloc (.cells #[.int .u8 39, .int .u8 a, .int .u8 b, .int .u8 d, .int .u8 39] 5)).alloc (.cells #[.string (bytesOf [39, a, 39]), .string (bytesOf [39, 92, a, 39]), .string (bytesOf [39, a, b, 39]), .string (bytesOf [a, b, d]), .string (bytesOf [39, a, b, d, 39])] 9)) wr) (fun v _ => (5 - intOf v).toNat)
  case atStart => exact ⟨0, by omega, rfl, Below.refl _ _⟩
  case round =>
    obtain ⟨k, hk1, rfl, hb⟩ := hrel
    by_cases hlt : k < 5
    · have hL : ∃ x, wr.cell? ⟨w1.heap.size + 5, k, none⟩ = some (.string x) ∧ x.size ≤ 5 := by
        rw [hb.cell (p := ⟨w1.heap.size + 5, k, none⟩) (by simp), cell_top _ _ _ _ _ (by simp)]
        match k, hlt with
        | 0, _ => exact ⟨_, rfl, by simp [bytesOf, ByteArray.size]⟩
        | 1, _ => exact ⟨_, rfl, by simp [bytesOf, ByteArray.size]⟩
        | 2, _ => exact ⟨_, rfl, by simp [bytesOf, ByteArray.size]⟩
        | 3, _ => exact ⟨_, rfl, by simp [bytesOf, ByteArray.size]⟩
        | 4, _ => exact ⟨_, rfl, by simp [bytesOf, ByteArray.size]⟩
      obtain ⟨x, hx, hxs⟩ := hL
      obtain ⟨c1, e1, ok1, hk⟩ := takes_both x 0
      go_wp2_with (fail)
      refine (take_any _ _ _ (by omega)).mono ?_
      rintro e w2 ⟨he, rfl⟩
      obtain rfl := tells_eq he hk.out
      clear he
      go_wp2_with (fail)
      refine (rtake_any _ _ _ (by omega)).mono ?_
      rintro e w2 ⟨he, hb2⟩
      obtain rfl := tells_eq he hk.out
      clear he
      go_wp2_with (fail)
      go_roundw
      case rel => exact ⟨k + 1, by omega, by go_num, hb.trans (hb2.mono (by have := hb.size; simp at this; omega))⟩
      case measure => simp [intOf]; omega
    · go_wp2_with (fail)
      go_ret
      exact ⟨rfl, hb1.trans (Below.trans (((((((Below.refl _ _).alloc (by first | (simp; done) | (simp; omega)) _).alloc (by first | (simp; done) | (simp; omega)) _).alloc (by first | (simp; done) | (simp; omega)) _).alloc (by first | (simp; done) | (simp; omega)) _).alloc (by first | (simp; done) | (simp; omega)) _).alloc (by first | (simp; done) | (simp; omega)) _) (hb.mono (by omega)) |>.mono hb1.size)⟩

end Go.Proofs.Ytoifpljfgpnmgaa
