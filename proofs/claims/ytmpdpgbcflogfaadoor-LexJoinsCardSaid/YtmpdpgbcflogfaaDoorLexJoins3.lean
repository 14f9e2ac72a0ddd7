/- The law LexJoins: the text of a word. -/
import Derived.Test.YtmpdpgbcflogfaaDoorLexJoins2
namespace Go.Proofs.YtmpdpgbcflogfaaDoor
open Go.RowKit
set_option linter.unusedVariables false
set_option linter.unusedSimpArgs false

set_option maxRecDepth 100000 in
set_option maxHeartbeats 2000000 in
theorem wordText_any (k a : Int) (t : ByteArray) (w : World) (h2 : k = 2 → t.size = 1) (hz : t.size ≤ 1000000) :
    Calls Tryd.prog 28 #[.agg #[.int .i64 k, .string t, .int .i64 a]] w fun r w' => r = .returned (.string (txtOf ⟨k, t, a⟩)) ∧ Below w.heap.size w w' := by
  unfold txtOf
  simp only
  by_cases k2 : k = 2
  · rw [if_pos k2]
    have hg := gAt_get t 0 (by rw [h2 k2]; omega)
    have HQ := Lib.hid (fun W => quote_any (gAt t 0) W (gAt_lo t 0) (gAt_hi t 0))
    have hts := h2 k2
    generalize gAt t 0 = c at *
    subst k2
    go_enter Tryd.func28, Tryd.ntmps28
    go_wp2_with fail
    refine (HQ.out _).mono ?_
    rintro e w1 ⟨rfl, hb1⟩
    have hb2 := ((Below.refl w.heap.size w).alloc (Nat.le_refl _) (.cells #[.int .i64 2, .string t, .int .i64 a] 53)).trans (hb1.mono (by simp))
    go_wp2_with fail
    go_ret
    exact ⟨rfl, hb2⟩
  rw [if_neg k2]
  have d2 : (k == 2) = false := by simpa using k2
  have z1 : (⟨#[60]⟩ : ByteArray).size = 1 := rfl
  have z2 : (⟨#[62]⟩ : ByteArray).size = 1 := rfl
  have z3 : (⟨#[37, 123]⟩ : ByteArray).size = 2 := rfl
  have z4 : (⟨#[37, 125]⟩ : ByteArray).size = 2 := rfl
  clear h2 k2
  by_cases k4 : k = 4
  · rw [if_pos k4]
    subst k4
    go_enter Tryd.func28, Tryd.ntmps28
    go_wp2_with fail
    go_ret
    exact ⟨rfl, (Below.refl _ _).alloc (Nat.le_refl _) _⟩
  rw [if_neg k4]
  have d4 : (k == 4) = false := by simpa using k4
  by_cases k9 : k = 9
  · rw [if_pos k9]
    subst k9
    clear k4
    go_enter Tryd.func28, Tryd.ntmps28
    go_wp2_with fail
    go_ret
    exact ⟨rfl, (Below.refl _ _).alloc (Nat.le_refl _) _⟩
  rw [if_neg k9]
  have d9 : (k == 9) = false := by simpa using k9
  clear k4 k9
  go_enter Tryd.func28, Tryd.ntmps28
  go_wp2_with fail
  go_ret
  exact ⟨rfl, (Below.refl _ _).alloc (Nat.le_refl _) _⟩

/-! what the law asks of a text's words -/
def TJ (sA sB : ByteArray) (L : List Wd) (j : Nat) : ByteArray := ⟨(joinW sA sB (L.take j)).toArray⟩
theorem TJ_zero (sA sB : ByteArray) (L : List Wd) : TJ sA sB L 0 = ⟨#[]⟩ := rfl
theorem TJ_succ (sA sB : ByteArray) (L : List Wd) (j : Nat) (hj : j < L.length) : TJ sA sB L (j + 1) = TJ sA sB L j ++ sA ++ txtOf (L.getD j noWd) ++ sB := by
  unfold TJ
  have e : L.take (j + 1) = L.take j ++ [L.getD j noWd] := by
    rw [List.take_add_one, List.getElem?_eq_getElem hj, List.getD_eq_getElem?_getD, List.getElem?_eq_getElem hj]; rfl
  rw [e]
  unfold joinW
  rw [List.flatMap_append]
  apply ByteArray.ext
  apply Array.toList_inj.1
  simp [ByteArray.data_append]
theorem txtOf_size (w : Wd) (n : Nat) (h : Real n w) : (txtOf w).size ≤ n + 4 := by
  unfold txtOf
  have h3 := h.2.2
  split
  · have : (bytesOf (quoteL (gAt w.text 0))).size = (quoteL (gAt w.text 0)).length := by unfold bytesOf; simp [ByteArray.size]
    rw [this]
    unfold quoteL
    repeat' split
    all_goals simp <;> omega
  · split
    · rw [ByteArray.size_append, ByteArray.size_append]
      have : (⟨#[60]⟩ : ByteArray).size = 1 := rfl
      have : (⟨#[62]⟩ : ByteArray).size = 1 := rfl
      omega
    · split
      · rw [ByteArray.size_append, ByteArray.size_append]
        have : (⟨#[37, 123]⟩ : ByteArray).size = 2 := rfl
        have : (⟨#[37, 125]⟩ : ByteArray).size = 2 := rfl
        omega
      · omega
theorem TJ_size (sA sB : ByteArray) (hA : sA.size ≤ 8) (hB : sB.size ≤ 8) (L : List Wd) (n : Nat) (hn : n ≤ 300) (h : ∀ w ∈ L, Real n w) : ∀ j, j ≤ L.length → (TJ sA sB L j).size ≤ j * 320 := by
  intro j
  induction j with
  | zero => intro _; exact Nat.le_refl _
  | succ j ih =>
    intro hj
    rw [TJ_succ sA sB L j (by omega)]
    have h1 := ih (by omega)
    have h2 := txtOf_size (L.getD j noWd) n (h _ (by rw [List.getD_eq_getElem?_getD, List.getElem?_eq_getElem (by omega)]; exact List.getElem_mem _))
    simp only [ByteArray.size_append]
    omega

structure Law (s sA sB : ByteArray) (L : List Wd) (N : Nat) : Prop where
  len : L.length = N + 1
  last : (L.getD N noWd).kind = 10
  word : ∀ j, j < N → Real s.size (L.getD j noWd) ∧ 0 ≤ (L.getD j noWd).place ∧ (L.getD j noWd).place ≤ s.size ∧ (j + 1 < N → (L.getD j noWd).place ≤ (L.getD (j + 1) noWd).place)
  next : ∀ j, j < N → ∃ T2, T2 = TJ sA sB L (j + 1) ∧ T2 = TJ sA sB L j ++ sA ++ txtOf (L.getD j noWd) ++ sB ∧ T2.size ≤ (j + 1) * 320 ∧ (TJ sA sB L j).size ≤ j * 320
  back : (TJ sA sB L N).size ≤ 4000 → (wordsS (TJ sA sB L N)).2.1 = 0 ∧ (wordsS (TJ sA sB L N)).1.length = N + 1 ∧ ∀ j, j < N → ((wordsS (TJ sA sB L N)).1.getD j noWd).kind = (L.getD j noWd).kind ∧ ((wordsS (TJ sA sB L N)).1.getD j noWd).text = (L.getD j noWd).text

theorem wordsF_nil (s : ByteArray) : ∀ n i m L, s.size - i = n → (wordsF s i m L).2.1 ≠ 0 → (wordsF s i m L).1 = [] := by
  intro n
  induction n using Nat.strongRecOn with
  | ind n ih =>
    intro i m L hn h0
    rw [wordsF] at h0 ⊢
    split
    · rename_i h
      rw [dif_pos h] at h0
      have h1 := betF_bd s.size (gAt s) _ i rfl (by omega)
      have h2 := wordWd_bd s _ h.2.2.1 h.2.2.2.1
      exact ih (s.size - (wordWd s (betF s.size (gAt s) i).1).2) (by omega) (wordWd s (betF s.size (gAt s) i).1).2 _ _ rfl h0
    · rename_i h
      rw [dif_neg h] at h0
      unfold stopF at h0 ⊢
      split
      · rfl
      · rename_i c1; rw [if_neg c1] at h0
        split
        · rename_i c2; rw [if_pos c2] at h0
          split
          · rfl
          · rename_i c3; rw [if_neg c3] at h0; exact absurd rfl h0
        · rename_i c2; rw [if_neg c2] at h0; exact absurd rfl h0
theorem wordsS_nil (s : ByteArray) (h : (wordsS s).2.1 ≠ 0) : (wordsS s).1 = [] := by
  unfold wordsS at h ⊢
  split
  · rfl
  · rename_i hc; rw [if_neg hc] at h; exact wordsF_nil s _ 0 0 [] rfl h

theorem law_of (s sA sB : ByteArray) (hs : s.size ≤ 300) (hA : sA ∈ seps) (hB : sB ∈ seps) (h0 : (wordsS s).2.1 = 0) : ∃ N, N ≤ 300 ∧ Law s sA sB (wordsS s).1 N := by
  have eS : wordsS s = wordsF s 0 0 [] := by unfold wordsS; rw [if_neg (by omega)]
  have hlen := wordsF_len s _ 0 0 [] rfl
  rw [eS] at h0 ⊢
  obtain ⟨W, last, e1, e2, e3, e4, e5⟩ := join_words s sA sB hA hB _ 0 0 [] rfl (by omega) h0
  rw [e1] at hlen ⊢
  have hl : ([] ++ W ++ [last]).length = W.length + 1 := by simp
  have hg : ∀ j, j < W.length → ([] ++ W ++ [last]).getD j noWd = W.getD j noWd := fun j hj => by
    rw [List.nil_append, List.getD_eq_getElem?_getD, List.getElem?_append_left hj, List.getD_eq_getElem?_getD]
  have ht : ∀ j, j ≤ W.length → TJ sA sB ([] ++ W ++ [last]) j = TJ sA sB W j := fun j hj => by
    unfold TJ
    rw [List.nil_append, List.take_append_of_le_length hj]
  have hsz := TJ_size sA sB (seps_head sA hA).2.2 (seps_head sB hB).2.2 W s.size hs e3
  have hr : ∀ j, j < W.length → Real s.size (W.getD j noWd) := fun j hj => e3 _ (by rw [List.getD_eq_getElem?_getD, List.getElem?_eq_getElem hj]; exact List.getElem_mem _)
  refine ⟨W.length, by rw [hl] at hlen; simp at hlen; omega, hl, ?_, ?_, ?_, ?_⟩
  · rw [List.getD_eq_getElem?_getD, List.getElem?_append_right (by simp)]
    simpa using e2
  · intro j hj
    have hp := e4.at W 0 j hj
    rw [hg j hj]
    exact ⟨hr j hj, by have := hp.1; omega, hp.2.1, fun h => by rw [hg (j + 1) h]; exact hp.2.2 h⟩
  · intro j hj
    refine ⟨_, rfl, ?_, ?_, ?_⟩
    · rw [ht (j + 1) hj, ht j (by omega), hg j hj]; exact TJ_succ sA sB W j hj
    · rw [ht (j + 1) hj]; exact hsz (j + 1) hj
    · rw [ht j (by omega)]; exact hsz j (by omega)
  · intro hT
    rw [ht W.length (Nat.le_refl _)] at hT ⊢
    have eT : wordsS (TJ sA sB W W.length) = wordsF (TJ sA sB W W.length) 0 0 [] := by unfold wordsS; rw [if_neg (by omega)]
    have hd : (TJ sA sB W W.length).data.toList.drop 0 = joinW sA sB W := by
      unfold TJ; rw [List.take_length]; rfl
    obtain ⟨W2, f1, f2⟩ := e5 _ 0 [] (Nat.zero_le _) hd
    have fl : W2.length = W.length := by have := congrArg List.length f2; simpa using this
    rw [eT, f1]
    refine ⟨rfl, by simp [fl], fun j hj => ?_⟩
    rw [hg j hj]
    have e6 : ([] ++ W2 ++ [(⟨10, ByteArray.empty, (TJ sA sB W W.length).size⟩ : Wd)]).getD j noWd = W2.getD j noWd := by
      rw [List.nil_append, List.getD_eq_getElem?_getD, List.getElem?_append_left (by omega), List.getD_eq_getElem?_getD]
    simp only
    rw [e6]
    have hk : keyW (W2.getD j noWd) = keyW (W.getD j noWd) := by
      have h1 : (W2.map keyW).getD j (0, ByteArray.empty) = (W.map keyW).getD j (0, ByteArray.empty) := by rw [f2]
      rw [List.getD_eq_getElem?_getD, List.getD_eq_getElem?_getD, List.getElem?_map, List.getElem?_map, List.getElem?_eq_getElem (by omega), List.getElem?_eq_getElem hj] at h1
      rw [List.getD_eq_getElem?_getD, List.getD_eq_getElem?_getD, List.getElem?_eq_getElem (by omega), List.getElem?_eq_getElem hj]
      exact h1
    unfold keyW at hk
    exact ⟨congrArg Prod.fst hk, congrArg Prod.snd hk⟩

end Go.Proofs.YtmpdpgbcflogfaaDoor
