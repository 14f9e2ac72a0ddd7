/- What is read of a line that was written. -/
import Derived.Test.YtmfjpdlegaimlaaGreatDoorDec6
namespace Go.Proofs.YtmfjpdlegaimlaaGreatDoor
open Go.RowKit
set_option linter.unusedVariables false
theorem dig_u (d : Nat) (h : d < 10) : (UInt8.ofNat (48 + d)).toNat = 48 + d := by
  rw [UInt8.toNat_ofNat']; omega
theorem dec_all : ∀ n : Nat, (Lib.decDigits n).all dgU = true
  | n => by
    rw [Lib.decDigits]
    by_cases h : n < 10
    · rw [dif_pos h]
      have := dig_u n h
      simp [dgU]; omega
    · rw [dif_neg h, List.all_append, dec_all (n / 10)]
      have := dig_u (n % 10) (by omega)
      simp [dgU]; omega
theorem dec_val (n : Nat) : valL 0 (Lib.decDigits n) = n := by
    rw [Lib.decDigits]
    by_cases h : n < 10
    · rw [dif_pos h]
      have := dig_u n h
      show (10 * 0 + (((UInt8.ofNat (48 + n)).toNat : Int) - 48)) = _
      omega
    · rw [dif_neg h, valL_app, dec_val (n / 10)]
      have := dig_u (n % 10) (by omega)
      show (10 * ((n / 10 : Nat) : Int) + (((UInt8.ofNat (48 + n % 10)).toNat : Int) - 48)) = _
      omega
  termination_by n
  decreasing_by omega
theorem dec_ne (n : Nat) : Lib.decDigits n ≠ [] := by
  rw [Lib.decDigits]; split <;> simp
theorem dec_head : ∀ n : Nat, 0 < n → (Lib.decDigits n).headD 0 ≠ 48
  | n, h0 => by
    rw [Lib.decDigits]
    by_cases h : n < 10
    · rw [dif_pos h]
      intro e
      have := dig_u n h
      have e : UInt8.ofNat (48 + n) = 48 := e
      rw [e] at this
      have h48 : (48 : UInt8).toNat = 48 := rfl
      omega
    · rw [dif_neg h]
      have ih := dec_head (n / 10) (by omega)
      have hn := dec_ne (n / 10)
      cases hd : Lib.decDigits (n / 10) with
      | nil => exact absurd hd hn
      | cons b r => rw [hd] at ih; exact ih
theorem dec_len : ∀ (k n : Nat), (Lib.decDigits n).length ≤ k + 1 ↔ n < 10 ^ (k + 1)
  | 0, n => by
    rw [Lib.decDigits]
    by_cases h : n < 10
    · rw [dif_pos h]; simp; omega
    · rw [dif_neg h, List.length_append]
      have := List.length_pos_iff.2 (dec_ne (n / 10))
      constructor
      · intro h2; rw [List.length_singleton] at h2; omega
      · intro h2; omega
  | k + 1, n => by
    rw [Lib.decDigits]
    by_cases h : n < 10
    · rw [dif_pos h]
      have : 10 ≤ 10 ^ (k + 1 + 1) := by rw [Nat.pow_succ]; have : 0 < 10 ^ (k + 1) := Nat.pow_pos (by decide); omega
      constructor
      · intro _; omega
      · intro _; simp
    · rw [dif_neg h, List.length_append]
      have ih := dec_len k (n / 10)
      have e : n / 10 < 10 ^ (k + 1) ↔ n < 10 ^ (k + 1 + 1) := by
        rw [Nat.pow_succ 10 (k + 1)]
        exact Nat.div_lt_iff_lt_mul (by decide)
      rw [← e, ← ih]
      simp
theorem dec_ok (n : Nat) : okD (Lib.decDigits n) = decide (n < 1000000000) := by
  have h1 := dec_len 8 n
  have e9 : 10 ^ (8 + 1) = 1000000000 := by decide
  rw [e9] at h1
  unfold okD
  rw [dec_all]
  have hne : (Lib.decDigits n).isEmpty = false := by
    cases hd : Lib.decDigits n with
    | nil => exact absurd hd (dec_ne n)
    | cons _ _ => rfl
  rw [hne]
  have h2 : (decide ((Lib.decDigits n).length = 1) || !((Lib.decDigits n).headD 0 == 48)) = true := by
    by_cases h : 0 < n
    · have : ((Lib.decDigits n).headD 0 == 48) = false := beq_eq_false_iff_ne.2 (dec_head n h)
      rw [this]; simp
    · have : n = 0 := by omega
      subst this
      rw [Lib.decDigits]; rfl
  rw [h2]
  by_cases h : n < 1000000000
  · rw [decide_eq_true h, decide_eq_true (h1.2 h)]; rfl
  · rw [decide_eq_false h, decide_eq_false (fun e => h (h1.1 e))]; rfl
def smallI (x : Int) : Bool := decide (-999999999 ≤ x ∧ x ≤ 999999999)
theorem dec_first (n : Nat) : ∃ b r, Lib.decDigits n = b :: r ∧ b ≠ 45 := by
  have h := dec_all n
  cases hd : Lib.decDigits n with
  | nil => exact absurd hd (dec_ne n)
  | cons b r =>
    refine ⟨b, r, rfl, ?_⟩
    rintro rfl
    rw [hd, List.all_cons, Bool.and_eq_true] at h
    exact absurd h.1 (by decide)
/-- the first number of a text that begins with one -/
theorem itoa_first (x : Int) (T : List UInt8) (hT : T = [] ∨ ∃ R, T = 44 :: R) : gv (sg (Lib.itoa x ++ T)).1 (tw (sg (Lib.itoa x ++ T)).2) = (if smallI x then some x else none) ∧ (sg (Lib.itoa x ++ T)).2.drop (tw (sg (Lib.itoa x ++ T)).2).length = T := by
  have htw : ∀ n, tw (Lib.decDigits n ++ T) = Lib.decDigits n := by
    intro n
    rcases hT with rfl | ⟨R, rfl⟩
    · rw [List.append_nil]; exact tw_of_all (dec_all n)
    · rw [tw_app _ _ _ (by decide)]; exact tw_of_all (dec_all n)
  unfold Lib.itoa
  by_cases hn : x < 0
  · rw [if_pos hn]
    have hs : sg (45 :: Lib.decDigits x.natAbs ++ T) = (true, Lib.decDigits x.natAbs ++ T) := by
      show sg (45 :: (Lib.decDigits x.natAbs ++ T)) = _
      unfold sg; exact if_pos rfl
    rw [hs]
    simp only
    rw [htw, List.drop_left]
    refine ⟨?_, rfl⟩
    unfold gv
    rw [dec_ok, dec_val]
    have h0 : (((x.natAbs : Int)) == 0) = false := by simp; omega
    rw [h0]
    by_cases h : x.natAbs < 1000000000
    · have : smallI x = true := decide_eq_true (by omega)
      rw [decide_eq_true h, this]
      simp; omega
    · have : smallI x = false := decide_eq_false (by omega)
      rw [decide_eq_false h, this]; rfl
  · rw [if_neg hn]
    obtain ⟨b, r, hd, hb⟩ := dec_first x.toNat
    have hs : sg (Lib.decDigits x.toNat ++ T) = (false, Lib.decDigits x.toNat ++ T) := by
      rw [hd]
      show sg (b :: (r ++ T)) = (false, b :: (r ++ T))
      unfold sg; exact if_neg hb
    rw [hs]
    simp only
    rw [htw, List.drop_left]
    refine ⟨?_, rfl⟩
    unfold gv
    rw [dec_ok, dec_val]
    by_cases h : x.toNat < 1000000000
    · have : smallI x = true := decide_eq_true (by omega)
      rw [decide_eq_true h, this]
      simp; omega
    · have : smallI x = false := decide_eq_false (by omega)
      rw [decide_eq_false h, this]; rfl
theorem joinI_cons (x : Int) (r : List Int) : joinI (x :: r) = Lib.itoa x ++ (if r = [] then [] else [44, 32] ++ joinI r) := by
  unfold joinI
  rw [List.map_cons, Lib.join_cons]
  cases r with
  | nil => rfl
  | cons y t =>
    rw [if_neg (by simp), List.map_cons, Lib.join_cons]
    simp [Lib.joinTail]
theorem seqL_join : ∀ (f : Nat) (x : Int) (r : List Int), (joinI (x :: r)).length < f → seqL f (joinI (x :: r)) = if (x :: r).all smallI then some (x :: r) else none
  | 0, _, _, h => absurd h (Nat.not_lt_zero _)
  | f + 1, x, r, h => by
    have e := joinI_cons x r
    have hT : (if r = [] then [] else [44, 32] ++ joinI r) = [] ∨ ∃ R, (if r = [] then [] else [44, 32] ++ joinI r) = (44 : UInt8) :: R := by
      by_cases hr : r = []
      · left; rw [if_pos hr]
      · right; rw [if_neg hr]; exact ⟨_, rfl⟩
    obtain ⟨h1, h2⟩ := itoa_first x _ hT
    rw [← e] at h1 h2
    rw [seqL, h1, h2]
    cases r with
    | nil =>
      rw [List.all_cons, List.all_nil, Bool.and_true]
      cases smallI x <;> rfl
    | cons y t =>
      rw [if_neg (show ¬ (y :: t = []) by simp)]
      have e3 : ([44, 32] ++ joinI (y :: t)).drop 2 = joinI (y :: t) := rfl
      have e4 : ([44, 32] ++ joinI (y :: t)).take 2 = [44, 32] := rfl
      have hl : (joinI (y :: t)).length < f := by
        rw [e, if_neg (by simp)] at h
        simp only [List.length_append, List.length_cons, List.length_nil] at h
        omega
      rw [e3, e4, if_neg (show ¬ ([44, 32] ++ joinI (y :: t) = []) by simp), if_pos rfl, seqL_join f y t hl, List.all_cons (a := x)]
      generalize (y :: t).all smallI = b
      cases smallI x <;> cases b <;> rfl
/-- numbers' bytes are signs, digits, commas and blanks -/
theorem dgU_61 : dgU 61 = false := by decide
theorem seqL_bytes : ∀ (f : Nat) (b : List UInt8), (61 : UInt8) ∈ b → seqL f b = none
  | 0, _, _ => rfl
  | f + 1, b, h => by
    have hs : 61 ∈ (sg b).2 := by
      cases b with
      | nil => exact absurd h (by simp)
      | cons c r =>
        by_cases hc : c = 45
        · have e : sg (c :: r) = (true, r) := if_pos hc
          rw [e]
          rcases List.mem_cons.1 h with rfl | h
          · exact absurd hc (by decide)
          · exact h
        · have e : sg (c :: r) = (false, c :: r) := if_neg hc
          rw [e]; exact h
    have hr : 61 ∈ (sg b).2.drop (tw (sg b).2).length := by
      rw [tw_pre (sg b).2] at hs
      rcases List.mem_append.1 hs with h1 | h1
      · have := List.all_eq_true.1 (tw_all (sg b).2) _ h1
        rw [dgU_61] at this
        exact absurd this (by decide)
      · exact h1
    rw [seqL]
    generalize (sg b).2.drop (tw (sg b).2).length = r at hr ⊢
    rw [if_neg (fun e => by rw [e] at hr; exact absurd hr (by simp))]
    by_cases h2 : r.take 2 = [44, 32]
    · have : 61 ∈ r.drop 2 := by
        rw [← List.take_append_drop 2 r, h2] at hr
        rcases List.mem_append.1 hr with h3 | h3
        · exact absurd h3 (by decide)
        · exact h3
      rw [if_pos h2, seqL_bytes f _ this]
      cases gv (sg b).1 (tw (sg b).2) <;> rfl
    · rw [if_neg h2]
      cases gv (sg b).1 (tw (sg b).2) <;> rfl
theorem mid_apart (k : Nat) (h0 : 0 < k) (h9 : k < 9) (T R : List UInt8) (h : midT ++ R = midT.take k ++ (midT ++ T)) : False := by
  have h2 := congrArg (fun l => (l.drop k).take 9) h
  have hk : (midT.take k).length = k := by rw [List.length_take]; exact Nat.min_eq_left (by show k ≤ 9; omega)
  have e2 : ((midT.take k ++ (midT ++ T)).drop k).take 9 = midT := by
    rw [List.drop_left' hk]; rfl
  simp only [e2] at h2
  match k, h0, h9 with
  | 1, _, _ => exact absurd h2 (by simp [midT])
  | 2, _, _ => exact absurd h2 (by simp [midT])
  | 3, _, _ => exact absurd h2 (by simp [midT])
  | 4, _, _ => exact absurd h2 (by simp [midT])
  | 5, _, _ => exact absurd h2 (by simp [midT])
  | 6, _, _ => exact absurd h2 (by simp [midT])
  | 7, _, _ => exact absurd h2 (by simp [midT])
  | 8, _, _ => exact absurd h2 (by simp [midT])
/-- of a written line: what is read of it -/
theorem decl_list (s name : ByteArray) (l : List Int) (hL : s.data.toList = varT ++ (name.data.toList ++ midT ++ (joinI l ++ [125]))) :
    declL s = if name.data.toList.all ltU && !name.data.toList.isEmpty && l.all smallI then some (name, l) else none := by
  have hp : Lib.hasPrefix s.data.toList varT = true := by
    unfold Lib.hasPrefix; rw [List.isPrefixOf_iff_prefix, hL]; exact List.prefix_append _ _
  have ht : Lib.trimPrefix s.data.toList varT = name.data.toList ++ midT ++ (joinI l ++ [125]) := by
    unfold Lib.trimPrefix; rw [hp, if_pos rfl, hL]; rfl
  have hsuf : ∀ Q : List UInt8, Lib.hasSuffix (Q ++ [125]) [125] = true := fun Q => by
    unfold Lib.hasSuffix; rw [List.isSuffixOf_iff_suffix]; exact List.suffix_append _ _
  have htr : ∀ Q : List UInt8, Lib.trimSuffix (Q ++ [125]) [125] = Q := fun Q => by
    unfold Lib.trimSuffix; rw [hsuf, if_pos rfl]; simp
  unfold declL
  dsimp only
  rw [hp, ht]
  generalize hN : name.data.toList = N
  cases hlet : N.all ltU with
  | true =>
    have eix : Lib.index (N ++ midT ++ (joinI l ++ [125])) midT = N.length := by
      rw [List.append_assoc]
      exact index_behind N _ 32 _ (fun b hb => by rintro rfl; have := List.all_eq_true.1 hlet _ hb; exact absurd this (by decide)) (by
        rw [List.isPrefixOf_iff_prefix]; exact List.prefix_append _ _)
    have ecut : Lib.cut (N ++ midT ++ (joinI l ++ [125])) midT = (N, joinI l ++ [125], true) := by
      unfold Lib.cut
      rw [eix, if_pos (by omega), Int.toNat_natCast]
      have h1 : (N ++ midT ++ (joinI l ++ [125])).take N.length = N := by rw [List.append_assoc, List.take_left]
      have h2 : (N ++ midT ++ (joinI l ++ [125])).drop (N.length + midT.length) = joinI l ++ [125] := by rw [← List.drop_drop, List.append_assoc, List.drop_left, List.drop_left]
      rw [h1, h2]
    rw [ecut]
    dsimp only
    rw [nameOk_l, hlet, hsuf, htr]
    cases he : N.isEmpty with
    | true => unfold declF; rfl
    | false =>
      unfold declF
      have c2 : true = true ∧ true = true ∧ (true && !false) = true ∧ true = true := ⟨rfl, rfl, rfl, rfl⟩
      rw [if_pos c2, tx_size]
      have hnm : tx N = name := by rw [← hN, tx_data]
      rw [hnm]
      cases l with
      | nil => rfl
      | cons x r =>
        have hj : (joinI (x :: r)).length ≠ 0 := by
          rw [joinI_cons, List.length_append]
          have : (Lib.itoa x).length ≠ 0 := by
            unfold Lib.itoa
            split
            · simp
            · exact fun e => dec_ne _ (List.length_eq_zero_iff.1 e)
          omega
        rw [if_neg hj, words_l _ ((joinI (x :: r)).length + 1) (by omega), seqL_join _ x r (by omega)]
        cases (x :: r).all smallI <;> rfl
  | false =>
    rw [Bool.false_and, Bool.false_and]
    unfold declF
    rw [if_neg (c := false = true) (by decide)]
    unfold Lib.cut
    rcases Lib.index_spec (N ++ midT ++ (joinI l ++ [125])) midT with ⟨h1, _⟩ | ⟨q, h1, hq, h5, h6⟩
    · rw [h1, if_neg (c := (0 : Int) ≤ -1) (by decide)]
      exact if_neg (fun h => absurd h.2.1 Bool.false_ne_true)
    · rw [h1, if_pos (c := (0 : Int) ≤ (q : Int)) (by omega), Int.toNat_natCast]
      dsimp only
      have hqN : q ≤ N.length := by
        rcases Nat.lt_or_ge N.length q with h | h
        · have h7 := h6 N.length h
          unfold Lib.occAt at h7
          rw [List.append_assoc, List.drop_left] at h7
          have h8 : midT.isPrefixOf (midT ++ (joinI l ++ [125])) = true := by
            rw [List.isPrefixOf_iff_prefix]; exact List.prefix_append _ _
          rw [h8] at h7
          exact absurd h7 (by decide)
        · exact h
      have htk : (N ++ midT ++ (joinI l ++ [125])).take q = N.take q := by
        rw [List.append_assoc, List.take_append_of_le_length hqN]
      rw [htk, nameOk_l]
      unfold Lib.occAt at h5
      rw [List.isPrefixOf_iff_prefix] at h5
      obtain ⟨T, hT⟩ := h5
      have hTd : (N ++ midT ++ (joinI l ++ [125])).drop (q + midT.length) = T := by
        rw [← List.drop_drop, ← hT, List.drop_left]
      rw [hTd]
      rcases Nat.lt_or_ge q N.length with hlt | hge
      · -- the name holds one of its own
        have hdr : midT ++ T = N.drop q ++ (midT ++ (joinI l ++ [125])) := by
          rw [hT, List.append_assoc, List.drop_append_of_le_length hqN]
        have hlen : q + 9 ≤ N.length := by
          rcases Nat.lt_or_ge (N.length - q) 9 with h | h
          · exfalso
            have h7 : N.drop q = midT.take (N.length - q) := by
              have := congrArg (fun l => l.take (N.length - q)) hdr
              change (midT ++ T).take (N.length - q) = (N.drop q ++ (midT ++ (joinI l ++ [125]))).take (N.length - q) at this
              rw [List.take_append_of_le_length (by show N.length - q ≤ 9; omega), List.take_left' (by rw [List.length_drop])] at this
              exact this.symm
            rw [h7] at hdr
            exact mid_apart (N.length - q) (by omega) h _ _ hdr
          · omega
        have hTe : T = (N.drop (q + 9) ++ midT ++ joinI l) ++ [125] := by
          have := congrArg (fun l => l.drop 9) hdr
          change (midT ++ T).drop 9 = (N.drop q ++ (midT ++ (joinI l ++ [125]))).drop 9 at this
          rw [show (midT ++ T).drop 9 = T from rfl, List.drop_append_of_le_length (by rw [List.length_drop]; omega), List.drop_drop] at this
          rw [this]; simp
        rw [hTe, htr, tx_size]
        by_cases hc : true = true ∧ true = true ∧ ((N.take q).all ltU && !(N.take q).isEmpty) = true ∧ Lib.hasSuffix (N.drop (q + 9) ++ midT ++ joinI l ++ [125]) [125] = true
        · rw [if_pos hc, if_neg (by simp [midT]), words_l _ _ (Nat.lt_succ_self _), seqL_bytes _ _ (by simp [midT])]; rfl
        · rw [if_neg hc]
      · have : q = N.length := by omega
        subst this
        rw [List.take_length, hlet]
        rw [if_neg]
        rintro ⟨_, _, h, _⟩
        exact absurd h (by simp)
end Go.Proofs.YtmfjpdlegaimlaaGreatDoor
