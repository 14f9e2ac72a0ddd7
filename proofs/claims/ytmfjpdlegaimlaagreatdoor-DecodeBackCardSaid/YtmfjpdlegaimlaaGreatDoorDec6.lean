/- What the program reads of a line is what the document reads. -/
import Derived.Test.YtmfjpdlegaimlaaGreatDoorDec5
import Derived.Lib.SplitLaws
import Derived.Lib.IndexMore
namespace Go.Proofs.YtmfjpdlegaimlaaGreatDoor
open Go.RowKit
set_option linter.unusedVariables false
set_option linter.unusedSimpArgs false

def dgU (b : UInt8) : Bool := decide (48 ≤ b.toNat ∧ b.toNat ≤ 57)
def ltU (b : UInt8) : Bool := decide (97 ≤ b.toNat ∧ b.toNat ≤ 122 ∨ 65 ≤ b.toNat ∧ b.toNat ≤ 90)
theorem digB_u (b : UInt8) : digB (b.toNat : Int) = dgU b := by
  unfold digB dgU; rw [Bool.eq_iff_iff, decide_eq_true_iff, decide_eq_true_iff]; omega
theorem letB_u (b : UInt8) : letB (b.toNat : Int) = ltU b := by
  unfold letB ltU; rw [Bool.eq_iff_iff, decide_eq_true_iff, decide_eq_true_iff]; omega
theorem gAt_l (s : ByteArray) (j : Nat) (h : j < s.data.toList.length) : gAt s j = ((s.data.toList[j]'h).toNat : Int) := by
  unfold gAt; rw [List.getD_eq_getElem?_getD, List.getElem?_eq_getElem h]; rfl
theorem digF_l (s : ByteArray) (m i : Nat) (hm : s.size - i = m) (hi : i ≤ s.size) : digF s.size (gAt s) i = i + ((s.data.toList.drop i).takeWhile dgU).length := by
    have hs : s.data.toList.length = s.size := rfl
    rw [digF]
    by_cases h : i < s.size
    · rw [gAt_l s i h, digB_u, List.drop_eq_getElem_cons h]
      cases hd : dgU s.data.toList[i] with
      | false => rw [if_neg (by simp), List.takeWhile_cons, hd]; rfl
      | true =>
        rw [if_pos ⟨h, rfl⟩, digF_l s (s.size - (i + 1)) (i + 1) rfl h, List.takeWhile_cons, hd, if_pos rfl, List.length_cons]
        omega
    · rw [if_neg (fun x => h x.1), List.drop_eq_nil_of_le (by omega)]; rfl
  termination_by s.size - i
theorem letF_l (s : ByteArray) (m i : Nat) (hm : s.size - i = m) (hi : i ≤ s.size) : letF s.size (gAt s) i = i + ((s.data.toList.drop i).takeWhile ltU).length := by
    have hs : s.data.toList.length = s.size := rfl
    rw [letF]
    by_cases h : i < s.size
    · rw [gAt_l s i h, letB_u, List.drop_eq_getElem_cons h]
      cases hd : ltU s.data.toList[i] with
      | false => rw [if_neg (by simp), List.takeWhile_cons, hd]; rfl
      | true =>
        rw [if_pos ⟨h, rfl⟩, letF_l s (s.size - (i + 1)) (i + 1) rfl h, List.takeWhile_cons, hd, if_pos rfl, List.length_cons]
        omega
    · rw [if_neg (fun x => h x.1), List.drop_eq_nil_of_le (by omega)]; rfl
  termination_by s.size - i
theorem letAll_l (s : ByteArray) (m i : Nat) (hm : s.size - i = m) (hi : i ≤ s.size) : letAll s.size (gAt s) i = (s.data.toList.drop i).all ltU := by
    have hs : s.data.toList.length = s.size := rfl
    rw [letAll]
    by_cases h : i < s.size
    · rw [gAt_l s i h, letB_u, if_pos h, List.drop_eq_getElem_cons h, letAll_l s (s.size - (i + 1)) (i + 1) rfl h]
      rfl
    · rw [if_neg h, List.drop_eq_nil_of_le (by omega)]; rfl
  termination_by s.size - i
/-- what digits tell -/
def valL (acc : Int) : List UInt8 → Int
  | [] => acc
  | b :: r => valL (10 * acc + ((b.toNat : Int) - 48)) r
theorem valL_app (l r : List UInt8) (acc : Int) : valL acc (l ++ r) = valL (valL acc l) r := by
  induction l generalizing acc with
  | nil => rfl
  | cons b l ih => exact ih _
theorem valR_l (s : ByteArray) (i : Nat) : ∀ d, i + d ≤ s.size → valR (gAt s) i d = valL 0 ((s.data.toList.drop i).take d)
  | 0, _ => rfl
  | d + 1, h => by
    have hs : s.data.toList.length = s.size := rfl
    rw [valR, valR_l s i d (by omega), gAt_l s (i + d) (by omega), List.take_add_one, List.getElem?_drop, List.getElem?_eq_getElem (by omega), Option.toList_some, valL_app]
    rfl
theorem decFrom_l : ∀ (l : List UInt8) (acc : Nat), l.all dgU = true → ∃ m : Nat, Lib.decFrom acc l = some m ∧ (m : Int) = valL acc l
  | [], acc, _ => ⟨acc, rfl, rfl⟩
  | b :: r, acc, h => by
    rw [List.all_cons, Bool.and_eq_true] at h
    have hb : 48 ≤ b.toNat ∧ b.toNat ≤ 57 := of_decide_eq_true h.1
    obtain ⟨m, h1, h2⟩ := decFrom_l r (acc * 10 + (b.toNat - 48)) h.2
    refine ⟨m, ?_, ?_⟩
    · rw [Lib.decFrom]
      have : Lib.digitVal b = some (b.toNat - 48) := by unfold Lib.digitVal; rw [if_pos hb]
      rw [this]; exact h1
    · rw [h2, valL]; congr 1; omega
theorem atoi_l (l : List UInt8) (h : l.all dgU = true) (hne : l ≠ []) : Lib.atoi l = some (valL 0 l) := by
  obtain ⟨m, h1, h2⟩ := decFrom_l l 0 h
  cases l with
  | nil => exact absurd rfl hne
  | cons b r =>
    rw [List.all_cons, Bool.and_eq_true] at h
    have hb : 48 ≤ b.toNat ∧ b.toNat ≤ 57 := of_decide_eq_true h.1
    have n45 : (b == 45) = false := by
      cases e : b == 45 with
      | false => rfl
      | true => have := beq_iff_eq.1 e; subst this; exact absurd hb.1 (by decide)
    have n43 : (b == 43) = false := by
      cases e : b == 43 with
      | false => rfl
      | true => have := beq_iff_eq.1 e; subst this; exact absurd hb.1 (by decide)
    simp only [Lib.atoi, n45, n43, Lib.decNat, List.isEmpty_cons, h1]
    show some (m : Int) = _
    rw [h2]; rfl
/-- digits that are a number -/
def okD (l : List UInt8) : Bool := !l.isEmpty && decide (l.length ≤ 9) && l.all dgU && (decide (l.length = 1) || !(l.headD 0 == 48))
theorem all_tw (p : UInt8 → Bool) : ∀ l : List UInt8, (l.takeWhile p).length < l.length ↔ l.all p = false
  | [] => by simp
  | b :: r => by
    cases hb : p b with
    | false => simp [hb]
    | true => simp only [List.takeWhile_cons, hb, if_true, List.length_cons, List.all_cons, Bool.true_and]; rw [← all_tw p r]; omega
theorem u8_48 (b : UInt8) : ((b.toNat : Int) = 48) ↔ b = 48 := by
  constructor
  · intro h; apply UInt8.toNat_inj.1; show b.toNat = 48; omega
  · rintro rfl; rfl
theorem cntL_l (l : List UInt8) : cntL (tx l) = if okD l then (valL 0 l, true) else (0, false) := by
  have e0 : (tx l).data.toList = l := rfl
  have h2 := digF_l (tx l) (tx l).size 0 (by omega) (Nat.zero_le _)
  rw [e0, List.drop_zero, Nat.zero_add] at h2
  have h3 := all_tw dgU l
  unfold cntL cntF
  rw [h2, tx_size, e0]
  cases l with
  | nil => rfl
  | cons b r =>
    have hg : gAt (tx (b :: r)) 0 = (b.toNat : Int) := rfl
    have hz := u8_48 b
    rw [hg]
    unfold okD
    by_cases h9 : (b :: r).length ≤ 9
    · cases ha : (b :: r).all dgU with
      | false =>
        rw [if_pos (.inr (.inr (h3.2 ha)))]; simp
      | true =>
        have hn : ¬ ((b :: r).length = 0 ∨ (9 : Int) < ((b :: r).length : Nat) ∨ ((b :: r).takeWhile dgU).length < (b :: r).length) := by
          rintro (h | h | h)
          · simp at h
          · omega
          · rw [h3.1 h] at ha; exact absurd ha (by decide)
        rw [if_neg hn, atoi_l _ ha (by simp)]
        simp only [List.isEmpty_cons, Bool.not_false, Bool.true_and, decide_eq_true h9, List.headD_cons, Option.getD_some]
        by_cases h1 : (b :: r).length = 1
        · rw [if_neg (fun h => h.2 h1), decide_eq_true h1]; simp
        · by_cases hb : b = 48
          · rw [if_pos ⟨hz.2 hb, h1⟩]
            subst hb
            rw [decide_eq_false h1]; rfl
          · rw [if_neg (fun h => hb (hz.1 h.1))]
            have : (b == 48) = false := by simpa using hb
            rw [this]; simp
    · rw [if_pos (.inr (.inl (by omega)))]
      have : okD (b :: r) = false := by unfold okD; rw [decide_eq_false h9, Bool.and_false, Bool.false_and, Bool.false_and]
      unfold okD at this
      rw [this]; rfl
/-- a word's sign, and the rest -/
def sg : List UInt8 → Bool × List UInt8
  | [] => (false, [])
  | b :: r => if b = 45 then (true, r) else (false, b :: r)
def gv (m : Bool) (ds : List UInt8) : Option Int := if okD ds && !(m && valL 0 ds == 0) then some (if m then -valL 0 ds else valL 0 ds) else none
/-- a word that is a number -/
def goodL (w : List UInt8) : Option Int := gv (sg w).1 (sg w).2
theorem numF_l (w : List UInt8) : goodL w = if (numF (tx w)).2 then some (numF (tx w)).1 else none := by
  have e0 : (tx w).data.toList = w := rfl
  unfold numF negT bareT goodL gv
  rw [e0]
  have key : ∀ (m : Bool) (r : List UInt8), Lib.hasPrefix w [45] = m → (⟨(Lib.trimPrefix w [45]).toArray⟩ : ByteArray) = tx r → sg w = (m, r) → (if (okD (sg w).2 && !((sg w).1 && valL 0 (sg w).2 == 0)) = true then some (if (sg w).1 = true then -valL 0 (sg w).2 else valL 0 (sg w).2) else none) =
      if (if Lib.hasPrefix w [45] = true then (-(cntL ⟨(Lib.trimPrefix w [45]).toArray⟩).1, (cntL ⟨(Lib.trimPrefix w [45]).toArray⟩).2 && decide ((cntL ⟨(Lib.trimPrefix w [45]).toArray⟩).1 ≠ 0)) else cntL ⟨(Lib.trimPrefix w [45]).toArray⟩).2 = true then some (if Lib.hasPrefix w [45] = true then (-(cntL ⟨(Lib.trimPrefix w [45]).toArray⟩).1, (cntL ⟨(Lib.trimPrefix w [45]).toArray⟩).2 && decide ((cntL ⟨(Lib.trimPrefix w [45]).toArray⟩).1 ≠ 0)) else cntL ⟨(Lib.trimPrefix w [45]).toArray⟩).1 else none := by
    intro m r h1 h2 h3
    rw [h1, h2, h3, cntL_l]
    generalize valL 0 r = v
    cases m <;> cases okD r <;> by_cases hv : v = 0 <;> simp [hv]
  cases w with
  | nil => exact key false [] rfl rfl rfl
  | cons b r =>
    by_cases hb : b = 45
    · subst hb; exact key true r rfl rfl rfl
    · have hp : Lib.hasPrefix (b :: r) [45] = false := by
        show ((45 == b) && _) = false
        have : ((45 : UInt8) == b) = false := by simpa using fun h => hb h.symm
        rw [this]; rfl
      exact key false (b :: r) hp (by unfold Lib.trimPrefix; rw [hp]; rfl) (by rw [sg, if_neg hb])
def numsK : List (List UInt8) → Option (List Int)
  | [] => some []
  | w :: r => (goodL w).bind fun x => (numsK r).map (x :: ·)
theorem tx_data (x : ByteArray) : tx x.data.toList = x := by
  obtain ⟨⟨l⟩⟩ := x; rfl
theorem numsW_l : ∀ l : List ByteArray, numsW l = numsK (l.map (·.data.toList))
  | [] => rfl
  | x :: r => by
    rw [numsW, List.map_cons, numsK, numF_l, tx_data, numsW_l r]
    cases (numF x).2 <;> rfl
def tw (l : List UInt8) : List UInt8 := l.takeWhile dgU
theorem tw_pre (l : List UInt8) : l = tw l ++ l.drop (tw l).length := by
  unfold tw
  induction l with
  | nil => rfl
  | cons b r ih =>
    rw [List.takeWhile_cons]
    cases dgU b with
    | false => rfl
    | true => simp only [if_true, List.cons_append, List.length_cons, List.drop_succ_cons]; rw [← ih]
theorem tw_all (l : List UInt8) : (tw l).all dgU = true := by unfold tw; simp
theorem tw_of_all {l : List UInt8} (h : l.all dgU = true) : tw l = l := by
  unfold tw
  induction l with
  | nil => rfl
  | cons b r ih =>
    rw [List.all_cons, Bool.and_eq_true] at h
    rw [List.takeWhile_cons, h.1, if_pos rfl, ih h.2]
theorem tw_app (l r : List UInt8) (c : UInt8) (hc : dgU c = false) : tw (l ++ c :: r) = tw l := by
  unfold tw
  induction l with
  | nil => rw [List.nil_append, List.takeWhile_cons, hc]; rfl
  | cons b t ih => rw [List.cons_append, List.takeWhile_cons, List.takeWhile_cons, ih]
theorem okD_all {l : List UInt8} (h : okD l = true) : l.all dgU = true := by
  unfold okD at h; simp only [Bool.and_eq_true] at h; exact h.1.2
/-- numbers one behind the other -/
def seqL : Nat → List UInt8 → Option (List Int)
  | 0, _ => none
  | f + 1, b => (gv (sg b).1 (tw (sg b).2)).bind fun x =>
    (if (sg b).2.drop (tw (sg b).2).length = [] then some [] else if ((sg b).2.drop (tw (sg b).2).length).take 2 = [44, 32] then seqL f (((sg b).2.drop (tw (sg b).2).length).drop 2) else none).map (x :: ·)
theorem sg_cut (b : List UInt8) : ∃ k, (sg b).2 = b.drop k ∧ k ≤ b.length := by
  cases b with
  | nil => exact ⟨0, rfl, Nat.le_refl _⟩
  | cons c r =>
    by_cases h : c = 45
    · exact ⟨1, by rw [sg, if_pos h]; rfl, by simp⟩
    · exact ⟨0, by rw [sg, if_neg h]; rfl, by simp⟩
theorem sg_app (P T : List UInt8) : sg (P ++ 44 :: T) = ((sg P).1, (sg P).2 ++ 44 :: T) := by
  cases P with
  | nil => show sg (44 :: T) = (false, 44 :: T); unfold sg; exact if_neg (by decide)
  | cons c r =>
    rw [List.cons_append, sg, sg]
    by_cases h : c = 45
    · rw [if_pos h, if_pos h]
    · rw [if_neg h, if_neg h]; rfl
theorem occ_two {s : List UInt8} {j : Nat} (h : (s.drop j).take 2 = [44, 32]) : Lib.occAt s [44, 32] j = true := by
  unfold Lib.occAt
  rw [List.isPrefixOf_iff_prefix]
  exact ⟨(s.drop j).drop 2, by rw [← h, List.take_append_drop]⟩
theorem gv_all {m : Bool} {l : List UInt8} (h : l.all dgU = false) : gv m l = none := by
  unfold gv
  have : okD l = false := by
    cases e : okD l with
    | false => rfl
    | true => rw [okD_all e] at h; exact absurd h (by decide)
  rw [this]; rfl
theorem seqL_words : ∀ (f : Nat) (b : List UInt8), b.length < f → seqL f b = numsK (Lib.splitK [44, 32] 0 (Lib.count b [44, 32]) b)
  | 0, b, h => absurd h (Nat.not_lt_zero _)
  | f + 1, b, h => by
    obtain ⟨k, hk, hkl⟩ := sg_cut b
    rcases Lib.index_spec b [44, 32] with ⟨h1, h2⟩ | ⟨q, h1, h2, h3, h4⟩
    · rw [Lib.count_miss h1, Lib.splitK, numsK, seqL, goodL]
      have hno : ∀ T : List UInt8, ((sg b).2.drop T.length).take 2 ≠ [44, 32] := by
        intro T hT
        rw [hk, List.drop_drop] at hT
        have hl : k + T.length ≤ b.length := by
          have := congrArg List.length hT
          simp at this
          omega
        have := h2 _ hl
        rw [occ_two hT] at this
        exact absurd this (by decide)
      by_cases hr : (sg b).2.drop (tw (sg b).2).length = []
      · have e : tw (sg b).2 = (sg b).2 := by
          have := tw_pre (sg b).2; rw [hr, List.append_nil] at this; exact this.symm
        rw [if_pos hr, e]
        cases gv (sg b).1 (sg b).2 <;> rfl
      · rw [if_neg hr, if_neg (hno _)]
        have ha : (sg b).2.all dgU = false := by
          cases e : (sg b).2.all dgU with
          | false => rfl
          | true => exact absurd (by rw [tw_of_all e, List.drop_length]) hr
        rw [gv_all ha]
        cases gv (sg b).1 (tw (sg b).2) <;> rfl
    · obtain ⟨T, hT⟩ : ∃ T, b.drop q = 44 :: 32 :: T := by
        unfold Lib.occAt at h3
        rw [List.isPrefixOf_iff_prefix] at h3
        obtain ⟨T, hT⟩ := h3
        exact ⟨T, hT.symm⟩
      have hb : b = b.take q ++ 44 :: 32 :: T := by rw [← hT, List.take_append_drop]
      have hTd : b.drop (q + 2) = T := by rw [← List.drop_drop, hT]; rfl
      have hTl : T.length < f := by
        have := congrArg List.length hb
        simp at this
        omega
      rw [Lib.count_hit (by simp) h1, Nat.add_comm 1]
      have e9 : Lib.splitK [44, 32] 0 (Lib.count (b.drop (q + 2)) [44, 32] + 1) b = b.take (q + 0) :: Lib.splitK [44, 32] 0 (Lib.count (b.drop (q + 2)) [44, 32]) (b.drop (q + 2)) := by
        rw [Lib.splitK.eq_def]
        simp only
        rw [h1, if_neg (by simp)]; rfl
      have e10 : Lib.splitK [44, 32] 0 (Lib.count (b.drop (q + [(44 : UInt8), 32].length)) [44, 32] + 1) b = _ := e9
      rw [e10]
      show _ = numsK (b.take (q + 0) :: Lib.splitK [44, 32] 0 (Lib.count (b.drop (q + 2)) [44, 32]) (b.drop (q + 2)))
      rw [hTd, Nat.add_zero, numsK, ← seqL_words f T hTl]
      generalize hP : b.take q = P at *
      have hPl : P.length = q := by rw [← hP, List.length_take]; omega
      have hs := sg_app P (32 :: T)
      rw [← hb] at hs
      rw [seqL, goodL, hs]
      have e1 : tw ((sg P).2 ++ 44 :: 32 :: T) = tw (sg P).2 := tw_app _ _ _ (by decide)
      simp only [e1]
      cases ha : (sg P).2.all dgU with
      | true =>
        rw [tw_of_all ha, List.drop_left]
        cases gv (sg P).1 (sg P).2 <;> rfl
      | false =>
        rw [gv_all ha]
        have hlt : (tw (sg P).2).length < (sg P).2.length := (all_tw dgU _).2 ha
        have hne : ((sg P).2 ++ 44 :: 32 :: T).drop (tw (sg P).2).length ≠ [] := by
          intro e
          have := congrArg List.length e
          simp at this
          omega
        have hno : (((sg P).2 ++ 44 :: 32 :: T).drop (tw (sg P).2).length).take 2 ≠ [44, 32] := by
          intro e
          obtain ⟨k2, hk2, hk2l⟩ := sg_cut P
          have e2 : (sg P).2 ++ 44 :: 32 :: T = b.drop k2 := by
            rw [hk2, hb, List.drop_append_of_le_length hk2l]
          rw [e2, List.drop_drop] at e
          have := h4 (k2 + (tw (sg P).2).length) (by
            have : (sg P).2.length = P.length - k2 := by rw [hk2, List.length_drop]
            omega)
          rw [occ_two e] at this
          exact absurd this (by decide)
        rw [if_neg hne, if_neg hno]
        cases gv (sg P).1 (tw (sg P).2) <;> rfl
theorem tw_head : ∀ (l : List UInt8) (c : UInt8) (r : List UInt8), l.drop (tw l).length = c :: r → dgU c = false
  | [], c, r, h => by simp at h
  | b :: l, c, r, h => by
    unfold tw at h
    rw [List.takeWhile_cons] at h
    cases hb : dgU b with
    | false =>
      rw [hb] at h
      simp at h
      rw [← h.1]; exact hb
    | true =>
      rw [hb, if_pos rfl, List.length_cons, List.drop_succ_cons] at h
      exact tw_head l c r h
theorem tw_first (b : UInt8) (l : List UInt8) (h : tw (b :: l) ≠ []) : ∃ r, tw (b :: l) = b :: r := by
  unfold tw at *
  rw [List.takeWhile_cons] at *
  cases hb : dgU b with
  | false => rw [hb] at h; exact absurd rfl h
  | true => exact ⟨_, rfl⟩
theorem numR_l (s : ByteArray) (i : Nat) (hi : i ≤ s.size) : numR s.size (gAt s) i = if okD (tw (s.data.toList.drop i)) then (valL 0 (tw (s.data.toList.drop i)), ((i + (tw (s.data.toList.drop i)).length : Nat) : Int)) else (0, -1) := by
  have hs : s.data.toList.length = s.size := rfl
  have hd := digF_l s (s.size - i) i rfl hi
  have hpre := tw_pre (s.data.toList.drop i)
  have hal := tw_all (s.data.toList.drop i)
  have hhd := tw_head (s.data.toList.drop i)
  have hfi := tw_first
  have hv := valR_l s i
  have hlen : (s.data.toList.drop i).length = s.size - i := by rw [List.length_drop, hs]
  have hg : ∀ b r, s.data.toList.drop i = b :: r → gAt s i = (b.toNat : Int) := by
    intro b r e
    have hl : i < s.data.toList.length := by
      have := congrArg List.length e
      rw [hlen, List.length_cons] at this; omega
    rw [gAt_l s i hl]
    rw [List.drop_eq_getElem_cons hl] at e
    rw [(List.cons.inj e).1]
  have hg2 : ∀ k, i + k < s.size → ∃ c r, (s.data.toList.drop i).drop k = c :: r ∧ gAt s (i + k) = (c.toNat : Int) := by
    intro k hk
    refine ⟨s.data.toList[i + k]'(by omega), s.data.toList.drop (i + k + 1), ?_, gAt_l s (i + k) (by omega)⟩
    rw [List.drop_drop, List.drop_eq_getElem_cons (by omega)]
  change digF s.size (gAt s) i = i + (tw (s.data.toList.drop i)).length at hd
  generalize s.data.toList.drop i = b at *
  have hT : (tw b).length ≤ b.length := by
    have := congrArg List.length hpre
    rw [List.length_append] at this
    omega
  unfold numR digN
  rw [hd, show i + (tw b).length - i = (tw b).length by omega]
  by_cases h0 : (tw b).length = 0
  · rw [if_pos (.inl (by omega)), List.length_eq_zero_iff.1 h0]; rfl
  by_cases h9 : (tw b).length ≤ 9
  · rw [Nat.min_eq_left h9]
    have n3 : ¬ (i + (tw b).length < s.size ∧ digB (gAt s (i + (tw b).length)) = true) := by
      rintro ⟨h1, h2⟩
      obtain ⟨c, r, e1, e2⟩ := hg2 _ h1
      rw [e2, digB_u, hhd c r e1] at h2
      exact absurd h2 (by decide)
    cases b with
    | nil => exact absurd rfl h0
    | cons c l =>
      have hgi := hg c l rfl
      have hz := u8_48 c
      obtain ⟨r, hr⟩ := hfi c l (fun e => h0 (by rw [e]; rfl))
      have htk : (c :: l).take (tw (c :: l)).length = tw (c :: l) := by
        conv => lhs; rw [hpre]
        rw [List.take_left']
        rw [← hpre]
      rw [hv _ (by omega), htk, hgi]
      by_cases h48 : c = 48 ∧ 1 < (tw (c :: l)).length
      · rw [if_pos (.inr (.inl ⟨hz.2 h48.1, h48.2⟩))]
        have : okD (tw (c :: l)) = false := by
          unfold okD
          rw [decide_eq_false (show ¬ (tw (c :: l)).length = 1 by omega), hr, h48.1]
          simp
        rw [this]; rfl
      · rw [if_neg (by
          rintro (h | h | h)
          · exact h0 h
          · exact h48 ⟨hz.1 h.1, h.2⟩
          · exact n3 h)]
        have : okD (tw (c :: l)) = true := by
          unfold okD
          rw [decide_eq_true h9, hal]
          by_cases h1 : (tw (c :: l)).length = 1
          · rw [decide_eq_true h1, hr]; rfl
          · have hc : ¬ c = 48 := fun e => h48 ⟨e, by omega⟩
            rw [hr]
            simp [hc]
        rw [this, if_pos rfl]
  · rw [Nat.min_eq_right (by omega)]
    have : okD (tw b) = false := by unfold okD; rw [decide_eq_false h9]; simp
    rw [this, if_pos]; · rfl
    refine .inr (.inr ⟨by omega, ?_⟩)
    obtain ⟨c, r, e1, e2⟩ := hg2 9 (by omega)
    rw [e2, digB_u]
    have hc : c ∈ tw b := by
      have h3 : (tw b)[9]? = some c := by
        have : b[9]? = some c := by
          have := congrArg (fun l => l[0]?) e1
          simpa using this
        rw [hpre, List.getElem?_append_left (by omega)] at this
        exact this
      exact List.mem_of_getElem? h3
    exact List.all_eq_true.1 hal c hc
theorem sepAt_l (s : ByteArray) (m k : Nat) (hm : s.size = m + 1) (hk : k + 2 ≤ m) : sepAt s k = (((s.data.toList.take m).drop k).take 2 == [44, 32]) := by
  unfold sepAt
  rw [Lib.toList_data, Lib.extract_data, List.drop_take, List.take_take, show k + 2 - k = 2 by omega, Nat.min_eq_left (by omega)]
theorem extr_data (s : ByteArray) (m : Nat) : (s.extract 0 m).data.toList = s.data.toList.take m := by
  rw [Lib.extract_data]; simp
theorem numAt_l (s : ByteArray) (m i : Nat) (hm : s.size = m + 1) (hi : i ≤ m) : numAt s i = if okD (tw ((s.data.toList.take m).drop i)) then (valL 0 (tw ((s.data.toList.take m).drop i)), ((i + (tw ((s.data.toList.take m).drop i)).length : Nat) : Int)) else (0, -1) := by
  have hz : (s.extract 0 m).size = m := by rw [ByteArray.size_extract]; omega
  have h := numR_l (s.extract 0 m) i (by omega)
  rw [hz, extr_data] at h
  unfold numAt
  rw [show s.size - 1 = m by omega]
  exact h
theorem tail_l (s : ByteArray) (m k : Nat) (hm : s.size = m + 1) (hk : k ≤ m) (x : Int) (Z : Option (List Int)) :
    (if (k : Int) = (m : Int) then some [x] else if (m : Int) - (k : Int) < 2 ∨ sepAt s k = false then none else Z.map (x :: ·)) =
    (if (s.data.toList.take m).drop k = [] then some [] else if ((s.data.toList.take m).drop k).take 2 = [44, 32] then Z else none).map (x :: ·) := by
  have hs : s.data.toList.length = s.size := rfl
  have hl : ((s.data.toList.take m).drop k).length = m - k := by rw [List.length_drop, List.length_take]; omega
  by_cases h : k = m
  · rw [if_pos (by omega), if_pos (List.length_eq_zero_iff.1 (by omega))]; rfl
  · have n1 : ¬ (k : Int) = (m : Int) := by omega
    have n2 : ¬ (s.data.toList.take m).drop k = [] := fun e => by rw [e] at hl; simp at hl; omega
    rw [if_neg n1, if_neg n2]
    by_cases h2 : (m : Int) - k < 2
    · rw [if_pos (.inl h2), if_neg (fun e => by
        have := congrArg List.length e
        rw [List.length_take, hl] at this
        simp at this
        omega)]; rfl
    · rw [sepAt_l s m k hm (by omega)]
      by_cases h3 : ((s.data.toList.take m).drop k).take 2 = [44, 32]
      · rw [if_neg (by rw [h3]; rintro (h | h); · exact h2 h
                       · exact absurd h (by decide)), if_pos h3]
      · rw [if_pos (.inr (by simpa using h3)), if_neg h3]; rfl
theorem gAt_pos (s : ByteArray) (j : Nat) : 0 ≤ gAt s j := by unfold gAt; omega
theorem seqP_l (s : ByteArray) (m : Nat) (hm : s.size = m + 1) : ∀ f i, i ≤ m → seqP m (minAt s) (sepAt s) (numAt s) f i = seqL f ((s.data.toList.take m).drop i)
  | 0, _, _ => rfl
  | f + 1, i, hi => by
    have hs : s.data.toList.length = s.size := rfl
    have hB : (s.data.toList.take m).length = m := by rw [List.length_take]; omega
    have ih : ∀ j, j ≤ m → seqP m (minAt s) (sepAt s) (numAt s) f j = seqL f ((s.data.toList.take m).drop j) := fun j hj => seqP_l s m hm f j hj
    have htl := tail_l s m
    have hnum := fun j hj => numAt_l s m j hm hj
    have hsep : ∀ k : Nat, ¬ ((m : Int) - (k : Int) < 2) → k + 2 ≤ m := fun k h => by omega
    have hgat : i < m → ∃ c, (s.data.toList.take m).drop i = c :: (s.data.toList.take m).drop (i + 1) ∧ gAt s i = (c.toNat : Int) := by
      intro h
      refine ⟨(s.data.toList.take m)[i]'(by omega), List.drop_eq_getElem_cons (by omega), ?_⟩
      rw [gAt_l s i (by omega), List.getElem_take]
    have htl2 : ∀ j, (s.data.toList.take m).drop j = tw ((s.data.toList.take m).drop j) ++ ((s.data.toList.take m).drop j).drop (tw ((s.data.toList.take m).drop j)).length := fun j => tw_pre _
    generalize hBB : s.data.toList.take m = B at *
    have hstep : ∀ (neg : Bool) (j : Nat), j ≤ m → sg (B.drop i) = (neg, B.drop j) →
        (if (numAt s j).2 < 0 ∨ neg = true ∧ (numAt s j).1 = 0 then none
         else if (numAt s j).2 = m then some [if neg = true then -(numAt s j).1 else (numAt s j).1]
         else if (m : Int) - (numAt s j).2 < 2 ∨ sepAt s (numAt s j).2.toNat = false then none
         else (seqP m (minAt s) (sepAt s) (numAt s) f ((numAt s j).2.toNat + 2)).map ((if neg = true then -(numAt s j).1 else (numAt s j).1) :: ·)) = seqL (f + 1) (B.drop i) := by
      intro neg j hj hsg
      rw [seqL, hsg, hnum j hj]
      simp only
      have hjl := htl2 j
      cases ho : okD (tw (B.drop j)) with
      | false =>
        rw [if_neg (c := (false = true)) (by decide)]
        have : (-1 : Int) < 0 ∨ neg = true ∧ (0 : Int) = 0 := .inl (by decide)
        show (if (-1 : Int) < 0 ∨ neg = true ∧ (0 : Int) = 0 then none else _) = _
        rw [if_pos this]; unfold gv; rw [ho]; rfl
      | true =>
        rw [if_pos rfl]
        simp only
        have hkm : j + (tw (B.drop j)).length ≤ m := by
          have := congrArg List.length hjl
          rw [List.length_append, List.length_drop, hB] at this
          omega
        unfold gv
        rw [ho, List.drop_drop]
        generalize valL 0 (tw (B.drop j)) = v
        generalize hk : j + (tw (B.drop j)).length = k at *
        by_cases hz : neg = true ∧ v = 0
        · rw [if_pos (.inr hz), hz.1, hz.2]; rfl
        · have n1 : ¬ ((k : Int) < 0 ∨ neg = true ∧ v = 0) := by
            rintro (h | h)
            · omega
            · exact hz h
          rw [if_neg n1, if_pos (c := (true && !(neg && v == 0)) = true) (by
            cases neg with
            | false => rfl
            | true => have : (v == 0) = false := by simpa using fun e => hz ⟨rfl, e⟩
                      rw [this]; rfl)]
          rw [Int.toNat_natCast]
          show _ = Option.map _ _
          rw [← htl k hm hkm]
          by_cases h2 : (m : Int) - k < 2
          · by_cases h1 : (k : Int) = m
            · first
                | rw [if_pos h1, if_pos h1]
                | rw [if_pos h1]
            · have h3 : (m : Int) - (k : Int) < 2 ∨ sepAt s k = false := .inl h2
              rw [if_neg h1, if_pos h3, if_neg h1, if_pos h3]
          · rw [ih (k + 2) (hsep k h2), ← List.drop_drop]
    rw [seqP]
    by_cases him : i < m ∧ minAt s i = true
    · rw [if_pos him]
      obtain ⟨c, e1, e2⟩ := hgat him.1
      have hc : c = 45 := by
        have := him.2
        unfold minAt at this
        rw [e2] at this
        have := beq_iff_eq.1 this
        apply UInt8.toNat_inj.1; show c.toNat = 45; omega
      rw [← hstep true (i + 1) (by omega) (by rw [e1, sg, if_pos hc])]
      simp
    · rw [if_neg him]
      rw [← hstep false i hi (by
        by_cases h : i < m
        · obtain ⟨c, e1, e2⟩ := hgat h
          have hc : ¬ c = 45 := by
            intro hc
            apply him
            refine ⟨h, ?_⟩
            unfold minAt
            rw [e2, hc]; rfl
          rw [e1, sg, if_neg hc]
        · rw [List.drop_eq_nil_of_le (by omega)]; rfl)]
      simp
/-- where a row of bytes begins, behind bytes that are not its first -/
theorem index_behind (P R : List UInt8) (c : UInt8) (t : List UInt8) (h : ∀ b ∈ P, b ≠ c) (hR : (c :: t).isPrefixOf R = true) : Lib.index (P ++ R) (c :: t) = P.length := by
  refine Lib.index_first (by simp) ?_ ?_
  · unfold Lib.occAt; rw [List.drop_left]; exact hR
  · intro j hj
    unfold Lib.occAt
    rw [List.drop_append_of_le_length (by omega), List.drop_eq_getElem_cons hj]
    have : (c == P[j]) = false := by simpa using fun e => h _ (List.getElem_mem hj) e.symm
    show ((c == P[j]) && _) = false
    rw [this]; rfl
theorem tl_last (s : ByteArray) (A : List UInt8) (c : UInt8) (h : s.data.toList = A ++ [c]) : gAt s (s.size - 1) = (c.toNat : Int) := by
  have hs : s.data.toList.length = s.size := rfl
  have hl : s.size = A.length + 1 := by rw [← hs, h]; simp
  rw [gAt_l s (s.size - 1) (by omega)]
  congr 2
  have : s.data.toList[s.size - 1]? = some c := by
    rw [h, List.getElem?_append_right (by omega), show s.size - 1 - A.length = 0 by omega]; rfl
  rw [List.getElem?_eq_getElem (by omega)] at this
  exact Option.some.inj this
theorem c125 (c : UInt8) : ((c.toNat : Int) = 125) ↔ c = 125 := by
  constructor
  · intro h; apply UInt8.toNat_inj.1; show c.toNat = 125; omega
  · rintro rfl; rfl
theorem nameOk_l (P : List UInt8) : nameOk (tx P) = (P.all ltU && !P.isEmpty) := by
  unfold nameOk
  have h := letAll_l (tx P) (tx P).size 0 (by omega) (Nat.zero_le _)
  rw [h, tx_size]
  show ((P.drop 0).all ltU && _) = _
  rw [List.drop_zero]
  cases P <;> simp
theorem words_l (Q : List UInt8) (f : Nat) (h : Q.length < f) : numsW (wordsD (tx Q)) = seqL f Q := by
  rw [seqL_words f Q h, numsW_l]
  unfold wordsD
  rw [Lib.splitB_data]
  rfl
theorem lw_pre (l : List UInt8) : l = l.takeWhile ltU ++ l.drop (l.takeWhile ltU).length := by
  induction l with
  | nil => rfl
  | cons b r ih =>
    rw [List.takeWhile_cons]
    cases ltU b with
    | false => rfl
    | true => simp only [if_true, List.cons_append, List.length_cons, List.drop_succ_cons]; rw [← ih]
theorem lw_app (N T : List UInt8) (c : UInt8) (h : N.all ltU = true) (hc : ltU c = false) : (N ++ c :: T).takeWhile ltU = N := by
  induction N with
  | nil => rw [List.nil_append, List.takeWhile_cons, hc]; rfl
  | cons b r ih =>
    rw [List.all_cons, Bool.and_eq_true] at h
    rw [List.cons_append, List.takeWhile_cons, h.1, if_pos rfl, ih h.2]
theorem refL_eq (s : ByteArray) : refL s = declL s := by
  have hs : s.data.toList.length = s.size := rfl
  by_cases hv : ∃ r1, s.data.toList = varT ++ r1
  · obtain ⟨r1, hL⟩ := hv
    have hp : Lib.hasPrefix s.data.toList varT = true := by
      unfold Lib.hasPrefix; rw [List.isPrefixOf_iff_prefix, hL]; exact List.prefix_append _ _
    have ht : Lib.trimPrefix s.data.toList varT = r1 := by
      unfold Lib.trimPrefix; rw [hp, if_pos rfl, hL]; rfl
    have hn : s.size = 4 + r1.length := by rw [← hs, hL, List.length_append]; rfl
    have h4 : s.data.toList.drop 4 = r1 := by rw [hL]; rfl
    have hvB : varB s = true := by
      unfold varB; rw [Lib.toList_data, Lib.extract_data, hL]; rfl
    have hA : refA s = 4 + (r1.takeWhile ltU).length := by
      unfold refA; rw [letF_l s (s.size - 4) 4 rfl (by omega), h4]
    have hmid : midB s (refA s) = ((r1.drop (r1.takeWhile ltU).length).take 9 == midT) := by
      unfold midB
      rw [Lib.toList_data, Lib.extract_data, hA, ← List.drop_drop, h4, show ∀ x, 4 + x + 9 - (4 + x) = 9 by intro x; omega]
      rfl
    have hpre := lw_pre r1
    have hPa : (r1.takeWhile ltU).all ltU = true := by simp
    unfold refL declL
    dsimp only
    rw [hp, ht, hmid, hvB, hA]
    by_cases hc : ∃ N Q, r1 = N ++ midT ++ (Q ++ [125]) ∧ N.all ltU = true ∧ N ≠ []
    · obtain ⟨N, Q, e, hN, hN0⟩ := hc
      have e1 : r1.takeWhile ltU = N := by rw [e, List.append_assoc]; exact lw_app N _ 32 hN (by decide)
      have eix : Lib.index r1 midT = N.length := by
        rw [e, List.append_assoc]
        exact index_behind N _ 32 _ (fun b hb => by rintro rfl; have := List.all_eq_true.1 hN _ hb; exact absurd this (by decide)) (by
          rw [List.isPrefixOf_iff_prefix]; exact List.prefix_append _ _)
      have hd : r1.drop N.length = midT ++ (Q ++ [125]) := by rw [e, List.append_assoc, List.drop_left]
      have ecut : Lib.cut r1 midT = (N, Q ++ [125], true) := by
        unfold Lib.cut
        rw [eix, if_pos (by omega), Int.toNat_natCast]
        have h1 : r1.take N.length = N := by rw [e, List.append_assoc, List.take_left]
        have h2 : r1.drop (N.length + midT.length) = Q ++ [125] := by rw [← List.drop_drop, hd, List.drop_left]
        rw [h1, h2]
      have hsuf : Lib.hasSuffix (Q ++ [125]) [125] = true := by
        unfold Lib.hasSuffix; rw [List.isSuffixOf_iff_suffix]; exact List.suffix_append _ _
      have htr : Lib.trimSuffix (Q ++ [125]) [125] = Q := by
        unfold Lib.trimSuffix; rw [hsuf, if_pos rfl]; simp
      have hnl : r1.length = N.length + 9 + Q.length + 1 := by rw [e]; simp [midT]; omega
      have hNl : 0 < N.length := List.length_pos_iff.2 hN0
      have hlast : gAt s (s.size - 1) = 125 := by
        rw [tl_last s (varT ++ (N ++ midT ++ Q)) 125 (by rw [hL, e]; simp)]; rfl
      rw [e1, ecut, hd]
      dsimp only
      have hno : nameOk (tx N) = true := by rw [nameOk_l, hN]; cases N with
        | nil => exact absurd rfl hN0
        | cons _ _ => rfl
      have hex : s.extract 4 (4 + N.length) = tx N := by
        have : (s.extract 4 (4 + N.length)).data.toList = N := by
          rw [Lib.extract_data, h4, e, List.append_assoc, show 4 + N.length - 4 = N.length by omega, List.take_left]
        have h9 := tx_data (s.extract 4 (4 + N.length))
        rw [this] at h9; exact h9.symm
      unfold declF
      have c1 : 5 ≤ s.size ∧ true = true ∧ 4 < 4 + N.length ∧ 4 + N.length + 10 ≤ s.size ∧ ((midT ++ (Q ++ [125])).take 9 == midT) = true ∧ gAt s (s.size - 1) = 125 := ⟨by omega, rfl, by omega, by omega, beq_iff_eq.2 rfl, hlast⟩
      have c2 : true = true ∧ true = true ∧ true = true ∧ true = true := ⟨rfl, rfl, rfl, rfl⟩
      rw [hno, hsuf, htr, if_pos c1, if_pos c2, hex, tx_size]
      by_cases h0 : Q.length = 0
      · rw [if_pos (by omega), if_pos h0]
      · obtain ⟨m, hm⟩ : ∃ m, s.size = m + 1 := ⟨s.size - 1, by omega⟩
        rw [if_neg (by omega), if_neg h0, words_l Q (s.size + 1) (by omega), show s.size - 1 = m by omega, seqP_l s m hm _ _ (by omega)]
        have h9d : (midT ++ (Q ++ [125])).drop 9 = Q ++ [125] := rfl
        have : (s.data.toList.take m).drop (4 + N.length + 9) = Q := by
          rw [List.drop_take, ← List.drop_drop, ← List.drop_drop, h4, hd, h9d, show m - (4 + N.length + 9) = Q.length by omega, List.take_left]
        rw [this]
    · rw [if_neg]
      · unfold declF
        rw [if_neg]
        rintro ⟨-, h2, h3, h4'⟩
        apply hc
        unfold Lib.cut at h2 h3 h4'
        split at h2
        · rename_i hge
          rw [if_pos hge] at h3 h4'
          rw [nameOk_l, Bool.and_eq_true] at h3
          unfold Lib.hasSuffix at h4'
          rw [List.isSuffixOf_iff_suffix] at h4'
          obtain ⟨Q, hQ⟩ := h4'
          rcases Lib.index_spec r1 midT with ⟨h1, _⟩ | ⟨q, h1, hq, h5, _⟩
          · omega
          · rw [h1, Int.toNat_natCast] at hQ h3
            unfold Lib.occAt at h5
            rw [List.isPrefixOf_iff_prefix] at h5
            obtain ⟨T, hT⟩ := h5
            refine ⟨r1.take q, Q, ?_, h3.1, by simpa using h3.2⟩
            have hT2 : T = Q ++ [125] := by
              simp only at hQ
              rw [hQ, ← List.drop_drop, ← hT, List.drop_left]
            rw [List.append_assoc, ← hT2, hT, List.take_append_drop]
        · exact absurd h2 Bool.false_ne_true
      · rintro ⟨-, -, h2, h3, h5, h6⟩
        apply hc
        have hr9 := beq_iff_eq.1 h5
        generalize hP : r1.takeWhile ltU = P at *
        generalize hR : r1.drop P.length = R at *
        have hlen : r1.length = P.length + R.length := by conv => lhs; rw [hpre]
                                                          rw [List.length_append]
        have hR2 : R = midT ++ R.drop 9 := by rw [← hr9, List.take_append_drop]
        have hne : R.drop 9 ≠ [] := by
          intro e
          have := congrArg List.length e
          rw [List.length_drop] at this
          simp at this
          omega
        have hl := List.dropLast_concat_getLast hne
        have hc : (R.drop 9).getLast hne = 125 := by
          rw [← c125, ← h6]
          symm
          apply tl_last s (varT ++ (P ++ (midT ++ (R.drop 9).dropLast)))
          rw [hL, hpre]
          conv => lhs; rw [hR2, ← hl]
          simp
        refine ⟨P, (R.drop 9).dropLast, ?_, hPa, fun e => by rw [e] at h2; simp at h2⟩
        rw [← hc, hl, List.append_assoc, ← hR2]; exact hpre
  · have hp : Lib.hasPrefix s.data.toList varT = false := by
      cases e : Lib.hasPrefix s.data.toList varT with
      | false => rfl
      | true =>
        unfold Lib.hasPrefix at e
        rw [List.isPrefixOf_iff_prefix] at e
        obtain ⟨r, hr⟩ := e
        exact absurd ⟨r, hr.symm⟩ hv
    unfold refL declL
    dsimp only
    rw [hp, if_neg]
    · unfold declF; rw [if_neg (fun h => absurd h.1 (by decide))]
    · rintro ⟨_, h, _⟩
      apply hv
      unfold varB at h
      rw [Lib.toList_data, Lib.extract_data] at h
      have h := beq_iff_eq.1 h
      refine ⟨s.data.toList.drop 4, ?_⟩
      show _ = [118, 97, 114, 32] ++ _
      rw [← h]
      exact (List.take_append_drop 4 s.data.toList).symm
end Go.Proofs.YtmfjpdlegaimlaaGreatDoor
