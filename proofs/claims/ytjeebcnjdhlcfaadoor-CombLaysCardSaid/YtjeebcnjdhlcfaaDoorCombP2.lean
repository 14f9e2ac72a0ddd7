/- Rows laid in one another, without a program: what holds behind each row. -/
import Derived.Test.YtjeebcnjdhlcfaaDoorCombP
namespace Go.Proofs.YtjeebcnjdhlcfaaDoor
set_option linter.unusedVariables false

/-- how many places are taken -/
def cntS (l : List Int) : Nat := l.countP (· != 0)
def sumLen (rows : List (List Pr)) (d : List Nat) : Nat := (d.map fun i => (rowAt rows i).length).sum

structure LaidTo (rows : List (List Pr)) (d : List Nat) (s : List Int × List Int × List Int) : Prop where
  blen : s.1.length = rows.length
  len : s.2.1.length = s.2.2.length
  base0 : ∀ i, i ∉ d → s.1.getD i 0 = 0
  nonneg : ∀ i, 0 ≤ s.1.getD i 0
  pair : ∀ i ∈ d, ∀ p ∈ rowAt rows i, (s.1.getD i 0).toNat + p.1.toNat < s.2.1.length ∧ s.2.1.getD ((s.1.getD i 0).toNat + p.1.toNat) 0 = (i : Int) + 1 ∧ s.2.2.getD ((s.1.getD i 0).toNat + p.1.toNat) 0 = p.2
  own : ∀ j, s.2.1.getD j 0 ≠ 0 → ∃ i ∈ d, ∃ p ∈ rowAt rows i, j = (s.1.getD i 0).toNat + p.1.toNat ∧ s.2.1.getD j 0 = (i : Int) + 1
  free : ∀ j, s.2.1.getD j 0 = 0 → s.2.2.getD j 0 = 0
  last : s.2.1.length = 0 ∨ s.2.1.getD (s.2.1.length - 1) 0 ≠ 0
  least : ∀ i ∈ d, ∀ b, b < (s.1.getD i 0).toNat → ∃ p ∈ rowAt rows i, ∃ o ∈ d, Ahead rows o i ∧ s.2.1.getD (b + p.1.toNat) 0 = (o : Int) + 1
  count : cntS s.2.1 = sumLen rows d
  small : s.2.1.length ≤ 1000 * d.length
  lt : ∀ i ∈ d, i < rows.length

theorem cnt_setPad (l : List Int) (i : Nat) (x : Int) (h0 : l.getD i 0 = 0) (hx : x ≠ 0) : cntS (setPad l i x) = cntS l + 1 := by
  unfold cntS setPad
  have hlen : i < (l ++ List.replicate (i + 1 - l.length) 0).length := by simp; omega
  rw [List.countP_set hlen]
  have hz : (l ++ List.replicate (i + 1 - l.length) 0)[i] = 0 := by
    rw [List.getElem_append]
    split
    · rename_i h
      rw [List.getD_eq_getElem?_getD, List.getElem?_eq_getElem h] at h0
      simpa using h0
    · simp
  rw [hz]
  simp [hx, List.countP_append, List.countP_replicate]

theorem cnt_put (i b : Nat) : ∀ (row : List Pr) (s : List Int × List Int), (row.map (·.1.toNat)).Nodup → fitsB s.1 row b = true → cntS (putRow i b row s).1 = cntS s.1 + row.length := by
  intro row
  induction row with
  | nil => intro s _ _; rfl
  | cons p r ih =>
    intro s hn hf
    have hn' := List.nodup_cons.1 hn
    unfold fitsB at hf
    rw [List.all_cons, Bool.and_eq_true, beq_iff_eq] at hf
    rw [putRow_cons, ih _ hn'.2 ?_]
    · show cntS (setPad s.1 _ _) + _ = _
      rw [cnt_setPad _ _ _ hf.1 (by omega)]
      simp; omega
    · unfold fitsB
      rw [List.all_eq_true]
      intro q hq
      have h1 := List.all_eq_true.1 hf.2 q hq
      rw [beq_iff_eq] at h1 ⊢
      show (setPad s.1 _ _).getD _ 0 = 0
      rw [setPad_getD, if_neg, h1]
      intro e
      exact hn'.1 (by rw [List.mem_map]; exact ⟨q, hq, by show q.1.toNat = p.1.toNat; omega⟩)

theorem nodup_nat {row : List Pr} (h : rowMay row = true) : (row.map (·.1.toNat)).Nodup ∧ ∀ p ∈ row, 0 ≤ p.1 ∧ p.1 ≤ 999 := by
  unfold rowMay at h
  rw [Bool.and_eq_true, List.all_eq_true, decide_eq_true_eq] at h
  have hr : ∀ p ∈ row, 0 ≤ p.1 ∧ p.1 ≤ 999 := fun p hp => by simpa using h.1 p hp
  refine ⟨?_, hr⟩
  have h2 := h.2
  clear h
  induction row with
  | nil => simp
  | cons p r ih =>
    rw [List.map_cons, List.nodup_cons] at h2 ⊢
    refine ⟨fun hm => ?_, ih (fun q hq => hr q (List.mem_cons_of_mem _ hq)) h2.2⟩
    obtain ⟨q, hq, e⟩ := List.mem_map.1 hm
    refine h2.1 (List.mem_map.2 ⟨q, hq, ?_⟩)
    have a := hr q (List.mem_cons_of_mem _ hq)
    have b := hr p (by simp)
    omega

theorem start_is (rows : List (List Pr)) : LaidTo rows [] (start rows) := by
  have hz : ∀ i, (List.replicate rows.length (0 : Int)).getD i 0 = 0 := fun i => by
    rw [List.getD_eq_getElem?_getD, List.getElem?_replicate]; split <;> rfl
  unfold start
  exact ⟨by simp, rfl, fun i _ => hz i, fun i => by rw [hz]; exact Int.le_refl _, fun i h => absurd h (by simp), fun j h => absurd (by simp) h, fun j _ => by simp, .inl rfl, fun i h => absurd h (by simp), by simp [cntS, sumLen], by simp, fun i h => absurd h (by simp)⟩

theorem getD_set {α : Type} (l : List α) (i j : Nat) (x d : α) (hi : i < l.length) : (l.set i x).getD j d = if j = i then x else l.getD j d := by
  rw [List.getD_eq_getElem?_getD, List.getElem?_set]
  by_cases h : i = j
  · subst h; rw [if_pos rfl, if_pos hi, if_pos rfl]; rfl
  · rw [if_neg h, if_neg (Ne.symm h), List.getD_eq_getElem?_getD]

theorem LaidTo.step {rows : List (List Pr)} {d : List Nat} {s : List Int × List Int × List Int} (h : LaidTo rows d s) {i : Nat} (hi : i < rows.length) (hd : i ∉ d) (ha : ∀ o ∈ d, Ahead rows o i) (hm : rowMay (rowAt rows i) = true) :
    LaidTo rows (d ++ [i]) (layOne rows s i) := by
  obtain ⟨hnd, hrg⟩ := nodup_nat hm
  obtain ⟨f1, f2, f3⟩ := least_spec s.2.1 (rowAt rows i)
  have H := putRow_is i (leastFit s.2.1 (rowAt rows i)) (rowAt rows i) s.2
  have hcnt := cnt_put i (leastFit s.2.1 (rowAt rows i)) (rowAt rows i) s.2 hnd f1
  unfold layOne
  generalize leastFit s.2.1 (rowAt rows i) = b at f1 f2 f3 H hcnt ⊢
  generalize ht : putRow i b (rowAt rows i) s.2 = t at H hcnt ⊢
  clear ht
  have hfz : ∀ p ∈ rowAt rows i, s.2.1.getD (b + p.1.toNat) 0 = 0 := fun p hp => by
    have := List.all_eq_true.1 f1 p hp; simpa using this
  -- a place that was taken is as it was
  have keep : ∀ j, s.2.1.getD j 0 ≠ 0 → t.1.getD j 0 = s.2.1.getD j 0 ∧ t.2.getD j 0 = s.2.2.getD j 0 := fun j hj => H.out j (fun p hp e => hj (by rw [e]; exact hfz p hp))
  have hb : ∀ k, (s.1.set i (b : Int)).getD k 0 = if k = i then (b : Int) else s.1.getD k 0 := fun k => getD_set _ _ _ _ _ (by rw [h.blen]; exact hi)
  have hbo : ∀ k ∈ d, (s.1.set i (b : Int)).getD k 0 = s.1.getD k 0 := fun k hk => by
    rw [hb, if_neg (fun e => hd (by rw [← e]; exact hk))]
  have hbi : (s.1.set i (b : Int)).getD i 0 = (b : Int) := by rw [hb, if_pos rfl]
  refine ⟨by simp [h.blen], H.len h.len, ?_, ?_, ?_, ?_, ?_, ?_, ?_, ?_, ?_, ?_⟩
  · intro k hk
    simp at hk
    show (s.1.set i (b : Int)).getD k 0 = 0
    rw [hb, if_neg hk.2, h.base0 k hk.1]
  · intro k
    show 0 ≤ (s.1.set i (b : Int)).getD k 0
    rw [hb]; split
    · omega
    · exact h.nonneg k
  · intro k hk p hp
    show ((s.1.set i (b : Int)).getD k 0).toNat + _ < t.1.length ∧ t.1.getD (((s.1.set i (b : Int)).getD k 0).toNat + _) 0 = _ ∧ t.2.getD (((s.1.set i (b : Int)).getD k 0).toNat + _) 0 = _
    rcases List.mem_append.1 hk with hk | hk
    · rw [hbo k hk]
      obtain ⟨p1, p2, p3⟩ := h.pair k hk p hp
      have hk2 := keep ((s.1.getD k 0).toNat + p.1.toNat) (by rw [p2]; omega)
      exact ⟨Nat.lt_of_lt_of_le p1 H.mono, hk2.1.trans p2, hk2.2.trans p3⟩
    · simp at hk
      subst hk
      rw [hbi, Int.toNat_natCast]
      exact ⟨(H.at1 p hp).2, (H.at1 p hp).1, H.val hnd p hp⟩
  · intro j hj
    show ∃ k ∈ d ++ [i], ∃ p ∈ rowAt rows k, j = ((s.1.set i (b : Int)).getD k 0).toNat + _ ∧ t.1.getD j 0 = _
    by_cases hc : ∃ p ∈ rowAt rows i, j = b + p.1.toNat
    · obtain ⟨p, hp, e⟩ := hc
      refine ⟨i, by simp, p, hp, by rw [hbi, Int.toNat_natCast]; exact e, by rw [e]; exact (H.at1 p hp).1⟩
    · have ho := H.out j (fun p hp e => hc ⟨p, hp, e⟩)
      have hj' : s.2.1.getD j 0 ≠ 0 := by rw [← ho.1]; exact hj
      obtain ⟨k, hk, p, hp, e1, e2⟩ := h.own j hj'
      exact ⟨k, List.mem_append.2 (.inl hk), p, hp, by rw [hbo k hk]; exact e1, ho.1.trans e2⟩
  · intro j hj
    show t.2.getD j 0 = 0
    have hj' : t.1.getD j 0 = 0 := hj
    by_cases hc : ∃ p ∈ rowAt rows i, j = b + p.1.toNat
    · obtain ⟨p, hp, e⟩ := hc
      rw [e, (H.at1 p hp).1] at hj'
      omega
    · have ho := H.out j (fun p hp e => hc ⟨p, hp, e⟩)
      rw [ho.2]
      exact h.free j (by rw [← ho.1]; exact hj')
  · show t.1.length = 0 ∨ t.1.getD (t.1.length - 1) 0 ≠ 0
    rcases H.last with e | ⟨p, hp, e⟩
    · rcases h.last with e2 | e2
      · left; omega
      · right; rw [e, (keep _ e2).1]; exact e2
    · right
      rw [e, show b + p.1.toNat + 1 - 1 = b + p.1.toNat by omega, (H.at1 p hp).1]
      omega
  · intro k hk c hc
    show ∃ p ∈ rowAt rows k, ∃ o ∈ d ++ [i], Ahead rows o k ∧ t.1.getD (c + p.1.toNat) 0 = _
    have hc' : c < ((s.1.set i (b : Int)).getD k 0).toNat := hc
    rcases List.mem_append.1 hk with hk | hk
    · rw [hbo k hk] at hc'
      obtain ⟨p, hp, o, ho, h1, h2⟩ := h.least k hk c hc'
      exact ⟨p, hp, o, List.mem_append.2 (.inl ho), h1, (keep _ (by rw [h2]; omega)).1.trans h2⟩
    · simp at hk
      subst hk
      rw [hbi, Int.toNat_natCast] at hc'
      have hf := f3 c hc'
      unfold fitsB at hf
      rw [List.all_eq_false] at hf
      obtain ⟨p, hp, hne⟩ := hf
      simp only [beq_iff_eq] at hne
      obtain ⟨o, ho, q, hq, e1, e2⟩ := h.own _ hne
      exact ⟨p, hp, o, List.mem_append.2 (.inl ho), ha o ho, (keep _ hne).1.trans e2⟩
  · show cntS t.1 = _
    rw [hcnt, h.count]
    unfold sumLen
    simp
  · show t.1.length ≤ _
    rw [List.length_append]
    have := h.small
    simp only [List.length_cons, List.length_nil]
    rcases H.last with e | ⟨p, hp, e⟩
    · omega
    · have := hrg p hp; omega
  · intro k hk
    rcases List.mem_append.1 hk with hk | hk
    · exact h.lt k hk
    · simp at hk; subst hk; exact hi

theorem mayS_row {rows : List (List Pr)} (h : mayS rows = true) (i : Nat) (hi : i < rows.length) : rowMay (rowAt rows i) = true := by
  unfold mayS at h
  rw [Bool.and_eq_true, List.all_eq_true] at h
  refine h.2 _ ?_
  unfold rowAt
  rw [List.getD_eq_getElem?_getD, List.getElem?_eq_getElem hi]
  simp

/-- what holds behind a part of the order -/
theorem laid_pre {rows : List (List Pr)} (h : mayS rows = true) : ∀ k, k ≤ (orderS rows).length → LaidTo rows ((orderS rows).take k) (((orderS rows).take k).foldl (layOne rows) (start rows)) := by
  obtain ⟨hp, hm⟩ := orderS_is rows
  generalize orderS rows = l at hp hm
  intro k
  induction k with
  | zero => intro _; simpa using start_is rows
  | succ k ih =>
    intro hk
    have hlt : k < l.length := by omega
    rw [List.take_succ_eq_append_getElem hlt, List.foldl_append]
    have hin := (hm l[k]).1 (List.getElem_mem hlt)
    have hsp := hp
    rw [← List.take_append_drop k l, List.pairwise_append] at hsp
    have hd : l[k] ∈ l.drop k := by rw [List.drop_eq_getElem_cons hlt]; exact List.mem_cons_self
    refine (ih (by omega)).step hin.1 (fun hc => ?_) (fun o ho => hsp.2.2 o ho _ hd) (mayS_row h _ hin.1)
    exact ahead_irr rows _ (hsp.2.2 _ hc _ hd)
theorem laid_all {rows : List (List Pr)} (h : mayS rows = true) : LaidTo rows (orderS rows) (layS rows) := by
  have := laid_pre h (orderS rows).length (Nat.le_refl _)
  rw [List.take_length] at this
  unfold layS
  rw [if_pos h]
  exact this
end Go.Proofs.YtjeebcnjdhlcfaaDoor
