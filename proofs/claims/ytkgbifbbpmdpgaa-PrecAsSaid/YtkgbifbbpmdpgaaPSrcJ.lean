/- The source of a grammar by numbers has a grammar, whatever the numbers. Of no program but for names. -/
import Derived.Test.YtkgbifbbpmdpgaaPSrcH
set_option linter.unusedVariables false
set_option linter.unusedSimpArgs false
namespace Go.Proofs.Ytkgbifbbpmdpgaa

theorem symQ_is (q n : Nat) (hn : 1 ≤ n) : SyG n (symQ q n) := by
 unfold symQ
 split
 · exact .inl ⟨q % n, Nat.mod_lt _ hn, rfl⟩
 · split
   · exact .inr (.inl rfl)
   · exact .inr (.inr ⟨q - 5, rfl⟩)
def codeP (p : Pt) : Bool := decide (p.code.size ≠ 0)
theorem cntTo_le (a : Al) : ∀ i, i ≤ a.parts.length → cntTo a i ≤ (a.parts.take i).countP codeP
 | 0, _ => Nat.zero_le _
 | i + 1, hi => by
   have ih := cntTo_le a i (by omega)
   show cntTo a i + _ ≤ _
   rw [List.take_succ_eq_append_getElem (by omega), List.countP_append]
   have hg : a.parts.getD i ⟨noSm, ⟨#[]⟩, 0⟩ = a.parts[i]'(by omega) := by rw [List.getD_eq_getElem?_getD, List.getElem?_eq_getElem (by omega)]; rfl
   rw [hg]
   have h2 : (if (a.parts[i]'(by omega)).code.size ≠ 0 ∧ i + 1 ≠ a.parts.length then 1 else 0) ≤ [a.parts[i]'(by omega)].countP codeP := by
    split
    · rename_i hc
      simp [codeP, hc.1]
    · exact Nat.zero_le _
   omega
theorem cntTo_last (a : Al) {n : Nat} (hn : a.parts.length = n + 1) : cntTo a a.parts.length = cntTo a n := by
 rw [hn]
 show cntTo a n + _ = _
 rw [if_neg (fun h => h.2 hn.symm)]
 rfl
theorem parts_len10 {n : Nat} {r : List Int} {ia : Bool} : ∀ c, (partsG n r ia c).length ≤ c + (if 0 < c then 1 else 0) ∧ (partsG n r ia c).countP codeP ≤ (if 0 < c then 1 else 0)
 | 0 => by simp [partsG]
 | c + 1 => by
   obtain ⟨h1, h2⟩ := parts_len10 (n := n) (r := r) (ia := ia) c
   have hz : codeP (ptS (symG (r.getD (c + 1) 0) n)) = false := rfl
   show (partsG n r ia c ++ [ptS (symG (r.getD (c + 1) 0) n)] ++ (if c = 0 ∧ ia = true then [ptC codeA] else [])).length ≤ _ ∧ (partsG n r ia c ++ [ptS (symG (r.getD (c + 1) 0) n)] ++ (if c = 0 ∧ ia = true then [ptC codeA] else [])).countP codeP ≤ _
   generalize ptS (symG (r.getD (c + 1) 0) n) = q at hz ⊢
   have hq : [q].countP codeP = 0 := by simp [hz]
   rw [List.length_append, List.length_append, List.countP_append, List.countP_append, hq]
   by_cases hc : c = 0
   · subst hc
     have e : partsG n r ia 0 = [] := rfl
     rw [e]
     have hx : (if 0 = 0 ∧ ia = true then [ptC codeA] else []).length ≤ 1 := by split <;> simp
     have hy := List.countP_le_length (p := codeP) (l := if 0 = 0 ∧ ia = true then [ptC codeA] else [])
     generalize (if 0 = 0 ∧ ia = true then [ptC codeA] else []) = z at hx hy ⊢
     simp only [List.length_nil, List.countP_nil, List.length_singleton]
     rw [if_pos (show 0 < 0 + 1 from Nat.one_pos)]
     omega
   · rw [if_neg (fun h => hc h.1)]
     rw [if_pos (by omega)] at h1 h2
     simp only [List.length_nil, List.countP_nil, List.length_singleton]
     rw [if_pos (show 0 < c + 1 from Nat.succ_pos _)]
     omega
theorem parts_sy {n : Nat} {r : List Int} {ia : Bool} (hn : 1 ≤ n) : ∀ c, ∀ p ∈ partsG n r ia c, p.code.size = 0 → SyG n p.sym
 | 0, p, hp, _ => by simp [partsG] at hp
 | c + 1, p, hp, hz => by
   have h2 : p ∈ partsG n r ia c ++ [ptS (symG (r.getD (c + 1) 0) n)] ++ (if c = 0 ∧ ia = true then [ptC codeA] else []) := hp
   rcases List.mem_append.1 h2 with h3 | h3
   · rcases List.mem_append.1 h3 with h4 | h4
     · exact parts_sy hn c p h4 hz
     · simp at h4; subst h4; exact symQ_is _ _ hn
   · split at h3
     · simp at h3; subst h3; exact absurd hz (by decide)
     · simp at h3
theorem getD_mem_pt {l : List Pt} {i : Nat} (h : i < l.length) : l.getD i ⟨noSm, ⟨#[]⟩, 0⟩ ∈ l := by rw [List.getD_eq_getElem?_getD, List.getElem?_eq_getElem h]; exact List.getElem_mem _
theorem altG_is {n : Nat} {r : List Int} {ia ib : Bool} (hn : 1 ≤ n) : AltG n (altG n r ia ib) := by
 obtain ⟨h1, h2⟩ := parts_len10 (n := n) (r := r) (ia := ia) (min r.length 5 - 1)
 have h3 := parts_sy (r := r) (ia := ia) hn (min r.length 5 - 1)
 have hm : min r.length 5 - 1 ≤ 4 := by omega
 have hP : (altG n r ia ib).parts = partsG n r ia (min r.length 5 - 1) ++ (if ib = true then [ptC codeB] else []) := rfl
 generalize partsG n r ia (min r.length 5 - 1) = ps at h1 h2 h3 hP
 have hl : ps.length ≤ 5 := by split at h1 <;> omega
 have hc : ps.countP codeP ≤ 1 := by split at h2 <;> omega
 refine ⟨rfl, ?_, fun i hi hz => ?_, ?_⟩
 · rw [hP, List.length_append]
   split <;> simp <;> omega
 · have hm := getD_mem_pt hi
   rw [hP] at hm hz ⊢
   generalize (ps ++ (if ib = true then [ptC codeB] else [])).getD i ⟨noSm, ⟨#[]⟩, 0⟩ = q at hm hz ⊢
   rcases List.mem_append.1 hm with h4 | h4
   · exact h3 _ h4 hz
   · split at h4
     · simp only [List.mem_singleton] at h4
       rw [h4] at hz
       exact absurd hz (by decide)
     · simp at h4
 · cases ib with
   | false =>
     have := cntTo_le (altG n r ia false) _ (Nat.le_refl _)
     rw [List.take_length, hP, List.countP_append] at this
     simp at this
     rw [hP]
     simp at this ⊢
     omega
   | true =>
     have hq : (altG n r ia true).parts.length = ps.length + 1 := by rw [hP]; simp
     rw [cntTo_last _ hq]
     have := cntTo_le (altG n r ia true) ps.length (by omega)
     rw [hP] at this
     simp at this
     omega
theorem litA_is (n i : Nat) : AltG n (litA i) := by
 refine ⟨rfl, by show 1 ≤ 6; decide, fun j hj hz => ?_, ?_⟩
 · have : j = 0 := by have h : j < 1 := hj; omega
   subst this
   exact .inr (.inr ⟨i, rfl⟩)
 · show 0 + _ ≤ 1
   split <;> omega
theorem sum_set {als : List (List Al)} {k : Nat} {a : Al} : ∀ n, sumTo (fun j => ((als.set k (als.getD k [] ++ [a])).getD j []).length) n ≤ sumTo (fun j => (als.getD j []).length) n + (if k < n then 1 else 0)
 | 0 => by simp [sumTo]
 | n + 1 => by
   have ih := sum_set (als := als) (k := k) (a := a) n
   show sumTo (fun j => ((als.set k (als.getD k [] ++ [a])).getD j []).length) n + ((als.set k (als.getD k [] ++ [a])).getD n []).length ≤ sumTo (fun j => (als.getD j []).length) n + (als.getD n []).length + (if k < n + 1 then 1 else 0)
   have h1 : ((als.set k (als.getD k [] ++ [a])).getD n []).length ≤ (als.getD n []).length + (if k = n then 1 else 0) := by
    rw [List.getD_eq_getElem?_getD, List.getElem?_set]
    by_cases e : k = n
    · subst e
      rw [if_pos rfl, if_pos rfl]
      split
      · simp
      · rename_i hk
        simp
    · rw [if_neg e, if_neg e, List.getD_eq_getElem?_getD]
      omega
   by_cases h2 : k < n
   · rw [if_pos h2] at ih
     rw [if_neg (by omega)] at h1
     rw [if_pos (by omega)]
     omega
   · rw [if_neg h2] at ih
     by_cases e : k = n
     · rw [if_pos e] at h1
       rw [if_pos (by omega)]
       omega
     · rw [if_neg e] at h1
       rw [if_neg (by omega)]
       omega
theorem rSt_sum (g : Gr) (n N : Nat) : ∀ i, sumTo (fun j => ((rSt g n i).1.getD j []).length) N ≤ i
 | 0 => by
   have : ∀ M, sumTo (fun j => ((rSt g n 0).1.getD j []).length) M = 0 := fun M => by
    induction M with
    | zero => rfl
    | succ M ih =>
      show sumTo _ M + ((List.replicate n ([] : List Al)).getD M []).length = 0
      rw [ih, List.getD_eq_getElem?_getD, List.getElem?_replicate]
      split <;> rfl
   rw [this]; exact Nat.le_refl _
 | i + 1 => by
   have ih := rSt_sum g n N i
   show sumTo (fun j => ((rStep n (g.rules.getD i []) (innA g.inner i) (innB g.inner i) (rSt g n i)).1.getD j []).length) N ≤ i + 1
   unfold rStep
   split
   · omega
   · have := sum_set (als := (rSt g n i).1) (k := ((g.rules.getD i []).getD 0 0 % (n : Int)).toNat) (a := altG n (g.rules.getD i []) (innA g.inner i) (innB g.inner i)) N
     simp only
     split at this <;> omega
theorem fSt_sum (has : List Bool) (bare : Bool) (als : List (List Al)) (N : Nat) : ∀ i, sumTo (fun j => ((fSt has bare als i).getD j []).length) N ≤ sumTo (fun j => (als.getD j []).length) N + i
 | 0 => Nat.le_refl _
 | i + 1 => by
   have ih := fSt_sum has bare als N i
   show sumTo (fun j => ((fStep has bare i (fSt has bare als i)).getD j []).length) N ≤ _
   unfold fStep
   split
   · have := sum_set (als := fSt has bare als i) (k := i) (a := litA i) N
     split at this <;> omega
   · omega
def goodAL (n : Nat) (als : List (List Al)) : Prop := ∀ l ∈ als, ∀ a ∈ l, AltG n a
theorem goodAL_set {n : Nat} {als : List (List Al)} {k : Nat} {a : Al} (h : goodAL n als) (ha : AltG n a) : goodAL n (als.set k (als.getD k [] ++ [a])) := by
 intro l hl x hx
 rcases List.mem_or_eq_of_mem_set hl with h2 | rfl
 · exact h l h2 x hx
 · rcases List.mem_append.1 hx with h3 | h3
   · rw [List.getD_eq_getElem?_getD] at h3
     cases hk : als[k]? with
     | none => rw [hk] at h3; simp at h3
     | some l2 => rw [hk] at h3; exact h l2 (List.mem_of_getElem? hk) x h3
   · simp at h3; subst h3; exact ha
theorem als_is (g : Gr) : goodAL (nonsG g) (alsG g) := by
 have hn : 1 ≤ nonsG g := by unfold nonsG; omega
 have h1 : ∀ i, goodAL (nonsG g) (rSt g (nonsG g) i).1 := fun i => by
  induction i with
  | zero =>
    intro l hl x hx
    have : l ∈ List.replicate (nonsG g) ([] : List Al) := hl
    rw [List.mem_replicate] at this
    rw [this.2] at hx; simp at hx
  | succ i ih =>
    show goodAL _ (rStep (nonsG g) (g.rules.getD i []) (innA g.inner i) (innB g.inner i) (rSt g (nonsG g) i)).1
    unfold rStep
    split
    · exact ih
    · exact goodAL_set ih (altG_is hn)
 have h2 : ∀ i, goodAL (nonsG g) (fSt (rSt g (nonsG g) (min g.rules.length 9)).2 g.bare (rSt g (nonsG g) (min g.rules.length 9)).1 i) := fun i => by
  induction i with
  | zero => exact h1 _
  | succ i ih =>
    show goodAL _ (fStep _ _ i _)
    unfold fStep
    split
    · exact goodAL_set ih (litA_is _ _)
    · exact ih
 exact h2 _
theorem srcA (g : Gr) : (ofA (srcG g)).e = 0 ∧ (ofA (srcG g)).toks.length ≤ 7 ∧ (ofA (srcG g)).lefts.length ≤ 4 ∧ (ofA (srcG g)).inner ≤ 13 ∧ (ofA (srcG g)).prods.length ≤ 27 ∧ R8 (ofA (srcG g)) := by
 have hN : 1 ≤ nonsG g ∧ nonsG g ≤ 4 := by unfold nonsG; omega
 obtain ⟨L, hD, hK⟩ := srcD g
 have hlen : (srcG g).rules.length = nonsG g := by
  show ((List.range (nonsG g)).map (rlG (alsG g))).length = _
  simp
 have hget : ∀ i, i < nonsG g → (srcG g).rules.getD i noRl = rlG (alsG g) i := fun i hi => by
  show ((List.range (nonsG g)).map (rlG (alsG g))).getD i noRl = _
  rw [List.getD_eq_getElem?_getD, List.getElem?_map, List.getElem?_range hi]
  rfl
 have hl0 : (ofD (srcG g)).1.lefts = [] := (MkL.dclTo (srcG g).decls (mk0, ⟨#[]⟩) (srcG g).decls.length).lf
 have hi0 : (ofD (srcG g)).1.inner = 0 := inner_dclTo (srcG g).decls (mk0, ⟨#[]⟩) (srcG g).decls.length
 have hR := MR.ru (rs := (srcG g).rules) hD hl0 (fun i hi => by rw [hlen] at hi; exact ⟨by omega, by rw [hget i hi]; rfl⟩) (srcG g).rules.length (Nat.le_refl _)
 have hRl := (ruTo_same (srcG g).rules (ofD (srcG g)).1 (srcG g).rules.length)
 obtain ⟨a1, a2, a3, a4, a5, a6, a7⟩ := hRl
 have hT : ofT (srcG g) = ofR (srcG g) := tyd_same (m := ofR (srcG g)) hK _
 have hF : MR (srcG g).rules.length (ofD (srcG g)).1 (ofF (srcG g)) L := by
  have e : ofF (srcG g) = { ofT (srcG g) with prods := [⟨0, [1001 + (ofT (srcG g)).left (ofS (srcG g))], -1, ⟨#[]⟩, [], 0⟩] } := rfl
  rw [e, hT]
  exact ⟨⟨hR.mi.e, hR.mi.b, hR.mi.nd, hR.mi.tk⟩, hR.has, hR.only⟩
 have h8 : R8 (ofF (srcG g)) := fun p hp => by
  have : p = ⟨0, [1001 + (ofT (srcG g)).left (ofS (srcG g))], -1, ⟨#[]⟩, [], 0⟩ := by simpa [ofF] using hp
  subst this; simp
 rw [hlen] at hF
 have hgood : ∀ r ∈ (srcG g).rules, ∀ a ∈ r.alts, AltG (nonsG g) a := fun r hr a ha => by
  have h2 : r ∈ (List.range (nonsG g)).map (rlG (alsG g)) := hr
  obtain ⟨i, hi, rfl⟩ := List.mem_map.1 h2
  have h3 : a ∈ (alsG g).getD i [] := ha
  rw [List.getD_eq_getElem?_getD] at h3
  cases hk : (alsG g)[i]? with
  | none => rw [hk] at h3; simp at h3
  | some l2 => rw [hk] at h3; exact als_is g l2 (List.mem_of_getElem? hk) a h3
 obtain ⟨⟨L', hA⟩, b2, b3, b4, b5⟩ := rul_go hF h8 hgood (srcG g).rules.length (Nat.le_refl _)
 have hs : sumTo (fun j => ((srcG g).rules.getD j noRl).alts.length) (nonsG g) ≤ 13 := by
  have e : ∀ n, n ≤ nonsG g → sumTo (fun j => ((srcG g).rules.getD j noRl).alts.length) n = sumTo (fun j => ((alsG g).getD j []).length) n := fun n => by
   induction n with
   | zero => intro _; rfl
   | succ n ih =>
     intro hn
     show sumTo (fun j => ((srcG g).rules.getD j noRl).alts.length) n + ((srcG g).rules.getD n noRl).alts.length = sumTo (fun j => ((alsG g).getD j []).length) n + ((alsG g).getD n []).length
     rw [ih (by omega), hget n (by omega)]
     rfl
  rw [e _ (Nat.le_refl _)]
  have h1 := fSt_sum (rSt g (nonsG g) (min g.rules.length 9)).2 g.bare (rSt g (nonsG g) (min g.rules.length 9)).1 (nonsG g) (nonsG g)
  have h2 := rSt_sum g (nonsG g) (nonsG g) (min g.rules.length 9)
  have h3 : alsG g = fSt (rSt g (nonsG g) (min g.rules.length 9)).2 g.bare (rSt g (nonsG g) (min g.rules.length 9)).1 (nonsG g) := rfl
  rw [h3]
  omega
 rw [hlen] at b3 b4
 have hAA : ofA (srcG g) = rulTo (srcG g).rules (ofF (srcG g)) (srcG g).rules.length := rfl
 rw [hlen] at hA b2 b5
 rw [hAA, hlen]
 have hFl : (ofF (srcG g)).lefts = (ofR (srcG g)).lefts := by
  show (ofT (srcG g)).lefts = _
  rw [hT]
 have hFi : (ofF (srcG g)).inner = 0 := by
  show (ofT (srcG g)).inner = _
  rw [hT]
  exact a7.trans hi0
 have hl4 : (ofR (srcG g)).lefts.length ≤ 4 := by
  have : (ofR (srcG g)).lefts.length ≤ (ofD (srcG g)).1.lefts.length + (srcG g).rules.length := a5
  rw [hl0, hlen] at this
  simp at this
  omega
 have hp1 : (ofF (srcG g)).prods.length = 1 := rfl
 refine ⟨hA.mi.e, ?_, by rw [b2, hFl]; exact hl4, by omega, by omega, b5⟩
 rw [hA.mi.len]
 have := nodup_four hA.mi.nd hA.mi.b
 omega
theorem longTo_not {m : Mk} (h : R8 m) : ∀ n, n ≤ m.prods.length → longTo m false n = false
 | 0, _ => rfl
 | n + 1, hn => by
   show (longTo m false n || decide (8 < ((m.prods.getD n noPd).right.length : Int))) = false
   rw [longTo_not h n (by omega)]
   have : m.prods.getD n noPd ∈ m.prods := by rw [List.getD_eq_getElem?_getD, List.getElem?_eq_getElem (by omega)]; exact List.getElem_mem _
   have := h _ this
   rw [Bool.false_or]
   exact decide_eq_false (by omega)
theorem srcG_ok (g : Gr) : okOf (srcG g) = true := by
 obtain ⟨h1, h2, h3, h4, h5, h6⟩ := srcA g
 have hw := (ofA_w (srcG g)).nn
 have ht : (ofK (srcG g)).toks.length = (ofA (srcG g)).toks.length := (numTo_len (ofA (srcG g)) 57346 ((ofA (srcG g)).toks.length - 3)).1
 have hk : (ofK (srcG g)).prods = (ofA (srcG g)).prods := numTo_prods _ _ _
 have hn : (ofN (srcG g)).length = 1 + (ofA (srcG g)).lefts.length + (ofA (srcG g)).inner.toNat := by
  unfold ofN
  rw [innTo_len, nsTo_len]
  rfl
 unfold okOf ofAll
 rw [if_pos (srcG_may g)]
 unfold ofG
 rw [if_neg (fun h => h h1)]
 have hl : ofLong (srcG g) = false := by
  unfold ofLong
  rw [show decide (40 < (ofK (srcG g)).toks.length) = false by rw [ht]; simp; omega, show decide (24 < (ofN (srcG g)).length) = false by rw [hn]; simp; omega, show decide (60 < (ofK (srcG g)).prods.length) = false by rw [hk]; simp; omega]
  exact longTo_not (fun p hp => h6 p (by rw [← hk]; exact hp)) _ (Nat.le_refl _)
 rw [hl]
 rfl
end Go.Proofs.Ytkgbifbbpmdpgaa
