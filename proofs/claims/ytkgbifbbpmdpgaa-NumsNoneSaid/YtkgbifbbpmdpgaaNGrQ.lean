/- The source of a grammar by numbers may be printed. -/
import Derived.Test.YtkgbifbbpmdpgaaNGrW3
import Derived.Test.YtkgbifbbpmdpgaaNRMay4
import Derived.Test.YtkgbifbbpmdpgaaNOf18
set_option linter.unusedVariables false
set_option linter.unusedSimpArgs false
namespace Go.Proofs.Ytkgbifbbpmdpgaa

open Go.RowKit
def goodS (x : Sm) : Bool := symB false true x && decide (x.name.size ≤ 5)
theorem symQ_good : ∀ q : Fin 14, ∀ n : Fin 5, 1 ≤ n.val → goodS (symQ q.val n.val) = true := by decide +kernel
theorem lit_good : ∀ i : Fin 9, goodS (litG i.val) = true := by decide +kernel
theorem symG_good (x : Int) {n : Nat} (h1 : 1 ≤ n) (h4 : n ≤ 4) : goodS (symG x n) = true := symQ_good ⟨(x % 14).toNat, by omega⟩ ⟨n, by omega⟩ h1
def goodP (p : Pt) : Bool := mayPt p && (decide (p.sym.name.size ≤ 5) && decide (p.code.size ≤ 20))
theorem codeA_good : goodP (ptC codeA) = true := by decide +kernel
theorem codeB_good : goodP (ptC codeB) = true := by decide +kernel
theorem ptS_good {x : Sm} (h : goodS x = true) : goodP (ptS x) = true := by
 unfold goodS at h
 rw [Bool.and_eq_true, decide_eq_true_iff] at h
 unfold goodP ptS mayPt
 simp only
 have hz : (ByteArray.empty : ByteArray).size = 0 := rfl
 rw [if_pos hz, h.1, hz]
 simpa using h.2
theorem parts_good {n : Nat} {r : List Int} {ia : Bool} (h1 : 1 ≤ n) (h4 : n ≤ 4) : ∀ c, ∀ p ∈ partsG n r ia c, goodP p = true
 | 0, p, h => by cases h
 | c + 1, p, h => by
   have h2 : p ∈ partsG n r ia c ++ [ptS (symG (r.getD (c + 1) 0) n)] ++ (if c = 0 ∧ ia = true then [ptC codeA] else []) := h
   rcases List.mem_append.1 h2 with h3 | h3
   · rcases List.mem_append.1 h3 with h5 | h5
     · exact parts_good h1 h4 c p h5
     · rw [List.mem_singleton.1 h5]; exact ptS_good (symG_good _ h1 h4)
   · split at h3
     · rw [List.mem_singleton.1 h3]; exact codeA_good
     · cases h3
def goodA (a : Al) : Prop := (∀ p ∈ a.parts, goodP p = true) ∧ a.prec = noSm ∧ a.parts.length ≤ 20
theorem parts_len9 {n : Nat} {r : List Int} {ia : Bool} : ∀ c, (partsG n r ia c).length ≤ 2 * c
 | 0 => Nat.le_refl _
 | c + 1 => by
   have h := parts_len9 (n := n) (r := r) (ia := ia) c
   show (partsG n r ia c ++ [ptS (symG (r.getD (c + 1) 0) n)] ++ (if c = 0 ∧ ia = true then [ptC codeA] else [])).length ≤ _
   split <;> simp <;> omega
theorem alt_good {n : Nat} {r : List Int} {ia ib : Bool} (h1 : 1 ≤ n) (h4 : n ≤ 4) : goodA (altG n r ia ib) := by
 refine ⟨fun p hp => ?_, rfl, ?_⟩
 · have h2 : p ∈ partsG n r ia (min r.length 5 - 1) ++ (if ib = true then [ptC codeB] else []) := hp
   rcases List.mem_append.1 h2 with h3 | h3
   · exact parts_good h1 h4 _ p h3
   · split at h3
     · rw [List.mem_singleton.1 h3]; exact codeB_good
     · cases h3
 · have h := parts_len9 (n := n) (r := r) (ia := ia) (min r.length 5 - 1)
   show (partsG n r ia (min r.length 5 - 1) ++ (if ib = true then [ptC codeB] else [])).length ≤ 20
   split <;> simp <;> omega
theorem litA_good {i : Nat} (h : i < 9) : goodA (litA i) := by
 refine ⟨fun p hp => ?_, rfl, by simp [litA]⟩
 have h2 : p ∈ [ptS (litG i)] := hp
 rw [List.mem_singleton.1 h2]; exact ptS_good (lit_good ⟨i, h⟩)
def goodL (als : List (List Al)) (m : Nat) : Prop := ∀ l ∈ als, (∀ a ∈ l, goodA a) ∧ l.length ≤ m
theorem goodL_set {als : List (List Al)} {m k : Nat} {a : Al} (h : goodL als m) (ha : goodA a) : goodL (als.set k (als.getD k [] ++ [a])) (m + 1) := by
 intro l hl
 rcases List.mem_or_eq_of_mem_set hl with h1 | rfl
 · exact ⟨(h l h1).1, by have := (h l h1).2; omega⟩
 · have hk : (∀ b ∈ als.getD k [], goodA b) ∧ (als.getD k []).length ≤ m := by
    rw [List.getD_eq_getElem?_getD]
    by_cases hk : k < als.length
    · rw [List.getElem?_eq_getElem hk]; exact h _ (List.getElem_mem hk)
    · rw [List.getElem?_eq_none (by omega)]; exact ⟨(fun b hb => by cases hb), Nat.zero_le _⟩
   refine ⟨fun b hb => ?_, by rw [List.length_append, List.length_singleton]; omega⟩
   rcases List.mem_append.1 hb with h2 | h2
   · exact hk.1 b h2
   · rw [List.mem_singleton.1 h2]; exact ha
theorem goodL_mono {als : List (List Al)} {m m' : Nat} (h : goodL als m) (hm : m ≤ m') : goodL als m' := fun l hl => ⟨(h l hl).1, Nat.le_trans (h l hl).2 hm⟩
theorem rSt_good (g : Gr) {n : Nat} (h1 : 1 ≤ n) (h4 : n ≤ 4) : ∀ i, goodL (rSt g n i).1 i
 | 0 => fun l hl => by
   have h2 : l ∈ List.replicate n ([] : List Al) := hl
   rw [List.eq_of_mem_replicate h2]
   exact ⟨fun a ha => (by cases ha), Nat.zero_le _⟩
 | i + 1 => by
   have h := rSt_good g h1 h4 i
   show goodL (rStep n (g.rules.getD i []) (innA g.inner i) (innB g.inner i) (rSt g n i)).1 (i + 1)
   unfold rStep
   split
   · exact goodL_mono h (by omega)
   · exact goodL_set h (alt_good h1 h4)
theorem fSt_good (has : List Bool) (bare : Bool) (als : List (List Al)) {m : Nat} (h : goodL als m) : ∀ i, i ≤ 9 → goodL (fSt has bare als i) (m + i)
 | 0, _ => h
 | i + 1, hi => by
   have h2 := fSt_good has bare als h i (by omega)
   show goodL (fStep has bare i (fSt has bare als i)) (m + (i + 1))
   unfold fStep
   split
   · exact goodL_set h2 (litA_good (by omega))
   · exact goodL_mono h2 (by omega)
def goodD (p : Int × List Sm) : Prop := (p.1 = 2 ∨ p.1 = 3 ∨ p.1 = 4) ∧ p.2.length ≠ 0 ∧ p.2.length ≤ 20 ∧ ∀ x ∈ p.2, goodS x = true
theorem dSt_good (l : List Int) : ∀ i, i ≤ 8 → ∀ p ∈ dSt l i, goodD p ∧ p.2.length ≤ i
 | 0, _, p, h => by cases h
 | i + 1, hi, p, h => by
   have hs := dSt_good l i (by omega)
   have h2 : p ∈ dStep (dSt l i) i (l.getD i 0 % 8).toNat := h
   have hq : (l.getD i 0 % 8).toNat < 8 := by omega
   unfold dStep at h2
   split at h2
   · exact ⟨(hs p h2).1, by have := (hs p h2).2; omega⟩
   · rename_i hq4
     split at h2
     · rename_i hc
       rcases List.mem_or_eq_of_mem_set h2 with h3 | rfl
       · exact ⟨(hs p h3).1, by have := (hs p h3).2; omega⟩
       · have h4 : (dSt l i).length - 1 < (dSt l i).length := by omega
         obtain ⟨⟨g1, g2, g3, g4⟩, g5⟩ := hs _ (List.getElem_mem h4)
         simp only [List.getD_eq_getElem?_getD, List.getElem?_eq_getElem h4, Option.getD_some]
         refine ⟨⟨g1, by simp, by simp only [List.length_append, List.length_singleton]; omega, fun x hx => ?_⟩, by simp only [List.length_append, List.length_singleton]; omega⟩
         rcases List.mem_append.1 hx with h5 | h5
         · exact g4 x h5
         · rw [List.mem_singleton.1 h5]; exact lit_good ⟨i, by omega⟩
     · rcases List.mem_append.1 h2 with h3 | h3
       · exact ⟨(hs p h3).1, by have := (hs p h3).2; omega⟩
       · rw [List.mem_singleton.1 h3]
         refine ⟨⟨by show (1 + (((l.getD i 0 % 8).toNat % 4 : Nat) : Int) = 2 ∨ 1 + (((l.getD i 0 % 8).toNat % 4 : Nat) : Int) = 3 ∨ 1 + (((l.getD i 0 % 8).toNat % 4 : Nat) : Int) = 4); omega, by simp, by simp, fun x hx => ?_⟩, by simp⟩
         rw [List.mem_singleton.1 hx]; exact lit_good ⟨i, by omega⟩
theorem als_good (g : Gr) : goodL (alsG g) 13 := by
 have hN := nonsG_pos g
 exact goodL_mono (fSt_good _ _ _ (rSt_good g hN.1 hN.2 _) _ (by omega)) (by omega)
theorem getD_mem9 {als : List (List Al)} {m i : Nat} (h : goodL als m) : (∀ a ∈ als.getD i [], goodA a) ∧ (als.getD i []).length ≤ m := by
 rw [List.getD_eq_getElem?_getD]
 by_cases hk : i < als.length
 · rw [List.getElem?_eq_getElem hk]; exact h _ (List.getElem_mem hk)
 · rw [List.getElem?_eq_none (by omega)]; exact ⟨(fun b hb => by cases hb), Nat.zero_le _⟩
theorem srcG_small (g : Gr) : SoSmall (srcG g) ∧ SoB (srcG g) := by
 have hN := nonsG_pos g
 have hG := als_good g
 have hz : (ByteArray.empty : ByteArray).size ≤ 1000000 := by decide
 have hs5 : ∀ {x : Sm}, goodS x = true → SmSmall x := fun {x} h => by
  unfold goodS at h
  rw [Bool.and_eq_true, decide_eq_true_iff] at h
  unfold SmSmall
  omega
 have hal : ∀ a, goodA a → AlSmall a := fun a h => by
  refine ⟨fun p hp => ?_, by rw [h.2.1]; exact hz⟩
  have h2 := h.1 p hp
  unfold goodP at h2
  rw [Bool.and_eq_true, Bool.and_eq_true, decide_eq_true_iff, decide_eq_true_iff] at h2
  exact ⟨by unfold SmSmall; omega, by omega⟩
 have hdc : ∀ d ∈ (srcG g).decls, ∃ p, p ∈ dSt g.levels (min g.levels.length 4) ∧ d = dcOf p := fun d hd => by
  have h2 : d ∈ (dSt g.levels (min g.levels.length 4)).map dcOf := hd
  obtain ⟨p, hp, rfl⟩ := List.mem_map.1 h2
  exact ⟨p, hp, rfl⟩
 have hrl : ∀ r ∈ (srcG g).rules, ∃ i, i < nonsG g ∧ r = rlG (alsG g) i := fun r hr => by
  have h2 : r ∈ (List.range (nonsG g)).map (rlG (alsG g)) := hr
  obtain ⟨i, hi, rfl⟩ := List.mem_map.1 h2
  exact ⟨i, List.mem_range.1 hi, rfl⟩
 have hnm : ∀ k : Fin 4, (gNonB k.val).size ≤ 5 := by decide +kernel
 refine ⟨⟨hz, hz, fun d hd => ?_, fun r hr => ?_⟩, ⟨?_, fun d hd => ?_, ?_, fun r hr => ?_⟩⟩
 · obtain ⟨p, hp, rfl⟩ := hdc d hd
   exact ⟨hz, fun x hx => hs5 ((dSt_good g.levels _ (by omega) p hp).1.2.2.2 x hx)⟩
 · obtain ⟨i, hi, rfl⟩ := hrl r hr
   exact ⟨Nat.le_trans (hnm ⟨i, by omega⟩) (by omega), fun a ha => hal a ((getD_mem9 hG).1 a ha)⟩
 · show ((dSt g.levels (min g.levels.length 4)).map dcOf).length ≤ 300
   have := dSt_len g.levels (min g.levels.length 4)
   rw [List.length_map]; omega
 · obtain ⟨p, hp, rfl⟩ := hdc d hd
   have := (dSt_good g.levels _ (by omega) p hp).1.2.2.1
   show p.2.length ≤ 300
   omega
 · show ((List.range (nonsG g)).map (rlG (alsG g))).length ≤ 300
   simp; omega
 · obtain ⟨i, hi, rfl⟩ := hrl r hr
   have h1 := getD_mem9 (i := i) hG
   refine ⟨?_, fun a ha => ?_⟩
   · show ((alsG g).getD i []).length ≤ 20
     omega
   · have := (h1.1 a ha).2.2
     omega
end Go.Proofs.Ytkgbifbbpmdpgaa
