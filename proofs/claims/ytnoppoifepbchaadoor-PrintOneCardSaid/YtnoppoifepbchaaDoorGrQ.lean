/- The source of a grammar by numbers may be printed. -/
import Derived.Test.YtnoppoifepbchaaDoorGrW3
import Derived.Test.YtnoppoifepbchaaDoorTxtP
namespace Go.Proofs.YtnoppoifepbchaaDoor
section
open Go.RowKit
set_option linter.unusedVariables false
set_option linter.unusedSimpArgs false

def goodS (x : Sm) : Bool := symB false true x && decide (x.name.size ≤ 5)
theorem symQ_good : ∀ q : Fin 14, ∀ n : Fin 5, 1 ≤ n.val → goodS (symQ q.val n.val) = true := by decide +kernel
theorem lit_good : ∀ i : Fin 9, goodS (litG i.val) = true := by decide +kernel
theorem symG_good (x : Int) {n : Nat} (h1 : 1 ≤ n) (h4 : n ≤ 4) : goodS (symG x n) = true := symQ_good ⟨(x % 14).toNat, by omega⟩ ⟨n, by omega⟩ h1
def goodP (p : Pt) : Bool := mayPt p && (decide (p.sym.name.size ≤ 5) && decide (p.code.size ≤ 20))
theorem codeA_good : goodP (ptC codeA) = true := by decide +kernel
theorem codeB_good : goodP (ptC codeB) = true := by decide +kernel
theorem ptS_good {x : Sm} (h : goodS x = true) : goodP (ptS x) = true := by
 unfold goodS at h
 rw [Bool.and_eq_true, decide_eq_true_iff] at h
 unfold goodP ptS mayPt
 simp only
 have hz : (ByteArray.empty : ByteArray).size = 0 := rfl
 rw [if_pos hz, h.1, hz]
 simpa using h.2
theorem parts_good {n : Nat} {r : List Int} {ia : Bool} (h1 : 1 ≤ n) (h4 : n ≤ 4) : ∀ c, ∀ p ∈ partsG n r ia c, goodP p = true
 | 0, p, h => by cases h
 | c + 1, p, h => by
   have h2 : p ∈ partsG n r ia c ++ [ptS (symG (r.getD (c + 1) 0) n)] ++ (if c = 0 ∧ ia = true then [ptC codeA] else []) := h
   rcases List.mem_append.1 h2 with h3 | h3
   · rcases List.mem_append.1 h3 with h5 | h5
     · exact parts_good h1 h4 c p h5
     · rw [List.mem_singleton.1 h5]; exact ptS_good (symG_good _ h1 h4)
   · split at h3
     · rw [List.mem_singleton.1 h3]; exact codeA_good
     · cases h3
def goodA (a : Al) : Prop := (∀ p ∈ a.parts, goodP p = true) ∧ a.prec = noSm ∧ a.parts.length ≤ 20
theorem parts_len9 {n : Nat} {r : List Int} {ia : Bool} : ∀ c, (partsG n r ia c).length ≤ 2 * c
 | 0 => Nat.le_refl _
 | c + 1 => by
   have h := parts_len9 (n := n) (r := r) (ia := ia) c
   show (partsG n r ia c ++ [ptS (symG (r.getD (c + 1) 0) n)] ++ (if c = 0 ∧ ia = true then [ptC codeA] else [])).length ≤ _
   split <;> simp <;> omega
theorem alt_good {n : Nat} {r : List Int} {ia ib : Bool} (h1 : 1 ≤ n) (h4 : n ≤ 4) : goodA (altG n r ia ib) := by
 refine ⟨fun p hp => ?_, rfl, ?_⟩
 · have h2 : p ∈ partsG n r ia (min r.length 5 - 1) ++ (if ib = true then [ptC codeB] else []) := hp
   rcases List.mem_append.1 h2 with h3 | h3
   · exact parts_good h1 h4 _ p h3
   · split at h3
     · rw [List.mem_singleton.1 h3]; exact codeB_good
     · cases h3
 · have h := parts_len9 (n := n) (r := r) (ia := ia) (min r.length 5 - 1)
   show (partsG n r ia (min r.length 5 - 1) ++ (if ib = true then [ptC codeB] else [])).length ≤ 20
   split <;> simp <;> omega
theorem litA_good {i : Nat} (h : i < 9) : goodA (litA i) := by
 refine ⟨fun p hp => ?_, rfl, by simp [litA]⟩
 have h2 : p ∈ [ptS (litG i)] := hp
 rw [List.mem_singleton.1 h2]; exact ptS_good (lit_good ⟨i, h⟩)
def goodL (als : List (List Al)) (m : Nat) : Prop := ∀ l ∈ als, (∀ a ∈ l, goodA a) ∧ l.length ≤ m
theorem goodL_set {als : List (List Al)} {m k : Nat} {a : Al} (h : goodL als m) (ha : goodA a) : goodL (als.set k (als.getD k [] ++ [a])) (m + 1) := by
 intro l hl
 rcases List.mem_or_eq_of_mem_set hl with h1 | rfl
 · exact ⟨(h l h1).1, by have := (h l h1).2; omega⟩
 · have hk : (∀ b ∈ als.getD k [], goodA b) ∧ (als.getD k []).length ≤ m := by
    rw [List.getD_eq_getElem?_getD]
    by_cases hk : k < als.length
    · rw [List.getElem?_eq_getElem hk]; exact h _ (List.getElem_mem hk)
    · rw [List.getElem?_eq_none (by omega)]; exact ⟨(fun b hb => by cases hb), Nat.zero_le _⟩
   refine ⟨fun b hb => ?_, by rw [List.length_append, List.length_singleton]; omega⟩
   rcases List.mem_append.1 hb with h2 | h2
   · exact hk.1 b h2
   · rw [List.mem_singleton.1 h2]; exact ha
theorem goodL_mono {als : List (List Al)} {m m' : Nat} (h : goodL als m) (hm : m ≤ m') : goodL als m' := fun l hl => ⟨(h l hl).1, Nat.le_trans (h l hl).2 hm⟩
theorem rSt_good (g : Gr) {n : Nat} (h1 : 1 ≤ n) (h4 : n ≤ 4) : ∀ i, goodL (rSt g n i).1 i
 | 0 => fun l hl => by
   have h2 : l ∈ List.replicate n ([] : List Al) := hl
   rw [List.eq_of_mem_replicate h2]
   exact ⟨fun a ha => (by cases ha), Nat.zero_le _⟩
 | i + 1 => by
   have h := rSt_good g h1 h4 i
   show goodL (rStep n (g.rules.getD i []) (innA g.inner i) (innB g.inner i) (rSt g n i)).1 (i + 1)
   unfold rStep
   split
   · exact goodL_mono h (by omega)
   · exact goodL_set h (alt_good h1 h4)
theorem fSt_good (has : List Bool) (bare : Bool) (als : List (List Al)) {m : Nat} (h : goodL als m) : ∀ i, i ≤ 9 → goodL (fSt has bare als i) (m + i)
 | 0, _ => h
 | i + 1, hi => by
   have h2 := fSt_good has bare als h i (by omega)
   show goodL (fStep has bare i (fSt has bare als i)) (m + (i + 1))
   unfold fStep
   split
   · exact goodL_set h2 (litA_good (by omega))
   · exact goodL_mono h2 (by omega)
theorem fSt_some (has : List Bool) (bare : Bool) (als : List (List Al)) : ∀ i, i ≤ als.length → ∀ k, k < i → ((fSt has bare als i).getD k []).length ≠ 0
 | 0, _, k, hk => absurd hk (Nat.not_lt_zero _)
 | i + 1, hi, k, hk => by
   have h := fSt_some has bare als i (by omega)
   have hl := fSt_len has bare als i
   show ((fStep has bare i (fSt has bare als i)).getD k []).length ≠ 0
   unfold fStep
   split
   · rw [List.getD_eq_getElem?_getD]
     by_cases e : i = k
     · subst e
       rw [List.getElem?_set_self (by omega)]
       simp
     · rw [List.getElem?_set_ne e, ← List.getD_eq_getElem?_getD]
       exact h k (by omega)
   · rename_i hc
     by_cases e : i = k
     · subst e
       exact fun e2 => hc (.inl e2)
     · exact h k (by omega)
def goodD (p : Int × List Sm) : Prop := (p.1 = 2 ∨ p.1 = 3 ∨ p.1 = 4) ∧ p.2.length ≠ 0 ∧ p.2.length ≤ 20 ∧ ∀ x ∈ p.2, goodS x = true
theorem dSt_good (l : List Int) : ∀ i, i ≤ 8 → ∀ p ∈ dSt l i, goodD p ∧ p.2.length ≤ i
 | 0, _, p, h => by cases h
 | i + 1, hi, p, h => by
   have hs := dSt_good l i (by omega)
   have h2 : p ∈ dStep (dSt l i) i (l.getD i 0 % 8).toNat := h
   have hq : (l.getD i 0 % 8).toNat < 8 := by omega
   unfold dStep at h2
   split at h2
   · exact ⟨(hs p h2).1, by have := (hs p h2).2; omega⟩
   · rename_i hq4
     split at h2
     · rename_i hc
       rcases List.mem_or_eq_of_mem_set h2 with h3 | rfl
       · exact ⟨(hs p h3).1, by have := (hs p h3).2; omega⟩
       · have h4 : (dSt l i).length - 1 < (dSt l i).length := by omega
         obtain ⟨⟨g1, g2, g3, g4⟩, g5⟩ := hs _ (List.getElem_mem h4)
         simp only [List.getD_eq_getElem?_getD, List.getElem?_eq_getElem h4, Option.getD_some]
         refine ⟨⟨g1, by simp, by simp only [List.length_append, List.length_singleton]; omega, fun x hx => ?_⟩, by simp only [List.length_append, List.length_singleton]; omega⟩
         rcases List.mem_append.1 hx with h5 | h5
         · exact g4 x h5
         · rw [List.mem_singleton.1 h5]; exact lit_good ⟨i, by omega⟩
     · rcases List.mem_append.1 h2 with h3 | h3
       · exact ⟨(hs p h3).1, by have := (hs p h3).2; omega⟩
       · rw [List.mem_singleton.1 h3]
         refine ⟨⟨by show (1 + (((l.getD i 0 % 8).toNat % 4 : Nat) : Int) = 2 ∨ 1 + (((l.getD i 0 % 8).toNat % 4 : Nat) : Int) = 3 ∨ 1 + (((l.getD i 0 % 8).toNat % 4 : Nat) : Int) = 4); omega, by simp, by simp, fun x hx => ?_⟩, by simp⟩
         rw [List.mem_singleton.1 hx]; exact lit_good ⟨i, by omega⟩
theorem dc_may {p : Int × List Sm} (h : goodD p) : mayDc (dcOf p) = true := by
 obtain ⟨h1, h2, h3, h4⟩ := h
 obtain ⟨k, sy⟩ := p
 simp only at h1 h2 h3 h4
 have hs : ∀ x ∈ sy, symB false true x = true := fun x hx => by
  have := h4 x hx
  unfold goodS at this
  rw [Bool.and_eq_true] at this
  exact this.1
 unfold mayDc dcB dcOf
 simp only
 rw [Bool.and_eq_true, decide_eq_true_iff, List.all_eq_true]
 have hz : (ByteArray.empty : ByteArray).size = 0 := rfl
 refine ⟨⟨by omega, by omega, h2, fun e => by omega, fun e => by omega, .inl hz⟩, fun x hx => ?_⟩
 have e1 : (k == 1) = false := by rw [beq_eq_false_iff_ne]; omega
 have e2 : decide (k < 5) = true := by rw [decide_eq_true_iff]; omega
 rw [e1, e2]
 exact hs x hx
theorem non_name : ∀ k : Fin 4, isNameB (gNonB k.val) = true := by decide +kernel
theorem al_may {a : Al} (h : goodA a) : mayAl a = true := by
 unfold mayAl
 rw [Bool.and_eq_true, List.all_eq_true]
 refine ⟨fun p hp => ?_, ?_⟩
 · have := h.1 p hp
   unfold goodP at this
   rw [Bool.and_eq_true] at this
   exact this.1
 · rw [h.2.1]; decide +kernel
theorem als_good (g : Gr) : goodL (alsG g) 13 := by
 have hN := nonsG_pos g
 exact goodL_mono (fSt_good _ _ _ (rSt_good g hN.1 hN.2 _) _ (by omega)) (by omega)
theorem getD_mem9 {als : List (List Al)} {m i : Nat} (h : goodL als m) : (∀ a ∈ als.getD i [], goodA a) ∧ (als.getD i []).length ≤ m := by
 rw [List.getD_eq_getElem?_getD]
 by_cases hk : i < als.length
 · rw [List.getElem?_eq_getElem hk]; exact h _ (List.getElem_mem hk)
 · rw [List.getElem?_eq_none (by omega)]; exact ⟨(fun b hb => by cases hb), Nat.zero_le _⟩
/-- it may be -/
theorem srcG_may (g : Gr) : maySo (srcG g) = true := by
 have hN := nonsG_pos g
 have hG := als_good g
 unfold maySo
 rw [Bool.and_eq_true, Bool.and_eq_true, Bool.and_eq_true, List.all_eq_true, List.all_eq_true]
 refine ⟨(by decide +kernel : (!pctB ByteArray.empty) = true), fun d hd => ?_, fun r hr => ?_, ?_⟩
 · have h2 : d ∈ (dSt g.levels (min g.levels.length 4)).map dcOf := hd
   obtain ⟨p, hp, rfl⟩ := List.mem_map.1 h2
   exact dc_may (dSt_good g.levels _ (by omega) p hp).1
 · have h2 : r ∈ (List.range (nonsG g)).map (rlG (alsG g)) := hr
   obtain ⟨i, hi, rfl⟩ := List.mem_map.1 h2
   have hi := List.mem_range.1 hi
   unfold mayRl rlG
   simp only
   rw [Bool.and_eq_true, Bool.and_eq_true, List.all_eq_true, decide_eq_true_iff]
   refine ⟨non_name ⟨i, by omega⟩, ?_, fun a ha => al_may ((getD_mem9 hG).1 a ha)⟩
   exact fSt_some _ _ _ _ (by rw [(rSt_len g (nonsG g) _).1]; exact Nat.le_refl _) i hi
 · rw [decide_eq_true_iff]
   show ((List.range (nonsG g)).map (rlG (alsG g))).length ≠ 0
   simp; omega
/-- it is small -/
theorem srcG_small (g : Gr) : SoSmall (srcG g) ∧ SoFew (srcG g) := by
 have hN := nonsG_pos g
 have hG := als_good g
 have hz : (ByteArray.empty : ByteArray).size ≤ 1000000 := by decide
 have hs5 : ∀ {x : Sm}, goodS x = true → SmSmall x := fun {x} h => by
  unfold goodS at h
  rw [Bool.and_eq_true, decide_eq_true_iff] at h
  unfold SmSmall
  omega
 have hal : ∀ a, goodA a → AlSmall a := fun a h => by
  refine ⟨fun p hp => ?_, by rw [h.2.1]; exact hz⟩
  have h2 := h.1 p hp
  unfold goodP at h2
  rw [Bool.and_eq_true, Bool.and_eq_true, decide_eq_true_iff, decide_eq_true_iff] at h2
  exact ⟨by unfold SmSmall; omega, by omega⟩
 have hdc : ∀ d ∈ (srcG g).decls, ∃ p, p ∈ dSt g.levels (min g.levels.length 4) ∧ d = dcOf p := fun d hd => by
  have h2 : d ∈ (dSt g.levels (min g.levels.length 4)).map dcOf := hd
  obtain ⟨p, hp, rfl⟩ := List.mem_map.1 h2
  exact ⟨p, hp, rfl⟩
 have hrl : ∀ r ∈ (srcG g).rules, ∃ i, i < nonsG g ∧ r = rlG (alsG g) i := fun r hr => by
  have h2 : r ∈ (List.range (nonsG g)).map (rlG (alsG g)) := hr
  obtain ⟨i, hi, rfl⟩ := List.mem_map.1 h2
  exact ⟨i, List.mem_range.1 hi, rfl⟩
 have hnm : ∀ k : Fin 4, (gNonB k.val).size ≤ 5 := by decide +kernel
 refine ⟨⟨hz, hz, fun d hd => ?_, fun r hr => ?_⟩, ?_, ?_, fun d hd => ?_, fun r hr => ?_⟩
 · obtain ⟨p, hp, rfl⟩ := hdc d hd
   exact ⟨hz, fun x hx => hs5 ((dSt_good g.levels _ (by omega) p hp).1.2.2.2 x hx)⟩
 · obtain ⟨i, hi, rfl⟩ := hrl r hr
   exact ⟨Nat.le_trans (hnm ⟨i, by omega⟩) (by omega), fun a ha => hal a ((getD_mem9 hG).1 a ha)⟩
 · show ((dSt g.levels (min g.levels.length 4)).map dcOf).length ≤ 401
   have := dSt_len g.levels (min g.levels.length 4)
   rw [List.length_map]; omega
 · show ((List.range (nonsG g)).map (rlG (alsG g))).length ≤ 401
   simp; omega
 · obtain ⟨p, hp, rfl⟩ := hdc d hd
   have := (dSt_good g.levels _ (by omega) p hp).1.2.2.1
   show p.2.length ≤ 401
   omega
 · obtain ⟨i, hi, rfl⟩ := hrl r hr
   have h1 := getD_mem9 (i := i) hG
   refine ⟨?_, fun a ha => ?_⟩
   · show ((alsG g).getD i []).length ≤ 401
     omega
   · have := (h1.1 a ha).2.2
     omega
end
section
open Go.RowKit
set_option linter.unusedVariables false
set_option linter.unusedSimpArgs false

theorem list_one {α : Type} {R : World → List Value → α → Prop} {w : World} {B size : Nat} {cs : Array Value} {T : TypeId} {x : α} (h : w.heap[B]? = some (.cells cs T (0, 0))) (hs : cs.size = size) (hR : R w cs.toList x) : ListV size R w (.slice (some ⟨B, 0, none⟩) 1 1) [x] := by
 refine ⟨_, 1, rfl, Nat.le_refl _, by omega, fun e => (by cases e), fun i y hy => ?_⟩
 obtain rfl : i = 0 := by have := (List.getElem?_eq_some_iff.1 hy).1; simp at this; omega
 obtain rfl : x = y := by simpa using hy
 refine ⟨B, 0, cs.toList, rfl, by simpa using hs, hR, fun j hj => ?_⟩
 rw [show 0 + 0 * size + j = j by omega, cell_of_row w B j cs T (0, 0) h, List.getD_eq_getElem?_getD, Array.getElem?_toList, Array.getElem?_eq_getElem (by omega)]; rfl
theorem list_two {α : Type} {R : World → List Value → α → Prop} {w : World} {B size : Nat} {cs : Array Value} {T : TypeId} {x y : α} (h : w.heap[B]? = some (.cells cs T (0, 0))) (hs : cs.size = 2 * size) (hx : R w (cs.toList.take size) x) (hy : R w (cs.toList.drop size) y) : ListV size R w (.slice (some ⟨B, 0, none⟩) 2 2) [x, y] := by
 have hl : cs.toList.length = 2 * size := by simpa using hs
 refine ⟨_, 2, rfl, Nat.le_refl _, by omega, fun e => (by cases e), fun i z hz => ?_⟩
 have hi : i < 2 := by have := (List.getElem?_eq_some_iff.1 hz).1; simpa using this
 match i, hi with
 | 0, _ =>
   obtain rfl : x = z := by simpa using hz
   refine ⟨B, 0, _, rfl, by simp [hs]; omega, hx, fun j hj => ?_⟩
   rw [show 0 + 0 * size + j = j by omega, cell_of_row w B j cs T (0, 0) h, List.getD_eq_getElem?_getD, List.getElem?_take, if_pos hj, Array.getElem?_toList, Array.getElem?_eq_getElem (by omega)]; rfl
 | 1, _ =>
   obtain rfl : y = z := by simpa using hz
   refine ⟨B, 0, _, rfl, by rw [List.length_drop, hl]; omega, hy, fun j hj => ?_⟩
   rw [show 0 + 1 * size + j = size + j by omega, cell_of_row w B (size + j) cs T (0, 0) h, List.getD_eq_getElem?_getD, List.getElem?_drop, Array.getElem?_toList, Array.getElem?_eq_getElem (by omega)]; rfl

theorem heap_put (w : World) (o : Obj) {b : Nat} {x : Obj} (h : w.heap[b]? = some x) : (w.alloc o).heap[b]? = some x := by
 rw [Below.heap_alloc w o b (by rcases Nat.lt_or_ge b w.heap.size with h' | h'; exact h'; rw [Array.getElem?_eq_none h'] at h; cases h)]; exact h
theorem heap_new (w : World) (cs : Array Value) (T : TypeId) (b : Nat) (hb : b = w.heap.size) : (w.alloc (.cells cs T)).heap[b]? = some (.cells cs T (0, 0)) := by subst hb; exact heap_alloc_new w _

/-- the rule of one alternative of one byte in quotes -/
def ruleOf (nm x : ByteArray) : Rl := ⟨nm, [⟨[⟨⟨x, true, 0, 0⟩, ⟨#[]⟩, 0⟩], ⟨⟨#[]⟩, false, 0, 0⟩, 0⟩], 0⟩
theorem rule_laid {W : World} {bp ba br : Nat} {nm x : ByteArray}
  (hp : W.heap[bp]? = some (.cells #[.string x, .bool true, .int .i64 0, .int .i64 0, .string ⟨#[]⟩, .int .i64 0] 44 (0, 0)))
  (ha : W.heap[ba]? = some (.cells #[.slice (some ⟨bp, 0, none⟩) 1 1, .string ⟨#[]⟩, .bool false, .int .i64 0, .int .i64 0, .int .i64 0] 42 (0, 0)))
  (hr : W.heap[br]? = some (.cells #[.string nm, .slice (some ⟨ba, 0, none⟩) 1 1, .int .i64 0] 37 (0, 0))) :
  RlsV W (.slice (some ⟨br, 0, none⟩) 1 1) [ruleOf nm x] :=
 list_one hr rfl ⟨_, rfl, list_one ha rfl ⟨_, rfl, list_one hp rfl rfl⟩⟩

def w8s : So := ⟨⟨#[]⟩, [], [ruleOf ⟨#[97]⟩ ⟨#[120]⟩], ⟨#[]⟩⟩
def w8n : So := ⟨⟨#[]⟩, [], [], ⟨#[]⟩⟩
theorem w8k1 : soT w8s = [37, 37, 10, 97, 32, 58, 32, 39, 120, 39, 32, 59, 10] := by decide +kernel
theorem w8k2 : maySo w8s = true := by decide +kernel
theorem w8k3 : maySo w8n = false := by decide +kernel
theorem w8k4 : soT w8n = [] := by decide +kernel
theorem w8k5 : w8s.same w8s = true := by decide +kernel
theorem w8k6 : w8s.same w8n = false := by decide +kernel
theorem none_laid (W : World) : SoV W (.agg #[.string ⟨#[]⟩, .slice none 0 0, .slice none 0 0, .string ⟨#[]⟩]) w8n := ⟨_, _, rfl, ListV.nil _ _ _, ListV.nil _ _ _⟩
theorem w8n_small : SoSmall w8n ∧ SoFew w8n := by
 refine ⟨⟨by decide, by decide, fun d hd => (by cases hd), fun r hr => (by cases hr)⟩, by decide, by decide, fun d hd => (by cases hd), fun r hr => (by cases hr)⟩
theorem ruleOf_small (nm x : ByteArray) (hn : nm.size ≤ 1000000) (hx : x.size ≤ 1000000) : RlSmall (ruleOf nm x) ∧ RlFew (ruleOf nm x) := by
 refine ⟨⟨hn, fun a ha => ?_⟩, by simp [ruleOf], fun a ha => ?_⟩
 · obtain rfl : a = _ := by simpa [ruleOf] using ha
   refine ⟨fun p hp => ?_, by show (⟨#[]⟩ : ByteArray).size ≤ _; decide⟩
   obtain rfl : p = _ := by simpa using hp
   exact ⟨hx, by show (⟨#[]⟩ : ByteArray).size ≤ _; decide⟩
 · obtain rfl : a = _ := by simpa [ruleOf] using ha
   simp
theorem w8s_small : SoSmall w8s ∧ SoFew w8s := by
 have h := ruleOf_small ⟨#[97]⟩ ⟨#[120]⟩ (by decide) (by decide)
 refine ⟨⟨by decide, by decide, fun d hd => (by cases hd), fun r hr => ?_⟩, by decide, by decide, fun d hd => (by cases hd), fun r hr => ?_⟩
 · obtain rfl : r = _ := by simpa [w8s] using hr
   exact h.1
 · obtain rfl : r = _ := by simpa [w8s] using hr
   exact h.2
theorem text_is {S : ByteArray} {l : List UInt8} (h : S.data.toList = l) : S.toList = l := by rw [Lib.toList_data]; exact h

set_option maxRecDepth 100000 in
set_option maxHeartbeats 8000000 in
theorem wakes8_any (w : World) (hE : Env w) : Calls Tryd.prog 14 #[] w fun e w' => e = .returned (.bool true) ∧ Below w.heap.size w w' := by
 have HE := Lib.hid hE
 clear hE
 go_enter Tryd.func14, Tryd.ntmps14
 go_upto_region 2 with fail
 have P0 := heap_new w #[.string ⟨#[120]⟩, .bool true, .int .i64 0, .int .i64 0, .string ⟨#[]⟩, .int .i64 0] 44 w.heap.size rfl
 have hb0 := (Below.refl w.heap.size w).alloc (Nat.le_refl _) (.cells #[.string ⟨#[120]⟩, .bool true, .int .i64 0, .int .i64 0, .string ⟨#[]⟩, .int .i64 0] 44)
 have hs0 : (w.alloc (.cells #[.string ⟨#[120]⟩, .bool true, .int .i64 0, .int .i64 0, .string ⟨#[]⟩, .int .i64 0] 44)).heap.size = w.heap.size + 1 := World.size_alloc _ _
 generalize w.alloc (.cells #[.string ⟨#[120]⟩, .bool true, .int .i64 0, .int .i64 0, .string ⟨#[]⟩, .int .i64 0] 44) = w1 at P0 hb0 hs0 ⊢
 have A0 := heap_new w1 #[.slice (some ⟨w.heap.size, 0, none⟩) 1 1, .string ⟨#[]⟩, .bool false, .int .i64 0, .int .i64 0, .int .i64 0] 42 (w.heap.size + 1) hs0.symm
 have P1 := heap_put w1 (.cells #[.slice (some ⟨w.heap.size, 0, none⟩) 1 1, .string ⟨#[]⟩, .bool false, .int .i64 0, .int .i64 0, .int .i64 0] 42) P0
 have hb1 := hb0.alloc hb0.size (.cells #[.slice (some ⟨w.heap.size, 0, none⟩) 1 1, .string ⟨#[]⟩, .bool false, .int .i64 0, .int .i64 0, .int .i64 0] 42)
 have hs1 : (w1.alloc (.cells #[.slice (some ⟨w.heap.size, 0, none⟩) 1 1, .string ⟨#[]⟩, .bool false, .int .i64 0, .int .i64 0, .int .i64 0] 42)).heap.size = w.heap.size + 1 + 1 := by rw [World.size_alloc, hs0]
 generalize w1.alloc (.cells #[.slice (some ⟨w.heap.size, 0, none⟩) 1 1, .string ⟨#[]⟩, .bool false, .int .i64 0, .int .i64 0, .int .i64 0] 42) = w2 at A0 P1 hb1 hs1 ⊢
 have R0 := heap_new w2 #[.string ⟨#[97]⟩, .slice (some ⟨w.heap.size + 1, 0, none⟩) 1 1, .int .i64 0] 37 (w.heap.size + 1 + 1) hs1.symm
 have P2 := heap_put w2 (.cells #[.string ⟨#[97]⟩, .slice (some ⟨w.heap.size + 1, 0, none⟩) 1 1, .int .i64 0] 37) P1
 have A1 := heap_put w2 (.cells #[.string ⟨#[97]⟩, .slice (some ⟨w.heap.size + 1, 0, none⟩) 1 1, .int .i64 0] 37) A0
 have hb2 := hb1.alloc hb1.size (.cells #[.string ⟨#[97]⟩, .slice (some ⟨w.heap.size + 1, 0, none⟩) 1 1, .int .i64 0] 37)
 have hs2 : (w2.alloc (.cells #[.string ⟨#[97]⟩, .slice (some ⟨w.heap.size + 1, 0, none⟩) 1 1, .int .i64 0] 37)).heap.size = w.heap.size + 1 + 1 + 1 := by rw [World.size_alloc, hs1]
 generalize w2.alloc (.cells #[.string ⟨#[97]⟩, .slice (some ⟨w.heap.size + 1, 0, none⟩) 1 1, .int .i64 0] 37) = w3 at R0 P2 A1 hb2 hs2 ⊢
 have hR := rule_laid P2 A1 R0
 have C : Hid (∀ W, Below (w3.alloc (.cells #[.string ⟨#[]⟩, .slice none 0 0, .slice (some ⟨w.heap.size + 1 + 1, 0, none⟩) 1 1, .string ⟨#[]⟩] 29)).heap.size (w3.alloc (.cells #[.string ⟨#[]⟩, .slice none 0 0, .slice (some ⟨w.heap.size + 1 + 1, 0, none⟩) 1 1, .string ⟨#[]⟩] 29)) W → ∀ i u, (#[.string ⟨#[]⟩, .slice none 0 0, .slice (some ⟨w.heap.size + 1 + 1, 0, none⟩) 1 1, .string ⟨#[]⟩] : Array Value)[i]? = some u → W.cell? ⟨w.heap.size + 1 + 1 + 1, i, none⟩ = some u) := Lib.hid (fun W hW i u hu => by
  have := box1 (w := w3) hW i u hu
  rwa [hs2] at this)
 have hb3 := hb2.alloc hb2.size (.cells #[.string ⟨#[]⟩, .slice none 0 0, .slice (some ⟨w.heap.size + 1 + 1, 0, none⟩) 1 1, .string ⟨#[]⟩] 29)
 have hR2 := hR.below ((Below.refl w3.heap.size w3).alloc (Nat.le_refl _) (.cells #[.string ⟨#[]⟩, .slice none 0 0, .slice (some ⟨w.heap.size + 1 + 1, 0, none⟩) 1 1, .string ⟨#[]⟩] 29))
 have hS : SoV (w3.alloc (.cells #[.string ⟨#[]⟩, .slice none 0 0, .slice (some ⟨w.heap.size + 1 + 1, 0, none⟩) 1 1, .string ⟨#[]⟩] 29)) (.agg #[.string ⟨#[]⟩, .slice none 0 0, .slice (some ⟨w.heap.size + 1 + 1, 0, none⟩) 1 1, .string ⟨#[]⟩]) w8s := ⟨_, _, rfl, ListV.nil _ _ _, hR2⟩
 generalize w3.alloc (.cells #[.string ⟨#[]⟩, .slice none 0 0, .slice (some ⟨w.heap.size + 1 + 1, 0, none⟩) 1 1, .string ⟨#[]⟩] 29) = w4 at C hb3 hS ⊢
 clear P0 hb0 hs0 A0 P1 hb1 hs1 R0 P2 A1 hb2 hR hR2 hs2
 have q0 := fun (W : World) hW => C.out W hW 0 _ rfl
 have q1 := fun (W : World) hW => C.out W hW 1 _ rfl
 have q2 := fun (W : World) hW => C.out W hW 2 _ rfl
 have q3 := fun (W : World) hW => C.out W hW 3 _ rfl
 have Q0 := Lib.hid q0
 have Q1 := Lib.hid q1
 have Q2 := Lib.hid q2
 have Q3 := Lib.hid q3
 have c0 := q0 w4 (Below.refl _ _)
 have c1 := q1 w4 (Below.refl _ _)
 have c2 := q2 w4 (Below.refl _ _)
 have c3 := q3 w4 (Below.refl _ _)
 clear q0 q1 q2 q3
 have HT := Lib.hid (ptext_any _ w8s w4 hS w8s_small.1 w8s_small.2 (HE.out.below hb3))
 have HM := Lib.hid (fun (W : World) (hW : Below w4.heap.size w4 W) => pmay_any _ w8s W (hS.below hW) w8s_small.1 (HE.out.below (hb3.trans (hW.mono hb3.size))).max)
 have HN := Lib.hid (fun (W : World) (hW : Below w4.heap.size w4 W) => pmay_any _ w8n W (none_laid W) w8n_small.1 (HE.out.below (hb3.trans (hW.mono hb3.size))).max)
 have HX := Lib.hid (fun (W : World) (hW : Below w4.heap.size w4 W) => ptext_any _ w8n W (none_laid W) w8n_small.1 w8n_small.2 (HE.out.below (hb3.trans (hW.mono hb3.size))))
 have HS1 := Lib.hid (fun (W : World) (hW : Below w4.heap.size w4 W) => psame_any _ _ w8s w8s W (hS.below hW) (hS.below hW))
 have HS2 := Lib.hid (fun (W : World) (hW : Below w4.heap.size w4 W) => psame_any _ _ w8s w8n W (hS.below hW) (none_laid W))
 rw [w8k1] at HT
 rw [w8k2] at HM
 rw [w8k3] at HN
 rw [w8k4] at HX
 rw [w8k5] at HS1
 rw [w8k6] at HS2
 clear hS
 go_wp2_with (first
  | (go_at_call 18; (with_reducible refine HT.out.mono ?_); rintro e w5 ⟨T5, rfl, hT5, hb5⟩; have t5 := text_is hT5; have a0 := Q0.out _ hb5; have a1 := Q1.out _ hb5; have a2 := Q2.out _ hb5; have a3 := Q3.out _ hb5)
  | (go_at_call 16; (with_reducible refine (HM.out _ hb5).mono ?_); rintro e w6 ⟨rfl, hb6⟩; have h46 := hb5.trans (hb6.mono hb5.size))
  | (go_at_call 16; (with_reducible refine (HN.out _ h46).mono ?_); rintro e w7 ⟨rfl, hb7⟩; have h47 := h46.trans (hb7.mono h46.size))
  | (go_at_call 18; (with_reducible refine (HX.out _ h47).mono ?_); rintro e w8 ⟨T8, rfl, hT8, hb8⟩; have t8 := text_is hT8; have h48 := h47.trans (hb8.mono h47.size); have b0 := Q0.out _ h48; have b1 := Q1.out _ h48; have b2 := Q2.out _ h48; have b3 := Q3.out _ h48)
  | (go_at_call 20; (with_reducible refine (HS1.out _ h48).mono ?_); rintro e w9 ⟨rfl, hb9⟩; have h49 := h48.trans (hb9.mono h48.size); have d0 := Q0.out _ h49; have d1 := Q1.out _ h49; have d2 := Q2.out _ h49; have d3 := Q3.out _ h49)
  | (go_at_call 20; (with_reducible refine (HS2.out _ h49).mono ?_); rintro e w10 ⟨rfl, hb10⟩; have h410 := h49.trans (hb10.mono h49.size)))
 go_ret
 exact ⟨ret_bool (by simp [t5, t8]), hb3.trans (h410.mono hb3.size)⟩
end
end Go.Proofs.YtnoppoifepbchaaDoor
