/- The source of a grammar by numbers may be printed. -/
import Derived.Test.YtkgbifbbpmdpgaaPGrW3
import Derived.Test.YtkgbifbbpmdpgaaPRMay3
import Derived.Test.YtkgbifbbpmdpgaaPOf18
import Derived.Test.YtkgbifbbpmdpgaaPPr1
set_option linter.unusedVariables false
set_option linter.unusedSimpArgs false
namespace Go.Proofs.Ytkgbifbbpmdpgaa
section
open Go.RowKit
def goodS (x : Sm) : Bool := symB false true x && decide (x.name.size ≤ 5)
theorem symQ_good : ∀ q : Fin 14, ∀ n : Fin 5, 1 ≤ n.val → goodS (symQ q.val n.val) = true := by decide +kernel
theorem lit_good : ∀ i : Fin 9, goodS (litG i.val) = true := by decide +kernel
theorem symG_good (x : Int) {n : Nat} (h1 : 1 ≤ n) (h4 : n ≤ 4) : goodS (symG x n) = true := symQ_good ⟨(x % 14).toNat, by omega⟩ ⟨n, by omega⟩ h1
def goodP (p : Pt) : Bool := mayPt p && (decide (p.sym.name.size ≤ 5) && decide (p.code.size ≤ 20))
theorem codeA_good : goodP (ptC codeA) = true := by decide +kernel
theorem codeB_good : goodP (ptC codeB) = true := by decide +kernel
theorem ptS_good {x : Sm} (h : goodS x = true) : goodP (ptS x) = true := by
 unfold goodS at h
 rw [Bool.and_eq_true, decide_eq_true_iff] at h
 unfold goodP ptS mayPt
 simp only
 have hz : (ByteArray.empty : ByteArray).size = 0 := rfl
 rw [if_pos hz, h.1, hz]
 simpa using h.2
theorem parts_good {n : Nat} {r : List Int} {ia : Bool} (h1 : 1 ≤ n) (h4 : n ≤ 4) : ∀ c, ∀ p ∈ partsG n r ia c, goodP p = true
 | 0, p, h => by cases h
 | c + 1, p, h => by
   have h2 : p ∈ partsG n r ia c ++ [ptS (symG (r.getD (c + 1) 0) n)] ++ (if c = 0 ∧ ia = true then [ptC codeA] else []) := h
   rcases List.mem_append.1 h2 with h3 | h3
   · rcases List.mem_append.1 h3 with h5 | h5
     · exact parts_good h1 h4 c p h5
     · rw [List.mem_singleton.1 h5]; exact ptS_good (symG_good _ h1 h4)
   · split at h3
     · rw [List.mem_singleton.1 h3]; exact codeA_good
     · cases h3
def goodA (a : Al) : Prop := (∀ p ∈ a.parts, goodP p = true) ∧ a.prec = noSm ∧ a.parts.length ≤ 20
theorem parts_len9 {n : Nat} {r : List Int} {ia : Bool} : ∀ c, (partsG n r ia c).length ≤ 2 * c
 | 0 => Nat.le_refl _
 | c + 1 => by
   have h := parts_len9 (n := n) (r := r) (ia := ia) c
   show (partsG n r ia c ++ [ptS (symG (r.getD (c + 1) 0) n)] ++ (if c = 0 ∧ ia = true then [ptC codeA] else [])).length ≤ _
   split <;> simp <;> omega
theorem alt_good {n : Nat} {r : List Int} {ia ib : Bool} (h1 : 1 ≤ n) (h4 : n ≤ 4) : goodA (altG n r ia ib) := by
 refine ⟨fun p hp => ?_, rfl, ?_⟩
 · have h2 : p ∈ partsG n r ia (min r.length 5 - 1) ++ (if ib = true then [ptC codeB] else []) := hp
   rcases List.mem_append.1 h2 with h3 | h3
   · exact parts_good h1 h4 _ p h3
   · split at h3
     · rw [List.mem_singleton.1 h3]; exact codeB_good
     · cases h3
 · have h := parts_len9 (n := n) (r := r) (ia := ia) (min r.length 5 - 1)
   show (partsG n r ia (min r.length 5 - 1) ++ (if ib = true then [ptC codeB] else [])).length ≤ 20
   split <;> simp <;> omega
theorem litA_good {i : Nat} (h : i < 9) : goodA (litA i) := by
 refine ⟨fun p hp => ?_, rfl, by simp [litA]⟩
 have h2 : p ∈ [ptS (litG i)] := hp
 rw [List.mem_singleton.1 h2]; exact ptS_good (lit_good ⟨i, h⟩)
def goodL (als : List (List Al)) (m : Nat) : Prop := ∀ l ∈ als, (∀ a ∈ l, goodA a) ∧ l.length ≤ m
theorem goodL_set {als : List (List Al)} {m k : Nat} {a : Al} (h : goodL als m) (ha : goodA a) : goodL (als.set k (als.getD k [] ++ [a])) (m + 1) := by
 intro l hl
 rcases List.mem_or_eq_of_mem_set hl with h1 | rfl
 · exact ⟨(h l h1).1, by have := (h l h1).2; omega⟩
 · have hk : (∀ b ∈ als.getD k [], goodA b) ∧ (als.getD k []).length ≤ m := by
    rw [List.getD_eq_getElem?_getD]
    by_cases hk : k < als.length
    · rw [List.getElem?_eq_getElem hk]; exact h _ (List.getElem_mem hk)
    · rw [List.getElem?_eq_none (by omega)]; exact ⟨(fun b hb => by cases hb), Nat.zero_le _⟩
   refine ⟨fun b hb => ?_, by rw [List.length_append, List.length_singleton]; omega⟩
   rcases List.mem_append.1 hb with h2 | h2
   · exact hk.1 b h2
   · rw [List.mem_singleton.1 h2]; exact ha
theorem goodL_mono {als : List (List Al)} {m m' : Nat} (h : goodL als m) (hm : m ≤ m') : goodL als m' := fun l hl => ⟨(h l hl).1, Nat.le_trans (h l hl).2 hm⟩
theorem rSt_good (g : Gr) {n : Nat} (h1 : 1 ≤ n) (h4 : n ≤ 4) : ∀ i, goodL (rSt g n i).1 i
 | 0 => fun l hl => by
   have h2 : l ∈ List.replicate n ([] : List Al) := hl
   rw [List.eq_of_mem_replicate h2]
   exact ⟨fun a ha => (by cases ha), Nat.zero_le _⟩
 | i + 1 => by
   have h := rSt_good g h1 h4 i
   show goodL (rStep n (g.rules.getD i []) (innA g.inner i) (innB g.inner i) (rSt g n i)).1 (i + 1)
   unfold rStep
   split
   · exact goodL_mono h (by omega)
   · exact goodL_set h (alt_good h1 h4)
theorem fSt_good (has : List Bool) (bare : Bool) (als : List (List Al)) {m : Nat} (h : goodL als m) : ∀ i, i ≤ 9 → goodL (fSt has bare als i) (m + i)
 | 0, _ => h
 | i + 1, hi => by
   have h2 := fSt_good has bare als h i (by omega)
   show goodL (fStep has bare i (fSt has bare als i)) (m + (i + 1))
   unfold fStep
   split
   · exact goodL_set h2 (litA_good (by omega))
   · exact goodL_mono h2 (by omega)
theorem fSt_some (has : List Bool) (bare : Bool) (als : List (List Al)) : ∀ i, i ≤ als.length → ∀ k, k < i → ((fSt has bare als i).getD k []).length ≠ 0
 | 0, _, k, hk => absurd hk (Nat.not_lt_zero _)
 | i + 1, hi, k, hk => by
   have h := fSt_some has bare als i (by omega)
   have hl := fSt_len has bare als i
   show ((fStep has bare i (fSt has bare als i)).getD k []).length ≠ 0
   unfold fStep
   split
   · rw [List.getD_eq_getElem?_getD]
     by_cases e : i = k
     · subst e
       rw [List.getElem?_set_self (by omega)]
       simp
     · rw [List.getElem?_set_ne e, ← List.getD_eq_getElem?_getD]
       exact h k (by omega)
   · rename_i hc
     by_cases e : i = k
     · subst e
       exact fun e2 => hc (.inl e2)
     · exact h k (by omega)
def goodD (p : Int × List Sm) : Prop := (p.1 = 2 ∨ p.1 = 3 ∨ p.1 = 4) ∧ p.2.length ≠ 0 ∧ p.2.length ≤ 20 ∧ ∀ x ∈ p.2, goodS x = true
theorem dSt_good (l : List Int) : ∀ i, i ≤ 8 → ∀ p ∈ dSt l i, goodD p ∧ p.2.length ≤ i
 | 0, _, p, h => by cases h
 | i + 1, hi, p, h => by
   have hs := dSt_good l i (by omega)
   have h2 : p ∈ dStep (dSt l i) i (l.getD i 0 % 8).toNat := h
   have hq : (l.getD i 0 % 8).toNat < 8 := by omega
   unfold dStep at h2
   split at h2
   · exact ⟨(hs p h2).1, by have := (hs p h2).2; omega⟩
   · rename_i hq4
     split at h2
     · rename_i hc
       rcases List.mem_or_eq_of_mem_set h2 with h3 | rfl
       · exact ⟨(hs p h3).1, by have := (hs p h3).2; omega⟩
       · have h4 : (dSt l i).length - 1 < (dSt l i).length := by omega
         obtain ⟨⟨g1, g2, g3, g4⟩, g5⟩ := hs _ (List.getElem_mem h4)
         simp only [List.getD_eq_getElem?_getD, List.getElem?_eq_getElem h4, Option.getD_some]
         refine ⟨⟨g1, by simp, by simp only [List.length_append, List.length_singleton]; omega, fun x hx => ?_⟩, by simp only [List.length_append, List.length_singleton]; omega⟩
         rcases List.mem_append.1 hx with h5 | h5
         · exact g4 x h5
         · rw [List.mem_singleton.1 h5]; exact lit_good ⟨i, by omega⟩
     · rcases List.mem_append.1 h2 with h3 | h3
       · exact ⟨(hs p h3).1, by have := (hs p h3).2; omega⟩
       · rw [List.mem_singleton.1 h3]
         refine ⟨⟨by show (1 + (((l.getD i 0 % 8).toNat % 4 : Nat) : Int) = 2 ∨ 1 + (((l.getD i 0 % 8).toNat % 4 : Nat) : Int) = 3 ∨ 1 + (((l.getD i 0 % 8).toNat % 4 : Nat) : Int) = 4); omega, by simp, by simp, fun x hx => ?_⟩, by simp⟩
         rw [List.mem_singleton.1 hx]; exact lit_good ⟨i, by omega⟩
theorem dc_may {p : Int × List Sm} (h : goodD p) : mayDc (dcOf p) = true := by
 obtain ⟨h1, h2, h3, h4⟩ := h
 obtain ⟨k, sy⟩ := p
 simp only at h1 h2 h3 h4
 have hs : ∀ x ∈ sy, symB false true x = true := fun x hx => by
  have := h4 x hx
  unfold goodS at this
  rw [Bool.and_eq_true] at this
  exact this.1
 unfold mayDc dcB dcOf
 simp only
 rw [Bool.and_eq_true, decide_eq_true_iff, List.all_eq_true]
 have hz : (ByteArray.empty : ByteArray).size = 0 := rfl
 refine ⟨⟨by omega, by omega, h2, fun e => by omega, fun e => by omega, .inl hz⟩, fun x hx => ?_⟩
 have e1 : (k == 1) = false := by rw [beq_eq_false_iff_ne]; omega
 have e2 : decide (k < 5) = true := by rw [decide_eq_true_iff]; omega
 rw [e1, e2]
 exact hs x hx
theorem non_name : ∀ k : Fin 4, isNameB (gNonB k.val) = true := by decide +kernel
theorem al_may {a : Al} (h : goodA a) : mayAl a = true := by
 unfold mayAl
 rw [Bool.and_eq_true, List.all_eq_true]
 refine ⟨fun p hp => ?_, ?_⟩
 · have := h.1 p hp
   unfold goodP at this
   rw [Bool.and_eq_true] at this
   exact this.1
 · rw [h.2.1]; decide +kernel
theorem als_good (g : Gr) : goodL (alsG g) 13 := by
 have hN := nonsG_pos g
 exact goodL_mono (fSt_good _ _ _ (rSt_good g hN.1 hN.2 _) _ (by omega)) (by omega)
theorem getD_mem9 {als : List (List Al)} {m i : Nat} (h : goodL als m) : (∀ a ∈ als.getD i [], goodA a) ∧ (als.getD i []).length ≤ m := by
 rw [List.getD_eq_getElem?_getD]
 by_cases hk : i < als.length
 · rw [List.getElem?_eq_getElem hk]; exact h _ (List.getElem_mem hk)
 · rw [List.getElem?_eq_none (by omega)]; exact ⟨(fun b hb => by cases hb), Nat.zero_le _⟩
theorem srcG_may (g : Gr) : maySo (srcG g) = true := by
 have hN := nonsG_pos g
 have hG := als_good g
 unfold maySo
 rw [Bool.and_eq_true, Bool.and_eq_true, Bool.and_eq_true, List.all_eq_true, List.all_eq_true]
 refine ⟨(by decide +kernel : (!pctB ByteArray.empty) = true), fun d hd => ?_, fun r hr => ?_, ?_⟩
 · have h2 : d ∈ (dSt g.levels (min g.levels.length 4)).map dcOf := hd
   obtain ⟨p, hp, rfl⟩ := List.mem_map.1 h2
   exact dc_may (dSt_good g.levels _ (by omega) p hp).1
 · have h2 : r ∈ (List.range (nonsG g)).map (rlG (alsG g)) := hr
   obtain ⟨i, hi, rfl⟩ := List.mem_map.1 h2
   have hi := List.mem_range.1 hi
   unfold mayRl rlG
   simp only
   rw [Bool.and_eq_true, Bool.and_eq_true, List.all_eq_true, decide_eq_true_iff]
   refine ⟨non_name ⟨i, by omega⟩, ?_, fun a ha => al_may ((getD_mem9 hG).1 a ha)⟩
   exact fSt_some _ _ _ _ (by rw [(rSt_len g (nonsG g) _).1]; exact Nat.le_refl _) i hi
 · rw [decide_eq_true_iff]
   show ((List.range (nonsG g)).map (rlG (alsG g))).length ≠ 0
   simp; omega
theorem srcG_small (g : Gr) : SoSmall (srcG g) ∧ SoB (srcG g) := by
 have hN := nonsG_pos g
 have hG := als_good g
 have hz : (ByteArray.empty : ByteArray).size ≤ 1000000 := by decide
 have hs5 : ∀ {x : Sm}, goodS x = true → SmSmall x := fun {x} h => by
  unfold goodS at h
  rw [Bool.and_eq_true, decide_eq_true_iff] at h
  unfold SmSmall
  omega
 have hal : ∀ a, goodA a → AlSmall a := fun a h => by
  refine ⟨fun p hp => ?_, by rw [h.2.1]; exact hz⟩
  have h2 := h.1 p hp
  unfold goodP at h2
  rw [Bool.and_eq_true, Bool.and_eq_true, decide_eq_true_iff, decide_eq_true_iff] at h2
  exact ⟨by unfold SmSmall; omega, by omega⟩
 have hdc : ∀ d ∈ (srcG g).decls, ∃ p, p ∈ dSt g.levels (min g.levels.length 4) ∧ d = dcOf p := fun d hd => by
  have h2 : d ∈ (dSt g.levels (min g.levels.length 4)).map dcOf := hd
  obtain ⟨p, hp, rfl⟩ := List.mem_map.1 h2
  exact ⟨p, hp, rfl⟩
 have hrl : ∀ r ∈ (srcG g).rules, ∃ i, i < nonsG g ∧ r = rlG (alsG g) i := fun r hr => by
  have h2 : r ∈ (List.range (nonsG g)).map (rlG (alsG g)) := hr
  obtain ⟨i, hi, rfl⟩ := List.mem_map.1 h2
  exact ⟨i, List.mem_range.1 hi, rfl⟩
 have hnm : ∀ k : Fin 4, (gNonB k.val).size ≤ 5 := by decide +kernel
 refine ⟨⟨hz, hz, fun d hd => ?_, fun r hr => ?_⟩, ⟨?_, fun d hd => ?_, ?_, fun r hr => ?_⟩⟩
 · obtain ⟨p, hp, rfl⟩ := hdc d hd
   exact ⟨hz, fun x hx => hs5 ((dSt_good g.levels _ (by omega) p hp).1.2.2.2 x hx)⟩
 · obtain ⟨i, hi, rfl⟩ := hrl r hr
   exact ⟨Nat.le_trans (hnm ⟨i, by omega⟩) (by omega), fun a ha => hal a ((getD_mem9 hG).1 a ha)⟩
 · show ((dSt g.levels (min g.levels.length 4)).map dcOf).length ≤ 300
   have := dSt_len g.levels (min g.levels.length 4)
   rw [List.length_map]; omega
 · obtain ⟨p, hp, rfl⟩ := hdc d hd
   have := (dSt_good g.levels _ (by omega) p hp).1.2.2.1
   show p.2.length ≤ 300
   omega
 · show ((List.range (nonsG g)).map (rlG (alsG g))).length ≤ 300
   simp; omega
 · obtain ⟨i, hi, rfl⟩ := hrl r hr
   have h1 := getD_mem9 (i := i) hG
   refine ⟨?_, fun a ha => ?_⟩
   · show ((alsG g).getD i []).length ≤ 20
     omega
   · have := (h1.1 a ha).2.2
     omega
end
section
def LvOk (m : Mk) : Prop := (∀ k ∈ m.toks, 0 ≤ k.level) ∧ 0 ≤ m.level
theorem getD_lv {l : List Tk} (h : ∀ k ∈ l, 0 ≤ k.level) (i : Nat) : 0 ≤ (l.getD i noTk).level := by
 rw [List.getD_eq_getElem?_getD]
 cases hi : l[i]? with
 | none => exact Int.le_refl _
 | some x => exact h x (List.mem_of_getElem? hi)
theorem LvOk.failIf {m : Mk} (h : LvOk m) (b : Bool) (p : Int) (n : ByteArray) : LvOk (m.failIf b p n) := by
 obtain ⟨a1, a2, a3, a4, a5, a6, a7⟩ := m.failIf_same b p n
 exact ⟨by rw [a1]; exact h.1, by rw [a6]; exact h.2⟩
theorem LvOk.fail {m : Mk} (h : LvOk m) (p : Int) (n : ByteArray) : LvOk (m.fail p n) := by
 obtain ⟨a1, a2, a3, a4, a5, a6, a7⟩ := m.fail_same p n
 exact ⟨by rw [a1]; exact h.1, by rw [a6]; exact h.2⟩
theorem LvOk.setTok {m : Mk} (h : LvOk m) (i : Nat) (f : Tk → Tk) (hf : ∀ k, 0 ≤ k.level → 0 ≤ (f k).level) : LvOk (m.setTok i f) := by
 refine ⟨fun k hk => ?_, h.2⟩
 rcases List.mem_or_eq_of_mem_set (show k ∈ m.toks.set i (f (m.toks.getD i noTk)) from hk) with h2 | rfl
 · exact h.1 k h2
 · exact hf _ (getD_lv h.1 i)
theorem LvOk.put {m : Mk} (h : LvOk m) (x : Sm) : LvOk (m.put x).1 := by
 by_cases ht : 0 ≤ m.tok x
 · rw [Mk.put_old ht]; exact h
 · rw [Mk.put_new ht]
   have h2 := h.failIf (x.lit && decide (0 ≤ m.owner (byte0 x.name))) x.pos x.name
   refine ⟨fun k hk => ?_, h2.2⟩
   rcases List.mem_append.1 (show k ∈ (m.failIf _ _ _).toks ++ [_] from hk) with hk | hk
   · exact h2.1 k hk
   · simp at hk; subst hk; exact Int.le_refl _
theorem LvOk.declare {m : Mk} (h : LvOk m) (d : Dc) (x : Sm) : LvOk (m.declare d x) := by
 unfold Mk.declare
 split
 · unfold Mk.dType
   split
   · exact h
   · exact h.failIf _ _ _
 · have h1 := h.put x
   have hl : (m.put x).1.level = m.level := by
    by_cases ht : 0 ≤ m.tok x
    · rw [Mk.put_old ht]
    · rw [Mk.put_new ht]; exact (m.failIf_same _ _ _).2.2.2.2.2.1
   have h2 : LvOk ((m.put x).1.dLevel d.kind x (m.put x).2.toNat) := by
    unfold Mk.dLevel; split
    · exact h1
    · exact (h1.failIf _ _ _).setTok _ _ (fun k hk => by show 0 ≤ (m.put x).1.level; rw [hl]; exact h.2)
   have h3 : LvOk (((m.put x).1.dLevel d.kind x (m.put x).2.toNat).dNum x (m.put x).2.toNat) := by
    unfold Mk.dNum; split
    · exact (show LvOk _ from ⟨((h2.failIf _ _ _).setTok (m.put x).2.toNat (fun q => { q with num := x.num }) (fun k hk => hk)).1, (h2.failIf _ _ _).2⟩)
    · exact h2
   unfold Mk.dTag; split
   · exact h3
   · exact (h3.failIf _ _ _).setTok _ _ (fun k hk => hk)
theorem LvOk.symTo {d : Dc} {s : Mk × ByteArray} (h : LvOk s.1) : ∀ k, LvOk (symTo d s k).1
 | 0 => h
 | k + 1 => by
   show LvOk (symStep d (d.syms.getD k noSm) (Go.Proofs.Ytkgbifbbpmdpgaa.symTo d s k)).1
   unfold symStep
   split
   · exact (LvOk.symTo h k).failIf _ _ _
   · exact (LvOk.symTo h k).declare _ _
theorem LvOk.dclTo {ds : List Dc} {s : Mk × ByteArray} (h : LvOk s.1) : ∀ i, LvOk (dclTo ds s i).1
 | 0 => h
 | i + 1 => by
   refine LvOk.symTo (d := ds.getD i noDc) (s := (levUp (ds.getD i noDc) (Go.Proofs.Ytkgbifbbpmdpgaa.dclTo ds s i).1, (Go.Proofs.Ytkgbifbbpmdpgaa.dclTo ds s i).2)) ?_ _
   have h2 := LvOk.dclTo (ds := ds) h i
   show LvOk (levUp _ _)
   unfold levUp
   split
   · exact ⟨h2.1, by show 0 ≤ (Go.Proofs.Ytkgbifbbpmdpgaa.dclTo ds s i).1.level + 1; have := h2.2; omega⟩
   · exact h2
theorem LvOk.symbol {m : Mk} (h : LvOk m) (x : Sm) : LvOk (m.symbol x).1 := by
 unfold Mk.symbol
 split
 · exact h.put x
 · split
   · exact h
   · split
     · exact h.fail _ _
     · exact h
theorem LvOk.auTo {m : Mk} (h : LvOk m) (a : Al) : ∀ i, LvOk (auTo m a i).m
 | 0 => h
 | i + 1 => by
   show LvOk (auStep _ i _ (Go.Proofs.Ytkgbifbbpmdpgaa.auTo m a i)).m
   unfold auStep
   split
   · exact (LvOk.auTo h a i).symbol _
   · split
     · exact LvOk.auTo h a i
     · exact LvOk.auTo h a i
theorem LvOk.alt {m : Mk} (h : LvOk m) (ln : ByteArray) (a : Al) : LvOk (m.alt ln a) := by
 unfold Mk.alt
 have hs := LvOk.auTo h a a.parts.length
 generalize Go.Proofs.Ytkgbifbbpmdpgaa.auTo m a a.parts.length = s at hs ⊢
 have hq : LvOk (s.m.altPrec a.prec s.right).1 := by
  unfold Mk.altPrec
  split
  · exact hs
  · split
    · exact hs.symbol _
    · split
      · exact hs.symbol _
      · exact hs.fail _ _
 exact hq
theorem LvOk.altsTo {r : Rl} {m : Mk} (h : LvOk m) : ∀ k, LvOk (altsTo r m k)
 | 0 => h
 | k + 1 => (LvOk.altsTo h k).alt _ _
theorem LvOk.rulTo {rs : List Rl} {m : Mk} (h : LvOk m) : ∀ i, LvOk (rulTo rs m i)
 | 0 => h
 | i + 1 => LvOk.altsTo (LvOk.rulTo h i) _
theorem LvOk.numTo {m : Mk} (h : LvOk m) (nx : Int) : ∀ j, LvOk (numTo m nx j).1
 | 0 => h
 | j + 1 => by
   show LvOk (numSt _ (Go.Proofs.Ytkgbifbbpmdpgaa.numTo m nx j)).1
   unfold numSt
   split
   · exact LvOk.numTo h nx j
   · exact (LvOk.numTo h nx j).setTok _ _ (fun k hk => hk)
theorem ofA_lv (so : So) : LvOk (ofA so) := by
 have h0 : LvOk mk0 := ⟨by decide, by decide⟩
 have h1 : LvOk (ofD so).1 := LvOk.dclTo (ds := so.decls) (s := (mk0, ⟨#[]⟩)) h0 so.decls.length
 obtain ⟨a1, a2, a3, a4, a5, a6, a7⟩ := ruTo_same so.rules (ofD so).1 so.rules.length
 obtain ⟨b1, b2, b3, b4, b5, b6, b7⟩ := tydTo_same so.decls (ofR so) so.decls.length
 refine LvOk.rulTo (m := ofF so) ⟨fun k hk => ?_, ?_⟩ _
 · have hk2 : k ∈ (ofT so).toks := hk
   have e : (ofT so).toks = (ofD so).1.toks := b1.trans a1
   rw [e] at hk2
   exact h1.1 k hk2
 · show 0 ≤ (ofT so).level
   have e : (ofT so).level = (ofD so).1.level := b6.trans a6
   rw [e]; exact h1.2
theorem levels_ok (so : So) : ∀ k ∈ (gmOf so).toks, 0 ≤ k.level := by
 intro k hk
 unfold gmOf ofAll at hk
 split at hk
 · unfold ofG at hk
   split at hk
   · exact absurd hk (by simp [noGm])
   · split at hk
     · exact absurd hk (by simp [noGm])
     · exact (LvOk.numTo (ofA_lv so) 57346 ((ofA so).toks.length - 3)).1 k hk
 · exact absurd hk (by simp [noGm])
theorem alt_prods (m : Mk) (ln : ByteArray) (a : Al) : 1 ≤ (m.alt ln a).prods.length := by
 show 1 ≤ ((_ : List Pd) ++ [_]).length
 simp
theorem altsTo_prods {r : Rl} {m : Mk} (h : 1 ≤ m.prods.length) : ∀ k, 1 ≤ (altsTo r m k).prods.length
 | 0 => h
 | k + 1 => alt_prods _ _ _
theorem rulTo_prods {rs : List Rl} {m : Mk} (h : 1 ≤ m.prods.length) : ∀ i, 1 ≤ (rulTo rs m i).prods.length
 | 0 => h
 | i + 1 => altsTo_prods (rulTo_prods h i) _
theorem prods_ok {so : So} (h : okOf so = true) : 1 ≤ (gmOf so).prods.length := by
 have h1 : 1 ≤ (ofA so).prods.length := rulTo_prods (Nat.le_refl _) _
 unfold okOf at h
 unfold gmOf
 unfold ofAll at h ⊢
 split at h
 · rename_i hm
   rw [if_pos hm]
   unfold ofG at h ⊢
   split at h
   · rename_i he; exact absurd (by simpa using h) he
   · rename_i he
     rw [if_neg he]
     split at h
     · exact absurd h (by decide)
     · rename_i hl
       rw [if_neg hl]
       show 1 ≤ (ofK so).prods.length
       have : (ofK so).prods = (ofA so).prods := numTo_prods _ _ _
       rw [this]; exact h1
 · exact absurd h (by decide)
end
section
abbrev TkV := ByteArray × Bool × Int
def tokV (k : Tk) : TkV := (k.name, k.lit, k.num)
def litV (c : Nat) : TkV := (gLetB c, true, 112 + (c : Int))
def baseV : List TkV := [tokV tkEnd, tokV tkErr, tokV tkUnk]
structure MI (m : Mk) (L : List Nat) : Prop where
 e : m.e = 0
 b : ∀ i ∈ L, i < 4
 nd : L.Nodup
 tk : m.toks.map tokV = baseV ++ L.map litV
theorem firstF_some (p : Nat → Bool) : ∀ f i j, i ≤ j → j < i + f → p j = true → 0 ≤ firstF p f i
 | 0, i, j, h1, h2, _ => by omega
 | f + 1, i, j, h1, h2, h3 => by
   unfold firstF
   split
   · exact Int.natCast_nonneg _
   · rename_i hn
     by_cases e : i = j
     · subst e; exact absurd h3 hn
     · exact firstF_some p f (i + 1) j (by omega) (by omega) h3
theorem firstN_some {p : Nat → Bool} {n i j : Nat} (h1 : i ≤ j) (h2 : j < n) (h3 : p j = true) : 0 ≤ firstN p n i := firstF_some p (n - i) i j h1 (by omega) h3
theorem firstN_none {p : Nat → Bool} {n i : Nat} (h : ∀ j, i ≤ j → j < n → p j = false) : firstN p n i = -1 := by
 rcases firstN_lt p n i with e | ⟨k, e, h1, h2, h3⟩
 · exact e
 · rw [h k h1 h2] at h3; cases h3
theorem let_eq (i j : Nat) : eqB (gLetB i) (gLetB j) = decide (i % 4 = j % 4) := by
 have key : ∀ a b : Fin 4, eqB (gLetB a.val) (gLetB b.val) = decide (a.val = b.val) := by decide +kernel
 have e : ∀ k, gLetB k = gLetB (k % 4) := fun k => by unfold gLetB; rw [Nat.mod_mod]
 rw [e i, e j]
 exact key ⟨i % 4, by omega⟩ ⟨j % 4, by omega⟩
theorem let_byte (i : Nat) : byte0 (gLetB i) = 112 + ((i % 4 : Nat) : Int) := by
 have key : ∀ a : Fin 4, byte0 (gLetB a.val) = 112 + (a.val : Int) := by decide +kernel
 have e : gLetB i = gLetB (i % 4) := by unfold gLetB; rw [Nat.mod_mod]
 rw [e]
 exact key ⟨i % 4, by omega⟩
section
variable {m : Mk} {L : List Nat}
theorem MI.at (h : MI m L) {j : Nat} (hj : j < m.toks.length) : tokV (m.toks.getD j noTk) ∈ baseV ∨ ∃ i, i ∈ L ∧ tokV (m.toks.getD j noTk) = litV i := by
 have h1 : m.toks.getD j noTk ∈ m.toks := by rw [List.getD_eq_getElem?_getD, List.getElem?_eq_getElem hj]; exact List.getElem_mem _
 have h2 := List.mem_map_of_mem (f := tokV) h1
 rw [h.tk] at h2
 rcases List.mem_append.1 h2 with h3 | h3
 · exact .inl h3
 · obtain ⟨i, hi, e⟩ := List.mem_map.1 h3
   exact .inr ⟨i, hi, e.symm⟩
theorem MI.len (h : MI m L) : m.toks.length = 3 + L.length := by
 have := congrArg List.length h.tk
 simp [baseV] at this
 omega
theorem MI.lit_new (h : MI m L) {k : Nat} (hk : k % 4 ∉ L) : m.tok (litG k) = -1 ∧ m.owner (byte0 (litG k).name) = -1 := by
 constructor
 · refine firstN_none (fun j h1 h2 => ?_)
   rcases h.at h2 with h3 | ⟨i, hi, e⟩
   · have : (m.toks.getD j noTk).lit = false := by
      have key : ∀ v ∈ baseV, v.2.1 = false := by decide
      exact key _ h3
     unfold tokP
     rw [this]
     show (_ && ((false == true) && _)) = false
     simp
   · have e1 : (m.toks.getD j noTk).name = gLetB i := congrArg Prod.fst e
     unfold tokP
     rw [e1]
     show (eqB (gLetB i) (gLetB k) && _) = false
     rw [let_eq]
     have hb := h.b i hi
     have : ¬ i % 4 = k % 4 := fun hh => hk (by rw [← hh, Nat.mod_eq_of_lt hb]; exact hi)
     simp [this]
 · refine firstN_none (fun j h1 h2 => ?_)
   show ((m.toks.getD j noTk).num == byte0 (gLetB k)) = false
   rw [let_byte]
   rcases h.at h2 with h3 | ⟨i, hi, e⟩
   · have key : ∀ v ∈ baseV, v.2.2 ≤ 0 := by decide
     have := key _ h3
     have h4 : (m.toks.getD j noTk).num ≤ 0 := this
     rw [beq_eq_false_iff_ne]
     intro hh
     rw [hh] at h4
     omega
   · have e1 : (m.toks.getD j noTk).num = 112 + (i : Int) := congrArg (fun v => v.2.2) e
     have hb := h.b i hi
     have : ¬ i = k % 4 := fun hh => hk (by rw [← hh]; exact hi)
     rw [e1, beq_eq_false_iff_ne]
     omega
theorem MI.lit_old (h : MI m L) {k : Nat} (hk : k % 4 ∈ L) : 0 ≤ m.tok (litG k) := by
 obtain ⟨j, hj⟩ := List.getElem?_of_mem hk
 have hjl := (List.getElem?_eq_some_iff.1 hj).1
 have hl := h.len
 refine firstN_some (j := 3 + j) (by omega) (by omega) ?_
 have h1 : (m.toks.map tokV)[3 + j]? = some (litV (k % 4)) := by
  rw [h.tk, List.getElem?_append_right (by simp [baseV])]
  have : 3 + j - baseV.length = j := by simp [baseV]
  rw [this, List.getElem?_map, hj]; rfl
 rw [List.getElem?_map] at h1
 obtain ⟨t, ht, e⟩ := Option.map_eq_some_iff.1 h1
 have hg : m.toks.getD (3 + j) noTk = t := by rw [List.getD_eq_getElem?_getD, ht]; rfl
 have e1 : t.name = gLetB (k % 4) := congrArg Prod.fst e
 have e2 : t.lit = true := congrArg (fun v => v.2.1) e
 unfold tokP
 rw [hg, e1, e2]
 show (eqB (gLetB (k % 4)) (gLetB k) && (true == true && !(3 + j == 2))) = true
 rw [let_eq, Nat.mod_mod]
 have : (3 + j == 2) = false := by simp; omega
 simp [this]
theorem MI.err (h : MI m L) : 0 ≤ m.tok (nameG gErrB) := by
 have hl := h.len
 refine firstN_some (j := 1) (Nat.le_refl _) (by omega) ?_
 have h1 : (m.toks.map tokV)[1]? = some (tokV tkErr) := by rw [h.tk]; rfl
 rw [List.getElem?_map] at h1
 obtain ⟨t, ht, e⟩ := Option.map_eq_some_iff.1 h1
 have hg : m.toks.getD 1 noTk = t := by rw [List.getD_eq_getElem?_getD, ht]; rfl
 have e1 : t.name = tkErr.name := congrArg Prod.fst e
 have e2 : t.lit = tkErr.lit := congrArg (fun v => v.2.1) e
 unfold tokP
 rw [hg, e1, e2]
 decide +kernel
theorem MI.non (h : MI m L) {i : Nat} (hi : i < 4) : m.tok ⟨gNonB i, false, 0, 0⟩ = -1 := by
 refine firstN_none (fun j h1 h2 => ?_)
 unfold tokP
 rcases h.at h2 with h3 | ⟨c, hc, e⟩
 · have key : ∀ a : Fin 4, ∀ v ∈ baseV, eqB v.1 (gNonB a.val) = false := by decide +kernel
   have := key ⟨i, hi⟩ _ h3
   show (eqB (m.toks.getD j noTk).name (gNonB i) && _) = false
   rw [show eqB (m.toks.getD j noTk).name (gNonB i) = false from this]
   rfl
 · have e2 : (m.toks.getD j noTk).lit = true := congrArg (fun v => v.2.1) e
   rw [e2]
   show (_ && ((true == false) && _)) = false
   simp
theorem MI.put_new (h : MI m L) {k : Nat} (hk : k % 4 ∉ L) : m.put (litG k) = (m.push ⟨gLetB k, true, byte0 (gLetB k), 0, 0, ⟨#[]⟩⟩ true, (m.toks.length : Int)) ∧ MI (m.push ⟨gLetB k, true, byte0 (gLetB k), 0, 0, ⟨#[]⟩⟩ true) (L ++ [k % 4]) := by
 obtain ⟨h1, h2⟩ := h.lit_new hk
 have hp : ¬ 0 ≤ m.tok (litG k) := by rw [h1]; decide
 rw [Mk.put_lit hp rfl, h2]
 refine ⟨rfl, h.e, fun i hi => ?_, ?_, ?_⟩
 · rcases List.mem_append.1 hi with hi | hi
   · exact h.b i hi
   · simp at hi; omega
 · rw [List.nodup_append]
   exact ⟨h.nd, by simp, fun a ha c hc => by simp at hc; subst hc; exact fun e => hk (e ▸ ha)⟩
 · show (m.toks ++ [_]).map tokV = _
   rw [List.map_append, h.tk, List.map_append, List.append_assoc]
   congr 2
   show [(gLetB k, true, byte0 (gLetB k))] = [(gLetB (k % 4), true, 112 + ((k % 4 : Nat) : Int))]
   rw [let_byte, show gLetB (k % 4) = gLetB k by unfold gLetB; rw [Nat.mod_mod]]
theorem MI.put_old (h : MI m L) {k : Nat} (hk : k % 4 ∈ L) : m.put (litG k) = (m, m.tok (litG k)) := Mk.put_old (h.lit_old hk)
end
theorem map_set_same {α β : Type} (l : List α) (i : Nat) (d : α) (f : α → α) (g : α → β) (hf : ∀ x, g (f x) = g x) : (l.set i (f (l.getD i d))).map g = l.map g := by
 apply List.ext_getElem?
 intro j
 rw [List.getElem?_map, List.getElem?_map, List.getElem?_set]
 by_cases e : i = j
 · subst e
   rw [if_pos rfl]
   split
   · rename_i hi
     rw [List.getD_eq_getElem?_getD, List.getElem?_eq_getElem hi]
     simp [hf]
   · rename_i hi
     rw [List.getElem?_eq_none (by omega)]
 · rw [if_neg e]
theorem MI.setTok {m : Mk} {L : List Nat} (h : MI m L) (i : Nat) (f : Tk → Tk) (hf : ∀ k, tokV (f k) = tokV k) : MI (m.setTok i f) L :=
 ⟨h.e, h.b, h.nd, (map_set_same m.toks i noTk f tokV hf).trans h.tk⟩
theorem MI.declare {m : Mk} {L : List Nat} (h : MI m L) {d : Dc} {k : Nat} (hk : k % 4 ∉ L) (hd : d.kind ≠ 5) (ht : d.tag.size = 0) : MI (m.declare d (litG k)) (L ++ [k % 4]) := by
 unfold Mk.declare
 rw [if_neg hd]
 obtain ⟨e, h1⟩ := h.put_new hk
 rw [e]
 simp only
 generalize hM : m.push ⟨gLetB k, true, byte0 (gLetB k), 0, 0, ⟨#[]⟩⟩ true = M at h1 ⊢
 have hlv : (M.toks.getD (m.toks.length : Int).toNat noTk).level = 0 := by
  rw [← hM]
  show ((m.toks ++ [_]).getD _ noTk).level = 0
  rw [Int.toNat_natCast, List.getD_eq_getElem?_getD, List.getElem?_append_right (Nat.le_refl _)]
  simp
 generalize (m.toks.length : Int).toNat = t at hlv ⊢
 have h2 : MI (M.dLevel d.kind (litG k) t) (L ++ [k % 4]) := by
  unfold Mk.dLevel
  split
  · exact h1
  · rw [hlv]
    exact h1.setTok _ _ (fun _ => rfl)
 unfold Mk.dNum
 rw [if_neg (show ¬ 0 < (litG k).num from by show ¬ (0 : Int) < 0; decide)]
 unfold Mk.dTag
 rw [if_pos ht]
 exact h2
theorem nodup_four {L : List Nat} (h : L.Nodup) (hb : ∀ i ∈ L, i < 4) : L.length ≤ 4 := by
 have key : ∀ (n : Nat) (L : List Nat), L.Nodup → (∀ i ∈ L, i < n) → L.length ≤ n := by
  intro n
  induction n with
  | zero => intro L _ hb; cases L with
    | nil => simp
    | cons a l => exact absurd (hb a (by simp)) (by omega)
  | succ n ih =>
    intro L hn hb
    have h1 := ih (L.erase n) (hn.erase n) (fun i hi => by
     have h2 := hb i (List.mem_of_mem_erase hi)
     have h3 : i ≠ n := fun e => by subst e; exact (List.Nodup.mem_erase_iff hn).1 hi |>.1 rfl
     omega)
    have h4 := List.length_erase (a := n) (l := L)
    split at h4 <;> omega
 exact key 4 L h hb
end
end Go.Proofs.Ytkgbifbbpmdpgaa
