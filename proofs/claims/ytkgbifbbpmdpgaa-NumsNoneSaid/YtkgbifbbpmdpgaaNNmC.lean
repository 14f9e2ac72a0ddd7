/- The token of a number, by the list; the document's own search. -/
import Derived.Test.YtkgbifbbpmdpgaaNNm2
import Derived.Test.YtkgbifbbpmdpgaaNPr1
set_option linter.unusedVariables false
set_option linter.unusedSimpArgs false
namespace Go.Proofs.Ytkgbifbbpmdpgaa
section
open Go.RowKit
def tokL (l : List (Int × Int)) (n : Int) : Int := if n ≤ 0 then 0 else match l.find? (fun p => p.1 == n) with | none => 2 | some p => p.2
theorem find_hit {l : List (Int × Int)} {n : Int} {c : Nat} (h : AtN l n c) (hf : fndB l n c = true) : l.find? (fun p => p.1 == n) = some (l.getD c (0, 0)) := by
 have h2 := of_decide_eq_true hf
 rw [List.find?_eq_some_iff_getElem]
 refine ⟨by rw [beq_iff_eq]; exact h2.2, c, h2.1, by simp [List.getD_eq_getElem?_getD, h2.1], fun j hj => ?_⟩
 have h3 := h.2.1 j hj
 rw [List.getD_eq_getElem?_getD, List.getElem?_eq_getElem (by omega)] at h3
 have h4 : (l[j]'(by omega)).1 < n := h3
 simp only [Bool.not_eq_true', beq_eq_false_iff_ne]
 omega
theorem find_miss {l : List (Int × Int)} {n : Int} {c : Nat} (h : AtN l n c) (hs : l.Pairwise (fun a b => a.1 < b.1)) (hf : fndB l n c = false) : l.find? (fun p => p.1 == n) = none := by
 rw [List.find?_eq_none]
 intro p hp he
 have he2 : p.1 = n := by simpa using he
 obtain ⟨i, hi, e⟩ := List.getElem_of_mem hp
 have hg : ∀ k (hk : k < l.length), (l.getD k (0, 0)) = l[k] := fun k hk => by rw [List.getD_eq_getElem?_getD, List.getElem?_eq_getElem hk]; rfl
 by_cases hc : i < c
 · have := h.2.1 i hc
   rw [hg i hi, e] at this; omega
 · have hcl : c < l.length := by omega
   have h1 := h.2.2 c (Nat.le_refl _) hcl
   have h2 := strict_le hs (show c ≤ i by omega) hi
   rw [hg i hi, e] at h2
   have : fndB l n c = true := decide_eq_true ⟨hcl, by omega⟩
   rw [this] at hf; cases hf
set_option maxRecDepth 100000 in
set_option maxHeartbeats 4000000 in
theorem numTok_any {v : Value} {l : List (Int × Int)} {w : World} (h : NmsV w v l) (hs : l.Pairwise (fun a b => a.1 < b.1)) (hl : l.length ≤ 1000000) (n : Int) :
  Calls Try.prog 25 #[v, .int .i64 n] w fun e w' => e = .returned (.int .i64 (tokL l n)) ∧ Below w.heap.size w w' := by
 have HB := Lib.hid (fun (X : World) (hX : Below w.heap.size w X) => bsearch_any (h.below hX) hs hl n)
 have HH := Lib.hid (fun c => @find_hit l n c)
 have HM := Lib.hid (fun c (ha : AtN l n c) => @find_miss l n c ha hs)
 have HT : Hid (tokL l n = if n ≤ 0 then 0 else match l.find? (fun p => p.1 == n) with | none => 2 | some p => p.2) := Lib.hid rfl
 obtain ⟨a, m, cp, rfl, hn, hnc, hcm, hx⟩ := h.open
 clear h hs
 generalize tokL l n = r at HT ⊢
 by_cases i1 : n ≤ 0
 · rw [if_pos i1] at HT
   go_enter Try.func25, Try.ntmps25
   go_wp2_with fail
   go_ret
   exact ⟨by rw [HT.out] <;> rfl, Below.refl _ _⟩
 · rw [if_neg i1] at HT
   go_enter Try.func25, Try.ntmps25
   go_upto_region 4 with (first | (go_at_call 41; (with_reducible refine (HB.out _ (Below.refl _ _)).mono ?_); rintro e w2 ⟨c, hA, rfl, hb2⟩))
   have H1 := HH.out c hA
   have H2 := HM.out c hA
   have H3 : fndB l n c = true → c < m := fun hf => by have := (of_decide_eq_true hf).1; have := hn.out; omega
   clear HB HH HM hA
   generalize fndB l n c = bb at *
   cases bb with
   | true =>
     have hcm2 := H3 rfl
     have H4 := H1 rfl
     rw [H4] at HT
     simp only at HT
     obtain ⟨b, o, rfl, y0, y1⟩ := hx.out c hcm2
     have i2 : (c : Int) < (m : Int) := by omega
     have e1 := (hb2.cell (World.block_lt_of_cell? _ _ y1)).trans y1
     clear y0 y1 H1 H2 H3 H4 hx
     generalize (l.getD c (0, 0)).2 = p2 at *
     go_wp2_with fail
     go_ret
     exact ⟨by rw [HT.out] <;> rfl, hb2⟩
   | false =>
     rw [H2 rfl] at HT
     simp only at HT
     clear H1 H2 H3 hx
     go_wp2_with fail
     go_ret
     exact ⟨by rw [HT.out] <;> rfl, hb2⟩
def tokN (ts : List Tk) (n : Int) : Int := if n ≤ 0 then 0 else if firstN (ownP ts n) ts.length 0 < 0 then 2 else firstN (ownP ts n) ts.length 0
set_option maxRecDepth 100000 in
set_option maxHeartbeats 4000000 in
theorem refTok_any {w : World} {t n p : Option Addr} {n1 c1 n2 c2 n3 c3 : Nat} {pr tl : ByteArray} {g : Gm} (h : GmO w t n p n1 c1 n2 c2 n3 c3 pr tl g) (q : Int) :
  Calls Try.prog 26 #[(.agg #[.slice t n1 c1, .slice n n2 c2, .slice p n3 c3, .string pr, .string tl]), .int .i64 q] w fun e w' => e = .returned (.int .i64 (tokN g.toks q)) ∧ Below w.heap.size w w' := by
 have HT : Hid (tokN g.toks q = if q ≤ 0 then 0 else if firstN (ownP g.toks q) g.toks.length 0 < 0 then 2 else firstN (ownP g.toks q) g.toks.length 0) := Lib.hid rfl
 obtain ⟨a1, l1, d1, e1, hl1, hd1, hm1, hx1⟩ := h.tk.open
 cases e1
 have hbx := ofMade w #[(.slice t n1 c1 : Value), .slice n n2 c2, .slice p n3 c3, .string pr, .string tl] 38 w.heap.size rfl
 have hb1 := (Below.refl w.heap.size w).alloc (Nat.le_refl _) (.cells #[.slice t n1 c1, .slice n n2 c2, .slice p n3 c3, .string pr, .string tl] 38)
 have g0 := cell_of_row _ _ 0 _ _ _ hbx
 simp only [List.getElem?_toArray, List.getElem?_cons_succ, List.getElem?_cons_zero] at g0
 rw [← hl1.out] at HT
 have HO : Hid (∀ i, ownP g.toks q i = (nmAt g.toks i == q)) := Lib.hid (fun i => rfl)
 have HY : Hid (∀ i, i < n1 → ∃ b o, t = some ⟨b, o, none⟩ ∧ w.cell? ⟨b, o + i * 6 + 2, none⟩ = some (.int .i64 (nmAt g.toks i))) := Lib.hid (fun i hi => by
  obtain ⟨b, o, e, y0, y1, y2, y3, y4, y5⟩ := hx1.out i hi
  exact ⟨b, o, e, y2⟩)
 clear h hx1 hl1 hbx
 generalize tokN g.toks q = r at HT ⊢
 by_cases i1 : q ≤ 0
 · rw [if_pos i1] at HT
   go_enter Try.func26, Try.ntmps26
   go_wp2_with fail
   go_ret
   exact ⟨by rw [HT.out] <;> rfl, hb1⟩
 · rw [if_neg i1] at HT
   go_enter Try.func26, Try.ntmps26
   go_wp2_with fail
   go_loop [5] (fun x5 => ∃ k : Nat, k ≤ n1 ∧ x5 = .int .i64 k ∧ Hid (firstN (ownP g.toks q) n1 0 = firstN (ownP g.toks q) n1 k)) (fun x5 => n1 - (intOf x5).toNat)
   case atStart => exact ⟨0, Nat.zero_le _, rfl, Lib.hid rfl⟩
   case round =>
    obtain ⟨k, hk, rfl, HF⟩ := hrel
    by_cases hlt : k < n1
    · have i2 : (k : Int) < (n1 : Int) := by omega
      obtain ⟨b, o, rfl, y2⟩ := HY.out k hlt
      have e2 := (hb1.cell (World.block_lt_of_cell? _ _ y2)).trans y2
      have HOk := HO.out k
      generalize nmAt g.toks k = p1 at *
      by_cases he : p1 = q
      · subst he
        have i3 : (p1 == p1) = true := by simp
        rw [i3] at HOk
        have HR : Hid (r = (k : Int)) := Lib.hid (by rw [HT.out, HF.out, firstN_hit _ hlt HOk]; rw [if_neg (by omega)])
        clear HT HF HO HOk HY
        go_wp2_with fail
        go_ret
        exact ⟨by rw [HR.out] <;> rfl, hb1⟩
      · have i3 : (p1 == q) = false := by rw [beq_eq_false_iff_ne]; exact he
        rw [i3] at HOk
        have HF2 := Lib.hid (HF.out.trans (firstN_miss _ hlt HOk))
        clear HF HOk HY
        go_wp2_with fail
        go_round
        case rel => exact ⟨k + 1, by omega, by go_num, HF2⟩
        case measure => simp [intOf]; omega
    · have i2 : ¬ (k : Int) < (n1 : Int) := by omega
      have HR : Hid (r = 2) := Lib.hid (by rw [HT.out, HF.out, firstN_out _ (show n1 ≤ k by omega)]; rfl)
      clear HT HF HO HY
      go_wp2_with fail
      go_ret
      exact ⟨by rw [HR.out] <;> rfl, hb1⟩
end
section
def pairsTo (ts : List Tk) : Nat → List (Int × Int)
 | 0 => []
 | k + 1 => if 0 < nmAt ts k then pairsTo ts k ++ [(nmAt ts k, (k : Int))] else pairsTo ts k
theorem mem_pairsTo {ts : List Tk} {p : Int × Int} : ∀ k, p ∈ pairsTo ts k ↔ ∃ i : Nat, i < k ∧ 0 < nmAt ts i ∧ p = (nmAt ts i, (i : Int))
 | 0 => ⟨fun h => (by cases h), fun h => by obtain ⟨i, h1, _⟩ := h; exact absurd h1 (Nat.not_lt_zero _)⟩
 | k + 1 => by
   have ih := mem_pairsTo (ts := ts) (p := p) k
   unfold pairsTo
   split
   · rename_i hp
     rw [List.mem_append, ih, List.mem_singleton]
     constructor
     · rintro (⟨i, h1, h2, h3⟩ | h)
       · exact ⟨i, by omega, h2, h3⟩
       · exact ⟨k, by omega, hp, h⟩
     · rintro ⟨i, h1, h2, h3⟩
       by_cases e : i = k
       · subst e; exact .inr h3
       · exact .inl ⟨i, by omega, h2, h3⟩
   · rename_i hp
     rw [ih]
     constructor
     · rintro ⟨i, h1, h2, h3⟩; exact ⟨i, by omega, h2, h3⟩
     · rintro ⟨i, h1, h2, h3⟩
       by_cases e : i = k
       · subst e; exact absurd h2 hp
       · exact ⟨i, by omega, h2, h3⟩
theorem NumW.pos {ts : List Tk} (h : NumW ts) {i : Nat} (hp : 0 < nmAt ts i) : 3 ≤ i := by
 by_cases e : i < 3
 · have := h.lo i e; omega
 · omega
theorem NumW.inj {ts : List Tk} (h : NumW ts) {i k : Nat} (hi : i < ts.length) (hk : k < ts.length) (hp : 0 < nmAt ts i) (e : nmAt ts i = nmAt ts k) : i = k := by
 have h1 := h.pos hp
 have h2 := h.pos (i := k) (by omega)
 rcases Nat.lt_trichotomy i k with hlt | heq | hlt
 · exact absurd e (h.ne i k h1 hlt hk)
 · exact heq
 · exact absurd e.symm (h.ne k i h2 hlt hi)
theorem pairsTo_ne {ts : List Tk} (h : NumW ts) : ∀ k, k ≤ ts.length → (pairsTo ts k).Pairwise (fun a b => a.1 ≠ b.1)
 | 0, _ => List.Pairwise.nil
 | k + 1, hk => by
   have ih := pairsTo_ne h k (by omega)
   unfold pairsTo
   split
   · rename_i hp
     rw [List.pairwise_append]
     refine ⟨ih, List.pairwise_singleton _ _, fun a ha b hb => ?_⟩
     rw [List.mem_singleton] at hb
     subst hb
     obtain ⟨i, h1, h2, h3⟩ := (mem_pairsTo k).1 ha
     subst h3
     exact fun e => absurd (h.inj (by omega) (by omega) h2 e) (by omega)
   · exact ih
theorem pairsTo_len {ts : List Tk} (h : NumW ts) : ∀ k, 3 + k ≤ ts.length → (pairsTo ts (3 + k)).length = k
 | 0, _ => by
   have h0 := h.lo 0 (by omega); have h1 := h.lo 1 (by omega); have h2 := h.lo 2 (by omega)
   show (pairsTo ts 3).length = 0
   simp [pairsTo, show ¬ 0 < nmAt ts 0 by omega, show ¬ 0 < nmAt ts 1 by omega, show ¬ 0 < nmAt ts 2 by omega]
 | k + 1, hk => by
   have ih := pairsTo_len h k (by omega)
   have hp := h.hi (3 + k) (by omega) (by omega)
   show (pairsTo ts ((3 + k) + 1)).length = _
   unfold pairsTo
   rw [if_pos (by omega), List.length_append, ih]
   rfl
theorem pairsTo_all {ts : List Tk} (h : NumW ts) : (pairsTo ts ts.length).length = ts.length - 3 := by
 have h3 := h.t3
 have := pairsTo_len h (ts.length - 3) (by omega)
 rwa [show 3 + (ts.length - 3) = ts.length by omega] at this
theorem pairsTo_le (ts : List Tk) : ∀ k, (pairsTo ts k).length ≤ k
 | 0 => Nat.le_refl _
 | k + 1 => by
   have := pairsTo_le ts k
   unfold pairsTo
   split
   · rw [List.length_append, List.length_singleton]; omega
   · omega
theorem isNums_of {ts : List Tk} (h : NumW ts) {l : List (Int × Int)} (hp : l.Perm (pairsTo ts ts.length)) (hs : ∀ i j, i < j → j < l.length → (l.getD i (0, 0)).1 ≤ (l.getD j (0, 0)).1) : IsNums ts l := by
 refine ⟨?_, fun p => (hp.mem_iff).trans (mem_pairsTo _)⟩
 have hne : l.Pairwise (fun a b => a.1 ≠ b.1) := (hp.pairwise_iff (fun {a b} e e2 => e e2.symm)).2 (pairsTo_ne h _ (Nat.le_refl _))
 rw [List.pairwise_iff_getElem] at hne ⊢
 intro i j hi hj hij
 have h1 := hne i j hi hj hij
 have h2 := hs i j hij hj
 rw [List.getD_eq_getElem?_getD, List.getD_eq_getElem?_getD, List.getElem?_eq_getElem hi, List.getElem?_eq_getElem hj] at h2
 have h3 : l[i].1 ≤ l[j].1 := h2
 omega
theorem tok_same {ts : List Tk} (h : NumW ts) {l : List (Int × Int)} (hl : IsNums ts l) (n : Int) : tokL l n = tokN ts n := by
 unfold tokL tokN
 by_cases hn : n ≤ 0
 · rw [if_pos hn, if_pos hn]
 · rw [if_neg hn, if_neg hn]
   rcases firstN_lt (ownP ts n) ts.length 0 with e | ⟨k, e, h1, h2, h3⟩
   · rw [e, if_pos (by omega)]
     have : l.find? (fun p => p.1 == n) = none := by
      rw [List.find?_eq_none]
      intro p hp hq
      obtain ⟨i, hi, hpos, hpe⟩ := (hl.2 p).1 hp
      subst hpe
      have hq2 : nmAt ts i = n := by simpa using hq
      have := firstN_none' (p := ownP ts n) (n := ts.length) (i := 0) (by omega) (Nat.zero_le i) hi
      unfold ownP at this
      rw [show (ts.getD i noTk).num = n from hq2] at this
      simp at this
     rw [this]
   · rw [e, if_neg (by omega)]
     have hk : nmAt ts k = n := eq_of_beq h3
     have hm : (n, (k : Int)) ∈ l := (hl.2 _).2 ⟨k, h2, by omega, by rw [hk]⟩
     cases hf : l.find? (fun p => p.1 == n) with
     | none =>
       rw [List.find?_eq_none] at hf
       exact absurd (hf _ hm) (by simp)
     | some p =>
       have h4 := List.mem_of_find?_eq_some hf
       have h5 : p.1 = n := by have := List.find?_some hf; simpa using this
       obtain ⟨i, hi, hpos, hpe⟩ := (hl.2 p).1 h4
       subst hpe
       have h6 : nmAt ts i = n := h5
       have := h.inj hi h2 hpos (h6.trans hk.symm)
       subst this
       rfl
theorem tokN_own {ts : List Tk} (h : NumW ts) {i : Nat} (h3 : 3 ≤ i) (hi : i < ts.length) : tokN ts (nmAt ts i) = (i : Int) := by
 have hp := h.hi i h3 hi
 unfold tokN
 rw [if_neg (by omega)]
 rcases firstN_lt (ownP ts (nmAt ts i)) ts.length 0 with e | ⟨k, e, h1, h2, h4⟩
 · have := firstN_none' (p := ownP ts (nmAt ts i)) (n := ts.length) (i := 0) (by omega) (Nat.zero_le i) hi
   unfold ownP nmAt at this
   simp at this
 · rw [e, if_neg (by omega)]
   have hk : nmAt ts k = nmAt ts i := eq_of_beq h4
   rw [h.inj hi h2 (by omega) hk.symm]
end
end Go.Proofs.Ytkgbifbbpmdpgaa
