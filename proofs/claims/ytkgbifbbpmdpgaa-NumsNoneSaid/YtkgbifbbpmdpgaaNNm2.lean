/- The tokens of a grammar that a source has: their numbers. Of no program but for names. -/
import Derived.Test.YtkgbifbbpmdpgaaNNm1
import Derived.Test.YtkgbifbbpmdpgaaNNmA
import Derived.Test.YtkgbifbbpmdpgaaNREnd
set_option linter.unusedVariables false
set_option linter.unusedSimpArgs false
namespace Go.Proofs.Ytkgbifbbpmdpgaa
section
theorem symN_of {num lit : Bool} {x : Sm} (h : symB num lit x = true) : SymN x := by
 unfold symB at h
 split at h
 · have h2 := of_decide_eq_true h
   refine ⟨fun _ => ?_, by rw [h2.2.2.1]; omega⟩
   have hq := h2.2.2.2
   unfold quotB at hq
   have h3 := of_decide_eq_true hq
   have e : gAt x.name 0 = byte0 x.name := rfl
   rw [e] at h3
   omega
 · rename_i hl
   have h2 := of_decide_eq_true h
   refine ⟨fun e => absurd e hl, ?_⟩
   rcases h2.2 with e | ⟨_, _, e⟩ <;> omega
theorem may_syms {so : So} (h : maySo so = true) : (∀ d ∈ so.decls, ∀ x ∈ d.syms, SymN x) ∧ (∀ r ∈ so.rules, ∀ a ∈ r.alts, AltN a) := by
 simp only [maySo, Bool.and_eq_true, List.all_eq_true, decide_eq_true_eq] at h
 refine ⟨fun d hd x hx => ?_, fun r hr a ha => ⟨fun p hp hc => ?_, fun hc => ?_⟩⟩
 · have := h.2.1 d hd
   simp only [mayDc, Bool.and_eq_true, List.all_eq_true] at this
   exact symN_of (this.2 x hx)
 · have := h.2.2.1 r hr
   simp only [mayRl, Bool.and_eq_true, List.all_eq_true] at this
   have h2 := this.2.2 a ha
   simp only [mayAl, Bool.and_eq_true, List.all_eq_true] at h2
   have h3 := h2.1 p hp
   unfold mayPt at h3
   rw [if_pos hc] at h3
   exact symN_of h3
 · have := h.2.2.1 r hr
   simp only [mayRl, Bool.and_eq_true, List.all_eq_true] at this
   have h2 := this.2.2 a ha
   simp only [mayAl, Bool.and_eq_true, Bool.or_eq_true] at h2
   rcases h2.2 with h3 | h3
   · unfold noneB at h3
     exact absurd (of_decide_eq_true h3).1 hc
   · exact symN_of h3
theorem numI0 : NumI mk0.toks mk0.given := by
 refine ⟨rfl, Nat.le_refl _, fun i hi => ?_, fun i h3 hi => absurd hi (by show ¬ i < 3; omega), fun i h3 hi => absurd hi (by show ¬ i < 3; omega), fun i j h3 h4 hi => absurd hi (by show ¬ j < 3; omega)⟩
 match i, hi with
 | 0, _ => exact (by decide)
 | 1, _ => exact (by decide)
 | 2, _ => exact (by decide)
theorem ofA_num {so : So} (h : maySo so = true) : NumJ (ofA so) := by
 obtain ⟨hd, hr⟩ := may_syms h
 have h1 : NumJ (ofD so).1 := NumJ.dclTo (ds := so.decls) (s := (mk0, ⟨#[]⟩)) (fun _ => numI0) hd so.decls.length (Nat.le_refl _)
 have h2 : NumJ (ofR so) := NumJ.ruTo h1 _
 have h3 : NumJ (ofT so) := NumJ.tydTo h2 _
 exact NumJ.rulTo (m := ofF so) h3 hr _ (Nat.le_refl _)
structure NumK (t0 : List Tk) (gs : List Bool) (ts : List Tk) (nx : Int) (j : Nat) : Prop where
 len : ts.length = t0.length
 old : ∀ i, (i < 3 ∨ 3 + j ≤ i ∨ gs.getD i false = true) → nmAt ts i = nmAt t0 i
 new : ∀ i, 3 ≤ i → i < 3 + j → gs.getD i false = false → 57346 ≤ nmAt ts i ∧ nmAt ts i < nx
 ne : ∀ i k, 3 ≤ i → i < k → k < 3 + j → gs.getD i false = false → gs.getD k false = false → nmAt ts i ≠ nmAt ts k
 nx0 : 57346 ≤ nx
theorem numTo_k (m : Mk) (hm : 3 ≤ m.toks.length) : ∀ j, 3 + j ≤ m.toks.length → NumK m.toks m.given (numTo m 57346 j).1.toks (numTo m 57346 j).2 j
 | 0, _ => ⟨rfl, fun i _ => rfl, fun i h1 h2 => absurd h2 (by omega), fun i k h1 h2 h3 => absurd h3 (by omega), Int.le_refl _⟩
 | j + 1, hj => by
   have hk := numTo_k m hm j (by omega)
   have hg := (numTo_len m 57346 j).2.1
   show NumK _ _ (numSt (3 + j) (numTo m 57346 j)).1.toks (numSt (3 + j) (numTo m 57346 j)).2 (j + 1)
   unfold numSt
   rw [hg]
   generalize numTo m 57346 j = s at hk ⊢
   obtain ⟨len, old, new, ne, nx0⟩ := hk
   split
   · rename_i hgi
     have hx : ∀ i, i < 3 + (j + 1) → m.given.getD i false = false → i < 3 + j := fun i h1 h2 => by
      rcases Nat.lt_or_ge i (3 + j) with e | e
      · exact e
      · have e2 : i = 3 + j := by omega
        rw [e2, hgi] at h2; cases h2
     exact ⟨len, fun i hi => old i (hi.imp id (fun h => h.imp (fun h => by omega) id)), fun i h1 h2 h3 => new i h1 (hx i h2 h3) h3,
      fun i k h1 h2 h3 h4 h5 => ne i k h1 h2 (hx k h3 h5) h4 h5, nx0⟩
   · rename_i hgi
     have hgi2 : m.given.getD (3 + j) false = false := by simpa using hgi
     have hs : ∀ i, nmAt (s.1.toks.set (3 + j) { (s.1.toks.getD (3 + j) noTk) with num := s.2 }) i = if i = 3 + j then s.2 else nmAt s.1.toks i := fun i => by
      rw [nmAt_set]
      by_cases e : i = 3 + j
      · rw [if_pos e, if_pos ⟨e, by omega⟩]
      · rw [if_neg e, if_neg (fun h => e h.1)]
     refine ⟨?_, fun i hi => ?_, fun i h1 h2 h3 => ?_, fun i k h1 h2 h3 h4 h5 => ?_, ?_⟩
     · show (s.1.toks.set _ _).length = _
       rw [List.length_set]; exact len
     · show nmAt (s.1.toks.set (3 + j) _) i = _
       rw [hs, if_neg (fun e => by subst e; rw [hgi2] at hi; rcases hi with hi | hi | hi <;> first | omega | cases hi)]
       exact old i (hi.imp id (fun h => h.imp (fun h => by omega) id))
     · show 57346 ≤ nmAt (s.1.toks.set (3 + j) _) i ∧ nmAt (s.1.toks.set (3 + j) _) i < s.2 + 1
       rw [hs]
       split
       · omega
       · have := new i h1 (by omega) h3; omega
     · show nmAt (s.1.toks.set (3 + j) _) i ≠ nmAt (s.1.toks.set (3 + j) _) k
       rw [hs, hs]
       by_cases ek : k = 3 + j
       · rw [if_neg (by omega), if_pos ek]
         have := new i h1 (by omega) h4; omega
       · rw [if_neg (by omega), if_neg ek]
         exact ne i k h1 h2 (by omega) h4 h5
     · show 57346 ≤ s.2 + 1
       omega
structure NumW (ts : List Tk) : Prop where
 t3 : 3 ≤ ts.length
 lo : ∀ i, i < 3 → nmAt ts i ≤ 0
 hi : ∀ i, 3 ≤ i → i < ts.length → 1 ≤ nmAt ts i
 ne : ∀ i k, 3 ≤ i → i < k → k < ts.length → nmAt ts i ≠ nmAt ts k
theorem ofK_num {so : So} (h : maySo so = true) (he : (ofA so).e = 0) : NumW (ofK so).toks := by
 have hI := ofA_num h he
 have hk := numTo_k (ofA so) hI.t3 ((ofA so).toks.length - 3) (by have := hI.t3; omega)
 unfold ofK
 generalize numTo (ofA so) 57346 ((ofA so).toks.length - 3) = s at hk ⊢
 generalize (ofA so).toks = t0 at hI hk
 generalize (ofA so).given = gs at hI hk
 obtain ⟨len, old, new, ne, nx0⟩ := hk
 have h3 := hI.t3
 have key : ∀ i, 3 ≤ i → i < s.1.toks.length → (gs.getD i false = true ∧ nmAt s.1.toks i = nmAt t0 i ∧ 1 ≤ nmAt t0 i ∧ nmAt t0 i ≤ 50000) ∨ (gs.getD i false = false ∧ 57346 ≤ nmAt s.1.toks i) := fun i h1 h2 => by
  cases hg : gs.getD i false with
  | true => exact .inl ⟨rfl, old i (.inr (.inr hg)), hI.hi i h1 (by omega) hg⟩
  | false => exact .inr ⟨rfl, (new i h1 (by omega) hg).1⟩
 refine ⟨by omega, fun i hi => by rw [old i (.inl hi)]; exact hI.lo i hi, fun i h1 h2 => ?_, fun i k h1 h2 h4 => ?_⟩
 · rcases key i h1 h2 with h | h <;> omega
 · rcases key i h1 (by omega) with ⟨g1, a1, a2, a3⟩ | ⟨g1, a1⟩
   · rcases key k (by omega) h4 with ⟨g2, b1, b2, b3⟩ | ⟨g2, b1⟩
     · rw [a1, b1]; exact hI.ne i k h1 h2 (by omega) g1 g2
     · omega
   · rcases key k (by omega) h4 with ⟨g2, b1, b2, b3⟩ | ⟨g2, b1⟩
     · omega
     · exact ne i k h1 h2 (by omega) g1 g2
theorem nums_ok {so : So} (h : okOf so = true) : NumW (gmOf so).toks := by
 have he : (ofAll so).2.1 = 0 := by simpa [okOf] using h
 unfold gmOf
 unfold ofAll at he ⊢
 split at he
 · rename_i hm
   rw [if_pos hm]
   unfold ofG at he ⊢
   by_cases hz : (ofA so).e ≠ 0
   · rw [if_pos hz] at he; exact absurd he hz
   · rw [if_neg hz] at he ⊢
     by_cases hl : ofLong so = true
     · rw [if_pos hl] at he; exact absurd he (by show ¬ (4 : Int) = 0; omega)
     · rw [if_neg hl]
       exact ofK_num hm (by simpa using hz)
 · exact absurd he (by show ¬ (1 : Int) = 0; omega)
def IsNums (ts : List Tk) (l : List (Int × Int)) : Prop := l.Pairwise (fun a b => a.1 < b.1) ∧ ∀ p, p ∈ l ↔ ∃ i : Nat, i < ts.length ∧ 0 < nmAt ts i ∧ p = (nmAt ts i, (i : Int))
theorem strict_eq : ∀ (l k : List (Int × Int)), l.Pairwise (fun a b => a.1 < b.1) → k.Pairwise (fun a b => a.1 < b.1) → (∀ x, x ∈ l ↔ x ∈ k) → l = k
 | [], [], _, _, _ => rfl
 | [], b :: k, _, _, h => absurd ((h b).2 List.mem_cons_self) (by simp)
 | a :: l, [], _, _, h => absurd ((h a).1 List.mem_cons_self) (by simp)
 | a :: l, b :: k, hl, hk, h => by
   rw [List.pairwise_cons] at hl hk
   have e : a = b := by
    rcases List.mem_cons.1 ((h a).1 List.mem_cons_self) with e | e
    · exact e
    · rcases List.mem_cons.1 ((h b).2 List.mem_cons_self) with e2 | e2
      · exact e2.symm
      · have h1 := hk.1 a e; have h2 := hl.1 b e2; omega
   subst e
   refine congrArg (a :: ·) (strict_eq l k hl.2 hk.2 (fun x => ⟨fun hx => ?_, fun hx => ?_⟩))
   · rcases List.mem_cons.1 ((h x).1 (List.mem_cons_of_mem _ hx)) with e | e
     · subst e; exact absurd (hl.1 x hx) (by omega)
     · exact e
   · rcases List.mem_cons.1 ((h x).2 (List.mem_cons_of_mem _ hx)) with e | e
     · subst e; exact absurd (hk.1 x hx) (by omega)
     · exact e
theorem IsNums.eq {ts : List Tk} {l k : List (Int × Int)} (hl : IsNums ts l) (hk : IsNums ts k) : l = k := strict_eq l k hl.1 hk.1 (fun x => (hl.2 x).trans (hk.2 x).symm)
end
section
open Go.RowKit Go.Sort
theorem cmpI_lt (x y : Int) : cmpI x y < 0 ↔ x < y := by unfold cmpI; split <;> (try split) <;> constructor <;> intro <;> omega
theorem cmpI_eq (x y : Int) : cmpI x y = 0 ↔ x = y := by unfold cmpI; split <;> (try split) <;> constructor <;> intro <;> omega
theorem strict_le {l : List (Int × Int)} (h : l.Pairwise (fun a b => a.1 < b.1)) {a b : Nat} (hab : a ≤ b) (hb : b < l.length) : (l.getD a (0, 0)).1 ≤ (l.getD b (0, 0)).1 := by
 rw [List.getD_eq_getElem?_getD, List.getD_eq_getElem?_getD, List.getElem?_eq_getElem (by omega), List.getElem?_eq_getElem hb]
 by_cases e : a = b
 · subst e; exact Int.le_refl _
 · have := List.pairwise_iff_getElem.1 h a b (by omega) hb (by omega)
   exact Int.le_of_lt this
def AtN (l : List (Int × Int)) (n : Int) (c : Nat) : Prop := c ≤ l.length ∧ (∀ t, t < c → (l.getD t (0, 0)).1 < n) ∧ (∀ t, c ≤ t → t < l.length → n ≤ (l.getD t (0, 0)).1)
def fndB (l : List (Int × Int)) (n : Int) (c : Nat) : Bool := decide (c < l.length ∧ (l.getD c (0, 0)).1 = n)
set_option maxRecDepth 100000 in
set_option maxHeartbeats 4000000 in
theorem bsearch_any {v : Value} {l : List (Int × Int)} {w : World} (h : NmsV w v l) (hs : l.Pairwise (fun a b => a.1 < b.1)) (hl : l.length ≤ 1000000) (n : Int) :
  Calls Try.prog 41 #[v, .agg #[.int .i64 n, .int .i64 0], .func (.func 40) #[] #[]] w fun e w' => ∃ c : Nat, AtN l n c ∧ e = .returned (.tuple #[.int .i64 c, .bool (fndB l n c)]) ∧ Below w.heap.size w w' := by
 have HM := Lib.hid (fun a b => @strict_le l hs a b)
 obtain ⟨a, m, cp, rfl, hn, hnc, hcm, hx⟩ := h.open
 have hb1 := (Below.refl w.heap.size w).alloc (Nat.le_refl _) (.cells #[.int .i64 n, .int .i64 0] 60)
 have hrb := heap_alloc_new w (.cells #[.int .i64 n, .int .i64 0] 60)
 have HT := Lib.hid (fun (X : World) (hX : Below (w.alloc (.cells #[.int .i64 n, .int .i64 0] 60)).heap.size (w.alloc (.cells #[.int .i64 n, .int .i64 0] 60)) X) => (hX.block w.heap.size (by simp)).trans hrb)
 have HX : Hid (∀ i, i < m → ∃ b o, a = some ⟨b, o, none⟩ ∧ ∀ X, Below w.heap.size w X → X.cell? ⟨b, o + i * 2, none⟩ = some (.int .i64 (l.getD i (0, 0)).1) ∧ X.cell? ⟨b, o + i * 2 + 1, none⟩ = some (.int .i64 (l.getD i (0, 0)).2)) := Lib.hid (fun i hi => by
  obtain ⟨b, o, e, y0, y1⟩ := hx.out i hi
  exact ⟨b, o, e, fun X hX => ⟨(hX.cell (World.block_lt_of_cell? _ _ y0)).trans y0, (hX.cell (World.block_lt_of_cell? _ _ y1)).trans y1⟩⟩)
 have hlen := hn.out
 rw [← hlen] at hl
 have hM2 : m ≤ 1000000 := hl
 have hlh := Lib.hid hlen
 clear hn hx h hs hrb hlen hl
 go_enter Try.func41, Try.ntmps41
 go_upto_region 3 with fail
 generalize hw1 : w.alloc (.cells #[.int .i64 n, .int .i64 0] 60) = w1 at *
 clear hw1
 go_loopw [9, 10] (fun x9 x10 X => ∃ lo hi : Nat, x9 = .int .i64 lo ∧ x10 = .int .i64 hi ∧ lo ≤ hi ∧ hi ≤ m ∧ Below w1.heap.size w1 X ∧ Hid ((∀ t, t < lo → (l.getD t (0, 0)).1 < n) ∧ (∀ t, hi ≤ t → t < m → n ≤ (l.getD t (0, 0)).1))) (fun x9 x10 _ => (intOf x10).toNat - (intOf x9).toNat)
 case atStart => exact ⟨0, m, rfl, rfl, Nat.zero_le _, Nat.le_refl _, Below.refl _ _, Lib.hid ⟨fun t ht => absurd ht (Nat.not_lt_zero _), fun t h1 h2 => absurd h2 (by omega)⟩⟩
 case round =>
  obtain ⟨lo, hi, rfl, rfl, hlh1, hhm, hbr, HI⟩ := hrel
  rename World => W
  by_cases hlt : lo < hi
  · have i1 : (lo : Int) < (hi : Int) := by omega
    obtain ⟨q, hq, hq1, hq2⟩ : ∃ q : Nat, ((lo : Int) + (hi : Int)) / 2 = (q : Int) ∧ lo ≤ q ∧ q < hi := ⟨(lo + hi) / 2, by omega, by omega, by omega⟩
    obtain ⟨b, o, rfl, hcs⟩ := HX.out q (by omega)
    obtain ⟨y0, y1⟩ := hcs W (hb1.trans (hbr.mono hb1.size))
    have hT := HT.out W hbr
    have t0 := cell_of_row W _ 0 _ _ _ hT
    have t1 := cell_of_row W _ 1 _ _ _ hT
    simp only [List.getElem?_toArray, List.getElem?_cons_succ, List.getElem?_cons_zero] at t0 t1
    have i2 : q < m := by omega
    have i2' : (q : Int) < (m : Int) := by omega
    clear hT HX HT hcs
    generalize hp1 : (l.getD q (0, 0)).1 = p1 at y0
    generalize (l.getD q (0, 0)).2 = p2 at y1
    have HP := Lib.hid hp1
    clear hp1
    go_upto_region 5 with fail
    have v0 := over_cell y0
    have v1 := over_cell y1
    have v2 := over_cell t0
    have v3 := over_cell t1
    have HC := Lib.hid (fun (V : World) => byNum_below (p1, p2) (n, 0) (over W V))
    have HL := Lib.hid (cmpI_lt p1 n)
    simp only at HC
    generalize cmpI p1 n = r at HC HL
    clear y0 y1 t0 t1 hq
    refine wp_region_over (by kernel_rfl) (by kernel_rfl) ?_
    repeat (first | go_big_quiet_skip | (go_big_quiet_want; go_big_quiet_op; first | go_big_quiet_on | (apply Exists.intro; refine ⟨fun _ => ?_, ?_⟩; (first | (go_at_call 40; exact calls_over (HC.out _) (fun e w1 h => h))); go_big_quiet_on)))
    refine wpQuiet_nil ?_
    intro _ hw'
    obtain ⟨V9, hw''⟩ := hw'
    subst hw''
    have hz := over_below W V9
    generalize over W V9 = W2 at hz ⊢
    have hb2 := hbr.trans (hz.mono hbr.size)
    clear v0 v1 v2 v3 HC
    by_cases hr : r < 0
    · have HI2 : Hid ((∀ t, t < q + 1 → (l.getD t (0, 0)).1 < n) ∧ (∀ t, hi ≤ t → t < m → n ≤ (l.getD t (0, 0)).1)) := Lib.hid ⟨fun t ht => by
       have h1 := HM.out t q (by omega) (by have := hlh.out; omega)
       have h2 := HL.out.1 hr
       rw [HP.out] at h1
       omega, HI.out.2⟩
      clear HM HL HP HI hlh
      go_wp2_with fail
      go_round
      case rel => exact ⟨q + 1, hi, by go_num, rfl, by omega, hhm, hb2, HI2⟩
      case measure => simp [intOf]; omega
    · have HI2 : Hid ((∀ t, t < lo → (l.getD t (0, 0)).1 < n) ∧ (∀ t, q ≤ t → t < m → n ≤ (l.getD t (0, 0)).1)) := Lib.hid ⟨HI.out.1, fun t ht h3 => by
       have h1 := HM.out q t ht (by have := hlh.out; omega)
       have h2 : ¬ p1 < n := fun e => hr (HL.out.2 e)
       rw [HP.out] at h1
       omega⟩
      clear HM HL HP HI hlh
      go_wp2_with fail
      go_round
      case rel => exact ⟨lo, q, rfl, rfl, hq1, by omega, hb2, HI2⟩
      case measure => simp [intOf]; omega
  · obtain rfl : hi = lo := by omega
    have i1 : ¬ (hi : Int) < (hi : Int) := by omega
    have hA : AtN l n hi := ⟨by have := hlh.out; omega, HI.out.1, fun t h1 h2 => HI.out.2 t h1 (by have := hlh.out; omega)⟩
    have HA := Lib.hid hA
    by_cases hin : hi < m
    · have i2 : (hi : Int) < (m : Int) := by omega
      obtain ⟨b, o, rfl, hcs⟩ := HX.out hi hin
      obtain ⟨y0, y1⟩ := hcs W (hb1.trans (hbr.mono hb1.size))
      have hT := HT.out W hbr
      have t0 := cell_of_row W _ 0 _ _ _ hT
      have t1 := cell_of_row W _ 1 _ _ _ hT
      simp only [List.getElem?_toArray, List.getElem?_cons_succ, List.getElem?_cons_zero] at t0 t1
      have HD : Hid (fndB l n hi = (cmpI (l.getD hi (0, 0)).1 n == 0)) := Lib.hid (by
       have h2 := cmpI_eq (l.getD hi (0, 0)).1 n
       have h3 : hi < l.length := by have := hlh.out; omega
       unfold fndB
       rw [Bool.eq_iff_iff, decide_eq_true_iff, beq_iff_eq, h2]
       exact ⟨fun h => h.2, fun h => ⟨h3, h⟩⟩)
      clear hT HX HT hcs hA HI HM hlh
      generalize hp1 : (l.getD hi (0, 0)).1 = p1 at y0 HD
      generalize (l.getD hi (0, 0)).2 = p2 at y1
      have HP := Lib.hid hp1
      clear hp1
      go_upto_region 8 with fail
      have v0 := over_cell y0
      have v1 := over_cell y1
      have v2 := over_cell t0
      have v3 := over_cell t1
      have HC := Lib.hid (fun (V : World) => byNum_below (p1, p2) (n, 0) (over W V))
      simp only at HC
      generalize cmpI p1 n = r at HC HD
      clear y0 y1 t0 t1
      refine wp_region_over (by kernel_rfl) (by kernel_rfl) ?_
      repeat (first | go_big_quiet_skip | (go_big_quiet_want; go_big_quiet_op; first | go_big_quiet_on | (apply Exists.intro; refine ⟨fun _ => ?_, ?_⟩; (first | (go_at_call 40; exact calls_over (HC.out _) (fun e w1 h => h))); go_big_quiet_on)))
      refine wpQuiet_nil ?_
      intro _ hw'
      obtain ⟨V9, hw''⟩ := hw'
      subst hw''
      have hz := over_below W V9
      generalize over W V9 = W2 at hz ⊢
      have hb2 := hbr.trans (hz.mono hbr.size)
      go_wp2_with fail
      go_ret2
      exact ⟨hi, HA.out, by rw [HD.out]; rfl, hb1.trans (hb2.mono hb1.size)⟩
    · have i2 : ¬ (hi : Int) < (m : Int) := by omega
      have i3 : decide ((hi : Int) < (m : Int)) = false := decide_eq_false i2
      have HD : Hid (fndB l n hi = false) := Lib.hid (decide_eq_false (fun h => hin (by have := hlh.out; omega)))
      clear HX HT hA HI HM hlh
      go_upto_region 8 with fail
      refine wp_region_over (by kernel_rfl) (by kernel_rfl) ?_
      repeat (first | go_big_quiet_skip | (go_big_quiet_want; go_big_quiet_op; first | go_big_quiet_on | fail))
      refine wpQuiet_nil ?_
      intro _ hw'
      obtain ⟨V9, hw''⟩ := hw'
      subst hw''
      have hz := over_below W V9
      generalize over W V9 = W2 at hz ⊢
      have hb2 := hbr.trans (hz.mono hbr.size)
      go_wp2_with fail
      go_ret2
      exact ⟨hi, HA.out, by rw [HD.out]; rfl, hb1.trans (hb2.mono hb1.size)⟩
end
end Go.Proofs.Ytkgbifbbpmdpgaa
