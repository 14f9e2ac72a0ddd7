/- The document's Nums. -/
import Derived.Test.YtkgbifbbpmdpgaaNNmLay
import Derived.Test.YtkgbifbbpmdpgaaNPut
import Derived.BigQuiet
set_option linter.unusedVariables false
set_option linter.unusedSimpArgs false
namespace Go.Proofs.Ytkgbifbbpmdpgaa

open Go.RowKit Go.Sort
def innTo24 (ts : List Tk) (y : Int) : Nat → List (Int × Int)
 | 0 => []
 | k + 1 => if nmAt ts k = y then innTo24 ts y k ++ [(y, (k : Int))] else innTo24 ts y k
theorem mem_inn {ts : List Tk} {y : Int} {p : Int × Int} : ∀ k, p ∈ innTo24 ts y k ↔ ∃ i : Nat, i < k ∧ nmAt ts i = y ∧ p = (y, (i : Int))
 | 0 => ⟨fun h => (by cases h), fun h => by obtain ⟨i, h1, _⟩ := h; exact absurd h1 (Nat.not_lt_zero _)⟩
 | k + 1 => by
   have ih := mem_inn (ts := ts) (y := y) (p := p) k
   unfold innTo24
   split
   · rename_i hp
     rw [List.mem_append, ih, List.mem_singleton]
     constructor
     · rintro (⟨i, h1, h2, h3⟩ | h)
       · exact ⟨i, by omega, h2, h3⟩
       · exact ⟨k, by omega, hp, h⟩
     · rintro ⟨i, h1, h2, h3⟩
       by_cases e : i = k
       · subst e; exact .inr h3
       · exact .inl ⟨i, by omega, h2, h3⟩
   · rename_i hp
     rw [ih]
     constructor
     · rintro ⟨i, h1, h2, h3⟩; exact ⟨i, by omega, h2, h3⟩
     · rintro ⟨i, h1, h2, h3⟩
       by_cases e : i = k
       · subst e; exact absurd h2 hp
       · exact ⟨i, by omega, h2, h3⟩
theorem inn_one {ts : List Tk} (h : NumW ts) {y : Int} (hy : 0 < y) : ∀ k, k ≤ ts.length → (innTo24 ts y k).length ≤ 1
 | 0, _ => Nat.zero_le _
 | k + 1, hk => by
   have ih := inn_one h hy k (by omega)
   unfold innTo24
   split
   · rename_i hp
     have : innTo24 ts y k = [] := by
      cases hc : innTo24 ts y k with
      | nil => rfl
      | cons a l =>
        have ha : a ∈ innTo24 ts y k := by rw [hc]; exact List.mem_cons_self
        obtain ⟨i, h1, h2, h3⟩ := (mem_inn k).1 ha
        exact absurd (h.inj (by omega) (by omega) (by omega) (h2.trans hp.symm)) (by omega)
     rw [this]; simp
   · exact ih
def outTo24 (ts : List Tk) (ls : List Int) : Nat → List (Int × Int)
 | 0 => []
 | q + 1 => outTo24 ts ls q ++ innTo24 ts (ls.getD q 0) ts.length
def NumsTo (ts : List Tk) (k : Nat) (ls : List Int) : Prop := Rising ls ∧ (∀ y, y ∈ ls ↔ ∃ i : Nat, i < k ∧ 0 < nmAt ts i ∧ y = nmAt ts i) ∧ ls.length ≤ k
theorem out_is {ts : List Tk} (h : NumW ts) {ls : List Int} (hl : NumsTo ts ts.length ls) : ∀ q, q ≤ ls.length → (outTo24 ts ls q).Pairwise (fun a b => a.1 < b.1) ∧ (∀ p, p ∈ outTo24 ts ls q ↔ ∃ j i : Nat, j < q ∧ i < ts.length ∧ nmAt ts i = ls.getD j 0 ∧ p = (ls.getD j 0, (i : Int)))
 | 0, _ => ⟨List.Pairwise.nil, fun p => ⟨fun h => (by cases h), fun h => by obtain ⟨j, i, h1, _⟩ := h; exact absurd h1 (Nat.not_lt_zero _)⟩⟩
 | q + 1, hq => by
   obtain ⟨ih1, ih2⟩ := out_is h hl q (by omega)
   have hget : ∀ j (hj : j < ls.length), ls.getD j 0 = ls[j] := fun j hj => by rw [List.getD_eq_getElem?_getD, List.getElem?_eq_getElem hj]; rfl
   have hm : ls.getD q 0 ∈ ls := by rw [hget q (by omega)]; exact List.getElem_mem _
   obtain ⟨i0, hi0, hp0, he0⟩ := (hl.2.1 _).1 hm
   have h1 := inn_one h (y := ls.getD q 0) (by omega) ts.length (Nat.le_refl _)
   unfold outTo24
   refine ⟨?_, fun p => ?_⟩
   · rw [List.pairwise_append]
     refine ⟨ih1, ?_, fun a ha b hb => ?_⟩
     · generalize innTo24 ts (ls.getD q 0) ts.length = L at h1
       match L, h1 with
       | [], _ => exact List.Pairwise.nil
       | [a], _ => exact List.pairwise_singleton _ _
     · obtain ⟨j, i, g1, g2, g3, g4⟩ := (ih2 a).1 ha
       obtain ⟨i', g5, g6, g7⟩ := (mem_inn _).1 hb
       subst g4; subst g7
       have := List.pairwise_iff_getElem.1 hl.1 j q (by omega) (by omega) g1
       show ls.getD j 0 < ls.getD q 0
       rw [hget j (by omega), hget q (by omega)]
       exact this
   · rw [List.mem_append, ih2, mem_inn]
     constructor
     · rintro (⟨j, i, g1, g2, g3, g4⟩ | ⟨i, g1, g2, g3⟩)
       · exact ⟨j, i, by omega, g2, g3, g4⟩
       · exact ⟨q, i, by omega, g1, g2, g3⟩
     · rintro ⟨j, i, g1, g2, g3, g4⟩
       by_cases e : j = q
       · subst e; exact .inr ⟨i, g2, g3, g4⟩
       · exact .inl ⟨j, i, by omega, g2, g3, g4⟩
theorem out_nums {ts : List Tk} (h : NumW ts) {ls : List Int} (hl : NumsTo ts ts.length ls) : IsNums ts (outTo24 ts ls ls.length) := by
 obtain ⟨h1, h2⟩ := out_is h hl ls.length (Nat.le_refl _)
 refine ⟨h1, fun p => (h2 p).trans ?_⟩
 constructor
 · rintro ⟨j, i, g1, g2, g3, g4⟩
   have hm : ls.getD j 0 ∈ ls := by rw [List.getD_eq_getElem?_getD, List.getElem?_eq_getElem g1]; exact List.getElem_mem _
   obtain ⟨i0, hi0, hp0, he0⟩ := (hl.2.1 _).1 hm
   exact ⟨i, g2, by omega, by rw [g3]; exact g4⟩
 · rintro ⟨i, g1, g2, g3⟩
   have hm : nmAt ts i ∈ ls := (hl.2.1 _).2 ⟨i, g1, g2, rfl⟩
   obtain ⟨j, hj, e⟩ := List.getElem_of_mem hm
   have e2 : ls.getD j 0 = nmAt ts i := by rw [List.getD_eq_getElem?_getD, List.getElem?_eq_getElem hj]; exact e
   exact ⟨j, i, hj, g1, e2.symm, by rw [e2]; exact g3⟩
theorem out_len {ts : List Tk} {ls : List Int} (h : NumW ts) (hl : NumsTo ts ts.length ls) : ∀ q, q ≤ ls.length → (outTo24 ts ls q).length ≤ q
 | 0, _ => Nat.le_refl _
 | q + 1, hq => by
   have ih := out_len h hl q (by omega)
   have hm : ls.getD q 0 ∈ ls := by rw [List.getD_eq_getElem?_getD, List.getElem?_eq_getElem (by omega)]; exact List.getElem_mem _
   obtain ⟨i0, hi0, hp0, he0⟩ := (hl.2.1 _).1 hm
   have h1 := inn_one h (y := ls.getD q 0) (by omega) ts.length (Nat.le_refl _)
   unfold outTo24
   rw [List.length_append]; omega
theorem numsTo_step {ts : List Tk} {k : Nat} {ls r : List Int} (h : NumsTo ts k ls) (hp : 0 < nmAt ts k) (hr : PutIs ls (nmAt ts k) r) : NumsTo ts (k + 1) r := by
 obtain ⟨h1, h2, h3⟩ := put_rising h.1 hr
 refine ⟨h1, fun y => ?_, by have := h.2.2; omega⟩
 rw [h2 y, h.2.1 y]
 constructor
 · rintro (e | ⟨i, g1, g2, g3⟩)
   · exact ⟨k, by omega, hp, e⟩
   · exact ⟨i, by omega, g2, g3⟩
 · rintro ⟨i, g1, g2, g3⟩
   by_cases e : i = k
   · subst e; exact .inl g3
   · exact .inr ⟨i, by omega, g2, g3⟩
theorem numsTo_skip {ts : List Tk} {k : Nat} {ls : List Int} (h : NumsTo ts k ls) (hp : ¬ 0 < nmAt ts k) : NumsTo ts (k + 1) ls := by
 refine ⟨h.1, fun y => ?_, by have := h.2.2; omega⟩
 rw [h.2.1 y]
 constructor
 · rintro ⟨i, g1, g2, g3⟩; exact ⟨i, by omega, g2, g3⟩
 · rintro ⟨i, g1, g2, g3⟩
   by_cases e : i = k
   · subst e; exact absurd g2 hp
   · exact ⟨i, by omega, g2, g3⟩
section
variable {w : World} {t n p : Option Addr} {n1 c1 n2 c2 n3 c3 : Nat} {pr tl : ByteArray} {g : Gm}
set_option maxRecDepth 100000 in
set_option maxHeartbeats 8000000 in
theorem refNums_any (h : GmO w t n p n1 c1 n2 c2 n3 c3 pr tl g) (hW : NumW g.toks) (h40 : g.toks.length ≤ 1000) :
  Calls Try.prog 22 #[(.agg #[.slice t n1 c1, .slice n n2 c2, .slice p n3 c3, .string pr, .string tl])] w fun e w' => ∃ v l, e = .returned v ∧ IsNums g.toks l ∧ l.length ≤ 1000000 ∧ NmsV w' v l ∧ Below w.heap.size w w' := by
 obtain ⟨a1, l1, d1, e1, hl1, hd1, hm1, hx1⟩ := h.tk.open
 cases e1
 have hbx := ofMade w #[(.slice t n1 c1 : Value), .slice n n2 c2, .slice p n3 c3, .string pr, .string tl] 38 w.heap.size rfl
 have hb1 := (Below.refl w.heap.size w).alloc (Nat.le_refl _) (.cells #[.slice t n1 c1, .slice n n2 c2, .slice p n3 c3, .string pr, .string tl] 38)
 have g0 := cell_of_row _ _ 0 _ _ _ hbx
 simp only [List.getElem?_toArray, List.getElem?_cons_succ, List.getElem?_cons_zero] at g0
 have HY : Hid (∀ i, i < n1 → ∃ b o, t = some ⟨b, o, none⟩ ∧ w.cell? ⟨b, o + i * 6 + 2, none⟩ = some (.int .i64 (nmAt g.toks i))) := Lib.hid (fun i hi => by
  obtain ⟨b, o, e, y0, y1, y2, y3, y4, y5⟩ := hx1.out i hi
  exact ⟨b, o, e, y2⟩)
 have HL : Hid (g.toks.length = n1) := Lib.hid hl1.out.symm
 have HON := Lib.hid (fun ls => @out_nums g.toks hW ls)
 have HOL := Lib.hid (fun ls => @out_len g.toks ls hW)
 have HIN := Lib.hid (fun y hy => @inn_one g.toks hW y hy)
 have h40' : n1 ≤ 1000 := by rw [← HL.out]; exact h40
 have HB := Lib.hid hb1
 obtain ⟨i0, hi, iz0, iz1, iz2⟩ := rd_info Try.infoPair
 clear h hx1 hl1 hbx hW h40
 go_enter Try.func22, Try.ntmps22
 go_wp2_with fail
 generalize hw1 : w.alloc (.cells #[.slice t n1 c1, .slice n n2 c2, .slice p n3 c3, .string pr, .string tl] 38) = w1 at *
 clear hw1
 have hz1 := hb1.size
 go_loopw [3, 4] (fun x3 x4 X => ∃ (k : Nat) (ls : List Int), k ≤ n1 ∧ x4 = .int .i64 k ∧ Below w1.heap.size w1 X ∧ IntsV X x3 ls ∧ Hid (NumsTo g.toks k ls)) (fun _ x4 _ => n1 - (intOf x4).toNat)
 case atStart => exact ⟨0, [], Nat.zero_le _, rfl, Below.refl _ _, IntsV.nil _, Lib.hid ⟨List.Pairwise.nil, fun y => ⟨fun h => (by cases h), fun h => by obtain ⟨i, h1, _⟩ := h; exact absurd h1 (Nat.not_lt_zero _)⟩, Nat.le_refl _⟩⟩
 case round =>
  obtain ⟨k, ls, hk, rfl, hb, hls, HN⟩ := hrel
  rename World => W
  have k0 := cell_up hb g0
  by_cases hlt : k < n1
  · have i1 : (k : Int) < (n1 : Int) := by omega
    obtain ⟨b, o, rfl, y2⟩ := HY.out k hlt
    have x2 := cell_up hb (cell_up hb1 y2)
    have HSt := Lib.hid (fun hp r => @numsTo_step g.toks k ls r HN.out hp)
    have HSk := Lib.hid (fun hp => @numsTo_skip g.toks k ls HN.out hp)
    have hlsl := HN.out.2.2
    generalize hq : nmAt g.toks k = q at *
    have HPt := Lib.hid (zput_any _ ls q W hls (by omega))
    unfold PutPost at HPt
    clear HN HY y2 HON HOL HIN hlsl
    by_cases hp : 0 < q
    · have i2 : q > 0 := hp
      go_wp2_with (first | (go_at_call 38; (with_reducible refine HPt.out.mono ?_); rintro e w3 ⟨⟨v3, r, rfl, hr, hv3⟩, hb3⟩))
      have HN2 := Lib.hid (HSt.out hp r hr)
      go_round
      case rel => exact ⟨k + 1, r, by omega, by go_num, hb.trans (hb3.mono hb.size), hv3, HN2⟩
      case measure => simp [intOf]; omega
    · have i2 : ¬ q > 0 := hp
      have HN2 := Lib.hid (HSk.out hp)
      clear HPt HSt HSk
      go_wp2_with fail
      go_round
      case rel => exact ⟨k + 1, ls, by omega, by go_num, hb, hls, HN2⟩
      case measure => simp [intOf]; omega
  · obtain rfl : k = n1 := by omega
    have i1 : ¬ (k : Int) < (k : Int) := by omega
    rw [← HL.out] at HN
    have HOUT := Lib.hid (HON.out ls HN.out)
    have HOL2 := Lib.hid (HOL.out ls HN.out)
    have hLl := HN.out.2.2
    rw [HL.out] at hLl
    have HPos : Hid (∀ i, i < ls.length → 0 < ls.getD i 0) := Lib.hid (fun i hi => by
     have hm : ls.getD i 0 ∈ ls := by rw [List.getD_eq_getElem?_getD, List.getElem?_eq_getElem hi]; exact List.getElem_mem _
     obtain ⟨i0, hi0, hp0, he0⟩ := (HN.out.2.1 _).1 hm
     omega)
    obtain ⟨ra, rn, rc, rfl, hrn, hrc, hrm, hrx⟩ := hls.open
    have hRL := hrn.out
    rw [← hRL] at hLl HPos
    have HRL := Lib.hid hRL
    have HRX : Hid (∀ i, i < rn → ∃ b o, ra = some ⟨b, o, none⟩ ∧ ∀ X, Below W.heap.size W X → X.cell? ⟨b, o + i, none⟩ = some (.int .i64 (ls.getD i 0))) := Lib.hid (fun i hi => by
     obtain ⟨b, o, e, y⟩ := hrx.out i hi
     exact ⟨b, o, e, fun X hX => cell_up hX y⟩)
    have hbA := hb1.trans (hb.mono hz1)
    have HTX : Hid (∀ i, i < k → ∃ b o, t = some ⟨b, o, none⟩ ∧ ∀ X, Below W.heap.size W X → X.cell? ⟨b, o + i * 6 + 2, none⟩ = some (.int .i64 (nmAt g.toks i))) := Lib.hid (fun i hi => by
     obtain ⟨b, o, e, y⟩ := HY.out i hi
     exact ⟨b, o, e, fun X hX => cell_up hX (cell_up hbA y)⟩)
    clear hrn hrx hRL HY HN HON HOL
    go_wp2_with fail
    go_loopw [5, 6, 7] (fun x5 x6 x7 X => ∃ (q : Nat) (xs : List Value), q ≤ rn ∧ x6 = .int .i64 q ∧ Below W.heap.size W X ∧ GrowL W.heap.size 60 2 nmR (fun _ => False) X x5 xs (outTo24 g.toks ls q)) (fun _ x6 _ _ => rn - (intOf x6).toNat)
    case atStart => exact ⟨0, [], Nat.zero_le _, rfl, Below.refl _ _, GrowL.nil _ _ _ _ _⟩
    case round =>
     obtain ⟨q, xs, hq, rfl, hbq, hG⟩ := hrel
     rename World => U
     by_cases hlq : q < rn
     · have i2 : (q : Int) < (rn : Int) := by omega
       obtain ⟨rb, ro, rfl, hry⟩ := HRX.out q hlq
       have hyp := HPos.out q hlq
       have HY1 := Lib.hid (HIN.out _ hyp)
       have HOLq := HOL2.out q (by have := HRL.out; omega)
       have HSTEP : Hid (outTo24 g.toks ls (q + 1) = outTo24 g.toks ls q ++ innTo24 g.toks (ls.getD q 0) g.toks.length) := Lib.hid rfl
       rw [HL.out] at HSTEP HY1
       generalize ls.getD q 0 = y at *
       generalize outTo24 g.toks ls q = OQ at *
       go_wp2_with fail
       go_loopw [5, 7] (fun x5 x7 X => ∃ (j : Nat) (xs : List Value), j ≤ k ∧ x7 = .int .i64 j ∧ Below W.heap.size W X ∧ GrowL W.heap.size 60 2 nmR (fun _ => False) X x5 xs (OQ ++ innTo24 g.toks y j)) (fun _ x7 _ => k - (intOf x7).toNat)
       case atStart => exact ⟨0, xs, Nat.zero_le _, rfl, hbq, by rw [show innTo24 g.toks y 0 = [] from rfl, List.append_nil]; exact hG⟩
       case round =>
        obtain ⟨j, ys, hj, rfl, hbj, hGj⟩ := hrel
        rename World => V
        have k1 := cell_up (hb.trans (hbj.mono hb.size)) g0
        by_cases hlj : j < k
        · have i3 : (j : Int) < (k : Int) := by omega
          obtain ⟨tb, tof, rfl, hty⟩ := HTX.out j hlj
          have x2 := hty V hbj
          have r2 := hry V hbj
          have HIJ : Hid (innTo24 g.toks y (j + 1) = if nmAt g.toks j = y then innTo24 g.toks y j ++ [(y, (j : Int))] else innTo24 g.toks y j) := Lib.hid rfl
          have hIl := HY1.out j (by have := HL.out; omega)
          generalize nmAt g.toks j = z at *
          by_cases hz : z = y
          · subst hz
            rw [if_pos rfl] at HIJ
            have i4 : (z == z) = true := by simp
            have hII : Hid (OQ ++ innTo24 g.toks z (j + 1) = (OQ ++ innTo24 g.toks z j) ++ [(z, (j : Int))]) := Lib.hid (by rw [HIJ.out, List.append_assoc])
            have hLen : (OQ ++ innTo24 g.toks z j).length ≤ 2000 := by rw [List.length_append]; omega
            clear HIJ hIl HY1 HOLq HSTEP HOL2 HPos HIN HOUT HRX HTX hG hry hty
            generalize OQ ++ innTo24 g.toks z j = PK at *
            go_upto_region 14 with fail
            go_quiet (fail)
            generalize hV2 : V.drewN _ = V2
            have hbV : Below V.heap.size V V2 := by subst hV2; exact ofDrewN (Below.refl _ _) _
            clear hV2
            have r3 := cell_up hbV r2
            have hG2 := hGj.below hbV
            have hb2 := hbj.trans (hbV.mono hbj.size)
            obtain ⟨sa, sc, hsl⟩ := hG2.slice
            have hown := hG2.own
            subst hsl
            have hwb := hb2.size
            have ho6 := own_below hown ((Below.refl V2.heap.size V2).alloc (Nat.le_refl _) (.cells #[.int .i64 z, .int .i64 (j : Int)] 60))
            go_wp2_with (first | (refine wpList_append_lies _ (by rfl) _ _ _ (by rfl) W.heap.size 60 i0 (.agg #[.int .i64 0, .int .i64 0]) 2 16 Try.underlying54 hi iz0 iz1 iz2 rfl (by omega) (.slice sa PK.length sc) PK.length ys (by rfl) ho6 ⟨V2.heap.size, 0, none⟩ 1 1 [.int .i64 z, .int .i64 (j : Int)] (by rfl) (by rfl) (rd_news V2 _ _) (by simp [Value.oneCell']) (by omega) (by unfold maxLen; omega) (by omega) (by simp; omega) (V2.heap.size + 1) (by simp) ?_; intro gg cap2 w6 hown6 hgrow6 hat hlt6))
            have hk6 : Below V2.heap.size V2 (V2.alloc (.cells #[.int .i64 z, .int .i64 (j : Int)] 60)) := (Below.refl _ _).alloc (Nat.le_refl _) _
            have hG6 := hG2.below hk6
            have hb6 := (hb2.trans (hk6.mono hwb)).grown hgrow6 (by have := hk6.size; omega) (fun b hb => (hG6.own.lt b hb).1)
            have hp := (hG6.push (x := (z, (j : Int))) (cs := [.int .i64 z, .int .i64 (j : Int)]) (S' := fun _ => False) hown6 hgrow6 (own_new hat (by simp)) rfl (Firm.pure (fun w' => rfl)) (fun b hb h => h.elim)).no
            clear hown6 hgrow6 hG2 hG6 ho6 hown hk6 hGj
            go_round
            case rel => exact ⟨j + 1, _, by omega, by go_num, hb6, by rw [hII.out]; exact hp⟩
            case measure => simp [intOf]; omega
          · rw [if_neg hz] at HIJ
            have i4 : (z == y) = false := by rw [beq_eq_false_iff_ne]; exact hz
            clear hIl HY1 HOLq HSTEP HOL2 HPos HIN HOUT HRX HTX hG hry hty
            go_upto_region 14 with fail
            go_quiet (fail)
            generalize hV2 : V.drewN _ = V2
            have hbV : Below V.heap.size V V2 := by subst hV2; exact ofDrewN (Below.refl _ _) _
            clear hV2
            go_wp2_with fail
            go_round
            case rel => exact ⟨j + 1, ys, by omega, by go_num, hbj.trans (hbV.mono hbj.size), by rw [HIJ.out]; exact hGj.below hbV⟩
            case measure => simp [intOf]; omega
        · obtain rfl : j = k := by omega
          have i3 : ¬ (j : Int) < (j : Int) := by omega
          clear HY1 HOLq HOL2 HPos HIN HOUT HRX HTX hG hry
          go_wp2_with fail
          go_round
          case rel => exact ⟨q + 1, ys, by omega, by go_num, hbj, by rw [HSTEP.out]; exact hGj⟩
          case measure => simp [intOf]; omega
     · obtain rfl : q = rn := by omega
       have i2 : ¬ (q : Int) < (q : Int) := by omega
       have hl := hG.list (by omega)
       have hol := HOL2.out q (by have := HRL.out; omega)
       rw [HRL.out] at hol
       have hLl2 := hLl
       rw [HRL.out] at hLl2
       rw [HRL.out] at hl
       clear HRX HTX HIN HPos hG HOL2
       go_wp2_with fail
       go_ret
       exact ⟨_, rfl, _, HOUT.out, by omega, hl, hbA.trans (hbq.mono hbA.size)⟩
end
end Go.Proofs.Ytkgbifbbpmdpgaa
