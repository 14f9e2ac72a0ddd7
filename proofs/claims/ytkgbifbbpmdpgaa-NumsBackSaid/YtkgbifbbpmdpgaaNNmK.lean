/- The law NumsBack walked. -/
import Derived.Test.YtkgbifbbpmdpgaaNNmW
import Derived.Test.YtkgbifbbpmdpgaaNCutB
import Derived.Test.YtkgbifbbpmdpgaaNREnd
import Derived.IntWalk
import Derived.Outline
import Derived.Deep.DeepCutAuto
import Derived.Deep.Cut
import Derived.Deep.CutRange
set_option linter.unusedVariables false
set_option linter.unusedSimpArgs false
namespace Go.Proofs.Ytkgbifbbpmdpgaa

open Go.RowKit
theorem isNums_at {ts : List Tk} (hW : NumW ts) {l : List (Int × Int)} (h : IsNums ts l) {k : Nat} (hk : k < l.length) : ∃ i : Nat, 3 ≤ i ∧ i < ts.length ∧ (l.getD k (0, 0)).1 = nmAt ts i ∧ (l.getD k (0, 0)).2 = (i : Int) ∧ tokL l (nmAt ts i) = (i : Int) := by
 have hm : l.getD k (0, 0) ∈ l := by rw [List.getD_eq_getElem?_getD, List.getElem?_eq_getElem hk]; exact List.getElem_mem _
 obtain ⟨i, h1, h2, h3⟩ := (h.2 _).1 hm
 refine ⟨i, hW.pos h2, h1, by rw [h3], by rw [h3], ?_⟩
 rw [tok_same hW h, tokN_own hW (hW.pos h2) h1]
theorem isNums_up {ts : List Tk} {l : List (Int × Int)} (h : IsNums ts l) {k : Nat} (hk : k + 1 < l.length) : (l.getD k (0, 0)).1 < (l.getD (k + 1) (0, 0)).1 := by
 rw [List.getD_eq_getElem?_getD, List.getD_eq_getElem?_getD, List.getElem?_eq_getElem (by omega), List.getElem?_eq_getElem hk]
 exact List.pairwise_iff_getElem.1 h.1 k (k + 1) (by omega) hk (by omega)
set_option maxRecDepth 100000 in
set_option maxHeartbeats 40000000 in
theorem numsBack_any (va : Value) (a : So) {w : World} (ha : SoV w va a) (hIa : SoIn a) :
  Calls Try.prog 8 #[va] w fun e w' => e = .returned (.bool true) ∧ Below w.heap.size w w' := by
 have HCa := Lib.hid (fun (X : World) (hX : Below w.heap.size w X) => cut_any va a X (ha.below hX) hIa)
 obtain ⟨hs1, hf1⟩ := So.cut_small a
 unfold SoGoes at HCa
 generalize a.cut = s at HCa hs1 hf1
 obtain ⟨ad, ar, rfl, hd, hr⟩ := ha
 obtain ⟨aad, aan, aac, rfl, _, _, _, _⟩ := hd.open
 obtain ⟨arg, arn, arc, rfl, _, _, _, _⟩ := hr.open
 generalize a.pro = ap at HCa ⊢
 generalize a.tail = at1 at HCa ⊢
 clear hd hr hIa
 have hb1 := (Below.refl w.heap.size w).alloc (Nat.le_refl _) (.cells #[.string ap, .slice aad aan aac, .slice arg arn arc, .string at1] 25)
 have hA0 := heap_alloc_new w (.cells #[.string ap, .slice aad aan aac, .slice arg arn arc, .string at1] 25)
 have HW := Lib.hid (numWakes_any (w.alloc (.cells #[.string ap, .slice aad aan aac, .slice arg arn arc, .string at1] 25)))
 have HGrA : Hid (∀ (X : World) (a1 a2 : Option Addr) (n1 c1 n2 c2 : Nat), SoV X (.agg #[.string s.pro, .slice a1 n1 c1, .slice a2 n2 c2, .string s.tail]) s → Calls Try.prog 13 #[.agg #[.string s.pro, .slice a1 n1 c1, .slice a2 n2 c2, .string s.tail]] X (GrGo s X)) := Lib.hid (fun X a1 a2 n1 c1 n2 c2 h => grammar_any h hs1 hf1)
 unfold GrGo at HGrA
 have HOK := Lib.hid (fun h => okOf_w (so := s) h)
 have HNW := Lib.hid (fun h => nums_ok (so := s) h)
 clear hs1 hf1
 generalize okOf s = ok at HGrA HOK HNW
 generalize gmOf s = g at HGrA HOK HNW
 generalize hpr : g.pro = pr at HGrA
 generalize htl : g.tail = tl at HGrA
 go_enter Try.func8, Try.ntmps8
 go_upto_region 3 with (first | (go_at_call 21; (with_reducible refine HW.out.mono ?_); rintro e w1 ⟨rfl, hbw⟩))
 have hbz := hb1.trans (hbw.mono hb1.size)
 have hA1 := (hbw.block w.heap.size (by simp)).trans hA0
 have x0 := cell_of_row _ _ 0 _ _ _ hA1
 have x1 := cell_of_row _ _ 1 _ _ _ hA1
 have x2 := cell_of_row _ _ 2 _ _ _ hA1
 have x3 := cell_of_row _ _ 3 _ _ _ hA1
 simp only [List.getElem?_toArray, List.getElem?_cons_succ, List.getElem?_cons_zero] at x0 x1 x2 x3
 have HCb := Lib.hid (HCa.out w1 hbz)
 clear HW HCa hA0 hA1 hb1 hbw
 go_upto_region 4 with (first
  | (go_at_call 11; (with_reducible refine HCb.out.mono ?_); rintro e wP ⟨vP, TP, rfl, hFP, hTP, hbP⟩; have hvP := hFP.self; obtain ⟨dP, rP, rfl, hdP, hrP⟩ := id hvP; obtain ⟨aP, mP, cP, rfl, _, _, _, _⟩ := ListV.open hdP; obtain ⟨zP, nP, gP, rfl, _, _, _, _⟩ := ListV.open hrP; have HGr := Lib.hid (HGrA.out wP _ _ _ _ _ _ hvP))
  | (go_at_call 13; (with_reducible refine HGr.out.mono ?_); rintro e w3 ⟨t, n, p, m1, d1, m2, d2, m3, d3, S, rfl, hFg, hSg, hb3⟩))
 have hk4 : Below w3.heap.size w3 (w3.alloc (.cells #[.slice t m1 d1, .slice n m2 d2, .slice p m3 d3, .string pr, .string tl] 38)) := (Below.refl _ _).alloc (Nat.le_refl _) _
 have hrN := ofMade w3 #[.slice t m1 d1, .slice n m2 d2, .slice p m3 d3, .string pr, .string tl] 38 w3.heap.size rfl
 have hFg4 := hFg.below hk4
 have hb5 := hbz.trans (hbP.mono hbz.size)
 have hb6 := hb5.trans (hb3.mono hb5.size)
 have hbr4 := hb6.trans (hk4.mono hb6.size)
 clear HGr HGrA HCb hFg hb3 hk4 x0 x1 x2 x3 hSg hvP hdP hrP hFP hTP hbP hb5 hb6
 generalize w3.alloc (.cells #[.slice t m1 d1, .slice n m2 d2, .slice p m3 d3, .string pr, .string tl] 38) = W4 at *
 generalize w3.heap.size = Bg at *
 have HG : Hid (∀ X, Below W4.heap.size W4 X → GmO X t n p m1 d1 m2 d2 m3 d3 pr tl g ∧ X.cell? ⟨Bg, 0, none⟩ = some (.slice t m1 d1) ∧ X.cell? ⟨Bg, 1, none⟩ = some (.slice n m2 d2) ∧ X.cell? ⟨Bg, 2, none⟩ = some (.slice p m3 d3) ∧ X.cell? ⟨Bg, 3, none⟩ = some (.string pr) ∧ X.cell? ⟨Bg, 4, none⟩ = some (.string tl)) := Lib.hid (fun X hX => by
  have hr := (hX.block Bg (Array.getElem?_eq_some_iff.1 hrN).1).trans hrN
  refine ⟨(hFg4.below hX).self, cell_of_row X _ 0 _ _ _ hr, cell_of_row X _ 1 _ _ _ hr, cell_of_row X _ 2 _ _ _ hr, cell_of_row X _ 3 _ _ _ hr, cell_of_row X _ 4 _ _ _ hr⟩)
 clear hFg4 hrN hpr htl
 cases ok with
 | false =>
   clear HG HOK HNW
   go_wp2_with fail
   go_ret
   exact ⟨rfl, hbr4⟩
 | true =>
   have hNW := HNW.out rfl
   have h40 := (HOK.out rfl).tk
   obtain ⟨hGm, z0, z1, z2, z3, z4⟩ := HG.out W4 (Below.refl _ _)
   have hm1 : g.toks.length = m1 := by
    obtain ⟨a1, l1, q1, e1, hl1, _, _, _⟩ := hGm.tk.open
    cases e1
    exact hl1.out.symm
   have HYa := Lib.hid (fun (X : World) (hX : Below W4.heap.size W4 X) => (HG.out X hX).2.1)
   have HYt : Hid (∀ i, i < m1 → ∃ b o, t = some ⟨b, o, none⟩ ∧ ∀ X, Below W4.heap.size W4 X → X.cell? ⟨b, o + i * 6 + 2, none⟩ = some (.int .i64 (nmAt g.toks i))) := by
    obtain ⟨a1, l1, q1, e1, hl1, _, _, hx1⟩ := hGm.tk.open
    cases e1
    exact Lib.hid (fun i hi => by
     obtain ⟨b, o, e, y0, y1, y2, y3, y4, y5⟩ := hx1.out i hi
     exact ⟨b, o, e, fun X hX => cell_up hX y2⟩)
   have HOf := Lib.hid (numsOf_any hGm hNW (by omega))
   have h3 := hNW.t3
   have HM := Lib.hid hm1
   rw [hm1] at h40 h3 HOf
   clear hGm hm1 HG HOK HNW
   go_upto_region 7 with (first | (go_at_call 24; (with_reducible refine HOf.out.mono ?_); rintro e W5 ⟨v, l, rfl, hl, hll, hv, hb7⟩))
   have z5 := HYa.out W5 hb7
   obtain ⟨la, lm, lc, rfl, hlm, hlmc, hlc, hlx⟩ := hv.open
   have hlm2 : lm = m1 - 3 := by rw [hlm.out]; exact hll
   have hle : ((lm : Int) != (m1 : Int) - 3) = false := by rw [bne_eq_false_iff_eq]; omega
   have hlm3 : lm ≤ 1000000 := by omega
   have HAt : Hid (∀ k, k < lm → ∃ i : Nat, 3 ≤ i ∧ i < m1 ∧ (l.getD k (0, 0)).1 = nmAt g.toks i ∧ (l.getD k (0, 0)).2 = (i : Int) ∧ tokL l (nmAt g.toks i) = (i : Int)) := Lib.hid (fun k hk => by
    have h := isNums_at hNW hl (k := k) (by rw [← hlm.out]; exact hk)
    rw [HM.out] at h
    exact h)
   have HUp : Hid (∀ k, k + 1 < lm → (l.getD k (0, 0)).1 < (l.getD (k + 1) (0, 0)).1) := Lib.hid (fun k hk => isNums_up hl (by rw [← hlm.out]; exact hk))
   have HTok : Hid (∀ X, Below W5.heap.size W5 X → ∀ q : Int, Calls Try.prog 25 #[.slice la lm lc, .int .i64 q] X fun e w' => e = .returned (.int .i64 (tokL l q)) ∧ Below X.heap.size X w') := Lib.hid (fun X hX q => numTok_any (hv.below hX) hl.1 (by rw [← hlm.out]; exact hlm3) q)
   have HOwn : Hid (∀ i, 3 ≤ i → i < m1 → tokL l (nmAt g.toks i) = (i : Int)) := Lib.hid (fun i h1 h2 => by rw [tok_same hNW hl]; exact tokN_own hNW h1 (by rw [HM.out]; exact h2))
   have HLx : Hid (∀ i, i < lm → ∃ b o, la = some ⟨b, o, none⟩ ∧ ∀ X, Below W5.heap.size W5 X → X.cell? ⟨b, o + i * 2, none⟩ = some (.int .i64 (l.getD i (0, 0)).1) ∧ X.cell? ⟨b, o + i * 2 + 1, none⟩ = some (.int .i64 (l.getD i (0, 0)).2)) := Lib.hid (fun i hi => by
    obtain ⟨b, o, e, y0, y1⟩ := hlx.out i hi
    exact ⟨b, o, e, fun X hX => ⟨cell_up hX y0, cell_up hX y1⟩⟩)
   clear hv hl hll hlm hlm2 hlx hNW HM HOf
   go_wp2_with fail
   go_loopw [6] (fun x6 X => ∃ k : Nat, k ≤ lm ∧ x6 = .int .i64 k ∧ Below W5.heap.size W5 X) (fun x6 _ => lm - (intOf x6).toNat)
   case atStart => exact ⟨0, Nat.zero_le _, rfl, Below.refl _ _⟩
   case round =>
    obtain ⟨k, hk, rfl, hbk⟩ := hrel
    rename World => W
    have hw4 := hb7.trans (hbk.mono hb7.size)
    by_cases hlt : k < lm
    · have i1 : (k : Int) < (lm : Int) := by omega
      obtain ⟨i, hi3, him, e1, e2, e3⟩ := HAt.out k hlt
      obtain ⟨b, o, rfl, hcs⟩ := HLx.out k hlt
      obtain ⟨y0, y1⟩ := hcs W hbk
      obtain ⟨tb, tof, rfl, htc⟩ := HYt.out i him
      have y2 := htc W hw4
      have y3 := HYa.out W hw4
      have HTk := Lib.hid (fun (V : World) => HTok.out (over W V) (hbk.trans ((over_below W V).mono hbk.size)) (nmAt g.toks i))
      rw [e1] at y0
      rw [e2] at y1
      rw [e3] at HTk
      have j1 : ¬ (i : Int) < 3 := by omega
      have j2 : ¬ (i : Int) ≥ (m1 : Int) := by omega
      have j1' : decide ((i : Int) < 3) = false := decide_eq_false j1
      have j2' : decide ((i : Int) ≥ (m1 : Int)) = false := decide_eq_false j2
      have j3 : (i : Int) < (m1 : Int) := by omega
      by_cases hk0 : k = 0
      · have j0 : ¬ (k : Int) > 0 := by omega
        have j0' : decide ((k : Int) > 0) = false := decide_eq_false j0
        have j0n : decide (0 < k) = false := by rw [hk0]; rfl
        clear hk0
        clear HAt HUp HTok HOwn HLx hcs htc HYt HYa e1 e2 e3 z0 z1 z2 z3 z4 z5
        generalize nmAt g.toks i = q at *
        have v0 := over_cell y0
        have v1 := over_cell y1
        have v2 := over_cell y2
        have v3 := over_cell y3
        clear y0 y1 y2 y3
        go_upto_region 12 with fail
        refine wp_region_over (by kernel_rfl) (by kernel_rfl) ?_
        simp only [List.append_eq, List.cons_append, List.nil_append]
        repeat (first | go_big_quiet_skip | (go_big_quiet_want; go_big_quiet_op; first | go_big_quiet_on | (apply Exists.intro; refine ⟨fun _ => ?_, ?_⟩; (first | (go_at_call 25; exact calls_over (HTk.out _) (fun e w1 h => h))); go_big_quiet_on)))
        refine wpQuiet_nil ?_
        intro _ hw'
        obtain ⟨V9, hw''⟩ := hw'
        subst hw''
        have hz := over_below W V9
        generalize over W V9 = W8 at hz ⊢
        have hb8 := hbk.trans (hz.mono hbk.size)
        go_wp2_with fail
        go_round
        case rel => exact ⟨k + 1, by omega, by go_num, hb8⟩
        case measure => simp [intOf]; omega
      · obtain ⟨j, rfl⟩ : ∃ j, k = j + 1 := ⟨k - 1, by omega⟩
        obtain ⟨b', o', e9, hcs'⟩ := HLx.out j (by omega)
        cases e9
        obtain ⟨u0, _⟩ := hcs' W hbk
        have hup := HUp.out j hlt
        rw [e1] at hup
        clear HAt HUp HTok HOwn HLx hcs htc hcs' HYt HYa e1 e2 e3 z0 z1 z2 z3 z4 z5
        generalize nmAt g.toks i = q at *
        generalize (l.getD j (0, 0)).1 = q0 at *
        have j4 : ¬ q ≤ q0 := by omega
        have j4' : decide (q ≤ q0) = false := decide_eq_false j4
        have j5 : ((j + 1 : Nat) : Int) > 0 := by omega
        have j6 : ((j + 1 : Nat) : Int) - 1 = (j : Int) := by omega
        have j7 : (j : Int) < (lm : Int) := by omega
        have j8 : (j : Int) + 1 < (lm : Int) := by omega
        have v0 := over_cell y0
        have v1 := over_cell y1
        have v2 := over_cell y2
        have v3 := over_cell y3
        have v4 := over_cell u0
        clear y0 y1 y2 y3 u0
        go_upto_region 12 with fail
        refine wp_region_over (by kernel_rfl) (by kernel_rfl) ?_
        simp only [List.append_eq, List.cons_append, List.nil_append]
        repeat (first | go_big_quiet_skip | (go_big_quiet_want; go_big_quiet_op; first | go_big_quiet_on | (apply Exists.intro; refine ⟨fun _ => ?_, ?_⟩; (first | (go_at_call 25; exact calls_over (HTk.out _) (fun e w1 h => h))); go_big_quiet_on)))
        refine wpQuiet_nil ?_
        intro _ hw'
        obtain ⟨V9, hw''⟩ := hw'
        subst hw''
        have hz := over_below W V9
        generalize over W V9 = W8 at hz ⊢
        have hb8 := hbk.trans (hz.mono hbk.size)
        go_wp2_with fail
        go_round
        case rel => exact ⟨j + 1 + 1, by omega, by go_num, hb8⟩
        case measure => simp [intOf]; omega
    · have i1 : ¬ (k : Int) < (lm : Int) := by omega
      clear HAt HUp HLx
      go_wp2_with fail
      go_loopw [7] (fun x7 X => ∃ k : Nat, 3 ≤ k ∧ k ≤ m1 ∧ x7 = .int .i64 k ∧ Below W5.heap.size W5 X) (fun x7 _ => m1 - (intOf x7).toNat)
      case atStart => exact ⟨3, Nat.le_refl _, h3, rfl, hbk⟩
      case round =>
       obtain ⟨j, hj3, hj, rfl, hbj⟩ := hrel
       rename World => U
       have hu4 := hb7.trans (hbj.mono hb7.size)
       have y3 := HYa.out U hu4
       by_cases hlj : j < m1
       · have i2 : (j : Int) < (m1 : Int) := by omega
         obtain ⟨tb, tof, rfl, htc⟩ := HYt.out j hlj
         have y2 := htc U hu4
         have HT := Lib.hid (HTok.out U hbj (nmAt g.toks j))
         rw [HOwn.out j hj3 hlj] at HT
         clear HTok HOwn HYt HYa htc z0 z1 z2 z3 z4 z5
         generalize nmAt g.toks j = q at *
         go_wp2_with (first | (go_at_call 25; (with_reducible refine HT.out.mono ?_); rintro e w8 ⟨rfl, hb8⟩))
         go_round
         case rel => exact ⟨j + 1, by omega, by omega, by go_num, hbj.trans (hb8.mono hbj.size)⟩
         case measure => simp [intOf]; omega
       · have i2 : ¬ (j : Int) < (m1 : Int) := by omega
         clear HTok HOwn HYt HYa
         go_wp2_with fail
         go_ret
         exact ⟨rfl, hbr4.trans (hu4.mono hbr4.size)⟩
end Go.Proofs.Ytkgbifbbpmdpgaa
