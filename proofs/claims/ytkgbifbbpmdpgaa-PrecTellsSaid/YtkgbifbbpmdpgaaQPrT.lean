/- The law PrecTells walked. -/
import Derived.Test.YtkgbifbbpmdpgaaQPr2
import Derived.Test.YtkgbifbbpmdpgaaQGrW4
import Derived.Test.YtkgbifbbpmdpgaaQCutB
import Derived.Test.YtkgbifbbpmdpgaaQPrW
import Derived.Test.YtkgbifbbpmdpgaaQREnd
import Derived.IntWalk
import Derived.Outline
import Derived.Deep.DeepCutAuto
import Derived.Deep.Cut
import Derived.Deep.CutRange
set_option linter.unusedVariables false
set_option linter.unusedSimpArgs false
namespace Go.Proofs.Ytkgbifbbpmdpgaa

open List renaming getElem_toArray → gA, getElem_cons_succ → gB, getElem_cons_zero → gC, setIfInBounds_toArray → gD, set_cons_zero → gE, set_cons_succ → gF
open Go.RowKit
theorem bk_firm {S : Nat → Prop} {w1 w2 : World} {Q : World → Prop} (h : Firm S w1 Q) (hb : Below w1.heap.size w1 w2) : Q w2 := (h.below hb).self
def TwoB (w : World) (s1 s2 : So) (x : Value) (W : World) : Prop := ∃ (B : Nat) (d1 e1 d2 e2 : Option Addr) (m1 c1 n1 g1 m2 c2 n2 g2 : Nat), x = .slice (some ⟨B, 0, none⟩) 2 2 ∧ Below w.heap.size w W ∧
 W.heap[B]? = some (.cells #[.string s1.pro, .slice d1 m1 c1, .slice e1 n1 g1, .string s1.tail, .string s2.pro, .slice d2 m2 c2, .slice e2 n2 g2, .string s2.tail] 25 (0, 0)) ∧ SoV W (.agg #[.string s1.pro, .slice d1 m1 c1, .slice e1 n1 g1, .string s1.tail]) s1 ∧ SoV W (.agg #[.string s2.pro, .slice d2 m2 c2, .slice e2 n2 g2, .string s2.tail]) s2
set_option maxRecDepth 100000 in
set_option maxHeartbeats 40000000 in
theorem precTells_any (va : Value) (a : So) (vg : Value) (g : Gr) (pp : Int) (tt : Int) {w : World} (ha : SoV w va a) (hIa : SoIn a) (hg : GrV w vg g) (hIg : GrIn g) (hpp : (Lit.int .i64 pp).wf = true) (htt : (Lit.int .i64 tt).wf = true) :
  Calls Try.prog 3 #[va, vg, .int .i64 pp, .int .i64 tt] w fun e w' => e = .returned (.bool true) ∧ Below w.heap.size w w' := by
 have HCa := Lib.hid (fun (X : World) (hX : Below w.heap.size w X) => cut_any va a X (ha.below hX) hIa)
 have HSg := Lib.hid (fun (X : World) (hX : Below w.heap.size w X) => source_any vg g X (hg.below hX) hIg)
 obtain ⟨hs1, hf1⟩ := So.cut_small a
 obtain ⟨hs2, hf2⟩ := srcG_small g
 have hp2 : (srcG g).pro = ⟨#[]⟩ := rfl
 have ht2 : (srcG g).tail = ⟨#[]⟩ := rfl
 unfold SoGoes at HCa
 unfold SrcGo at HSg
 generalize a.cut = s1 at HCa hs1 hf1
 generalize srcG g = s2 at HSg hs2 hf2 hp2 ht2
 obtain ⟨ad, ar, rfl, hd, hr⟩ := ha
 obtain ⟨aad, aan, aac, rfl, _, _, _, _⟩ := hd.open
 obtain ⟨arg, arn, arc, rfl, _, _, _, _⟩ := hr.open
 obtain ⟨rv, lv, iv, rfl, hrv, hlv, hiv⟩ := hg.is
 obtain ⟨ga1, gn1, gc1, rfl, _, _, _, _⟩ := hrv.open
 obtain ⟨ga2, gn2, gc2, rfl, _, _, _, _⟩ := hlv.open
 obtain ⟨ga3, gn3, gc3, rfl, _, _, _, _⟩ := hiv.open
 generalize a.pro = ap at HCa ⊢
 generalize a.tail = at1 at HCa ⊢
 generalize g.nons = gn at HSg ⊢
 generalize g.bare = gb at HSg ⊢
 clear hd hr hg hrv hlv hiv hIa hIg
 have hb1 := ((Below.refl w.heap.size w).alloc (Nat.le_refl _) (.cells #[.string ap, .slice aad aan aac, .slice arg arn arc, .string at1] 25)).alloc (by simp) (.cells #[.int .i64 gn, .slice ga1 gn1 gc1, .slice ga2 gn2 gc2, .slice ga3 gn3 gc3, .bool gb] 29)
 have hA0 := heap_put (w.alloc (.cells #[.string ap, .slice aad aan aac, .slice arg arn arc, .string at1] 25)) (.cells #[.int .i64 gn, .slice ga1 gn1 gc1, .slice ga2 gn2 gc2, .slice ga3 gn3 gc3, .bool gb] 29) (heap_new w #[.string ap, .slice aad aan aac, .slice arg arn arc, .string at1] 25 _ rfl)
 have hG0 := heap_new (w.alloc (.cells #[.string ap, .slice aad aan aac, .slice arg arn arc, .string at1] 25)) #[.int .i64 gn, .slice ga1 gn1 gc1, .slice ga2 gn2 gc2, .slice ga3 gn3 gc3, .bool gb] 29 (w.heap.size + 1) (World.size_alloc _ _).symm
 have hz0 : ((w.alloc (.cells #[.string ap, .slice aad aan aac, .slice arg arn arc, .string at1] 25)).alloc (.cells #[.int .i64 gn, .slice ga1 gn1 gc1, .slice ga2 gn2 gc2, .slice ga3 gn3 gc3, .bool gb] 29)).heap.size = w.heap.size + 2 := by simp
 have HW := Lib.hid (precWakes_any ((w.alloc (.cells #[.string ap, .slice aad aan aac, .slice arg arn arc, .string at1] 25)).alloc (.cells #[.int .i64 gn, .slice ga1 gn1 gc1, .slice ga2 gn2 gc2, .slice ga3 gn3 gc3, .bool gb] 29)))
 go_enter Try.func3, Try.ntmps3
 go_upto_region 3 with (first | (go_at_call 10; (with_reducible refine HW.out.mono ?_); rintro e w1 ⟨rfl, hbw⟩))
 have hbz := hb1.trans (hbw.mono hb1.size)
 have hA1 := (hbw.block w.heap.size (by omega)).trans hA0
 have hG1 := (hbw.block (w.heap.size + 1) (by omega)).trans hG0
 have HX := Lib.hid (fun (X : World) (hX : Below w1.heap.size w1 X) => And.intro ((hX.block w.heap.size (Array.getElem?_eq_some_iff.1 hA1).1).trans hA1) ((hX.block (w.heap.size + 1) (Array.getElem?_eq_some_iff.1 hG1).1).trans hG1))
 have HCb := Lib.hid (fun (X : World) (hX : Below w1.heap.size w1 X) => HCa.out X (hbz.trans (hX.mono hbz.size)))
 have HSb := Lib.hid (fun (X : World) (hX : Below w1.heap.size w1 X) => HSg.out X (hbz.trans (hX.mono hbz.size)))
 clear HW HCa HSg hA0 hG0 hz0 hb1 hbw
 go_cut [9] from 25 to 29 (fun (x5 : Value) wx => TwoB w1 s1 s2 x5 wx)
 case first =>
  have HXc : Hid (∀ X, Below w1.heap.size w1 X → X.cell? ⟨w.heap.size, 0, none⟩ = some (.string ap) ∧ X.cell? ⟨w.heap.size, 1, none⟩ = some (.slice aad aan aac) ∧ X.cell? ⟨w.heap.size, 2, none⟩ = some (.slice arg arn arc) ∧ X.cell? ⟨w.heap.size, 3, none⟩ = some (.string at1) ∧ X.cell? ⟨w.heap.size + 1, 0, none⟩ = some (.int .i64 gn) ∧ X.cell? ⟨w.heap.size + 1, 1, none⟩ = some (.slice ga1 gn1 gc1) ∧ X.cell? ⟨w.heap.size + 1, 2, none⟩ = some (.slice ga2 gn2 gc2) ∧ X.cell? ⟨w.heap.size + 1, 3, none⟩ = some (.slice ga3 gn3 gc3) ∧ X.cell? ⟨w.heap.size + 1, 4, none⟩ = some (.bool gb)) := Lib.hid (fun X hX => ⟨cell_of_row X _ 0 _ _ _ (HX.out X hX).1, cell_of_row X _ 1 _ _ _ (HX.out X hX).1, cell_of_row X _ 2 _ _ _ (HX.out X hX).1, cell_of_row X _ 3 _ _ _ (HX.out X hX).1, cell_of_row X _ 0 _ _ _ (HX.out X hX).2, cell_of_row X _ 1 _ _ _ (HX.out X hX).2, cell_of_row X _ 2 _ _ _ (HX.out X hX).2, cell_of_row X _ 3 _ _ _ (HX.out X hX).2, cell_of_row X _ 4 _ _ _ (HX.out X hX).2⟩)
  have hS1 := HXc.out w1 (Below.refl _ _)
  clear hA1 hG1 HX hs1 hf1 hs2 hf2 hbz
  refine wp_region_held_drew (S := (fun X => X.cell? ⟨w.heap.size, 0, none⟩ = some (.string ap) ∧ X.cell? ⟨w.heap.size, 1, none⟩ = some (.slice aad aan aac) ∧ X.cell? ⟨w.heap.size, 2, none⟩ = some (.slice arg arn arc) ∧ X.cell? ⟨w.heap.size, 3, none⟩ = some (.string at1) ∧ X.cell? ⟨w.heap.size + 1, 0, none⟩ = some (.int .i64 gn) ∧ X.cell? ⟨w.heap.size + 1, 1, none⟩ = some (.slice ga1 gn1 gc1) ∧ X.cell? ⟨w.heap.size + 1, 2, none⟩ = some (.slice ga2 gn2 gc2) ∧ X.cell? ⟨w.heap.size + 1, 3, none⟩ = some (.slice ga3 gn3 gc3) ∧ X.cell? ⟨w.heap.size + 1, 4, none⟩ = some (.bool gb))) (by kernel_rfl) ?hS0 (fun hHeld => ?hR0)
  case hS0 => exact hS1
  case hR0 =>
   refine tk 0 ?_
   try simp only [Act.put, gA, gB, gC, gD, gE, gF]
   refine tk 2 ?_
   try simp only [Act.put, gA, gB, gC, gD, gE, gF]
   refine wpAnyH_ready (rs := [1]) (by kernel_rfl) (by simp) ?_
   refine AllReadyH.cons rfl (fun K hK => ?_) .nil
   try simp only [gA, gB, gC]
   go_simp
   go_at_call 11
   (with_reducible refine (HCb.out _ ((Below.refl w1.heap.size w1).drew)).mono ?_)
   rintro e wP ⟨vP, TP, rfl, hFP, hTP, hbP⟩
   obtain ⟨dP, rP, rfl, hdP, hrP⟩ := hFP.self
   obtain ⟨aP, mP, cP, rfl, _, _, _, _⟩ := ListV.open hdP
   obtain ⟨zP, nP, gP, rfl, _, _, _, _⟩ := ListV.open hrP
   clear hdP hrP
   have fP : Below w1.heap.size w1 wP := ((Below.refl w1.heap.size w1).drew).trans (hbP.mono ((Below.refl w1.heap.size w1).drew).size)
   go_wp2_with fail
   refine hK.out _ _ (HXc.out _ fP) (fun hHeld => ?_)
   clear hK K
   try simp only [Act.put, gA, gB, gC, gD, gE, gF]
   refine wpAnyH_ready (rs := [3]) (by kernel_rfl) (by simp) ?_
   refine AllReadyH.cons rfl (fun K hK => ?_) .nil
   try simp only [gA, gB, gC]
   go_simp
   go_at_call 12
   (with_reducible refine (HSb.out _ (fP)).mono ?_)
   rintro e wQ ⟨dQ, rQ, mQ, cQ, nQ, gQ, TQ, rfl, hFQ, hTQ, hbQ⟩
   have fQ : Below w1.heap.size w1 wQ := (fP).trans (hbQ.mono (fP).size)
   go_wp2_with fail
   refine hK.out _ _ (HXc.out _ fQ) (fun hHeld => ?_)
   clear hK K
   try simp only [Act.put, gA, gB, gC, gD, gE, gF]
   refine wpAnyH_ready (rs := [4]) (by kernel_rfl) (by simp) ?_
   refine AllReadyH.cons rfl (fun K hK => ?_) .nil
   try simp only [gA, gB, gC]
   go_simp
   have kL := (fQ).alloc (fQ).size (.cells #[.string s1.pro, .slice aP mP cP, .slice zP nP gP, .string s1.tail, .string ⟨#[]⟩, .slice dQ mQ cQ, .slice rQ nQ gQ, .string ⟨#[]⟩] 25)
   refine hK.out _ _ (HXc.out _ kL) (fun hHeld => ?_)
   clear hK K
   try simp only [Act.put, gA, gB, gC, gD, gE, gF]
   refine tk 5 ?_
   try simp only [Act.put, gA, gB, gC, gD, gE, gF]
   refine wpAnyH_done (by kernel_rfl) ?_ _
   go_wp2_with fail
   go_meet
   case rel =>
    have kk := (Below.refl wQ.heap.size wQ).alloc (Nat.le_refl _) (.cells #[.string s1.pro, .slice aP mP cP, .slice zP nP gP, .string s1.tail, .string ⟨#[]⟩, .slice dQ mQ cQ, .slice rQ nQ gQ, .string ⟨#[]⟩] 25)
    have hrow := heap_new wQ #[.string s1.pro, .slice aP mP cP, .slice zP nP gP, .string s1.tail, .string ⟨#[]⟩, .slice dQ mQ cQ, .slice rQ nQ gQ, .string ⟨#[]⟩] 25 _ rfl
    refine ⟨wQ.heap.size, aP, zP, dQ, rQ, mP, cP, nP, gP, mQ, cQ, nQ, gQ, rfl, kL, ?_, bk_firm (hFP.below hbQ) kk, ?_⟩
    · rw [hp2, ht2]; exact hrow
    · rw [hp2, ht2]; exact bk_firm hFQ kk
 case rest =>
  obtain ⟨B, d1, e1, d2, e2, m1, c1, n1, g1, m2, c2, n2, g2, rfl, hbB, hBB, hv1, hv2⟩ := hcut
  rename World => w2
  have hb2 := hbz.trans (hbB.mono hbz.size)
  clear HX HCb HSb hA1 hG1 hp2 ht2 hbB hbz
  have HBk : Hid (∀ X, Below w2.heap.size w2 X → X.heap[B]? = some (.cells #[.string s1.pro, .slice d1 m1 c1, .slice e1 n1 g1, .string s1.tail, .string s2.pro, .slice d2 m2 c2, .slice e2 n2 g2, .string s2.tail] 25 (0, 0))) := Lib.hid (fun X h => (h.block B (Array.getElem?_eq_some_iff.1 hBB).1).trans hBB)
  have HAt : Hid (∀ k, k < 2 → ∃ (s : So) (d e : Option Addr) (m c n g : Nat), SoSmall s ∧ SoB s ∧ ∀ X, Below w2.heap.size w2 X → SoV X (.agg #[.string s.pro, .slice d m c, .slice e n g, .string s.tail]) s ∧ X.cell? ⟨B, k * 4, none⟩ = some (.string s.pro) ∧ X.cell? ⟨B, k * 4 + 1, none⟩ = some (.slice d m c) ∧ X.cell? ⟨B, k * 4 + 2, none⟩ = some (.slice e n g) ∧ X.cell? ⟨B, k * 4 + 3, none⟩ = some (.string s.tail)) := Lib.hid (fun k hk => by
   match k, hk with
   | 0, _ => exact ⟨s1, d1, e1, m1, c1, n1, g1, hs1, hf1, fun X h => ⟨hv1.below h, cell_of_row X _ 0 _ _ _ (HBk.out X h), cell_of_row X _ 1 _ _ _ (HBk.out X h), cell_of_row X _ 2 _ _ _ (HBk.out X h), cell_of_row X _ 3 _ _ _ (HBk.out X h)⟩⟩
   | 1, _ => exact ⟨s2, d2, e2, m2, c2, n2, g2, hs2, hf2, fun X h => ⟨hv2.below h, cell_of_row X _ 4 _ _ _ (HBk.out X h), cell_of_row X _ 5 _ _ _ (HBk.out X h), cell_of_row X _ 6 _ _ _ (HBk.out X h), cell_of_row X _ 7 _ _ _ (HBk.out X h)⟩⟩)
  clear hv1 hv2 hs1 hs2 hf1 hf2 HBk hBB
  go_wp2_with fail
  go_loopw [10] (fun x6 X => ∃ k : Nat, k ≤ 2 ∧ x6 = .int .i64 k ∧ Below w2.heap.size w2 X) (fun x6 _ => 2 - (intOf x6).toNat)
  case atStart => exact ⟨0, Nat.zero_le _, rfl, Below.refl _ _⟩
  case round =>
   obtain ⟨k, hk, rfl, hbr⟩ := hrel
   rename World => W
   by_cases hlt : k < 2
   · obtain ⟨s, d, e, m, c, n, gg, hS, hF, hAt⟩ := HAt.out k hlt
     obtain ⟨hv, x0, x1, x2, x3⟩ := hAt W hbr
     have i1 : (k : Int) < 2 := by omega
     have hbW := hb2.trans (hbr.mono hb2.size)
     have HGr := Lib.hid (grammar_any hv hS hF)
     unfold GrGo at HGr
     have HOK := Lib.hid (fun h => okOf_w (so := s) h)
     clear hAt hv hS hF
     generalize okOf s = ok at HGr HOK
     generalize gmOf s = g at HGr HOK
     generalize hpr : g.pro = pr at HGr
     generalize htl : g.tail = tl at HGr
     go_upto_region 8 with (first | (go_at_call 13; (with_reducible refine HGr.out.mono ?_); rintro e w3 ⟨t, n, p, m1, d1, m2, d2, m3, d3, S, rfl, hFg, hSg, hb3⟩))
     have hk4 : Below w3.heap.size w3 (w3.alloc (.cells #[.slice t m1 d1, .slice n m2 d2, .slice p m3 d3, .string pr, .string tl] 38)) := (Below.refl _ _).alloc (Nat.le_refl _) _
     have hrN := ofMade w3 #[.slice t m1 d1, .slice n m2 d2, .slice p m3 d3, .string pr, .string tl] 38 w3.heap.size rfl
     have hFg4 := hFg.below hk4
     have hbr4 := (hbr.trans (hb3.mono hbr.size)).trans (hk4.mono (hbr.trans (hb3.mono hbr.size)).size)
     clear HGr hFg hb3 hk4 x0 x1 x2 x3 hSg
     generalize w3.alloc (.cells #[.slice t m1 d1, .slice n m2 d2, .slice p m3 d3, .string pr, .string tl] 38) = W4 at *
     generalize w3.heap.size = Bg at *
     have HG : Hid (∀ X, Below W4.heap.size W4 X → GmO X t n p m1 d1 m2 d2 m3 d3 pr tl g ∧ X.cell? ⟨Bg, 0, none⟩ = some (.slice t m1 d1) ∧ X.cell? ⟨Bg, 1, none⟩ = some (.slice n m2 d2) ∧ X.cell? ⟨Bg, 2, none⟩ = some (.slice p m3 d3) ∧ X.cell? ⟨Bg, 3, none⟩ = some (.string pr) ∧ X.cell? ⟨Bg, 4, none⟩ = some (.string tl)) := Lib.hid (fun X hX => by
      have hr := (hX.block Bg (Array.getElem?_eq_some_iff.1 hrN).1).trans hrN
      refine ⟨bk_firm hFg4 hX, cell_of_row X _ 0 _ _ _ hr, cell_of_row X _ 1 _ _ _ hr, cell_of_row X _ 2 _ _ _ hr, cell_of_row X _ 3 _ _ _ hr, cell_of_row X _ 4 _ _ _ hr⟩)
     clear hFg4 hrN hpr htl
     cases ok with
     | false =>
       go_wp2_with fail
       go_round
       case rel => exact ⟨k + 1, by omega, by go_num, hbr4⟩
       case measure => simp [intOf]; omega
     | true =>
       have hGW := Lib.hid (HOK.out rfl)
       have K0 := HG.out _ (Below.refl _ _)
       obtain ⟨_, _, _, e3, hl3, _, _, _⟩ := K0.1.pd.open
       obtain ⟨_, _, _, e1, hl1, _, _, _⟩ := K0.1.tk.open
       cases e3
       cases e1
       have q3 : m3 ≤ 60 := by have := hGW.out.pd; have := hl3.out; omega
       have q1 : m1 ≤ 40 := by have := hGW.out.tk; have := hl1.out; omega
       obtain ⟨_, j0, j1, j2, j3, j4⟩ := K0
       clear HOK hl3 hl1
       go_wp2_with fail
       clear j0 j1 j2 j3 j4
       go_loopw [13] (fun x13 X => ∃ q : Nat, q ≤ m3 + 2 ∧ x13 = .int .i64 ((q : Int) - 1) ∧ Below W4.heap.size W4 X) (fun x13 _ => m3 + 2 - (intOf x13 + 1).toNat)
       case atStart => exact ⟨0, Nat.zero_le _, by rfl, Below.refl _ _⟩
       case round =>
        obtain ⟨q, hq, rfl, f4⟩ := hrel
        rename World => U
        have K1 := HG.out _ f4
        obtain ⟨_, k0, k1, k2, k3, k4⟩ := id K1
        by_cases hql : q ≤ m3 + 1
        · have i2 : ((q : Int) - 1) ≤ (m3 : Int) := by omega
          generalize hqq : (q : Int) - 1 = qq at *
          go_upto_region 14 with (first | (go_at_call 14; (with_reducible refine (prule_any K1.1 _).mono ?_); rintro e w5 ⟨rfl, hb5⟩; have f5 := f4.trans (hb5.mono f4.size); have K2 := HG.out _ f5; obtain ⟨_, l0, l1, l2, l3, l4⟩ := id K2) | (go_at_call 15; (with_reducible refine (rrule_any K2.1 hGW.out _).mono ?_); rintro e w6 ⟨rfl, hb6⟩; have f6 := f5.trans (hb6.mono f5.size); have K3 := HG.out _ f6; obtain ⟨_, o0, o1, o2, o3, o4⟩ := id K3))
          have v0 := over_cell o0
          have v1 := over_cell o1
          have v2 := over_cell o2
          have v3 := over_cell o3
          have v4 := over_cell o4
          have HPd := Lib.hid (fun (V : World) => pdec_any (HG.out _ (f6.trans ((over_below w6 V).mono f6.size))).1 qq tt)
          have HRd := Lib.hid (fun (V : World) => rdec_any (HG.out _ (f6.trans ((over_below w6 V).mono f6.size))).1 hGW.out qq tt)
          generalize decLv g qq tt = DV at HPd HRd
          generalize (ruleLv g qq).fst = RA at *
          generalize (ruleLv g qq).snd = RB at *
          refine wp_region_over (by kernel_rfl) (by kernel_rfl) ?_
          repeat (first | go_big_quiet_skip | (go_big_quiet_want; go_big_quiet_op; first | go_big_quiet_on | (apply Exists.intro; refine ⟨fun _ => ?_, ?_⟩; (first | (go_at_call 16; exact calls_over (HPd.out _) (fun e w1 h => h)) | (go_at_call 17; exact calls_over (HRd.out _) (fun e w1 h => h))); go_big_quiet_on)))
          refine wpQuiet_nil ?_
          intro _ hw'
          obtain ⟨V9, hw''⟩ := hw'
          subst hw''
          have hz := over_below w6 V9
          generalize over w6 V9 = w7 at hz ⊢
          have f7 := f6.trans (hz.mono f6.size)
          have K4 := HG.out _ f7
          clear HPd HRd v0 v1 v2 v3 v4 o0 o1 o2 o3 o4 K3 hz f6 hb6 hb5 f5 K2 l0 l1 l2 l3 l4 K1 k0 k1 k2 k3 k4
          obtain ⟨_, k0, k1, k2, k3, k4⟩ := K4
          go_wp2_with fail
          clear k0 k1 k2 k3 k4
          rename World => w7
          go_loopw [18] (fun x18 X => ∃ r : Nat, r ≤ m1 + 2 ∧ x18 = .int .i64 ((r : Int) - 1) ∧ Below W4.heap.size W4 X) (fun x18 _ => m1 + 2 - (intOf x18 + 1).toNat)
          case atStart => exact ⟨0, Nat.zero_le _, by rfl, f7⟩
          case round =>
           clear f7
           obtain ⟨r, hr, rfl, f8⟩ := hrel
           rename World => Y
           have K5 := HG.out _ f8
           obtain ⟨_, k0, k1, k2, k3, k4⟩ := id K5
           by_cases hrl : r ≤ m1 + 1
           · have i3 : ((r : Int) - 1) ≤ (m1 : Int) := by omega
             generalize hrr : (r : Int) - 1 = rr at *
             have v0 := over_cell k0
             have v1 := over_cell k1
             have v2 := over_cell k2
             have v3 := over_cell k3
             have v4 := over_cell k4
             have HPd := Lib.hid (fun (V : World) => pdec_any (HG.out _ (f8.trans ((over_below Y V).mono f8.size))).1 qq rr)
             have HRd := Lib.hid (fun (V : World) => rdec_any (HG.out _ (f8.trans ((over_below Y V).mono f8.size))).1 hGW.out qq rr)
             generalize decLv g qq rr = DV2 at HPd HRd
             go_upto_region 19 with fail
             refine wp_region_over (by kernel_rfl) (by kernel_rfl) ?_
             repeat (first | go_big_quiet_skip | (go_big_quiet_want; go_big_quiet_op; first | go_big_quiet_on | (apply Exists.intro; refine ⟨fun _ => ?_, ?_⟩; (first | (go_at_call 16; exact calls_over (HPd.out _) (fun e w1 h => h)) | (go_at_call 17; exact calls_over (HRd.out _) (fun e w1 h => h))); go_big_quiet_on)))
             refine wpQuiet_nil ?_
             intro _ hw'
             obtain ⟨V9, hw''⟩ := hw'
             subst hw''
             have hz := over_below Y V9
             generalize over Y V9 = w9 at hz ⊢
             have f9 := f8.trans (hz.mono f8.size)
             clear HPd HRd v0 v1 v2 v3 v4 K5 hz f8 k0 k1 k2 k3 k4
             subst hrr
             go_wp2_with fail
             go_round
             case rel => exact ⟨r + 1, by omega, by go_num, f9⟩
             case measure => simp [intOf]; omega
           · obtain rfl : r = m1 + 2 := by omega
             have i3 : ¬ (((m1 + 2 : Nat) : Int) - 1) ≤ (m1 : Int) := by omega
             subst hqq
             go_wp2_with fail
             go_round
             case rel => exact ⟨q + 1, by omega, by go_num, f8⟩
             case measure => simp [intOf]; omega
        · obtain rfl : q = m3 + 2 := by omega
          have i2 : ¬ (((m3 + 2 : Nat) : Int) - 1) ≤ (m3 : Int) := by omega
          go_upto_region 23 with (first | (go_at_call 14; (with_reducible refine (prule_any K1.1 _).mono ?_); rintro e w5 ⟨rfl, hb5⟩; have f5 := f4.trans (hb5.mono f4.size); have K2 := HG.out _ f5; obtain ⟨_, l0, l1, l2, l3, l4⟩ := id K2) | (go_at_call 15; (with_reducible refine (rrule_any K2.1 hGW.out _).mono ?_); rintro e w6 ⟨rfl, hb6⟩; have f6 := f5.trans (hb6.mono f5.size); have K3 := HG.out _ f6; obtain ⟨_, o0, o1, o2, o3, o4⟩ := id K3))
          have v0 := over_cell o0
          have v1 := over_cell o1
          have v2 := over_cell o2
          have v3 := over_cell o3
          have v4 := over_cell o4
          have HPd := Lib.hid (fun (V : World) => pdec_any (HG.out _ (f6.trans ((over_below w6 V).mono f6.size))).1 pp tt)
          have HRd := Lib.hid (fun (V : World) => rdec_any (HG.out _ (f6.trans ((over_below w6 V).mono f6.size))).1 hGW.out pp tt)
          generalize decLv g pp tt = DV at HPd HRd
          generalize (ruleLv g pp).fst = RA at *
          generalize (ruleLv g pp).snd = RB at *
          refine wp_region_over (by kernel_rfl) (by kernel_rfl) ?_
          repeat (first | go_big_quiet_skip | (go_big_quiet_want; go_big_quiet_op; first | go_big_quiet_on | (apply Exists.intro; refine ⟨fun _ => ?_, ?_⟩; (first | (go_at_call 16; exact calls_over (HPd.out _) (fun e w1 h => h)) | (go_at_call 17; exact calls_over (HRd.out _) (fun e w1 h => h))); go_big_quiet_on)))
          refine wpQuiet_nil ?_
          intro _ hw'
          obtain ⟨V9, hw''⟩ := hw'
          subst hw''
          have hz := over_below w6 V9
          generalize over w6 V9 = w7 at hz ⊢
          have f7 := f6.trans (hz.mono f6.size)
          clear HPd HRd v0 v1 v2 v3 v4 o0 o1 o2 o3 o4 K3 hz f6 hb6 hb5 f5 K2 l0 l1 l2 l3 l4 K1 k0 k1 k2 k3 k4
          go_wp2_with fail
          go_round
          case rel => exact ⟨k + 1, by omega, by go_num, hbr4.trans (f7.mono hbr4.size)⟩
          case measure => simp [intOf]; omega
   · obtain rfl : k = 2 := by omega
     have hbW := hb2.trans (hbr.mono hb2.size)
     go_wp2_with fail
     go_ret
     exact ⟨rfl, hbW⟩
end Go.Proofs.Ytkgbifbbpmdpgaa
