/- The law NumsTells walked. -/
import Derived.Test.YtkgbifbbpmdpgaaNPr1
import Derived.Test.YtkgbifbbpmdpgaaNGrW4
import Derived.Test.YtkgbifbbpmdpgaaNGrQ
import Derived.Test.YtkgbifbbpmdpgaaNCutB
import Derived.Test.YtkgbifbbpmdpgaaNNmW
import Derived.Test.YtkgbifbbpmdpgaaNREnd
import Derived.IntWalk
import Derived.Outline
import Derived.Deep.DeepCutAuto
import Derived.Deep.Cut
import Derived.Deep.CutRange
set_option linter.unusedVariables false
set_option linter.unusedSimpArgs false
namespace Go.Proofs.Ytkgbifbbpmdpgaa

open List renaming getElem_toArray → gA, getElem_cons_succ → gB, getElem_cons_zero → gC, setIfInBounds_toArray → gD, set_cons_zero → gE, set_cons_succ → gF
open Go.RowKit
theorem bk_firm {S : Nat → Prop} {w1 w2 : World} {Q : World → Prop} (h : Firm S w1 Q) (hb : Below w1.heap.size w1 w2) : Q w2 := (h.below hb).self
def TwoB (w : World) (s1 s2 : So) (x : Value) (W : World) : Prop := ∃ (B : Nat) (d1 e1 d2 e2 : Option Addr) (m1 c1 n1 g1 m2 c2 n2 g2 : Nat), x = .slice (some ⟨B, 0, none⟩) 2 2 ∧ Below w.heap.size w W ∧
 W.heap[B]? = some (.cells #[.string s1.pro, .slice d1 m1 c1, .slice e1 n1 g1, .string s1.tail, .string s2.pro, .slice d2 m2 c2, .slice e2 n2 g2, .string s2.tail] 25 (0, 0)) ∧ SoV W (.agg #[.string s1.pro, .slice d1 m1 c1, .slice e1 n1 g1, .string s1.tail]) s1 ∧ SoV W (.agg #[.string s2.pro, .slice d2 m2 c2, .slice e2 n2 g2, .string s2.tail]) s2
set_option maxRecDepth 100000 in
set_option maxHeartbeats 40000000 in
theorem numsTells_any (va : Value) (a : So) (vg : Value) (g : Gr) (nn : Int) (near : Int) {w : World} (ha : SoV w va a) (hIa : SoIn a) (hg : GrV w vg g) (hIg : GrIn g) (hnn : (Lit.int .i64 nn).wf = true) (hnear : (Lit.int .i64 near).wf = true) :
  Calls Try.prog 7 #[va, vg, .int .i64 nn, .int .i64 near] w fun e w' => e = .returned (.bool true) ∧ Below w.heap.size w w' := by
 have HCa := Lib.hid (fun (X : World) (hX : Below w.heap.size w X) => cut_any va a X (ha.below hX) hIa)
 have HSg := Lib.hid (fun (X : World) (hX : Below w.heap.size w X) => source_any vg g X (hg.below hX) hIg)
 obtain ⟨hs1, hf1⟩ := So.cut_small a
 obtain ⟨hs2, hf2⟩ := srcG_small g
 have hp2 : (srcG g).pro = ⟨#[]⟩ := rfl
 have ht2 : (srcG g).tail = ⟨#[]⟩ := rfl
 unfold SoGoes at HCa
 unfold SrcGo at HSg
 generalize a.cut = s1 at HCa hs1 hf1
 generalize srcG g = s2 at HSg hs2 hf2 hp2 ht2
 obtain ⟨ad, ar, rfl, hd, hr⟩ := ha
 obtain ⟨aad, aan, aac, rfl, _, _, _, _⟩ := hd.open
 obtain ⟨arg, arn, arc, rfl, _, _, _, _⟩ := hr.open
 obtain ⟨rv, lv, iv, rfl, hrv, hlv, hiv⟩ := hg.is
 obtain ⟨ga1, gn1, gc1, rfl, _, _, _, _⟩ := hrv.open
 obtain ⟨ga2, gn2, gc2, rfl, _, _, _, _⟩ := hlv.open
 obtain ⟨ga3, gn3, gc3, rfl, _, _, _, _⟩ := hiv.open
 generalize a.pro = ap at HCa ⊢
 generalize a.tail = at1 at HCa ⊢
 generalize g.nons = gn at HSg ⊢
 generalize g.bare = gb at HSg ⊢
 clear hd hr hg hrv hlv hiv hIa hIg
 have hb1 := ((Below.refl w.heap.size w).alloc (Nat.le_refl _) (.cells #[.string ap, .slice aad aan aac, .slice arg arn arc, .string at1] 25)).alloc (by simp) (.cells #[.int .i64 gn, .slice ga1 gn1 gc1, .slice ga2 gn2 gc2, .slice ga3 gn3 gc3, .bool gb] 29)
 have hA0 := heap_put (w.alloc (.cells #[.string ap, .slice aad aan aac, .slice arg arn arc, .string at1] 25)) (.cells #[.int .i64 gn, .slice ga1 gn1 gc1, .slice ga2 gn2 gc2, .slice ga3 gn3 gc3, .bool gb] 29) (heap_new w #[.string ap, .slice aad aan aac, .slice arg arn arc, .string at1] 25 _ rfl)
 have hG0 := heap_new (w.alloc (.cells #[.string ap, .slice aad aan aac, .slice arg arn arc, .string at1] 25)) #[.int .i64 gn, .slice ga1 gn1 gc1, .slice ga2 gn2 gc2, .slice ga3 gn3 gc3, .bool gb] 29 (w.heap.size + 1) (World.size_alloc _ _).symm
 have hz0 : ((w.alloc (.cells #[.string ap, .slice aad aan aac, .slice arg arn arc, .string at1] 25)).alloc (.cells #[.int .i64 gn, .slice ga1 gn1 gc1, .slice ga2 gn2 gc2, .slice ga3 gn3 gc3, .bool gb] 29)).heap.size = w.heap.size + 2 := by simp
 have HW := Lib.hid (numWakes_any ((w.alloc (.cells #[.string ap, .slice aad aan aac, .slice arg arn arc, .string at1] 25)).alloc (.cells #[.int .i64 gn, .slice ga1 gn1 gc1, .slice ga2 gn2 gc2, .slice ga3 gn3 gc3, .bool gb] 29)))
 go_enter Try.func7, Try.ntmps7
 go_upto_region 3 with (first | (go_at_call 21; (with_reducible refine HW.out.mono ?_); rintro e w1 ⟨rfl, hbw⟩))
 have hbz := hb1.trans (hbw.mono hb1.size)
 have hA1 := (hbw.block w.heap.size (by omega)).trans hA0
 have hG1 := (hbw.block (w.heap.size + 1) (by omega)).trans hG0
 have HX := Lib.hid (fun (X : World) (hX : Below w1.heap.size w1 X) => And.intro ((hX.block w.heap.size (Array.getElem?_eq_some_iff.1 hA1).1).trans hA1) ((hX.block (w.heap.size + 1) (Array.getElem?_eq_some_iff.1 hG1).1).trans hG1))
 have HCb := Lib.hid (fun (X : World) (hX : Below w1.heap.size w1 X) => HCa.out X (hbz.trans (hX.mono hbz.size)))
 have HSb := Lib.hid (fun (X : World) (hX : Below w1.heap.size w1 X) => HSg.out X (hbz.trans (hX.mono hbz.size)))
 clear HW HCa HSg hA0 hG0 hz0 hb1 hbw
 go_cut [9] from 17 to 21 (fun (x5 : Value) wx => TwoB w1 s1 s2 x5 wx)
 case first =>
  have HXc : Hid (∀ X, Below w1.heap.size w1 X → X.cell? ⟨w.heap.size, 0, none⟩ = some (.string ap) ∧ X.cell? ⟨w.heap.size, 1, none⟩ = some (.slice aad aan aac) ∧ X.cell? ⟨w.heap.size, 2, none⟩ = some (.slice arg arn arc) ∧ X.cell? ⟨w.heap.size, 3, none⟩ = some (.string at1) ∧ X.cell? ⟨w.heap.size + 1, 0, none⟩ = some (.int .i64 gn) ∧ X.cell? ⟨w.heap.size + 1, 1, none⟩ = some (.slice ga1 gn1 gc1) ∧ X.cell? ⟨w.heap.size + 1, 2, none⟩ = some (.slice ga2 gn2 gc2) ∧ X.cell? ⟨w.heap.size + 1, 3, none⟩ = some (.slice ga3 gn3 gc3) ∧ X.cell? ⟨w.heap.size + 1, 4, none⟩ = some (.bool gb)) := Lib.hid (fun X hX => ⟨cell_of_row X _ 0 _ _ _ (HX.out X hX).1, cell_of_row X _ 1 _ _ _ (HX.out X hX).1, cell_of_row X _ 2 _ _ _ (HX.out X hX).1, cell_of_row X _ 3 _ _ _ (HX.out X hX).1, cell_of_row X _ 0 _ _ _ (HX.out X hX).2, cell_of_row X _ 1 _ _ _ (HX.out X hX).2, cell_of_row X _ 2 _ _ _ (HX.out X hX).2, cell_of_row X _ 3 _ _ _ (HX.out X hX).2, cell_of_row X _ 4 _ _ _ (HX.out X hX).2⟩)
  have hS1 := HXc.out w1 (Below.refl _ _)
  clear hA1 hG1 HX hs1 hf1 hs2 hf2 hbz
  refine wp_region_held_drew (S := (fun X => X.cell? ⟨w.heap.size, 0, none⟩ = some (.string ap) ∧ X.cell? ⟨w.heap.size, 1, none⟩ = some (.slice aad aan aac) ∧ X.cell? ⟨w.heap.size, 2, none⟩ = some (.slice arg arn arc) ∧ X.cell? ⟨w.heap.size, 3, none⟩ = some (.string at1) ∧ X.cell? ⟨w.heap.size + 1, 0, none⟩ = some (.int .i64 gn) ∧ X.cell? ⟨w.heap.size + 1, 1, none⟩ = some (.slice ga1 gn1 gc1) ∧ X.cell? ⟨w.heap.size + 1, 2, none⟩ = some (.slice ga2 gn2 gc2) ∧ X.cell? ⟨w.heap.size + 1, 3, none⟩ = some (.slice ga3 gn3 gc3) ∧ X.cell? ⟨w.heap.size + 1, 4, none⟩ = some (.bool gb))) (by kernel_rfl) ?hS0 (fun hHeld => ?hR0)
  case hS0 => exact hS1
  case hR0 =>
   refine tk 0 ?_
   try simp only [Act.put, gA, gB, gC, gD, gE, gF]
   refine tk 2 ?_
   try simp only [Act.put, gA, gB, gC, gD, gE, gF]
   refine wpAnyH_ready (rs := [1]) (by kernel_rfl) (by simp) ?_
   refine AllReadyH.cons rfl (fun K hK => ?_) .nil
   try simp only [gA, gB, gC]
   go_simp
   go_at_call 11
   (with_reducible refine (HCb.out _ ((Below.refl w1.heap.size w1).drew)).mono ?_)
   rintro e wP ⟨vP, TP, rfl, hFP, hTP, hbP⟩
   obtain ⟨dP, rP, rfl, hdP, hrP⟩ := hFP.self
   obtain ⟨aP, mP, cP, rfl, _, _, _, _⟩ := ListV.open hdP
   obtain ⟨zP, nP, gP, rfl, _, _, _, _⟩ := ListV.open hrP
   clear hdP hrP
   have fP : Below w1.heap.size w1 wP := ((Below.refl w1.heap.size w1).drew).trans (hbP.mono ((Below.refl w1.heap.size w1).drew).size)
   go_wp2_with fail
   refine hK.out _ _ (HXc.out _ fP) (fun hHeld => ?_)
   clear hK K
   try simp only [Act.put, gA, gB, gC, gD, gE, gF]
   refine wpAnyH_ready (rs := [3]) (by kernel_rfl) (by simp) ?_
   refine AllReadyH.cons rfl (fun K hK => ?_) .nil
   try simp only [gA, gB, gC]
   go_simp
   go_at_call 12
   (with_reducible refine (HSb.out _ (fP)).mono ?_)
   rintro e wQ ⟨dQ, rQ, mQ, cQ, nQ, gQ, TQ, rfl, hFQ, hTQ, hbQ⟩
   have fQ : Below w1.heap.size w1 wQ := (fP).trans (hbQ.mono (fP).size)
   go_wp2_with fail
   refine hK.out _ _ (HXc.out _ fQ) (fun hHeld => ?_)
   clear hK K
   try simp only [Act.put, gA, gB, gC, gD, gE, gF]
   refine wpAnyH_ready (rs := [4]) (by kernel_rfl) (by simp) ?_
   refine AllReadyH.cons rfl (fun K hK => ?_) .nil
   try simp only [gA, gB, gC]
   go_simp
   have kL := (fQ).alloc (fQ).size (.cells #[.string s1.pro, .slice aP mP cP, .slice zP nP gP, .string s1.tail, .string ⟨#[]⟩, .slice dQ mQ cQ, .slice rQ nQ gQ, .string ⟨#[]⟩] 25)
   refine hK.out _ _ (HXc.out _ kL) (fun hHeld => ?_)
   clear hK K
   try simp only [Act.put, gA, gB, gC, gD, gE, gF]
   refine tk 5 ?_
   try simp only [Act.put, gA, gB, gC, gD, gE, gF]
   refine wpAnyH_done (by kernel_rfl) ?_ _
   go_wp2_with fail
   go_meet
   case rel =>
    have kk := (Below.refl wQ.heap.size wQ).alloc (Nat.le_refl _) (.cells #[.string s1.pro, .slice aP mP cP, .slice zP nP gP, .string s1.tail, .string ⟨#[]⟩, .slice dQ mQ cQ, .slice rQ nQ gQ, .string ⟨#[]⟩] 25)
    have hrow := heap_new wQ #[.string s1.pro, .slice aP mP cP, .slice zP nP gP, .string s1.tail, .string ⟨#[]⟩, .slice dQ mQ cQ, .slice rQ nQ gQ, .string ⟨#[]⟩] 25 _ rfl
    refine ⟨wQ.heap.size, aP, zP, dQ, rQ, mP, cP, nP, gP, mQ, cQ, nQ, gQ, rfl, kL, ?_, bk_firm (hFP.below hbQ) kk, ?_⟩
    · rw [hp2, ht2]; exact hrow
    · rw [hp2, ht2]; exact bk_firm hFQ kk
 case rest =>
  obtain ⟨B, d1, e1, d2, e2, m1, c1, n1, g1, m2, c2, n2, g2, rfl, hbB, hBB, hv1, hv2⟩ := hcut
  rename World => w2
  have hb2 := hbz.trans (hbB.mono hbz.size)
  clear HX HCb HSb hA1 hG1 hp2 ht2 hbB hbz
  have HBk : Hid (∀ X, Below w2.heap.size w2 X → X.heap[B]? = some (.cells #[.string s1.pro, .slice d1 m1 c1, .slice e1 n1 g1, .string s1.tail, .string s2.pro, .slice d2 m2 c2, .slice e2 n2 g2, .string s2.tail] 25 (0, 0))) := Lib.hid (fun X h => (h.block B (Array.getElem?_eq_some_iff.1 hBB).1).trans hBB)
  have HAt : Hid (∀ k, k < 2 → ∃ (s : So) (d e : Option Addr) (m c n g : Nat), SoSmall s ∧ SoB s ∧ ∀ X, Below w2.heap.size w2 X → SoV X (.agg #[.string s.pro, .slice d m c, .slice e n g, .string s.tail]) s ∧ X.cell? ⟨B, k * 4, none⟩ = some (.string s.pro) ∧ X.cell? ⟨B, k * 4 + 1, none⟩ = some (.slice d m c) ∧ X.cell? ⟨B, k * 4 + 2, none⟩ = some (.slice e n g) ∧ X.cell? ⟨B, k * 4 + 3, none⟩ = some (.string s.tail)) := Lib.hid (fun k hk => by
   match k, hk with
   | 0, _ => exact ⟨s1, d1, e1, m1, c1, n1, g1, hs1, hf1, fun X h => ⟨hv1.below h, cell_of_row X _ 0 _ _ _ (HBk.out X h), cell_of_row X _ 1 _ _ _ (HBk.out X h), cell_of_row X _ 2 _ _ _ (HBk.out X h), cell_of_row X _ 3 _ _ _ (HBk.out X h)⟩⟩
   | 1, _ => exact ⟨s2, d2, e2, m2, c2, n2, g2, hs2, hf2, fun X h => ⟨hv2.below h, cell_of_row X _ 4 _ _ _ (HBk.out X h), cell_of_row X _ 5 _ _ _ (HBk.out X h), cell_of_row X _ 6 _ _ _ (HBk.out X h), cell_of_row X _ 7 _ _ _ (HBk.out X h)⟩⟩)
  clear hv1 hv2 hs1 hs2 hf1 hf2 HBk hBB
  have HWt : Hid (∀ W, Calls Try.prog 20 #[.int .i64 near, .int .i64 140] W fun e w' => e = .returned (.int .i64 (near % 140)) ∧ W = w') := Lib.hid (fun (W : World) => within_any near 140 W hnear (by omega) (by omega))
  go_wp2_with fail
  go_loopw [10] (fun x6 X => ∃ k : Nat, k ≤ 2 ∧ x6 = .int .i64 k ∧ Below w2.heap.size w2 X) (fun x6 _ => 2 - (intOf x6).toNat)
  case atStart => exact ⟨0, Nat.zero_le _, rfl, Below.refl _ _⟩
  case round =>
   obtain ⟨k, hk, rfl, hbr⟩ := hrel
   rename World => W
   by_cases hlt : k < 2
   · obtain ⟨s, d, e, m, c, n, gg, hS, hF, hAt⟩ := HAt.out k hlt
     have HNW := Lib.hid (fun h => nums_ok (so := s) h)
     obtain ⟨hv, x0, x1, x2, x3⟩ := hAt W hbr
     have i1 : (k : Int) < 2 := by omega
     have hbW := hb2.trans (hbr.mono hb2.size)
     have HGr := Lib.hid (grammar_any hv hS hF)
     unfold GrGo at HGr
     have HOK := Lib.hid (fun h => okOf_w (so := s) h)
     clear hAt hv hS hF
     generalize okOf s = ok at HGr HOK HNW
     generalize gmOf s = g at HGr HOK HNW
     generalize hpr : g.pro = pr at HGr
     generalize htl : g.tail = tl at HGr
     go_upto_region 8 with (first | (go_at_call 13; (with_reducible refine HGr.out.mono ?_); rintro e w3 ⟨t, n, p, m1, d1, m2, d2, m3, d3, S, rfl, hFg, hSg, hb3⟩))
     have hk4 : Below w3.heap.size w3 (w3.alloc (.cells #[.slice t m1 d1, .slice n m2 d2, .slice p m3 d3, .string pr, .string tl] 38)) := (Below.refl _ _).alloc (Nat.le_refl _) _
     have hrN := ofMade w3 #[.slice t m1 d1, .slice n m2 d2, .slice p m3 d3, .string pr, .string tl] 38 w3.heap.size rfl
     have hFg4 := hFg.below hk4
     have hbr4 := (hbr.trans (hb3.mono hbr.size)).trans (hk4.mono (hbr.trans (hb3.mono hbr.size)).size)
     clear HGr hFg hb3 hk4 x0 x1 x2 x3 hSg
     generalize w3.alloc (.cells #[.slice t m1 d1, .slice n m2 d2, .slice p m3 d3, .string pr, .string tl] 38) = W4 at *
     generalize w3.heap.size = Bg at *
     have HG : Hid (∀ X, Below W4.heap.size W4 X → GmO X t n p m1 d1 m2 d2 m3 d3 pr tl g ∧ X.cell? ⟨Bg, 0, none⟩ = some (.slice t m1 d1) ∧ X.cell? ⟨Bg, 1, none⟩ = some (.slice n m2 d2) ∧ X.cell? ⟨Bg, 2, none⟩ = some (.slice p m3 d3) ∧ X.cell? ⟨Bg, 3, none⟩ = some (.string pr) ∧ X.cell? ⟨Bg, 4, none⟩ = some (.string tl)) := Lib.hid (fun X hX => by
      have hr := (hX.block Bg (Array.getElem?_eq_some_iff.1 hrN).1).trans hrN
      refine ⟨bk_firm hFg4 hX, cell_of_row X _ 0 _ _ _ hr, cell_of_row X _ 1 _ _ _ hr, cell_of_row X _ 2 _ _ _ hr, cell_of_row X _ 3 _ _ _ hr, cell_of_row X _ 4 _ _ _ hr⟩)
     clear hFg4 hrN hpr htl
     have f0 := hbr4
     cases ok with
     | false =>
       clear HG HOK HNW
       go_wp2_with fail
       go_round
       case rel => exact ⟨k + 1, by omega, by go_num, f0⟩
       case measure => simp [intOf]; omega
     | true =>
       have hNW := HNW.out rfl
       have h40 := (HOK.out rfl).tk
       obtain ⟨hGm, z0, z1, z2, z3, z4⟩ := HG.out W4 (Below.refl _ _)
       have HRn := Lib.hid (refNums_any hGm hNW (by omega))
       have hk0 : 0 ≤ near % 140 ∧ near % 140 < 140 := by omega
       generalize near % 140 = kq at HWt hk0
       obtain ⟨hk1, hk2⟩ := hk0
       have hwr : IntKind.i64.wrap (57340 + kq) = 57340 + kq := by rw [IntKind.wrap_i64]; omega
       clear hGm
       go_upto_region 11 with (first
        | (go_at_call 22; (with_reducible refine HRn.out.mono ?_); rintro e w5 ⟨v, l, rfl, hl, hll, hv, hb5⟩)
        | (go_at_call 20; (with_reducible refine (HWt.out _).mono ?_); rintro e w9 ⟨rfl, rfl⟩))
       rename World => W6
       have f6 : Below w2.heap.size w2 W6 := f0.trans (hb5.mono f0.size)
       have HXc : Hid (∀ X, Below W6.heap.size W6 X → X.cell? ⟨Bg, 0, none⟩ = some (.slice t m1 d1) ∧ X.cell? ⟨Bg, 1, none⟩ = some (.slice n m2 d2) ∧ X.cell? ⟨Bg, 2, none⟩ = some (.slice p m3 d3) ∧ X.cell? ⟨Bg, 3, none⟩ = some (.string pr) ∧ X.cell? ⟨Bg, 4, none⟩ = some (.string tl)) := Lib.hid (fun X hX => (HG.out X (hb5.trans (hX.mono hb5.size))).2)
       have hS1 := HXc.out _ (Below.refl W6.heap.size W6).drew
       have HGm := Lib.hid (fun (X : World) (hX : Below W6.heap.size W6 X) => (HG.out X (hb5.trans (hX.mono hb5.size))).1)
       have HOf : Hid (∀ X, Below W6.heap.size W6 X → Calls Try.prog 24 #[(.agg #[.slice t m1 d1, .slice n m2 d2, .slice p m3 d3, .string pr, .string tl])] X fun e w' => ∃ v' l', e = .returned v' ∧ IsNums g.toks l' ∧ l'.length = g.toks.length - 3 ∧ NmsV w' v' l' ∧ Below X.heap.size X w') := Lib.hid (fun X hX => numsOf_any (HGm.out X hX) hNW (by omega))
       have HTk : Hid (∀ X, Below W6.heap.size W6 X → ∀ q : Int, Calls Try.prog 25 #[v, .int .i64 q] X fun e w' => e = .returned (.int .i64 (tokN g.toks q)) ∧ Below X.heap.size X w') := Lib.hid (fun X hX q => by
        rw [← tok_same hNW hl q]
        exact numTok_any (hv.below hX) hl.1 hll q)
       have HRt : Hid (∀ X, Below W6.heap.size W6 X → ∀ q : Int, Calls Try.prog 26 #[(.agg #[.slice t m1 d1, .slice n m2 d2, .slice p m3 d3, .string pr, .string tl]), .int .i64 q] X fun e w' => e = .returned (.int .i64 (tokN g.toks q)) ∧ Below X.heap.size X w') := Lib.hid (fun X hX q => refTok_any (HGm.out X hX) q)
       have HT1 := Lib.hid (fun X hX => HTk.out X hX nn)
       have HT2 := Lib.hid (fun X hX => HTk.out X hX kq)
       have HT3 := Lib.hid (fun X hX => HTk.out X hX (57340 + kq))
       have HR1 := Lib.hid (fun X hX => HRt.out X hX nn)
       have HR2 := Lib.hid (fun X hX => HRt.out X hX kq)
       have HR3 := Lib.hid (fun X hX => HRt.out X hX (57340 + kq))
       have HEq : Hid (∀ X, Below W6.heap.size W6 X → ∀ v' l', NmsV X v' l' → IsNums g.toks l' → Calls Try.prog 23 #[v', v] X fun e w' => e = .returned (.bool true) ∧ Below X.heap.size X w') := Lib.hid (fun X hX v' l' h1 h2 => eqPairs_any h1 (by rw [h2.eq hl]; exact hv.below hX))
       clear HTk HRt HGm HRn HWt HNW HOK hNW h40 hl hv HG z0 z1 z2 z3 z4 hnn hnear hk hb5
       generalize tokN g.toks nn = T1 at HT1 HR1
       generalize tokN g.toks kq = T2 at HT2 HR2
       generalize tokN g.toks (57340 + kq) = T3 at HT3 HR3
       refine wp_region_held_drew (S := (fun Xw => Xw.cell? ⟨Bg, 0, none⟩ = some (.slice t m1 d1) ∧ Xw.cell? ⟨Bg, 1, none⟩ = some (.slice n m2 d2) ∧ Xw.cell? ⟨Bg, 2, none⟩ = some (.slice p m3 d3) ∧ Xw.cell? ⟨Bg, 3, none⟩ = some (.string pr) ∧ Xw.cell? ⟨Bg, 4, none⟩ = some (.string tl))) (by kernel_rfl) ?hS0 (fun hHeld => ?hR0)
       case hS0 => exact hS1
       case hR0 =>
        refine tk 0 ?_
        try simp only [Act.put, gA, gB, gC, gD, gE, gF]
        refine tk 2 ?_
        try simp only [Act.put, gA, gB, gC, gD, gE, gF]
        refine wpAnyH_ready (rs := [1]) (by kernel_rfl) (by simp) ?_
        refine AllReadyH.cons rfl (fun K hK => ?_) .nil
        try simp only [gA, gB, gC]
        go_simp
        go_at_call 24
        (with_reducible refine (HOf.out _ ((Below.refl W6.heap.size W6).drew)).mono ?_)
        rintro e x0 ⟨vP, lP, rfl, hlP, hllP, hvP, hx0⟩
        have g0 : Below W6.heap.size W6 x0 := (((Below.refl W6.heap.size W6).drew)).trans (hx0.mono (((Below.refl W6.heap.size W6).drew)).size)
        go_wp2_with fail
        refine hK.out _ _ (HXc.out _ g0) (fun hHeld => ?_)
        clear hK K
        try simp only [Act.put, gA, gB, gC, gD, gE, gF]
        refine wpAnyH_ready (rs := [3]) (by kernel_rfl) (by simp) ?_
        refine AllReadyH.cons rfl (fun K hK => ?_) .nil
        try simp only [gA, gB, gC]
        go_simp
        go_at_call 23
        (with_reducible refine (HEq.out _ g0 _ _ hvP hlP).mono ?_)
        rintro e x1 ⟨rfl, hx1⟩
        have g1 : Below W6.heap.size W6 x1 := (g0).trans (hx1.mono (g0).size)
        go_wp2_with fail
        refine hK.out _ _ (HXc.out _ g1) (fun hHeld => ?_)
        clear hK K
        try simp only [Act.put, gA, gB, gC, gD, gE, gF]
        refine tk 4 ?_
        try simp only [Act.put, gA, gB, gC, gD, gE, gF]
        refine tk 5 ?_
        try simp only [Act.put, gA, gB, gC, gD, gE, gF]
        refine tk 6 ?_
        try simp only [Act.put, gA, gB, gC, gD, gE, gF]
        refine tk 7 ?_
        try simp only [Act.put, gA, gB, gC, gD, gE, gF]
        refine tk 9 ?_
        try simp only [Act.put, gA, gB, gC, gD, gE, gF]
        refine tk 10 ?_
        try simp only [Act.put, gA, gB, gC, gD, gE, gF]
        refine wpAnyH_ready (rs := [8]) (by kernel_rfl) (by simp) ?_
        refine AllReadyH.cons rfl (fun K hK => ?_) .nil
        try simp only [gA, gB, gC]
        go_simp
        go_at_call 25
        (with_reducible refine (HT1.out _ g1).mono ?_)
        rintro e x2 ⟨rfl, hx2⟩
        have g2 : Below W6.heap.size W6 x2 := (g1).trans (hx2.mono (g1).size)
        go_wp2_with fail
        refine hK.out _ _ (HXc.out _ g2) (fun hHeld => ?_)
        clear hK K
        try simp only [Act.put, gA, gB, gC, gD, gE, gF]
        refine wpAnyH_ready (rs := [11]) (by kernel_rfl) (by simp) ?_
        refine AllReadyH.cons rfl (fun K hK => ?_) .nil
        try simp only [gA, gB, gC]
        go_simp
        go_at_call 26
        (with_reducible refine (HR1.out _ g2).mono ?_)
        rintro e x3 ⟨rfl, hx3⟩
        have g3 : Below W6.heap.size W6 x3 := (g2).trans (hx3.mono (g2).size)
        go_wp2_with fail
        refine hK.out _ _ (HXc.out _ g3) (fun hHeld => ?_)
        clear hK K
        try simp only [Act.put, gA, gB, gC, gD, gE, gF]
        refine tk 12 ?_
        try simp only [Act.put, gA, gB, gC, gD, gE, gF]
        refine tk 13 ?_
        try simp only [Act.put, gA, gB, gC, gD, gE, gF]
        refine tk 14 ?_
        try simp only [Act.put, gA, gB, gC, gD, gE, gF]
        refine tk 15 ?_
        try simp only [Act.put, gA, gB, gC, gD, gE, gF]
        refine tk 16 ?_
        try simp only [Act.put, gA, gB, gC, gD, gE, gF]
        refine tk 18 ?_
        try simp only [Act.put, gA, gB, gC, gD, gE, gF]
        refine tk 19 ?_
        try simp only [Act.put, gA, gB, gC, gD, gE, gF]
        refine wpAnyH_ready (rs := [17]) (by kernel_rfl) (by simp) ?_
        refine AllReadyH.cons rfl (fun K hK => ?_) .nil
        try simp only [gA, gB, gC]
        go_simp
        go_at_call 25
        (with_reducible refine (HT2.out _ g3).mono ?_)
        rintro e x4 ⟨rfl, hx4⟩
        have g4 : Below W6.heap.size W6 x4 := (g3).trans (hx4.mono (g3).size)
        go_wp2_with fail
        refine hK.out _ _ (HXc.out _ g4) (fun hHeld => ?_)
        clear hK K
        try simp only [Act.put, gA, gB, gC, gD, gE, gF]
        refine wpAnyH_ready (rs := [20]) (by kernel_rfl) (by simp) ?_
        refine AllReadyH.cons rfl (fun K hK => ?_) .nil
        try simp only [gA, gB, gC]
        go_simp
        go_at_call 26
        (with_reducible refine (HR2.out _ g4).mono ?_)
        rintro e x5 ⟨rfl, hx5⟩
        have g5 : Below W6.heap.size W6 x5 := (g4).trans (hx5.mono (g4).size)
        go_wp2_with fail
        refine hK.out _ _ (HXc.out _ g5) (fun hHeld => ?_)
        clear hK K
        try simp only [Act.put, gA, gB, gC, gD, gE, gF]
        refine tk 21 ?_
        try simp only [Act.put, gA, gB, gC, gD, gE, gF]
        refine tk 22 ?_
        try simp only [Act.put, gA, gB, gC, gD, gE, gF]
        refine tk 23 ?_
        try simp only [Act.put, gA, gB, gC, gD, gE, gF]
        refine tk 24 ?_
        try simp only [Act.put, gA, gB, gC, gD, gE, gF]
        refine tk 25 ?_
        try simp only [Act.put, gA, gB, gC, gD, gE, gF]
        refine tk 26 ?_
        try simp only [Act.put, gA, gB, gC, gD, gE, gF]
        refine tk 28 ?_
        try simp only [Act.put, gA, gB, gC, gD, gE, gF]
        refine tk 29 ?_
        try simp only [Act.put, gA, gB, gC, gD, gE, gF]
        refine tk 30 ?_
        try simp only [Act.put, gA, gB, gC, gD, gE, gF]
        refine wpAnyH_ready (rs := [27]) (by kernel_rfl) (by simp) ?_
        refine AllReadyH.cons rfl (fun K hK => ?_) .nil
        try simp only [gA, gB, gC]
        go_simp
        go_at_call 25
        (with_reducible refine (HT3.out _ g5).mono ?_)
        rintro e x6 ⟨rfl, hx6⟩
        have g6 : Below W6.heap.size W6 x6 := (g5).trans (hx6.mono (g5).size)
        go_wp2_with fail
        refine hK.out _ _ (HXc.out _ g6) (fun hHeld => ?_)
        clear hK K
        try simp only [Act.put, gA, gB, gC, gD, gE, gF]
        refine wpAnyH_ready (rs := [31]) (by kernel_rfl) (by simp) ?_
        refine AllReadyH.cons rfl (fun K hK => ?_) .nil
        try simp only [gA, gB, gC]
        go_simp
        go_at_call 26
        (with_reducible refine (HR3.out _ g6).mono ?_)
        rintro e x7 ⟨rfl, hx7⟩
        have g7 : Below W6.heap.size W6 x7 := (g6).trans (hx7.mono (g6).size)
        go_wp2_with fail
        refine hK.out _ _ (HXc.out _ g7) (fun hHeld => ?_)
        clear hK K
        try simp only [Act.put, gA, gB, gC, gD, gE, gF]
        refine tk 32 ?_
        try simp only [Act.put, gA, gB, gC, gD, gE, gF]
        refine tk 33 ?_
        try simp only [Act.put, gA, gB, gC, gD, gE, gF]
        refine wpAnyH_done (by kernel_rfl) ?_ _
        go_wp2_with fail
        go_round
        case rel => exact ⟨k + 1, by omega, by go_num, f6.trans (g7.mono f6.size)⟩
        case measure => simp [intOf]; omega
   · obtain rfl : k = 2 := by omega
     clear HAt HWt
     go_wp2_with fail
     go_ret
     exact ⟨rfl, hb2.trans (hbr.mono hb2.size)⟩
end Go.Proofs.Ytkgbifbbpmdpgaa
