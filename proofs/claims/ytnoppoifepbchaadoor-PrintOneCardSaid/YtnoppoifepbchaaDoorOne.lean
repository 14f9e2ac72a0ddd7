/- Two sources that may be have one text just if they are the same: the law PrintOne walked. -/
import Derived.Test.YtnoppoifepbchaaDoorGrW4
import Derived.Test.YtnoppoifepbchaaDoorGrQ
import Derived.Test.YtnoppoifepbchaaDoorCutA
import Derived.Test.YtnoppoifepbchaaDoorPlD
import Derived.Test.YtnoppoifepbchaaDoorMay8
import Derived.Test.YtnoppoifepbchaaDoorSame3
import Derived.Test.YtnoppoifepbchaaDoorSame1
import Derived.IntWalk
import Derived.Outline
import Derived.Deep.DeepCutAuto
import Derived.Deep.Cut
import Derived.Deep.CutRange
namespace Go.Proofs.YtnoppoifepbchaaDoor

open Go.RowKit
set_option linter.unusedVariables false
set_option linter.unusedSimpArgs false
theorem on_firm {S : Nat → Prop} {w1 w2 : World} {Q : World → Prop} (h : Firm S w1 Q) (hb : Below w1.heap.size w1 w2) : Q w2 := (h.below hb).self
theorem on_text {P : Program} {f : FuncId} {args : Array Value} {l : List UInt8} {w : World} (h : Calls P f args w (TellsTx l w)) : Calls P f args w fun e w' => e = .returned (.string ⟨l.toArray⟩) ∧ Below w.heap.size w w' :=
 h.mono fun e w' ⟨S, he, hS, hb⟩ => ⟨by rw [he, show S = ⟨l.toArray⟩ from ba_of (by simpa using hS)], hb⟩
/-- three sources that the call built -/
def ThreeB (w : World) (s1 s2 s3 : So) (x : Value) (W : World) : Prop := ∃ (B : Nat) (d1 e1 d2 e2 d3 e3 : Option Addr) (m1 c1 n1 g1 m2 c2 n2 g2 m3 c3 n3 g3 : Nat), x = .slice (some ⟨B, 0, none⟩) 3 3 ∧ Below w.heap.size w W ∧
 W.heap[B]? = some (.cells #[.string s1.pro, .slice d1 m1 c1, .slice e1 n1 g1, .string s1.tail, .string s2.pro, .slice d2 m2 c2, .slice e2 n2 g2, .string s2.tail, .string s3.pro, .slice d3 m3 c3, .slice e3 n3 g3, .string s3.tail] 29 (0, 0)) ∧
 SoV W (.agg #[.string s1.pro, .slice d1 m1 c1, .slice e1 n1 g1, .string s1.tail]) s1 ∧ SoV W (.agg #[.string s2.pro, .slice d2 m2 c2, .slice e2 n2 g2, .string s2.tail]) s2 ∧ SoV W (.agg #[.string s3.pro, .slice d3 m3 c3, .slice e3 n3 g3, .string s3.tail]) s3
theorem eq_texts {a b : So} (ha : maySo a = true) (hb : maySo b = true) : ((⟨(soT a).toArray⟩ : ByteArray).toList == (⟨(soT b).toArray⟩ : ByteArray).toList) = a.same b := by
 have h := text_one ha hb
 have e : ∀ l : List UInt8, (⟨l.toArray⟩ : ByteArray).toList = l := fun l => by rw [Lib.toList_data]
 rw [e, e, Bool.eq_iff_iff, h.symm]
 simp

set_option maxRecDepth 100000 in
set_option maxHeartbeats 40000000 in
theorem printOne_any (vx : Value) (x : Gr) (vy : Value) (y : Gr) (va : Value) (a : So) {w : World} (hx : GrV w vx x) (hIx : GrIn x) (hy : GrV w vy y) (hIy : GrIn y) (ha : SoV w va a) (hIa : SoIn a) (hE : Env w) :
  Calls Tryd.prog 6 #[vx, vy, va] w fun e w' => e = .returned (.bool true) ∧ Below w.heap.size w w' := by
 have HM : Hid (∀ W, Below w.heap.size w W → Env W) := Lib.hid (fun W hb => hE.below hb)
 have HCa := Lib.hid (fun (X : World) (hX : Below w.heap.size w X) => cut_any va a X (ha.below hX) hIa)
 have HSx := Lib.hid (fun (X : World) (hX : Below w.heap.size w X) => source_any vx x X (hx.below hX) hIx)
 have HSy := Lib.hid (fun (X : World) (hX : Below w.heap.size w X) => source_any vy y X (hy.below hX) hIy)
 obtain ⟨hs1, hf1⟩ := srcG_small x
 obtain ⟨hs2, hf2⟩ := srcG_small y
 obtain ⟨hs3, hf3⟩ := So.cut_small a
 have hm1 := srcG_may x
 have hm2 := srcG_may y
 have hp1 : (srcG x).pro = ⟨#[]⟩ := rfl
 have ht1 : (srcG x).tail = ⟨#[]⟩ := rfl
 have hp2 : (srcG y).pro = ⟨#[]⟩ := rfl
 have ht2 : (srcG y).tail = ⟨#[]⟩ := rfl
 unfold SoGoes at HCa
 unfold SrcGo at HSx HSy
 generalize srcG x = s1 at HSx hs1 hf1 hm1 hp1 ht1
 generalize srcG y = s2 at HSy hs2 hf2 hm2 hp2 ht2
 generalize a.cut = s3 at HCa hs3 hf3
 obtain ⟨ad, ar, rfl, hd, hr⟩ := ha
 obtain ⟨aad, aan, aac, rfl, _, _, _, _⟩ := hd.open
 obtain ⟨arg, arn, arc, rfl, _, _, _, _⟩ := hr.open
 obtain ⟨rv, lv, iv, rfl, hrv, hlv, hiv⟩ := hx.is
 obtain ⟨xa1, xn1, xc1, rfl, _, _, _, _⟩ := hrv.open
 obtain ⟨xa2, xn2, xc2, rfl, _, _, _, _⟩ := hlv.open
 obtain ⟨xa3, xn3, xc3, rfl, _, _, _, _⟩ := hiv.open
 obtain ⟨rv, lv, iv, rfl, hrv2, hlv2, hiv2⟩ := hy.is
 obtain ⟨ya1, yn1, yc1, rfl, _, _, _, _⟩ := hrv2.open
 obtain ⟨ya2, yn2, yc2, rfl, _, _, _, _⟩ := hlv2.open
 obtain ⟨ya3, yn3, yc3, rfl, _, _, _, _⟩ := hiv2.open
 generalize a.pro = ap at HCa ⊢
 generalize a.tail = at1 at HCa ⊢
 generalize x.nons = xn at HSx ⊢
 generalize x.bare = xb at HSx ⊢
 generalize y.nons = yn at HSy ⊢
 generalize y.bare = yb at HSy ⊢
 clear hd hr hx hrv hlv hiv hy hrv2 hlv2 hiv2 hIa hIx hIy hE
 have hX0 := heap_new w #[.int .i64 xn, .slice xa1 xn1 xc1, .slice xa2 xn2 xc2, .slice xa3 xn3 xc3, .bool xb] 59 _ rfl
 have hb0 := (Below.refl w.heap.size w).alloc (Nat.le_refl _) (.cells #[.int .i64 xn, .slice xa1 xn1 xc1, .slice xa2 xn2 xc2, .slice xa3 xn3 xc3, .bool xb] 59)
 have hz0 : (w.alloc (.cells #[.int .i64 xn, .slice xa1 xn1 xc1, .slice xa2 xn2 xc2, .slice xa3 xn3 xc3, .bool xb] 59)).heap.size = w.heap.size + 1 := World.size_alloc _ _
 have hY0 := heap_new (w.alloc (.cells #[.int .i64 xn, .slice xa1 xn1 xc1, .slice xa2 xn2 xc2, .slice xa3 xn3 xc3, .bool xb] 59)) #[.int .i64 yn, .slice ya1 yn1 yc1, .slice ya2 yn2 yc2, .slice ya3 yn3 yc3, .bool yb] 59 (w.heap.size + 1) hz0.symm
 have hX1 := heap_put (w.alloc (.cells #[.int .i64 xn, .slice xa1 xn1 xc1, .slice xa2 xn2 xc2, .slice xa3 xn3 xc3, .bool xb] 59)) (.cells #[.int .i64 yn, .slice ya1 yn1 yc1, .slice ya2 yn2 yc2, .slice ya3 yn3 yc3, .bool yb] 59) hX0
 have hb1 := hb0.alloc (by simp) (.cells #[.int .i64 yn, .slice ya1 yn1 yc1, .slice ya2 yn2 yc2, .slice ya3 yn3 yc3, .bool yb] 59)
 have hz1 : ((w.alloc (.cells #[.int .i64 xn, .slice xa1 xn1 xc1, .slice xa2 xn2 xc2, .slice xa3 xn3 xc3, .bool xb] 59)).alloc (.cells #[.int .i64 yn, .slice ya1 yn1 yc1, .slice ya2 yn2 yc2, .slice ya3 yn3 yc3, .bool yb] 59)).heap.size = w.heap.size + 1 + 1 := by rw [World.size_alloc, hz0]
 have hA2 := heap_new ((w.alloc (.cells #[.int .i64 xn, .slice xa1 xn1 xc1, .slice xa2 xn2 xc2, .slice xa3 xn3 xc3, .bool xb] 59)).alloc (.cells #[.int .i64 yn, .slice ya1 yn1 yc1, .slice ya2 yn2 yc2, .slice ya3 yn3 yc3, .bool yb] 59)) #[.string ap, .slice aad aan aac, .slice arg arn arc, .string at1] 29 (w.heap.size + 1 + 1) hz1.symm
 have hX2 := heap_put ((w.alloc (.cells #[.int .i64 xn, .slice xa1 xn1 xc1, .slice xa2 xn2 xc2, .slice xa3 xn3 xc3, .bool xb] 59)).alloc (.cells #[.int .i64 yn, .slice ya1 yn1 yc1, .slice ya2 yn2 yc2, .slice ya3 yn3 yc3, .bool yb] 59)) (.cells #[.string ap, .slice aad aan aac, .slice arg arn arc, .string at1] 29) hX1
 have hY2 := heap_put ((w.alloc (.cells #[.int .i64 xn, .slice xa1 xn1 xc1, .slice xa2 xn2 xc2, .slice xa3 xn3 xc3, .bool xb] 59)).alloc (.cells #[.int .i64 yn, .slice ya1 yn1 yc1, .slice ya2 yn2 yc2, .slice ya3 yn3 yc3, .bool yb] 59)) (.cells #[.string ap, .slice aad aan aac, .slice arg arn arc, .string at1] 29) hY0
 have hb2 := hb1.alloc (by simp; omega) (.cells #[.string ap, .slice aad aan aac, .slice arg arn arc, .string at1] 29)
 have HW := Lib.hid (wakes8_any (((w.alloc (.cells #[.int .i64 xn, .slice xa1 xn1 xc1, .slice xa2 xn2 xc2, .slice xa3 xn3 xc3, .bool xb] 59)).alloc (.cells #[.int .i64 yn, .slice ya1 yn1 yc1, .slice ya2 yn2 yc2, .slice ya3 yn3 yc3, .bool yb] 59)).alloc (.cells #[.string ap, .slice aad aan aac, .slice arg arn arc, .string at1] 29)) (HM.out _ hb2))
 clear hX0 hX1 hY0 hb0 hb1 hz0 hz1
 go_enter Tryd.func6, Tryd.ntmps6
 go_upto_region 3 with (first | (go_at_call 14; (with_reducible refine HW.out.mono ?_); rintro e w1 ⟨rfl, hbw⟩))
 have hbz := hb2.trans (hbw.mono hb2.size)
 have hX1 := (hbw.block w.heap.size (Array.getElem?_eq_some_iff.1 hX2).1).trans hX2
 have hY1 := (hbw.block (w.heap.size + 1) (Array.getElem?_eq_some_iff.1 hY2).1).trans hY2
 have hA1 := (hbw.block (w.heap.size + 1 + 1) (Array.getElem?_eq_some_iff.1 hA2).1).trans hA2
 have HXb := Lib.hid (fun (X : World) (hX : Below w1.heap.size w1 X) => And.intro ((hX.block w.heap.size (Array.getElem?_eq_some_iff.1 hX1).1).trans hX1) (And.intro ((hX.block (w.heap.size + 1) (Array.getElem?_eq_some_iff.1 hY1).1).trans hY1) ((hX.block (w.heap.size + 1 + 1) (Array.getElem?_eq_some_iff.1 hA1).1).trans hA1)))
 have HCb := Lib.hid (fun (X : World) (hX : Below w1.heap.size w1 X) => HCa.out X (hbz.trans (hX.mono hbz.size)))
 have HSxb := Lib.hid (fun (X : World) (hX : Below w1.heap.size w1 X) => HSx.out X (hbz.trans (hX.mono hbz.size)))
 have HSyb := Lib.hid (fun (X : World) (hX : Below w1.heap.size w1 X) => HSy.out X (hbz.trans (hX.mono hbz.size)))
 clear HW HCa HSx HSy hX2 hY2 hA2 hX1 hY1 hA1 hb2 hbw
 go_cut [7] from 12 to 18 (fun (x7 : Value) wx => ThreeB w1 s1 s2 s3 x7 wx)
 case first =>
  have HXc : Hid (∀ X, Below w1.heap.size w1 X → X.cell? ⟨w.heap.size, 0, none⟩ = some (.int .i64 xn) ∧ X.cell? ⟨w.heap.size, 1, none⟩ = some (.slice xa1 xn1 xc1) ∧ X.cell? ⟨w.heap.size, 2, none⟩ = some (.slice xa2 xn2 xc2) ∧ X.cell? ⟨w.heap.size, 3, none⟩ = some (.slice xa3 xn3 xc3) ∧ X.cell? ⟨w.heap.size, 4, none⟩ = some (.bool xb) ∧ X.cell? ⟨w.heap.size + 1, 0, none⟩ = some (.int .i64 yn) ∧ X.cell? ⟨w.heap.size + 1, 1, none⟩ = some (.slice ya1 yn1 yc1) ∧ X.cell? ⟨w.heap.size + 1, 2, none⟩ = some (.slice ya2 yn2 yc2) ∧ X.cell? ⟨w.heap.size + 1, 3, none⟩ = some (.slice ya3 yn3 yc3) ∧ X.cell? ⟨w.heap.size + 1, 4, none⟩ = some (.bool yb) ∧ X.cell? ⟨w.heap.size + 1 + 1, 0, none⟩ = some (.string ap) ∧ X.cell? ⟨w.heap.size + 1 + 1, 1, none⟩ = some (.slice aad aan aac) ∧ X.cell? ⟨w.heap.size + 1 + 1, 2, none⟩ = some (.slice arg arn arc) ∧ X.cell? ⟨w.heap.size + 1 + 1, 3, none⟩ = some (.string at1)) := Lib.hid (fun X hX => ⟨cell_of_row X _ 0 _ _ _ (HXb.out X hX).1, cell_of_row X _ 1 _ _ _ (HXb.out X hX).1, cell_of_row X _ 2 _ _ _ (HXb.out X hX).1, cell_of_row X _ 3 _ _ _ (HXb.out X hX).1, cell_of_row X _ 4 _ _ _ (HXb.out X hX).1, cell_of_row X _ 0 _ _ _ (HXb.out X hX).2.1, cell_of_row X _ 1 _ _ _ (HXb.out X hX).2.1, cell_of_row X _ 2 _ _ _ (HXb.out X hX).2.1, cell_of_row X _ 3 _ _ _ (HXb.out X hX).2.1, cell_of_row X _ 4 _ _ _ (HXb.out X hX).2.1, cell_of_row X _ 0 _ _ _ (HXb.out X hX).2.2, cell_of_row X _ 1 _ _ _ (HXb.out X hX).2.2, cell_of_row X _ 2 _ _ _ (HXb.out X hX).2.2, cell_of_row X _ 3 _ _ _ (HXb.out X hX).2.2⟩)
  have hS1 := HXc.out w1 (Below.refl _ _)
  clear HXb hs1 hf1 hs2 hf2 hs3 hf3 hm1 hm2 HM hbz
  refine wp_region_held_drew (S := (fun X => X.cell? ⟨w.heap.size, 0, none⟩ = some (.int .i64 xn) ∧ X.cell? ⟨w.heap.size, 1, none⟩ = some (.slice xa1 xn1 xc1) ∧ X.cell? ⟨w.heap.size, 2, none⟩ = some (.slice xa2 xn2 xc2) ∧ X.cell? ⟨w.heap.size, 3, none⟩ = some (.slice xa3 xn3 xc3) ∧ X.cell? ⟨w.heap.size, 4, none⟩ = some (.bool xb) ∧ X.cell? ⟨w.heap.size + 1, 0, none⟩ = some (.int .i64 yn) ∧ X.cell? ⟨w.heap.size + 1, 1, none⟩ = some (.slice ya1 yn1 yc1) ∧ X.cell? ⟨w.heap.size + 1, 2, none⟩ = some (.slice ya2 yn2 yc2) ∧ X.cell? ⟨w.heap.size + 1, 3, none⟩ = some (.slice ya3 yn3 yc3) ∧ X.cell? ⟨w.heap.size + 1, 4, none⟩ = some (.bool yb) ∧ X.cell? ⟨w.heap.size + 1 + 1, 0, none⟩ = some (.string ap) ∧ X.cell? ⟨w.heap.size + 1 + 1, 1, none⟩ = some (.slice aad aan aac) ∧ X.cell? ⟨w.heap.size + 1 + 1, 2, none⟩ = some (.slice arg arn arc) ∧ X.cell? ⟨w.heap.size + 1 + 1, 3, none⟩ = some (.string at1))) (by kernel_rfl) ?hS0 (fun hHeld => ?hR0)
  case hS0 => exact hS1
  case hR0 =>
   refine wpAnyH_take (i := 0) (v := ?_) rfl (by kernel_rfl) (by kernel_rfl) (by kernel_rfl) (fun _ _ _ h => h) (Or.inl ⟨by rfl, ?_⟩) (by assumption) ?_
   rotate_left 1
   · (intro w' hSw; (try dsimp only at hSw); go_simp; all_goals (with_reducible rfl))
   try simp only [Act.put, List.getElem_toArray, List.getElem_cons_succ, List.getElem_cons_zero, List.setIfInBounds_toArray, List.set_cons_zero, List.set_cons_succ]
   refine wpAnyH_take (i := 2) (v := ?_) rfl (by kernel_rfl) (by kernel_rfl) (by kernel_rfl) (fun _ _ _ h => h) (Or.inl ⟨by rfl, ?_⟩) (by assumption) ?_
   rotate_left 1
   · (intro w' hSw; (try dsimp only at hSw); go_simp; all_goals (with_reducible rfl))
   try simp only [Act.put, List.getElem_toArray, List.getElem_cons_succ, List.getElem_cons_zero, List.setIfInBounds_toArray, List.set_cons_zero, List.set_cons_succ]
   refine wpAnyH_take (i := 4) (v := ?_) rfl (by kernel_rfl) (by kernel_rfl) (by kernel_rfl) (fun _ _ _ h => h) (Or.inl ⟨by rfl, ?_⟩) (by assumption) ?_
   rotate_left 1
   · (intro w' hSw; (try dsimp only at hSw); go_simp; all_goals (with_reducible rfl))
   try simp only [Act.put, List.getElem_toArray, List.getElem_cons_succ, List.getElem_cons_zero, List.setIfInBounds_toArray, List.set_cons_zero, List.set_cons_succ]
   refine wpAnyH_ready (rs := [1]) (by kernel_rfl) (by simp) ?_
   refine AllReadyH.cons rfl (fun K hK => ?_) ?_
   · try simp only [List.getElem_toArray, List.getElem_cons_succ, List.getElem_cons_zero]
     go_simp
     go_at_call 21
     (with_reducible refine (HSxb.out _ ((Below.refl w1.heap.size w1).drew)).mono ?_)
     rintro e wP ⟨dP, rP, mP, cP, nP, gP, TP, rfl, hFP, hTP, hbP⟩
     have fP : Below w1.heap.size w1 wP := ((Below.refl w1.heap.size w1).drew).trans (hbP.mono ((Below.refl w1.heap.size w1).drew).size)
     go_wp2_with fail
     refine hK.out _ _ (HXc.out _ fP) (fun hHeld => ?_)
     clear hK K
     try simp only [Act.put, List.getElem_toArray, List.getElem_cons_succ, List.getElem_cons_zero, List.setIfInBounds_toArray, List.set_cons_zero, List.set_cons_succ]
     refine wpAnyH_ready (rs := [3]) (by kernel_rfl) (by simp) ?_
     refine AllReadyH.cons rfl (fun K hK => ?_) ?_
     · try simp only [List.getElem_toArray, List.getElem_cons_succ, List.getElem_cons_zero]
       go_simp
       go_at_call 21
       (with_reducible refine (HSyb.out _ fP).mono ?_)
       rintro e wQ ⟨dQ, rQ, mQ, cQ, nQ, gQ, TQ, rfl, hFQ, hTQ, hbQ⟩
       have fQ : Below w1.heap.size w1 wQ := fP.trans (hbQ.mono fP.size)
       go_wp2_with fail
       refine hK.out _ _ (HXc.out _ fQ) (fun hHeld => ?_)
       clear hK K
       try simp only [Act.put, List.getElem_toArray, List.getElem_cons_succ, List.getElem_cons_zero, List.setIfInBounds_toArray, List.set_cons_zero, List.set_cons_succ]
       refine wpAnyH_ready (rs := [5]) (by kernel_rfl) (by simp) ?_
       refine AllReadyH.cons rfl (fun K hK => ?_) ?_
       · try simp only [List.getElem_toArray, List.getElem_cons_succ, List.getElem_cons_zero]
         go_simp
         go_at_call 15
         (with_reducible refine (HCb.out _ fQ).mono ?_)
         rintro e wR ⟨vR, TR, rfl, hFR, hTR, hbR⟩
         obtain ⟨dR, rR, rfl, hdR, hrR⟩ := hFR.self
         obtain ⟨aR, mR, cR, rfl, _, _, _, _⟩ := ListV.open hdR
         obtain ⟨zR, nR, gR, rfl, _, _, _, _⟩ := ListV.open hrR
         clear hdR hrR
         have fR : Below w1.heap.size w1 wR := fQ.trans (hbR.mono fQ.size)
         go_wp2_with fail
         refine hK.out _ _ (HXc.out _ fR) (fun hHeld => ?_)
         clear hK K
         try simp only [Act.put, List.getElem_toArray, List.getElem_cons_succ, List.getElem_cons_zero, List.setIfInBounds_toArray, List.set_cons_zero, List.set_cons_succ]
         refine wpAnyH_ready (rs := [6]) (by kernel_rfl) (by simp) ?_
         refine AllReadyH.cons rfl (fun K hK => ?_) ?_
         · try simp only [List.getElem_toArray, List.getElem_cons_succ, List.getElem_cons_zero]
           go_simp
           have kL := (fR).alloc (fR).size (.cells #[.string ⟨#[]⟩, .slice dP mP cP, .slice rP nP gP, .string ⟨#[]⟩, .string ⟨#[]⟩, .slice dQ mQ cQ, .slice rQ nQ gQ, .string ⟨#[]⟩, .string s3.pro, .slice aR mR cR, .slice zR nR gR, .string s3.tail] 29)
           refine hK.out _ _ (HXc.out _ kL) (fun hHeld => ?_)
           clear hK K
           try simp only [Act.put, List.getElem_toArray, List.getElem_cons_succ, List.getElem_cons_zero, List.setIfInBounds_toArray, List.set_cons_zero, List.set_cons_succ]
           refine wpAnyH_take (i := 7) (v := ?_) rfl (by kernel_rfl) (by kernel_rfl) (by kernel_rfl) (fun _ _ _ h => h) (Or.inl ⟨by rfl, ?_⟩) (by assumption) ?_
           rotate_left 1
           · (intro w' hSw; (try dsimp only at hSw); go_simp; all_goals (with_reducible rfl))
           try simp only [Act.put, List.getElem_toArray, List.getElem_cons_succ, List.getElem_cons_zero, List.setIfInBounds_toArray, List.set_cons_zero, List.set_cons_succ]
           refine wpAnyH_done (by kernel_rfl) ?_ _
           go_wp2_with fail
           go_meet
           case rel =>
            have kk := (Below.refl wR.heap.size wR).alloc (Nat.le_refl _) (.cells #[.string ⟨#[]⟩, .slice dP mP cP, .slice rP nP gP, .string ⟨#[]⟩, .string ⟨#[]⟩, .slice dQ mQ cQ, .slice rQ nQ gQ, .string ⟨#[]⟩, .string s3.pro, .slice aR mR cR, .slice zR nR gR, .string s3.tail] 29)
            have hrow := heap_new wR #[.string ⟨#[]⟩, .slice dP mP cP, .slice rP nP gP, .string ⟨#[]⟩, .string ⟨#[]⟩, .slice dQ mQ cQ, .slice rQ nQ gQ, .string ⟨#[]⟩, .string s3.pro, .slice aR mR cR, .slice zR nR gR, .string s3.tail] 29 _ rfl
            refine ⟨wR.heap.size, dP, rP, dQ, rQ, aR, zR, mP, cP, nP, gP, mQ, cQ, nQ, gQ, mR, cR, nR, gR, rfl, kL, ?_, ?_, ?_, on_firm hFR kk⟩
            · rw [hp1, ht1, hp2, ht2]; exact hrow
            · rw [hp1, ht1]; exact on_firm (hFP.below (hbQ.trans (hbR.mono hbQ.size))) kk
            · rw [hp2, ht2]; exact on_firm (hFQ.below hbR) kk
         exact AllReadyH.nil
       exact AllReadyH.nil
     exact AllReadyH.nil
   exact AllReadyH.nil
 case rest =>
  obtain ⟨B, d1, e1, d2, e2, d3, e3, m1, c1, n1, g1, m2, c2, n2, g2, m3, c3, n3, g3, rfl, hbB, hBB, hv1, hv2, hv3⟩ := hcut
  rename World => w2
  have hb2 := hbz.trans (hbB.mono hbz.size)
  clear HXb HCb HSxb HSyb hp1 ht1 hp2 ht2 hbB hbz
  have HBk : Hid (∀ X, Below w2.heap.size w2 X → X.heap[B]? = some (.cells #[.string s1.pro, .slice d1 m1 c1, .slice e1 n1 g1, .string s1.tail, .string s2.pro, .slice d2 m2 c2, .slice e2 n2 g2, .string s2.tail, .string s3.pro, .slice d3 m3 c3, .slice e3 n3 g3, .string s3.tail] 29 (0, 0))) := Lib.hid (fun X h => (h.block B (Array.getElem?_eq_some_iff.1 hBB).1).trans hBB)
  have HAt : Hid (∀ k, k < 3 → ∃ (s : So) (d e : Option Addr) (m c n g : Nat), SoSmall s ∧ SoFew s ∧ (k < 2 → maySo s = true) ∧ ∀ X, Below w2.heap.size w2 X → SoV X (.agg #[.string s.pro, .slice d m c, .slice e n g, .string s.tail]) s ∧ X.cell? ⟨B, k * 4, none⟩ = some (.string s.pro) ∧ X.cell? ⟨B, k * 4 + 1, none⟩ = some (.slice d m c) ∧ X.cell? ⟨B, k * 4 + 2, none⟩ = some (.slice e n g) ∧ X.cell? ⟨B, k * 4 + 3, none⟩ = some (.string s.tail)) := Lib.hid (fun k hk => by
   match k, hk with
   | 0, _ => exact ⟨s1, d1, e1, m1, c1, n1, g1, hs1, hf1, fun _ => hm1, fun X h => ⟨hv1.below h, cell_of_row X _ 0 _ _ _ (HBk.out X h), cell_of_row X _ 1 _ _ _ (HBk.out X h), cell_of_row X _ 2 _ _ _ (HBk.out X h), cell_of_row X _ 3 _ _ _ (HBk.out X h)⟩⟩
   | 1, _ => exact ⟨s2, d2, e2, m2, c2, n2, g2, hs2, hf2, fun _ => hm2, fun X h => ⟨hv2.below h, cell_of_row X _ 4 _ _ _ (HBk.out X h), cell_of_row X _ 5 _ _ _ (HBk.out X h), cell_of_row X _ 6 _ _ _ (HBk.out X h), cell_of_row X _ 7 _ _ _ (HBk.out X h)⟩⟩
   | 2, _ => exact ⟨s3, d3, e3, m3, c3, n3, g3, hs3, hf3, fun e => absurd e (by decide), fun X h => ⟨hv3.below h, cell_of_row X _ 8 _ _ _ (HBk.out X h), cell_of_row X _ 9 _ _ _ (HBk.out X h), cell_of_row X _ 10 _ _ _ (HBk.out X h), cell_of_row X _ 11 _ _ _ (HBk.out X h)⟩⟩)
  clear hv1 hv2 hv3 hs1 hs2 hs3 hf1 hf2 hf3 hm1 hm2 HBk hBB
  go_wp2_with fail
  go_loopw [8] (fun x8 X => ∃ i : Nat, i ≤ 3 ∧ x8 = .int .i64 i ∧ Below w2.heap.size w2 X) (fun x8 _ => 3 - (intOf x8).toNat)
  case atStart => exact ⟨0, Nat.zero_le _, rfl, Below.refl _ _⟩
  case round =>
   obtain ⟨i, hi, rfl, hbr⟩ := hrel
   rename World => W
   by_cases hlt : i < 3
   · obtain ⟨s, d, e, m, c, n, gg, hS, hF, hMs, hAs⟩ := HAt.out i hlt
     have i1 : (i : Int) < 3 := by omega
     have HAs := Lib.hid hAs
     clear hAs
     go_wp2_with fail
     go_loopw [9] (fun x9 X => ∃ k : Nat, k ≤ i ∧ x9 = .int .i64 k ∧ Below w2.heap.size w2 X) (fun x9 _ => i - (intOf x9).toNat)
     case atStart => exact ⟨0, Nat.zero_le _, rfl, hbr⟩
     case round =>
      obtain ⟨k, hk, rfl, hbq⟩ := hrel
      rename World => Wq
      by_cases hlk : k < i
      · obtain ⟨t, dt, et, mt, ct, nt, gt, hSt, hFt, hMt, hAt⟩ := HAt.out k (by omega)
        have i2 : (k : Int) < (i : Int) := by omega
        have i3 : (k : Int) < 3 := by omega
        have hmt := hMt (by omega)
        have HAt2 := Lib.hid hAt
        obtain ⟨hvs, x0, x1, x2, x3⟩ := HAs.out Wq hbq
        obtain ⟨hvt, y0, y1, y2, y3⟩ := hAt Wq hbq
        have hbW := hb2.trans (hbq.mono hb2.size)
        have HE9 := HM.out _ hbW
        have HM1 := Lib.hid (fun V => pmay_any _ s (over Wq V) (hvs.below (over_below Wq V)) hS (HE9.below (over_below Wq V)).max)
        have HM2 := Lib.hid (fun V => pmay_any _ t (over Wq V) (hvt.below (over_below Wq V)) hSt (HE9.below (over_below Wq V)).max)
        rw [hmt] at HM2
        have HX1 := Lib.hid (fun V => on_text (ptext_any _ s (over Wq V) (hvs.below (over_below Wq V)) hS hF (HE9.below (over_below Wq V))))
        have HX2 := Lib.hid (fun V => on_text (ptext_any _ t (over Wq V) (hvt.below (over_below Wq V)) hSt hFt (HE9.below (over_below Wq V))))
        have HQ := Lib.hid (fun V => rsame_any _ _ s t (over Wq V) (hvs.below (over_below Wq V)) (hvt.below (over_below Wq V)))
        have u0 := over_cell x0
        have u1 := over_cell x1
        have u2 := over_cell x2
        have u3 := over_cell x3
        have z0 := over_cell y0
        have z1 := over_cell y1
        have z2 := over_cell y2
        have z3 := over_cell y3
        have hEq := fun (hm : maySo s = true) => eq_texts hm hmt
        clear HAt HAt2 HAs hAt hvs hvt x0 x1 x2 x3 y0 y1 y2 y3 HE9 HM hMs hMt
        generalize (⟨(soT s).toArray⟩ : ByteArray) = X1 at HX1 hEq
        generalize (⟨(soT t).toArray⟩ : ByteArray) = X2 at HX2 hEq
        cases hms : maySo s with
        | false =>
          rw [hms] at HM1
          clear hEq HX1 HX2 HQ
          go_upto_region 10 with fail
          refine wp_region_over (by kernel_rfl) (by kernel_rfl) ?_
          repeat (first | go_big_quiet_skip | (go_big_quiet_want; go_big_quiet_op; first | go_big_quiet_on | (apply Exists.intro; refine ⟨fun _ => ?_, ?_⟩; (first | (go_at_call 16; with_reducible exact calls_over (HM1.out _) (fun e w1 h => h)) | (go_at_call 16; with_reducible exact calls_over (HM2.out _) (fun e w1 h => h))); go_big_quiet_on)))
          refine wpQuiet_nil ?_
          intro _ hw'
          obtain ⟨V, hw''⟩ := hw'
          subst hw''
          have hz := over_below Wq V
          generalize over Wq V = w9 at hz ⊢
          go_wp2_with fail
          go_round
          case rel => exact ⟨k + 1, by omega, by go_num, hbq.trans (hz.mono hbq.size)⟩
          case measure => simp [intOf]; omega
        | true =>
          rw [hms] at HM1
          have hEq2 := hEq hms
          clear hEq
          cases hsm : s.same t with
          | false =>
            rw [hsm] at HQ hEq2
            go_upto_region 10 with fail
            refine wp_region_over (by kernel_rfl) (by kernel_rfl) ?_
            repeat (first | go_big_quiet_skip | (go_big_quiet_want; go_big_quiet_op; first | go_big_quiet_on | (apply Exists.intro; refine ⟨fun _ => ?_, ?_⟩; (first | (go_at_call 16; with_reducible exact calls_over (HM1.out _) (fun e w1 h => h)) | (go_at_call 16; with_reducible exact calls_over (HM2.out _) (fun e w1 h => h)) | (go_at_call 18; with_reducible exact calls_over (HX1.out _) (fun e w1 h => h)) | (go_at_call 18; with_reducible exact calls_over (HX2.out _) (fun e w1 h => h)) | (go_at_call 13; with_reducible exact calls_over (HQ.out _) (fun e w1 h => h))); go_big_quiet_on)))
            refine wpQuiet_nil ?_
            intro _ hw'
            obtain ⟨V, hw''⟩ := hw'
            subst hw''
            have hz := over_below Wq V
            generalize over Wq V = w9 at hz ⊢
            go_wp2_with fail
            go_round
            case rel => exact ⟨k + 1, by omega, by go_num, hbq.trans (hz.mono hbq.size)⟩
            case measure => simp [intOf]; omega
          | true =>
            rw [hsm] at HQ hEq2
            go_upto_region 10 with fail
            refine wp_region_over (by kernel_rfl) (by kernel_rfl) ?_
            repeat (first | go_big_quiet_skip | (go_big_quiet_want; go_big_quiet_op; first | go_big_quiet_on | (apply Exists.intro; refine ⟨fun _ => ?_, ?_⟩; (first | (go_at_call 16; with_reducible exact calls_over (HM1.out _) (fun e w1 h => h)) | (go_at_call 16; with_reducible exact calls_over (HM2.out _) (fun e w1 h => h)) | (go_at_call 18; with_reducible exact calls_over (HX1.out _) (fun e w1 h => h)) | (go_at_call 18; with_reducible exact calls_over (HX2.out _) (fun e w1 h => h)) | (go_at_call 13; with_reducible exact calls_over (HQ.out _) (fun e w1 h => h))); go_big_quiet_on)))
            refine wpQuiet_nil ?_
            intro _ hw'
            obtain ⟨V, hw''⟩ := hw'
            subst hw''
            have hz := over_below Wq V
            generalize over Wq V = w9 at hz ⊢
            go_wp2_with fail
            go_round
            case rel => exact ⟨k + 1, by omega, by go_num, hbq.trans (hz.mono hbq.size)⟩
            case measure => simp [intOf]; omega
      · obtain rfl : k = i := by omega
        have i2 : ¬ (k : Int) < (k : Int) := by omega
        go_wp2_with fail
        go_round
        case rel => exact ⟨k + 1, by omega, by go_num, hbq⟩
        case measure => simp [intOf]; omega
   · obtain rfl : i = 3 := by omega
     have HAs := HAt.out 0 (by omega)
     obtain ⟨s, d, e, m, c, n, gg, hS, hF, hMs, hAs⟩ := HAs
     obtain ⟨t, dt, et, mt, ct, nt, gt, hSt, hFt, hMt, hAt⟩ := HAt.out 1 (by omega)
     have hms := hMs (by omega)
     have hmt := hMt (by omega)
     have hbW := hb2.trans (hbr.mono hb2.size)
     obtain ⟨hvs, x0, x1, x2, x3⟩ := hAs W hbr
     have HT := Lib.hid hAt
     have HM1 := Lib.hid (pmay_any _ s W hvs hS (HM.out _ hbW).max)
     rw [hms] at HM1
     have HM2 := Lib.hid (fun (X : World) (hX : Below w2.heap.size w2 X) => pmay_any _ t X (HT.out X hX).1 hSt (HM.out _ (hb2.trans (hX.mono hb2.size))).max)
     rw [hmt] at HM2
     clear HAt hAs hAt HM hvs
     go_wp2_with (first
      | (go_at_call 16; (with_reducible refine HM1.out.mono ?_); rintro r w3 ⟨rfl, hb3⟩; have hr3 := hbr.trans (hb3.mono hbr.size); obtain ⟨_, z0, z1, z2, z3⟩ := HT.out w3 hr3)
      | (go_at_call 16; (with_reducible refine (HM2.out _ hr3).mono ?_); rintro r w4 ⟨rfl, hb4⟩))
     go_ret
     have hr4 := hr3.trans (hb4.mono hr3.size)
     exact ⟨by first | rfl | exact ret_bool (by simp), hb2.trans (hr4.mono hb2.size)⟩
end Go.Proofs.YtnoppoifepbchaaDoor
