/- The law of texts, walked. -/
import Derived.Test.YtnoppoifepbchaaDoorCut9
import Derived.Test.YtnoppoifepbchaaDoorBox
import Derived.Test.YtnoppoifepbchaaDoorOnly
import Derived.Test.YtnoppoifepbchaaDoorSame4
import Derived.Test.YtnoppoifepbchaaDoorTxt3
import Derived.Test.YtnoppoifepbchaaDoorTxt7
import Derived.Test.YtnoppoifepbchaaDoorMay8
import Derived.Test.YtnoppoifepbchaaDoorSyms1
import Derived.Deep.CutRange
namespace Go.Proofs.YtnoppoifepbchaaDoor
open Go.RowKit
set_option linter.unusedVariables false
set_option linter.unusedSimpArgs false


theorem eqL_refl {α : Type} {p : α → α → Bool} (h : ∀ x, p x x = true) (l : List α) : eqL p l l = true := by
  unfold eqL
  rw [beq_self_eq_true, Bool.true_and, List.all_eq_true]
  intro x hx
  obtain ⟨i, hi⟩ := List.getElem?_of_mem hx
  rw [List.getElem?_zip_eq_some] at hi
  have : x.1 = x.2 := Option.some.inj (hi.1.symm.trans hi.2)
  rw [this]; exact h _
theorem Sm.same_refl (x : Sm) : x.same x = true := by unfold Sm.same; simp
theorem Pt.same_refl (x : Pt) : x.same x = true := by unfold Pt.same; simp [Sm.same_refl]
theorem Al.same_refl (x : Al) : x.same x = true := by unfold Al.same; rw [Sm.same_refl, eqL_refl Pt.same_refl]; rfl
theorem Rl.same_refl (x : Rl) : x.same x = true := by unfold Rl.same; rw [eqL_refl Al.same_refl]; simp
theorem Dc.same_refl (x : Dc) : x.same x = true := by unfold Dc.same; rw [eqL_refl Sm.same_refl]; simp
theorem So.same_refl (x : So) : x.same x = true := by unfold So.same; rw [eqL_refl Dc.same_refl, eqL_refl Rl.same_refl]; simp

theorem text_tells {P : Program} {f : FuncId} {args : Array Value} {l : List UInt8} {w : World} (h : Calls P f args w (TellsTx l w)) : Calls P f args w fun e w' => e = .returned (.string ⟨l.toArray⟩) ∧ Below w.heap.size w w' :=
  h.mono fun e w' ⟨S, he, hS, hb⟩ => ⟨by rw [he, show S = ⟨l.toArray⟩ from ba_of (by simpa using hS)], hb⟩

/-- two boxes, each with a source -/
structure TwoSo (w : World) (a b : So) (A B : Array Value) (W : World) : Prop where
  below : Below w.heap.size w W
  one : W.heap[w.heap.size]? = some (.cells A 29 (0, 0))
  two : W.heap[w.heap.size + 1]? = some (.cells B 29 (0, 0))
  src : SoV W (.agg A) a
  src2 : SoV W (.agg B) b
def TwoCut (w : World) (a b : So) (W : World) : Prop := ∃ (p1 t1 p2 t2 : ByteArray) (d1 e1 d2 e2 : Option Addr) (m1 c1 n1 g1 m2 c2 n2 g2 : Nat), TwoSo w a b #[.string p1, .slice d1 m1 c1, .slice e1 n1 g1, .string t1] #[.string p2, .slice d2 m2 c2, .slice e2 n2 g2, .string t2] W

theorem two_stored {w w1 w3 : World} {a b : So} {a0 a1 a2 a3 b0 b1 b2 b3 : Value} {S1 S2 : Nat → Prop} {p1 t1 p2 t2 : ByteArray} {d1 e1 d2 e2 : Option Addr} {m1 c1 n1 g1 m2 c2 n2 g2 : Nat} (h1 : Below w.heap.size w w1) (h3 : Below w1.heap.size w1 w3) (hz : w.heap.size + 1 < w1.heap.size)
    (hA : w3.heap[w.heap.size]? = some (.cells #[a0, a1, a2, a3] 29 (0, 0))) (hB : w3.heap[w.heap.size + 1]? = some (.cells #[b0, b1, b2, b3] 29 (0, 0)))
    (F1 : Firm S1 w3 (fun X => SoV X (.agg #[.string p1, .slice d1 m1 c1, .slice e1 n1 g1, .string t1]) a)) (F2 : Firm S2 w3 (fun X => SoV X (.agg #[.string p2, .slice d2 m2 c2, .slice e2 n2 g2, .string t2]) b)) (G1 : ∀ k, S1 k → w1.heap.size ≤ k) (G2 : ∀ k, S2 k → w1.heap.size ≤ k) :
    TwoCut w a b ((((((((w3.setCell ⟨w.heap.size, 0, none⟩ (.string p1)).setCell ⟨w.heap.size, 1, none⟩ (.slice d1 m1 c1)).setCell ⟨w.heap.size, 2, none⟩ (.slice e1 n1 g1)).setCell ⟨w.heap.size, 3, none⟩ (.string t1)).setCell ⟨w.heap.size + 1, 0, none⟩ (.string p2)).setCell ⟨w.heap.size + 1, 1, none⟩ (.slice d2 m2 c2)).setCell ⟨w.heap.size + 1, 2, none⟩ (.slice e2 n2 g2)).setCell ⟨w.heap.size + 1, 3, none⟩ (.string t2)) ∧ TwoCut w a b ((((((((w3.setCell ⟨w.heap.size + 1, 0, none⟩ (.string p2)).setCell ⟨w.heap.size + 1, 1, none⟩ (.slice d2 m2 c2)).setCell ⟨w.heap.size + 1, 2, none⟩ (.slice e2 n2 g2)).setCell ⟨w.heap.size + 1, 3, none⟩ (.string t2)).setCell ⟨w.heap.size, 0, none⟩ (.string p1)).setCell ⟨w.heap.size, 1, none⟩ (.slice d1 m1 c1)).setCell ⟨w.heap.size, 2, none⟩ (.slice e1 n1 g1)).setCell ⟨w.heap.size, 3, none⟩ (.string t1)) := by
  have hs := h1.size
  have hb := h1.trans (h3.mono hs)
  constructor
  · refine ⟨p1, t1, p2, t2, d1, e1, d2, e2, m1, c1, n1, g1, m2, c2, n2, g2, set4_below (set4_below hb (Nat.le_refl _) _ _ _ _) (Nat.le_succ _) _ _ _ _, (set4_other (by omega) _ _ _ _).trans (set4_row hA _ _ _ _), set4_row ((set4_other (by omega) _ _ _ _).trans hB) _ _ _ _, ?_, ?_⟩
    · exact (F1.keep (fun k hk => (set4_other (by have := G1 k hk; omega) _ _ _ _).trans (set4_other (by have := G1 k hk; omega) _ _ _ _))).self
    · exact (F2.keep (fun k hk => (set4_other (by have := G2 k hk; omega) _ _ _ _).trans (set4_other (by have := G2 k hk; omega) _ _ _ _))).self
  · refine ⟨p1, t1, p2, t2, d1, e1, d2, e2, m1, c1, n1, g1, m2, c2, n2, g2, set4_below (set4_below hb (Nat.le_succ _) _ _ _ _) (Nat.le_refl _) _ _ _ _, set4_row ((set4_other (by omega) _ _ _ _).trans hA) _ _ _ _, (set4_other (by omega) _ _ _ _).trans (set4_row hB _ _ _ _), ?_, ?_⟩
    · exact (F1.keep (fun k hk => (set4_other (by have := G1 k hk; omega) _ _ _ _).trans (set4_other (by have := G1 k hk; omega) _ _ _ _))).self
    · exact (F2.keep (fun k hk => (set4_other (by have := G2 k hk; omega) _ _ _ _).trans (set4_other (by have := G2 k hk; omega) _ _ _ _))).self

set_option maxRecDepth 100000 in
set_option maxHeartbeats 40000000 in
theorem printTells_law (va : Value) (a : So) (vb : Value) (b : So) {w : World} (ha : SoV w va a) (hIa : SoIn a) (hb : SoV w vb b) (hIb : SoIn b) (hE : Env w) :
    Calls Tryd.prog 5 #[va, vb] w fun e w' => e = .returned (.bool true) ∧ Below w.heap.size w w' := by
  have HE := Lib.hid hE
  clear hE
  have HCa := Lib.hid (fun (X : World) (hX : Below w.heap.size w X) => cut_any va a X (ha.below hX) hIa)
  have HCb := Lib.hid (fun (X : World) (hX : Below w.heap.size w X) => cut_any vb b X (hb.below hX) hIb)
  obtain ⟨ad, ar, rfl, _, _⟩ := ha
  obtain ⟨bd, br, rfl, _, _⟩ := hb
  have hsm1 := So.cut_small a
  have hsm2 := So.cut_small b
  generalize a.cut = ca at HCa hsm1
  generalize b.cut = cb at HCb hsm2
  obtain ⟨ap, ads, ars, at1⟩ := a
  obtain ⟨bp, bds, brs, bt1⟩ := b
  simp only at HCa HCb ⊢
  clear hIa hIb
  have hq0 := heap_put (w.alloc (.cells #[.string ap, ad, ar, .string at1] 29)) (.cells #[.string bp, bd, br, .string bt1] 29) (heap_new w #[.string ap, ad, ar, .string at1] 29 _ rfl)
  have hq1 := heap_new (w.alloc (.cells #[.string ap, ad, ar, .string at1] 29)) #[.string bp, bd, br, .string bt1] 29 (w.heap.size + 1) (World.size_alloc _ _).symm
  have hbx := ((Below.refl w.heap.size w).alloc (Nat.le_refl _) (.cells #[.string ap, ad, ar, .string at1] 29)).alloc (by simp) (.cells #[.string bp, bd, br, .string bt1] 29)
  have hsx : ((w.alloc (.cells #[.string ap, ad, ar, .string at1] 29)).alloc (.cells #[.string bp, bd, br, .string bt1] 29)).heap.size = w.heap.size + 2 := by rw [World.size_alloc, World.size_alloc]
  have HW := Lib.hid (wakes8_any ((w.alloc (.cells #[.string ap, ad, ar, .string at1] 29)).alloc (.cells #[.string bp, bd, br, .string bt1] 29)) (HE.out.below hbx))
  go_enter Tryd.func5, Tryd.ntmps5
  go_upto_region 3 with (first | (go_at_call 14; (with_reducible refine HW.out.mono ?_); rintro e w1 ⟨rfl, hbw⟩))
  have hb1 := hbx.trans (hbw.mono hbx.size)
  have hr0 := (hbw.block w.heap.size (by omega)).trans hq0
  have hr1 := (hbw.block (w.heap.size + 1) (by omega)).trans hq1
  have hz1 : w.heap.size + 1 < w1.heap.size := by have := hbw.size; omega
  have HB := Lib.hid (fun (X : World) (hX : Below w1.heap.size w1 X) => And.intro ((hX.block w.heap.size (by omega)).trans hr0) ((hX.block (w.heap.size + 1) (by omega)).trans hr1))
  have HCa' := Lib.hid (fun (X : World) (hX : Below w1.heap.size w1 X) => HCa.out X (hb1.trans (hX.mono hb1.size)))
  have HCb' := Lib.hid (fun (X : World) (hX : Below w1.heap.size w1 X) => HCb.out X (hb1.trans (hX.mono hb1.size)))
  have x0 := cell_of_row w1 _ 0 _ _ _ hr0
  have x1 := cell_of_row w1 _ 1 _ _ _ hr0
  have x2 := cell_of_row w1 _ 2 _ _ _ hr0
  have x3 := cell_of_row w1 _ 3 _ _ _ hr0
  have y0 := cell_of_row w1 _ 0 _ _ _ hr1
  have y1 := cell_of_row w1 _ 1 _ _ _ hr1
  have y2 := cell_of_row w1 _ 2 _ _ _ hr1
  have y3 := cell_of_row w1 _ 3 _ _ _ hr1
  clear HCa HCb HW hbx hq0 hq1 hsx hbw
  go_cut [7] from 8 to 10 (fun (x7 : Value) wx => TwoCut w ca cb wx)
  case first =>
    go_region_with (first
      | (go_at_call 15; (with_reducible refine (HCa'.out _ ((Below.refl w1.heap.size w1).drew)).mono ?_); rintro e wP ⟨vP, TP, rfl, hFP, hTP, hbP⟩; obtain ⟨dP, rP, rfl, hdP, hrP⟩ := hFP.self; obtain ⟨aP, mP, cP, rfl, _, _, _, _⟩ := ListV.open hdP; obtain ⟨zP, nP, gP, rfl, _, _, _, _⟩ := ListV.open hrP; clear hdP hrP; have fPX : Below w1.heap.size w1 wP := (Below.refl w1.heap.size w1).drew.trans hbP; have fPr := HB.out _ fPX; have fP0 : wP.cell? ⟨w.heap.size, 0, none⟩ = some (.string ap) := cell_of_row wP _ 0 _ _ _ fPr.1; have fPf0 : wP.frozen? ⟨w.heap.size, 0, none⟩ = false := free_of_block (j := 0) fPr.1; have fP1 : wP.cell? ⟨w.heap.size, 1, none⟩ = some ad := cell_of_row wP _ 1 _ _ _ fPr.1; have fPf1 : wP.frozen? ⟨w.heap.size, 1, none⟩ = false := free_of_block (j := 1) fPr.1; have fP2 : wP.cell? ⟨w.heap.size, 2, none⟩ = some ar := cell_of_row wP _ 2 _ _ _ fPr.1; have fPf2 : wP.frozen? ⟨w.heap.size, 2, none⟩ = false := free_of_block (j := 2) fPr.1; have fP3 : wP.cell? ⟨w.heap.size, 3, none⟩ = some (.string at1) := cell_of_row wP _ 3 _ _ _ fPr.1; have fPf3 : wP.frozen? ⟨w.heap.size, 3, none⟩ = false := free_of_block (j := 3) fPr.1; have fP4 : wP.cell? ⟨w.heap.size + 1, 0, none⟩ = some (.string bp) := cell_of_row wP _ 0 _ _ _ fPr.2; have fPf4 : wP.frozen? ⟨w.heap.size + 1, 0, none⟩ = false := free_of_block (j := 0) fPr.2; have fP5 : wP.cell? ⟨w.heap.size + 1, 1, none⟩ = some bd := cell_of_row wP _ 1 _ _ _ fPr.2; have fPf5 : wP.frozen? ⟨w.heap.size + 1, 1, none⟩ = false := free_of_block (j := 1) fPr.2; have fP6 : wP.cell? ⟨w.heap.size + 1, 2, none⟩ = some br := cell_of_row wP _ 2 _ _ _ fPr.2; have fPf6 : wP.frozen? ⟨w.heap.size + 1, 2, none⟩ = false := free_of_block (j := 2) fPr.2; have fP7 : wP.cell? ⟨w.heap.size + 1, 3, none⟩ = some (.string bt1) := cell_of_row wP _ 3 _ _ _ fPr.2; have fPf7 : wP.frozen? ⟨w.heap.size + 1, 3, none⟩ = false := free_of_block (j := 3) fPr.2)
      | (go_at_call 15; (with_reducible refine (HCa'.out _ (fQX)).mono ?_); rintro e wP ⟨vP, TP, rfl, hFP, hTP, hbP⟩; obtain ⟨dP, rP, rfl, hdP, hrP⟩ := hFP.self; obtain ⟨aP, mP, cP, rfl, _, _, _, _⟩ := ListV.open hdP; obtain ⟨zP, nP, gP, rfl, _, _, _, _⟩ := ListV.open hrP; clear hdP hrP; have fPX : Below w1.heap.size w1 wP := fQX.trans (hbP.mono fQX.size); have fPr := HB.out _ fPX; have fP0 : wP.cell? ⟨w.heap.size, 0, none⟩ = some (.string ap) := cell_of_row wP _ 0 _ _ _ fPr.1; have fPf0 : wP.frozen? ⟨w.heap.size, 0, none⟩ = false := free_of_block (j := 0) fPr.1; have fP1 : wP.cell? ⟨w.heap.size, 1, none⟩ = some ad := cell_of_row wP _ 1 _ _ _ fPr.1; have fPf1 : wP.frozen? ⟨w.heap.size, 1, none⟩ = false := free_of_block (j := 1) fPr.1; have fP2 : wP.cell? ⟨w.heap.size, 2, none⟩ = some ar := cell_of_row wP _ 2 _ _ _ fPr.1; have fPf2 : wP.frozen? ⟨w.heap.size, 2, none⟩ = false := free_of_block (j := 2) fPr.1; have fP3 : wP.cell? ⟨w.heap.size, 3, none⟩ = some (.string at1) := cell_of_row wP _ 3 _ _ _ fPr.1; have fPf3 : wP.frozen? ⟨w.heap.size, 3, none⟩ = false := free_of_block (j := 3) fPr.1; have fP4 : wP.cell? ⟨w.heap.size + 1, 0, none⟩ = some (.string bp) := cell_of_row wP _ 0 _ _ _ fPr.2; have fPf4 : wP.frozen? ⟨w.heap.size + 1, 0, none⟩ = false := free_of_block (j := 0) fPr.2; have fP5 : wP.cell? ⟨w.heap.size + 1, 1, none⟩ = some bd := cell_of_row wP _ 1 _ _ _ fPr.2; have fPf5 : wP.frozen? ⟨w.heap.size + 1, 1, none⟩ = false := free_of_block (j := 1) fPr.2; have fP6 : wP.cell? ⟨w.heap.size + 1, 2, none⟩ = some br := cell_of_row wP _ 2 _ _ _ fPr.2; have fPf6 : wP.frozen? ⟨w.heap.size + 1, 2, none⟩ = false := free_of_block (j := 2) fPr.2; have fP7 : wP.cell? ⟨w.heap.size + 1, 3, none⟩ = some (.string bt1) := cell_of_row wP _ 3 _ _ _ fPr.2; have fPf7 : wP.frozen? ⟨w.heap.size + 1, 3, none⟩ = false := free_of_block (j := 3) fPr.2)
      | (go_at_call 15; (with_reducible refine (HCb'.out _ ((Below.refl w1.heap.size w1).drew)).mono ?_); rintro e wQ ⟨vQ, TQ, rfl, hFQ, hTQ, hbQ⟩; obtain ⟨dQ, rQ, rfl, hdQ, hrQ⟩ := hFQ.self; obtain ⟨aQ, mQ, cQ, rfl, _, _, _, _⟩ := ListV.open hdQ; obtain ⟨zQ, nQ, gQ, rfl, _, _, _, _⟩ := ListV.open hrQ; clear hdQ hrQ; have fQX : Below w1.heap.size w1 wQ := (Below.refl w1.heap.size w1).drew.trans hbQ; have fQr := HB.out _ fQX; have fQ0 : wQ.cell? ⟨w.heap.size, 0, none⟩ = some (.string ap) := cell_of_row wQ _ 0 _ _ _ fQr.1; have fQf0 : wQ.frozen? ⟨w.heap.size, 0, none⟩ = false := free_of_block (j := 0) fQr.1; have fQ1 : wQ.cell? ⟨w.heap.size, 1, none⟩ = some ad := cell_of_row wQ _ 1 _ _ _ fQr.1; have fQf1 : wQ.frozen? ⟨w.heap.size, 1, none⟩ = false := free_of_block (j := 1) fQr.1; have fQ2 : wQ.cell? ⟨w.heap.size, 2, none⟩ = some ar := cell_of_row wQ _ 2 _ _ _ fQr.1; have fQf2 : wQ.frozen? ⟨w.heap.size, 2, none⟩ = false := free_of_block (j := 2) fQr.1; have fQ3 : wQ.cell? ⟨w.heap.size, 3, none⟩ = some (.string at1) := cell_of_row wQ _ 3 _ _ _ fQr.1; have fQf3 : wQ.frozen? ⟨w.heap.size, 3, none⟩ = false := free_of_block (j := 3) fQr.1; have fQ4 : wQ.cell? ⟨w.heap.size + 1, 0, none⟩ = some (.string bp) := cell_of_row wQ _ 0 _ _ _ fQr.2; have fQf4 : wQ.frozen? ⟨w.heap.size + 1, 0, none⟩ = false := free_of_block (j := 0) fQr.2; have fQ5 : wQ.cell? ⟨w.heap.size + 1, 1, none⟩ = some bd := cell_of_row wQ _ 1 _ _ _ fQr.2; have fQf5 : wQ.frozen? ⟨w.heap.size + 1, 1, none⟩ = false := free_of_block (j := 1) fQr.2; have fQ6 : wQ.cell? ⟨w.heap.size + 1, 2, none⟩ = some br := cell_of_row wQ _ 2 _ _ _ fQr.2; have fQf6 : wQ.frozen? ⟨w.heap.size + 1, 2, none⟩ = false := free_of_block (j := 2) fQr.2; have fQ7 : wQ.cell? ⟨w.heap.size + 1, 3, none⟩ = some (.string bt1) := cell_of_row wQ _ 3 _ _ _ fQr.2; have fQf7 : wQ.frozen? ⟨w.heap.size + 1, 3, none⟩ = false := free_of_block (j := 3) fQr.2)
      | (go_at_call 15; (with_reducible refine (HCb'.out _ (fPX)).mono ?_); rintro e wQ ⟨vQ, TQ, rfl, hFQ, hTQ, hbQ⟩; obtain ⟨dQ, rQ, rfl, hdQ, hrQ⟩ := hFQ.self; obtain ⟨aQ, mQ, cQ, rfl, _, _, _, _⟩ := ListV.open hdQ; obtain ⟨zQ, nQ, gQ, rfl, _, _, _, _⟩ := ListV.open hrQ; clear hdQ hrQ; have fQX : Below w1.heap.size w1 wQ := fPX.trans (hbQ.mono fPX.size); have fQr := HB.out _ fQX; have fQ0 : wQ.cell? ⟨w.heap.size, 0, none⟩ = some (.string ap) := cell_of_row wQ _ 0 _ _ _ fQr.1; have fQf0 : wQ.frozen? ⟨w.heap.size, 0, none⟩ = false := free_of_block (j := 0) fQr.1; have fQ1 : wQ.cell? ⟨w.heap.size, 1, none⟩ = some ad := cell_of_row wQ _ 1 _ _ _ fQr.1; have fQf1 : wQ.frozen? ⟨w.heap.size, 1, none⟩ = false := free_of_block (j := 1) fQr.1; have fQ2 : wQ.cell? ⟨w.heap.size, 2, none⟩ = some ar := cell_of_row wQ _ 2 _ _ _ fQr.1; have fQf2 : wQ.frozen? ⟨w.heap.size, 2, none⟩ = false := free_of_block (j := 2) fQr.1; have fQ3 : wQ.cell? ⟨w.heap.size, 3, none⟩ = some (.string at1) := cell_of_row wQ _ 3 _ _ _ fQr.1; have fQf3 : wQ.frozen? ⟨w.heap.size, 3, none⟩ = false := free_of_block (j := 3) fQr.1; have fQ4 : wQ.cell? ⟨w.heap.size + 1, 0, none⟩ = some (.string bp) := cell_of_row wQ _ 0 _ _ _ fQr.2; have fQf4 : wQ.frozen? ⟨w.heap.size + 1, 0, none⟩ = false := free_of_block (j := 0) fQr.2; have fQ5 : wQ.cell? ⟨w.heap.size + 1, 1, none⟩ = some bd := cell_of_row wQ _ 1 _ _ _ fQr.2; have fQf5 : wQ.frozen? ⟨w.heap.size + 1, 1, none⟩ = false := free_of_block (j := 1) fQr.2; have fQ6 : wQ.cell? ⟨w.heap.size + 1, 2, none⟩ = some br := cell_of_row wQ _ 2 _ _ _ fQr.2; have fQf6 : wQ.frozen? ⟨w.heap.size + 1, 2, none⟩ = false := free_of_block (j := 2) fQr.2; have fQ7 : wQ.cell? ⟨w.heap.size + 1, 3, none⟩ = some (.string bt1) := cell_of_row wQ _ 3 _ _ _ fQr.2; have fQf7 : wQ.frozen? ⟨w.heap.size + 1, 3, none⟩ = false := free_of_block (j := 3) fQr.2))
    all_goals
      go_wp2_with fail
      go_meet
      case rel =>
        first
        | exact (two_stored hb1 fQX hz1 fQr.1 fQr.2 (hFP.below hbQ) hFQ (fun k hk => hTP k hk) (fun k hk => Nat.le_trans fPX.size (hTQ k hk))).1
        | exact (two_stored hb1 fQX hz1 fQr.1 fQr.2 (hFP.below hbQ) hFQ (fun k hk => hTP k hk) (fun k hk => Nat.le_trans fPX.size (hTQ k hk))).2
        | exact (two_stored hb1 fPX hz1 fPr.1 fPr.2 hFP (hFQ.below hbP) (fun k hk => Nat.le_trans fQX.size (hTP k hk)) (fun k hk => hTQ k hk)).1
        | exact (two_stored hb1 fPX hz1 fPr.1 fPr.2 hFP (hFQ.below hbP) (fun k hk => Nat.le_trans fQX.size (hTP k hk)) (fun k hk => hTQ k hk)).2
  case rest =>
    clear HB HCa' HCb' x0 x1 x2 x3 y0 y1 y2 y3 hr0 hr1
    obtain ⟨p1, t1, p2, t2, d1, e1, d2, e2, m1, c1, n1, g1, m2, c2, n2, g2, hT⟩ := hcut
    rename World => w2
    obtain ⟨hbw2, h1, h2, hs1, hs2⟩ := hT
    have HE2 := HE.out.below hbw2
    have HM1 := Lib.hid (fun V => pmay_any _ _ (over w2 V) (hs1.below (over_below w2 V)) hsm1.1 (HE2.below (over_below w2 V)).max)
    have HM2 := Lib.hid (fun V => rmay_any _ _ (over w2 V) (hs1.below (over_below w2 V)) hsm1.1)
    have HX1 := Lib.hid (fun V => text_tells (ptext_any _ _ (over w2 V) (hs1.below (over_below w2 V)) hsm1.1 hsm1.2 (HE2.below (over_below w2 V))))
    have HX2 := Lib.hid (fun V => text_tells (rtext_any _ _ (over w2 V) (hs1.below (over_below w2 V)) hsm1.1 hsm1.2))
    have HS1 := Lib.hid (fun V => psame_any _ _ _ _ (over w2 V) (hs1.below (over_below w2 V)) (hs2.below (over_below w2 V)))
    have HS2 := Lib.hid (fun V => rsame_any _ _ _ _ (over w2 V) (hs1.below (over_below w2 V)) (hs2.below (over_below w2 V)))
    have HS3 := Lib.hid (fun V => psame_any _ _ _ _ (over w2 V) (hs1.below (over_below w2 V)) (hs1.below (over_below w2 V)))
    rw [So.same_refl ca] at HS3
    generalize maySo ca = M at HM1 HM2
    generalize (⟨(soT ca).toArray⟩ : ByteArray) = X at HX1 HX2
    generalize ca.same cb = Z at HS1 HS2
    have u0 := over_cell (cell_of_row w2 _ 0 _ _ _ h1)
    have u1 := over_cell (cell_of_row w2 _ 1 _ _ _ h1)
    have u2 := over_cell (cell_of_row w2 _ 2 _ _ _ h1)
    have u3 := over_cell (cell_of_row w2 _ 3 _ _ _ h1)
    have z0 := over_cell (cell_of_row w2 _ 0 _ _ _ h2)
    have z1 := over_cell (cell_of_row w2 _ 1 _ _ _ h2)
    have z2 := over_cell (cell_of_row w2 _ 2 _ _ _ h2)
    have z3 := over_cell (cell_of_row w2 _ 3 _ _ _ h2)
    clear hs1 hs2 hsm1 hsm2 HE2 HE
    go_upto_region 4 with fail
    refine wp_region_over (by kernel_rfl) (by kernel_rfl) ?_
    repeat (first | go_big_quiet_skip | (go_big_quiet_want; go_big_quiet_op; first | go_big_quiet_on | (apply Exists.intro; refine ⟨fun _ => ?_, ?_⟩; (first | (go_at_call 16; with_reducible exact calls_over (HM1.out _) (fun e w1 h => h)) | (go_at_call 17; with_reducible exact calls_over (HM2.out _) (fun e w1 h => h)) | (go_at_call 18; with_reducible exact calls_over (HX1.out _) (fun e w1 h => h)) | (go_at_call 19; with_reducible exact calls_over (HX2.out _) (fun e w1 h => h)) | (go_at_call 13; with_reducible exact calls_over (HS2.out _) (fun e w1 h => h)) | (go_at_call 20; with_reducible exact calls_over (HS1.out _) (fun e w1 h => h)) | (go_at_call 20; with_reducible exact calls_over (HS3.out _) (fun e w1 h => h))); go_big_quiet_on)))
    refine wpQuiet_nil ?_
    intro _ hw'
    obtain ⟨V, hw''⟩ := hw'
    subst hw''
    have hz := over_below w2 V
    generalize over w2 V = w9 at hz ⊢
    go_wp2_with fail
    go_ret
    exact ⟨by rfl, hbw2.trans (hz.mono hbw2.size)⟩
end Go.Proofs.YtnoppoifepbchaaDoor
