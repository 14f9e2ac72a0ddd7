/- The maker's alt. -/
import Derived.Test.YtkgbifbbpmdpgaaNOf6
set_option linter.unusedVariables false
set_option linter.unusedSimpArgs false
namespace Go.Proofs.Ytkgbifbbpmdpgaa

open List renaming getElem_toArray → gA, getElem_cons_succ → gB, getElem_cons_zero → gC, setIfInBounds_toArray → gD, set_cons_zero → gE, set_cons_succ → gF
open Go.RowKit
section
variable {w0 w w1 w5 : World} {B M P : Nat} {F S F1 S1 F9 S9 : Nat → Prop} {s : Au} {left prec : Int} {rv y : Value} {oA : Obj} {m' : Mk}
theorem AltM.setPrec (h : AltM w0 w B M P F S F1 S1 s left prec rv oA) (q : Int) : AltM w0 (w.setCell ⟨P, 2, none⟩ (.int .i64 q)) B M P F S F1 S1 s left q rv oA := by
 have h0 := h.lt0
 obtain ⟨hp, hf⟩ := h.pd.setPrec q
 exact ⟨h.mak.frame hf (fun b hb => ⟨(h.dis b hb).1, (h.dis b hb).2.1⟩), hp, h.dis, h.flt, h.fnew, h.snew, h.fr.trans hf (fun b hb => .inr (Nat.le_of_lt (h.dis b hb).2.2)), (hf.block _ h0 (fun hb => Nat.lt_irrefl _ (h.dis _ hb).2.2)).trans h.row⟩
theorem AltM.low (h : AltM w0 w B M P F S F1 S1 s left prec rv oA) (hB : B ≤ w0.heap.size) (hF : ∀ b, F b → B ≤ b) : Below B w0 w := h.fr.below hF hB
end
theorem altPrec_prods (m : Mk) (x : Sm) (r : List Int) : (m.altPrec x r).1.prods = m.prods := by
 unfold Mk.altPrec
 split
 · rfl
 · split
   · exact (m.symbol_more x).2.2.1
   · split
     · exact (m.symbol_more x).2.2.1
     · exact (m.fail_same x.pos x.name).2.1
def AltStart (w1 : World) (l : Int) (ap : Int) (x6 : Value) (wx : World) : Prop := ∃ P, x6 = .pointer (some ⟨P, 0, none⟩) ∧ w1.heap.size ≤ P ∧ Below w1.heap.size w1 wx ∧ wx.heap[P]? = some (.cells #[.int .i64 l, .slice none 0 0, .int .i64 (-1), .string ⟨#[]⟩, .slice none 0 0, .int .i64 ap] 87 (0, 0))
set_option maxRecDepth 100000 in
set_option maxHeartbeats 20000000 in
theorem alt_any {w : World} {B M : Nat} {F S : Nat → Prop} {m : Mk} (h : MkV w B M F S m) (ln : ByteArray) (pv : Value) (a : Al) (hpv : ∀ V, Below B w V → PtsV V pv a.parts) (hok : ∀ p ∈ a.parts, p.code.size = 0 → p.sym.lit = true → 1 ≤ p.sym.name.size) (hpr : a.prec.name.size ≠ 0 → a.prec.lit = true → 1 ≤ a.prec.name.size)
  (hpl : a.parts.length ≤ 1000) (hn : m.toks.length ≤ 800000) (hl : m.given.length = m.toks.length) (hlf : m.lefts.length ≤ 1000000) (hp : m.prods.length ≤ 1000000) (hin : 0 ≤ m.inner ∧ m.inner ≤ 1000000) :
  Calls Try.prog 48 #[.pointer (some ⟨M, 0, none⟩), .string ln, .agg #[pv, .string a.prec.name, .bool a.prec.lit, .int .i64 a.prec.num, .int .i64 a.prec.pos, .int .i64 a.pos]] w (fun e w' => ∃ F' S', e = .returned (.tuple #[]) ∧ MkV w' B M F' S' (m.alt ln a) ∧ (∀ b, F' b → F b ∨ w.heap.size < b) ∧ (∀ b, S' b → S b ∨ w.heap.size < b) ∧ Fr F w w') := by
 have hB : B ≤ w.heap.size := by
  obtain ⟨tv, pv, gv, yv, lv, ys, h1, h2, h3⟩ := h.is
  have := h2.mB; have := h2.mlt; omega
 obtain ⟨pa, pn, pc, rfl, hpn, hpc, hpc2, _⟩ := (hpv w (Below.refl _ _)).open
 have hA0 := heap_alloc_new w (.cells #[.slice pa pn pc, .string a.prec.name, .bool a.prec.lit, .int .i64 a.prec.num, .int .i64 a.prec.pos, .int .i64 a.pos] 71)
 obtain ⟨parts, ⟨cn, cl, cm, cp⟩, ap⟩ := a
 simp only at hok hpr hpl hpn hpv hA0 ⊢
 have hb1 := (Below.refl w.heap.size w).alloc (Nat.le_refl _) (.cells #[.slice pa pn pc, .string cn, .bool cl, .int .i64 cm, .int .i64 cp, .int .i64 ap] 71)
 have H1 := Lib.hid (h.below hb1)
 have HL := Lib.hid (left_any H1.out ln)
 have hz1 : (w.alloc (.cells #[.slice pa pn pc, .string cn, .bool cl, .int .i64 cm, .int .i64 cp, .int .i64 ap] 71)).heap.size = w.heap.size + 1 := World.size_alloc _ _
 have hXF : ∀ b, F b ∨ S b → B ≤ b ∧ b < w.heap.size := fun b hb => h.lt b hb
 have HA := Lib.hid (fun V (hV : Below (w.alloc (.cells #[.slice pa pn pc, .string cn, .bool cl, .int .i64 cm, .int .i64 cp, .int .i64 ap] 71)).heap.size (w.alloc (.cells #[.slice pa pn pc, .string cn, .bool cl, .int .i64 cm, .int .i64 cp, .int .i64 ap] 71)) V) => (hV.block w.heap.size (by rw [hz1]; omega)).trans hA0)
 have a5 : (w.alloc (.cells #[.slice pa pn pc, .string cn, .bool cl, .int .i64 cm, .int .i64 cp, .int .i64 ap] 71)).cell? ⟨w.heap.size, 5, none⟩ = some (.int .i64 ap) := cell_of_row _ _ 5 _ _ _ hA0
 have hlg := m.left_ge ln
 have hAU := au_bounds m ⟨parts, ⟨cn, cl, cm, cp⟩, ap⟩ hl hin.1
 have hALT : m.alt ln ⟨parts, ⟨cn, cl, cm, cp⟩, ap⟩ = ((auTo m ⟨parts, ⟨cn, cl, cm, cp⟩, ap⟩ parts.length).m.altPrec ⟨cn, cl, cm, cp⟩ (auTo m ⟨parts, ⟨cn, cl, cm, cp⟩, ap⟩ parts.length).right).1.addProd ⟨1 + m.left ln, (auTo m ⟨parts, ⟨cn, cl, cm, cp⟩, ap⟩ parts.length).right, ((auTo m ⟨parts, ⟨cn, cl, cm, cp⟩, ap⟩ parts.length).m.altPrec ⟨cn, cl, cm, cp⟩ (auTo m ⟨parts, ⟨cn, cl, cm, cp⟩, ap⟩ parts.length).right).2, (auTo m ⟨parts, ⟨cn, cl, cm, cp⟩, ap⟩ parts.length).code, (auTo m ⟨parts, ⟨cn, cl, cm, cp⟩, ap⟩ parts.length).right, (auTo m ⟨parts, ⟨cn, cl, cm, cp⟩, ap⟩ parts.length).pos⟩ := rfl
 have hAS : ∀ i, auTo m ⟨parts, ⟨cn, cl, cm, cp⟩, ap⟩ (i + 1) = auStep parts.length i (parts.getD i ⟨noSm, ⟨#[]⟩, 0⟩) (auTo m ⟨parts, ⟨cn, cl, cm, cp⟩, ap⟩ i) := fun i => rfl
 have hA00 : auTo m ⟨parts, ⟨cn, cl, cm, cp⟩, ap⟩ 0 = ⟨m, [], ⟨#[]⟩, ap⟩ := rfl
 generalize m.alt ln ⟨parts, ⟨cn, cl, cm, cp⟩, ap⟩ = MA at *
 generalize auTo m ⟨parts, ⟨cn, cl, cm, cp⟩, ap⟩ = au at *
 have hpn2 := hpn.out
 rw [← hpn2] at hALT hAS hpl
 have HALT := Lib.hid hALT
 have HAS := Lib.hid hAS
 have HA00 := Lib.hid hA00
 have HAU := Lib.hid hAU
 have HOK := Lib.hid hok
 have HPV := Lib.hid hpv
 have HXF := Lib.hid hXF
 clear hpn2 hALT hAS hA00 hAU hok hpv hXF
 go_enter Try.func48, Try.ntmps48
 go_upto_region 1 with fail
 clear h
 have HB1 := Lib.hid hb1
 generalize (w.alloc (.cells #[.slice pa pn pc, .string cn, .bool cl, .int .i64 cm, .int .i64 cp, .int .i64 ap] 71)) = w1 at *
 have hLb : -1 ≤ m.left ln ∧ m.left ln ≤ 1000000 := by rcases hlg with e | ⟨k, e, hk⟩ <;> omega
 generalize hLL : m.left ln = L at *
 have HL1 := Lib.hid (fun V (hV : Below w1.heap.size w1 V) => left_any (H1.out.below hV) ln)
 rw [hLL] at HL1
 have HZ1 := Lib.hid hz1
 clear hz1
 go_cut [6] from 10 to 16 (fun (x6 : Value) wx => AltStart w1 (1 + L) ap x6 wx)
 case first =>
  have hw9 : IntKind.i64.wrap (1 + L) = 1 + L := IntWalk.i64_in _ ⟨by omega, by omega⟩
  refine wp_region_held_drew (S := (fun Xw => Xw.cell? ⟨w.heap.size, 5, none⟩ = some (.int .i64 ap))) (by kernel_rfl) ?hS0 (fun hHeld => ?hR0)
  case hS0 => exact a5
  case hR0 =>
   refine tk 0 ?_
   try simp only [Act.put, gA, gB, gC, gD, gE, gF]
   refine tk 1 ?_
   try simp only [Act.put, gA, gB, gC, gD, gE, gF]
   refine tk 4 ?_
   try simp only [Act.put, gA, gB, gC, gD, gE, gF]
   refine tk 5 ?_
   try simp only [Act.put, gA, gB, gC, gD, gE, gF]
   refine wpAnyH_ready (rs := [2, 7]) (by kernel_rfl) (by simp) ?_
   refine AllReadyH.cons rfl (fun K hK => ?_) ?_
   · try simp only [gA, gB, gC]
     go_simp
     go_at_call 47
     (with_reducible refine (HL1.out _ (Below.refl w1.heap.size w1).drew).mono ?_)
     rintro e w9 ⟨rfl, hb9⟩
     have f9 : Below w1.heap.size w1 w9 := (Below.refl w1.heap.size w1).drew.trans hb9
     go_wp2_with fail
     refine hK.out _ _ (cell_up f9 a5) (fun hHeld => ?_)
     clear hK K
     try simp only [Act.put, gA, gB, gC, gD, gE, gF]
     refine tk 3 ?_
     try simp only [Act.put, gA, gB, gC, gD, gE, gF]
     refine tk 6 ?_
     try simp only [Act.put, gA, gB, gC, gD, gE, gF]
     refine wpAnyH_ready (rs := [7]) (by kernel_rfl) (by simp) ?_
     refine AllReadyH.cons rfl (fun K hK => ?_) .nil
     try simp only [gA, gB, gC]
     go_simp
     refine hK.out _ _ (cell_up (f9.alloc f9.size (.cells #[.int .i64 0, .slice none 0 0, .int .i64 0, .string ⟨#[]⟩, .slice none 0 0, .int .i64 0] 87)) a5) (fun hHeld => ?_)
     clear hK K
     try simp only [Act.put, gA, gB, gC, gD, gE, gF]
     refine wpAnyH_ready (rs := [8]) (by kernel_rfl) (by simp) ?_
     refine AllReadyH.cons rfl (fun K hK => ?_) .nil
     try simp only [gA, gB, gC]
     go_simp
     have kL := f9.alloc f9.size (.cells #[.int .i64 (1 + L), .slice none 0 0, .int .i64 (-1), .string ⟨#[]⟩, .slice none 0 0, .int .i64 ap] 87)
     refine hK.out _ _ (cell_up kL a5) (fun hHeld => ?_)
     clear hK K
     try simp only [Act.put, gA, gB, gC, gD, gE, gF]
     refine wpAnyH_done (by kernel_rfl) ?_ _
     go_wp2_with fail
     go_meet
     case rel =>
      exact ⟨w9.heap.size, rfl, f9.size, kL, heap_alloc_new w9 _⟩
   refine AllReadyH.cons rfl (fun K hK => ?_) .nil
   try simp only [gA, gB, gC]
   go_simp
   have hbA : Below w1.heap.size w1 (w1.alloc (.cells #[.int .i64 0, .slice none 0 0, .int .i64 0, .string ⟨#[]⟩, .slice none 0 0, .int .i64 0] 87)).drew := ((Below.refl w1.heap.size w1).alloc (Nat.le_refl _) _).drew
   have hPA : (w1.alloc (.cells #[.int .i64 0, .slice none 0 0, .int .i64 0, .string ⟨#[]⟩, .slice none 0 0, .int .i64 0] 87)).drew.heap[w1.heap.size]? = _ := heap_alloc_new w1 (.cells #[.int .i64 0, .slice none 0 0, .int .i64 0, .string ⟨#[]⟩, .slice none 0 0, .int .i64 0] 87)
   refine hK.out _ _ (cell_up hbA a5) (fun hHeld => ?_)
   clear hK K
   try simp only [Act.put, gA, gB, gC, gD, gE, gF]
   refine wpAnyH_ready (rs := [2]) (by kernel_rfl) (by simp) ?_
   refine AllReadyH.cons rfl (fun K hK => ?_) .nil
   try simp only [gA, gB, gC]
   go_simp
   go_at_call 47
   (with_reducible refine (HL1.out _ hbA).mono ?_)
   rintro e w9 ⟨rfl, hb9⟩
   have f9 : Below w1.heap.size w1 w9 := hbA.trans (hb9.mono hbA.size)
   have hP9 := (hb9.block w1.heap.size (Array.getElem?_eq_some_iff.1 hPA).1).trans hPA
   have q0 : w9.cell? ⟨w1.heap.size, 0, none⟩ = some (.int .i64 0) := cell_of_row _ _ 0 _ _ _ hP9
   have f0 : w9.frozen? ⟨w1.heap.size, 0, none⟩ = false := free_of_block hP9
   have q1 : w9.cell? ⟨w1.heap.size, 1, none⟩ = some (.slice none 0 0) := cell_of_row _ _ 1 _ _ _ hP9
   have f1 : w9.frozen? ⟨w1.heap.size, 1, none⟩ = false := free_of_block hP9
   have q2 : w9.cell? ⟨w1.heap.size, 2, none⟩ = some (.int .i64 0) := cell_of_row _ _ 2 _ _ _ hP9
   have f2 : w9.frozen? ⟨w1.heap.size, 2, none⟩ = false := free_of_block hP9
   have q3 : w9.cell? ⟨w1.heap.size, 3, none⟩ = some (.string ⟨#[]⟩) := cell_of_row _ _ 3 _ _ _ hP9
   have f3 : w9.frozen? ⟨w1.heap.size, 3, none⟩ = false := free_of_block hP9
   have q4 : w9.cell? ⟨w1.heap.size, 4, none⟩ = some (.slice none 0 0) := cell_of_row _ _ 4 _ _ _ hP9
   have f4 : w9.frozen? ⟨w1.heap.size, 4, none⟩ = false := free_of_block hP9
   have q5 : w9.cell? ⟨w1.heap.size, 5, none⟩ = some (.int .i64 0) := cell_of_row _ _ 5 _ _ _ hP9
   have f5 : w9.frozen? ⟨w1.heap.size, 5, none⟩ = false := free_of_block hP9
   go_wp2_with fail
   refine hK.out _ _ (cell_up f9 a5) (fun hHeld => ?_)
   clear hK K
   try simp only [Act.put, gA, gB, gC, gD, gE, gF]
   refine tk 3 ?_
   try simp only [Act.put, gA, gB, gC, gD, gE, gF]
   refine tk 6 ?_
   try simp only [Act.put, gA, gB, gC, gD, gE, gF]
   refine wpAnyH_ready (rs := [8]) (by kernel_rfl) (by simp) ?_
   refine AllReadyH.cons rfl (fun K hK => ?_) .nil
   try simp only [gA, gB, gC]
   go_simp
   refine hK.out _ _ ?hZ (fun hHeld => ?_)
   case hZ => exact (set6 hP9 _ _ _ _ _ _).2.cell (cell_up f9 a5) (fun e => by have := HZ1.out; have e2 : w.heap.size = w1.heap.size := e; omega)
   clear hK K
   try simp only [Act.put, gA, gB, gC, gD, gE, gF]
   refine wpAnyH_done (by kernel_rfl) ?_ _
   go_wp2_with fail
   go_meet
   case rel =>
    have hs6 := set6 hP9 (.int .i64 (1 + L)) (.slice none 0 0) (.int .i64 (-1)) (.string ⟨#[]⟩) (.slice none 0 0) (.int .i64 ap)
    exact ⟨w1.heap.size, rfl, Nat.le_refl _, (Fr.of_below f9).trans hs6.2 (fun b hb => .inr (Nat.le_of_eq (Eq.symm hb))) |>.below (D := fun _ => False) (fun b h => h.elim) (Nat.le_refl _), hs6.1⟩
 case rest =>
  obtain ⟨P, rfl, hP1, hbw, hPr⟩ := hcut
  have hz1 := HZ1.out
  have hAM : AltM w wc B M P F S F S (au 0) (1 + L) (-1) (.slice none 0 0) (.cells #[.slice pa pn pc, .string cn, .bool cl, .int .i64 cm, .int .i64 cp, .int .i64 ap] 71 (0, 0)) := by
   rw [HA00.out]
   refine ⟨H1.out.below hbw, PV.of_box hPr (by omega), fun b hb => ?_, fun b hb => (HXF.out b hb).2, fun b hb => .inl hb, fun b hb => .inl hb, (Fr.of_below HB1.out).trans (Fr.of_below (D := F) hbw) (fun b hb => .inl hb), HA.out wc hbw⟩
   rcases hb with rfl | hb
   · exact ⟨fun hF => by have := (HXF.out _ (.inl hF)).2; omega, fun hF => by have := (HXF.out _ (.inr hF)).2; omega, by omega⟩
   · cases hb
  have HAM := Lib.hid hAM
  have HPB : Hid (∀ (b : Nat), F b ∨ S b → B ≤ b ∧ b < w.heap.size) := HXF
  clear hAM hPr hbw hP1 HL HL1 a5 H1 HA HB1 HZ1 hz1
  rename World => W0
  go_upto_block 0 with fail
  go_cut [] from 7 to 107 (fun wx => ∃ F1 S1 rv, AltM w wx B M P F S F1 S1 (au pn) (1 + L) (-1) rv (.cells #[.slice pa pn pc, .string cn, .bool cl, .int .i64 cm, .int .i64 cp, .int .i64 ap] 71 (0, 0)))
  case first =>
   go_wp2_with fail
   go_loopw [7] (fun x7 W => ∃ (k : Nat) (F1 S1 : Nat → Prop) (rv : Value), k ≤ pn ∧ x7 = .int .i64 k ∧ Hid (AltM w W B M P F S F1 S1 (au k) (1 + L) (-1) rv (.cells #[.slice pa pn pc, .string cn, .bool cl, .int .i64 cm, .int .i64 cp, .int .i64 ap] 71 (0, 0)))) (fun x7 _ => pn - (intOf x7).toNat)
   case atStart => exact ⟨0, F, S, _, Nat.zero_le _, rfl, HAM⟩
   case round =>
    clear HAM
    obtain ⟨k, F1, S1, rv, hk, rfl, HM⟩ := hrel
    rename World => W
    have c0 := HM.out.box (j := 0)
    simp only [List.getElem?_toArray, List.getElem?_cons_zero] at c0
    by_cases hlt : k < pn
    · have hlow : Below B w W := HM.out.low hB (fun b hb => (HXF.out b (.inl hb)).1)
      obtain ⟨a', n', c', e1, hn', _, _, hx⟩ := (HPV.out W hlow).open
      cases e1
      obtain ⟨b, o, x, e2, hx0, y0, y1, y2, y3, y4, y5⟩ := hx.out k hlt
      obtain ⟨⟨xn, xl, xm, xp⟩, c, q⟩ := x
      simp only at y0 y1 y2 y3 y4 y5
      subst e2
      have i1 : (k : Int) < (pn : Int) := by omega
      have hgx : parts.getD k ⟨noSm, ⟨#[]⟩, 0⟩ = ⟨⟨xn, xl, xm, xp⟩, c, q⟩ := by rw [List.getD_eq_getElem?_getD, hx0]; rfl
      have HS := HAS.out k
      rw [hgx] at HS
      have HS := Lib.hid HS
      have hxo := HOK.out _ (List.mem_of_getElem? hx0)
      simp only at hxo
      have HU := Lib.hid (HAU.out k)
      have hbq := (Below.refl W.heap.size W).alloc (Nat.le_refl _) (.cells #[.string xn, .bool xl, .int .i64 xm, .int .i64 xp, .string c, .int .i64 q] 78)
      have HQ := Lib.hid (heap_alloc_new W (.cells #[.string xn, .bool xl, .int .i64 xm, .int .i64 xp, .string c, .int .i64 q] 78))
      have HMq := Lib.hid (HM.out.below hbq)
      have HQF : Hid (∀ b, F1 b ∨ S1 b ∨ pFoot P rv b → b < W.heap.size) := Lib.hid (fun b hb => by
       rcases hb with hb | hb | hb
       · exact (HM.out.mak.lt b (.inl hb)).2
       · exact (HM.out.mak.lt b (.inr hb)).2
       · exact (HM.out.pd.lt b hb).2)
      have h00 := HM.out.lt0
      have HXO := Lib.hid hxo
      clear hx hn' hgx hx0 hxo hbq
      go_upto_block 2 with fail
      obtain ⟨u1, u2, u3, u4, u5, u6⟩ := HU.out
      refine wp_ib ?_
      refine alt_switch (Q := W.heap.size) (fun _ _ d _ _ h => by cases d <;> exact h) HMq.out HQ.out HQF.out h00 HXO.out (by omega) u5 (by rw [u2]; exact hlf) (by omega) (by omega) (by omega) hlt (by omega) ⟨hpc, hpc2⟩ (fun x29 x30 x31 x32 x33 x34 x35 x36 x37 x38 x39 x40 x41 x42 x43 x44 x45 x46 x47 x48 x49 x50 x51 x52 x53 x54 x55 x56 x57 x58 x59 x60 x61 x62 x63 x64 x65 x66 x67 x68 x69 x70 x71 x72 x73 x74 x75 x76 x77 x78 x79 x80 x81 x82 x83 x84 x85 x86 x87 x88 x89 x90 x91 x92 x93 x94 x95 x96 x97 x98 x99 x100 x101 x102 x103 x104 x105 x106 x107 wc hcut => ?_)
      rw [← HS.out] at hcut
      obtain ⟨F2, S2, rv2, hA2⟩ := hcut
      have HA2 := Lib.hid hA2
      clear hA2 u1 u2 u3 u4 u5 u6 HMq HQ HQF h00 HXO HS HU HM y0 y1 y2 y3 y4 y5 c0
      go_wp2_with fail
      go_round
      case rel => exact ⟨k + 1, F2, S2, rv2, by omega, by go_num, HA2⟩
      case measure => simp [intOf]; omega
    · have i1 : ¬ (k : Int) < (pn : Int) := by omega
      obtain rfl : k = pn := by omega
      go_wp2_with fail
      go_meet
      case rel => exact ⟨F1, S1, rv, HM.out⟩
  case rest =>
   obtain ⟨F1, S1, rv, hA1⟩ := hcut
   clear HAM
   have HU := Lib.hid (HAU.out pn)
   have HALT2 := HALT
   clear HALT HAU HAS HA00 HOK HPV
   generalize au pn = s at *
   have HA1 := Lib.hid hA1
   clear hA1
   rename World => W1
   go_upto_block 3 with fail
   go_cut [] from 9 to 126 (fun wx => Hid (AltM w wx B M P F S F1 S1 s (1 + L) (precTo s.right s.right.length) rv (.cells #[.slice pa pn pc, .string cn, .bool cl, .int .i64 cm, .int .i64 cp, .int .i64 ap] 71 (0, 0))))
   case first =>
    go_wp2_with fail
    have hlr := HU.out.2.2.2.2.2
    go_loopw [9] (fun x9 W => ∃ (k : Nat), k ≤ s.right.length ∧ x9 = .int .i64 k ∧ Hid (AltM w W B M P F S F1 S1 s (1 + L) (precTo s.right k) rv (.cells #[.slice pa pn pc, .string cn, .bool cl, .int .i64 cm, .int .i64 cp, .int .i64 ap] 71 (0, 0)))) (fun x9 _ => s.right.length - (intOf x9).toNat)
    case atStart => exact ⟨0, Nat.zero_le _, rfl, HA1⟩
    case round =>
     clear HA1
     obtain ⟨k, hk, rfl, HM⟩ := hrel
     rename World => W
     obtain ⟨ra, rn, rc, e0, hrn, hrc, hrm, hx⟩ := HM.out.pd.ints.open
     subst e0
     have c1 := HM.out.right
     have hrn2 := hrn.out
     by_cases hlt : k < rn
     · obtain ⟨b, o, e2, y0⟩ := hx.out k hlt
       subst e2
       have i1 : (k : Int) < (rn : Int) := by omega
       have hpt : precTo s.right (k + 1) = (if s.right.getD k 0 < 1000 then s.right.getD k 0 else precTo s.right k) := rfl
       generalize s.right.getD k 0 = v at *
       have p2 := StW.cell HM.out.pd 2
       have f2 := StW.free HM.out.pd 2
       simp only [pdCells, List.getElem?_cons_succ, List.getElem?_cons_zero] at p2
       by_cases hv : v < 1000
       · rw [if_pos hv] at hpt
         have HM2 := Lib.hid (HM.out.setPrec v)
         have HV := Lib.hid hpt
         have hrn3 := Lib.hid hrn2
         clear hpt hx HM hrn hrn2
         go_wp2_with fail
         go_round
         case rel => exact ⟨k + 1, by have := hrn3.out; omega, by go_num, by rw [HV.out]; exact HM2⟩
         case measure => have := hrn3.out; simp [intOf]; omega
       · rw [if_neg hv] at hpt
         have HV := Lib.hid hpt
         clear hpt hx hrn
         have hrn3 := Lib.hid hrn2
         clear hrn2
         go_wp2_with fail
         go_round
         case rel => exact ⟨k + 1, by have := hrn3.out; omega, by go_num, by rw [HV.out]; exact HM⟩
         case measure => have := hrn3.out; simp [intOf]; omega
     · have i1 : ¬ (k : Int) < (rn : Int) := by omega
       have hkr : k = s.right.length := by omega
       subst hkr
       have hrn3 := Lib.hid hrn2
       clear hrn2 hx hrn
       go_wp2_with fail
       go_meet
       case rel => exact HM
   case rest =>
    clear HA1
    have HA2 := hcut
    clear hcut
    have hAP : s.m.altPrec ⟨cn, cl, cm, cp⟩ s.right = (if cn.size = 0 then (s.m, precTo s.right s.right.length) else if cl = true then s.m.symbol ⟨cn, cl, cm, cp⟩ else if s.m.left cn < 0 then s.m.symbol ⟨cn, cl, cm, cp⟩ else (s.m.fail cp cn, -1)) := rfl
    have hPPr := altPrec_prods s.m ⟨cn, cl, cm, cp⟩ s.right
    generalize s.m.altPrec ⟨cn, cl, cm, cp⟩ s.right = AP at hAP HALT2 hPPr
    have HPPr := Lib.hid hPPr
    clear hPPr
    generalize precTo s.right s.right.length = pt at *
    obtain ⟨u1, u2, u3, u4, u5, u6⟩ := HU.out
    have b1 := HA2.out.box (j := 1)
    have b2 := HA2.out.box (j := 2)
    have b3 := HA2.out.box (j := 3)
    have b4 := HA2.out.box (j := 4)
    simp only [List.getElem?_toArray, List.getElem?_cons_succ, List.getElem?_cons_zero] at b1 b2 b3 b4
    have HAP := Lib.hid hAP
    have HU2 := Lib.hid (And.intro u1 (And.intro u2 (And.intro u3 (And.intro u4 (And.intro u5 u6)))))
    clear hAP u1 u2 u3 u4 u5 u6
    rename World => W2
    go_upto_if 130 with fail
    generalize hbq : (!cn.toList.isEmpty) = bq
    have HBQ := Lib.hid hbq
    clear hbq
    go_cut [] from 127 to 155 (fun wx => ∃ F2, Hid (AltM w wx B M P F S F2 S1 { s with m := AP.1 } (1 + L) AP.2 rv (.cells #[.slice pa pn pc, .string cn, .bool cl, .int .i64 cm, .int .i64 cp, .int .i64 ap] 71 (0, 0))))
    case first =>
     cases bq with
     | false =>
       have hz : cn.size = 0 := by
        have e := HBQ.out
        rw [Lib.toList_data] at e
        show cn.data.size = 0
        rw [← Array.length_toList]
        cases h : cn.data.toList with
        | nil => rfl
        | cons x l => rw [h] at e; simp at e
       have e := HAP.out
       rw [if_pos hz] at e
       subst e
       go_wp2_with fail
       go_meet
       case rel => exact ⟨F1, HA2⟩
     | true =>
       have hz : ¬ cn.size = 0 := fun h => by
        have e := HBQ.out
        rw [Lib.toList_data, List.eq_nil_of_length_eq_zero (show cn.data.toList.length = 0 from h)] at e
        simp at e
       have e := HAP.out
       rw [if_neg hz] at e
       have HAP2 := Lib.hid e
       have HA3 := Lib.hid (HA2.out.setPrec (-1))
       have HXI := Lib.hid (hpr hz)
       have p2 := StW.cell HA2.out.pd 2
       have f2 := StW.free HA2.out.pd 2
       simp only [pdCells, List.getElem?_cons_succ, List.getElem?_cons_zero] at p2
       clear e HAP hpr HA2 b1 b2 b3 b4
       go_upto_region 20 with fail
       clear p2 f2
       generalize W2.setCell ⟨P, 2, none⟩ (.int .i64 (-1)) = W3 at *
       have b1 := HA3.out.box (j := 1)
       have b2 := HA3.out.box (j := 2)
       have b3 := HA3.out.box (j := 3)
       have b4 := HA3.out.box (j := 4)
       simp only [List.getElem?_toArray, List.getElem?_cons_succ, List.getElem?_cons_zero] at b1 b2 b3 b4
       obtain ⟨u1, u2, u3, u4, u5, u6⟩ := HU2.out
       have HSy : cl = true ∨ s.m.left cn < 0 → Hid (∀ V, Below W3.heap.size W3 V → Calls Try.prog 59 #[.pointer (some ⟨M, 0, none⟩), .agg #[.string cn, .bool cl, .int .i64 cm, .int .i64 cp]] V (Goes V B M F1 S1 AP.1 (.int .i64 AP.2))) := fun hc => Lib.hid (fun V hV => by
        have e : AP = s.m.symbol ⟨cn, cl, cm, cp⟩ := by
         have e := HAP2.out
         cases cl with
         | true => rw [if_pos rfl] at e; exact e
         | false =>
           rw [if_neg (by decide)] at e
           rcases hc with hc | hc
           · cases hc
           · rw [if_pos hc] at e; exact e
        rw [e]
        exact symbol_any (HA3.out.mak.below hV) ⟨cn, cl, cm, cp⟩ HXI.out (by omega) u5 (by rw [u2]; exact hlf))
       have HLf := Lib.hid (fun V (hV : Below W3.heap.size W3 V) => left_any (HA3.out.mak.below hV) cn)
       have HFl : cl = false → ¬ s.m.left cn < 0 → Hid (∀ V, Below W3.heap.size W3 V → Calls Try.prog 45 #[.pointer (some ⟨M, 0, none⟩), .int .i64 cp, .string cn] V (Goes V B M F1 S1 AP.1 (.tuple #[])) ∧ AP.2 = -1) := fun h1 h2 => Lib.hid (fun V hV => by
        have e : AP = (s.m.fail cp cn, -1) := by
         have e := HAP2.out
         subst h1
         rw [if_neg (by decide), if_neg h2] at e; exact e
        rw [e]
        exact ⟨fail_any (HA3.out.mak.below hV) cp cn, rfl⟩)
       clear u1 u2 u3 u4 u5 u6
       have hlg2 := s.m.left_ge cn
       generalize s.m.left cn = L2 at *
       cases cl with
       | true =>
         have HSx := HSy (.inl rfl)
         clear HFl HSy
         go_upto_region 21 with (first | (go_at_call 47; (with_reducible refine (HLf.out _ (by first | exact Below.refl _ _ | exact (Below.refl _ _).drew)).mono ?_); rintro e w8 ⟨rfl, hb8⟩))
         have hbV := Below.refl W3.heap.size W3
         have b1 := (HA3.out.below hbV).box (j := 1)
         have b2 := (HA3.out.below hbV).box (j := 2)
         have b3 := (HA3.out.below hbV).box (j := 3)
         have b4 := (HA3.out.below hbV).box (j := 4)
         simp only [List.getElem?_toArray, List.getElem?_cons_succ, List.getElem?_cons_zero] at b1 b2 b3 b4
         go_wp2_with (first | (go_at_call 59; (with_reducible refine (HSx.out _ hbV).mono ?_); rintro e w9 ⟨F9, rfl, hM9, hd9, hf9⟩; have hA9 := (HA3.out.below hbV).goes hM9 hd9 hf9; have p29 := StW.cell hA9.pd 2; have f29 := StW.free hA9.pd 2; simp only [pdCells, List.getElem?_cons_succ, List.getElem?_cons_zero] at p29; have HA9 := Lib.hid hA9; clear hA9 hM9 hd9 hf9))
         go_meet
         case rel => exact ⟨F9, Lib.hid (HA9.out.setPrec _)⟩
       | false =>
         rcases hlg2 with rfl | ⟨k2, rfl, hk2⟩
         · have HSx := HSy (.inr (by omega))
           clear HFl HSy
           go_upto_region 21 with (first | (go_at_call 47; (with_reducible refine (HLf.out _ (by first | exact Below.refl _ _ | exact (Below.refl _ _).drew)).mono ?_); rintro e w8 ⟨rfl, hb8⟩))
           have hbV := hb8
           have b1 := (HA3.out.below hbV).box (j := 1)
           have b2 := (HA3.out.below hbV).box (j := 2)
           have b3 := (HA3.out.below hbV).box (j := 3)
           have b4 := (HA3.out.below hbV).box (j := 4)
           simp only [List.getElem?_toArray, List.getElem?_cons_succ, List.getElem?_cons_zero] at b1 b2 b3 b4
           go_wp2_with (first | (go_at_call 59; (with_reducible refine (HSx.out _ hbV).mono ?_); rintro e w9 ⟨F9, rfl, hM9, hd9, hf9⟩; have hA9 := (HA3.out.below hbV).goes hM9 hd9 hf9; have p29 := StW.cell hA9.pd 2; have f29 := StW.free hA9.pd 2; simp only [pdCells, List.getElem?_cons_succ, List.getElem?_cons_zero] at p29; have HA9 := Lib.hid hA9; clear hA9 hM9 hd9 hf9))
           go_meet
           case rel => exact ⟨F9, Lib.hid (HA9.out.setPrec _)⟩
         · have HFx := HFl rfl (by omega)
           clear HSy HFl
           go_upto_region 22 with (first | (go_at_call 47; (with_reducible refine (HLf.out _ (by first | exact Below.refl _ _ | exact (Below.refl _ _).drew)).mono ?_); rintro e w8 ⟨rfl, hb8⟩))
           have hbV := hb8
           have b1 := (HA3.out.below hbV).box (j := 1)
           have b2 := (HA3.out.below hbV).box (j := 2)
           have b3 := (HA3.out.below hbV).box (j := 3)
           have b4 := (HA3.out.below hbV).box (j := 4)
           simp only [List.getElem?_toArray, List.getElem?_cons_succ, List.getElem?_cons_zero] at b1 b2 b3 b4
           obtain ⟨hFl1, hFl2⟩ := HFx.out _ hbV
           have HF1 := Lib.hid hFl1
           have HF2 := Lib.hid hFl2
           clear hFl1 hFl2
           go_wp2_with (first | (go_at_call 45; refine HF1.out.mono ?_; rintro e w9 ⟨F9, rfl, hM9, hd9, hf9⟩; have HA9 := Lib.hid ((HA3.out.below hbV).goes hM9 hd9 hf9); clear hM9 hd9 hf9))
           go_meet
           case rel => exact ⟨F9, by rw [HF2.out]; exact HA9⟩
    case rest =>
     obtain ⟨F2, HA4⟩ := hcut
     clear HA2 b1 b2 b3 b4 HAP hpr
     rename World => W4
     obtain ⟨m4, QP⟩ := AP
     have HA5 : Hid (AltM w W4 B M P F S F2 S1 { s with m := m4 } (1 + L) QP rv (.cells #[.slice pa pn pc, .string cn, .bool cl, .int .i64 cm, .int .i64 cp, .int .i64 ap] 71 (0, 0))) := HA4
     have hPDL : m4.prods.length ≤ 2000000 := by have e : m4.prods = s.m.prods := HPPr.out; rw [e]; have := HU2.out.2.2.1; omega
     clear HA4
     obtain ⟨ra, rc, e0⟩ := own_slice (show W4.ownsRow B 3 1 rv s.right.length (s.right.map (Value.int .i64)) from HA5.out.pd.own)
     subst e0
     obtain ⟨i0, hi0, iz0, iz1, iz2⟩ := info_parts Try.infoI64
     obtain ⟨j0, hj0, jz0, jz1, jz2⟩ := info_parts Try.infoProd
     have hrl : s.right.length ≤ 1000 := by have := HU2.out.2.2.2.2.2; omega
     have hb1 : Below W4.heap.size W4 (W4.alloc (.cells #[] 3)) := (Below.refl W4.heap.size W4).alloc (Nat.le_refl _) _
     have own1 : (W4.alloc (.cells #[] 3)).ownsRow W4.heap.size 3 1 (.slice (some ⟨W4.heap.size, 0, none⟩) 0 0) 0 [] := World.ownsRow_lit W4 #[] 0 (Nat.le_refl _) (by unfold maxLen; omega) rfl
     have src1 : SrcV (W4.alloc (.cells #[] 3)) (.slice ra s.right.length rc) s.right.length (s.right.map (Value.int .i64)) := SrcV.of_ints (HA5.out.below hb1).pd.ints
     have p1L : (W4.alloc (.cells #[] 3)).cell? ⟨P, 1, none⟩ = some (.slice ra s.right.length rc) := (HA5.out.below hb1).right
     have hbA1 : 0 + s.right.length ≤ maxLen := by unfold maxLen; omega
     have hbA2 : (0 + s.right.length) * 8 ≤ 140737488355328 := by omega
     go_upto_region 24 with (first | (refine wpList_append_src rfl _ _ _ (by rfl) W4.heap.size 3 i0 (.int .i64 0) 1 8 Try.underlying27 hi0 iz0 iz1 iz2 rfl (by omega) (.slice (some ⟨W4.heap.size, 0, none⟩) 0 0) 0 [] (by rfl) own1 (.slice ra s.right.length rc) s.right.length (s.right.map (Value.int .i64)) (by rfl) src1 (by simp) (by simp [Value.oneCell']) hbA1 hbA2 hb1.size ?_; intro v3 w3 hown3 hgrow3; simp only [Nat.zero_add, List.nil_append] at hown3; obtain ⟨a3, c3, e3⟩ := own_slice hown3; subst e3; have hb3 : Below W4.heap.size W4 w3 := hb1.grown hgrow3 hb1.size (fun k hk => by cases hk; exact Nat.le_refl _); have p4 := StW.cell (HA5.out.below hb3).pd 4; simp only [pdCells, List.getElem?_cons_succ, List.getElem?_cons_zero] at p4; have f4 := StW.free (HA5.out.below hb3).pd 4; have HOWN3 := Lib.hid hown3; clear hown3 hgrow3))
     clear p4 f4 own1 src1 p1L
     have hA3 := HA5.out.below hb3
     have hPl := hA3.pd.lt P (.inl rfl)
     have hP4 : P < W4.heap.size := (HA5.out.pd.lt P (.inl rfl)).2
     obtain ⟨hpd, hfr⟩ := hA3.pd.setArgs (.slice a3 s.right.length c3)
     have hmk := hA3.mak.frame hfr (fun b hb => ⟨(hA3.dis b hb).1, (hA3.dis b hb).2.1⟩)
     have hO3 := row_kept (w' := w3.setCell ⟨P, 4, none⟩ (.slice a3 s.right.length c3)) HOWN3.out (fun k e => Below.heap_setCell _ _ _ _ (fun e2 => by have := (HOWN3.out.lt k e).1; have e3 : k = P := e2; omega))
     have HW5 : Hid (w.heap.size < (w3.setCell ⟨P, 4, none⟩ (.slice a3 s.right.length c3)).heap.size) := Lib.hid (Nat.lt_of_lt_of_le hA3.lt0 hfr.size)
     have HFR : Hid (Fr F w (w3.setCell ⟨P, 4, none⟩ (.slice a3 s.right.length c3))) := Lib.hid (hA3.fr.trans hfr (fun b hb => .inr (Nat.le_of_lt (hA3.dis b hb).2.2)))
     have HFN := Lib.hid hA3.fnew
     have HSN := Lib.hid hA3.snew
     have hpf := hA3.dis
     have hbB : B ≤ W4.heap.size := Nat.le_trans hB (Nat.le_of_lt HA5.out.lt0)
     have h0W : w.heap.size < W4.heap.size := HA5.out.lt0
     have HFO : Hid (∀ b, F2 b → b < W4.heap.size) := Lib.hid (fun b hb => (HA5.out.mak.lt b (.inl hb)).2)
     clear hA3 HA5 hfr hPl hb1 hb3
     generalize w3.setCell ⟨P, 4, none⟩ (.slice a3 s.right.length c3) = W5 at *
     obtain ⟨tv, pv, gv, yv, lv, ys, hFi, hO⟩ := hmk.opened
     obtain ⟨va, vc, e0⟩ := own_slice (hO.1.own ⟨87, 6, pv, m4.prods.length, ys⟩ (by simp [mkRows]))
     simp only at e0
     subst e0
     have hb4 : Below W5.heap.size W5 (W5.drew.alloc (.cells #[.int .i64 (1 + L), .slice ra s.right.length rc, .int .i64 QP, .string s.code, .slice a3 s.right.length c3, .int .i64 s.pos] 87)) := (Below.refl W5.heap.size W5).drew.alloc (Nat.le_refl _) _
     have hMF : F2 M := (hFi M).2 (.inl rfl)
     have hMP : M ≠ P := fun e => (hpf P (.inl rfl)).1 (e ▸ hMF)
     have hMn : some M ≠ (Value.slice va m4.prods.length vc).ownBlock := fun e => hO.1.notM ⟨87, 6, (.slice va m4.prods.length vc), m4.prods.length, ys⟩ (by simp [mkRows]) e.symm
     have hPn : some P ≠ (Value.slice va m4.prods.length vc).ownBlock := fun e => (hpf P (.inl rfl)).1 ((hFi P).2 (.inr ⟨⟨87, 6, (.slice va m4.prods.length vc), m4.prods.length, ys⟩, by simp [mkRows], e.symm⟩))
     have x2W := hO.1.cell 2
     simp only [mkCells, List.getElem?_cons_succ, List.getElem?_cons_zero] at x2W
     have x2D : W5.drew.cell? ⟨M, 2, none⟩ = some (.slice va m4.prods.length vc) := x2W
     have x2L : (W5.drew.alloc (.cells #[.int .i64 (1 + L), .slice ra s.right.length rc, .int .i64 QP, .string s.code, .slice a3 s.right.length c3, .int .i64 s.pos] 87)).cell? ⟨M, 2, none⟩ = some (.slice va m4.prods.length vc) := cell_up hb4 x2W
     have x2A : (W5.alloc (.cells #[.int .i64 (1 + L), .slice ra s.right.length rc, .int .i64 QP, .string s.code, .slice a3 s.right.length c3, .int .i64 s.pos] 87)).cell? ⟨M, 2, none⟩ = some (.slice va m4.prods.length vc) := x2L
     have HOL := Lib.hid (hO.below hb4)
     have ho4 := HOL.out.1.own ⟨87, 6, (.slice va m4.prods.length vc), m4.prods.length, ys⟩ (by simp [mkRows])
     have hf4 := HOL.out.1.free 2
     have hM4 := HOL.out.1.mlt
     have hB4 : B ≤ (W5.drew.alloc (.cells #[.int .i64 (1 + L), .slice ra s.right.length rc, .int .i64 QP, .string s.code, .slice a3 s.right.length c3, .int .i64 s.pos] 87)).heap.size := Nat.le_trans HOL.out.1.mB (Nat.le_of_lt hM4)
     have SW : W5.drew.cell? ⟨P, 0, none⟩ = some (.int .i64 (1 + L)) ∧ W5.drew.cell? ⟨P, 1, none⟩ = some (.slice ra s.right.length rc) ∧ W5.drew.cell? ⟨P, 2, none⟩ = some (.int .i64 QP) ∧ W5.drew.cell? ⟨P, 3, none⟩ = some (.string s.code) ∧ W5.drew.cell? ⟨P, 4, none⟩ = some (.slice a3 s.right.length c3) ∧ W5.drew.cell? ⟨P, 5, none⟩ = some (.int .i64 s.pos) := ⟨StW.cell hpd 0, StW.cell hpd 1, StW.cell hpd 2, StW.cell hpd 3, StW.cell hpd 4, StW.cell hpd 5⟩
     have SL : (W5.drew.alloc (.cells #[.int .i64 (1 + L), .slice ra s.right.length rc, .int .i64 QP, .string s.code, .slice a3 s.right.length c3, .int .i64 s.pos] 87)).cell? ⟨P, 0, none⟩ = some (.int .i64 (1 + L)) ∧ (W5.drew.alloc (.cells #[.int .i64 (1 + L), .slice ra s.right.length rc, .int .i64 QP, .string s.code, .slice a3 s.right.length c3, .int .i64 s.pos] 87)).cell? ⟨P, 1, none⟩ = some (.slice ra s.right.length rc) ∧ (W5.drew.alloc (.cells #[.int .i64 (1 + L), .slice ra s.right.length rc, .int .i64 QP, .string s.code, .slice a3 s.right.length c3, .int .i64 s.pos] 87)).cell? ⟨P, 2, none⟩ = some (.int .i64 QP) ∧ (W5.drew.alloc (.cells #[.int .i64 (1 + L), .slice ra s.right.length rc, .int .i64 QP, .string s.code, .slice a3 s.right.length c3, .int .i64 s.pos] 87)).cell? ⟨P, 3, none⟩ = some (.string s.code) ∧ (W5.drew.alloc (.cells #[.int .i64 (1 + L), .slice ra s.right.length rc, .int .i64 QP, .string s.code, .slice a3 s.right.length c3, .int .i64 s.pos] 87)).cell? ⟨P, 4, none⟩ = some (.slice a3 s.right.length c3) ∧ (W5.drew.alloc (.cells #[.int .i64 (1 + L), .slice ra s.right.length rc, .int .i64 QP, .string s.code, .slice a3 s.right.length c3, .int .i64 s.pos] 87)).cell? ⟨P, 5, none⟩ = some (.int .i64 s.pos) := ⟨cell_up hb4 SW.1, cell_up hb4 SW.2.1, cell_up hb4 SW.2.2.1, cell_up hb4 SW.2.2.2.1, cell_up hb4 SW.2.2.2.2.1, cell_up hb4 SW.2.2.2.2.2⟩
     have keepG : ∀ {w5 : World}, (W5.drew.alloc (.cells #[.int .i64 (1 + L), .slice ra s.right.length rc, .int .i64 QP, .string s.code, .slice a3 s.right.length c3, .int .i64 s.pos] 87)).grownBy w5 (Value.slice va m4.prods.length vc).ownBlock → w5.cell? ⟨P, 0, none⟩ = some (.int .i64 (1 + L)) ∧ w5.cell? ⟨P, 1, none⟩ = some (.slice ra s.right.length rc) ∧ w5.cell? ⟨P, 2, none⟩ = some (.int .i64 QP) ∧ w5.cell? ⟨P, 3, none⟩ = some (.string s.code) ∧ w5.cell? ⟨P, 4, none⟩ = some (.slice a3 s.right.length c3) ∧ w5.cell? ⟨P, 5, none⟩ = some (.int .i64 s.pos) := fun hg => ⟨hg.cell SL.1 hPn, hg.cell SL.2.1 hPn, hg.cell SL.2.2.1 hPn, hg.cell SL.2.2.2.1 hPn, hg.cell SL.2.2.2.2.1 hPn, hg.cell SL.2.2.2.2.2 hPn⟩
     have hbn1 : m4.prods.length + 1 ≤ maxLen := by unfold maxLen; omega
     have hbn2 : (m4.prods.length + 1) * 88 ≤ 140737488355328 := by omega
     have HX := Lib.hid (((Firm.ints hpd.own).and (Firm.ints hO3)).below hb4 |>.imp (fun V hV => (⟨_, _, rfl, hV.1, hV.2⟩ : pdR V [.int .i64 (1 + L), .slice ra s.right.length rc, .int .i64 QP, .string s.code, .slice a3 s.right.length c3, .int .i64 s.pos] ⟨1 + L, s.right, QP, s.code, s.right, s.pos⟩)))
     have HS1 : Hid (∀ b, (Value.slice ra s.right.length rc).ownBlock = some b ∨ (Value.slice a3 s.right.length c3).ownBlock = some b → B ≤ b) := Lib.hid (fun b hb => hb.elim (fun h => (hpd.lt b (.inr h)).1) (fun h => Nat.le_trans hbB (hO3.lt b h).1))
     have HS2 : Hid (∀ b, (Value.slice ra s.right.length rc).ownBlock = some b ∨ (Value.slice a3 s.right.length c3).ownBlock = some b → ¬ footS M (mkRows tv (.slice va m4.prods.length vc) gv yv lv ys m4) b) := Lib.hid (fun b hb hf => hb.elim (fun h => (hpf b (.inr h)).1 ((hFi b).2 hf)) (fun h => by have h1 := (hO3.lt b h).1; have h2 := HFO.out b ((hFi b).2 hf); omega))
     have HS3 : Hid (∀ b, (Value.slice ra s.right.length rc).ownBlock = some b ∨ (Value.slice a3 s.right.length c3).ownBlock = some b → w.heap.size < b) := Lib.hid (fun b hb => hb.elim (fun h => (hpf b (.inr h)).2.2) (fun h => Nat.lt_of_lt_of_le h0W (hO3.lt b h).1))
     have HFi := Lib.hid hFi
     clear hFi hO hmk hpd hO3 hpf x2W h0W hbB hP4 HOWN3
     refine wp_region_held_drew (S := (fun Xw => Xw.cell? ⟨P, 0, none⟩ = some (.int .i64 (1 + L)) ∧ Xw.cell? ⟨P, 1, none⟩ = some (.slice ra s.right.length rc) ∧ Xw.cell? ⟨P, 2, none⟩ = some (.int .i64 QP) ∧ Xw.cell? ⟨P, 3, none⟩ = some (.string s.code) ∧ Xw.cell? ⟨P, 4, none⟩ = some (.slice a3 s.right.length c3) ∧ Xw.cell? ⟨P, 5, none⟩ = some (.int .i64 s.pos))) (by kernel_rfl) ?hS0 (fun hHeld => ?hR0)
     case hS0 => exact SW
     case hR0 =>
      refine tk 0 ?_
      try simp only [Act.put, gA, gB, gC, gD, gE, gF]
      refine tk 1 ?_
      try simp only [Act.put, gA, gB, gC, gD, gE, gF]
      refine tk 2 ?_
      try simp only [Act.put, gA, gB, gC, gD, gE, gF]
      refine tk 3 ?_
      try simp only [Act.put, gA, gB, gC, gD, gE, gF]
      refine tk 4 ?_
      try simp only [Act.put, gA, gB, gC, gD, gE, gF]
      refine tk 6 ?_
      try simp only [Act.put, gA, gB, gC, gD, gE, gF]
      refine wpAnyH_ready (rs := [5, 7]) (by kernel_rfl) (by simp) ?_
      refine AllReadyH.cons rfl (fun K hK => ?_) ?_
      · try simp only [gA, gB, gC]
        go_simp
        refine hK.out _ _ SW (fun hHeld => ?_)
        clear hK K
        try simp only [Act.put, gA, gB, gC, gD, gE, gF]
        refine wpAnyH_ready (rs := [7]) (by kernel_rfl) (by simp) ?_
        refine AllReadyH.cons rfl (fun K hK => ?_) .nil
        try simp only [gA, gB, gC]
        go_simp
        refine hK.out _ _ SL (fun hHeld => ?_)
        clear hK K
        try simp only [Act.put, gA, gB, gC, gD, gE, gF]
        refine wpAnyH_ready (rs := [8]) (by kernel_rfl) (by simp) ?_
        refine AllReadyH.cons rfl (fun K hK => ?_) .nil
        refine step_append_lies _ (by rfl) _ _ _ (by rfl) B 87 j0 (.agg #[.int .i64 0, .slice none 0 0, .int .i64 0, .string ByteArray.empty, .slice none 0 0, .int .i64 0]) 6 88 Try.underlying36 hj0 jz0 jz1 jz2 rfl (by omega) (.slice va m4.prods.length vc) m4.prods.length ys (by rfl) ho4 ⟨W5.heap.size, 0, none⟩ 1 1 [.int .i64 (1 + L), .slice ra s.right.length rc, .int .i64 QP, .string s.code, .slice a3 s.right.length c3, .int .i64 s.pos] (by rfl) (by rfl) (lit_cells W5.drew #[.int .i64 (1 + L), .slice ra s.right.length rc, .int .i64 QP, .string s.code, .slice a3 s.right.length c3, .int .i64 s.pos] 87) (by simp [Value.oneCell']) (by omega) hbn1 hbn2 hB4 _ rfl ?_
        intro gg cap2 w5 hown5 hgrow5 hat hlt5
        have k5 := keepG hgrow5
        have f5 : w5.cell? ⟨M, 2, none⟩ = some (.slice va m4.prods.length vc) := (hgrow5.cell x2L hMn)
        have r5 : w5.frozen? ⟨M, 2, none⟩ = false := (hgrow5.frozen_far ⟨M, 2, none⟩ hM4 hMn).trans hf4
        refine hK.out _ _ k5 (fun hHeld => ?_)
        clear hK K
        try simp only [Act.put, gA, gB, gC, gD, gE, gF]
        refine tk 9 ?_
        try simp only [Act.put, gA, gB, gC, gD, gE, gF]
        refine tk 10 ?_
        try simp only [Act.put, gA, gB, gC, gD, gE, gF]
        refine tk 11 ?_
        try simp only [Act.put, gA, gB, gC, gD, gE, gF]
        refine wpAnyH_ready (rs := [12]) (by kernel_rfl) (by simp) ?_
        refine AllReadyH.cons rfl (fun K hK => ?_) .nil
        try simp only [gA, gB, gC]
        go_simp
        refine hK.out _ _ ⟨(World.cell?_setCell_far _ _ _ _ hMP).trans k5.1, (World.cell?_setCell_far _ _ _ _ hMP).trans k5.2.1, (World.cell?_setCell_far _ _ _ _ hMP).trans k5.2.2.1, (World.cell?_setCell_far _ _ _ _ hMP).trans k5.2.2.2.1, (World.cell?_setCell_far _ _ _ _ hMP).trans k5.2.2.2.2.1, (World.cell?_setCell_far _ _ _ _ hMP).trans k5.2.2.2.2.2⟩ (fun hHeld => ?_)
        clear hK K
        try simp only [Act.put, gA, gB, gC, gD, gE, gF]
        refine wpAnyH_done (by kernel_rfl) ?_ _
        go_wp2_with fail
        go_end0
        obtain ⟨F9, q1, q2, q3⟩ := HOL.out.addPd (k := ⟨1 + L, s.right, QP, s.code, s.right, s.pos⟩) (cs := [.int .i64 (1 + L), .slice ra s.right.length rc, .int .i64 QP, .string s.code, .slice a3 s.right.length c3, .int .i64 s.pos]) (S' := fun b => (Value.slice ra s.right.length rc).ownBlock = some b ∨ (Value.slice a3 s.right.length c3).ownBlock = some b) hgrow5 hown5 (hat.imp (fun e => e.symm) (fun e => by rw [e]; rfl)) rfl HX.out (fun b hb => ⟨HS1.out b hb, HS2.out b hb⟩)
        rw [HALT2.out]
        exact ⟨rfl, F9, _, q1, fun b hb => (q2 b hb).elim (fun h => HFN.out b ((HFi.out b).2 h)) (fun h => .inr (Nat.lt_of_lt_of_le HW5.out (Nat.le_trans hb4.size h))), fun b hb => hb.elim (HSN.out b) (fun h => .inr (HS3.out b h)), (HFR.out.trans (Fr.of_below hb4 (D := F2)) (fun b h => (HFN.out b h).imp id Nat.le_of_lt)).trans (Fr.iff q3 (fun b => HFi.out b)) (fun b h => (HFN.out b h).imp id Nat.le_of_lt)⟩
      refine AllReadyH.cons rfl (fun K hK => ?_) .nil
      try simp only [gA, gB, gC]
      go_simp
      refine hK.out _ _ SL (fun hHeld => ?_)
      clear hK K
      try simp only [Act.put, gA, gB, gC, gD, gE, gF]
      refine wpAnyH_ready (rs := [5]) (by kernel_rfl) (by simp) ?_
      refine AllReadyH.cons rfl (fun K hK => ?_) .nil
      try simp only [gA, gB, gC]
      go_simp
      refine hK.out _ _ SL (fun hHeld => ?_)
      clear hK K
      try simp only [Act.put, gA, gB, gC, gD, gE, gF]
      refine wpAnyH_ready (rs := [8]) (by kernel_rfl) (by simp) ?_
      refine AllReadyH.cons rfl (fun K hK => ?_) .nil
      refine step_append_lies _ (by rfl) _ _ _ (by rfl) B 87 j0 (.agg #[.int .i64 0, .slice none 0 0, .int .i64 0, .string ByteArray.empty, .slice none 0 0, .int .i64 0]) 6 88 Try.underlying36 hj0 jz0 jz1 jz2 rfl (by omega) (.slice va m4.prods.length vc) m4.prods.length ys (by rfl) ho4 ⟨W5.heap.size, 0, none⟩ 1 1 [.int .i64 (1 + L), .slice ra s.right.length rc, .int .i64 QP, .string s.code, .slice a3 s.right.length c3, .int .i64 s.pos] (by rfl) (by rfl) (lit_cells W5.drew #[.int .i64 (1 + L), .slice ra s.right.length rc, .int .i64 QP, .string s.code, .slice a3 s.right.length c3, .int .i64 s.pos] 87) (by simp [Value.oneCell']) (by omega) hbn1 hbn2 hB4 _ rfl ?_
      intro gg cap2 w5 hown5 hgrow5 hat hlt5
      have k5 := keepG hgrow5
      have f5 : w5.cell? ⟨M, 2, none⟩ = some (.slice va m4.prods.length vc) := (hgrow5.cell x2L hMn)
      have r5 : w5.frozen? ⟨M, 2, none⟩ = false := (hgrow5.frozen_far ⟨M, 2, none⟩ hM4 hMn).trans hf4
      refine hK.out _ _ k5 (fun hHeld => ?_)
      clear hK K
      try simp only [Act.put, gA, gB, gC, gD, gE, gF]
      refine tk 9 ?_
      try simp only [Act.put, gA, gB, gC, gD, gE, gF]
      refine tk 10 ?_
      try simp only [Act.put, gA, gB, gC, gD, gE, gF]
      refine tk 11 ?_
      try simp only [Act.put, gA, gB, gC, gD, gE, gF]
      refine wpAnyH_ready (rs := [12]) (by kernel_rfl) (by simp) ?_
      refine AllReadyH.cons rfl (fun K hK => ?_) .nil
      try simp only [gA, gB, gC]
      go_simp
      refine hK.out _ _ ⟨(World.cell?_setCell_far _ _ _ _ hMP).trans k5.1, (World.cell?_setCell_far _ _ _ _ hMP).trans k5.2.1, (World.cell?_setCell_far _ _ _ _ hMP).trans k5.2.2.1, (World.cell?_setCell_far _ _ _ _ hMP).trans k5.2.2.2.1, (World.cell?_setCell_far _ _ _ _ hMP).trans k5.2.2.2.2.1, (World.cell?_setCell_far _ _ _ _ hMP).trans k5.2.2.2.2.2⟩ (fun hHeld => ?_)
      clear hK K
      try simp only [Act.put, gA, gB, gC, gD, gE, gF]
      refine wpAnyH_done (by kernel_rfl) ?_ _
      go_wp2_with fail
      go_end0
      obtain ⟨F9, q1, q2, q3⟩ := HOL.out.addPd (k := ⟨1 + L, s.right, QP, s.code, s.right, s.pos⟩) (cs := [.int .i64 (1 + L), .slice ra s.right.length rc, .int .i64 QP, .string s.code, .slice a3 s.right.length c3, .int .i64 s.pos]) (S' := fun b => (Value.slice ra s.right.length rc).ownBlock = some b ∨ (Value.slice a3 s.right.length c3).ownBlock = some b) hgrow5 hown5 (hat.imp (fun e => e.symm) (fun e => by rw [e]; rfl)) rfl HX.out (fun b hb => ⟨HS1.out b hb, HS2.out b hb⟩)
      rw [HALT2.out]
      exact ⟨rfl, F9, _, q1, fun b hb => (q2 b hb).elim (fun h => HFN.out b ((HFi.out b).2 h)) (fun h => .inr (Nat.lt_of_lt_of_le HW5.out (Nat.le_trans hb4.size h))), fun b hb => hb.elim (HSN.out b) (fun h => .inr (HS3.out b h)), (HFR.out.trans (Fr.of_below hb4 (D := F2)) (fun b h => (HFN.out b h).imp id Nat.le_of_lt)).trans (Fr.iff q3 (fun b => HFi.out b)) (fun b h => (HFN.out b h).imp id Nat.le_of_lt)⟩
end Go.Proofs.Ytkgbifbbpmdpgaa
