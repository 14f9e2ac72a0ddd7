/- The reader: an alternative. -/
import Derived.Test.YtnoppoifepbchaaDoorRd3
namespace Go.Proofs.YtnoppoifepbchaaDoor

open Go.RowKit
set_option linter.unusedVariables false
set_option linter.unusedSimpArgs false

theorem results_cell_slot {fn : Func} {p q : Tmp} {ty : TypeId} {P : Program} (h : fn.results = #[.cell p ty, .tmp q]) (tmps : Array Value) (w : World) (g : Nat) (t : TypeId) (cs : Array Value) (fr : Nat × Nat) {fs : Array Field}
  (hp : tmps.getD p undef = .pointer (some ⟨g, 0, none⟩)) {u : Value} (hv : tmps.getD q undef = u) (hg : w.heap[g]? = some (.cells cs t fr))
  (hu : P.underlying ty = some (.struct fs)) (hi : (P.info? ty).map (·.size) = some cs.size) :
  (results fn tmps).run P w = .ok (.tuple #[.agg cs, u]) w := by
 have hp' : tmps[p]?.getD undef = .pointer (some ⟨g, 0, none⟩) := by simpa using hp
 subst hv
 simp [results, h, hp', asAddr, run_loadVar_row w g t ty cs fr _ hg hu rfl hi]
theorem altInfo8 : (Tryd.prog.info? 42).map (·.size) = some 6 := by kernel_rfl
theorem rdInfoPart : (Tryd.prog.info? 44).map (fun i => (i.zero, i.size, i.bytes)) = some (some (.agg #[.string ByteArray.empty, .bool false, .int .i64 0, .int .i64 0, .string ByteArray.empty, .int .i64 0]), 6, 64) := by kernel_rfl

section
variable {L : Wds} {m : Nat} {ps : List Pt} {p : Int}
theorem alt_none (h : precB (wAt L m) = false) : altEnd ps p (L.drop m) = .ok ⟨ps, noSm, p⟩ (L.drop m) := by
 unfold altEnd
 rw [if_neg (show ¬ precB (hdW (L.drop m)) = true from fun e => by rw [show hdW (L.drop m) = wAt L m from rfl, h] at e; cases e)]
theorem alt_bad (h : precB (wAt L m) = true) (h2 : symB2 (wAt L (m + 1)) = false) : altEnd ps p (L.drop m) = .bad (L.drop (m + 1)) := by
 unfold altEnd
 rw [if_pos (show precB (hdW (L.drop m)) = true from h), drop_tail, if_neg (show ¬ symB2 (hdW (L.drop (m + 1))) = true from fun e => by rw [show hdW (L.drop (m + 1)) = wAt L (m + 1) from rfl, h2] at e; cases e)]
theorem alt_sym (h : precB (wAt L m) = true) (h2 : symB2 (wAt L (m + 1)) = true) (h3 : (wAt L (m + 2)).kind ≠ 8) : altEnd ps p (L.drop m) = .ok ⟨ps, smOf (wAt L (m + 1)) 0, p⟩ (L.drop (m + 2)) := by
 unfold altEnd
 rw [if_pos (show precB (hdW (L.drop m)) = true from h), drop_tail, if_pos (show symB2 (hdW (L.drop (m + 1))) = true from h2), drop_tail, if_neg (show ¬ (hdW (L.drop (m + 1 + 1))).kind = 8 from h3)]; rfl
theorem alt_code (h : precB (wAt L m) = true) (h2 : symB2 (wAt L (m + 1)) = true) (h3 : (wAt L (m + 2)).kind = 8) : altEnd ps p (L.drop m) = .ok ⟨ps ++ [ptOf (wAt L (m + 2))], smOf (wAt L (m + 1)) 0, p⟩ (L.drop (m + 3)) := by
 unfold altEnd
 rw [if_pos (show precB (hdW (L.drop m)) = true from h), drop_tail, if_pos (show symB2 (hdW (L.drop (m + 1))) = true from h2), drop_tail, if_pos (show (hdW (L.drop (m + 1 + 1))).kind = 8 from h3), drop_tail]; rfl
end

def altV (pv : Value) (x : Sm) (p : Int) : Value := .agg #[pv, .string x.name, .bool x.lit, .int .i64 x.num, .int .i64 x.pos, .int .i64 p]
def AltGo (w0 : World) (a : Nat) (wv : Value) (hp : Bool) (pro : ByteArray) (dv rv : Value) (L : Wds) (n : Nat) (w : World) (e : Ending) (w' : World) : Prop :=
 (∃ (al : Al) (m : Nat) (pv : Value) (S : Nat → Prop), altS (L.drop n) = .ok al (L.drop m) ∧ m < L.length ∧ n ≤ m ∧ e = .returned (.tuple #[altV pv al.prec al.pos, .bool true]) ∧ Firm S w' (fun X => PtsV X pv al.parts) ∧ (∀ b, S b → w.heap.size ≤ b) ∧ (∃ pa pk pc, pv = .slice pa pk pc) ∧ RdAt w0 w' a wv m hp pro dv rv ∧ Turns (only a) w w') ∨
 (∃ m, altS (L.drop n) = .bad (L.drop m) ∧ m < L.length ∧ e = .returned (.tuple #[.agg #[.slice none 0 0, .string ⟨#[]⟩, .bool false, .int .i64 0, .int .i64 0, .int .i64 0], .bool false]) ∧ RdAt w0 w' a wv m hp pro dv rv ∧ Turns (only a) w w')

section
variable {w0 w : World} {a : Nat} {wv : Value} {n : Nat} {hp : Bool} {pro : ByteArray} {dv rv : Value} {L : Wds}
set_option maxRecDepth 100000 in
set_option maxHeartbeats 40000000 in
theorem alt_any (hI : RdIn w0 wv L a) (h : RdAt w0 w a wv n hp pro dv rv) (hn : n < L.length) :
  Calls Tryd.prog 96 #[.pointer (some ⟨a, 0, none⟩)] w (AltGo w0 a wv hp pro dv rv L n w) := by
 have ha := h.lt
 have hlt := h.below.size
 have hL6 := hI.ok.len
 have HI := Lib.hid hI
 have h1 := h.ahead ((Below.refl w.heap.size w).alloc (Nat.le_refl _) (.cells #[.slice none 0 0, .string ⟨#[]⟩, .bool false, .int .i64 0, .int .i64 0, .int .i64 0] 42))
 have hW := Lib.hid (word_any hI h1 hn)
 have HP : Hid (altS (L.drop n) = altEnd (rdParts (L.drop n)).1 (wAt L n).place (rdParts (L.drop n)).2) := Lib.hid rfl
 unfold AltGo altV
 generalize altS (L.drop n) = RES at HP ⊢
 unfold Wd.agg8 at hW
 generalize wAt L n = x at hW HP
 obtain ⟨x0k, x0t, x0p⟩ := x
 simp only at hW HP
 have hfx2 := wfld2 x0k x0t x0p
 clear hI
 go_enter Tryd.func96, Tryd.ntmps96
 go_upto_block 0 with (first | (go_at_call 28; (with_reducible refine hW.out.mono ?_); rintro e w1 ⟨rfl, hw1⟩))
 have hA1 := (hw1.block w.heap.size (by simp)).trans (heap_made w #[.slice none 0 0, .string ⟨#[]⟩, .bool false, .int .i64 0, .int .i64 0, .int .i64 0] 42 _ rfl)
 have hs1 : w.heap.size < w1.heap.size := by have := hw1.size; simp at this; omega
 have D1 := heap_made w1 #[.slice none 0 0, .string ⟨#[]⟩, .bool false, .int .i64 0, .int .i64 0, .int .i64 x0p] 42 _ rfl
 have hA2 := heap_keep w1 (.cells #[.slice none 0 0, .string ⟨#[]⟩, .bool false, .int .i64 0, .int .i64 0, .int .i64 x0p] 42) hA1
 have h2 := (h1.ahead hw1).ahead ((Below.refl w1.heap.size w1).alloc (Nat.le_refl _) (.cells #[.slice none 0 0, .string ⟨#[]⟩, .bool false, .int .i64 0, .int .i64 0, .int .i64 x0p] 42))
 have ht2 := (Turns.of_below (S := only a) (((Below.refl w.heap.size w).alloc (Nat.le_refl _) (.cells #[.slice none 0 0, .string ⟨#[]⟩, .bool false, .int .i64 0, .int .i64 0, .int .i64 0] 42)).trans (hw1.mono (by simp)))).alloc (.cells #[.slice none 0 0, .string ⟨#[]⟩, .bool false, .int .i64 0, .int .i64 0, .int .i64 x0p] 42)
 have hs2 : w1.heap.size + 1 ≤ (w1.alloc (.cells #[.slice none 0 0, .string ⟨#[]⟩, .bool false, .int .i64 0, .int .i64 0, .int .i64 x0p] 42)).heap.size := by simp
 generalize hDD : w1.heap.size = D at D1 hs1 hs2 ⊢
 clear hDD
 generalize w1.alloc (.cells #[.slice none 0 0, .string ⟨#[]⟩, .bool false, .int .i64 0, .int .i64 0, .int .i64 x0p] 42) = w2 at D1 hA2 h2 ht2 hs2 ⊢
 clear h1 hA1 hw1 hW h
 have hDa : D ≠ a := by omega
 go_cut [] from 10 to 29 (fun wx => ∃ (m : Nat) (sv : Value) (ys : List Value) (acc : List Pt), RdAt w0 wx a wv m hp pro dv rv ∧ Turns (only a) w wx ∧ wx.heap[D]? = some (.cells #[sv, .string ⟨#[]⟩, .bool false, .int .i64 0, .int .i64 0, .int .i64 x0p] 42 (0, 0)) ∧ wx.heap[w.heap.size]? = some (.cells #[.slice none 0 0, .string ⟨#[]⟩, .bool false, .int .i64 0, .int .i64 0, .int .i64 0] 42 (0, 0)) ∧ D + 1 ≤ wx.heap.size ∧ GrowL (D + 1) 44 6 ptR (fun _ => False) wx sv ys acc ∧ Hid (rdParts (L.drop n) = (acc, L.drop m)) ∧ m < L.length ∧ n ≤ m ∧ acc.length ≤ 100000)
 case first =>
  go_wp2_with fail
  go_loopg [] L.length (fun gg V => ∃ (m : Nat) (sv : Value) (ys : List Value) (acc : List Pt), L.length ≤ m + gg ∧ RdAt w0 V a wv m hp pro dv rv ∧ Turns (only a) w V ∧ V.heap[D]? = some (.cells #[sv, .string ⟨#[]⟩, .bool false, .int .i64 0, .int .i64 0, .int .i64 x0p] 42 (0, 0)) ∧ V.heap[w.heap.size]? = some (.cells #[.slice none 0 0, .string ⟨#[]⟩, .bool false, .int .i64 0, .int .i64 0, .int .i64 0] 42 (0, 0)) ∧ D + 1 ≤ V.heap.size ∧ GrowL (D + 1) 44 6 ptR (fun _ => False) V sv ys acc ∧ Hid (PartsTo L n acc m) ∧ m < L.length ∧ n ≤ m ∧ acc.length ≤ m)
  case atStart => exact ⟨n, _, [], [], by omega, h2, ht2, D1, hA2, hs2, GrowL.nil _ _ _ _ _, Lib.hid (PartsTo.none _ _), hn, Nat.le_refl _, Nat.zero_le _⟩
  case round =>
   clear h2 ht2 D1 hA2 hs2
   obtain ⟨m, sv, ys, acc, hgg, hR, hT, hD, hA, hDs, hg, HX, hm, hnm, hal⟩ := hrel
   rename World => V
   have hSy := Lib.hid (fun (X : World) (hX : Below V.heap.size V X) => isSymbol_any HI.out (hR.ahead hX) hm)
   have hBg := Lib.hid (fun (X : World) (hX : Below V.heap.size V X) => beginsRule_any HI.out (hR.ahead hX) hm)
   have hWd := Lib.hid (fun (X : World) (hX : Below V.heap.size V X) => word_any HI.out (hR.ahead hX) hm)
   have hPt := Lib.hid (fun (X : World) (hX : RdAt w0 X a wv m hp pro dv rv) => part_any HI.out hX hm)
   have HGo : Hid (goesB2 L m = true → PartsTo L n (acc ++ [ptOf (wAt L m)]) (m + 1)) := Lib.hid (fun e => HX.out.next hm e)
   have HSt : Hid (goesB2 L m = false → rdParts (L.drop n) = (acc, L.drop m)) := Lib.hid (fun e => HX.out.stop hm e)
   have hG : goesB2 L m = ((symB2 (wAt L m) && !beginsB (L.drop m)) || decide ((wAt L m).kind = 8)) := rfl
   have hS2 : symB2 (wAt L m) = true → (wAt L m).kind = 1 ∨ (wAt L m).kind = 2 := fun e => by unfold symB2 at e; simpa using e
   have HNx : Hid ((wAt L m).kind ≠ 10 → m + 1 < L.length) := Lib.hid (fun e => HI.out.ok.next hm e)
   clear HX
   unfold Wd.agg8 at hWd
   have HFld := Lib.hid (wfld0 (wAt L m).kind (wAt L m).text (wAt L m).place)
   generalize ptOf (wAt L m) = X at hPt HGo
   obtain ⟨⟨zn, zl, zm, zp⟩, zc, zq⟩ := X
   unfold Pt.agg at hPt
   simp only at hPt
   generalize symB2 (wAt L m) = sb at hSy hG hS2
   generalize beginsB (L.drop m) = bb at hBg hG
   generalize goesB2 L m = gb at HGo HSt hG
   generalize wAt L m = y at hWd HFld HNx hG hS2
   obtain ⟨yk, yt, yp⟩ := y
   simp only at hWd HFld HNx hG hS2
   have hfd := HFld.out
   clear HFld
   cases sb with
   | true =>
     have hk8 : yk ≠ 8 := by have := hS2 rfl; omega
     have hb8 : (yk == 8) = false := by simp [hk8]
     have hm1 := HNx.out (by have := hS2 rfl; omega)
     cases bb with
     | true =>
       have HE := Lib.hid (HSt.out (by rw [hG]; simp [hk8]))
       clear hG hS2 hk8
       go_wp2_with (first
            | (go_at_call 119; (with_reducible refine (hSy.out _ (Below.refl _ _)).mono ?_); rintro e V1 ⟨rfl, hv1⟩)
            | (go_at_call 120; (with_reducible refine (hBg.out _ hv1).mono ?_); rintro e V2 ⟨rfl, hv2⟩)
            | (go_at_call 28; (with_reducible refine (hWd.out _ (hv1.trans (hv2.mono hv1.size))).mono ?_); rintro e V3 ⟨rfl, hv3⟩))
       have hv := (hv1.trans (hv2.mono hv1.size)).trans (hv3.mono (Nat.le_trans hv1.size hv2.size))
       go_meet
       case rel => exact ⟨m, sv, ys, acc, hR.ahead hv, hT.far (hv.mono hT.size), block_below hD hv (by omega), block_below hA hv (by omega), Nat.le_trans hDs hv.size, hg.below hv, HE, hm, hnm, by omega⟩
     | false =>
       have HE := Lib.hid (HGo.out (by rw [hG]; simp))
       clear hG hS2 hk8
       go_upto_region 3 with (first
            | (go_at_call 119; (with_reducible refine (hSy.out _ (Below.refl _ _)).mono ?_); rintro e V1 ⟨rfl, hv1⟩)
            | (go_at_call 120; (with_reducible refine (hBg.out _ hv1).mono ?_); rintro e V2 ⟨rfl, hv2⟩)
            | (go_at_call 28; (with_reducible refine (hWd.out _ hv1).mono ?_); rintro e V3 ⟨rfl, hv3⟩))
       have hv := hv1.trans (hv2.mono hv1.size)
       replace hR := hR.ahead hv
       replace hT := hT.far (hv.mono hT.size)
       replace hD := block_below hD hv (by omega)
       replace hA := block_below hA hv (by omega)
       replace hg := hg.below hv
       have hDs4 : D + 1 ≤ V2.heap.size := Nat.le_trans hDs hv.size
       clear hDs hv hv1 hv2  hSy hBg hWd
       generalize hV4 : V2 = V4 at hR hT hD hA hg hDs4 ⊢
       clear hV4
       have d0 : V4.cell? ⟨D, 0, none⟩ = some sv := cell_of_row _ _ 0 _ _ _ hD
       have hown := hg.own
       have hob := fun g (h : sv.ownBlock = some g) => own_base hown (Nat.le_refl _) g h
       have hne : some D ≠ sv.ownBlock := fun h => by have := hob D h.symm; omega
       have HC4 := Lib.hid (hPt.out V4.drew (hR.ahead (Below.refl _ _).drew))
       obtain ⟨i0, hi, iz0, iz1, iz2⟩ := rd_info rdInfoPart
       go_region_law (first
        | (go_simp; go_at_call 121; (with_reducible refine HC4.out.mono ?_); rintro e w9 ⟨rfl, h9, ht9⟩;
            have D9 := ht9.heap hD (show ¬ only a D from hDa);
            have A9 := ht9.heap hA (show ¬ only a w.heap.size from Nat.ne_of_gt ha);
            have g9 : GrowL (D + 1) 44 6 ptR (fun _ => False) w9 sv ys acc := hg.keep (fun b hb => by rcases hb with hb | hb; exact hb.elim; exact ht9.block b (hown.lt b hb).2 (fun e => by have := hob b hb; unfold only at e; omega));
            have c9 : w9.cell? ⟨D, 0, none⟩ = some sv := cell_of_row _ _ 0 _ _ _ D9;
            have s9 : D + 1 ≤ w9.heap.size := Nat.le_trans hDs4 ht9.size;
            have a9 := rdCell_alloc c9 (.cells #[.string zn, .bool zl, .int .i64 zm, .int .i64 zp, .string zc, .int .i64 zq] 44);
            have l9 : w9.heap.size < (w9.alloc (.cells #[.string zn, .bool zl, .int .i64 zm, .int .i64 zp, .string zc, .int .i64 zq] 44)).heap.size := by simp)
        | (refine step_append_lies _ (by rfl) _ _ _ (by rfl) (D + 1) 44 i0 (.agg #[.string ByteArray.empty, .bool false, .int .i64 0, .int .i64 0, .string ByteArray.empty, .int .i64 0]) 6 64 Tryd.underlying38 hi iz0 iz1 iz2 rfl (by omega) sv acc.length ys (by rfl) (g9.own.alloc _)
            ⟨w9.heap.size, 0, none⟩ 1 1 [.string zn, .bool zl, .int .i64 zm, .int .i64 zp, .string zc, .int .i64 zq] (by rfl) (by rfl) (rd_news w9 _ _) (by simp [Value.oneCell'])
            (by omega) (by unfold maxLen; omega) (by omega) (by simp; omega) (w9.heap.size + 1) (by simp) ?_;
           intro gg cap w5 hown5 hgrow5 hat hlt5;
           have f5 : w5.cell? ⟨D, 0, none⟩ = some sv := hgrow5.cell a9 hne;
           have r5 : w5.frozen? ⟨D, 0, none⟩ = false := (hgrow5.frozen_far ⟨D, 0, none⟩ (show D < (w9.alloc _).heap.size from by simp; omega) hne).trans (free_of_block (heap_keep _ _ D9))))
       all_goals
        go_wp2_with fail
        have k9 := (Below.refl w9.heap.size w9).alloc (Nat.le_refl _) (.cells #[.string zn, .bool zl, .int .i64 zm, .int .i64 zp, .string zc, .int .i64 zq] 44)
        have hpu := (g9.below k9).box0 (j := 0) (x := (⟨⟨zn, zl, zm, zp⟩, zc, zq⟩ : Pt)) (cs := [.string zn, .bool zl, .int .i64 zm, .int .i64 zp, .string zc, .int .i64 zq]) (Below.refl _ _) hown5 hgrow5 (own_new hat (by simp)) rfl (fun X => show ptR X _ ⟨⟨zn, zl, zm, zp⟩, zc, zq⟩ from rfl) (Nat.lt_succ_self D) (heap_keep _ _ D9)
        have hq := hpu.2.2.1 w.heap.size (by omega)
        have hqD := hpu.2.2.1 D (Nat.le_refl _)
        have hT9 : Turns (only a) w (w9.alloc (.cells #[.string zn, .bool zl, .int .i64 zm, .int .i64 zp, .string zc, .int .i64 zq] 44)) := ((hT.trans (Turns.of_below (S := only a) (Below.refl V4.heap.size V4).drew) (fun _ _ h => h)).trans ht9 (fun _ _ h => h)).alloc _
        have hDn := (hqD.block _ hs1).trans (heap_keep _ _ A9)
        have hR9 := (h9.ahead k9).far hq ha hlt
        have hTn := hT9.far hq
        have hsn : D + 1 ≤ (w5.setCell ⟨D, 0, none⟩ (.slice (some ⟨gg, 0, none⟩) (acc.length + 1) cap)).heap.size := by have := hqD.size; simp at this ⊢; omega
        clear hR hT hD hA hg hDs4 h9 ht9 hT9 D9 A9 g9 c9 s9 a9 l9 hown5 hgrow5 f5 r5 k9 hq hqD
        go_roundg (L.length - (m + 1))
        case rel => exact ⟨m + 1, _, _, _, by omega, hR9, hTn, hpu.2.1, hDn, hsn, hpu.1, HE, hm1, by omega, by simp; omega⟩
        case measure => omega

   | false =>
     by_cases hk8 : yk = 8
     · have hb8 : (yk == 8) = true := by simp [hk8]
       have hm1 := HNx.out (by omega)
       have HE := Lib.hid (HGo.out (by rw [hG]; simp [hk8]))
       clear hG hS2 hk8
       go_upto_region 3 with (first
            | (go_at_call 119; (with_reducible refine (hSy.out _ (Below.refl _ _)).mono ?_); rintro e V1 ⟨rfl, hv1⟩)
            | (go_at_call 120; (with_reducible refine (hBg.out _ hv1).mono ?_); rintro e V2 ⟨rfl, hv2⟩)
            | (go_at_call 28; (with_reducible refine (hWd.out _ hv1).mono ?_); rintro e V3 ⟨rfl, hv3⟩))
       have hv := hv1.trans (hv3.mono hv1.size)
       replace hR := hR.ahead hv
       replace hT := hT.far (hv.mono hT.size)
       replace hD := block_below hD hv (by omega)
       replace hA := block_below hA hv (by omega)
       replace hg := hg.below hv
       have hDs4 : D + 1 ≤ V3.heap.size := Nat.le_trans hDs hv.size
       clear hDs hv hv1  hv3 hSy hBg hWd
       generalize hV4 : V3 = V4 at hR hT hD hA hg hDs4 ⊢
       clear hV4
       have d0 : V4.cell? ⟨D, 0, none⟩ = some sv := cell_of_row _ _ 0 _ _ _ hD
       have hown := hg.own
       have hob := fun g (h : sv.ownBlock = some g) => own_base hown (Nat.le_refl _) g h
       have hne : some D ≠ sv.ownBlock := fun h => by have := hob D h.symm; omega
       have HC4 := Lib.hid (hPt.out V4.drew (hR.ahead (Below.refl _ _).drew))
       obtain ⟨i0, hi, iz0, iz1, iz2⟩ := rd_info rdInfoPart
       go_region_law (first
        | (go_simp; go_at_call 121; (with_reducible refine HC4.out.mono ?_); rintro e w9 ⟨rfl, h9, ht9⟩;
            have D9 := ht9.heap hD (show ¬ only a D from hDa);
            have A9 := ht9.heap hA (show ¬ only a w.heap.size from Nat.ne_of_gt ha);
            have g9 : GrowL (D + 1) 44 6 ptR (fun _ => False) w9 sv ys acc := hg.keep (fun b hb => by rcases hb with hb | hb; exact hb.elim; exact ht9.block b (hown.lt b hb).2 (fun e => by have := hob b hb; unfold only at e; omega));
            have c9 : w9.cell? ⟨D, 0, none⟩ = some sv := cell_of_row _ _ 0 _ _ _ D9;
            have s9 : D + 1 ≤ w9.heap.size := Nat.le_trans hDs4 ht9.size;
            have a9 := rdCell_alloc c9 (.cells #[.string zn, .bool zl, .int .i64 zm, .int .i64 zp, .string zc, .int .i64 zq] 44);
            have l9 : w9.heap.size < (w9.alloc (.cells #[.string zn, .bool zl, .int .i64 zm, .int .i64 zp, .string zc, .int .i64 zq] 44)).heap.size := by simp)
        | (refine step_append_lies _ (by rfl) _ _ _ (by rfl) (D + 1) 44 i0 (.agg #[.string ByteArray.empty, .bool false, .int .i64 0, .int .i64 0, .string ByteArray.empty, .int .i64 0]) 6 64 Tryd.underlying38 hi iz0 iz1 iz2 rfl (by omega) sv acc.length ys (by rfl) (g9.own.alloc _)
            ⟨w9.heap.size, 0, none⟩ 1 1 [.string zn, .bool zl, .int .i64 zm, .int .i64 zp, .string zc, .int .i64 zq] (by rfl) (by rfl) (rd_news w9 _ _) (by simp [Value.oneCell'])
            (by omega) (by unfold maxLen; omega) (by omega) (by simp; omega) (w9.heap.size + 1) (by simp) ?_;
           intro gg cap w5 hown5 hgrow5 hat hlt5;
           have f5 : w5.cell? ⟨D, 0, none⟩ = some sv := hgrow5.cell a9 hne;
           have r5 : w5.frozen? ⟨D, 0, none⟩ = false := (hgrow5.frozen_far ⟨D, 0, none⟩ (show D < (w9.alloc _).heap.size from by simp; omega) hne).trans (free_of_block (heap_keep _ _ D9))))
       all_goals
        go_wp2_with fail
        have k9 := (Below.refl w9.heap.size w9).alloc (Nat.le_refl _) (.cells #[.string zn, .bool zl, .int .i64 zm, .int .i64 zp, .string zc, .int .i64 zq] 44)
        have hpu := (g9.below k9).box0 (j := 0) (x := (⟨⟨zn, zl, zm, zp⟩, zc, zq⟩ : Pt)) (cs := [.string zn, .bool zl, .int .i64 zm, .int .i64 zp, .string zc, .int .i64 zq]) (Below.refl _ _) hown5 hgrow5 (own_new hat (by simp)) rfl (fun X => show ptR X _ ⟨⟨zn, zl, zm, zp⟩, zc, zq⟩ from rfl) (Nat.lt_succ_self D) (heap_keep _ _ D9)
        have hq := hpu.2.2.1 w.heap.size (by omega)
        have hqD := hpu.2.2.1 D (Nat.le_refl _)
        have hT9 : Turns (only a) w (w9.alloc (.cells #[.string zn, .bool zl, .int .i64 zm, .int .i64 zp, .string zc, .int .i64 zq] 44)) := ((hT.trans (Turns.of_below (S := only a) (Below.refl V4.heap.size V4).drew) (fun _ _ h => h)).trans ht9 (fun _ _ h => h)).alloc _
        have hDn := (hqD.block _ hs1).trans (heap_keep _ _ A9)
        have hR9 := (h9.ahead k9).far hq ha hlt
        have hTn := hT9.far hq
        have hsn : D + 1 ≤ (w5.setCell ⟨D, 0, none⟩ (.slice (some ⟨gg, 0, none⟩) (acc.length + 1) cap)).heap.size := by have := hqD.size; simp at this ⊢; omega
        clear hR hT hD hA hg hDs4 h9 ht9 hT9 D9 A9 g9 c9 s9 a9 l9 hown5 hgrow5 f5 r5 k9 hq hqD
        go_roundg (L.length - (m + 1))
        case rel => exact ⟨m + 1, _, _, _, by omega, hR9, hTn, hpu.2.1, hDn, hsn, hpu.1, HE, hm1, by omega, by simp; omega⟩
        case measure => omega

     · have hb8 : (yk == 8) = false := by simp [hk8]
       have HE := Lib.hid (HSt.out (by rw [hG]; simp [hk8]))
       clear hG hS2 hk8
       go_wp2_with (first
            | (go_at_call 119; (with_reducible refine (hSy.out _ (Below.refl _ _)).mono ?_); rintro e V1 ⟨rfl, hv1⟩)
            | (go_at_call 120; (with_reducible refine (hBg.out _ hv1).mono ?_); rintro e V2 ⟨rfl, hv2⟩)
            | (go_at_call 28; (with_reducible refine (hWd.out _ hv1).mono ?_); rintro e V3 ⟨rfl, hv3⟩))
       have hv := hv1.trans (hv3.mono hv1.size)
       go_meet
       case rel => exact ⟨m, sv, ys, acc, hR.ahead hv, hT.far (hv.mono hT.size), block_below hD hv (by omega), block_below hA hv (by omega), Nat.le_trans hDs hv.size, hg.below hv, HE, hm, hnm, by omega⟩
 case rest =>
  obtain ⟨m, sv, ys, acc, hR, hT, hD, hA, hDs, hg, HE, hm, hnm, hal⟩ := hcut
  rename World => V
  obtain ⟨sa, sc, rfl⟩ := rd_slice hg.own
  have hWd := Lib.hid (word_any HI.out hR hm)
  have hWdx : Hid (∀ j, j < L.length → ∀ (X : World), RdAt w0 X a wv j hp pro dv rv → _) := Lib.hid (fun j hj X hX => word_any HI.out hX hj)
  have HP2 : Hid (RES = altEnd acc x0p (L.drop m)) := Lib.hid (by rw [HP.out, HE.out])
  have hpb : precB (wAt L m) = (decide ((wAt L m).kind = 5) && ((wAt L m).text.toList == [37, 112, 114, 101, 99])) := by unfold precB; rw [Bool.eq_iff_iff]; simp
  have HA0 : Hid (precB (wAt L m) = false → RES = .ok ⟨acc, noSm, x0p⟩ (L.drop m)) := Lib.hid (fun e => HP2.out.trans (alt_none e))
  have HA1 : Hid (precB (wAt L m) = true → symB2 (wAt L (m + 1)) = false → RES = .bad (L.drop (m + 1))) := Lib.hid (fun e e2 => HP2.out.trans (alt_bad e e2))
  have HA2 : Hid (precB (wAt L m) = true → symB2 (wAt L (m + 1)) = true → (wAt L (m + 2)).kind ≠ 8 → RES = .ok ⟨acc, smOf (wAt L (m + 1)) 0, x0p⟩ (L.drop (m + 2))) := Lib.hid (fun e e2 e3 => HP2.out.trans (alt_sym e e2 e3))
  have HA3 : Hid (precB (wAt L m) = true → symB2 (wAt L (m + 1)) = true → (wAt L (m + 2)).kind = 8 → RES = .ok ⟨acc ++ [ptOf (wAt L (m + 2))], smOf (wAt L (m + 1)) 0, x0p⟩ (L.drop (m + 3))) := Lib.hid (fun e e2 e3 => HP2.out.trans (alt_code e e2 e3))
  have HNx : Hid ((wAt L m).kind ≠ 10 → m + 1 < L.length) := Lib.hid (fun e => HI.out.ok.next hm e)
  clear HP HE HP2
  unfold Wd.agg8 at hWd
  generalize precB (wAt L m) = pb at hpb HA0 HA1 HA2 HA3
  generalize wAt L m = y at hWd hpb HNx
  obtain ⟨yk, yt, yp⟩ := y
  simp only at hWd hpb HNx
  have HFm := Lib.hid (hg.firm (by omega))
  have HSb : Hid (∀ b, (False ∨ (Value.slice sa acc.length sc).ownBlock = some b) → D + 1 ≤ b) := Lib.hid (fun b hb => hb.elim (fun h => h.elim) (fun h => own_base hg.own (Nat.le_refl _) b h))
  cases pb with
  | false =>
    have HF := Lib.hid (HA0.out rfl)
    clear HA0 HA1 HA2 HA3
    by_cases h5 : yk = 5
    · have hb5 : (yk == 5) = true := by simp [h5]
      have hbt : (yt.toList == [37, 112, 114, 101, 99]) = false := by simpa [h5] using hpb.symm
      clear hpb h5
      go_upto_region 5 with (first | (go_at_call 28; (with_reducible refine hWd.out.mono ?_); rintro e V1 ⟨rfl, hv1⟩))
      have hv2 := hv1.alloc hv1.size (.cells #[.int .i64 yk, .string yt, .int .i64 yp] 76)
      have E2 := heap_made V1 #[.int .i64 yk, .string yt, .int .i64 yp] 76 _ rfl
      replace hR := hR.ahead hv2
      replace hT := hT.far (hv2.mono hT.size)
      replace hD := block_below hD hv2 (by omega)
      replace hA := block_below hA hv2 (by omega)
      replace HFm := Lib.hid (HFm.out.below hv2)
      replace hg := hg.below hv2
      have hs3 := hv2.size
      have hDs2 : D + 1 ≤ (V1.alloc (.cells #[.int .i64 yk, .string yt, .int .i64 yp] 76)).heap.size := by omega
      have hED0 : D < V1.heap.size := by have := hv1.size; omega
      clear hs3 hDs
      generalize hEE : V1.heap.size = E at E2 hED0 ⊢
      clear hEE hv2 hv1 hWd
      generalize V1.alloc (.cells #[.int .i64 yk, .string yt, .int .i64 yp] 76) = V2 at hR hT hD hA hg HFm hDs2 E2 ⊢
      obtain ⟨u0, u1, u2, v0, v1, v2⟩ := box3 E2
      have HR := Lib.hid hR
      obtain ⟨d0, d1, d2, d3, d4, d5, e0, e1, e2, e3, e4, e5⟩ := box6 hD
      obtain ⟨a0, a1, a2, a3, a4, a5, g0, g1, g2, g3, g4, g5⟩ := box6 hA
      clear hR
      go_wp2_with fail
      have hne0 : w.heap.size ≠ a := Nat.ne_of_gt ha
      have hRR := set6_row8 hA (.slice sa acc.length sc) (.string ⟨#[]⟩) (.bool false) (.int .i64 0) (.int .i64 0) (.int .i64 x0p)
      exact bodyPost_ret (v := .tuple #[.agg #[.slice sa acc.length sc, .string ⟨#[]⟩, .bool false, .int .i64 0, .int .i64 0, .int .i64 x0p], .bool true]) (results_cell_slot rfl _ _ w.heap.size 42 #[.slice sa acc.length sc, .string ⟨#[]⟩, .bool false, .int .i64 0, .int .i64 0, .int .i64 x0p] (0, 0) rfl rfl hRR Tryd.underlying42 altInfo8) rfl
       (.inl ⟨⟨acc, ⟨⟨#[]⟩, false, 0, 0⟩, x0p⟩, m, _, _, HF.out, hm, by omega, rfl, HFm.out.keep (fun b hb => by
         have hb1 := HSb.out b hb
         have hb2 : b ≠ w.heap.size := by omega
         exact (Below.heap_setCell _ _ _ _ hb2).trans ((Below.heap_setCell _ _ _ _ hb2).trans ((Below.heap_setCell _ _ _ _ hb2).trans ((Below.heap_setCell _ _ _ _ hb2).trans ((Below.heap_setCell _ _ _ _ hb2).trans (Below.heap_setCell _ _ _ _ hb2)))))), fun b hb => by have := HSb.out b hb; omega, ⟨_, _, _, rfl⟩, HR.out.aside6 hne0 hlt _ _ _ _ _ _, hT.set6 (.inr (Nat.le_refl _)) _ _ _ _ _ _⟩)
    · have hb5 : (yk == 5) = false := by simp [h5]
      clear hpb h5
      go_upto_region 5 with (first | (go_at_call 28; (with_reducible refine hWd.out.mono ?_); rintro e V1 ⟨rfl, hv1⟩))
      have hv2 := hv1.alloc hv1.size (.cells #[.int .i64 yk, .string yt, .int .i64 yp] 76)
      have E2 := heap_made V1 #[.int .i64 yk, .string yt, .int .i64 yp] 76 _ rfl
      replace hR := hR.ahead hv2
      replace hT := hT.far (hv2.mono hT.size)
      replace hD := block_below hD hv2 (by omega)
      replace hA := block_below hA hv2 (by omega)
      replace HFm := Lib.hid (HFm.out.below hv2)
      replace hg := hg.below hv2
      have hs3 := hv2.size
      have hDs2 : D + 1 ≤ (V1.alloc (.cells #[.int .i64 yk, .string yt, .int .i64 yp] 76)).heap.size := by omega
      have hED0 : D < V1.heap.size := by have := hv1.size; omega
      clear hs3 hDs
      generalize hEE : V1.heap.size = E at E2 hED0 ⊢
      clear hEE hv2 hv1 hWd
      generalize V1.alloc (.cells #[.int .i64 yk, .string yt, .int .i64 yp] 76) = V2 at hR hT hD hA hg HFm hDs2 E2 ⊢
      obtain ⟨u0, u1, u2, v0, v1, v2⟩ := box3 E2
      have HR := Lib.hid hR
      obtain ⟨d0, d1, d2, d3, d4, d5, e0, e1, e2, e3, e4, e5⟩ := box6 hD
      obtain ⟨a0, a1, a2, a3, a4, a5, g0, g1, g2, g3, g4, g5⟩ := box6 hA
      clear hR
      go_wp2_with fail
      have hne0 : w.heap.size ≠ a := Nat.ne_of_gt ha
      have hRR := set6_row8 hA (.slice sa acc.length sc) (.string ⟨#[]⟩) (.bool false) (.int .i64 0) (.int .i64 0) (.int .i64 x0p)
      exact bodyPost_ret (v := .tuple #[.agg #[.slice sa acc.length sc, .string ⟨#[]⟩, .bool false, .int .i64 0, .int .i64 0, .int .i64 x0p], .bool true]) (results_cell_slot rfl _ _ w.heap.size 42 #[.slice sa acc.length sc, .string ⟨#[]⟩, .bool false, .int .i64 0, .int .i64 0, .int .i64 x0p] (0, 0) rfl rfl hRR Tryd.underlying42 altInfo8) rfl
       (.inl ⟨⟨acc, ⟨⟨#[]⟩, false, 0, 0⟩, x0p⟩, m, _, _, HF.out, hm, by omega, rfl, HFm.out.keep (fun b hb => by
         have hb1 := HSb.out b hb
         have hb2 : b ≠ w.heap.size := by omega
         exact (Below.heap_setCell _ _ _ _ hb2).trans ((Below.heap_setCell _ _ _ _ hb2).trans ((Below.heap_setCell _ _ _ _ hb2).trans ((Below.heap_setCell _ _ _ _ hb2).trans ((Below.heap_setCell _ _ _ _ hb2).trans (Below.heap_setCell _ _ _ _ hb2)))))), fun b hb => by have := HSb.out b hb; omega, ⟨_, _, _, rfl⟩, HR.out.aside6 hne0 hlt _ _ _ _ _ _, hT.set6 (.inr (Nat.le_refl _)) _ _ _ _ _ _⟩)
  | true =>
    have h55 : yk = 5 ∧ (yt.toList == [37, 112, 114, 101, 99]) = true := by simpa using hpb.symm
    have hb5 : (yk == 5) = true := by simp [h55.1]
    have hbt := h55.2
    have hm1 := HNx.out (by omega)
    clear hpb h55 HA0 HNx
    go_upto_region 5 with (first | (go_at_call 28; (with_reducible refine hWd.out.mono ?_); rintro e V1 ⟨rfl, hv1⟩))
    have hv2 := hv1.alloc hv1.size (.cells #[.int .i64 yk, .string yt, .int .i64 yp] 76)
    have E2 := heap_made V1 #[.int .i64 yk, .string yt, .int .i64 yp] 76 _ rfl
    replace hR := hR.ahead hv2
    replace hT := hT.far (hv2.mono hT.size)
    replace hD := block_below hD hv2 (by omega)
    replace hA := block_below hA hv2 (by omega)
    replace HFm := Lib.hid (HFm.out.below hv2)
    replace hg := hg.below hv2
    have hs3 := hv2.size
    have hDs2 : D + 1 ≤ (V1.alloc (.cells #[.int .i64 yk, .string yt, .int .i64 yp] 76)).heap.size := by omega
    have hED0 : D < V1.heap.size := by have := hv1.size; omega
    clear hs3 hDs
    generalize hEE : V1.heap.size = E at E2 hED0 ⊢
    clear hEE hv2 hv1 hWd
    generalize V1.alloc (.cells #[.int .i64 yk, .string yt, .int .i64 yp] 76) = V2 at hR hT hD hA hg HFm hDs2 E2 ⊢
    obtain ⟨u0, u1, u2, v0, v1, v2⟩ := box3 E2
    obtain ⟨_, c1, _⟩ := hR.cells
    have f1 := hR.free 1
    go_upto_region 7 with fail
    obtain ⟨hR3, ht3⟩ := hR.move HI.out (m + 1)
    have hT3 := hT.trans ht3 (fun _ _ h => h)
    have hD3 := (Below.heap_setCell V2 ⟨a, 1, none⟩ (.int .i64 ((m + 1 : Nat) : Int)) _ hDa).trans hD
    have hA3 := (Below.heap_setCell V2 ⟨a, 1, none⟩ (.int .i64 ((m + 1 : Nat) : Int)) _ (Nat.ne_of_gt ha)).trans hA
    have HFm3 := Lib.hid (HFm.out.keep (w' := V2.setCell ⟨a, 1, none⟩ (.int .i64 ((m + 1 : Nat) : Int))) (fun b hb => Below.heap_setCell _ _ _ _ (show b ≠ a by have := HSb.out b hb; omega)))
    have hg3 := hg.keep (w' := V2.setCell ⟨a, 1, none⟩ (.int .i64 ((m + 1 : Nat) : Int))) (fun b hb => Below.heap_setCell _ _ _ _ (show b ≠ a by have := HSb.out b hb; omega))
    have hs3 : D + 1 ≤ (V2.setCell ⟨a, 1, none⟩ (.int .i64 ((m + 1 : Nat) : Int))).heap.size := by simp [World.setCell]; omega
    clear hR hT hD hA HFm hg u0 u1 u2 v0 v1 v2 E2 c1 f1 ht3 hDs2
    have hw3 : V2.setCell ⟨a, 1, none⟩ (.int .i64 ((m : Int) + 1)) = V2.setCell ⟨a, 1, none⟩ (.int .i64 ((m + 1 : Nat) : Int)) := rfl
    generalize V2.setCell ⟨a, 1, none⟩ (.int .i64 ((m + 1 : Nat) : Int)) = V3 at hR3 hT3 hD3 hA3 HFm3 hg3 hs3 hw3
    first | rw [hw3] | skip
    clear hw3
    have hIs := Lib.hid (isSymbol_any HI.out hR3 hm1)
    have hSm := Lib.hid (fun (X : World) (hX : RdAt w0 X a wv (m + 1) hp pro dv rv) => sym_any HI.out hX hm1)
    have hz2 : symB2 (wAt L (m + 1)) = true → (wAt L (m + 1)).kind = 1 ∨ (wAt L (m + 1)).kind = 2 := fun e => by unfold symB2 at e; simpa using e
    have HN2 : Hid (symB2 (wAt L (m + 1)) = true → m + 2 < L.length) := Lib.hid (fun e => HI.out.ok.next hm1 (by have := hz2 e; omega))
    unfold smOf at hSm HA2 HA3
    unfold Sm.agg at hSm
    generalize symB2 (wAt L (m + 1)) = sb at hIs HA1 HA2 HA3 HN2 hz2
    clear hz2
    generalize wAt L (m + 1) = z at hSm HA2 HA3
    obtain ⟨zk, zt, zp⟩ := z
    simp only at hSm HA2 HA3
    generalize decide (zk = 2) = zb at hSm HA2 HA3
    cases sb with
    | false =>
      have HF := Lib.hid (HA1.out (by simp) (by simp))
      clear HA1 HA2 HA3 hSm
      obtain ⟨a0, a1, a2, a3, a4, a5, g0, g1, g2, g3, g4, g5⟩ := box6 hA3
      go_upto_region 8 with (first | (go_at_call 119; (with_reducible refine hIs.out.mono ?_); rintro e V4 ⟨rfl, hv4⟩))
      have hA4 := block_below hA3 hv4 (by omega)
      clear a0 a1 a2 a3 a4 a5 g0 g1 g2 g3 g4 g5
      obtain ⟨a0, a1, a2, a3, a4, a5, g0, g1, g2, g3, g4, g5⟩ := box6 hA4
      go_wp2_with fail
      have hne0 : w.heap.size ≠ a := Nat.ne_of_gt ha
      have hRR := set6_row8 hA4 (.slice none 0 0) (.string ⟨#[]⟩) (.bool false) (.int .i64 0) (.int .i64 0) (.int .i64 0)
      exact bodyPost_ret (v := .tuple #[.agg #[.slice none 0 0, .string ⟨#[]⟩, .bool false, .int .i64 0, .int .i64 0, .int .i64 0], .bool false]) (results_cell_slot rfl _ _ w.heap.size 42 #[.slice none 0 0, .string ⟨#[]⟩, .bool false, .int .i64 0, .int .i64 0, .int .i64 0] (0, 0) rfl rfl hRR Tryd.underlying42 altInfo8) rfl
       (.inr ⟨m + 1, HF.out, hm1, rfl, (hR3.ahead hv4).aside6 hne0 hlt _ _ _ _ _ _, (hT3.far (hv4.mono hT3.size)).set6 (.inr (Nat.le_refl _)) _ _ _ _ _ _⟩)
    | true =>
      have hm2 := HN2.out rfl
      go_upto_region 9 with (first | (go_at_call 119; (with_reducible refine hIs.out.mono ?_); rintro e V4 ⟨rfl, hv4⟩))
      have hR4 := hR3.ahead hv4
      have hT4 := hT3.far (hv4.mono hT3.size)
      have hD4 := block_below hD3 hv4 (by omega)
      have hA4 := block_below hA3 hv4 (by omega)
      have hg4 := hg3.below hv4
      have hSm4 := Lib.hid (hSm.out _ hR4)
      have hs4 : D + 1 ≤ V4.heap.size := Nat.le_trans hs3 hv4.size
      clear hR3 hT3 hD3 hA3 hg3 HFm3 hs3 hIs hSm
      go_upto_region 10 with (first | (go_at_call 122; (with_reducible refine hSm4.out.mono ?_); rintro e V5 ⟨rfl, h5, ht5⟩; have D5 := ht5.heap hD4 (show ¬ only a D from hDa); obtain ⟨d0, d1, d2, d3, d4, d5, e0, e1, e2, e3, e4, e5⟩ := box6 D5))
      have hA5 := ht5.heap hA4 (show ¬ only a w.heap.size from Nat.ne_of_gt ha)
      have hg5 : GrowL (D + 1) 44 6 ptR (fun _ => False) V5 (.slice sa acc.length sc) ys acc := hg4.keep (fun b hb => ht5.block b (hg4.lt b hb) (fun e => by unfold only at e; have := HSb.out b hb; omega))
      have hT5 := hT4.trans ht5 (fun _ _ h => h)
      have hs5 := ht5.size
      clear d0 d1 d2 d3 d4 d5 e0 e1 e2 e3 e4 e5
      have hD := block_setCell (j := 4) (u := .int .i64 zp) (block_setCell (j := 3) (u := .int .i64 0) (block_setCell (j := 2) (u := .bool zb) (block_setCell (j := 1) (u := .string zt) D5)))
      simp only [Array.setIfInBounds, List.size_toArray, List.length_cons, List.length_nil] at hD
      have hk5 : ∀ b, b ≠ D → ((((V5.setCell ⟨D, 1, none⟩ (.string zt)).setCell ⟨D, 2, none⟩ (.bool zb)).setCell ⟨D, 3, none⟩ (.int .i64 0)).setCell ⟨D, 4, none⟩ (.int .i64 zp)).heap[b]? = V5.heap[b]? := fun b hb =>
       (Below.heap_setCell _ _ _ _ hb).trans ((Below.heap_setCell _ _ _ _ hb).trans ((Below.heap_setCell _ _ _ _ hb).trans (Below.heap_setCell _ _ _ _ hb)))
      have hA := (hk5 w.heap.size (by omega)).trans hA5
      have hR := (((h5.aside (j := 1) hDa (by omega) (.string zt)).aside (j := 2) hDa (by omega) (.bool zb)).aside (j := 3) hDa (by omega) (.int .i64 0)).aside (j := 4) hDa (by omega) (.int .i64 zp)
      have hT := (((hT5.setCell (p := ⟨D, 1, none⟩) (.inr (show w.heap.size ≤ D by omega)) (.string zt)).setCell (p := ⟨D, 2, none⟩) (.inr (show w.heap.size ≤ D by omega)) (.bool zb)).setCell (p := ⟨D, 3, none⟩) (.inr (show w.heap.size ≤ D by omega)) (.int .i64 0)).setCell (p := ⟨D, 4, none⟩) (.inr (show w.heap.size ≤ D by omega)) (.int .i64 zp)
      have hg := hg5.keep (w' := (((V5.setCell ⟨D, 1, none⟩ (.string zt)).setCell ⟨D, 2, none⟩ (.bool zb)).setCell ⟨D, 3, none⟩ (.int .i64 0)).setCell ⟨D, 4, none⟩ (.int .i64 zp)) (fun b hb => hk5 b (by have := HSb.out b hb; omega))
      have hDs4 : D + 1 ≤ ((((V5.setCell ⟨D, 1, none⟩ (.string zt)).setCell ⟨D, 2, none⟩ (.bool zb)).setCell ⟨D, 3, none⟩ (.int .i64 0)).setCell ⟨D, 4, none⟩ (.int .i64 zp)).heap.size := by simp [World.setCell]; omega
      clear hk5 hA5 hg5 h5 ht5 hT5 D5 hs5 hA4 hR4 hT4 hD4 hg4 hs4 hSm4
      generalize (((V5.setCell ⟨D, 1, none⟩ (.string zt)).setCell ⟨D, 2, none⟩ (.bool zb)).setCell ⟨D, 3, none⟩ (.int .i64 0)).setCell ⟨D, 4, none⟩ (.int .i64 zp) = V4 at hD hA hR hT hg hDs4 ⊢
      have hWd := Lib.hid (word_any HI.out hR hm2)
      have hPt := Lib.hid (fun (X : World) (hX : RdAt w0 X a wv (m + 2) hp pro dv rv) => part_any HI.out hX hm2)
      have HN3 : Hid ((wAt L (m + 2)).kind ≠ 10 → m + 3 < L.length) := Lib.hid (fun e => HI.out.ok.next hm2 e)
      unfold Wd.agg8 at hWd
      generalize ptOf (wAt L (m + 2)) = X at hPt HA3
      obtain ⟨⟨zn, zl, zm, zq2⟩, zc, zq⟩ := X
      unfold Pt.agg at hPt
      simp only at hPt
      generalize wAt L (m + 2) = y2 at hWd HN3 HA2 HA3
      obtain ⟨yk2, yt2, yp2⟩ := y2
      simp only at hWd HN3 HA2 HA3
      have hfd := wfld0 yk2 yt2 yp2
      by_cases h8 : yk2 = 8
      · have hb8 : (yk2 == 8) = true := by simp [h8]
        have hm3 := HN3.out (by omega)
        have HF := Lib.hid (HA3.out (by simp) (by simp) h8)
        clear h8 HA1 HA2 HA3
        go_upto_region 11 with (first | (go_at_call 28; (with_reducible refine hWd.out.mono ?_); rintro e V6 ⟨rfl, hv6⟩))
        replace hR := hR.ahead hv6
        replace hT := hT.far (hv6.mono hT.size)
        replace hD := block_below hD hv6 (by omega)
        replace hA := block_below hA hv6 (by omega)
        replace hg := hg.below hv6
        replace hDs4 := Nat.le_trans hDs4 hv6.size
        clear hWd hv6
        generalize hV9 : V6 = V9 at hR hT hD hA hg hDs4 ⊢
        clear hV9
        clear V4
        have hV4 : V9 = V9 := rfl
        clear hV4
        have d0 : V9.cell? ⟨D, 0, none⟩ = some (.slice sa acc.length sc) := cell_of_row _ _ 0 _ _ _ hD
        have hown := hg.own
        have hob := fun g (h : (Value.slice sa acc.length sc).ownBlock = some g) => own_base hown (Nat.le_refl _) g h
        have hne : some D ≠ (Value.slice sa acc.length sc).ownBlock := fun h => by have := hob D h.symm; omega
        have HC4 := Lib.hid (hPt.out V9.drew (hR.ahead (Below.refl _ _).drew))
        obtain ⟨i0, hi, iz0, iz1, iz2⟩ := rd_info rdInfoPart
        go_cut [] from 58 to 64 (fun wx => ∃ (sv : Value) (ys : List Value), RdAt w0 wx a wv (m + 3) hp pro dv rv ∧ Turns (only a) w wx ∧ wx.heap[D]? = some (.cells #[sv, .string zt, .bool zb, .int .i64 0, .int .i64 zp, .int .i64 x0p] 42 (0, 0)) ∧ wx.heap[w.heap.size]? = some (.cells #[.slice none 0 0, .string ⟨#[]⟩, .bool false, .int .i64 0, .int .i64 0, .int .i64 0] 42 (0, 0)) ∧ D + 1 ≤ wx.heap.size ∧ GrowL (D + 1) 44 6 ptR (fun _ => False) wx sv ys (acc ++ [⟨⟨zn, zl, zm, zq2⟩, zc, zq⟩]))
        case first =>
         go_region_law (first
          | (go_simp; go_at_call 121; (with_reducible refine HC4.out.mono ?_); rintro e w9 ⟨rfl, h9, ht9⟩;
              have D9 := ht9.heap hD (show ¬ only a D from hDa);
              have A9 := ht9.heap hA (show ¬ only a w.heap.size from Nat.ne_of_gt ha);
              have g9 : GrowL (D + 1) 44 6 ptR (fun _ => False) w9 (.slice sa acc.length sc) ys acc := hg.keep (fun b hb => by rcases hb with hb | hb; exact hb.elim; exact ht9.block b (hown.lt b hb).2 (fun e => by have := hob b hb; unfold only at e; omega));
              have c9 : w9.cell? ⟨D, 0, none⟩ = some (.slice sa acc.length sc) := cell_of_row _ _ 0 _ _ _ D9;
              have s9 : D + 1 ≤ w9.heap.size := Nat.le_trans hDs4 ht9.size;
              have a9 := rdCell_alloc c9 (.cells #[.string zn, .bool zl, .int .i64 zm, .int .i64 zq2, .string zc, .int .i64 zq] 44);
              have l9 : w9.heap.size < (w9.alloc (.cells #[.string zn, .bool zl, .int .i64 zm, .int .i64 zq2, .string zc, .int .i64 zq] 44)).heap.size := by simp)
          | (refine step_append_lies _ (by rfl) _ _ _ (by rfl) (D + 1) 44 i0 (.agg #[.string ByteArray.empty, .bool false, .int .i64 0, .int .i64 0, .string ByteArray.empty, .int .i64 0]) 6 64 Tryd.underlying38 hi iz0 iz1 iz2 rfl (by omega) (.slice sa acc.length sc) acc.length ys (by rfl) (g9.own.alloc _)
              ⟨w9.heap.size, 0, none⟩ 1 1 [.string zn, .bool zl, .int .i64 zm, .int .i64 zq2, .string zc, .int .i64 zq] (by rfl) (by rfl) (rd_news w9 _ _) (by simp [Value.oneCell'])
              (by omega) (by unfold maxLen; omega) (by omega) (by simp; omega) (w9.heap.size + 1) (by simp) ?_;
             intro gg cap w5 hown5 hgrow5 hat hlt5;
             have f5 : w5.cell? ⟨D, 0, none⟩ = some (.slice sa acc.length sc) := hgrow5.cell a9 hne;
             have r5 : w5.frozen? ⟨D, 0, none⟩ = false := (hgrow5.frozen_far ⟨D, 0, none⟩ (show D < (w9.alloc _).heap.size from by simp; omega) hne).trans (free_of_block (heap_keep _ _ D9))))
         all_goals
          go_wp2_with fail
          have k9 := (Below.refl w9.heap.size w9).alloc (Nat.le_refl _) (.cells #[.string zn, .bool zl, .int .i64 zm, .int .i64 zq2, .string zc, .int .i64 zq] 44)
          have hpu := (g9.below k9).box0 (j := 0) (x := (⟨⟨zn, zl, zm, zq2⟩, zc, zq⟩ : Pt)) (cs := [.string zn, .bool zl, .int .i64 zm, .int .i64 zq2, .string zc, .int .i64 zq]) (Below.refl _ _) hown5 hgrow5 (own_new hat (by simp)) rfl (fun X => show ptR X _ ⟨⟨zn, zl, zm, zq2⟩, zc, zq⟩ from rfl) (Nat.lt_succ_self D) (heap_keep _ _ D9)
          have hq := hpu.2.2.1 w.heap.size (by omega)
          have hqD := hpu.2.2.1 D (Nat.le_refl _)
          have hT9 : Turns (only a) w (w9.alloc (.cells #[.string zn, .bool zl, .int .i64 zm, .int .i64 zq2, .string zc, .int .i64 zq] 44)) := ((hT.trans (Turns.of_below (S := only a) (Below.refl V9.heap.size V9).drew) (fun _ _ h => h)).trans ht9 (fun _ _ h => h)).alloc _
          go_meet
          case rel => exact ⟨_, _, (h9.ahead k9).far hq ha hlt, hT9.far hq, hpu.2.1, (hqD.block _ (by omega)).trans (heap_keep _ _ A9), by have := hq.size; simp at this ⊢; omega, hpu.1⟩
        case rest =>
         clear d0 hown hob hne HC4 hR hT hD hA hDs4 hg HSb
         obtain ⟨sv, ys, hR, hT, hD, hA, hDs, hg⟩ := hcut
         rename World => V6
         generalize hAC : acc ++ [⟨⟨zn, zl, zm, zq2⟩, zc, zq⟩] = acc2 at hg HF
         clear hAC
         obtain ⟨sa, sc, rfl⟩ := rd_slice hg.own
         have HFm := Lib.hid (hg.firm (by omega))
         have HSb : Hid (∀ b, (False ∨ (Value.slice sa acc2.length sc).ownBlock = some b) → D + 1 ≤ b) := Lib.hid (fun b hb => hb.elim (fun h => h.elim) (fun h => own_base hg.own (Nat.le_refl _) b h))
         clear hg
         have HR := Lib.hid hR
         obtain ⟨d0, d1, d2, d3, d4, d5, e0, e1, e2, e3, e4, e5⟩ := box6 hD
         obtain ⟨a0, a1, a2, a3, a4, a5, g0, g1, g2, g3, g4, g5⟩ := box6 hA
         clear hR
         go_wp2_with fail
         have hne0 : w.heap.size ≠ a := Nat.ne_of_gt ha
         have hRR := set6_row8 hA (.slice sa acc2.length sc) (.string zt) (.bool zb) (.int .i64 0) (.int .i64 zp) (.int .i64 x0p)
         exact bodyPost_ret (v := .tuple #[.agg #[.slice sa acc2.length sc, .string zt, .bool zb, .int .i64 0, .int .i64 zp, .int .i64 x0p], .bool true]) (results_cell_slot rfl _ _ w.heap.size 42 #[.slice sa acc2.length sc, .string zt, .bool zb, .int .i64 0, .int .i64 zp, .int .i64 x0p] (0, 0) rfl rfl hRR Tryd.underlying42 altInfo8) rfl
          (.inl ⟨⟨acc2, ⟨zt, zb, 0, zp⟩, x0p⟩, m + 3, _, _, HF.out, hm3, by omega, rfl, HFm.out.keep (fun b hb => by
            have hb1 := HSb.out b hb
            have hb2 : b ≠ w.heap.size := by omega
            exact (Below.heap_setCell _ _ _ _ hb2).trans ((Below.heap_setCell _ _ _ _ hb2).trans ((Below.heap_setCell _ _ _ _ hb2).trans ((Below.heap_setCell _ _ _ _ hb2).trans ((Below.heap_setCell _ _ _ _ hb2).trans (Below.heap_setCell _ _ _ _ hb2)))))), fun b hb => by have := HSb.out b hb; omega, ⟨_, _, _, rfl⟩, HR.out.aside6 hne0 hlt _ _ _ _ _ _, hT.set6 (.inr (Nat.le_refl _)) _ _ _ _ _ _⟩)
      · have hb8 : (yk2 == 8) = false := by simp [h8]
        have HF := Lib.hid (HA2.out (by simp) (by simp) h8)
        clear h8 HA1 HA2 HA3
        go_upto_region 12 with (first | (go_at_call 28; (with_reducible refine hWd.out.mono ?_); rintro e V6 ⟨rfl, hv6⟩))
        replace hR := hR.ahead hv6
        replace hT := hT.far (hv6.mono hT.size)
        replace hD := block_below hD hv6 (by omega)
        replace hA := block_below hA hv6 (by omega)
        have HFm := Lib.hid ((hg.below hv6).firm (by omega))
        clear hWd hv6 hg
        have HR := Lib.hid hR
        obtain ⟨d0, d1, d2, d3, d4, d5, e0, e1, e2, e3, e4, e5⟩ := box6 hD
        obtain ⟨a0, a1, a2, a3, a4, a5, g0, g1, g2, g3, g4, g5⟩ := box6 hA
        clear hR
        go_wp2_with fail
        have hne0 : w.heap.size ≠ a := Nat.ne_of_gt ha
        have hRR := set6_row8 hA (.slice sa acc.length sc) (.string zt) (.bool zb) (.int .i64 0) (.int .i64 zp) (.int .i64 x0p)
        exact bodyPost_ret (v := .tuple #[.agg #[.slice sa acc.length sc, .string zt, .bool zb, .int .i64 0, .int .i64 zp, .int .i64 x0p], .bool true]) (results_cell_slot rfl _ _ w.heap.size 42 #[.slice sa acc.length sc, .string zt, .bool zb, .int .i64 0, .int .i64 zp, .int .i64 x0p] (0, 0) rfl rfl hRR Tryd.underlying42 altInfo8) rfl
         (.inl ⟨⟨acc, ⟨zt, zb, 0, zp⟩, x0p⟩, m + 2, _, _, HF.out, hm2, by omega, rfl, HFm.out.keep (fun b hb => by
           have hb1 := HSb.out b hb
           have hb2 : b ≠ w.heap.size := by omega
           exact (Below.heap_setCell _ _ _ _ hb2).trans ((Below.heap_setCell _ _ _ _ hb2).trans ((Below.heap_setCell _ _ _ _ hb2).trans ((Below.heap_setCell _ _ _ _ hb2).trans ((Below.heap_setCell _ _ _ _ hb2).trans (Below.heap_setCell _ _ _ _ hb2)))))), fun b hb => by have := HSb.out b hb; omega, ⟨_, _, _, rfl⟩, HR.out.aside6 hne0 hlt _ _ _ _ _ _, hT.set6 (.inr (Nat.le_refl _)) _ _ _ _ _ _⟩)
end
end Go.Proofs.YtnoppoifepbchaaDoor
