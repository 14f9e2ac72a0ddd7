/- The document's reader: an alternative. -/
import Derived.Test.YtnoppoifepbchaaGreatDoorRf2
import Derived.Test.YtnoppoifepbchaaGreatDoorRfI
namespace Go.Proofs.YtnoppoifepbchaaGreatDoor
open Go.RowKit
set_option linter.unusedVariables false
set_option linter.unusedSimpArgs false

def RAltGo (w0 : World) (a : Nat) (wv : Value) (L : Wds) (n : Nat) (w : World) (e : Ending) (w' : World) : Prop :=
 ∃ (al : Al) (m : Nat) (bd : Int) (va : Option Addr) (vn vc : Nat) (S : Nat → Prop), e = .returned (altV (.slice va vn vc) al.prec al.pos) ∧
  Firm S w' (fun X => PtsV X (.slice va vn vc) al.parts) ∧ (∀ b, S b → w.heap.size ≤ b) ∧ m < L.length ∧ RfAt w0 w' a wv m bd ∧ Turns (only a) w w' ∧
  ((bd = -1 ∧ n ≤ m ∧ altS (L.drop n) = .ok al (L.drop m)) ∨ (0 ≤ bd ∧ bd ≤ 100000 ∧ ∃ r, altS (L.drop n) = .bad r ∧ bd = (hdW r).place))
theorem isB_prec (x : Wd) : isB (-1) 5 ⟨#[37, 112, 114, 101, 99]⟩ x = precB x := by
 unfold isB precB
 have h : (⟨#[37, 112, 114, 101, 99]⟩ : ByteArray).toList = [37, 112, 114, 101, 99] := by decide +kernel
 rw [h, Bool.eq_iff_iff]
 simp

section
variable {w0 w : World} {a : Nat} {wv : Value} {n : Nat} {bad : Int} {L : Wds}
set_option maxRecDepth 100000 in
set_option maxHeartbeats 40000000 in
theorem ralt_any (hI : RdIn w0 wv L a) (h : RfAt w0 w a wv n (-1)) (hn : n < L.length) :
  Calls Tryz.prog 61 #[.pointer (some ⟨a, 0, none⟩)] w (RAltGo w0 a wv L n w) := by
 have ha := h.lt
 have hlt := h.below.size
 have hL6 := hI.ok.len
 have HI := Lib.hid hI
 have h1 := h.ahead ((Below.refl w.heap.size w).alloc (Nat.le_refl _) (.cells #[.slice none 0 0, .string ⟨#[]⟩, .bool false, .int .i64 0, .int .i64 0, .int .i64 0] 62))
 have hW := Lib.hid (now_any hI h1 hn)
 have HP : Hid (altS (L.drop n) = altEnd (rdParts (L.drop n)).1 (wAt L n).place (rdParts (L.drop n)).2) := Lib.hid rfl
 unfold RAltGo altV
 generalize altS (L.drop n) = RES at HP ⊢
 unfold Wd.agg8 at hW
 generalize wAt L n = x at hW HP
 obtain ⟨x0k, x0t, x0p⟩ := x
 simp only at hW HP
 have hfx2 := wfld2 x0k x0t x0p
 clear hI
 go_enter Tryz.func61, Tryz.ntmps61
 go_upto_block 0 with (first | (go_at_call 56; (with_reducible refine hW.out.mono ?_); rintro e w1 ⟨rfl, hw1⟩))
 have hA1 := (hw1.block w.heap.size (by simp)).trans (heap_made w #[.slice none 0 0, .string ⟨#[]⟩, .bool false, .int .i64 0, .int .i64 0, .int .i64 0] 62 _ rfl)
 have hs1 : w.heap.size < w1.heap.size := by have := hw1.size; simp at this; omega
 have D1 := heap_made w1 #[.slice none 0 0, .string ⟨#[]⟩, .bool false, .int .i64 0, .int .i64 0, .int .i64 x0p] 62 _ rfl
 have hA2 := heap_keep w1 (.cells #[.slice none 0 0, .string ⟨#[]⟩, .bool false, .int .i64 0, .int .i64 0, .int .i64 x0p] 62) hA1
 have h2 := (h1.ahead hw1).ahead ((Below.refl w1.heap.size w1).alloc (Nat.le_refl _) (.cells #[.slice none 0 0, .string ⟨#[]⟩, .bool false, .int .i64 0, .int .i64 0, .int .i64 x0p] 62))
 have ht2 := (Turns.of_below (S := only a) (((Below.refl w.heap.size w).alloc (Nat.le_refl _) (.cells #[.slice none 0 0, .string ⟨#[]⟩, .bool false, .int .i64 0, .int .i64 0, .int .i64 0] 62)).trans (hw1.mono (by simp)))).alloc (.cells #[.slice none 0 0, .string ⟨#[]⟩, .bool false, .int .i64 0, .int .i64 0, .int .i64 x0p] 62)
 have hs2 : w1.heap.size + 1 ≤ (w1.alloc (.cells #[.slice none 0 0, .string ⟨#[]⟩, .bool false, .int .i64 0, .int .i64 0, .int .i64 x0p] 62)).heap.size := by simp
 generalize hDD : w1.heap.size = D at D1 hs1 hs2 ⊢
 clear hDD
 generalize w1.alloc (.cells #[.slice none 0 0, .string ⟨#[]⟩, .bool false, .int .i64 0, .int .i64 0, .int .i64 x0p] 62) = w2 at D1 hA2 h2 ht2 hs2 ⊢
 clear h1 hA1 hw1 hW h
 have hDa : D ≠ a := by omega
 have hAa : w.heap.size ≠ a := Nat.ne_of_gt ha
 go_cut [] from 14 to 46 (fun wx => ∃ (m : Nat) (sv : Value) (ys : List Value) (acc : List Pt), RfAt w0 wx a wv m (-1) ∧ Turns (only a) w wx ∧ wx.heap[D]? = some (.cells #[sv, .string ⟨#[]⟩, .bool false, .int .i64 0, .int .i64 0, .int .i64 x0p] 62 (0, 0)) ∧ wx.heap[w.heap.size]? = some (.cells #[.slice none 0 0, .string ⟨#[]⟩, .bool false, .int .i64 0, .int .i64 0, .int .i64 0] 62 (0, 0)) ∧ D + 1 ≤ wx.heap.size ∧ GrowL (D + 1) 67 6 ptR (fun _ => False) wx sv ys acc ∧ Hid (rdParts (L.drop n) = (acc, L.drop m)) ∧ m < L.length ∧ n ≤ m ∧ acc.length ≤ 100000)
 case first =>
  go_wp2_with fail
  go_loopg [] L.length (fun gg V => ∃ (m : Nat) (sv : Value) (ys : List Value) (acc : List Pt), L.length ≤ m + gg ∧ RfAt w0 V a wv m (-1) ∧ Turns (only a) w V ∧ V.heap[D]? = some (.cells #[sv, .string ⟨#[]⟩, .bool false, .int .i64 0, .int .i64 0, .int .i64 x0p] 62 (0, 0)) ∧ V.heap[w.heap.size]? = some (.cells #[.slice none 0 0, .string ⟨#[]⟩, .bool false, .int .i64 0, .int .i64 0, .int .i64 0] 62 (0, 0)) ∧ D + 1 ≤ V.heap.size ∧ GrowL (D + 1) 67 6 ptR (fun _ => False) V sv ys acc ∧ Hid (PartsTo L n acc m) ∧ m < L.length ∧ n ≤ m ∧ acc.length ≤ m)
  case atStart => exact ⟨n, _, [], [], by omega, h2, ht2, D1, hA2, hs2, GrowL.nil _ _ _ _ _, Lib.hid (PartsTo.none _ _), hn, Nat.le_refl _, Nat.zero_le _⟩
  case round =>
   clear h2 ht2 D1 hA2 hs2
   obtain ⟨m, sv, ys, acc, hgg, hR, hT, hD, hA, hDs, hg, HX, hm, hnm, hal⟩ := hrel
   rename World => V
   have hBg := Lib.hid (fun (X : World) (hX : RfAt w0 X a wv m (-1)) => begins_any7 HI.out hX hm)
   have hNw := Lib.hid (fun (X : World) (hX : RfAt w0 X a wv m (-1)) => now_any HI.out hX hm)
   have hTk := Lib.hid (fun (X : World) (hX : RfAt w0 X a wv m (-1)) => rtake_any HI.out hX hm 8 ⟨#[]⟩)
   have hSy := Lib.hid (fun (X : World) (hX : RfAt w0 X a wv m (-1)) => symbol_any HI.out hX hm)
   have HGo : Hid (goesB2 L m = true → PartsTo L n (acc ++ [ptOf (wAt L m)]) (m + 1)) := Lib.hid (fun e => HX.out.next hm e)
   have HSt : Hid (goesB2 L m = false → rdParts (L.drop n) = (acc, L.drop m)) := Lib.hid (fun e => HX.out.stop hm e)
   have hG : goesB2 L m = ((symB2 (wAt L m) && !beginsB (L.drop m)) || decide ((wAt L m).kind = 8)) := rfl
   have hS2 : symB2 (wAt L m) = true → (wAt L m).kind = 1 ∨ (wAt L m).kind = 2 := fun e => by unfold symB2 at e; simpa using e
   have hBK : beginsB (L.drop m) = true → (wAt L m).kind = 1 := fun e => by unfold beginsB at e; simp only [decide_eq_true_eq] at e; exact e.1
   have HNx : Hid ((wAt L m).kind ≠ 10 → m + 1 < L.length) := Lib.hid (fun e => HI.out.ok.next hm e)
   have hPt : ptOf (wAt L m) = if (wAt L m).kind = 8 then ⟨noSm, (wAt L m).text, (wAt L m).place⟩ else ⟨smOf (wAt L m) 0, ByteArray.empty, (wAt L m).place⟩ := rfl
   clear HX
   unfold begB3 at hBg
   unfold Wd.agg8 at hNw
   unfold SymGo smOf Sm.agg at hSy
   simp only [symB3_open] at hSy
   rw [isB_open] at hTk
   unfold smOf at hPt
   simp only [show decide ((-1 : Int) < 0) = true from by decide, Bool.true_and] at hBg
   generalize ptOf (wAt L m) = X at hPt HGo
   generalize symB2 (wAt L m) = sb at hSy hG hS2
   generalize beginsB (L.drop m) = bb at hBg hG hBK
   generalize goesB2 L m = gb at HGo HSt hG
   generalize wAt L m = y at hNw hTk hSy hPt HNx hG hS2 hBK
   obtain ⟨yk, yt, yp⟩ := y
   simp only at hNw hTk hSy hPt HNx hG hS2 hBK
   cases bb with
   | true =>
     have hk1 := hBK rfl
     have HE := Lib.hid (HSt.out (by rw [hG]; simp [hk1]))
     clear hG hS2 hBK hPt hk1
     go_wp2_with (first | (go_at_call 60; (with_reducible refine (hBg.out _ hR).mono ?_); rintro e V1 ⟨rfl, hv⟩))
     replace hR := hR.ahead hv
     replace hT := hT.far (hv.mono hT.size)
     replace hD := block_below hD hv (by omega)
     replace hA := block_below hA hv (by omega)
     replace hg := hg.below hv
     replace hDs := Nat.le_trans hDs hv.size
     go_meet
     case rel => exact ⟨m, sv, ys, acc, hR, hT, hD, hA, hDs, hg, HE, hm, hnm, by omega⟩
   | false =>
     clear hBK
     go_upto_region 3 with (first | (go_at_call 60; (with_reducible refine (hBg.out _ hR).mono ?_); rintro e V1 ⟨rfl, hv⟩))
     replace hR := hR.ahead hv
     replace hT := hT.far (hv.mono hT.size)
     replace hD := block_below hD hv (by omega)
     replace hA := block_below hA hv (by omega)
     replace hg := hg.below hv
     replace hDs := Nat.le_trans hDs hv.size
     clear hv hBg
     have hNw1 := Lib.hid (hNw.out _ hR)
     have HDV := Lib.hid hDs
     go_upto_region 4 with (first | (go_at_call 56; (with_reducible refine hNw1.out.mono ?_); rintro e V2 ⟨rfl, hw2⟩))
     have hv := hw2.alloc hw2.size (.cells #[.int .i64 yk, .string yt, .int .i64 yp] 42)
     have hN := heap_made V2 #[.int .i64 yk, .string yt, .int .i64 yp] 42 _ rfl
     replace hR := hR.ahead hv
     replace hT := hT.far (hv.mono hT.size)
     replace hD := block_below hD hv (by omega)
     replace hA := block_below hA hv (by omega)
     replace hg := hg.below hv
     replace hDs := Nat.le_trans hDs hv.size
     have hNs : V2.heap.size < (V2.alloc (.cells #[.int .i64 yk, .string yt, .int .i64 yp] 42)).heap.size := by simp
     have hNv : D < V2.heap.size := by have := hw2.size; have := HDV.out; omega
     clear hv hw2 hNw1
     generalize hNN : V2.heap.size = NN at hN hNs hNv ⊢
     clear hNN
     generalize V2.alloc (.cells #[.int .i64 yk, .string yt, .int .i64 yp] 42) = V3 at hR hT hD hA hg hDs hN hNs ⊢
     have hNa : NN ≠ a := by omega
     have hTk1 := Lib.hid (hTk.out _ hR)
     by_cases hk8 : yk = 8
     · have HE := Lib.hid (HGo.out (by rw [hG]; simp [hk8]))
       have hm1 := HNx.out (by omega)
       rw [if_pos hk8] at hPt
       have hd8 : decide (yk = 8) = true := by simp [hk8]
       rw [hd8, if_pos rfl] at hTk1
       clear hG hS2 hk8 hd8
       subst hPt
       unfold noSm at HE
       go_upto_region 5 with (first | (go_at_call 57; (with_reducible refine hTk1.out.mono ?_); rintro e V4 ⟨rfl, h4, ht4⟩))
       have D9 := ht4.heap hD (show ¬ only a D from hDa)
       have A9 := ht4.heap hA (show ¬ only a w.heap.size from hAa)
       have g9 := hg.keep (w' := V4) (fun b hb => by rcases hb with hb | hb; exact hb.elim; exact ht4.block b (hg.own.lt b hb).2 (fun e => by have := own_base hg.own (Nat.le_refl _) b hb; unfold only at e; omega))
       have T9 := hT.trans ht4 (fun _ _ h => h)
       have S9 := Nat.le_trans hDs ht4.size
       have N4 := ht4.heap hN (show ¬ only a NN from hNa)
       clear hR hT hD hA hg hDs hN ht4 hTk1
       have hR := h4
       have hT := T9
       have hD := D9
       have hA := A9
       have hg := g9
       have hDs := S9
       clear h4 T9 D9 A9 g9 S9
       obtain ⟨n0, n1, n2, _⟩ := box3 N4
       have hown := hg.own
       have hob := fun g (h : sv.ownBlock = some g) => own_base hown (Nat.le_refl _) g h
       have hne : some D ≠ sv.ownBlock := fun h => by have := hob D h.symm; omega
       have d0 : V4.cell? ⟨D, 0, none⟩ = some sv := cell_of_row _ _ 0 _ _ _ hD
       have a0 := rdCell_alloc d0 (.cells #[.string ⟨#[]⟩, .bool false, .int .i64 0, .int .i64 0, .string yt, .int .i64 yp] 67)
       have fr0 := free_of_block (j := 0) (heap_keep _ (.cells #[.string ⟨#[]⟩, .bool false, .int .i64 0, .int .i64 0, .string yt, .int .i64 yp] 67) hD)
       obtain ⟨i0, hi, iz0, iz1, iz2⟩ := rd_info rdInfoPart
       have HH := Lib.hid (And.intro hR (And.intro hT (And.intro hD (And.intro hA (And.intro hg hDs)))))
       clear hR hT hA hD
       go_wp2_with (first | (refine wpList_append_lies _ (by rfl) _ _ _ (by rfl) (D + 1) 67 i0 (.agg #[.string ByteArray.empty, .bool false, .int .i64 0, .int .i64 0, .string ByteArray.empty, .int .i64 0]) 6 64 Tryz.underlying58 hi iz0 iz1 iz2 rfl (by omega) sv acc.length ys (by rfl) (hown.alloc _) ⟨V4.heap.size, 0, none⟩ 1 1 [.string ⟨#[]⟩, .bool false, .int .i64 0, .int .i64 0, .string yt, .int .i64 yp] (by rfl) (by rfl) (rd_news V4 _ _) (by simp [Value.oneCell']) (by omega) (by unfold maxLen; omega) (by omega) (by simp; omega) (V4.heap.size + 1) (by simp) ?_; intro gg2 cap w9 hown9 hgrow9 hat hlt9; have f9 : w9.cell? ⟨D, 0, none⟩ = some sv := hgrow9.cell a0 hne; have r9 := (hgrow9.frozen_far ⟨D, 0, none⟩ (show D < (V4.alloc _).heap.size from by simp; omega) hne).trans fr0))
       obtain ⟨hR, hT, hD0, hA, hg0, hDs0⟩ := HH.out
       have k9 := (Below.refl V4.heap.size V4).alloc (Nat.le_refl _) (.cells #[.string ⟨#[]⟩, .bool false, .int .i64 0, .int .i64 0, .string yt, .int .i64 yp] 67)
       have hpu := (hg0.below k9).box0 (j := 0) (x := (⟨⟨⟨#[]⟩, false, 0, 0⟩, yt, yp⟩ : Pt)) (cs := [.string ⟨#[]⟩, .bool false, .int .i64 0, .int .i64 0, .string yt, .int .i64 yp]) (Below.refl _ _) hown9 hgrow9 (own_new hat (by simp)) rfl (fun X => show ptR X _ ⟨⟨⟨#[]⟩, false, 0, 0⟩, yt, yp⟩ from rfl) (Nat.lt_succ_self D) (heap_keep _ _ hD0)
       have hq := hpu.2.2.1 w.heap.size (by omega)
       have hqD := hpu.2.2.1 D (Nat.le_refl _)
       have hR9 := (hR.ahead k9).far hq ha hlt
       have hT9 := (hT.far (k9.mono hT.size)).far hq
       have hA9 := (hqD.block w.heap.size hs1).trans (heap_keep _ _ hA)
       have hs9 : D + 1 ≤ (w9.setCell ⟨D, 0, none⟩ (.slice (some ⟨gg2, 0, none⟩) (acc.length + 1) cap)).heap.size := by have := hqD.size; simp at this ⊢; omega
       clear hg hDs d0 a0 fr0 f9 r9 hR hT hD0 hA hg0 hDs0 k9 hq hqD hown hown9 hgrow9 hob hne HH
       go_roundg (L.length - (m + 1))
       case rel => exact ⟨m + 1, _, _, _, by omega, hR9, hT9, hpu.2.1, hA9, hs9, hpu.1, HE, hm1, by omega, by simp; omega⟩
       case measure => omega
     · rw [if_neg hk8] at hPt
       have hd8 : decide (yk = 8) = false := by simp [hk8]
       rw [hd8, if_neg (by decide)] at hTk1
       go_upto_region 6 with (first | (go_at_call 57; (with_reducible refine hTk1.out.mono ?_); rintro e V4 ⟨rfl, h4, ht4⟩))
       have D9 := ht4.heap hD (show ¬ only a D from hDa)
       have A9 := ht4.heap hA (show ¬ only a w.heap.size from hAa)
       have g9 := hg.keep (w' := V4) (fun b hb => by rcases hb with hb | hb; exact hb.elim; exact ht4.block b (hg.own.lt b hb).2 (fun e => by have := own_base hg.own (Nat.le_refl _) b hb; unfold only at e; omega))
       have T9 := hT.trans ht4 (fun _ _ h => h)
       have S9 := Nat.le_trans hDs ht4.size
       have N4 := ht4.heap hN (show ¬ only a NN from hNa)
       have s4 := ht4.size
       clear hR hT hD hA hg hDs hN ht4 hTk1
       have hR := h4
       have hT := T9
       have hD := D9
       have hA := A9
       have hg := g9
       have hDs := S9
       clear h4 T9 D9 A9 g9 S9
       have hSy1 := Lib.hid (hSy.out _ hR)
       cases sb with
       | true =>
         have HE := Lib.hid (HGo.out (by rw [hG]; simp))
         have hm1 := HNx.out (by have := hS2 rfl; omega)
         clear hG hS2 hk8 hd8
         subst hPt
         generalize decide (yk = 2) = B at hSy1 HE
         go_upto_region 7 with (first | (go_at_call 90; (with_reducible refine hSy1.out.mono ?_); rintro e V5 hpost; rcases hpost with ⟨hsb, rfl, h5, ht5⟩ | ⟨hsb, rfl, h5, ht5⟩))
         rotate_left 1
         · cases hsb
         have D9 := ht5.heap hD (show ¬ only a D from hDa)
         have A9 := ht5.heap hA (show ¬ only a w.heap.size from hAa)
         have g9 := hg.keep (w' := V5) (fun b hb => by rcases hb with hb | hb; exact hb.elim; exact ht5.block b (hg.own.lt b hb).2 (fun e => by have := own_base hg.own (Nat.le_refl _) b hb; unfold only at e; omega))
         have T9 := hT.trans ht5 (fun _ _ h => h)
         have S9 := Nat.le_trans hDs ht5.size
         have N5 := ht5.heap N4 (show ¬ only a NN from hNa)
         have s5 := ht5.size
         clear hR hT hD hA hg hDs N4 ht5 hSy1 hsb
         have hR := h5
         have hT := T9
         have hD := D9
         have hA := A9
         have hg := g9
         have hDs := S9
         clear h5 T9 D9 A9 g9 S9
         have hv := (Below.refl V5.heap.size V5).alloc (Nat.le_refl _) (.cells #[.string yt, .bool B, .int .i64 0, .int .i64 yp] 60)
         have hX := heap_made V5 #[.string yt, .bool B, .int .i64 0, .int .i64 yp] 60 _ rfl
         replace hR := hR.ahead hv
         replace hT := hT.far (hv.mono hT.size)
         replace hD := block_below hD hv (by omega)
         replace hA := block_below hA hv (by omega)
         replace hg := hg.below hv
         replace hDs := Nat.le_trans hDs hv.size
         have N6 := block_below N5 hv (by omega)
         have hXs : V5.heap.size < (V5.alloc (.cells #[.string yt, .bool B, .int .i64 0, .int .i64 yp] 60)).heap.size := by simp
         clear hv N5
         generalize hXX : V5.heap.size = XX at hX hXs s5 ⊢
         clear hXX
         generalize V5.alloc (.cells #[.string yt, .bool B, .int .i64 0, .int .i64 yp] 60) = V6 at hR hT hD hA hg hDs hX N6 hXs ⊢
         obtain ⟨n0, n1, n2, _⟩ := box3 N6
         obtain ⟨x0, x1, x2, x3, _⟩ := box4 hX
         have hown := hg.own
         have hob := fun g (h : sv.ownBlock = some g) => own_base hown (Nat.le_refl _) g h
         have hne : some D ≠ sv.ownBlock := fun h => by have := hob D h.symm; omega
         have d0 : V6.cell? ⟨D, 0, none⟩ = some sv := cell_of_row _ _ 0 _ _ _ hD
         have a0 := rdCell_alloc d0 (.cells #[.string yt, .bool B, .int .i64 0, .int .i64 yp, .string ⟨#[]⟩, .int .i64 yp] 67)
         have fr0 := free_of_block (j := 0) (heap_keep _ (.cells #[.string yt, .bool B, .int .i64 0, .int .i64 yp, .string ⟨#[]⟩, .int .i64 yp] 67) hD)
         obtain ⟨i0, hi, iz0, iz1, iz2⟩ := rd_info rdInfoPart
         have HH := Lib.hid (And.intro hR (And.intro hT (And.intro hD (And.intro hA (And.intro hg hDs)))))
         clear hR hT hA hD
         go_wp2_with (first | (refine wpList_append_lies _ (by rfl) _ _ _ (by rfl) (D + 1) 67 i0 (.agg #[.string ByteArray.empty, .bool false, .int .i64 0, .int .i64 0, .string ByteArray.empty, .int .i64 0]) 6 64 Tryz.underlying58 hi iz0 iz1 iz2 rfl (by omega) sv acc.length ys (by rfl) (hown.alloc _) ⟨V6.heap.size, 0, none⟩ 1 1 [.string yt, .bool B, .int .i64 0, .int .i64 yp, .string ⟨#[]⟩, .int .i64 yp] (by rfl) (by rfl) (rd_news V6 _ _) (by simp [Value.oneCell']) (by omega) (by unfold maxLen; omega) (by omega) (by simp; omega) (V6.heap.size + 1) (by simp) ?_; intro gg2 cap w9 hown9 hgrow9 hat hlt9; have f9 : w9.cell? ⟨D, 0, none⟩ = some sv := hgrow9.cell a0 hne; have r9 := (hgrow9.frozen_far ⟨D, 0, none⟩ (show D < (V6.alloc _).heap.size from by simp; omega) hne).trans fr0))
         obtain ⟨hR, hT, hD0, hA, hg0, hDs0⟩ := HH.out
         have k9 := (Below.refl V6.heap.size V6).alloc (Nat.le_refl _) (.cells #[.string yt, .bool B, .int .i64 0, .int .i64 yp, .string ⟨#[]⟩, .int .i64 yp] 67)
         have hpu := (hg0.below k9).box0 (j := 0) (x := (⟨⟨yt, B, 0, yp⟩, ⟨#[]⟩, yp⟩ : Pt)) (cs := [.string yt, .bool B, .int .i64 0, .int .i64 yp, .string ⟨#[]⟩, .int .i64 yp]) (Below.refl _ _) hown9 hgrow9 (own_new hat (by simp)) rfl (fun X => show ptR X _ ⟨⟨yt, B, 0, yp⟩, ⟨#[]⟩, yp⟩ from rfl) (Nat.lt_succ_self D) (heap_keep _ _ hD0)
         have hq := hpu.2.2.1 w.heap.size (by omega)
         have hqD := hpu.2.2.1 D (Nat.le_refl _)
         have hR9 := (hR.ahead k9).far hq ha hlt
         have hT9 := (hT.far (k9.mono hT.size)).far hq
         have hA9 := (hqD.block w.heap.size hs1).trans (heap_keep _ _ hA)
         have hs9 : D + 1 ≤ (w9.setCell ⟨D, 0, none⟩ (.slice (some ⟨gg2, 0, none⟩) (acc.length + 1) cap)).heap.size := by have := hqD.size; simp at this ⊢; omega
         clear hg hDs d0 a0 fr0 f9 r9 hR hT hD0 hA hg0 hDs0 k9 hq hqD hown hown9 hgrow9 hob hne HH
         go_roundg (L.length - (m + 1))
         case rel => exact ⟨m + 1, _, _, _, by omega, hR9, hT9, hpu.2.1, hA9, hs9, hpu.1, HE, hm1, by omega, by simp; omega⟩
         case measure => omega
       | false =>
         have HE := Lib.hid (HSt.out (by rw [hG]; simp [hk8]))
         clear hG hS2 hk8 hd8 hPt
         go_wp2_with (first | (go_at_call 90; (with_reducible refine hSy1.out.mono ?_); rintro e V5 hpost; rcases hpost with ⟨hsb, rfl, h5, ht5⟩ | ⟨hsb, rfl, h5, ht5⟩))
         · cases hsb
         have D9 := ht5.heap hD (show ¬ only a D from hDa)
         have A9 := ht5.heap hA (show ¬ only a w.heap.size from hAa)
         have g9 := hg.keep (w' := V5) (fun b hb => by rcases hb with hb | hb; exact hb.elim; exact ht5.block b (hg.own.lt b hb).2 (fun e => by have := own_base hg.own (Nat.le_refl _) b hb; unfold only at e; omega))
         have T9 := hT.trans ht5 (fun _ _ h => h)
         have S9 := Nat.le_trans hDs ht5.size
         have hv := (Below.refl V5.heap.size V5).alloc (Nat.le_refl _) (.cells #[.string ⟨#[]⟩, .bool false, .int .i64 0, .int .i64 0] 60 : Obj)
         have s5 := ht5.size
         go_meet
         case rel => exact ⟨m, sv, ys, acc, h5.ahead hv, T9.far (hv.mono T9.size), block_below D9 hv (by omega), block_below A9 hv (by omega), by have := hv.size; omega, g9.below hv, HE, hm, hnm, by omega⟩
 case rest =>
  obtain ⟨m, sv, ys, acc, hR, hT, hD, hA, hDs, hg, HE, hm, hnm, hal⟩ := hcut
  rename World => V
  obtain ⟨sa, sc, rfl⟩ := rd_slice hg.own
  have HFm := Lib.hid (hg.firm (by omega))
  have HSb : Hid (∀ b, (False ∨ (Value.slice sa acc.length sc).ownBlock = some b) → D + 1 ≤ b) := Lib.hid (fun b hb => hb.elim (fun h => h.elim) (fun h => own_base hg.own (Nat.le_refl _) b h))
  have HP2 : Hid (RES = altEnd acc x0p (L.drop m)) := Lib.hid (by rw [HP.out, HE.out])
  have HA0 : Hid (precB (wAt L m) = false → RES = .ok ⟨acc, noSm, x0p⟩ (L.drop m)) := Lib.hid (fun e => HP2.out.trans (alt_none e))
  have HA1 : Hid (precB (wAt L m) = true → symB2 (wAt L (m + 1)) = false → RES = .bad (L.drop (m + 1))) := Lib.hid (fun e e2 => HP2.out.trans (alt_bad e e2))
  have HA2 : Hid (precB (wAt L m) = true → symB2 (wAt L (m + 1)) = true → (wAt L (m + 2)).kind ≠ 8 → RES = .ok ⟨acc, smOf (wAt L (m + 1)) 0, x0p⟩ (L.drop (m + 2))) := Lib.hid (fun e e2 e3 => HP2.out.trans (alt_sym e e2 e3))
  have HA3 : Hid (precB (wAt L m) = true → symB2 (wAt L (m + 1)) = true → (wAt L (m + 2)).kind = 8 → RES = .ok ⟨acc ++ [ptOf (wAt L (m + 2))], smOf (wAt L (m + 1)) 0, x0p⟩ (L.drop (m + 3))) := Lib.hid (fun e e2 e3 => HP2.out.trans (alt_code e e2 e3))
  have HNx : Hid (precB (wAt L m) = true → m + 1 < L.length) := Lib.hid (fun e => HI.out.ok.next hm (by unfold precB at e; simp only [decide_eq_true_eq] at e; omega))
  have hTk := Lib.hid (rtake_any HI.out hR hm 5 ⟨#[37, 112, 114, 101, 99]⟩)
  rw [isB_prec] at hTk
  clear HP HE HP2
  generalize precB (wAt L m) = pb at hTk HA0 HA1 HA2 HA3 HNx
  cases pb with
  | false =>
    have HF := Lib.hid (HA0.out rfl)
    clear HA0 HA1 HA2 HA3 HNx hg
    rw [if_neg (by decide)] at hTk
    go_upto_region 17 with (first | (go_at_call 57; (with_reducible refine hTk.out.mono ?_); rintro e V1 ⟨rfl, h1, ht1⟩))
    have D9 := ht1.heap hD (show ¬ only a D from hDa)
    have A9 := ht1.heap hA (show ¬ only a w.heap.size from hAa)
    have T9 := hT.trans ht1 (fun _ _ h => h)
    have S9 := Nat.le_trans hDs ht1.size
    replace HFm := Lib.hid (HFm.out.keep (w' := V1) (fun b hb => ht1.block b (HFm.out.1 b hb) (fun e => by have := HSb.out b hb; unfold only at e; omega)))
    clear hR hT hD hA hDs ht1
    have hR := h1
    have hT := T9
    have hD := D9
    have hA := A9
    have hDs := S9
    clear h1 T9 D9 A9 S9
    obtain ⟨d0, d1, d2, d3, d4, d5, e0, e1, e2, e3, e4, e5⟩ := box6 hD
    obtain ⟨a0, a1, a2, a3, a4, a5, g0, g1, g2, g3, g4, g5⟩ := box6 hA
    have HR := Lib.hid (And.intro hR hT)
    clear hR hT
    go_wp2_with fail
    obtain ⟨hR, hT⟩ := HR.out
    have hRR := set6_row8 hA (.slice sa acc.length sc) (.string ⟨#[]⟩) (.bool false) (.int .i64 0) (.int .i64 0) (.int .i64 x0p)
    exact bodyPost_ret (v := .agg #[.slice sa acc.length sc, .string ⟨#[]⟩, .bool false, .int .i64 0, .int .i64 0, .int .i64 x0p]) (results_cell_row rfl _ _ w.heap.size 62 #[.slice sa acc.length sc, .string ⟨#[]⟩, .bool false, .int .i64 0, .int .i64 0, .int .i64 x0p] (0, 0) _ rfl hRR Tryz.underlying62 rfl altInfo8) rfl
     ⟨⟨acc, ⟨⟨#[]⟩, false, 0, 0⟩, x0p⟩, m, (-1), sa, acc.length, sc, _, rfl, HFm.out.keep (fun b hb => by
      have hb1 := HSb.out b hb
      have hb2 : b ≠ w.heap.size := by omega
      exact (Below.heap_setCell _ _ _ _ hb2).trans ((Below.heap_setCell _ _ _ _ hb2).trans ((Below.heap_setCell _ _ _ _ hb2).trans ((Below.heap_setCell _ _ _ _ hb2).trans ((Below.heap_setCell _ _ _ _ hb2).trans (Below.heap_setCell _ _ _ _ hb2)))))), fun b hb => by have := HSb.out b hb; omega, hm, hR.aside6 hAa hlt _ _ _ _ _ _, hT.set6 (.inr (Nat.le_refl _)) _ _ _ _ _ _, .inl ⟨rfl, hnm, HF.out⟩⟩
  | true =>
    have hm1 := HNx.out rfl
    rw [if_pos rfl] at hTk
    clear HA0 HNx
    have HSy := Lib.hid (fun (X : World) (hX : RfAt w0 X a wv (m + 1) (-1)) => symbol_any HI.out hX hm1)
    have HFl := Lib.hid (fun (X : World) (hX : RfAt w0 X a wv (m + 1) (-1)) => fail_any HI.out hX hm1 (.inl rfl))
    have HPl := Lib.hid (HI.out.ok.place _ (wAt_mem hm1))
    have hz2 : symB2 (wAt L (m + 1)) = true → (wAt L (m + 1)).kind = 1 ∨ (wAt L (m + 1)).kind = 2 := fun e => by unfold symB2 at e; simpa using e
    have HN2 : Hid (symB2 (wAt L (m + 1)) = true → m + 2 < L.length) := Lib.hid (fun e => HI.out.ok.next hm1 (by have := hz2 e; omega))
    have HWb : Hid ((hdW (L.drop (m + 1))).place = (wAt L (m + 1)).place) := Lib.hid rfl
    have HNw1 := Lib.hid (fun (b : Int) (X : World) (hX : RfAt w0 X a wv (m + 1) b) => now_any HI.out hX hm1)
    have HTk1 := Lib.hid (fun (b : Int) (hb : 0 ≤ b) (X : World) (hX : RfAt w0 X a wv (m + 1) b) => rtake_any HI.out hX hm1 8 ⟨#[]⟩)
    clear hz2
    rw [badOr_open] at HFl
    unfold SymGo at HSy
    simp only [symB3_open] at HSy
    unfold smOf at HSy HA2 HA3
    unfold Sm.agg at HSy
    unfold Wd.agg8 at HNw1
    generalize symB2 (wAt L (m + 1)) = sb at HSy HA1 HA2 HA3 HN2
    go_upto_region 10 with (first | (go_at_call 57; (with_reducible refine hTk.out.mono ?_); rintro e V1 ⟨rfl, h1, ht1⟩))
    have D9 := ht1.heap hD (show ¬ only a D from hDa)
    have A9 := ht1.heap hA (show ¬ only a w.heap.size from hAa)
    have T9 := hT.trans ht1 (fun _ _ h => h)
    have S9 := Nat.le_trans hDs ht1.size
    replace HFm := Lib.hid (HFm.out.keep (w' := V1) (fun b hb => ht1.block b (HFm.out.1 b hb) (fun e => by have := HSb.out b hb; unfold only at e; omega)))
    have g1 := hg.keep (w' := V1) (fun b hb => ht1.block b (hg.lt b hb) (fun e => by have := HSb.out b hb; unfold only at e; omega))
    clear hR hT hD hA hDs ht1 hg hTk
    have hR := h1
    have hT := T9
    have hD := D9
    have hA := A9
    have hDs := S9
    clear h1 T9 D9 A9 S9
    have HSy1 := Lib.hid (HSy.out _ hR)
    cases sb with
    | false =>
      have HF := Lib.hid (HA1.out (by simp) (by simp))
      clear HA1 HA2 HA3 HN2 g1 HSy
      have HT8 := Lib.hid (fun (X : World) (hX : RfAt w0 X a wv (m + 1) (wAt L (m + 1)).place) => HTk1.out _ HPl.out.1 X hX)
      simp only [isB_shut HPl.out.1] at HT8
      simp only [Bool.false_eq_true, if_false] at HT8
      have HNw2 := Lib.hid (fun (X : World) (hX : RfAt w0 X a wv (m + 1) (wAt L (m + 1)).place) => HNw1.out _ X hX)
      clear HTk1 HNw1
      generalize wAt L (m + 1) = z at HFl HPl HWb HT8 HNw2 HSy1
      obtain ⟨uk, ut, up⟩ := z
      simp only at HFl HPl HWb HT8 HNw2 HSy1
      go_upto_region 12 with (first | (go_at_call 90; (with_reducible refine HSy1.out.mono ?_); rintro e V5 hpost; rcases hpost with ⟨hsb, rfl, h5, ht5⟩ | ⟨hsb, rfl, h5, ht5⟩))
      · cases hsb
      have D9 := ht5.heap hD (show ¬ only a D from hDa)
      have A9 := ht5.heap hA (show ¬ only a w.heap.size from hAa)
      have T9 := hT.trans ht5 (fun _ _ h => h)
      have S9 := Nat.le_trans hDs ht5.size
      replace HFm := Lib.hid (HFm.out.keep (w' := V5) (fun b hb => ht5.block b (HFm.out.1 b hb) (fun e => by have := HSb.out b hb; unfold only at e; omega)))
      clear hR hT hD hA hDs ht5 hsb HSy1
      have hR := h5
      have hT := T9
      have hD := D9
      have hA := A9
      have hDs := S9
      clear h5 T9 D9 A9 S9
      have hv := (Below.refl V5.heap.size V5).alloc (Nat.le_refl _) (.cells #[.string ⟨#[]⟩, .bool false, .int .i64 0, .int .i64 0] 60 : Obj)
      have hX := heap_made V5 #[.string ⟨#[]⟩, .bool false, .int .i64 0, .int .i64 0] 60 _ rfl
      have hXs : V5.heap.size < (V5.alloc (.cells #[.string ⟨#[]⟩, .bool false, .int .i64 0, .int .i64 0] 60 : Obj)).heap.size := by simp
      have hXD : D < V5.heap.size := by omega
      replace hR := hR.ahead hv
      replace hT := hT.far (hv.mono hT.size)
      replace hD := block_below hD hv (by omega)
      replace hA := block_below hA hv (by omega)
      replace HFm := Lib.hid (HFm.out.below hv)
      replace hDs := Nat.le_trans hDs hv.size
      clear hv
      generalize hXX : V5.heap.size = XX at hX hXs hXD ⊢
      clear hXX
      generalize V5.alloc (.cells #[.string ⟨#[]⟩, .bool false, .int .i64 0, .int .i64 0] 60 : Obj) = V6 at hR hT hD hA HFm hDs hX hXs ⊢
      have hXa : XX ≠ a := by omega
      have HFl6 := Lib.hid (HFl.out _ hR)
      go_upto_region 13 with (first | (go_at_call 59; (with_reducible refine HFl6.out.mono ?_); rintro e V7 ⟨rfl, h7, ht7⟩))
      have D9 := ht7.heap hD (show ¬ only a D from hDa)
      have A9 := ht7.heap hA (show ¬ only a w.heap.size from hAa)
      have T9 := hT.trans ht7 (fun _ _ h => h)
      have S9 := Nat.le_trans hDs ht7.size
      replace HFm := Lib.hid (HFm.out.keep (w' := V7) (fun b hb => ht7.block b (HFm.out.1 b hb) (fun e => by have := HSb.out b hb; unfold only at e; omega)))
      have X7 := ht7.heap hX (show ¬ only a XX from hXa)
      clear hR hT hD hA hDs ht7 hX HFl6 HFl
      have hR := h7
      have hT := T9
      have hD := D9
      have hA := A9
      have hDs := S9
      clear h7 T9 D9 A9 S9
      obtain ⟨x0, x1, x2, x3, _⟩ := box4 X7
      obtain ⟨d0, d1, d2, d3, d4, d5, e0, e1, e2, e3, e4, e5⟩ := box6 hD
      go_upto_region 14 with fail
      clear d0 d1 d2 d3 d4 d5 e0 e1 e2 e3 e4 e5 x0 x1 x2 x3 X7
      have hD9 := block_setCell (j := 4) (u := .int .i64 0) (block_setCell (j := 3) (u := .int .i64 0) (block_setCell (j := 2) (u := .bool false) (block_setCell (j := 1) (u := .string ⟨#[]⟩) hD)))
      simp only [Array.setIfInBounds, List.size_toArray, List.length_cons, List.length_nil] at hD9
      have hk9 : ∀ b, b ≠ D → ((((V7.setCell ⟨D, 1, none⟩ (.string ⟨#[]⟩)).setCell ⟨D, 2, none⟩ (.bool false)).setCell ⟨D, 3, none⟩ (.int .i64 0)).setCell ⟨D, 4, none⟩ (.int .i64 0)).heap[b]? = V7.heap[b]? := fun b hb =>
       (Below.heap_setCell _ _ _ _ hb).trans ((Below.heap_setCell _ _ _ _ hb).trans ((Below.heap_setCell _ _ _ _ hb).trans (Below.heap_setCell _ _ _ _ hb)))
      have hA9 := (hk9 w.heap.size (by omega)).trans hA
      have hR9 := (((hR.aside (j := 1) hDa (by omega) (.string ⟨#[]⟩)).aside (j := 2) hDa (by omega) (.bool false)).aside (j := 3) hDa (by omega) (.int .i64 0)).aside (j := 4) hDa (by omega) (.int .i64 0)
      have hT9 := (((hT.setCell (p := ⟨D, 1, none⟩) (.inr (show w.heap.size ≤ D by omega)) (.string ⟨#[]⟩)).setCell (p := ⟨D, 2, none⟩) (.inr (show w.heap.size ≤ D by omega)) (.bool false)).setCell (p := ⟨D, 3, none⟩) (.inr (show w.heap.size ≤ D by omega)) (.int .i64 0)).setCell (p := ⟨D, 4, none⟩) (.inr (show w.heap.size ≤ D by omega)) (.int .i64 0)
      replace HFm := Lib.hid (HFm.out.keep (w' := ((((V7.setCell ⟨D, 1, none⟩ (.string ⟨#[]⟩)).setCell ⟨D, 2, none⟩ (.bool false)).setCell ⟨D, 3, none⟩ (.int .i64 0)).setCell ⟨D, 4, none⟩ (.int .i64 0))) (fun b hb => hk9 b (by have := HSb.out b hb; omega)))
      have hDs9 : D + 1 ≤ ((((V7.setCell ⟨D, 1, none⟩ (.string ⟨#[]⟩)).setCell ⟨D, 2, none⟩ (.bool false)).setCell ⟨D, 3, none⟩ (.int .i64 0)).setCell ⟨D, 4, none⟩ (.int .i64 0)).heap.size := by simp [World.setCell]; omega
      clear hk9 hR hT hD hA hDs
      generalize ((((V7.setCell ⟨D, 1, none⟩ (.string ⟨#[]⟩)).setCell ⟨D, 2, none⟩ (.bool false)).setCell ⟨D, 3, none⟩ (.int .i64 0)).setCell ⟨D, 4, none⟩ (.int .i64 0)) = VP at hD9 hA9 hR9 hT9 HFm hDs9 ⊢
      have hR := hR9
      have hT := hT9
      have hD := hD9
      have hA := hA9
      have hDs := hDs9
      clear hR9 hT9 hD9 hA9 hDs9
      have HNw3 := Lib.hid (HNw2.out _ hR)
      go_upto_region 15 with (first | (go_at_call 56; (with_reducible refine HNw3.out.mono ?_); rintro e V8 ⟨rfl, hw8⟩))
      have hv := hw8.alloc hw8.size (.cells #[.int .i64 uk, .string ut, .int .i64 up] 42)
      replace hR := hR.ahead hv
      replace hT := hT.far (hv.mono hT.size)
      replace hD := block_below hD hv (by omega)
      replace hA := block_below hA hv (by omega)
      replace HFm := Lib.hid (HFm.out.below hv)
      replace hDs := Nat.le_trans hDs hv.size
      clear hv hw8 HNw3
      generalize V8.alloc (.cells #[.int .i64 uk, .string ut, .int .i64 up] 42) = V9 at hR hT hD hA HFm hDs ⊢
      have HT9 := Lib.hid (HT8.out _ hR)
      go_upto_region 17 with (first | (go_at_call 57; (with_reducible refine HT9.out.mono ?_); rintro e V10 ⟨rfl, h10, ht10⟩))
      have D9 := ht10.heap hD (show ¬ only a D from hDa)
      have A9 := ht10.heap hA (show ¬ only a w.heap.size from hAa)
      have T9 := hT.trans ht10 (fun _ _ h => h)
      have S9 := Nat.le_trans hDs ht10.size
      replace HFm := Lib.hid (HFm.out.keep (w' := V10) (fun b hb => ht10.block b (HFm.out.1 b hb) (fun e => by have := HSb.out b hb; unfold only at e; omega)))
      clear hR hT hD hA hDs ht10
      have hR := h10
      have hT := T9
      have hD := D9
      have hA := A9
      have hDs := S9
      clear h10 T9 D9 A9 S9
      obtain ⟨d0, d1, d2, d3, d4, d5, e0, e1, e2, e3, e4, e5⟩ := box6 hD
      obtain ⟨a0, a1, a2, a3, a4, a5, g0, g1, g2, g3, g4, g5⟩ := box6 hA
      have HR := Lib.hid (And.intro hR hT)
      clear hR hT
      go_wp2_with fail
      obtain ⟨hR, hT⟩ := HR.out
      have hRR := set6_row8 hA (.slice sa acc.length sc) (.string ⟨#[]⟩) (.bool false) (.int .i64 0) (.int .i64 0) (.int .i64 x0p)
      exact bodyPost_ret (v := .agg #[.slice sa acc.length sc, .string ⟨#[]⟩, .bool false, .int .i64 0, .int .i64 0, .int .i64 x0p]) (results_cell_row rfl _ _ w.heap.size 62 #[.slice sa acc.length sc, .string ⟨#[]⟩, .bool false, .int .i64 0, .int .i64 0, .int .i64 x0p] (0, 0) _ rfl hRR Tryz.underlying62 rfl altInfo8) rfl
       ⟨⟨acc, ⟨⟨#[]⟩, false, 0, 0⟩, x0p⟩, m + 1, up, sa, acc.length, sc, _, rfl, HFm.out.keep (fun b hb => by
        have hb1 := HSb.out b hb
        have hb2 : b ≠ w.heap.size := by omega
        exact (Below.heap_setCell _ _ _ _ hb2).trans ((Below.heap_setCell _ _ _ _ hb2).trans ((Below.heap_setCell _ _ _ _ hb2).trans ((Below.heap_setCell _ _ _ _ hb2).trans ((Below.heap_setCell _ _ _ _ hb2).trans (Below.heap_setCell _ _ _ _ hb2)))))), fun b hb => by have := HSb.out b hb; omega, hm1, hR.aside6 hAa hlt _ _ _ _ _ _, hT.set6 (.inr (Nat.le_refl _)) _ _ _ _ _ _, .inr ⟨HPl.out.1, HPl.out.2, _, HF.out, HWb.out.symm⟩⟩
    | true =>
      have hm2 := HN2.out rfl
      replace HA2 := Lib.hid (HA2.out (by simp) (by simp))
      replace HA3 := Lib.hid (HA3.out (by simp) (by simp))
      have hg := g1
      clear HA1 HN2 g1 HSy HFl HPl HWb HNw1 HTk1 HFm
      generalize wAt L (m + 1) = z at HSy1 HA2 HA3
      obtain ⟨zk, zt, zp⟩ := z
      simp only at HSy1 HA2 HA3
      generalize decide (zk = 2) = B at HSy1 HA2 HA3
      have HNw := Lib.hid (fun (X : World) (hX : RfAt w0 X a wv (m + 2) (-1)) => now_any HI.out hX hm2)
      have HT8 := Lib.hid (fun (X : World) (hX : RfAt w0 X a wv (m + 2) (-1)) => rtake_any HI.out hX hm2 8 ⟨#[]⟩)
      have HN3 : Hid ((wAt L (m + 2)).kind = 8 → m + 3 < L.length) := Lib.hid (fun e => HI.out.ok.next hm2 (by omega))
      have HPt : Hid ((wAt L (m + 2)).kind = 8 → ptOf (wAt L (m + 2)) = ⟨noSm, (wAt L (m + 2)).text, (wAt L (m + 2)).place⟩) := Lib.hid (fun e => by unfold ptOf; rw [if_pos e])
      rw [isB_open] at HT8
      unfold Wd.agg8 at HNw
      generalize ptOf (wAt L (m + 2)) = PT at HPt HA3
      generalize wAt L (m + 2) = u at HNw HT8 HN3 HPt HA2 HA3
      obtain ⟨uk, ut, up⟩ := u
      simp only at HNw HT8 HN3 HPt HA2 HA3
      go_upto_region 11 with (first | (go_at_call 90; (with_reducible refine HSy1.out.mono ?_); rintro e V5 hpost; rcases hpost with ⟨hsb, rfl, h5, ht5⟩ | ⟨hsb, rfl, h5, ht5⟩))
      rotate_left 1
      · cases hsb
      have D9 := ht5.heap hD (show ¬ only a D from hDa)
      have A9 := ht5.heap hA (show ¬ only a w.heap.size from hAa)
      have g9 := hg.keep (w' := V5) (fun b hb => by rcases hb with hb | hb; exact hb.elim; exact ht5.block b (hg.own.lt b hb).2 (fun e => by have := own_base hg.own (Nat.le_refl _) b hb; unfold only at e; omega))
      have T9 := hT.trans ht5 (fun _ _ h => h)
      have S9 := Nat.le_trans hDs ht5.size
      clear hR hT hD hA hDs hg ht5 hsb HSy1
      have hR := h5
      have hT := T9
      have hD := D9
      have hA := A9
      have hg := g9
      have hDs := S9
      clear h5 T9 D9 A9 g9 S9
      have hv := (Below.refl V5.heap.size V5).alloc (Nat.le_refl _) (.cells #[.string zt, .bool B, .int .i64 0, .int .i64 zp] 60)
      have hX := heap_made V5 #[.string zt, .bool B, .int .i64 0, .int .i64 zp] 60 _ rfl
      have hXs : V5.heap.size < (V5.alloc (.cells #[.string zt, .bool B, .int .i64 0, .int .i64 zp] 60)).heap.size := by simp
      have hXD : D < V5.heap.size := by omega
      replace hR := hR.ahead hv
      replace hT := hT.far (hv.mono hT.size)
      replace hD := block_below hD hv (by omega)
      replace hA := block_below hA hv (by omega)
      replace hg := hg.below hv
      replace hDs := Nat.le_trans hDs hv.size
      clear hv
      generalize hXX : V5.heap.size = XX at hX hXs hXD ⊢
      clear hXX
      generalize V5.alloc (.cells #[.string zt, .bool B, .int .i64 0, .int .i64 zp] 60) = V6 at hR hT hD hA hg hDs hX hXs ⊢
      have hXa : XX ≠ a := by omega
      obtain ⟨x0, x1, x2, x3, _⟩ := box4 hX
      obtain ⟨d0, d1, d2, d3, d4, d5, e0, e1, e2, e3, e4, e5⟩ := box6 hD
      go_upto_region 14 with fail
      clear d0 d1 d2 d3 d4 d5 e0 e1 e2 e3 e4 e5 x0 x1 x2 x3 hX
      have hD9 := block_setCell (j := 4) (u := .int .i64 zp) (block_setCell (j := 3) (u := .int .i64 0) (block_setCell (j := 2) (u := .bool B) (block_setCell (j := 1) (u := .string zt) hD)))
      simp only [Array.setIfInBounds, List.size_toArray, List.length_cons, List.length_nil] at hD9
      have hk9 : ∀ b, b ≠ D → ((((V6.setCell ⟨D, 1, none⟩ (.string zt)).setCell ⟨D, 2, none⟩ (.bool B)).setCell ⟨D, 3, none⟩ (.int .i64 0)).setCell ⟨D, 4, none⟩ (.int .i64 zp)).heap[b]? = V6.heap[b]? := fun b hb =>
       (Below.heap_setCell _ _ _ _ hb).trans ((Below.heap_setCell _ _ _ _ hb).trans ((Below.heap_setCell _ _ _ _ hb).trans (Below.heap_setCell _ _ _ _ hb)))
      have hA9 := (hk9 w.heap.size (by omega)).trans hA
      have hR9 := (((hR.aside (j := 1) hDa (by omega) (.string zt)).aside (j := 2) hDa (by omega) (.bool B)).aside (j := 3) hDa (by omega) (.int .i64 0)).aside (j := 4) hDa (by omega) (.int .i64 zp)
      have hT9 := (((hT.setCell (p := ⟨D, 1, none⟩) (.inr (show w.heap.size ≤ D by omega)) (.string zt)).setCell (p := ⟨D, 2, none⟩) (.inr (show w.heap.size ≤ D by omega)) (.bool B)).setCell (p := ⟨D, 3, none⟩) (.inr (show w.heap.size ≤ D by omega)) (.int .i64 0)).setCell (p := ⟨D, 4, none⟩) (.inr (show w.heap.size ≤ D by omega)) (.int .i64 zp)
      have hDs9 : D + 1 ≤ ((((V6.setCell ⟨D, 1, none⟩ (.string zt)).setCell ⟨D, 2, none⟩ (.bool B)).setCell ⟨D, 3, none⟩ (.int .i64 0)).setCell ⟨D, 4, none⟩ (.int .i64 zp)).heap.size := by simp [World.setCell]; omega
      have hg9 := hg.keep (w' := ((((V6.setCell ⟨D, 1, none⟩ (.string zt)).setCell ⟨D, 2, none⟩ (.bool B)).setCell ⟨D, 3, none⟩ (.int .i64 0)).setCell ⟨D, 4, none⟩ (.int .i64 zp))) (fun b hb => hk9 b (by have := HSb.out b hb; omega))
      clear hg
      clear hk9 hR hT hD hA hDs
      generalize ((((V6.setCell ⟨D, 1, none⟩ (.string zt)).setCell ⟨D, 2, none⟩ (.bool B)).setCell ⟨D, 3, none⟩ (.int .i64 0)).setCell ⟨D, 4, none⟩ (.int .i64 zp)) = VP at hD9 hA9 hR9 hT9 hDs9 hg9 ⊢
      have hR := hR9
      have hT := hT9
      have hD := hD9
      have hA := hA9
      have hDs := hDs9
      clear hR9 hT9 hD9 hA9 hDs9
      have hg := hg9
      clear hg9
      have HNw3 := Lib.hid (HNw.out _ hR)
      go_upto_region 15 with (first | (go_at_call 56; (with_reducible refine HNw3.out.mono ?_); rintro e V8 ⟨rfl, hw8⟩))
      have hv := hw8.alloc hw8.size (.cells #[.int .i64 uk, .string ut, .int .i64 up] 42)
      have hN := heap_made V8 #[.int .i64 uk, .string ut, .int .i64 up] 42 _ rfl
      have hNs : V8.heap.size < (V8.alloc (.cells #[.int .i64 uk, .string ut, .int .i64 up] 42)).heap.size := by simp
      have hND : D < V8.heap.size := by have := hw8.size; omega
      replace hR := hR.ahead hv
      replace hT := hT.far (hv.mono hT.size)
      replace hD := block_below hD hv (by omega)
      replace hA := block_below hA hv (by omega)
      replace hg := hg.below hv
      replace hDs := Nat.le_trans hDs hv.size
      clear hv hw8 HNw3
      generalize hNN : V8.heap.size = NN at hN hNs hND ⊢
      clear hNN
      generalize V8.alloc (.cells #[.int .i64 uk, .string ut, .int .i64 up] 42) = V9 at hR hT hD hA hg hDs hN hNs ⊢
      have hNa : NN ≠ a := by omega
      have HT9 := Lib.hid (HT8.out _ hR)
      by_cases h8 : uk = 8
      · have hm3 := HN3.out h8
        have HF := Lib.hid (HA3.out h8)
        rw [HPt.out h8] at HF
        unfold noSm at HF
        have hd8 : decide (uk = 8) = true := by simp [h8]
        rw [hd8, if_pos rfl] at HT9
        clear h8 hd8 HA2 HA3 HPt HN3
        go_upto_region 16 with (first | (go_at_call 57; (with_reducible refine HT9.out.mono ?_); rintro e V10 ⟨rfl, h10, ht10⟩))
        have D9 := ht10.heap hD (show ¬ only a D from hDa)
        have A9 := ht10.heap hA (show ¬ only a w.heap.size from hAa)
        have g9 := hg.keep (w' := V10) (fun b hb => by rcases hb with hb | hb; exact hb.elim; exact ht10.block b (hg.own.lt b hb).2 (fun e => by have := own_base hg.own (Nat.le_refl _) b hb; unfold only at e; omega))
        have T9 := hT.trans ht10 (fun _ _ h => h)
        have S9 := Nat.le_trans hDs ht10.size
        have N10 := ht10.heap hN (show ¬ only a NN from hNa)
        clear hR hT hD hA hDs hg ht10 hN HT9 HSb
        have hR := h10
        have hT := T9
        have hD := D9
        have hA := A9
        have hg := g9
        have hDs := S9
        clear h10 T9 D9 A9 g9 S9
        obtain ⟨n0, n1, n2, _⟩ := box3 N10
        generalize hSV : Value.slice sa acc.length sc = sv at hD hg ⊢
        clear hSV
        have hown := hg.own
        have hob := fun g (h : sv.ownBlock = some g) => own_base hown (Nat.le_refl _) g h
        have hne : some D ≠ sv.ownBlock := fun h => by have := hob D h.symm; omega
        have d0 : V10.cell? ⟨D, 0, none⟩ = some sv := cell_of_row _ _ 0 _ _ _ hD
        have a0 := rdCell_alloc d0 (.cells #[.string ⟨#[]⟩, .bool false, .int .i64 0, .int .i64 0, .string ut, .int .i64 up] 67)
        have fr0 := free_of_block (j := 0) (heap_keep _ (.cells #[.string ⟨#[]⟩, .bool false, .int .i64 0, .int .i64 0, .string ut, .int .i64 up] 67) hD)
        obtain ⟨i0, hi, iz0, iz1, iz2⟩ := rd_info rdInfoPart
        have HH := Lib.hid (And.intro hR (And.intro hT (And.intro hD (And.intro hA (And.intro hg hDs)))))
        clear hR hT hA hD
        go_upto_region 17 with (first | (refine wpList_append_lies _ (by rfl) _ _ _ (by rfl) (D + 1) 67 i0 (.agg #[.string ByteArray.empty, .bool false, .int .i64 0, .int .i64 0, .string ByteArray.empty, .int .i64 0]) 6 64 Tryz.underlying58 hi iz0 iz1 iz2 rfl (by omega) sv acc.length ys (by rfl) (hown.alloc _) ⟨V10.heap.size, 0, none⟩ 1 1 [.string ⟨#[]⟩, .bool false, .int .i64 0, .int .i64 0, .string ut, .int .i64 up] (by rfl) (by rfl) (rd_news V10 _ _) (by simp [Value.oneCell']) (by omega) (by unfold maxLen; omega) (by omega) (by simp; omega) (V10.heap.size + 1) (by simp) ?_; intro gg2 cap w9 hown9 hgrow9 hat hlt9; have f9 : w9.cell? ⟨D, 0, none⟩ = some sv := hgrow9.cell a0 hne; have r9 := (hgrow9.frozen_far ⟨D, 0, none⟩ (show D < (V10.alloc _).heap.size from by simp; omega) hne).trans fr0))
        obtain ⟨hR, hT, hD0, hA, hg0, hDs0⟩ := HH.out
        have k9 := (Below.refl V10.heap.size V10).alloc (Nat.le_refl _) (.cells #[.string ⟨#[]⟩, .bool false, .int .i64 0, .int .i64 0, .string ut, .int .i64 up] 67)
        have hpu := (hg0.below k9).box0 (j := 0) (x := (⟨⟨⟨#[]⟩, false, 0, 0⟩, ut, up⟩ : Pt)) (cs := [.string ⟨#[]⟩, .bool false, .int .i64 0, .int .i64 0, .string ut, .int .i64 up]) (Below.refl _ _) hown9 hgrow9 (own_new hat (by simp)) rfl (fun X => show ptR X _ ⟨⟨⟨#[]⟩, false, 0, 0⟩, ut, up⟩ from rfl) (Nat.lt_succ_self D) (heap_keep _ _ hD0)
        have hq := hpu.2.2.1 w.heap.size (by omega)
        have hqD := hpu.2.2.1 D (Nat.le_refl _)
        have hR9 := (hR.ahead k9).far hq ha hlt
        have hT9 := (hT.far (k9.mono hT.size)).far hq
        have hA9 := (hqD.block w.heap.size hs1).trans (heap_keep _ _ hA)
        have hs9 : D + 1 ≤ (w9.setCell ⟨D, 0, none⟩ (.slice (some ⟨gg2, 0, none⟩) (acc.length + 1) cap)).heap.size := by have := hqD.size; simp at this ⊢; omega
        clear hg hDs d0 a0 fr0 f9 r9 hR hT hD0 hA hg0 hDs0 k9 hq hqD hown hown9 hgrow9 hob hne HH
        have hR := hR9
        have hT := hT9
        have hD := hpu.2.1
        have hA := hA9
        have hDs := hs9
        have hg := hpu.1
        clear hR9 hT9 hA9 hs9
        simp only [Array.setIfInBounds, List.size_toArray, List.length_cons, List.length_nil] at hD
        generalize w9.setCell ⟨D, 0, none⟩ (.slice (some ⟨gg2, 0, none⟩) (acc.length + 1) cap) = W9 at hR hT hD hA hDs hg hpu ⊢
        clear hpu
        have HFm := Lib.hid (hg.firm (by omega))
        have HSb : Hid (∀ b, (False ∨ (Value.slice (some ⟨gg2, 0, none⟩) (acc.length + 1) cap).ownBlock = some b) → D + 1 ≤ b) := Lib.hid (fun b hb => hb.elim (fun h => h.elim) (fun h => own_base hg.own (Nat.le_refl _) b h))
        clear hg
        obtain ⟨d0, d1, d2, d3, d4, d5, e0, e1, e2, e3, e4, e5⟩ := box6 hD
        obtain ⟨a0, a1, a2, a3, a4, a5, g0, g1, g2, g3, g4, g5⟩ := box6 hA
        have HR := Lib.hid (And.intro hR hT)
        clear hR hT
        go_wp2_with fail
        obtain ⟨hR, hT⟩ := HR.out
        have hRR := set6_row8 hA (.slice (some ⟨gg2, 0, none⟩) (acc.length + 1) cap) (.string zt) (.bool B) (.int .i64 0) (.int .i64 zp) (.int .i64 x0p)
        exact bodyPost_ret (v := .agg #[.slice (some ⟨gg2, 0, none⟩) (acc.length + 1) cap, .string zt, .bool B, .int .i64 0, .int .i64 zp, .int .i64 x0p]) (results_cell_row rfl _ _ w.heap.size 62 #[.slice (some ⟨gg2, 0, none⟩) (acc.length + 1) cap, .string zt, .bool B, .int .i64 0, .int .i64 zp, .int .i64 x0p] (0, 0) _ rfl hRR Tryz.underlying62 rfl altInfo8) rfl
         ⟨⟨(acc ++ [⟨⟨⟨#[]⟩, false, 0, 0⟩, ut, up⟩]), ⟨zt, B, 0, zp⟩, x0p⟩, m + 3, (-1), (some ⟨gg2, 0, none⟩), (acc.length + 1), cap, _, rfl, HFm.out.keep (fun b hb => by
          have hb1 := HSb.out b hb
          have hb2 : b ≠ w.heap.size := by omega
          exact (Below.heap_setCell _ _ _ _ hb2).trans ((Below.heap_setCell _ _ _ _ hb2).trans ((Below.heap_setCell _ _ _ _ hb2).trans ((Below.heap_setCell _ _ _ _ hb2).trans ((Below.heap_setCell _ _ _ _ hb2).trans (Below.heap_setCell _ _ _ _ hb2)))))), fun b hb => by have := HSb.out b hb; omega, hm3, hR.aside6 hAa hlt _ _ _ _ _ _, hT.set6 (.inr (Nat.le_refl _)) _ _ _ _ _ _, .inl ⟨rfl, by omega, HF.out⟩⟩
      · have HF := Lib.hid (HA2.out h8)
        have hd8 : decide (uk = 8) = false := by simp [h8]
        rw [hd8, if_neg (by decide)] at HT9
        clear h8 hd8 HA2 HA3 HPt HN3
        go_upto_region 17 with (first | (go_at_call 57; (with_reducible refine HT9.out.mono ?_); rintro e V10 ⟨rfl, h10, ht10⟩))
        have D9 := ht10.heap hD (show ¬ only a D from hDa)
        have A9 := ht10.heap hA (show ¬ only a w.heap.size from hAa)
        have g9 := hg.keep (w' := V10) (fun b hb => by rcases hb with hb | hb; exact hb.elim; exact ht10.block b (hg.own.lt b hb).2 (fun e => by have := own_base hg.own (Nat.le_refl _) b hb; unfold only at e; omega))
        have T9 := hT.trans ht10 (fun _ _ h => h)
        have S9 := Nat.le_trans hDs ht10.size
        clear hR hT hD hA hDs hg ht10 hN
        have hR := h10
        have hT := T9
        have hD := D9
        have hA := A9
        have hg := g9
        have hDs := S9
        clear h10 T9 D9 A9 g9 S9
        have HFm := Lib.hid (hg.firm (by omega))
        clear hg
        obtain ⟨d0, d1, d2, d3, d4, d5, e0, e1, e2, e3, e4, e5⟩ := box6 hD
        obtain ⟨a0, a1, a2, a3, a4, a5, g0, g1, g2, g3, g4, g5⟩ := box6 hA
        have HR := Lib.hid (And.intro hR hT)
        clear hR hT
        go_wp2_with fail
        obtain ⟨hR, hT⟩ := HR.out
        have hRR := set6_row8 hA (.slice sa acc.length sc) (.string zt) (.bool B) (.int .i64 0) (.int .i64 zp) (.int .i64 x0p)
        exact bodyPost_ret (v := .agg #[.slice sa acc.length sc, .string zt, .bool B, .int .i64 0, .int .i64 zp, .int .i64 x0p]) (results_cell_row rfl _ _ w.heap.size 62 #[.slice sa acc.length sc, .string zt, .bool B, .int .i64 0, .int .i64 zp, .int .i64 x0p] (0, 0) _ rfl hRR Tryz.underlying62 rfl altInfo8) rfl
         ⟨⟨acc, ⟨zt, B, 0, zp⟩, x0p⟩, m + 2, (-1), sa, acc.length, sc, _, rfl, HFm.out.keep (fun b hb => by
          have hb1 := HSb.out b hb
          have hb2 : b ≠ w.heap.size := by omega
          exact (Below.heap_setCell _ _ _ _ hb2).trans ((Below.heap_setCell _ _ _ _ hb2).trans ((Below.heap_setCell _ _ _ _ hb2).trans ((Below.heap_setCell _ _ _ _ hb2).trans ((Below.heap_setCell _ _ _ _ hb2).trans (Below.heap_setCell _ _ _ _ hb2)))))), fun b hb => by have := HSb.out b hb; omega, hm2, hR.aside6 hAa hlt _ _ _ _ _ _, hT.set6 (.inr (Nat.le_refl _)) _ _ _ _ _ _, .inl ⟨rfl, by omega, HF.out⟩⟩
end
end Go.Proofs.YtnoppoifepbchaaGreatDoor
