/- The reader: a declaration behind its key word. -/
import Derived.Test.YtnoppoifepbchaaDoorRd3
import Derived.Deep.LoopGhost
import Derived.Deep.AppendLies
namespace Go.Proofs.YtnoppoifepbchaaDoor

open Go.RowKit
set_option linter.unusedVariables false
set_option linter.unusedSimpArgs false

def beh (a B b : Nat) : Prop := b = a ∨ B ≤ b
def DeclGo (w0 : World) (a : Nat) (wv : Value) (hp : Bool) (pro : ByteArray) (dv rv : Value) (L : Wds) (B : Nat) (ds : List Dc) (k : Int) (n : Nat) (w : World) (e : Ending) (w' : World) : Prop :=
 (∃ d m dv' xs' Sd', declS k (wAt L n) (L.drop (n + 1)) = .ok d (L.drop m) ∧ m < L.length ∧ n < m ∧ e = .returned (.bool true) ∧ RdAt w0 w' a wv m hp pro dv' rv ∧ GrowL B 51 4 dcR Sd' w' dv' xs' (ds ++ [d]) ∧ (∀ b, Sd' b → B ≤ b) ∧ Turns (beh a B) w w') ∨
 (∃ m, declS k (wAt L n) (L.drop (n + 1)) = .bad (L.drop m) ∧ m < L.length ∧ e = .returned (.bool false) ∧ RdAt w0 w' a wv m hp pro dv rv ∧ Turns (beh a B) w w')

section
variable {w0 w : World} {a : Nat} {wv : Value} {n : Nat} {hp : Bool} {pro : ByteArray} {dv rv : Value} {L : Wds}
set_option maxRecDepth 100000 in
set_option maxHeartbeats 40000000 in
theorem declOf_any (HA : Hid AtoiOk) (hI : RdIn w0 wv L a) (h : RdAt w0 w a wv n hp pro dv rv) (hn : n < L.length) (hx5 : (wAt L n).kind = 5) (k : Int) (hk1 : 1 ≤ k) (hk7 : k ≤ 6)
  {B : Nat} {ds : List Dc} {xs : List Value} {Sd : Nat → Prop} (hG : GrowL B 51 4 dcR Sd w dv xs ds) (hS : ∀ b, Sd b → B ≤ b) (haB : a < B) (hB : B ≤ w.heap.size) (hlen : ds.length ≤ 100000) :
  Calls Tryd.prog 94 #[.pointer (some ⟨a, 0, none⟩), .int .i64 k] w (DeclGo w0 a wv hp pro dv rv L B ds k n w) := by
 have ha := h.lt
 have hlt := h.below.size
 have hn1 := hI.ok.next hn (by omega)
 have hL6 := hI.ok.len
 have HI := Lib.hid hI
 have hTk := Lib.hid (rdTake_any hI h hn)
 have HG := Lib.hid (And.intro hG hS)
 have HW := Lib.hid (fun (V : World) (hV : RdAt w0 V a wv (n + 1) hp pro dv rv) => word_any hI hV hn1)
 have HT := Lib.hid (fun (V : World) (hV : RdAt w0 V a wv (n + 1) hp pro dv rv) => rdTake_any hI hV hn1)
 have HP : Hid (declS k (wAt L n) (L.drop (n + 1)) = if k = 5 ∧ (wAt L (n + 1)).kind ≠ 4 then .bad (L.drop (n + 1)) else if (rdSyms k (tagS k (L.drop (n + 1))).2).1 = [] then .bad (rdSyms k (tagS k (L.drop (n + 1))).2).2 else .ok ⟨k, (tagS k (L.drop (n + 1))).1, (rdSyms k (tagS k (L.drop (n + 1))).2).1, (wAt L n).place⟩ (rdSyms k (tagS k (L.drop (n + 1))).2).2) := Lib.hid rfl
 have HTg : Hid (tagS k (L.drop (n + 1)) = if k ≠ 6 ∧ (wAt L (n + 1)).kind = 4 then ((wAt L (n + 1)).text, L.drop (n + 2)) else (ByteArray.empty, L.drop (n + 1))) := Lib.hid (by unfold tagS; rw [drop_tail]; rfl)
 unfold DeclGo
 generalize declS k (wAt L n) (L.drop (n + 1)) = RES at HP ⊢
 generalize tagS k (L.drop (n + 1)) = TG at HP HTg
 unfold Wd.agg8 at hTk HW HT
 generalize hy : wAt L (n + 1) = y at HP HTg HW HT
 have Hy := Lib.hid hy
 clear hy
 generalize wAt L n = x at hTk HP hx5
 obtain ⟨yk, yt, yp⟩ := y
 obtain ⟨xk, xt, xp⟩ := x
 simp only at hTk HP HTg HW HT hx5
 have hfx2 := wfld2 xk xt xp
 have hfy0 := wfld0 yk yt yp
 have hfy1 := wfld1 yk yt yp
 clear hI hG hS hx5
 by_cases h6 : k = 6
 · have hb6 : (k == 6) = true := by simp [h6]
   have hb6n : (k != 6) = false := by simp [h6]
   have hb5 : (k == 5) = false := by rw [h6]; rfl
   have HQ : Hid (RES = if (rdSyms k (L.drop (n + 1))).1 = [] then .bad (rdSyms k (L.drop (n + 1))).2 else .ok ⟨k, ByteArray.empty, (rdSyms k (L.drop (n + 1))).1, xp⟩ (rdSyms k (L.drop (n + 1))).2) := Lib.hid (by rw [HP.out, HTg.out, if_neg (show ¬ (k ≠ 6 ∧ yk = 4) by omega), if_neg (show ¬ (k = 5 ∧ yk ≠ 4) by omega)])
   have HN2 := Lib.hid (show n + 1 < L.length ∧ n < n + 1 from ⟨hn1, Nat.lt_succ_self _⟩)
   have H6 := Lib.hid h6
   clear h6 HP HTg HW HT hfy0 hfy1
   go_enter Tryd.func94, Tryd.ntmps94
   go_upto_region 2 with (first | (go_at_call 92; (with_reducible refine hTk.out.mono ?_); rintro e w1 ⟨rfl, h1, ht1⟩))
   have hs1 := ht1.size
   have D1 := heap_made w1 #[.int .i64 k, .string ⟨#[]⟩, .slice none 0 0, .int .i64 xp] 51 _ rfl
   have h2 := h1.ahead ((Below.refl w1.heap.size w1).alloc (Nat.le_refl _) (.cells #[.int .i64 k, .string ⟨#[]⟩, .slice none 0 0, .int .i64 xp] 51))
   have ht2 := ht1.alloc (.cells #[.int .i64 k, .string ⟨#[]⟩, .slice none 0 0, .int .i64 xp] 51)
   have hs2 : w1.heap.size + 1 ≤ (w1.alloc (.cells #[.int .i64 k, .string ⟨#[]⟩, .slice none 0 0, .int .i64 xp] 51)).heap.size := by simp
   generalize hDD : w1.heap.size = D at D1 hs1 hs2 ⊢
   clear hDD
   generalize w1.alloc (.cells #[.int .i64 k, .string ⟨#[]⟩, .slice none 0 0, .int .i64 xp] 51) = w2 at D1 h2 ht2 hs2 ⊢
   clear h1 ht1 hTk
   have hDa : D ≠ a := by omega
   have hn2 := HN2.out
   generalize n + 1 = q at h2 hn2 HQ ⊢
   clear HN2
   have D2 : w2.cell? ⟨D, 2, none⟩ = some (.slice none 0 0) := cell_of_row _ _ 2 _ _ _ D1
   go_upto_block 0 with fail
   go_cut [] from 25 to 37 (fun wx => ∃ (m : Nat) (sv : Value) (ys : List Value) (acc : List Sm), RdAt w0 wx a wv m hp pro dv rv ∧ Turns (only a) w wx ∧ wx.heap[D]? = some (.cells #[.int .i64 k, .string ⟨#[]⟩, sv, .int .i64 xp] 51 (0, 0)) ∧ D + 1 ≤ wx.heap.size ∧ GrowL (D + 1) 40 4 smR (fun _ => False) wx sv ys acc ∧ Hid (rdSyms k (L.drop q) = (acc, L.drop m)) ∧ m < L.length ∧ n < m ∧ acc.length ≤ 100000)
   case first =>
    go_wp2_with fail
    go_loopg [] L.length (fun gg V => ∃ (m : Nat) (sv : Value) (ys : List Value) (acc : List Sm), L.length ≤ m + gg ∧ RdAt w0 V a wv m hp pro dv rv ∧ Turns (only a) w V ∧ V.heap[D]? = some (.cells #[.int .i64 k, .string ⟨#[]⟩, sv, .int .i64 xp] 51 (0, 0)) ∧ D + 1 ≤ V.heap.size ∧ GrowL (D + 1) 40 4 smR (fun _ => False) V sv ys acc ∧ Hid (SymsTo k L q acc m) ∧ m < L.length ∧ n < m ∧ acc.length ≤ m)
    case atStart => exact ⟨q, _, [], [], by omega, h2, ht2, D1, hs2, GrowL.nil _ _ _ _ _, Lib.hid (SymsTo.none _ _ _), by omega, by omega, Nat.zero_le _⟩
    case round =>
     clear h2 ht2 D1 D2 hs2
     obtain ⟨m, sv, ys, acc, hgg, hR, hT, hD, hDs, hg, HX, hm, hnm, hal⟩ := hrel
     rename World => V
     have hDc := Lib.hid (declares_any HI.out hR hm k)
     cases hdb : declaresB k (wAt L m) with
     | false =>
       rw [hdb] at hDc
       have HE := Lib.hid (HX.out.stop (syms_stop hm hdb))
       clear hdb HX
       go_wp2_with (first | (go_at_call 116; (with_reducible refine hDc.out.mono ?_); rintro e w4 ⟨rfl, hw4⟩))
       go_meet
       case rel => exact ⟨m, sv, ys, acc, hR.ahead hw4, hT.far (hw4.mono hT.size), block_below hD hw4 (by omega), Nat.le_trans hDs hw4.size, hg.below hw4, HE, hm, hnm, by omega⟩
     | true =>
       rw [hdb] at hDc
       have hDb := declN_bd HI.out.ok hm hdb
       have HC := Lib.hid (fun (X : World) (hX : RdAt w0 X a wv m hp pro dv rv) => declared_any HA HI.out hX hm k hdb)
       have HS1 : Hid (k ≠ 6 → SymsTo k L q (acc ++ [declX k L m]) (declN k L m)) := Lib.hid (fun h6 => HX.out.step (syms_one hm h6 hdb))
       have HS6 : Hid (k = 6 → rdSyms k (L.drop q) = (acc ++ [declX k L m], L.drop (declN k L m))) := Lib.hid (fun h6 => by subst h6; rw [declN_six, declX_six]; exact HX.out.start hm hdb)
       clear hdb HX
       generalize declN k L m = m2 at HC HS1 HS6 hDb
       generalize declX k L m = X at HC HS1 HS6
       obtain ⟨zn, zl, zm, zp⟩ := X
       unfold Sm.agg at HC
       simp only at HC
       go_upto_region 7 with (first | (go_at_call 116; (with_reducible refine hDc.out.mono ?_); rintro e V4 ⟨rfl, hw4⟩))
       replace hR := hR.ahead hw4
       replace hT := hT.far (hw4.mono hT.size)
       replace hD := block_below hD hw4 (by omega)
       replace hg := hg.below hw4
       have hDs4 : D + 1 ≤ V4.heap.size := Nat.le_trans hDs hw4.size
       clear hDs hw4 hDc
       have d2 : V4.cell? ⟨D, 2, none⟩ = some sv := cell_of_row _ _ 2 _ _ _ hD
       have hown := hg.own
       have hob := fun g (h : sv.ownBlock = some g) => own_base hown (Nat.le_refl _) g h
       have hne : some D ≠ sv.ownBlock := fun h => by have := hob D h.symm; omega
       have HC4 := Lib.hid (HC.out V4.drew (hR.ahead (Below.refl _ _).drew))
       obtain ⟨i0, hi, iz0, iz1, iz2⟩ := rd_info rdInfoSym
       go_cut [] from 28 to 35 (fun wx => ∃ (sv : Value) (ys : List Value), RdAt w0 wx a wv m2 hp pro dv rv ∧ Turns (only a) w wx ∧ wx.heap[D]? = some (.cells #[.int .i64 k, .string ⟨#[]⟩, sv, .int .i64 xp] 51 (0, 0)) ∧ D + 1 ≤ wx.heap.size ∧ GrowL (D + 1) 40 4 smR (fun _ => False) wx sv ys (acc ++ [⟨zn, zl, zm, zp⟩]))
       case first =>
        go_region_law (first
         | (go_simp; go_at_call 117; (with_reducible refine HC4.out.mono ?_); rintro e w9 ⟨rfl, h9, ht9⟩;
             have D9 := ht9.heap hD (show ¬ only a D from hDa);
             have g9 : GrowL (D + 1) 40 4 smR (fun _ => False) w9 sv ys acc := hg.keep (fun b hb => by rcases hb with hb | hb; exact hb.elim; exact ht9.block b (hown.lt b hb).2 (fun e => by have := hob b hb; unfold only at e; omega));
             have c9 : w9.cell? ⟨D, 2, none⟩ = some sv := cell_of_row _ _ 2 _ _ _ D9;
             have s9 : D + 1 ≤ w9.heap.size := Nat.le_trans hDs4 ht9.size;
             have b9 : w9.alloc (.cells #[.string zn, .bool zl, .int .i64 zm, .int .i64 zp] 40) = w9.alloc (.cells #[.string zn, .bool zl, .int .i64 zm, .int .i64 zp] 40) := rfl;
             have a9 := rdCell_alloc c9 (.cells #[.string zn, .bool zl, .int .i64 zm, .int .i64 zp] 40);
             have l9 : w9.heap.size < (w9.alloc (.cells #[.string zn, .bool zl, .int .i64 zm, .int .i64 zp] 40)).heap.size := by simp)
         | (refine step_append_lies _ (by rfl) _ _ _ (by rfl) (D + 1) 40 i0 (.agg #[.string ByteArray.empty, .bool false, .int .i64 0, .int .i64 0]) 4 40 Tryd.underlying49 hi iz0 iz1 iz2 rfl (by omega) sv acc.length ys (by rfl) (g9.own.alloc _)
             ⟨w9.heap.size, 0, none⟩ 1 1 [.string zn, .bool zl, .int .i64 zm, .int .i64 zp] (by rfl) (by rfl) (rd_news w9 _ _) (by simp [Value.oneCell'])
             (by omega) (by unfold maxLen; omega) (by omega) (by simp; omega) (w9.heap.size + 1) (by simp) ?_;
            intro gg cap w5 hown5 hgrow5 hat hlt5;
            have f5 : w5.cell? ⟨D, 2, none⟩ = some sv := hgrow5.cell a9 hne;
            have r5 : w5.frozen? ⟨D, 2, none⟩ = false := (hgrow5.frozen_far ⟨D, 2, none⟩ (show D < (w9.alloc _).heap.size from by simp; omega) hne).trans (free_of_block (heap_keep _ _ D9))))
        all_goals
         go_wp2_with fail
         have k9 := (Below.refl w9.heap.size w9).alloc (Nat.le_refl _) (.cells #[.string zn, .bool zl, .int .i64 zm, .int .i64 zp] 40)
         have hpu := (g9.below k9).box0 (j := 2) (x := ⟨zn, zl, zm, zp⟩) (cs := [.string zn, .bool zl, .int .i64 zm, .int .i64 zp]) (Below.refl _ _) hown5 hgrow5 (own_new hat (by simp)) rfl (fun X => show smR X _ ⟨zn, zl, zm, zp⟩ from rfl) (Nat.lt_succ_self D) (heap_keep _ _ D9)
         have hq := hpu.2.2.1 w.heap.size (by omega)
         have hT9 : Turns (only a) w (w9.alloc (.cells #[.string zn, .bool zl, .int .i64 zm, .int .i64 zp] 40)) := ((hT.trans (Turns.of_below (S := only a) (Below.refl V4.heap.size V4).drew) (fun _ _ h => h)).trans ht9 (fun _ _ h => h)).alloc _
         go_meet
         case rel => exact ⟨_, _, (h9.ahead k9).far hq ha hlt, hT9.far hq, hpu.2.1, by have := (hpu.2.2.1 w.heap.size (by omega)).size; simp at this ⊢; omega, hpu.1⟩
       case rest =>
        clear d2 hown hob hne HC4 hR hT hD hDs4 hg
        obtain ⟨sv, ys, hR, hT, hD, hDs, hg⟩ := hcut
        rename World => V5
        have HE := Lib.hid (HS6.out H6.out)
        clear HS1 HS6
        go_wp2_with fail
        go_meet
        case rel => exact ⟨m2, sv, ys, _, hR, hT, hD, hDs, hg, HE, hDb.2, by omega, by simp; omega⟩
   case rest =>
    clear h2 ht2 D1 D2 hs2
    obtain ⟨m, sv, ys, acc, hR, hT, hD, hDs, hg, HE, hm, hnm, hal⟩ := hcut
    rename World => V
    have hD2 : V.cell? ⟨D, 2, none⟩ = some sv := cell_of_row _ _ 2 _ _ _ hD
    obtain ⟨sa, sc, rfl⟩ := rd_slice hg.own
    have hnB : ∀ b, b < w.heap.size → only a b → b = a := fun b _ h => h
    have hTB : Turns (beh a B) w V := hT.mono (fun b _ h => .inl h)
    have hgw : GrowL B 51 4 dcR Sd V dv xs ds := HG.out.1.keep (fun b hb => hT.block b (HG.out.1.lt b hb) (fun e => by unfold only at e; have : B ≤ b := hb.elim (HG.out.2 b) (fun h => own_base HG.out.1.own (Nat.le_refl _) b h); omega))
    by_cases h0 : acc = []
    · subst h0
      have hF : Hid (RES = .bad (L.drop m)) := Lib.hid (by rw [HQ.out, HE.out]; exact if_pos rfl)
      clear HE HQ HG hg
      have hl0 : ([] : List Sm).length = 0 := rfl
      go_wp2_with fail
      go_ret
      exact .inr ⟨m, hF.out, hm, by simp, hR, hTB⟩
    · have hF : Hid (RES = .ok ⟨k, ⟨#[]⟩, acc, xp⟩ (L.drop m)) := Lib.hid (by rw [HQ.out, HE.out]; exact if_neg h0)
      have hl1 : 0 < acc.length := List.length_pos_iff.2 h0
      have hb0 : ((acc.length : Nat) : Int) ≠ 0 := by omega
      have hbe : (((acc.length : Nat) : Int) == 0) = false := by rw [beq_eq_false_iff_ne]; exact hb0
      clear HE HQ h0
      have HF := Lib.hid (hg.firm (by omega))
      have hgb : ∀ b, (False ∨ (Value.slice sa acc.length sc).ownBlock = some b) → D + 1 ≤ b := fun b hb => hb.elim (fun h => h.elim) (fun h => own_base hg.own (Nat.le_refl _) b h)
      have HGB := Lib.hid hgb
      clear hg hgb
      have hown := hgw.own
      have HGV := Lib.hid hgw
      have HT := Lib.hid hT
      have hod := fun g (h : dv.ownBlock = some g) => own_base hown (Nat.le_refl _) g h
      have hne : some a ≠ dv.ownBlock := fun h => by have := hod a h.symm; omega
      obtain ⟨i0, hi, iz0, iz1, iz2⟩ := rd_info rdInfoDecl
      go_upto_region 11 with fail
      obtain ⟨_, _, _, _, c4, _⟩ := hR.cells
      have f4 := hR.free 4
      have d0 : V.cell? ⟨D, 0, none⟩ = some (.int .i64 k) := cell_of_row _ _ 0 _ _ _ hD
      have d1 : V.cell? ⟨D, 1, none⟩ = some (.string ⟨#[]⟩) := cell_of_row _ _ 1 _ _ _ hD
      have d3 : V.cell? ⟨D, 3, none⟩ = some (.int .i64 xp) := cell_of_row _ _ 3 _ _ _ hD
      have c4a := rdCell_alloc c4 (.cells #[.int .i64 k, .string ⟨#[]⟩, .slice sa acc.length sc, .int .i64 xp] 51)
      have f4a : (V.alloc (.cells #[.int .i64 k, .string ⟨#[]⟩, .slice sa acc.length sc, .int .i64 xp] 51)).frozen? ⟨a, 4, none⟩ = false := free_of_block (heap_keep _ _ hR.row)
      have haV := hR.lt
      go_region_law (first
       | (refine step_append_lies _ (by rfl) _ _ _ (by rfl) B 51 i0 (.agg #[.int .i64 0, .string ByteArray.empty, .slice none 0 0, .int .i64 0]) 4 56 Tryd.underlying26 hi iz0 iz1 iz2 rfl (by omega) dv ds.length xs (by rfl) (by first | exact hown.drew.alloc _ | exact (hown.alloc _).drew)
           ⟨V.heap.size, 0, none⟩ 1 1 [.int .i64 k, .string ⟨#[]⟩, .slice sa acc.length sc, .int .i64 xp] (by rfl) (by rfl) (by first | exact rd_news V.drew _ _ | exact rd_news V _ _) (by simp [Value.oneCell'])
           (by omega) (by unfold maxLen; omega) (by omega) (by simp; omega) (V.heap.size + 1) (by simp) ?_;
          intro gg cap w5 hown5 hgrow5 hat hlt5;
          have f5 : w5.cell? ⟨a, 4, none⟩ = some dv := hgrow5.cell c4a hne;
          have r5 : w5.frozen? ⟨a, 4, none⟩ = false := (hgrow5.frozen_far ⟨a, 4, none⟩ (show a < (V.alloc _).heap.size from by simp; omega) hne).trans f4a))
      all_goals
       go_wp2_with fail
       have kO : Below V.heap.size V (V.alloc (.cells #[.int .i64 k, .string ⟨#[]⟩, .slice sa acc.length sc, .int .i64 xp] 51)).drew := ((Below.refl V.heap.size V).alloc (Nat.le_refl _) _).drew
       have hgV := HGV.out
       have hVs := HT.out.size
       have hpu := GrowL.box (j := 4) (B := a) (x := (⟨k, ⟨#[]⟩, acc, xp⟩ : Dc)) (cs := [.int .i64 k, .string ⟨#[]⟩, .slice sa acc.length sc, .int .i64 xp]) (R := dcR) hgV (w := (V.alloc (.cells #[.int .i64 k, .string ⟨#[]⟩, .slice sa acc.length sc, .int .i64 xp] 51)).drew) kO hown5 hgrow5 (own_new hat (by simp)) rfl
        (Firm.imp (HF.out.below kO) (fun w' hw' => ⟨.slice sa acc.length sc, rfl, hw'⟩)) (fun g hg' hS' => by have h1 := HGB.out g hS'; have h2 := (HG.out.1.own.lt g hg').2; omega) haB hR.row (fun b hb => by rcases hb with hb | hb; (have := HG.out.2 b hb; omega); (have := HGB.out b hb; omega))
       have hbl := hpu.2.2.1 a (Nat.le_refl _)
       have hbl0 := hpu.2.2.1 w0.heap.size HI.out.lt
       go_ret
       exact .inl ⟨⟨k, ⟨#[]⟩, acc, xp⟩, m, _, _, _, hF.out, hm, hnm, by simp, ⟨(hR.below.trans (kO.mono hR.below.size)).trans hbl0, hpu.2.1⟩, hpu.1, fun b hb => hb.elim (HG.out.2 b) (fun hb => by have := HGB.out b hb; omega),
        ⟨hbl.os.trans (kO.os.trans HT.out.os), hbl.tape.trans (kO.tape.trans HT.out.tape), hbl.output.trans (kO.output.trans HT.out.output), Nat.le_trans HT.out.size (Nat.le_trans kO.size hbl.size), fun b hb hnb => by
         unfold beh at hnb
         have hb1 : b ≠ a := fun e => hnb (.inl e)
         have hb2 : b < B := Nat.lt_of_not_le (fun e => hnb (.inr e))
         exact (hpu.2.2.2 b (by have := kO.size; omega) hb1 hb2).trans ((kO.block b (by omega)).trans (HT.out.block b hb hb1))⟩⟩

 · have hb6 : (k == 6) = false := by simp [h6]
   have hb6n : (k != 6) = true := by simp [h6]
   have H6 := Lib.hid h6
   by_cases h4 : yk = 4
   · have hb4 : (yk == 4) = true := by simp [h4]
     have hn2 := HI.out.ok.next hn1 (by rw [Hy.out]; simp only; omega)
     have HQ : Hid (RES = if (rdSyms k (L.drop (n + 2))).1 = [] then .bad (rdSyms k (L.drop (n + 2))).2 else .ok ⟨k, yt, (rdSyms k (L.drop (n + 2))).1, xp⟩ (rdSyms k (L.drop (n + 2))).2) := Lib.hid (by rw [HP.out, HTg.out, if_pos (show k ≠ 6 ∧ yk = 4 from ⟨h6, h4⟩), if_neg (show ¬ (k = 5 ∧ yk ≠ 4) from fun h => h.2 h4)])
     have HN2 := Lib.hid (show n + 2 < L.length ∧ n < n + 2 from ⟨hn2, by omega⟩)
     clear h6 h4 HP HTg hn2
     go_enter Tryd.func94, Tryd.ntmps94
     go_upto_region 2 with (first | (go_at_call 92; (with_reducible refine hTk.out.mono ?_); rintro e w1 ⟨rfl, h1, ht1⟩))
     have hs1 := ht1.size
     have D1 := heap_made w1 #[.int .i64 k, .string ⟨#[]⟩, .slice none 0 0, .int .i64 xp] 51 _ rfl
     have h2 := h1.ahead ((Below.refl w1.heap.size w1).alloc (Nat.le_refl _) (.cells #[.int .i64 k, .string ⟨#[]⟩, .slice none 0 0, .int .i64 xp] 51))
     have ht2 := ht1.alloc (.cells #[.int .i64 k, .string ⟨#[]⟩, .slice none 0 0, .int .i64 xp] 51)
     have hs2 : w1.heap.size + 1 ≤ (w1.alloc (.cells #[.int .i64 k, .string ⟨#[]⟩, .slice none 0 0, .int .i64 xp] 51)).heap.size := by simp
     generalize hDD : w1.heap.size = D at D1 hs1 hs2 ⊢
     clear hDD
     generalize w1.alloc (.cells #[.int .i64 k, .string ⟨#[]⟩, .slice none 0 0, .int .i64 xp] 51) = w2 at D1 h2 ht2 hs2 ⊢
     clear h1 ht1 hTk
     have hDa : D ≠ a := by omega
     have HW2 := Lib.hid (HW.out w2 h2)
     go_upto_region 3 with (first | (go_at_call 28; (with_reducible refine HW2.out.mono ?_); rintro e w4 ⟨rfl, hw4⟩))
     have h3 := h2.ahead hw4
     have D3 := block_below D1 hw4 (by omega)
     have ht3 := ht2.far (hw4.mono ht2.size)
     have hs3 := hw4.size
     have HT4 := Lib.hid (HT.out w4 h3)
     clear h2 D1 ht2 HW2
     go_upto_block 0 with (first | (go_at_call 92; (with_reducible refine HT4.out.mono ?_); rintro e w5 ⟨rfl, h5, ht5⟩; have D5 := ht5.heap D3 (show ¬ only a D from hDa); have p5 : w5.cell? ⟨D, 1, none⟩ = some (.string ⟨#[]⟩) := cell_of_row _ _ 1 _ _ _ D5; have f5 := free_of_block (j := 1) D5))
     have hs5 := ht5.size
     have h2 := h5.aside (j := 1) hDa (by omega) (.string yt)
     have D1 := block_setCell (j := 1) (u := .string yt) D5
     simp only [Array.setIfInBounds, List.size_toArray, List.length_cons, List.length_nil] at D1
     have ht2 := (ht3.trans ht5 (fun _ _ h => h)).setCell (p := ⟨D, 1, none⟩) (.inr hs1) (.string yt)
     have hs6 : D + 1 ≤ (w5.setCell ⟨D, 1, none⟩ (.string yt)).heap.size := by simp [World.setCell]; omega
     generalize w5.setCell ⟨D, 1, none⟩ (.string yt) = w6 at h2 D1 ht2 hs6 ⊢
     clear h3 h5 D3 D5 ht3 ht5 p5 f5 hs2 hs3 hs5 HT4
     replace hs2 := hs6
     clear hs6
     have hn2 := HN2.out
     generalize n + 2 = q at h2 hn2 HQ ⊢
     clear HN2
     have D2 : w6.cell? ⟨D, 2, none⟩ = some (.slice none 0 0) := cell_of_row _ _ 2 _ _ _ D1
     go_cut [] from 25 to 37 (fun wx => ∃ (m : Nat) (sv : Value) (ys : List Value) (acc : List Sm), RdAt w0 wx a wv m hp pro dv rv ∧ Turns (only a) w wx ∧ wx.heap[D]? = some (.cells #[.int .i64 k, .string yt, sv, .int .i64 xp] 51 (0, 0)) ∧ D + 1 ≤ wx.heap.size ∧ GrowL (D + 1) 40 4 smR (fun _ => False) wx sv ys acc ∧ Hid (rdSyms k (L.drop q) = (acc, L.drop m)) ∧ m < L.length ∧ n < m ∧ acc.length ≤ 100000)
     case first =>
      go_wp2_with fail
      go_loopg [] L.length (fun gg V => ∃ (m : Nat) (sv : Value) (ys : List Value) (acc : List Sm), L.length ≤ m + gg ∧ RdAt w0 V a wv m hp pro dv rv ∧ Turns (only a) w V ∧ V.heap[D]? = some (.cells #[.int .i64 k, .string yt, sv, .int .i64 xp] 51 (0, 0)) ∧ D + 1 ≤ V.heap.size ∧ GrowL (D + 1) 40 4 smR (fun _ => False) V sv ys acc ∧ Hid (SymsTo k L q acc m) ∧ m < L.length ∧ n < m ∧ acc.length ≤ m)
      case atStart => exact ⟨q, _, [], [], by omega, h2, ht2, D1, hs2, GrowL.nil _ _ _ _ _, Lib.hid (SymsTo.none _ _ _), by omega, by omega, Nat.zero_le _⟩
      case round =>
       clear h2 ht2 D1 D2 hs2
       obtain ⟨m, sv, ys, acc, hgg, hR, hT, hD, hDs, hg, HX, hm, hnm, hal⟩ := hrel
       rename World => V
       have hDc := Lib.hid (declares_any HI.out hR hm k)
       cases hdb : declaresB k (wAt L m) with
       | false =>
         rw [hdb] at hDc
         have HE := Lib.hid (HX.out.stop (syms_stop hm hdb))
         clear hdb HX
         go_wp2_with (first | (go_at_call 116; (with_reducible refine hDc.out.mono ?_); rintro e w4 ⟨rfl, hw4⟩))
         go_meet
         case rel => exact ⟨m, sv, ys, acc, hR.ahead hw4, hT.far (hw4.mono hT.size), block_below hD hw4 (by omega), Nat.le_trans hDs hw4.size, hg.below hw4, HE, hm, hnm, by omega⟩
       | true =>
         rw [hdb] at hDc
         have hDb := declN_bd HI.out.ok hm hdb
         have HC := Lib.hid (fun (X : World) (hX : RdAt w0 X a wv m hp pro dv rv) => declared_any HA HI.out hX hm k hdb)
         have HS1 : Hid (k ≠ 6 → SymsTo k L q (acc ++ [declX k L m]) (declN k L m)) := Lib.hid (fun h6 => HX.out.step (syms_one hm h6 hdb))
         have HS6 : Hid (k = 6 → rdSyms k (L.drop q) = (acc ++ [declX k L m], L.drop (declN k L m))) := Lib.hid (fun h6 => by subst h6; rw [declN_six, declX_six]; exact HX.out.start hm hdb)
         clear hdb HX
         generalize declN k L m = m2 at HC HS1 HS6 hDb
         generalize declX k L m = X at HC HS1 HS6
         obtain ⟨zn, zl, zm, zp⟩ := X
         unfold Sm.agg at HC
         simp only at HC
         go_upto_region 7 with (first | (go_at_call 116; (with_reducible refine hDc.out.mono ?_); rintro e V4 ⟨rfl, hw4⟩))
         replace hR := hR.ahead hw4
         replace hT := hT.far (hw4.mono hT.size)
         replace hD := block_below hD hw4 (by omega)
         replace hg := hg.below hw4
         have hDs4 : D + 1 ≤ V4.heap.size := Nat.le_trans hDs hw4.size
         clear hDs hw4 hDc
         have d2 : V4.cell? ⟨D, 2, none⟩ = some sv := cell_of_row _ _ 2 _ _ _ hD
         have hown := hg.own
         have hob := fun g (h : sv.ownBlock = some g) => own_base hown (Nat.le_refl _) g h
         have hne : some D ≠ sv.ownBlock := fun h => by have := hob D h.symm; omega
         have HC4 := Lib.hid (HC.out V4.drew (hR.ahead (Below.refl _ _).drew))
         obtain ⟨i0, hi, iz0, iz1, iz2⟩ := rd_info rdInfoSym
         go_cut [] from 28 to 35 (fun wx => ∃ (sv : Value) (ys : List Value), RdAt w0 wx a wv m2 hp pro dv rv ∧ Turns (only a) w wx ∧ wx.heap[D]? = some (.cells #[.int .i64 k, .string yt, sv, .int .i64 xp] 51 (0, 0)) ∧ D + 1 ≤ wx.heap.size ∧ GrowL (D + 1) 40 4 smR (fun _ => False) wx sv ys (acc ++ [⟨zn, zl, zm, zp⟩]))
         case first =>
          go_region_law (first
           | (go_simp; go_at_call 117; (with_reducible refine HC4.out.mono ?_); rintro e w9 ⟨rfl, h9, ht9⟩;
               have D9 := ht9.heap hD (show ¬ only a D from hDa);
               have g9 : GrowL (D + 1) 40 4 smR (fun _ => False) w9 sv ys acc := hg.keep (fun b hb => by rcases hb with hb | hb; exact hb.elim; exact ht9.block b (hown.lt b hb).2 (fun e => by have := hob b hb; unfold only at e; omega));
               have c9 : w9.cell? ⟨D, 2, none⟩ = some sv := cell_of_row _ _ 2 _ _ _ D9;
               have s9 : D + 1 ≤ w9.heap.size := Nat.le_trans hDs4 ht9.size;
               have b9 : w9.alloc (.cells #[.string zn, .bool zl, .int .i64 zm, .int .i64 zp] 40) = w9.alloc (.cells #[.string zn, .bool zl, .int .i64 zm, .int .i64 zp] 40) := rfl;
               have a9 := rdCell_alloc c9 (.cells #[.string zn, .bool zl, .int .i64 zm, .int .i64 zp] 40);
               have l9 : w9.heap.size < (w9.alloc (.cells #[.string zn, .bool zl, .int .i64 zm, .int .i64 zp] 40)).heap.size := by simp)
           | (refine step_append_lies _ (by rfl) _ _ _ (by rfl) (D + 1) 40 i0 (.agg #[.string ByteArray.empty, .bool false, .int .i64 0, .int .i64 0]) 4 40 Tryd.underlying49 hi iz0 iz1 iz2 rfl (by omega) sv acc.length ys (by rfl) (g9.own.alloc _)
               ⟨w9.heap.size, 0, none⟩ 1 1 [.string zn, .bool zl, .int .i64 zm, .int .i64 zp] (by rfl) (by rfl) (rd_news w9 _ _) (by simp [Value.oneCell'])
               (by omega) (by unfold maxLen; omega) (by omega) (by simp; omega) (w9.heap.size + 1) (by simp) ?_;
              intro gg cap w5 hown5 hgrow5 hat hlt5;
              have f5 : w5.cell? ⟨D, 2, none⟩ = some sv := hgrow5.cell a9 hne;
              have r5 : w5.frozen? ⟨D, 2, none⟩ = false := (hgrow5.frozen_far ⟨D, 2, none⟩ (show D < (w9.alloc _).heap.size from by simp; omega) hne).trans (free_of_block (heap_keep _ _ D9))))
          all_goals
           go_wp2_with fail
           have k9 := (Below.refl w9.heap.size w9).alloc (Nat.le_refl _) (.cells #[.string zn, .bool zl, .int .i64 zm, .int .i64 zp] 40)
           have hpu := (g9.below k9).box0 (j := 2) (x := ⟨zn, zl, zm, zp⟩) (cs := [.string zn, .bool zl, .int .i64 zm, .int .i64 zp]) (Below.refl _ _) hown5 hgrow5 (own_new hat (by simp)) rfl (fun X => show smR X _ ⟨zn, zl, zm, zp⟩ from rfl) (Nat.lt_succ_self D) (heap_keep _ _ D9)
           have hq := hpu.2.2.1 w.heap.size (by omega)
           have hT9 : Turns (only a) w (w9.alloc (.cells #[.string zn, .bool zl, .int .i64 zm, .int .i64 zp] 40)) := ((hT.trans (Turns.of_below (S := only a) (Below.refl V4.heap.size V4).drew) (fun _ _ h => h)).trans ht9 (fun _ _ h => h)).alloc _
           go_meet
           case rel => exact ⟨_, _, (h9.ahead k9).far hq ha hlt, hT9.far hq, hpu.2.1, by have := (hpu.2.2.1 w.heap.size (by omega)).size; simp at this ⊢; omega, hpu.1⟩
         case rest =>
          clear d2 hown hob hne HC4 hR hT hD hDs4 hg
          obtain ⟨sv, ys, hR, hT, hD, hDs, hg⟩ := hcut
          rename World => V5
          have HE := Lib.hid (HS1.out H6.out)
          clear HS1 HS6
          go_wp2_with fail
          go_roundg (L.length - m2)
          case rel => exact ⟨m2, sv, ys, _, by omega, hR, hT, hD, hDs, hg, HE, hDb.2, by omega, by simp; omega⟩
          case measure => omega
     case rest =>
      clear h2 ht2 D1 D2 hs2
      obtain ⟨m, sv, ys, acc, hR, hT, hD, hDs, hg, HE, hm, hnm, hal⟩ := hcut
      rename World => V
      have hD2 : V.cell? ⟨D, 2, none⟩ = some sv := cell_of_row _ _ 2 _ _ _ hD
      obtain ⟨sa, sc, rfl⟩ := rd_slice hg.own
      have hnB : ∀ b, b < w.heap.size → only a b → b = a := fun b _ h => h
      have hTB : Turns (beh a B) w V := hT.mono (fun b _ h => .inl h)
      have hgw : GrowL B 51 4 dcR Sd V dv xs ds := HG.out.1.keep (fun b hb => hT.block b (HG.out.1.lt b hb) (fun e => by unfold only at e; have : B ≤ b := hb.elim (HG.out.2 b) (fun h => own_base HG.out.1.own (Nat.le_refl _) b h); omega))
      by_cases h0 : acc = []
      · subst h0
        have hF : Hid (RES = .bad (L.drop m)) := Lib.hid (by rw [HQ.out, HE.out]; exact if_pos rfl)
        clear HE HQ HG hg
        have hl0 : ([] : List Sm).length = 0 := rfl
        go_wp2_with fail
        go_ret
        exact .inr ⟨m, hF.out, hm, by simp, hR, hTB⟩
      · have hF : Hid (RES = .ok ⟨k, yt, acc, xp⟩ (L.drop m)) := Lib.hid (by rw [HQ.out, HE.out]; exact if_neg h0)
        have hl1 : 0 < acc.length := List.length_pos_iff.2 h0
        have hb0 : ((acc.length : Nat) : Int) ≠ 0 := by omega
        have hbe : (((acc.length : Nat) : Int) == 0) = false := by rw [beq_eq_false_iff_ne]; exact hb0
        clear HE HQ h0
        have HF := Lib.hid (hg.firm (by omega))
        have hgb : ∀ b, (False ∨ (Value.slice sa acc.length sc).ownBlock = some b) → D + 1 ≤ b := fun b hb => hb.elim (fun h => h.elim) (fun h => own_base hg.own (Nat.le_refl _) b h)
        have HGB := Lib.hid hgb
        clear hg hgb
        have hown := hgw.own
        have HGV := Lib.hid hgw
        have HT := Lib.hid hT
        have hod := fun g (h : dv.ownBlock = some g) => own_base hown (Nat.le_refl _) g h
        have hne : some a ≠ dv.ownBlock := fun h => by have := hod a h.symm; omega
        obtain ⟨i0, hi, iz0, iz1, iz2⟩ := rd_info rdInfoDecl
        go_upto_region 11 with fail
        obtain ⟨_, _, _, _, c4, _⟩ := hR.cells
        have f4 := hR.free 4
        have d0 : V.cell? ⟨D, 0, none⟩ = some (.int .i64 k) := cell_of_row _ _ 0 _ _ _ hD
        have d1 : V.cell? ⟨D, 1, none⟩ = some (.string yt) := cell_of_row _ _ 1 _ _ _ hD
        have d3 : V.cell? ⟨D, 3, none⟩ = some (.int .i64 xp) := cell_of_row _ _ 3 _ _ _ hD
        have c4a := rdCell_alloc c4 (.cells #[.int .i64 k, .string yt, .slice sa acc.length sc, .int .i64 xp] 51)
        have f4a : (V.alloc (.cells #[.int .i64 k, .string yt, .slice sa acc.length sc, .int .i64 xp] 51)).frozen? ⟨a, 4, none⟩ = false := free_of_block (heap_keep _ _ hR.row)
        have haV := hR.lt
        go_region_law (first
         | (refine step_append_lies _ (by rfl) _ _ _ (by rfl) B 51 i0 (.agg #[.int .i64 0, .string ByteArray.empty, .slice none 0 0, .int .i64 0]) 4 56 Tryd.underlying26 hi iz0 iz1 iz2 rfl (by omega) dv ds.length xs (by rfl) (by first | exact hown.drew.alloc _ | exact (hown.alloc _).drew)
             ⟨V.heap.size, 0, none⟩ 1 1 [.int .i64 k, .string yt, .slice sa acc.length sc, .int .i64 xp] (by rfl) (by rfl) (by first | exact rd_news V.drew _ _ | exact rd_news V _ _) (by simp [Value.oneCell'])
             (by omega) (by unfold maxLen; omega) (by omega) (by simp; omega) (V.heap.size + 1) (by simp) ?_;
            intro gg cap w5 hown5 hgrow5 hat hlt5;
            have f5 : w5.cell? ⟨a, 4, none⟩ = some dv := hgrow5.cell c4a hne;
            have r5 : w5.frozen? ⟨a, 4, none⟩ = false := (hgrow5.frozen_far ⟨a, 4, none⟩ (show a < (V.alloc _).heap.size from by simp; omega) hne).trans f4a))
        all_goals
         go_wp2_with fail
         have kO : Below V.heap.size V (V.alloc (.cells #[.int .i64 k, .string yt, .slice sa acc.length sc, .int .i64 xp] 51)).drew := ((Below.refl V.heap.size V).alloc (Nat.le_refl _) _).drew
         have hgV := HGV.out
         have hVs := HT.out.size
         have hpu := GrowL.box (j := 4) (B := a) (x := (⟨k, yt, acc, xp⟩ : Dc)) (cs := [.int .i64 k, .string yt, .slice sa acc.length sc, .int .i64 xp]) (R := dcR) hgV (w := (V.alloc (.cells #[.int .i64 k, .string yt, .slice sa acc.length sc, .int .i64 xp] 51)).drew) kO hown5 hgrow5 (own_new hat (by simp)) rfl
          (Firm.imp (HF.out.below kO) (fun w' hw' => ⟨.slice sa acc.length sc, rfl, hw'⟩)) (fun g hg' hS' => by have h1 := HGB.out g hS'; have h2 := (HG.out.1.own.lt g hg').2; omega) haB hR.row (fun b hb => by rcases hb with hb | hb; (have := HG.out.2 b hb; omega); (have := HGB.out b hb; omega))
         have hbl := hpu.2.2.1 a (Nat.le_refl _)
         have hbl0 := hpu.2.2.1 w0.heap.size HI.out.lt
         go_ret
         exact .inl ⟨⟨k, yt, acc, xp⟩, m, _, _, _, hF.out, hm, hnm, by simp, ⟨(hR.below.trans (kO.mono hR.below.size)).trans hbl0, hpu.2.1⟩, hpu.1, fun b hb => hb.elim (HG.out.2 b) (fun hb => by have := HGB.out b hb; omega),
          ⟨hbl.os.trans (kO.os.trans HT.out.os), hbl.tape.trans (kO.tape.trans HT.out.tape), hbl.output.trans (kO.output.trans HT.out.output), Nat.le_trans HT.out.size (Nat.le_trans kO.size hbl.size), fun b hb hnb => by
           unfold beh at hnb
           have hb1 : b ≠ a := fun e => hnb (.inl e)
           have hb2 : b < B := Nat.lt_of_not_le (fun e => hnb (.inr e))
           exact (hpu.2.2.2 b (by have := kO.size; omega) hb1 hb2).trans ((kO.block b (by omega)).trans (HT.out.block b hb hb1))⟩⟩

   · have hb4 : (yk == 4) = false := by simp [h4]
     by_cases h5 : k = 5
     · have hb5 : (k == 5) = true := by simp [h5]
       have HF : Hid (RES = .bad (L.drop (n + 1))) := Lib.hid (by rw [HP.out, HTg.out, if_neg (show ¬ (k ≠ 6 ∧ yk = 4) from fun h => h4 h.2), if_pos (show k = 5 ∧ yk ≠ 4 from ⟨h5, h4⟩)])
       clear h6 h4 h5 HP HTg
       go_enter Tryd.func94, Tryd.ntmps94
       go_upto_region 2 with (first | (go_at_call 92; (with_reducible refine hTk.out.mono ?_); rintro e w1 ⟨rfl, h1, ht1⟩))
       have hs1 := ht1.size
       have D1 := heap_made w1 #[.int .i64 k, .string ⟨#[]⟩, .slice none 0 0, .int .i64 xp] 51 _ rfl
       have h2 := h1.ahead ((Below.refl w1.heap.size w1).alloc (Nat.le_refl _) (.cells #[.int .i64 k, .string ⟨#[]⟩, .slice none 0 0, .int .i64 xp] 51))
       have ht2 := ht1.alloc (.cells #[.int .i64 k, .string ⟨#[]⟩, .slice none 0 0, .int .i64 xp] 51)
       have hs2 : w1.heap.size + 1 ≤ (w1.alloc (.cells #[.int .i64 k, .string ⟨#[]⟩, .slice none 0 0, .int .i64 xp] 51)).heap.size := by simp
       generalize hDD : w1.heap.size = D at D1 hs1 hs2 ⊢
       clear hDD
       generalize w1.alloc (.cells #[.int .i64 k, .string ⟨#[]⟩, .slice none 0 0, .int .i64 xp] 51) = w2 at D1 h2 ht2 hs2 ⊢
       clear h1 ht1 hTk
       have hDa : D ≠ a := by omega
       have HW2 := Lib.hid (HW.out w2 h2)
       go_wp2_with (first | (go_at_call 28; (with_reducible refine HW2.out.mono ?_); rintro e w4 ⟨rfl, hw4⟩))
       go_ret
       exact .inr ⟨n + 1, HF.out, hn1, by simp, h2.ahead hw4, (ht2.far (hw4.mono ht2.size)).mono (fun b _ h => .inl h)⟩
     · have hb5 : (k == 5) = false := by simp [h5]
       have HQ : Hid (RES = if (rdSyms k (L.drop (n + 1))).1 = [] then .bad (rdSyms k (L.drop (n + 1))).2 else .ok ⟨k, ByteArray.empty, (rdSyms k (L.drop (n + 1))).1, xp⟩ (rdSyms k (L.drop (n + 1))).2) := Lib.hid (by rw [HP.out, HTg.out, if_neg (show ¬ (k ≠ 6 ∧ yk = 4) from fun h => h4 h.2), if_neg (show ¬ (k = 5 ∧ yk ≠ 4) from fun h => h5 h.1)])
       have HN2 := Lib.hid (show n + 1 < L.length ∧ n < n + 1 from ⟨hn1, Nat.lt_succ_self _⟩)
       clear h6 h4 h5 HP HTg
       go_enter Tryd.func94, Tryd.ntmps94
       go_upto_region 2 with (first | (go_at_call 92; (with_reducible refine hTk.out.mono ?_); rintro e w1 ⟨rfl, h1, ht1⟩))
       have hs1 := ht1.size
       have D1 := heap_made w1 #[.int .i64 k, .string ⟨#[]⟩, .slice none 0 0, .int .i64 xp] 51 _ rfl
       have h2 := h1.ahead ((Below.refl w1.heap.size w1).alloc (Nat.le_refl _) (.cells #[.int .i64 k, .string ⟨#[]⟩, .slice none 0 0, .int .i64 xp] 51))
       have ht2 := ht1.alloc (.cells #[.int .i64 k, .string ⟨#[]⟩, .slice none 0 0, .int .i64 xp] 51)
       have hs2 : w1.heap.size + 1 ≤ (w1.alloc (.cells #[.int .i64 k, .string ⟨#[]⟩, .slice none 0 0, .int .i64 xp] 51)).heap.size := by simp
       generalize hDD : w1.heap.size = D at D1 hs1 hs2 ⊢
       clear hDD
       generalize w1.alloc (.cells #[.int .i64 k, .string ⟨#[]⟩, .slice none 0 0, .int .i64 xp] 51) = w2 at D1 h2 ht2 hs2 ⊢
       clear h1 ht1 hTk
       have hDa : D ≠ a := by omega
       have HW2 := Lib.hid (HW.out w2 h2)
       go_upto_block 0 with (first | (go_at_call 28; (with_reducible refine HW2.out.mono ?_); rintro e w4 ⟨rfl, hw4⟩))
       replace h2 := h2.ahead hw4
       replace D1 := block_below D1 hw4 (by omega)
       replace ht2 := ht2.far (hw4.mono ht2.size)
       have hs4 := hw4.size
       replace hs2 : D + 1 ≤ w4.heap.size := by omega
       clear HW2 hw4 hs4
       have hn2 := HN2.out
       generalize n + 1 = q at h2 hn2 HQ ⊢
       clear HN2
       have D2 : w4.cell? ⟨D, 2, none⟩ = some (.slice none 0 0) := cell_of_row _ _ 2 _ _ _ D1
       go_cut [] from 25 to 37 (fun wx => ∃ (m : Nat) (sv : Value) (ys : List Value) (acc : List Sm), RdAt w0 wx a wv m hp pro dv rv ∧ Turns (only a) w wx ∧ wx.heap[D]? = some (.cells #[.int .i64 k, .string ⟨#[]⟩, sv, .int .i64 xp] 51 (0, 0)) ∧ D + 1 ≤ wx.heap.size ∧ GrowL (D + 1) 40 4 smR (fun _ => False) wx sv ys acc ∧ Hid (rdSyms k (L.drop q) = (acc, L.drop m)) ∧ m < L.length ∧ n < m ∧ acc.length ≤ 100000)
       case first =>
        go_wp2_with fail
        go_loopg [] L.length (fun gg V => ∃ (m : Nat) (sv : Value) (ys : List Value) (acc : List Sm), L.length ≤ m + gg ∧ RdAt w0 V a wv m hp pro dv rv ∧ Turns (only a) w V ∧ V.heap[D]? = some (.cells #[.int .i64 k, .string ⟨#[]⟩, sv, .int .i64 xp] 51 (0, 0)) ∧ D + 1 ≤ V.heap.size ∧ GrowL (D + 1) 40 4 smR (fun _ => False) V sv ys acc ∧ Hid (SymsTo k L q acc m) ∧ m < L.length ∧ n < m ∧ acc.length ≤ m)
        case atStart => exact ⟨q, _, [], [], by omega, h2, ht2, D1, hs2, GrowL.nil _ _ _ _ _, Lib.hid (SymsTo.none _ _ _), by omega, by omega, Nat.zero_le _⟩
        case round =>
         clear h2 ht2 D1 D2 hs2
         obtain ⟨m, sv, ys, acc, hgg, hR, hT, hD, hDs, hg, HX, hm, hnm, hal⟩ := hrel
         rename World => V
         have hDc := Lib.hid (declares_any HI.out hR hm k)
         cases hdb : declaresB k (wAt L m) with
         | false =>
           rw [hdb] at hDc
           have HE := Lib.hid (HX.out.stop (syms_stop hm hdb))
           clear hdb HX
           go_wp2_with (first | (go_at_call 116; (with_reducible refine hDc.out.mono ?_); rintro e w4 ⟨rfl, hw4⟩))
           go_meet
           case rel => exact ⟨m, sv, ys, acc, hR.ahead hw4, hT.far (hw4.mono hT.size), block_below hD hw4 (by omega), Nat.le_trans hDs hw4.size, hg.below hw4, HE, hm, hnm, by omega⟩
         | true =>
           rw [hdb] at hDc
           have hDb := declN_bd HI.out.ok hm hdb
           have HC := Lib.hid (fun (X : World) (hX : RdAt w0 X a wv m hp pro dv rv) => declared_any HA HI.out hX hm k hdb)
           have HS1 : Hid (k ≠ 6 → SymsTo k L q (acc ++ [declX k L m]) (declN k L m)) := Lib.hid (fun h6 => HX.out.step (syms_one hm h6 hdb))
           have HS6 : Hid (k = 6 → rdSyms k (L.drop q) = (acc ++ [declX k L m], L.drop (declN k L m))) := Lib.hid (fun h6 => by subst h6; rw [declN_six, declX_six]; exact HX.out.start hm hdb)
           clear hdb HX
           generalize declN k L m = m2 at HC HS1 HS6 hDb
           generalize declX k L m = X at HC HS1 HS6
           obtain ⟨zn, zl, zm, zp⟩ := X
           unfold Sm.agg at HC
           simp only at HC
           go_upto_region 7 with (first | (go_at_call 116; (with_reducible refine hDc.out.mono ?_); rintro e V4 ⟨rfl, hw4⟩))
           replace hR := hR.ahead hw4
           replace hT := hT.far (hw4.mono hT.size)
           replace hD := block_below hD hw4 (by omega)
           replace hg := hg.below hw4
           have hDs4 : D + 1 ≤ V4.heap.size := Nat.le_trans hDs hw4.size
           clear hDs hw4 hDc
           have d2 : V4.cell? ⟨D, 2, none⟩ = some sv := cell_of_row _ _ 2 _ _ _ hD
           have hown := hg.own
           have hob := fun g (h : sv.ownBlock = some g) => own_base hown (Nat.le_refl _) g h
           have hne : some D ≠ sv.ownBlock := fun h => by have := hob D h.symm; omega
           have HC4 := Lib.hid (HC.out V4.drew (hR.ahead (Below.refl _ _).drew))
           obtain ⟨i0, hi, iz0, iz1, iz2⟩ := rd_info rdInfoSym
           go_cut [] from 28 to 35 (fun wx => ∃ (sv : Value) (ys : List Value), RdAt w0 wx a wv m2 hp pro dv rv ∧ Turns (only a) w wx ∧ wx.heap[D]? = some (.cells #[.int .i64 k, .string ⟨#[]⟩, sv, .int .i64 xp] 51 (0, 0)) ∧ D + 1 ≤ wx.heap.size ∧ GrowL (D + 1) 40 4 smR (fun _ => False) wx sv ys (acc ++ [⟨zn, zl, zm, zp⟩]))
           case first =>
            go_region_law (first
             | (go_simp; go_at_call 117; (with_reducible refine HC4.out.mono ?_); rintro e w9 ⟨rfl, h9, ht9⟩;
                 have D9 := ht9.heap hD (show ¬ only a D from hDa);
                 have g9 : GrowL (D + 1) 40 4 smR (fun _ => False) w9 sv ys acc := hg.keep (fun b hb => by rcases hb with hb | hb; exact hb.elim; exact ht9.block b (hown.lt b hb).2 (fun e => by have := hob b hb; unfold only at e; omega));
                 have c9 : w9.cell? ⟨D, 2, none⟩ = some sv := cell_of_row _ _ 2 _ _ _ D9;
                 have s9 : D + 1 ≤ w9.heap.size := Nat.le_trans hDs4 ht9.size;
                 have b9 : w9.alloc (.cells #[.string zn, .bool zl, .int .i64 zm, .int .i64 zp] 40) = w9.alloc (.cells #[.string zn, .bool zl, .int .i64 zm, .int .i64 zp] 40) := rfl;
                 have a9 := rdCell_alloc c9 (.cells #[.string zn, .bool zl, .int .i64 zm, .int .i64 zp] 40);
                 have l9 : w9.heap.size < (w9.alloc (.cells #[.string zn, .bool zl, .int .i64 zm, .int .i64 zp] 40)).heap.size := by simp)
             | (refine step_append_lies _ (by rfl) _ _ _ (by rfl) (D + 1) 40 i0 (.agg #[.string ByteArray.empty, .bool false, .int .i64 0, .int .i64 0]) 4 40 Tryd.underlying49 hi iz0 iz1 iz2 rfl (by omega) sv acc.length ys (by rfl) (g9.own.alloc _)
                 ⟨w9.heap.size, 0, none⟩ 1 1 [.string zn, .bool zl, .int .i64 zm, .int .i64 zp] (by rfl) (by rfl) (rd_news w9 _ _) (by simp [Value.oneCell'])
                 (by omega) (by unfold maxLen; omega) (by omega) (by simp; omega) (w9.heap.size + 1) (by simp) ?_;
                intro gg cap w5 hown5 hgrow5 hat hlt5;
                have f5 : w5.cell? ⟨D, 2, none⟩ = some sv := hgrow5.cell a9 hne;
                have r5 : w5.frozen? ⟨D, 2, none⟩ = false := (hgrow5.frozen_far ⟨D, 2, none⟩ (show D < (w9.alloc _).heap.size from by simp; omega) hne).trans (free_of_block (heap_keep _ _ D9))))
            all_goals
             go_wp2_with fail
             have k9 := (Below.refl w9.heap.size w9).alloc (Nat.le_refl _) (.cells #[.string zn, .bool zl, .int .i64 zm, .int .i64 zp] 40)
             have hpu := (g9.below k9).box0 (j := 2) (x := ⟨zn, zl, zm, zp⟩) (cs := [.string zn, .bool zl, .int .i64 zm, .int .i64 zp]) (Below.refl _ _) hown5 hgrow5 (own_new hat (by simp)) rfl (fun X => show smR X _ ⟨zn, zl, zm, zp⟩ from rfl) (Nat.lt_succ_self D) (heap_keep _ _ D9)
             have hq := hpu.2.2.1 w.heap.size (by omega)
             have hT9 : Turns (only a) w (w9.alloc (.cells #[.string zn, .bool zl, .int .i64 zm, .int .i64 zp] 40)) := ((hT.trans (Turns.of_below (S := only a) (Below.refl V4.heap.size V4).drew) (fun _ _ h => h)).trans ht9 (fun _ _ h => h)).alloc _
             go_meet
             case rel => exact ⟨_, _, (h9.ahead k9).far hq ha hlt, hT9.far hq, hpu.2.1, by have := (hpu.2.2.1 w.heap.size (by omega)).size; simp at this ⊢; omega, hpu.1⟩
           case rest =>
            clear d2 hown hob hne HC4 hR hT hD hDs4 hg
            obtain ⟨sv, ys, hR, hT, hD, hDs, hg⟩ := hcut
            rename World => V5
            have HE := Lib.hid (HS1.out H6.out)
            clear HS1 HS6
            go_wp2_with fail
            go_roundg (L.length - m2)
            case rel => exact ⟨m2, sv, ys, _, by omega, hR, hT, hD, hDs, hg, HE, hDb.2, by omega, by simp; omega⟩
            case measure => omega
       case rest =>
        clear h2 ht2 D1 D2 hs2
        obtain ⟨m, sv, ys, acc, hR, hT, hD, hDs, hg, HE, hm, hnm, hal⟩ := hcut
        rename World => V
        have hD2 : V.cell? ⟨D, 2, none⟩ = some sv := cell_of_row _ _ 2 _ _ _ hD
        obtain ⟨sa, sc, rfl⟩ := rd_slice hg.own
        have hnB : ∀ b, b < w.heap.size → only a b → b = a := fun b _ h => h
        have hTB : Turns (beh a B) w V := hT.mono (fun b _ h => .inl h)
        have hgw : GrowL B 51 4 dcR Sd V dv xs ds := HG.out.1.keep (fun b hb => hT.block b (HG.out.1.lt b hb) (fun e => by unfold only at e; have : B ≤ b := hb.elim (HG.out.2 b) (fun h => own_base HG.out.1.own (Nat.le_refl _) b h); omega))
        by_cases h0 : acc = []
        · subst h0
          have hF : Hid (RES = .bad (L.drop m)) := Lib.hid (by rw [HQ.out, HE.out]; exact if_pos rfl)
          clear HE HQ HG hg
          have hl0 : ([] : List Sm).length = 0 := rfl
          go_wp2_with fail
          go_ret
          exact .inr ⟨m, hF.out, hm, by simp, hR, hTB⟩
        · have hF : Hid (RES = .ok ⟨k, ⟨#[]⟩, acc, xp⟩ (L.drop m)) := Lib.hid (by rw [HQ.out, HE.out]; exact if_neg h0)
          have hl1 : 0 < acc.length := List.length_pos_iff.2 h0
          have hb0 : ((acc.length : Nat) : Int) ≠ 0 := by omega
          have hbe : (((acc.length : Nat) : Int) == 0) = false := by rw [beq_eq_false_iff_ne]; exact hb0
          clear HE HQ h0
          have HF := Lib.hid (hg.firm (by omega))
          have hgb : ∀ b, (False ∨ (Value.slice sa acc.length sc).ownBlock = some b) → D + 1 ≤ b := fun b hb => hb.elim (fun h => h.elim) (fun h => own_base hg.own (Nat.le_refl _) b h)
          have HGB := Lib.hid hgb
          clear hg hgb
          have hown := hgw.own
          have HGV := Lib.hid hgw
          have HT := Lib.hid hT
          have hod := fun g (h : dv.ownBlock = some g) => own_base hown (Nat.le_refl _) g h
          have hne : some a ≠ dv.ownBlock := fun h => by have := hod a h.symm; omega
          obtain ⟨i0, hi, iz0, iz1, iz2⟩ := rd_info rdInfoDecl
          go_upto_region 11 with fail
          obtain ⟨_, _, _, _, c4, _⟩ := hR.cells
          have f4 := hR.free 4
          have d0 : V.cell? ⟨D, 0, none⟩ = some (.int .i64 k) := cell_of_row _ _ 0 _ _ _ hD
          have d1 : V.cell? ⟨D, 1, none⟩ = some (.string ⟨#[]⟩) := cell_of_row _ _ 1 _ _ _ hD
          have d3 : V.cell? ⟨D, 3, none⟩ = some (.int .i64 xp) := cell_of_row _ _ 3 _ _ _ hD
          have c4a := rdCell_alloc c4 (.cells #[.int .i64 k, .string ⟨#[]⟩, .slice sa acc.length sc, .int .i64 xp] 51)
          have f4a : (V.alloc (.cells #[.int .i64 k, .string ⟨#[]⟩, .slice sa acc.length sc, .int .i64 xp] 51)).frozen? ⟨a, 4, none⟩ = false := free_of_block (heap_keep _ _ hR.row)
          have haV := hR.lt
          go_region_law (first
           | (refine step_append_lies _ (by rfl) _ _ _ (by rfl) B 51 i0 (.agg #[.int .i64 0, .string ByteArray.empty, .slice none 0 0, .int .i64 0]) 4 56 Tryd.underlying26 hi iz0 iz1 iz2 rfl (by omega) dv ds.length xs (by rfl) (by first | exact hown.drew.alloc _ | exact (hown.alloc _).drew)
               ⟨V.heap.size, 0, none⟩ 1 1 [.int .i64 k, .string ⟨#[]⟩, .slice sa acc.length sc, .int .i64 xp] (by rfl) (by rfl) (by first | exact rd_news V.drew _ _ | exact rd_news V _ _) (by simp [Value.oneCell'])
               (by omega) (by unfold maxLen; omega) (by omega) (by simp; omega) (V.heap.size + 1) (by simp) ?_;
              intro gg cap w5 hown5 hgrow5 hat hlt5;
              have f5 : w5.cell? ⟨a, 4, none⟩ = some dv := hgrow5.cell c4a hne;
              have r5 : w5.frozen? ⟨a, 4, none⟩ = false := (hgrow5.frozen_far ⟨a, 4, none⟩ (show a < (V.alloc _).heap.size from by simp; omega) hne).trans f4a))
          all_goals
           go_wp2_with fail
           have kO : Below V.heap.size V (V.alloc (.cells #[.int .i64 k, .string ⟨#[]⟩, .slice sa acc.length sc, .int .i64 xp] 51)).drew := ((Below.refl V.heap.size V).alloc (Nat.le_refl _) _).drew
           have hgV := HGV.out
           have hVs := HT.out.size
           have hpu := GrowL.box (j := 4) (B := a) (x := (⟨k, ⟨#[]⟩, acc, xp⟩ : Dc)) (cs := [.int .i64 k, .string ⟨#[]⟩, .slice sa acc.length sc, .int .i64 xp]) (R := dcR) hgV (w := (V.alloc (.cells #[.int .i64 k, .string ⟨#[]⟩, .slice sa acc.length sc, .int .i64 xp] 51)).drew) kO hown5 hgrow5 (own_new hat (by simp)) rfl
            (Firm.imp (HF.out.below kO) (fun w' hw' => ⟨.slice sa acc.length sc, rfl, hw'⟩)) (fun g hg' hS' => by have h1 := HGB.out g hS'; have h2 := (HG.out.1.own.lt g hg').2; omega) haB hR.row (fun b hb => by rcases hb with hb | hb; (have := HG.out.2 b hb; omega); (have := HGB.out b hb; omega))
           have hbl := hpu.2.2.1 a (Nat.le_refl _)
           have hbl0 := hpu.2.2.1 w0.heap.size HI.out.lt
           go_ret
           exact .inl ⟨⟨k, ⟨#[]⟩, acc, xp⟩, m, _, _, _, hF.out, hm, hnm, by simp, ⟨(hR.below.trans (kO.mono hR.below.size)).trans hbl0, hpu.2.1⟩, hpu.1, fun b hb => hb.elim (HG.out.2 b) (fun hb => by have := HGB.out b hb; omega),
            ⟨hbl.os.trans (kO.os.trans HT.out.os), hbl.tape.trans (kO.tape.trans HT.out.tape), hbl.output.trans (kO.output.trans HT.out.output), Nat.le_trans HT.out.size (Nat.le_trans kO.size hbl.size), fun b hb hnb => by
             unfold beh at hnb
             have hb1 : b ≠ a := fun e => hnb (.inl e)
             have hb2 : b < B := Nat.lt_of_not_le (fun e => hnb (.inr e))
             exact (hpu.2.2.2 b (by have := kO.size; omega) hb1 hb2).trans ((kO.block b (by omega)).trans (HT.out.block b hb hb1))⟩⟩

end
end Go.Proofs.YtnoppoifepbchaaDoor
