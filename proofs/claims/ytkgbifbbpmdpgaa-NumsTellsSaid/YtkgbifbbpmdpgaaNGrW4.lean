/- The source of a grammar by numbers, walked. -/
import Derived.Test.YtkgbifbbpmdpgaaNGrL2
import Derived.Test.YtkgbifbbpmdpgaaNBox
import Derived.Deep.RegionLaw
import Derived.Deep.OwnRows
import Derived.Deep.CutRange
import Derived.Deep.CutBlock
import Derived.Outline
import Derived.IntWalk
import Derived.Deep.DeepCutAuto
import Derived.Deep.Cut
set_option linter.unusedVariables false
set_option linter.unusedSimpArgs false
namespace Go.Proofs.Ytkgbifbbpmdpgaa

open Go.RowKit
set_option maxRecDepth 100000 in
set_option maxHeartbeats 100000000 in
theorem source_any (v : Value) (g : Gr) (w : World) (hv : GrV w v g) (hi : GrIn g) : Calls Try.prog 12 #[v] w (SrcGo (srcG g) w) := by
 obtain ⟨rv, lv, iv, rfl, hrv, hlv, hiv⟩ := hv.is
 have hN : (1 : Int) + ((g.nons % 4).toNat : Int) = (nonsG g : Int) := by unfold nonsG; omega
 have hN14 := nonsG_pos g
 have HWn : Hid (∀ W, Calls Try.prog 20 #[.int .i64 g.nons, .int .i64 4] W fun e w' => e = .returned (.int .i64 ((g.nons % 4).toNat : Int)) ∧ W = w') := Lib.hid (fun W => by
  rw [show (((g.nons % 4).toNat : Nat) : Int) = g.nons % ((4 : Nat) : Int) by omega]
  exact within_any g.nons 4 W hi.nons (by omega) (by omega))
 have HDe := Lib.hid (fun (W : World) (h : Below w.heap.size w W) => gDecls_any lv g.levels W (hlv.below h) hi.levels)
 unfold gDeclsGo at HDe
 have HLv := Lib.hid hi.levels
 have HRi := Lib.hid hi.rules
 have HIi := Lib.hid (fun k => inW_at hi.inner k)
 obtain ⟨a1, n1, c1, rfl, hn1, hc1, hm1, hx1⟩ := hrv.open
 obtain ⟨a2, n2, c2, rfl, hn2, hc2, hm2, hx2⟩ := hlv.open
 obtain ⟨a3, n3, c3, rfl, hn3, hc3, hm3, hx3⟩ := hiv.open
 have HSD : Hid (declsG g.levels = (dSt g.levels (min g.levels.length 4)).map dcOf) := Lib.hid rfl
 have HS : Hid (srcG g = ⟨ByteArray.empty, declsG g.levels, (List.range (nonsG g)).map (rlG (fSt (rSt g (nonsG g) (min g.rules.length 9)).2 g.bare (rSt g (nonsG g) (min g.rules.length 9)).1 (nonsG g))), ByteArray.empty⟩) := Lib.hid rfl
 have HR0 : Hid (rSt g (nonsG g) 0 = (List.replicate (nonsG g) [], List.replicate (nonsG g) false)) := Lib.hid rfl
 have HR1 : Hid (∀ i, rSt g (nonsG g) (i + 1) = rStep (nonsG g) (g.rules.getD i []) (innA g.inner i) (innB g.inner i) (rSt g (nonsG g) i)) := Lib.hid (fun i => rfl)
 have HRL := Lib.hid (fun i => rSt_len g (nonsG g) i)
 have HLA := Lib.hid (fun i k => rSt_small g (nonsG g) i k)
 have HDL := Lib.hid (dSt_len g.levels (min g.levels.length 4))
 generalize srcG g = SRC at HS ⊢
 generalize declsG g.levels = DCL at HS HSD
 generalize dSt g.levels (min g.levels.length 4) = st at HDe HSD HDL
 rw [← hn1.out] at HS
 generalize rSt g (nonsG g) = rs at HS HR0 HR1 HRL HLA
 generalize nonsG g = N at HS HR0 HR1 HRL hN hN14
 generalize (g.nons % 4).toNat = qn at HWn hN
 clear hv hi hrv hlv hiv hx2 hn2 HLv
 obtain ⟨gn, gr, gl, gi, gb⟩ := g
 simp only at *
 have hb1 := (Below.refl w.heap.size w).alloc (Nat.le_refl _) (.cells #[.int .i64 gn, .slice a1 n1 c1, .slice a2 n2 c2, .slice a3 n3 c3, .bool gb] 29)
 have hb2 := hb1.alloc hb1.size (.cells #[.string ⟨#[]⟩, .slice none 0 0, .slice none 0 0, .string ⟨#[]⟩] 25)
 have hg2 := heap_keep (w.alloc (.cells #[.int .i64 gn, .slice a1 n1 c1, .slice a2 n2 c2, .slice a3 n3 c3, .bool gb] 29)) (.cells #[.string ⟨#[]⟩, .slice none 0 0, .slice none 0 0, .string ⟨#[]⟩] 25) (heap_made w #[.int .i64 gn, .slice a1 n1 c1, .slice a2 n2 c2, .slice a3 n3 c3, .bool gb] 29 _ rfl)
 have hr2 := heap_made (w.alloc (.cells #[.int .i64 gn, .slice a1 n1 c1, .slice a2 n2 c2, .slice a3 n3 c3, .bool gb] 29)) #[.string ⟨#[]⟩, .slice none 0 0, .slice none 0 0, .string ⟨#[]⟩] 25 (w.heap.size + 1) (by simp)
 have hs2 : ((w.alloc (.cells #[.int .i64 gn, .slice a1 n1 c1, .slice a2 n2 c2, .slice a3 n3 c3, .bool gb] 29)).alloc (.cells #[.string ⟨#[]⟩, .slice none 0 0, .slice none 0 0, .string ⟨#[]⟩] 25)).heap.size = w.heap.size + 2 := by simp
 have g0 := cell_of_row _ _ 0 _ _ _ hg2
 have g2 := cell_of_row _ _ 2 _ _ _ hg2
 have HDe2 := Lib.hid (HDe.out _ hb2)
 have hmb := fun (W : World) => run_make_row' (P := Try.prog) 80 4 (.bool false) 1 Try.underlying80 gBoolInfo rfl .i64 .i64 N (by omega) (by omega) W
 go_enter Try.func12, Try.ntmps12
 go_upto_region 3 with (first
  | (go_at_call 20; (with_reducible refine (HWn.out _).mono ?_); rintro e w8 ⟨rfl, rfl⟩)
  | (go_at_call 31; (with_reducible refine HDe2.out.mono ?_); rintro e w3 ⟨dvv, dxs, rfl, hDG, hDR, hb3⟩; obtain ⟨da, dc, hdv⟩ := hDG.slice; rw [List.length_map] at hdv; subst hdv))
 have hW2 := hb2.trans (hb3.mono hb2.size)
 have k1 := (Below.refl w3.heap.size w3).alloc (Nat.le_refl _) (.cells #[.string ⟨#[]⟩, .slice da st.length dc, .slice none 0 0, .string ⟨#[]⟩] 25)
 have k2 := k1.alloc k1.size (.cells (madeCells #[.bool false] N) 4)
 have hbox := heap_keep (w3.alloc (.cells #[.string ⟨#[]⟩, .slice da st.length dc, .slice none 0 0, .string ⟨#[]⟩] 25)) (.cells (madeCells #[.bool false] N) 4) (heap_made w3 #[.string ⟨#[]⟩, .slice da st.length dc, .slice none 0 0, .string ⟨#[]⟩] 25 _ rfl)
 have hhas := World.rowIs_made (w3.alloc (.cells #[.string ⟨#[]⟩, .slice da st.length dc, .slice none 0 0, .string ⟨#[]⟩] 25)) (.bool false) N 4
 rw [show (w3.alloc (.cells #[.string ⟨#[]⟩, .slice da st.length dc, .slice none 0 0, .string ⟨#[]⟩] 25)).heap.size = w3.heap.size + 1 by simp] at hhas
 have hs4 : ((w3.alloc (.cells #[.string ⟨#[]⟩, .slice da st.length dc, .slice none 0 0, .string ⟨#[]⟩] 25)).alloc (.cells (madeCells #[.bool false] N) 4)).heap.size = w3.heap.size + 2 := by simp
 have hb4 := hW2.trans (k2.mono hW2.size)
 have HDs : Hid (∀ X : World, (∀ b, w.heap.size + 2 ≤ b → b < w3.heap.size → X.heap[b]? = ((w3.alloc (.cells #[.string ⟨#[]⟩, .slice da st.length dc, .slice none 0 0, .string ⟨#[]⟩] 25)).alloc (.cells (madeCells #[.bool false] N) 4)).heap[b]?) → DcsV X (.slice da st.length dc) DCL) := Lib.hid (fun X hX => by
  rw [HSD.out]
  exact decls_list (hDG.keepX (fun b h1 h2 => (hX b (by rw [hs2] at h1; omega) h2).trans (k2.block b h2))) hDR)
 have hgb : ((w3.alloc (.cells #[.string ⟨#[]⟩, .slice da st.length dc, .slice none 0 0, .string ⟨#[]⟩] 25)).alloc (.cells (madeCells #[.bool false] N) 4)).heap[w.heap.size]? = some (.cells #[.int .i64 gn, .slice a1 n1 c1, .slice a2 n2 c2, .slice a3 n3 c3, .bool gb] 29 (0, 0)) := (k2.block _ (by have := hb3.size; omega)).trans ((hb3.block _ (by omega)).trans hg2)
 have hrb : ((w3.alloc (.cells #[.string ⟨#[]⟩, .slice da st.length dc, .slice none 0 0, .string ⟨#[]⟩] 25)).alloc (.cells (madeCells #[.bool false] N) 4)).heap[w.heap.size + 1]? = some (.cells #[.string ⟨#[]⟩, .slice none 0 0, .slice none 0 0, .string ⟨#[]⟩] 25 (0, 0)) := (k2.block _ (by have := hb3.size; omega)).trans ((hb3.block _ (by omega)).trans hr2)
 have hz3 := hb3.size
 rw [hs2] at hz3
 go_upto_region 4 with fail
 clear HWn HDe HDe2 hmb hb1 hb2 hg2 hr2 g0 g2 hN hW2 k1 k2 hDG hb3 hs2
 generalize ((w3.alloc (.cells #[.string ⟨#[]⟩, .slice da st.length dc, .slice none 0 0, .string ⟨#[]⟩] 25)).alloc (.cells (madeCells #[.bool false] N) 4)) = W4 at hbox hhas hs4 hb4 HDs hgb hrb ⊢
 have hBse : Hid (w3.heap.size = w3.heap.size) := Lib.hid rfl
 generalize hBs : w3.heap.size = Bs at hbox hhas hs4 hz3 HDs ⊢
 generalize hBh : Bs + 1 = Bh at hhas ⊢
 have hBB : Bs < W4.heap.size ∧ Bh < W4.heap.size ∧ Bh ≠ Bs ∧ w.heap.size + 1 < Bs ∧ w.heap.size + 1 < Bh ∧ Bs < Bh := by omega
 obtain ⟨hB1, hB2, hB3, hB4, hB5, hB6⟩ := hBB
 have hM0 : SrcM W4 Bs Bh N (.slice da st.length dc) (.slice none 0 0) (fun _ => false) W4 := ⟨Turns.refl _ _, hbox, hhas⟩
 generalize hDl : st.length = dl at hM0 hbox HDs ⊢
 clear hbox hhas hBse hBs hBh hs4 hz3
 go_upto_block 0 with fail
 go_cut [6] from 24 to 36 (fun (x6 : Value) wx => ∃ (rvs : Value) (xs : List Value), SrcM W4 Bs Bh N (.slice da dl dc) rvs (fun _ => false) wx ∧ GrowRow W4.heap.size 74 3 1 71 6 alR (fun _ => False) wx rvs xs (List.replicate N []) ∧ Hid (RRow xs N))
 case first =>
  go_wp2_with fail
  go_loopw [6] (fun x6 W => ∃ (k : Nat) (rvs : Value) (xs : List Value), k ≤ N ∧ x6 = .int .i64 k ∧ SrcM W4 Bs Bh N (.slice da dl dc) rvs (fun _ => false) W ∧ GrowRow W4.heap.size 74 3 1 71 6 alR (fun _ => False) W rvs xs (List.replicate k []) ∧ Hid (RRow xs k)) (fun x6 _ => N - (intOf x6).toNat)
  case atStart => exact ⟨0, _, [], Nat.zero_le _, rfl, hM0, GrowRow.nil _ _ _ _ _ _ _ _, Lib.hid (fun i h => absurd h (Nat.not_lt_zero _))⟩
  case round =>
   clear hM0
   obtain ⟨k, rvs, xs, hk, rfl, hM, hG, HR⟩ := hrel
   rename World => W
   by_cases hlt : k < N
   · have i1 : (k : Int) < (N : Int) := by omega
     have hk4 : k < 4 := by omega
     have HNo := Lib.hid (fun W => gNon_any k hk4 W)
     have s2 : W.cell? ⟨Bs, 2, none⟩ = some rvs := cell_of_row _ _ 2 _ _ _ hM.box
     have hown := hG.own
     rw [List.length_replicate] at hown
     have hWs := hM.turns.size
     have hne : some Bs ≠ rvs.ownBlock := fun h => by have := (hG.own.lt Bs h.symm).1; omega
     obtain ⟨i0, hi, iz0, iz1, iz2⟩ := rd_info gRuleInfo
     have HO := Lib.hid (fun (W9 : World) (h : Below W.heap.size W W9) => And.intro (own_below hown h) (hM.ahead h))
     clear HSD HS HR0 HR1 HRL HDL HRi HIi hx1 hx3 hDR HDs hgb hrb
     go_upto_region 7 with fail
     go_region_law (first
      | (go_simp; go_at_call 32; (refine (HNo.out _).mono ?_); rintro e w9 ⟨rfl, hb9⟩;
          have h9 : Below W.heap.size W w9 := (Below.refl W.heap.size W).drew.trans hb9;
          have c9 : w9.cell? ⟨Bs, 2, none⟩ = some rvs := (h9.cell (World.block_lt_of_cell? _ _ s2)).trans s2;
          have a9 := rdCell_alloc c9 (.cells #[.string (gNonB k), .slice none 0 0, .int .i64 0] 74);
          have own9 := (HO.out _ h9).1;
          have fr9 := free_of_block (j := 2) (heap_keep _ (.cells #[.string (gNonB k), .slice none 0 0, .int .i64 0] 74) (HO.out _ h9).2.box);
          have l9 : w9.heap.size < (w9.alloc (.cells #[.string (gNonB k), .slice none 0 0, .int .i64 0] 74)).heap.size := (by simp))
      | (refine step_append_lies _ (by rfl) _ _ _ (by rfl) W4.heap.size 74 i0 (.agg #[.string ByteArray.empty, .slice none 0 0, .int .i64 0]) 3 48 Try.underlying23 hi iz0 iz1 iz2 rfl (by omega) rvs k xs (by rfl) (own9.alloc _)
          ⟨w9.heap.size, 0, none⟩ 1 1 [.string (gNonB k), .slice none 0 0, .int .i64 0] (by rfl) (by rfl) (rd_news w9 _ _) (by simp [Value.oneCell'])
          (by omega) (by unfold maxLen; omega) (by omega) (by have := h9.size; simp; omega) (w9.heap.size + 1) (by simp) ?_;
         intro gg cap2 w5 hown5 hgrow5 hat hlt5;
         have f5 : w5.cell? ⟨Bs, 2, none⟩ = some rvs := hgrow5.cell a9 hne;
         have r5 : w5.frozen? ⟨Bs, 2, none⟩ = false := (hgrow5.frozen_far ⟨Bs, 2, none⟩ (show Bs < (w9.alloc (.cells #[.string (gNonB k), .slice none 0 0, .int .i64 0] 74)).heap.size from (by have := h9.size; omega)) hne).trans fr9))
     all_goals
      go_wp2_with fail
      have k9 := h9.alloc h9.size (.cells #[.string (gNonB k), .slice none 0 0, .int .i64 0] 74)
      have hp := (hG.below k9).push (l := []) (u := .slice none 0 0) (cs := [.string (gNonB k), .slice none 0 0, .int .i64 0]) (by omega) (by rw [List.length_replicate]; exact hown5) hgrow5 (own_new hat (by simp)) rfl rfl (GrowL.nil _ _ _ _ _) (fun b hb => by cases hb) (fun i u' b h1 h2 hb => by cases hb)
      have hM5 := (((hM.ahead k9).grown hgrow5 (fun b hb => (hG.own.lt b hb).1) hB1 hB2).store hB3 (.slice (some ⟨gg, 0, none⟩) (k + 1) cap2))
      have hp2 := hp.keep (w' := w5.setCell ⟨Bs, 2, none⟩ (.slice (some ⟨gg, 0, none⟩) (k + 1) cap2)) (fun b h1 _ => Below.heap_setCell _ _ _ _ (show b ≠ Bs by omega)) (by simp)
      rw [show List.replicate k ([] : List Al) ++ [[]] = List.replicate (k + 1) [] from (List.replicate_succ' ..).symm] at hp2
      have HR2 : Hid (RRow (xs ++ [.string (gNonB k), .slice none 0 0, .int .i64 0]) (k + 1)) := Lib.hid (HR.out.push (by have := hG.own.1; rw [List.length_replicate] at this; exact this))
      clear hp k9 hown5 hgrow5 f5 r5 own9 fr9 a9 c9 l9
      go_round
      case rel => exact ⟨k + 1, _, _, by omega, by go_num, hM5, hp2, HR2⟩
      case measure => simp [intOf]; omega
   · obtain rfl : k = N := by omega
     go_wp2_with fail
     go_meet
     case rel => exact ⟨rvs, xs, hM, hG, HR⟩
 case rest =>
  obtain ⟨rvs, xs, hM, hG, HR⟩ := hcut
  rename World => W0
  clear hM0
  have HOld : Hid (∀ V, Turns (fun b => b = Bs ∨ b = Bh) W4 V → ∀ p u, w.cell? p = some u → V.cell? p = some u) := Lib.hid (fun V hT p u hp => by
   have hlt := World.block_lt_of_cell? _ _ hp
   have h4 := (hb4.cell hlt).trans hp
   exact (hT.cell (World.block_lt_of_cell? _ _ h4) (fun e => by rcases (show p.block = Bs ∨ p.block = Bh from e) with e | e <;> omega)).trans h4)
  have HGb : Hid (∀ V, Turns (fun b => b = Bs ∨ b = Bh) W4 V → V.heap[w.heap.size]? = some (.cells #[.int .i64 gn, .slice a1 n1 c1, .slice a2 n2 c2, .slice a3 n3 c3, .bool gb] 29 (0, 0))) := Lib.hid (fun V hT => (hT.block w.heap.size (Array.getElem?_eq_some_iff.1 hgb).1 (fun e => by rcases (show w.heap.size = Bs ∨ w.heap.size = Bh from e) with e | e <;> omega)).trans hgb)
  have hf0 : (fun _ : Nat => false) = fun i => (rs 0).2.getD i false := by
   funext i
   rw [HR0.out, List.getD_eq_getElem?_getD, List.getElem?_replicate]
   split <;> rfl
  rw [hf0] at hM
  have hG0 : GrowRow W4.heap.size 74 3 1 71 6 alR (fun _ => False) W0 rvs xs (rs 0).1 := by rw [HR0.out]; exact hG
  have hhn : ∃ ra rc, rvs = .slice ra N rc := by
   obtain ⟨ra, rc, h⟩ := hG.slice
   exact ⟨ra, rc, by rw [List.length_replicate] at h; exact h⟩
  clear hf0 hG
  go_upto_block 2 with fail
  refine src_loop2 hc1 hm1 hc3 hm3 HLA HR0 HRL hN14 HRi HIi hn1 hx1 hn3 hx3 HR1 hb4 hB1 hB2 hB3 hB4 hB5 hB6 hM HR HOld HGb hG0 hhn (fun u7 u8 u9 u10 u11 u12 u37 u38 u39 u40 u41 u42 u43 u44 u45 u46 u47 u48 u49 u50 u51 u52 u53 u54 u55 u56 u57 u58 u59 u60 u61 u62 u63 u64 u65 u66 u67 u68 u69 u70 u71 u72 u73 u74 u75 u76 u77 u78 u79 u80 u81 u82 u83 u84 u85 u86 u87 u88 u89 u90 u91 u92 u93 u94 u95 u96 u97 u98 u99 u100 u101 u102 u103 u104 u105 u106 u107 u108 u109 u110 u111 u112 u113 u114 u115 u116 u117 u118 u119 u120 u121 u122 u123 u124 u125 u126 u127 u128 u129 u130 u131 u132 u133 u134 u135 u136 u137 u138 u139 u140 u141 u142 u143 u144 u145 u146 u147 u148 u149 u150 u151 u152 u153 u154 u155 u156 u157 u158 u159 u160 u161 u162 u163 u164 u165 u166 u167 u168 u169 u170 u171 u172 wc hcut => ?_)
  clear hM HR
  obtain ⟨xs, S, hM, hG, HR⟩ := hcut
  rename World => W1
  clear HR1 hG0
  have hHL := HRL.out (min n1 9)
  have hAL := fun k => HLA.out (min n1 9) k
  have hFS := fSt_small (rs (min n1 9)).2 gb (rs (min n1 9)).1 (min n1 9) hAL
  have hFL := fSt_len (rs (min n1 9)).2 gb (rs (min n1 9)).1
  rw [hHL.1] at hFL
  have HF0 : Hid (fSt (rs (min n1 9)).2 gb (rs (min n1 9)).1 0 = (rs (min n1 9)).1) := Lib.hid rfl
  have HF1 : Hid (∀ i, fSt (rs (min n1 9)).2 gb (rs (min n1 9)).1 (i + 1) = fStep (rs (min n1 9)).2 gb i (fSt (rs (min n1 9)).2 gb (rs (min n1 9)).1 i)) := Lib.hid (fun i => rfl)
  have hm9 : min n1 9 ≤ 9 := by omega
  rw [← HF0.out] at hG
  generalize fSt (rs (min n1 9)).2 gb (rs (min n1 9)).1 = fs at HS hFS hFL HF1 hG
  generalize (rs (min n1 9)).2 = hasL at hM HF1
  generalize min n1 9 = M9 at hFS hm9
  clear HRL HLA hHL hAL HF0 HR0 hx1 hx3 HIi HRi
  have HFS := Lib.hid hFS
  have HFL := Lib.hid hFL
  clear hFS hFL
  have g4 : Hid (∀ V, Turns (fun b => b = Bs ∨ b = Bh) W4 V → V.cell? ⟨w.heap.size, 4, none⟩ = some (.bool gb)) := Lib.hid (fun V hT => cell_of_row V _ 4 _ _ _ (HGb.out _ hT))
  go_upto_block 6 with fail
  refine src_loop4 hN14 hb4 hB1 hB2 hB3 hB4 hB5 hB6 hm9 HFS HFL HF1 g4 hM hG HR (fun u13 u173 u174 u175 u176 u177 u178 u179 u180 u181 u182 u183 u184 u185 u186 u187 u188 u189 u190 u191 u192 u193 u194 u195 u196 u197 u198 u199 u200 u201 u202 u203 u204 u205 u206 u207 u208 u209 u210 u211 u212 u213 u214 u215 wc hcut => ?_)
  clear hM hG HR
  obtain ⟨xs, S, hM, hG, HR⟩ := hcut
  rename World => W5
  have hfl := HFL.out N
  obtain ⟨ra, rc, hrv⟩ := hhn
  subst hrv
  have s0 := cell_of_row W5 _ 0 _ _ _ hM.box
  have s1 := cell_of_row W5 _ 1 _ _ _ hM.box
  have s2 := cell_of_row W5 _ 2 _ _ _ hM.box
  have s3 := cell_of_row W5 _ 3 _ _ _ hM.box
  have hr5 : W5.heap[w.heap.size + 1]? = some (.cells #[.string ⟨#[]⟩, .slice none 0 0, .slice none 0 0, .string ⟨#[]⟩] 25 (0, 0)) := (hM.turns.block (w.heap.size + 1) (by omega) (fun e => by rcases (show w.heap.size + 1 = Bs ∨ w.heap.size + 1 = Bh from e) with e | e <;> omega)).trans hrb
  have t0 := cell_of_row W5 _ 0 _ _ _ hr5
  have t1 := cell_of_row W5 _ 1 _ _ _ hr5
  have t2 := cell_of_row W5 _ 2 _ _ _ hr5
  have t3 := cell_of_row W5 _ 3 _ _ _ hr5
  have z0 : W5.frozen? ⟨w.heap.size + 1, 0, none⟩ = false := free_of_block hr5
  have z1 : W5.frozen? ⟨w.heap.size + 1, 1, none⟩ = false := free_of_block hr5
  have z2 : W5.frozen? ⟨w.heap.size + 1, 2, none⟩ = false := free_of_block hr5
  have z3 : W5.frozen? ⟨w.heap.size + 1, 3, none⟩ = false := free_of_block hr5
  have hh := block_setCell (j := 3) (u := .string ⟨#[]⟩) (block_setCell (j := 2) (u := .slice ra N rc) (block_setCell (j := 1) (u := .slice da dl dc) (block_setCell (j := 0) (u := .string ⟨#[]⟩) hr5)))
  have hb5 : Below w.heap.size w W5 := hM.turns.to_below hb4 (by omega) (fun b e => by rcases (show b = Bs ∨ b = Bh from e) with e | e <;> omega)
  have hbF := (((hb5.setCell (p := ⟨w.heap.size + 1, 0, none⟩) (Nat.le_succ _) (.string ⟨#[]⟩)).setCell (p := ⟨w.heap.size + 1, 1, none⟩) (Nat.le_succ _) (.slice da dl dc)).setCell (p := ⟨w.heap.size + 1, 2, none⟩) (Nat.le_succ _) (.slice ra N rc)).setCell (p := ⟨w.heap.size + 1, 3, none⟩) (Nat.le_succ _) (.string ⟨#[]⟩)
  have hFo : ∀ b, b ≠ w.heap.size + 1 → ((((W5.setCell ⟨w.heap.size + 1, 0, none⟩ (.string ⟨#[]⟩)).setCell ⟨w.heap.size + 1, 1, none⟩ (.slice da dl dc)).setCell ⟨w.heap.size + 1, 2, none⟩ (.slice ra N rc)).setCell ⟨w.heap.size + 1, 3, none⟩ (.string ⟨#[]⟩)).heap[b]? = W5.heap[b]? := fun b hb => (Below.heap_setCell _ _ _ _ hb).trans ((Below.heap_setCell _ _ _ _ hb).trans ((Below.heap_setCell _ _ _ _ hb).trans (Below.heap_setCell _ _ _ _ hb)))
  have hFs : ((((W5.setCell ⟨w.heap.size + 1, 0, none⟩ (.string ⟨#[]⟩)).setCell ⟨w.heap.size + 1, 1, none⟩ (.slice da dl dc)).setCell ⟨w.heap.size + 1, 2, none⟩ (.slice ra N rc)).setCell ⟨w.heap.size + 1, 3, none⟩ (.string ⟨#[]⟩)).heap.size = W5.heap.size := by simp
  have hW45 := hM.turns.size
  have hFirm : Firm (fun b => w.heap.size + 2 ≤ b ∧ b < W5.heap.size) ((((W5.setCell ⟨w.heap.size + 1, 0, none⟩ (.string ⟨#[]⟩)).setCell ⟨w.heap.size + 1, 1, none⟩ (.slice da dl dc)).setCell ⟨w.heap.size + 1, 2, none⟩ (.slice ra N rc)).setCell ⟨w.heap.size + 1, 3, none⟩ (.string ⟨#[]⟩)) (fun X => SoV X (.agg #[.string ⟨#[]⟩, .slice da dl dc, .slice ra N rc, .string ⟨#[]⟩]) SRC) := ⟨fun b hb => by rw [hFs]; exact hb.2, fun X hX => by
   have hX2 : ∀ b, w.heap.size + 2 ≤ b → b < W5.heap.size → X.heap[b]? = W5.heap[b]? := fun b h1 h2 => (hX b ⟨h1, h2⟩).trans (hFo b (by omega))
   have hd := HDs.out X (fun b h1 h2 => (hX2 b h1 (by omega)).trans (hM.turns.block b (by omega) (fun e => by rcases (show b = Bs ∨ b = Bh from e) with e | e <;> omega)))
   have hr := rules_list (hG.keepX (w' := X) (fun b h1 h2 => hX2 b (by omega) h2)) HR.out hfl
   rw [HS.out]
   exact ⟨_, _, rfl, hd, hr⟩⟩
  clear hG HR HDs HS hM HF1 HFS HFL
  go_wp2_with fail
  exact bodyPost_ret (v := .agg #[.string ⟨#[]⟩, .slice da dl dc, .slice ra N rc, .string ⟨#[]⟩]) (results_cell_row rfl _ _ (w.heap.size + 1) 25 #[.string ⟨#[]⟩, .slice da dl dc, .slice ra N rc, .string ⟨#[]⟩] (0, 0) _ rfl hh Try.underlying25 rfl gSrcInfo) rfl ⟨da, ra, dl, dc, N, rc, _, rfl, hFirm, fun b hb => by omega, hbF⟩
end Go.Proofs.Ytkgbifbbpmdpgaa
