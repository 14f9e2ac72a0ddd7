/- What the laws of comb are given: rows by numbers, rows as they are. -/
import Derived.Test.YtjeebcnjdhlcfaaDoorComb9
namespace Go.Proofs.YtjeebcnjdhlcfaaDoor
open Go.RowKit
set_option linter.unusedVariables false
set_option linter.unusedSimpArgs false

abbrev irowR : World → List Value → List Int → Prop := rowR IntsV
abbrev IRowsV (w : World) (v : Value) (L : List (List Int)) : Prop := ListV 1 irowR w v L
theorem irowR.below {w w' : World} {cs : List Value} {r : List Int} (h : irowR w cs r) (hb : Below w.heap.size w w') : irowR w' cs r := by
  obtain ⟨v, h1, h2⟩ := h; exact ⟨v, h1, h2.below hb⟩
theorem IRowsV.below {w w' : World} {v : Value} {L : List (List Int)} (h : IRowsV w v L) (hb : Below w.heap.size w w') : IRowsV w' v L := ListV.below h (fun _ _ h => irowR.below h hb) hb
theorem IRowsV.open {w : World} {v : Value} {L : List (List Int)} (h : IRowsV w v L) : ∃ a n c, v = .slice a n c ∧ Hid (n = L.length) ∧ n ≤ c ∧ c ≤ 9223372036854775807 ∧
    Hid (∀ i, i < n → ∃ b off u, a = some ⟨b, off, none⟩ ∧ w.cell? ⟨b, off + i, none⟩ = some u ∧ IntsV w u (L.getD i [])) := by
  obtain ⟨a, n, c, h1, h2, h3, h4, h5⟩ := ListV.open h
  refine ⟨a, n, c, h1, h2, h3, h4, Lib.hid (fun i hi => ?_)⟩
  obtain ⟨b, off, cs, x, e1, e2, e3, ⟨u, e4, e6⟩, e5⟩ := h5.out i hi
  have c0 := e5 0 (by omega)
  subst e4
  refine ⟨b, off, u, e1, by simpa using c0, ?_⟩
  rw [List.getD_eq_getElem?_getD, e2]; exact e6

/-- a row by numbers: the first twelve -/
def laidTo (r : List Int) (W : Int) (k : Nat) : List Pr := (r.take k).foldl (fun acc x => if x % W ∈ acc.map (·.1) then acc else acc ++ [(x % W, x)]) []
def laidS (L : List (List Int)) (W : Int) : List (List Pr) := (L.take 14).map fun r => laidTo r W 12
theorem laidTo_next (r : List Int) (W : Int) (k : Nat) (h : k < r.length) : laidTo r W (k + 1) = if r.getD k 0 % W ∈ (laidTo r W k).map (·.1) then laidTo r W k else laidTo r W k ++ [(r.getD k 0 % W, r.getD k 0)] := by
  unfold laidTo
  rw [List.take_succ_eq_append_getElem h, List.foldl_append, List.getD_eq_getElem?_getD, List.getElem?_eq_getElem h]
  rfl
theorem laidTo_len (r : List Int) (W : Int) : ∀ k, (laidTo r W k).length ≤ k := by
  intro k
  induction k with
  | zero => simp [laidTo]
  | succ k ih =>
    by_cases h : k < r.length
    · rw [laidTo_next r W k h]
      split
      · omega
      · simp; omega
    · have e : laidTo r W (k + 1) = laidTo r W k := by
        unfold laidTo; rw [List.take_of_length_le (by omega), List.take_of_length_le (by omega)]
      rw [e]; omega
theorem laidTo_all (r : List Int) (W : Int) (k : Nat) (h : r.length ≤ k) (hk : k ≤ 12) : laidTo r W 12 = laidTo r W k := by
  unfold laidTo; rw [List.take_of_length_le (by omega), List.take_of_length_le (by omega)]
theorem laidTo_may (r : List Int) (W : Int) (h0 : 0 < W) (h1 : W ≤ 1000) : ∀ k, rowMay (laidTo r W k) = true := by
  intro k
  induction k with
  | zero => rfl
  | succ k ih =>
    by_cases h : k < r.length
    · rw [laidTo_next r W k h]
      split
      · exact ih
      · rename_i hn
        unfold rowMay at ih ⊢
        rw [Bool.and_eq_true, List.all_eq_true, decide_eq_true_eq] at ih ⊢
        refine ⟨fun p hp => ?_, ?_⟩
        · rcases List.mem_append.1 hp with hp | hp
          · exact ih.1 p hp
          · simp only [List.mem_singleton] at hp
            subst hp
            have a := Int.emod_nonneg (r.getD k 0) (show W ≠ 0 by omega)
            have b := Int.emod_lt_of_pos (r.getD k 0) h0
            simp only [decide_eq_true_eq]; omega
        · rw [List.map_append, List.nodup_append]
          refine ⟨ih.2, by simp, fun a ha b hb e => ?_⟩
          simp only [List.map_cons, List.map_nil, List.mem_singleton] at hb
          exact hn (by rw [← hb, ← e]; exact ha)
    · have e : laidTo r W (k + 1) = laidTo r W k := by
        unfold laidTo; rw [List.take_of_length_le (by omega), List.take_of_length_le (by omega)]
      rw [e]; exact ih
theorem laidS_len (L : List (List Int)) (W : Int) : (laidS L W).length = min 14 L.length := by simp [laidS]
theorem laidS_may (L : List (List Int)) (W : Int) (h0 : 0 < W) (h1 : W ≤ 1000) : mayS (laidS L W) = true := by
  refine mayS_yes _ (by rw [laidS_len]; omega) (fun i hi => ?_)
  unfold rowAt laidS
  rw [List.getD_eq_getElem?_getD, List.getElem?_map]
  cases (L.take 14)[i]? with
  | none => rfl
  | some r => exact laidTo_may r W h0 h1 12
theorem fullS_le (rows : List (List Pr)) : (fullS rows).length ≤ rows.length := fullTo_len rows rows.length
theorem laidS_full (L : List (List Int)) (W : Int) : (fullS (laidS L W)).length < 20 := by
  have := fullS_le (laidS L W)
  rw [laidS_len] at this; omega

theorem Tryd.infoPair : (Tryd.prog.info? 39).map (fun i => (i.zero, i.size, i.bytes)) = some (some (.agg #[.int .i64 0, .int .i64 0]), 2, 16) := by kernel_rfl
theorem Tryd.infoPairs : (Tryd.prog.info? 35).map (fun i => (i.zero, i.size, i.bytes)) = some (some (.slice none 0 0), 1, 24) := by kernel_rfl

theorem GrowL.firm {α : Type} {base : Nat} {E : TypeId} {size : Nat} {R : World → List Value → α → Prop} {S : Nat → Prop} {w : World} {v : Value} {xs : List Value} {l : List α} (h : GrowL base E size R S w v xs l) (hs : 0 < size) :
    Firm (fun b => S b ∨ v.ownBlock = some b) w (fun w' => ListV size R w' v l) := ⟨h.lt, fun w' hw => (h.keep hw).list hs⟩

def RowsOut (rows : List (List Pr)) (w : World) (e : Ending) (w' : World) : Prop := (∃ v, e = .returned v ∧ PRowsV w' v rows) ∧ Below w.heap.size w w'

theorem news2 (w : World) (u u' : Value) (t : TypeId) : ∀ j v, [u, u'][j]? = some v → (w.alloc (.cells #[u, u'] t)).cell? ((⟨w.heap.size, 0, none⟩ : Addr).add j) = some v := by
  intro j v hj
  match j, hj with
  | 0, hj => simp at hj; subst hj; simp [Addr.add]
  | 1, hj =>
    simp at hj; subst hj
    have : (⟨w.heap.size, 0, none⟩ : Addr).add 1 = ⟨w.heap.size, 1, none⟩ := by simp [Addr.add]
    rw [this, World.cell?_alloc_at _ _ _ _ rfl]; rfl

set_option maxRecDepth 100000 in
set_option maxHeartbeats 1000000 in
theorem laid_any (v : Value) (L : List (List Int)) (wide : Int) (w : World) (h : IRowsV w v L) (hwf : ∀ r ∈ L, ∀ x ∈ r, (Lit.int .i64 x).wf = true) (hw0 : (Lit.int .i64 wide).wf = true) :
    Calls Tryd.prog 10 #[v, .int .i64 wide] w (RowsOut (laidS L (1 + wide % 60)) w) := by
  obtain ⟨a, n, c, rfl, hn, hnc, hcm, hx⟩ := h.open
  have hwi := Lib.hid (fun W => within_any wide 60 W hw0 (by omega) (by omega))
  obtain ⟨i0, hi0, hz0, hz1, hz2⟩ := info_parts Tryd.infoInt
  obtain ⟨i1, hi1, hy0, hy1, hy2⟩ := info_parts Tryd.infoPair
  obtain ⟨i2, hi2, hx0, hx1, hx2⟩ := info_parts Tryd.infoPairs
  have hm0 := Int.emod_nonneg wide (show (60 : Int) ≠ 0 by omega)
  have hm1 := Int.emod_lt_of_pos wide (show (0 : Int) < 60 by omega)
  have HWI := Lib.hid (show ∀ W : World, Calls Tryd.prog 17 #[.int .i64 wide, .int .i64 60] W fun e w' => e = .returned (.int .i64 (wide % 60)) ∧ W = w' from fun W => hwi.out W)
  generalize wide % 60 = wd at *
  have HWF := Lib.hid hwf
  clear h hwf hwi
  go_enter Tryd.func10, Tryd.ntmps10
  go_wp2_with (first | (go_at_call 17; refine (HWI.out _).mono ?_; rintro e w9 ⟨rfl, rfl⟩))
  obtain ⟨W, hW⟩ : ∃ W : Nat, 1 + wd = (W : Int) := ⟨(1 + wd).toNat, by omega⟩
  have HW0 := Lib.hid hW
  rw [hW]
  have hW1 : 0 < W := by omega
  have hW2 : W ≤ 60 := by omega
  clear hm0 hm1 hW hw0 HWI
  go_loopw [5, 6] (fun x y w1 => ∃ (k : Nat) (xs : List Value) (S : Nat → Prop), k ≤ n ∧ k ≤ 14 ∧ y = .int .i64 (k : Int) ∧ GrowL w.heap.size 35 1 prowR S w1 x xs ((L.take k).map fun r => laidTo r W 12) ∧ Below w.heap.size w w1) (fun _ y _ => n - (intOf y).toNat)
  case atStart => exact ⟨0, [], _, Nat.zero_le _, by omega, rfl, by simpa using GrowL.nil _ _ _ _ _, Below.refl _ _⟩
  case round =>
    obtain ⟨k, xs, S, hk, hk14, rfl, hG, hb⟩ := hrel
    rename World => w1
    by_cases hgo0 : k < n ∧ k < 14
    · obtain ⟨hlt, hlt2⟩ := hgo0
      · have hkI : (k : Int) < (n : Int) := by omega
        have hkI2 : (k : Int) < 14 := by omega
        obtain ⟨b1, o1, u1, rfl, c1, r1⟩ := hx.out k hlt
        have hkL : k < L.length := by have := hn.out; omega
        have HRW := Lib.hid (fun x (hx : x ∈ L.getD k []) => HWF.out (L.getD k []) (by rw [List.getD_eq_getElem?_getD, List.getElem?_eq_getElem hkL]; simp) x hx)
        have hnextL : Hid ((L.take (k + 1)).map (fun r => laidTo r W 12) = (L.take k).map (fun r => laidTo r W 12) ++ [laidTo (L.getD k []) W 12]) := Lib.hid (by
          rw [List.take_succ_eq_append_getElem hkL, List.map_append, List.getD_eq_getElem?_getD, List.getElem?_eq_getElem hkL]; rfl)
        generalize L.getD k [] = r at r1 HRW hnextL
        obtain ⟨a2, m, c2, rfl, hm, hmc, hmm, hrx⟩ := r1.open
        have c1' := (hb.cell (World.block_lt_of_cell? _ _ c1)).trans c1
        have C1 := Lib.hid c1
        clear c1 r1
        have C1' := Lib.hid c1'
        have HG := Lib.hid hG
        have hbsz := hb.size
        go_wp2_with fail
        clear c1' hcm hnc hmc hmm hG
        go_loopw [7, 8, 9] (fun x y z w2 => ∃ (j : Nat) (xs : List Value), j ≤ m ∧ j ≤ 12 ∧ z = .int .i64 (j : Int) ∧ GrowL w1.heap.size 39 2 pairR (fun _ => False) w2 x xs (laidTo r W j) ∧ w2.ownsRow w1.heap.size 3 1 y (laidTo r W j).length (((laidTo r W j).map (·.1)).map (Value.int .i64)) ∧ (∀ k, y.ownBlock = some k → x.ownBlock ≠ some k) ∧ Below w1.heap.size w1 w2) (fun _ _ z _ => m - (intOf z).toNat)
        case atStart => exact ⟨0, [], Nat.zero_le _, by omega, rfl, by simpa [laidTo] using GrowL.nil _ _ _ _ _, by simpa [laidTo] using World.ownsRow_nil _ _ _ _, (fun k hk => by cases hk), Below.refl _ _⟩
        case round =>
          obtain ⟨j, ys, hj, hj12, rfl, hR, hA, hap, hb2⟩ := hrel
          rename World => w2
          have c1 := (hb2.cell (World.block_lt_of_cell? _ _ C1'.out)).trans C1'.out
          have hb02 := hb.trans (hb2.mono hbsz)
          by_cases hgo : j < m ∧ j < 12
          · obtain ⟨hjm, hj2⟩ := hgo
            · have hjI : (j : Int) < (m : Int) := by omega
              have hjI2 : (j : Int) < 12 := by omega
              obtain ⟨b3, o3, rfl, c3⟩ := hrx.out j hjm
              replace c3 := (hb02.cell (World.block_lt_of_cell? _ _ c3)).trans c3
              have hjr : j < r.length := by have := hm.out; omega
              have hnx := laidTo_next r W j hjr
              have hwfx := HRW.out (r.getD j 0) (by rw [List.getD_eq_getElem?_getD, List.getElem?_eq_getElem hjr]; simp)
              generalize hx0e : r.getD j 0 = x0 at c3 hnx hwfx
              have HX0 := Lib.hid hx0e
              clear hx0e
              have HN1 := Lib.hid (fun W' => within_any x0 W W' hwfx hW1 (by omega))
              have HHas := Lib.hid (fun (W' : World) (hW' : Below w2.heap.size w2 W') => zhas_any u8 ((laidTo r W j).map (·.1)) (x0 % W) W' ((IntsV.of_owns (by rw [List.length_map]; exact hA)).below hW'))
              have hjlen := laidTo_len r W j
              obtain ⟨ya, yc, rfl⟩ : ∃ a1 c1, u8 = .slice a1 (laidTo r W j).length c1 := by
                rcases hA.2 with ⟨rfl, h0⟩ | ⟨g, cap, cur, rfl, _⟩
                · exact ⟨none, 0, by rw [h0]⟩
                · exact ⟨_, cap, rfl⟩
              obtain ⟨xa, xc, rfl⟩ : ∃ a1 c1, u7 = .slice a1 (laidTo r W j).length c1 := by
                rcases hR.own.2 with ⟨rfl, h0⟩ | ⟨g, cap, cur, rfl, _⟩
                · exact ⟨none, 0, by rw [h0]⟩
                · exact ⟨_, cap, rfl⟩
              have hs2 := hb2.size
              by_cases hmem : x0 % W ∈ (laidTo r W j).map (·.1)
              · rw [if_pos hmem] at hnx
                rw [decide_eq_true hmem] at HHas
                have HQ := Lib.hid (And.intro hnx (And.intro hR (And.intro hA hap)))
                clear hnx hR hA hap hmem hwfx hjlen
                generalize hNN : (laidTo r W j).length = N at *
                have HNN := Lib.hid hNN
                clear hNN
                go_wp2_with (first | (go_at_call 17; refine (HN1.out _).mono ?_; rintro e w9 ⟨rfl, rfl⟩) | (go_at_call 18; refine (HHas.out _ (Below.refl _ _)).mono ?_; rintro e w9 ⟨rfl, rfl⟩))
                go_roundw
                case rel =>
                  refine ⟨j + 1, ys, by omega, by omega, by go_num, ?_, ?_, HQ.out.2.2.2, hb2⟩
                  · rw [HQ.out.1]; exact HQ.out.2.1
                  · rw [HQ.out.1, HNN.out]; exact HQ.out.2.2.1
                case measure => simp [intOf]; omega
              · rw [if_neg hmem] at hnx
                rw [decide_eq_false hmem] at HHas
                have HQ := Lib.hid (And.intro hnx (And.intro hR (And.intro hA hap)))
                have hlenA : (laidTo r W j).length ≤ 12 := by omega
                have HL := Lib.hid hjlen
                clear hnx hR hap hmem hwfx hjlen
                generalize hz : x0 % W = z0 at *
                clear hz
                go_wp2_with (first
                  | (go_at_call 17; refine (HN1.out _).mono ?_; rintro e w9 ⟨rfl, rfl⟩)
                  | (go_at_call 18; refine (HHas.out _ (Below.refl _ _)).mono ?_; rintro e w9 ⟨rfl, rfl⟩)
                  | (at_builtin; refine wpList_append_own_at _ rfl _ _ 28 rfl w1.heap.size 3 i0 (.int .i64 0) 1 8 Tryd.underlying28 hi0 hz0 hz1 hz2 rfl (by decide) _ _ _ rfl (hA.alloc _) ⟨w2.heap.size, 0, none⟩ 1 1 [.int .i64 z0] rfl rfl (news1 _ _ _) ?c2 ?c3 ?c4 ?c5 ?_))
                case c2 => first | rfl | (intro u hu; simp at hu; rw [hu]; rfl)
                case c3 => unfold maxLen; omega
                case c4 => omega
                case c5 => simp; omega
                intro y' w3 ho3 hg3 _ hl3
                have hbr3 : ∀ b, b < w2.heap.size → (Value.slice ya (laidTo r W j).length yc).ownBlock ≠ some b → w3.heap[b]? = w2.heap[b]? := fun b hb' hne => (hg3.block b (by simp; omega) (fun e => hne e.symm)).trans (Below.heap_alloc w2 _ b hb')
                have hs3 : w2.heap.size < w3.heap.size := by have := hg3.size; simp at this; omega
                have hb3 : Below w1.heap.size w1 w3 := (hb2.alloc hb2.size _).grown hg3 (by simp; omega) (fun k hk => (hA.lt k hk).1)
                have hR3 : GrowL w1.heap.size 39 2 pairR (fun _ => False) w3 (.slice xa (laidTo r W j).length xc) ys (laidTo r W j) := HQ.out.2.1.keep (fun b hb' => hb'.elim False.elim (fun e => hbr3 b (HQ.out.2.1.own.lt b e).2 (fun e2 => HQ.out.2.2.2 b e2 e)))
                have hap3 : ∀ k, y'.ownBlock = some k → (Value.slice xa (laidTo r W j).length xc).ownBlock ≠ some k := fun k hk e => by
                  rcases hl3 with e2 | e2
                  · exact HQ.out.2.2.2 k (by rw [← e2]; exact hk) e
                  · have := (HQ.out.2.1.own.lt k e).2
                    have e3 : some (w2.heap.size + 1) = some k := e2.symm.trans hk
                    injection e3; omega
                have hb03 := hb.trans (hb3.mono hbsz)
                have c1' := (hb3.cell (World.block_lt_of_cell? _ _ C1'.out)).trans C1'.out
                obtain ⟨b3', o3', e33, c3'⟩ := hrx.out j hjm
                cases e33
                replace c3' := (hb03.cell (World.block_lt_of_cell? _ _ c3')).trans c3'
                have hx00 : r.getD j 0 = x0 := HX0.out
                rw [hx00] at c3'
                have H3 := Lib.hid (And.intro hR3 (And.intro ho3 (And.intro hap3 hb3)))
                have hs31 := hb3.size
                have hownR := hR3.own
                clear hbr3 hR3 ho3 hap3 hg3 hl3 hb03 hA hx00 c1 c3 hb2 hb02 hs2
                go_wp2_with (first
                  | (at_builtin; refine wpList_append_own_at _ rfl _ _ 35 rfl w1.heap.size 39 i1 (.agg #[.int .i64 0, .int .i64 0]) 2 16 Tryd.underlying35 hi1 hy0 hy1 hy2 rfl (by decide) _ _ _ rfl (hownR.alloc _) ⟨w3.heap.size, 0, none⟩ 1 1 [.int .i64 z0, .int .i64 x0] rfl rfl (news2 _ _ _ _) ?d2 ?d3 ?d4 ?d5 ?_))
                case d2 => first | rfl | (intro u hu; simp at hu; rcases hu with e | e <;> rw [e] <;> rfl)
                case d3 => unfold maxLen; omega
                case d4 => omega
                case d5 => simp; omega
                intro x' w4 ho4 hg4 _ hl4
                have hal := (Below.refl w3.heap.size w3).alloc (Nat.le_refl _) (.cells #[.int .i64 z0, .int .i64 x0] 39)
                have hR4 := (H3.out.1.below hal).push (S' := fun _ => False) (cs := [.int .i64 z0, .int .i64 x0]) (x := (z0, x0)) ho4 hg4 (by simpa using hl4) rfl (Firm.pure (fun w' => rfl)) (fun k _ h => h)
                have hb4 : Below w1.heap.size w1 w4 := (H3.out.2.2.2.alloc hs31 _).grown hg4 (by simp; omega) (fun k hk => (H3.out.1.own.lt k hk).1)
                have hbr4 : ∀ b, b < w3.heap.size → (Value.slice xa (laidTo r W j).length xc).ownBlock ≠ some b → w4.heap[b]? = w3.heap[b]? := fun b hb' hne => (hg4.block b (by simp; omega) (fun e => hne e.symm)).trans (Below.heap_alloc w3 _ b hb')
                have hA4 := row_kept H3.out.2.1 (w' := w4) (fun k hk => hbr4 k (H3.out.2.1.lt k hk).2 (H3.out.2.2.1 k hk))
                have hap4 : ∀ k, y'.ownBlock = some k → x'.ownBlock ≠ some k := fun k hk e => by
                  rcases hl4 with e2 | e2
                  · exact H3.out.2.2.1 k hk (by rw [← e2]; exact e)
                  · have := (H3.out.2.1.lt k hk).2
                    have e3 : some (w3.heap.size + 1) = some k := e2.symm.trans e
                    injection e3; omega
                have H4 := Lib.hid (And.intro hR4 (And.intro hA4 (And.intro hap4 hb4)))
                clear hal hR4 hb4 hbr4 hA4 hap4 hg4 ho4 hl4 hownR hs31 c1' c3'
                go_wp2_with fail
                go_roundw
                case rel =>
                  refine ⟨j + 1, ys ++ [.int .i64 z0, .int .i64 x0], by omega, by omega, by go_num, ?_, ?_, H4.out.2.2.1, H4.out.2.2.2⟩
                  · rw [HQ.out.1]
                    have := H4.out.1
                    exact ⟨this.own, this.rows.wide (fun b hb => hb.elim id id) (fun b hb => hb.elim), fun k hk => id⟩
                  · rw [HQ.out.1, List.length_append, List.map_append, List.map_append, List.map_map]
                    have := H4.out.2.1
                    simpa using this
                case measure => simp [intOf]; omega
          · have hE : Hid (laidTo r W 12 = laidTo r W j) := Lib.hid (by
              by_cases e : j = 12
              · rw [e]
              · exact laidTo_all r W j (by have := hm.out; omega) hj12)
            obtain ⟨xa, xc, rfl⟩ : ∃ a1 c1, u7 = .slice a1 (laidTo r W j).length c1 := by
              rcases hR.own.2 with ⟨rfl, h0⟩ | ⟨g, cap, cur, rfl, _⟩
              · exact ⟨none, 0, by rw [h0]⟩
              · exact ⟨_, cap, rfl⟩
            have hG2 := HG.out.below (hb2.mono (Nat.le_refl _))
            have hownG := hG2.own
            have hkL14 : ((L.take k).map fun r => laidTo r W 12).length ≤ 14 := by simp; omega
            have hs2 := hb2.size
            have hs02 := hb02.size
            have HR := Lib.hid (And.intro hR (And.intro hG2 (And.intro hb2 hb02)))
            clear hR hG2 hA hap hb2 hb02
            generalize hLL : ((L.take k).map fun r => laidTo r W 12).length = LL at hownG hkL14
            have HLL := Lib.hid hLL
            clear hLL
            by_cases hjm : j < m
            all_goals
              have hj12' : ¬ (j < m ∧ (j : Int) < 12) := by omega
              go_wp2_with (first
                | (at_builtin; refine wpList_append_own_at _ rfl _ _ 23 rfl w.heap.size 35 i2 (.slice none 0 0) 1 24 Tryd.underlying23 hi2 hx0 hx1 hx2 rfl (by decide) _ _ _ rfl (hownG.alloc _) ⟨w2.heap.size, 0, none⟩ 1 1 [.slice xa (laidTo r W j).length xc] rfl rfl (news1 _ _ _) (by intro u hu; simp at hu; rw [hu]; rfl) (by unfold maxLen; omega) (by omega) (by simp; omega) ?_))
              intro v5 w5 ho5 hg5 _ hl5
              have hal := (Below.refl w2.heap.size w2).alloc (Nat.le_refl _) (.cells #[.slice xa (laidTo r W j).length xc] 35)
              have hfirm : Firm (fun b => False ∨ (Value.slice xa (laidTo r W j).length xc).ownBlock = some b) (w2.alloc (.cells #[.slice xa (laidTo r W j).length xc] 35)) (fun w' => prowR w' [.slice xa (laidTo r W j).length xc] (laidTo r W 12)) :=
                ((HR.out.1.firm (by omega)).below hal).imp (fun w' h => ⟨_, rfl, by rw [hE.out]; exact h⟩)
              have hG5 := (HR.out.2.1.below hal).push (by rw [HLL.out]; exact ho5) hg5 (by simpa using hl5) rfl hfirm (fun b hb' hS => hS.elim id (fun e => by
                have h1 := (HR.out.1.own.lt b e).1
                have h2 := (HG.out.own.lt b hb').2
                omega))
              have hb5 : Below w.heap.size w w5 := (HR.out.2.2.2.alloc hs02 _).grown hg5 (by simp; omega) (fun k hk => (HG.out.own.lt k hk).1)
              have H5 := Lib.hid (And.intro hG5 hb5)
              clear hal hfirm hG5 hb5 hg5 ho5 hl5 hownG
              go_wp2_with fail
              go_roundw
              case rel =>
                have h5 := H5.out.1
                rw [← hnextL.out] at h5
                exact ⟨k + 1, _, _, by omega, by omega, by go_num, h5, H5.out.2⟩
              case measure => simp [intOf]; omega
    · have hfin : (L.take k).map (fun r => laidTo r W 12) = laidS L W := by
        unfold laidS
        by_cases e : k = 14
        · rw [e]
        · rw [List.take_of_length_le (by have := hn.out; omega), List.take_of_length_le (by have := hn.out; omega)]
      rw [hfin] at hG
      have HG := Lib.hid hG
      clear hG hfin hcm hnc
      by_cases hkn : k < n
      all_goals
        have hk14' : ¬ (k < n ∧ (k : Int) < 14) := by omega
        go_wp2_with fail
        go_ret
        exact ⟨⟨_, rfl, by rw [HW0.out]; exact HG.out.list (by omega)⟩, hb⟩

/-! ### rows as they are -/
def rawS (rows : List (List Pr)) : List (List Pr) := (rows.take 9).map fun r => r.take 6
theorem rawS_len (rows : List (List Pr)) : (rawS rows).length ≤ 9 := by simp [rawS]; omega
theorem rawS_full (rows : List (List Pr)) : (fullS (rawS rows)).length < 20 := by
  have := fullS_le (rawS rows)
  have := rawS_len rows
  omega

theorem PairsV.moved {w w' : World} {v : Value} {r : List Pr} (h : PairsV w v r) (hk : ∀ b, b < w.heap.size → w'.heap[b]? = w.heap[b]?) : PairsV w' v r :=
  ListV.map h (fun _ _ h => h) (fun a x hx => (World.cell?_of_block (hk a.block (World.block_lt_of_cell? _ _ hx))).trans hx)
theorem GrowL.widen {α : Type} {base : Nat} {E : TypeId} {size : Nat} {R : World → List Value → α → Prop} {S S' : Nat → Prop} {w : World} {v : Value} {xs : List Value} {l : List α} (h : GrowL base E size R S w v xs l) (hs : ∀ b, S b → S' b) (hl : ∀ b, S' b → b < w.heap.size) (ha : ∀ k, v.ownBlock = some k → ¬ S' k) : GrowL base E size R S' w v xs l := ⟨h.own, h.rows.wide hs hl, ha⟩

set_option maxRecDepth 100000 in
set_option maxHeartbeats 4000000 in
theorem raw_any (v : Value) (rows : List (List Pr)) (w : World) (h : PRowsV w v rows) :
    Calls Tryd.prog 11 #[v] w (RowsOut (rawS rows) w) := by
  obtain ⟨a, n, c, rfl, hn, hnc, hcm, hx⟩ := h.open
  obtain ⟨i2, hi2, hx0, hx1, hx2⟩ := info_parts Tryd.infoPairs
  clear h hcm hnc
  go_enter Tryd.func11, Tryd.ntmps11
  go_wp2_with fail
  go_loopw [3, 4] (fun x y w1 => ∃ (k : Nat) (xs : List Value), k ≤ n ∧ k ≤ 9 ∧ y = .int .i64 (k : Int) ∧ GrowL w.heap.size 35 1 prowR (fun b => b < w.heap.size) w1 x xs ((rows.take k).map fun r => r.take 6) ∧ Below w.heap.size w w1) (fun _ y _ => n - (intOf y).toNat)
  case atStart => exact ⟨0, [], Nat.zero_le _, by omega, rfl, by simpa using (GrowL.nil w.heap.size 35 1 prowR w).widen (fun b h => h.elim) (fun b h => h) (fun k hk => by cases hk), Below.refl _ _⟩
  case round =>
    obtain ⟨k, xs, hk, hk9, rfl, hG, hb⟩ := hrel
    rename World => w1
    by_cases hgo : k < n ∧ k < 9
    · obtain ⟨hlt, hlt2⟩ := hgo
      have hkI : (k : Int) < (n : Int) := by omega
      have hkI2 : (k : Int) < 9 := by omega
      obtain ⟨b1, o1, u1, rfl, c1, r1⟩ := hx.out k hlt
      have hkL : k < rows.length := by have := hn.out; omega
      have hnextL : Hid ((rows.take (k + 1)).map (fun r => r.take 6) = (rows.take k).map (fun r => r.take 6) ++ [(rowAt rows k).take 6]) := Lib.hid (by
        rw [List.take_succ_eq_append_getElem hkL, List.map_append]
        unfold rowAt
        rw [List.getD_eq_getElem?_getD, List.getElem?_eq_getElem hkL]; rfl)
      have c1' := (hb.cell (World.block_lt_of_cell? _ _ c1)).trans c1
      have C1 := Lib.hid c1
      clear c1
      obtain ⟨a2, m, c2, rfl, hm, hmc, hmm, hrx⟩ := r1.open
      have hput : Hid (6 < m → PairsV w (.slice a2 6 c2) ((rowAt rows k).take 6)) := Lib.hid (fun h6 => ListV.take r1 (by omega))
      have hput2 : Hid (¬ 6 < m → PairsV w (.slice a2 m c2) ((rowAt rows k).take 6)) := Lib.hid (fun h6 => by
        rw [List.take_of_length_le (by have := hm.out; omega)]; exact r1)
      have hL9 : ((rows.take k).map fun r => r.take 6).length ≤ 9 := by simp; omega
      have hbs := hb.size
      have HG := Lib.hid (And.intro hG hb)
      have hown := hG.own
      generalize hLL : ((rows.take k).map fun r => r.take 6).length = LL at hown hL9
      have HLL := Lib.hid hLL
      clear hLL hG hb r1 hrx hm
      have step : ∀ (y v5 : Value) (w5 : World), PairsV w y ((rowAt rows k).take 6) → w5.ownsRow w.heap.size 35 1 v5 (LL + 1) (xs ++ [y]) → (w1.alloc (.cells #[y] 35)).grownBy w5 u3.ownBlock → (v5.ownBlock = u3.ownBlock ∨ v5.ownBlock = some (w1.heap.size + 1)) →
          GrowL w.heap.size 35 1 prowR (fun b => b < w.heap.size) w5 v5 (xs ++ [y]) ((rows.take (k + 1)).map fun r => r.take 6) ∧ Below w.heap.size w w5 := fun y v5 w5 hy ho hg hl => by
        have hal := (Below.refl w1.heap.size w1).alloc (Nat.le_refl _) (.cells #[y] 35)
        have hfirm : Firm (fun b => b < w.heap.size) (w1.alloc (.cells #[y] 35)) (fun w' => prowR w' [y] ((rowAt rows k).take 6)) :=
          ⟨fun b hb' => by simp; omega, fun w' hw' => ⟨y, rfl, hy.moved (fun b hb' => ((hw' b hb').trans (Below.heap_alloc _ _ _ (by omega))).trans (HG.out.2.block b hb'))⟩⟩
        have hG5 := (HG.out.1.below hal).push (by rw [HLL.out]; exact ho) hg (by simpa using hl) rfl hfirm (fun b hb' hS => by
          have := (HG.out.1.own.lt b hb').1
          omega)
        rw [← hnextL.out] at hG5
        have hb5 : Below w.heap.size w w5 := (HG.out.2.alloc hbs _).grown hg (by simp; omega) (fun k hk => (HG.out.1.own.lt k hk).1)
        refine ⟨hG5.widen (fun b h => h.elim id id) (fun b hb' => Nat.lt_of_lt_of_le hb' hb5.size) (fun k hk hS => ?_), hb5⟩
        have := (hG5.own.lt k hk).1
        omega
      have HST := Lib.hid step
      clear step
      by_cases h6 : 6 < m
      · have h6I : (6 : Int) < (m : Int) := by omega
        have h6c : 6 ≤ c2 := by omega
        have h6d : (6 : Int) ≤ (c2 : Int) := by omega
        clear hmm
        go_wp2_with (first
          | (at_builtin; refine wpList_append_own_at _ rfl _ _ 23 rfl w.heap.size 35 i2 (.slice none 0 0) 1 24 Tryd.underlying23 hi2 hx0 hx1 hx2 rfl (by decide) _ _ _ rfl (hown.alloc _) ⟨w1.heap.size, 0, none⟩ 1 1 [.slice a2 6 c2] rfl rfl (news1 _ _ _) (by intro u hu; simp at hu; rw [hu]; rfl) (by unfold maxLen; omega) (by omega) (by simp; omega) ?_))
        intro v5 w5 ho5 hg5 _ hl5
        have H5 := Lib.hid (HST.out _ _ _ (hput.out h6) ho5 hg5 hl5)
        clear ho5 hg5 hl5 hown
        go_wp2_with fail
        go_roundw
        case rel => exact ⟨k + 1, _, by omega, by omega, by go_num, H5.out.1, H5.out.2⟩
        case measure => simp [intOf]; omega
      · have h6I : ¬ (6 : Int) < (m : Int) := by omega
        clear hmm
        go_wp2_with (first
          | (at_builtin; refine wpList_append_own_at _ rfl _ _ 23 rfl w.heap.size 35 i2 (.slice none 0 0) 1 24 Tryd.underlying23 hi2 hx0 hx1 hx2 rfl (by decide) _ _ _ rfl (hown.alloc _) ⟨w1.heap.size, 0, none⟩ 1 1 [.slice a2 m c2] rfl rfl (news1 _ _ _) (by intro u hu; simp at hu; rw [hu]; rfl) (by unfold maxLen; omega) (by omega) (by simp; omega) ?_))
        intro v5 w5 ho5 hg5 _ hl5
        have H5 := Lib.hid (HST.out _ _ _ (hput2.out h6) ho5 hg5 hl5)
        clear ho5 hg5 hl5 hown
        go_wp2_with fail
        go_roundw
        case rel => exact ⟨k + 1, _, by omega, by omega, by go_num, H5.out.1, H5.out.2⟩
        case measure => simp [intOf]; omega
    · have hfin : (rows.take k).map (fun r => r.take 6) = rawS rows := by
        unfold rawS
        by_cases e : k = 9
        · rw [e]
        · rw [List.take_of_length_le (by have := hn.out; omega), List.take_of_length_le (by have := hn.out; omega)]
      rw [hfin] at hG
      have HG := Lib.hid hG
      clear hG hfin
      by_cases hkn : k < n
      all_goals
        have hk9' : ¬ (k < n ∧ (k : Int) < 9) := by omega
        go_wp2_with fail
        go_ret
        exact ⟨⟨_, rfl, HG.out.list (by omega)⟩, hb⟩
end Go.Proofs.YtjeebcnjdhlcfaaDoor
