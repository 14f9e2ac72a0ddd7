/- comb.Lay. -/
import Derived.Test.YtjeebcnjdhlcfaaDoorComb7
import Derived.Deep.OwnRows
namespace Go.Proofs.YtjeebcnjdhlcfaaDoor
open Go.RowKit
set_option linter.unusedVariables false
set_option linter.unusedSimpArgs false

abbrev CombS := List Int × List Int × List Int
def CombTells (s : CombS) (w : World) (e : Ending) (w' : World) : Prop :=
  (∃ bv vv kv, e = .returned (.agg #[bv, vv, kv]) ∧ IntsV w' bv s.1 ∧ IntsV w' vv s.2.2 ∧ IntsV w' kv s.2.1) ∧ Below w.heap.size w w'

theorem combInfo : (Tryd.prog.info? 30).map (·.size) = some 3 := by kernel_rfl
theorem made_own (w : World) (B n : Nat) (hB : B ≤ w.heap.size) (hn : n ≤ maxLen) : (w.alloc (.cells (madeCells #[.int .i64 0] n) 3)).ownsRow B 3 1 (.slice (some ⟨w.heap.size, 0, none⟩) n n) (List.replicate n (0 : Int)).length ((List.replicate n (0 : Int)).map (Value.int .i64)) := by
  have hs : (madeCells #[Value.int .i64 0] n).size = n := by simp [madeCells]
  refine ⟨by simp, .inr ⟨w.heap.size, n, _, by simp, hB, heap_alloc_new w _, by simp, hn, by rw [hs]; omega, ?_⟩⟩
  rw [List.take_of_length_le (by simp [hs])]
  apply List.ext_getElem
  · simp [hs]
  · intro i h1 h2
    have hi : i < n := by simpa [hs] using h1
    have e1 := size_madeCells #[Value.int .i64 0] n
    simp only [Array.getElem_toList, List.getElem_map, List.getElem_replicate]
    unfold madeCells
    simp [Nat.mod_one]

theorem fit_least {ws : List Nat} {chk : List Int} {row : List Pr} {b : Nat} (hb : ∀ k, bitAt ws k = (chk.getD k 0 != 0)) (h1 : ∀ q ∈ row, bitAt ws (b + q.1.toNat) = false) (h2 : ∀ c, c < b → ∃ q ∈ row, bitAt ws (c + q.1.toNat) = true) : leastFit chk row = b := by
  refine least_unique _ _ _ ?_ (fun c hc => ?_)
  · unfold fitsB
    rw [List.all_eq_true]
    intro q hq
    have := h1 q hq
    rw [hb] at this
    simpa using this
  · obtain ⟨q, hq, e⟩ := h2 c hc
    unfold fitsB
    rw [List.all_eq_false]
    refine ⟨q, hq, ?_⟩
    rw [hb] at e
    simpa using e

def zcells (n : Nat) : List Int := List.replicate n 0
/-- padded up to a place -/
def padTo (l : List Int) (m : Nat) : List Int := l ++ List.replicate m 0
theorem padTo_next (l : List Int) (m : Nat) : padTo l (m + 1) = padTo l m ++ [0] := by unfold padTo; rw [List.replicate_succ', List.append_assoc]
theorem padTo_len (l : List Int) (m : Nat) : (padTo l m).length = l.length + m := by simp [padTo]
theorem setPad_eq (l : List Int) (i : Nat) (x : Int) : setPad l i x = (padTo l (i + 1 - l.length)).set i x := rfl

theorem newsS (w : World) (p : Addr) (y : Value) (u : Value) (t : TypeId) : ∀ j v, [u][j]? = some v → ((w.setCell p y).alloc (.cells #[u] t)).cell? ((⟨w.heap.size, 0, none⟩ : Addr).add j) = some v := by
  have := news1 (w.setCell p y) u t
  have e : (w.setCell p y).heap.size = w.heap.size := by simp [World.setCell]
  rw [e] at this; exact this
theorem takeW_len (ws : List Nat) (k : Nat) : (takeW ws k).length = max ws.length (k / 64 + 1) := by
  unfold takeW; simp; omega
theorem LayV.start {q : Option Nat} {qo : Obj} (w w2 w4 : World) (n : Nat) (hn : n ≤ maxLen) (hb : Below w.heap.size w w2) (hlt : w.heap.size < w2.heap.size) (hh0 : w2.heap[w.heap.size]? = some (.cells #[.slice none 0 0, .slice none 0 0, .slice none 0 0] 30 (0, 0)))
    (h4 : Below (((w2.alloc (.cells (madeCells #[.int .i64 0] n) 3)).alloc (.cells #[.slice (some ⟨w2.heap.size, 0, none⟩) n n, .slice none 0 0, .slice none 0 0] 30)).alloc (.cells #[.slice none 0 0] 48)).heap.size
      (((w2.alloc (.cells (madeCells #[.int .i64 0] n) 3)).alloc (.cells #[.slice (some ⟨w2.heap.size, 0, none⟩) n n, .slice none 0 0, .slice none 0 0] 30)).alloc (.cells #[.slice none 0 0] 48)) w4)
    (hq : ∀ k, q = some k → (((w2.alloc (.cells (madeCells #[.int .i64 0] n) 3)).alloc (.cells #[.slice (some ⟨w2.heap.size, 0, none⟩) n n, .slice none 0 0, .slice none 0 0] 30)).alloc (.cells #[.slice none 0 0] 48)).heap.size ≤ k ∧ w4.heap[k]? = some qo) :
    LayV w4 w.heap.size q qo none qo w.heap.size (w2.heap.size + 1) (w2.heap.size + 1 + 1) (.slice (some ⟨w2.heap.size, 0, none⟩) n n) (.slice none 0 0) (.slice none 0 0) (.slice none 0 0) (List.replicate n 0) [] [] [] := by
  have ho := made_own w2 w.heap.size n hb.size hn
  have hs : (((w2.alloc (.cells (madeCells #[.int .i64 0] n) 3)).alloc (.cells #[.slice (some ⟨w2.heap.size, 0, none⟩) n n, .slice none 0 0, .slice none 0 0] 30)).alloc (.cells #[.slice none 0 0] 48)).heap.size = w2.heap.size + 3 := by simp
  have b0 : (((w2.alloc (.cells (madeCells #[.int .i64 0] n) 3)).alloc (.cells #[.slice (some ⟨w2.heap.size, 0, none⟩) n n, .slice none 0 0, .slice none 0 0] 30)).alloc (.cells #[.slice none 0 0] 48)).heap[w2.heap.size]? = some (.cells (madeCells #[.int .i64 0] n) 3 (0, 0)) := by
    rw [Below.heap_alloc _ _ _ (by simp; omega), Below.heap_alloc _ _ _ (by simp), heap_alloc_new]
  have b1 : (((w2.alloc (.cells (madeCells #[.int .i64 0] n) 3)).alloc (.cells #[.slice (some ⟨w2.heap.size, 0, none⟩) n n, .slice none 0 0, .slice none 0 0] 30)).alloc (.cells #[.slice none 0 0] 48)).heap[w2.heap.size + 1]? = some (.cells #[.slice (some ⟨w2.heap.size, 0, none⟩) n n, .slice none 0 0, .slice none 0 0] 30 (0, 0)) := by
    rw [Below.heap_alloc _ _ _ (by simp)]
    have := heap_alloc_new (w2.alloc (.cells (madeCells #[.int .i64 0] n) 3)) (.cells #[.slice (some ⟨w2.heap.size, 0, none⟩) n n, .slice none 0 0, .slice none 0 0] 30)
    simpa using this
  have b2 : (((w2.alloc (.cells (madeCells #[.int .i64 0] n) 3)).alloc (.cells #[.slice (some ⟨w2.heap.size, 0, none⟩) n n, .slice none 0 0, .slice none 0 0] 30)).alloc (.cells #[.slice none 0 0] 48)).heap[w2.heap.size + 1 + 1]? = some (.cells #[.slice none 0 0] 48 (0, 0)) := by
    have := heap_alloc_new ((w2.alloc (.cells (madeCells #[.int .i64 0] n) 3)).alloc (.cells #[.slice (some ⟨w2.heap.size, 0, none⟩) n n, .slice none 0 0, .slice none 0 0] 30)) (.cells #[.slice none 0 0] 48)
    simpa using this
  have br : (((w2.alloc (.cells (madeCells #[.int .i64 0] n) 3)).alloc (.cells #[.slice (some ⟨w2.heap.size, 0, none⟩) n n, .slice none 0 0, .slice none 0 0] 30)).alloc (.cells #[.slice none 0 0] 48)).heap[w.heap.size]? = some (.cells #[.slice none 0 0, .slice none 0 0, .slice none 0 0] 30 (0, 0)) := by
    rw [Below.heap_alloc _ _ _ (by simp; omega), Below.heap_alloc _ _ _ (by simp; omega), Below.heap_alloc _ _ _ hlt]; exact hh0
  generalize (((w2.alloc (.cells (madeCells #[.int .i64 0] n) 3)).alloc (.cells #[.slice (some ⟨w2.heap.size, 0, none⟩) n n, .slice none 0 0, .slice none 0 0] 30)).alloc (.cells #[.slice none 0 0] 48)) = w3 at h4 hq hs b0 b1 b2 br
  have k0 := block_below b0 h4 (by omega)
  have k1 := block_below b1 h4 (by omega)
  have k2 := block_below b2 h4 (by omega)
  have kr := block_below br h4 (by omega)
  have h4s := h4.size
  refine ⟨kr, fun j => free_of_block k1, by omega, by omega, by omega, by omega, Nat.le_refl _, ⟨cell_of_row _ _ _ _ _ _ k1, ?_⟩, ⟨cell_of_row _ _ _ _ _ _ k1, World.ownsRow_nil _ _ _ _⟩, ⟨cell_of_row _ _ _ _ _ _ k1, World.ownsRow_nil _ _ _ _⟩, ⟨cell_of_row _ _ _ _ _ _ k2, free_of_block k2, World.ownsRow_nil _ _ _ _, fun y hy => absurd hy (by simp), by intro e; cases e⟩, fun k hk => ⟨by have := (hq k hk).1; omega, (hq k hk).2⟩, fun k hk => (by cases hk), ?_⟩
  · have : Value.slice (some ⟨w2.heap.size, 0, none⟩) n n = Value.slice (some ⟨w2.heap.size, 0, none⟩) n n := rfl
    refine row_kept ho (fun k hk => ?_)
    cases hk
    rw [heap_alloc_new]; exact k0
  · intro i j hij k hi hj
    have hv : ∀ i, own9 (some w.heap.size) (some (w2.heap.size + 1)) (some (w2.heap.size + 1 + 1)) (Value.slice (some ⟨w2.heap.size, 0, none⟩) n n).ownBlock (Value.slice none 0 0).ownBlock (Value.slice none 0 0).ownBlock (Value.slice none 0 0).ownBlock q none i = some k →
        (i = 0 ∧ k = w.heap.size) ∨ (i = 1 ∧ k = w2.heap.size + 1) ∨ (i = 2 ∧ k = w2.heap.size + 2) ∨ (i = 3 ∧ k = w2.heap.size) ∨ (i = 7 ∧ w2.heap.size + 3 ≤ k) := by
      intro i hi
      match i, hi with
      | 0, hi => injection hi with e; omega
      | 1, hi => injection hi with e; omega
      | 2, hi => injection hi with e; omega
      | 3, hi => injection hi with e; simp at e; omega
      | 4, hi => cases hi
      | 5, hi => cases hi
      | 6, hi => cases hi
      | 7, hi => have := (hq k hi).1; omega
      | 8, hi => cases hi
      | (m + 9), hi => cases hi
    have h1 := hv i hi
    have h2 := hv j hj
    omega

set_option maxRecDepth 100000 in
set_option maxHeartbeats 600000 in
theorem lay_any (v : Value) (rows : List (List Pr)) (w : World) (h : PRowsV w v rows) (hl : (fullS rows).length < 20) (hg : 0 < w.heap.size) (hT : TabAt 0 Lib.deBruijn64tab w) :
    Calls Tryd.prog 13 #[v] w (CombTells (layS rows) w) := by
  have HM := Lib.hid (fun (W : World) (hW : Below w.heap.size w W) => mayBeLaid_any v rows W (PRowsV.below h hW))
  have hb1 := (Below.refl w.heap.size w).alloc (Nat.le_refl _) (.cells #[.slice none 0 0, .slice none 0 0, .slice none 0 0] 30)
  cases hm : mayS rows with
  | false =>
    rw [hm] at HM
    have HL : Hid (layS rows = ([], [], [])) := Lib.hid (by unfold layS; rw [hm]; rfl)
    clear h hm hT
    go_enter Tryd.func13, Tryd.ntmps13
    go_wp2_with fail
    refine (HM.out _ hb1).mono ?_
    rintro e w9 ⟨rfl, hb9⟩
    have hh0 := block_below (heap_alloc_new w _) hb9 (by simp)
    have hb := hb1.trans (hb9.mono (by simp))
    clear hb1 hb9 HM
    have hc0 : w9.cell? ⟨w.heap.size, 0, none⟩ = some (.slice none 0 0) := cell_of_row _ _ _ _ _ _ hh0
    have hc1 : w9.cell? ⟨w.heap.size, 1, none⟩ = some (.slice none 0 0) := cell_of_row _ _ _ _ _ _ hh0
    have hc2 : w9.cell? ⟨w.heap.size, 2, none⟩ = some (.slice none 0 0) := cell_of_row _ _ _ _ _ _ hh0
    have hf0 : w9.frozen? ⟨w.heap.size, 0, none⟩ = false := free_of_block hh0
    have hf1 : w9.frozen? ⟨w.heap.size, 1, none⟩ = false := free_of_block hh0
    have hf2 : w9.frozen? ⟨w.heap.size, 2, none⟩ = false := free_of_block hh0
    go_wp2_with fail
    refine bodyPost_ret (v := .agg #[.slice none 0 0, .slice none 0 0, .slice none 0 0]) (by simp [results, Tryd.results13, go_sem, hc0, hc1, hc2]) rfl ⟨⟨_, _, _, rfl, ?_, ?_, ?_⟩, ((hb.setCell (p := ⟨w.heap.size, 0, none⟩) (Nat.le_refl _) _).setCell (p := ⟨w.heap.size, 1, none⟩) (Nat.le_refl _) _).setCell (p := ⟨w.heap.size, 2, none⟩) (Nat.le_refl _) _⟩
    all_goals (rw [HL.out]; exact IntsV.nil _)
  | true =>
    have hr4 : rows.length ≤ 400 := by
      unfold mayS at hm
      rw [Bool.and_eq_true, decide_eq_true_eq] at hm
      exact hm.1
    rw [hm] at HM
    have hmk := fun (W : World) => run_make_row' (P := Tryd.prog) 28 3 (.int .i64 0) 8 Tryd.underlying28 Tryd.infoInt rfl .i64 .i64 rows.length (by omega) (by omega) W
    have HK := Lib.hid hmk
    obtain ⟨i0, hi0, hz0, hz1, hz2⟩ := info_parts Tryd.infoInt
    obtain ⟨a, n, c, rfl, hn, hnc, hcm, hx⟩ := h.open
    have HI := Lib.hid (fun (W : World) (hW : Below w.heap.size w W) => inTurn_any (.slice a n c) rows W (PRowsV.below h hW) hr4 hl)
    have HH := Lib.hid h
    obtain rfl : n = rows.length := hn.out
    have HT := Lib.hid hT
    clear h hT hmk hn
    go_enter Tryd.func13, Tryd.ntmps13
    go_wp2_with fail
    refine (HM.out _ hb1).mono ?_
    rintro e w2 ⟨rfl, hb2⟩
    have hh0 := block_below (heap_alloc_new w _) hb2 (by simp)
    have hb := hb1.trans (hb2.mono (by simp))
    have hmk := HK.out
    clear hb1 hb2 HM
    go_wp2_with fail
    have hbs := ((hb.alloc hb.size (.cells (madeCells #[.int .i64 0] rows.length) 3)).alloc (by have := hb.size; simp; omega) (.cells #[.slice (some ⟨w2.heap.size, 0, none⟩) rows.length rows.length, .slice none 0 0, .slice none 0 0] 30)).alloc (by have := hb.size; simp; omega) (.cells #[.slice none 0 0] 48)
    refine (HI.out _ hbs).mono ?_
    rintro e w4 ⟨⟨ov, rfl, hov⟩, hb4⟩
    obtain ⟨qo, hqo⟩ : ∃ qo, ∀ k, ov.ownBlock = some k → w4.heap[k]? = some qo := by
      rcases hov.2 with ⟨rfl, _⟩ | ⟨g, cap, cur, rfl, _, hh, _⟩
      · exact ⟨.cells #[] 0, fun k hk => by cases hk⟩
      · exact ⟨_, fun k hk => by cases hk; exact hh⟩
    have hL4 := LayV.start (q := ov.ownBlock) (qo := qo) w w2 w4 rows.length (by unfold maxLen; omega) hb (lt_of_block hh0) hh0 hb4 (fun k hk => ⟨(hov.lt k hk).1, hqo k hk⟩)
    have hb5 := hbs.trans (hb4.mono hbs.size)
    generalize Value.slice (some ⟨w2.heap.size, 0, none⟩) rows.length rows.length = bv0 at hL4 ⊢
    obtain ⟨t0, ht0⟩ : ∃ t0, t0 = w2.heap.size + 1 + 1 := ⟨_, rfl⟩
    rw [← ht0] at hL4 ⊢
    obtain ⟨c0, hc0⟩ : ∃ c0, c0 = w2.heap.size + 1 := ⟨_, rfl⟩
    rw [← hc0] at hL4 ⊢
    have hlen := orderS_len rows
    obtain ⟨m, hm20, oa, oc, rfl, HLen, HX⟩ : ∃ m, m < 20 ∧ ∃ oa oc, ov = .slice oa m oc ∧ Hid (m = (orderS rows).length) ∧ Hid (∀ i, i < m → ∀ W : World, (∀ k, ov.ownBlock = some k → W.heap[k]? = some qo) → ∃ b, oa = some ⟨b, 0, none⟩ ∧ W.cell? ⟨b, i, none⟩ = some (.int .i64 (((orderS rows).getD i 0 : Nat) : Int))) := by
      refine ⟨(orderS rows).length, by omega, ?_⟩
      rcases hov.2 with ⟨rfl, h0⟩ | ⟨g, cap, cur, rfl, _, hh, _⟩
      · exact ⟨none, 0, by rw [h0], Lib.hid rfl, Lib.hid (fun i hi => by omega)⟩
      · refine ⟨_, cap, rfl, Lib.hid rfl, Lib.hid (fun i hi W hW => ⟨g, rfl, ?_⟩)⟩
        have hcell := hov.cellAt i (by omega)
        rw [List.getElem?_map, List.getElem?_eq_getElem hi] at hcell
        rw [List.getD_eq_getElem?_getD, List.getElem?_eq_getElem hi]
        exact (World.cell?_of_block (a := ⟨g, i, none⟩) ((hW g rfl).trans (hqo g rfl).symm)).trans hcell
    clear hc0 ht0 hmk hh0 hb hbs hb4 hov hlen HI hqo
    have hlp := Lib.hid (laid_pre hm)
    have hord := Lib.hid (orderS_is rows)
    have hlay : Hid (layS rows = (orderS rows).foldl (layOne rows) (start rows)) := Lib.hid (by unfold layS; rw [if_pos hm])
    have hst : Hid ((start rows) = (List.replicate rows.length 0, [], [])) := Lib.hid rfl
    have hgT := Lib.hid (And.intro hg HT.out)
    have hrow := Lib.hid (fun i (hi : i < rows.length) => (show ∃ b off u, a = some ⟨b, off, none⟩ ∧ PairsV w u (rowAt rows i) ∧ ∀ W : World, Below w.heap.size w W → W.cell? ⟨b, off + i, none⟩ = some u from by
      obtain ⟨b, off, u, e, hc, hp⟩ := hx.out i hi
      exact ⟨b, off, u, e, hp, fun W hW => (hW.cell (World.block_lt_of_cell? _ _ hc)).trans hc⟩))
    have HMay := Lib.hid hm
    clear hx HK hm
    go_wp2_with fail
    go_loopw [22] (fun x W => ∃ (k : Nat) (bv vv kv tv : Value) (s : CombS) (ws : List Nat), k ≤ m ∧ x = .int .i64 (k : Int) ∧ Hid (s = ((orderS rows).take k).foldl (layOne rows) (start rows)) ∧ LayV W w.heap.size (Value.slice oa m oc).ownBlock qo none qo w.heap.size c0 t0 bv vv kv tv s.1 s.2.1 s.2.2 ws ∧ Hid (∀ j, bitAt ws j = (s.2.1.getD j 0 != 0)) ∧ ws.length ≤ s.2.1.length ∧ Below w.heap.size w W) (fun x _ => m - (intOf x).toNat)
    case atStart =>
      refine ⟨0, bv0, _, _, _, start rows, [], Nat.zero_le _, rfl, Lib.hid rfl, by rw [hst.out]; exact hL4, Lib.hid (fun j => by rw [hst.out]; simp [bitAt]), by simp, hb5⟩
    case round =>
      clear hL4 hb5
      obtain ⟨k, bv, vv, kv, tv, s, ws, hk, rfl, hs, hL, hbit, hwl, hbw⟩ := hrel
      rename World => w5
      by_cases hlt : k < m
      · have hkI : (k : Int) < (m : Int) := by omega
        obtain ⟨ob, rfl, oc1⟩ := HX.out k hlt w5 (fun k hk => (hL.gst k hk).2)
        have hko : k < (orderS rows).length := by have := HLen.out; omega
        have hid : (orderS rows).getD k 0 = (orderS rows)[k] := by rw [List.getD_eq_getElem?_getD, List.getElem?_eq_getElem hko]; rfl
        have hin := (hord.out.2 ((orderS rows).getD k 0)).1 (by rw [hid]; exact List.getElem_mem hko)
        have hnext := Lib.hid (show ((orderS rows).take (k + 1)).foldl (layOne rows) (start rows) = layOne rows s ((orderS rows).getD k 0) from by
          rw [List.take_succ_eq_append_getElem hko, List.foldl_append, ← hs.out, hid]; rfl)
        have hlaid := Lib.hid (hlp.out k (by omega))
        rw [← hs.out] at hlaid
        clear hid
        generalize (orderS rows).getD k 0 = i at oc1 hin hnext
        obtain ⟨hir, hine⟩ := hin
        have hiI : (i : Int) < (rows.length : Int) := by omega
        obtain ⟨rb, ro, ru, rfl, hru0, hrc⟩ := hrow.out i hir
        have rc1 := hrc w5 hbw
        have hru := PairsV.below hru0 hbw
        have HRC := Lib.hid hrc
        clear hrc
        obtain ⟨pa, pn, pc, rfl, hpn, hpnc, hpcm, hpx⟩ := hru0.open
        clear hru0
        have hrm : rowMay (rowAt rows i) = true := mayS_row HMay.out i hir
        obtain ⟨hnd, hrg⟩ := nodup_nat hrm
        have hsmall : s.2.1.length ≤ 20000 := by
          have h1 := hlaid.out.small
          have h2 : ((orderS rows).take k).length ≤ k := List.length_take_le _ _
          have := Nat.mul_le_mul_left 1000 h2
          omega
        have HF := Lib.hid (fit_any hL.pl hL.tlt (by omega) (.slice pa pn pc) (rowAt rows i) hru hrg (Nat.lt_of_lt_of_le hgT.out.1 hbw.size) (fun j hj => (hbw.cell (p := ⟨_, j, none⟩) hgT.out.1).trans (hgT.out.2 j hj)))
        have hblen : s.1.length = rows.length := hlaid.out.blen
        have HL := Lib.hid hL
        have HG := Lib.hid (And.intro hnd hrg)
        clear hL hru hnd hrg hine hrm
        go_wp2_with fail
        refine HF.out.mono ?_
        rintro e w6 ⟨b, rfl, hf1, hf2, hb6⟩
        have hle := fit_least hbit.out hf1 hf2
        have hbl := (least_spec s.2.1 (rowAt rows i)).2.1
        rw [hle] at hbl
        have hL6 := HL.out.below hb6
        have hbw6 := hbw.trans (hb6.mono hbw.size)
        have hc0 := hL6.sb.cell
        obtain ⟨bg, bcap, rfl⟩ : ∃ g cap, bv = .slice (some ⟨g, 0, none⟩) s.1.length cap := by
          rcases hL6.sb.own.2 with ⟨_, h0⟩ | ⟨g, cap, cur, rfl, _⟩
          · omega
          · exact ⟨g, cap, rfl⟩
        have hbc : w6.cell? ⟨bg, i, none⟩ = some (.int .i64 (s.1.getD i 0)) := by
          rw [hL6.sb.own.cellAt i (by omega), List.getElem?_map, List.getElem?_eq_getElem (by omega), List.getD_eq_getElem?_getD, List.getElem?_eq_getElem (by omega)]; rfl
        have hbf := hL6.sb.own.frozenAt i
        have hiB : (i : Int) < (s.1.length : Int) := by omega
        have hL7 := Lib.hid (hL6.setB i (b : Int))
        have hbw7 := Lib.hid (hL6.fresh hbw6 (j := 3) (g := bg) (m := i) rfl (.int .i64 (b : Int)))
        have hnx2 : Hid (layOne rows s i = (s.1.set i (b : Int), putRow i b (rowAt rows i) s.2)) := Lib.hid (by unfold layOne; rw [hle])
        have hbit7 := hbit
        have rc6 := HRC.out w6 hbw6
        have hsb : s.2.1.length ≤ 20000 := hsmall
        have hvl0 : s.2.1.length = s.2.2.length := hlaid.out.len
        have HVL := Lib.hid hvl0
        clear hvl0
        have NUM := Lib.hid (And.intro hblen (And.intro hwl (And.intro hsmall (And.intro hbl (And.intro hr4 (And.intro hpnc hpcm))))))
        have rc7 := HRC.out _ hbw7.out
        have hiN : (0 : Int) ≤ (i : Int) := by omega
        have hcm7 : rows.length ≤ 1000000 := by omega
        clear hL6 hbw6 hb6 hf1 hf2 hle HF HL hlaid hblen hwl hsmall hbl hr4 hpnc hpcm hsb hcm hnc rc1 hko
        have hpn' := hpn
        generalize hrr : rowAt rows i = row at hpn hpx HG hnx2
        have HRR := Lib.hid hrr
        clear hrr
        go_wp2_with fail
        generalize w6.setCell ⟨bg, i, none⟩ (.int .i64 (b : Int)) = w7 at hL7 hbw7 rc7 ⊢
        clear hc0 hbc hbf rc6 oc1 rc7
        go_loopw [41] (fun x W => ∃ (j : Nat) (vv kv tv : Value) (cv : List Int × List Int) (ws : List Nat), j ≤ pn ∧ x = .int .i64 (j : Int) ∧ Hid (cv = putRow i b (row.take j) s.2) ∧ LayV W w.heap.size (Value.slice (some ⟨ob, 0, none⟩) m oc).ownBlock qo none qo w.heap.size c0 t0 (.slice (some ⟨bg, 0, none⟩) s.1.length bcap) vv kv tv (s.1.set i (b : Int)) cv.1 cv.2 ws ∧ Hid (∀ j, bitAt ws j = (cv.1.getD j 0 != 0)) ∧ ws.length ≤ cv.1.length ∧ cv.1.length = cv.2.length ∧ cv.1.length ≤ 30000 ∧ Below w.heap.size w W) (fun x _ => pn - (intOf x).toNat)
        case atStart =>
          have := NUM.out
          refine ⟨0, vv, kv, tv, s.2, ws, Nat.zero_le _, rfl, Lib.hid (by simp [putRow]), hL7.out, hbit, this.2.1, HVL.out, by omega, hbw7.out⟩
        case round =>
          obtain ⟨j, vv, kv, tv, cv, ws, hj, rfl, hcv, hL, hbit, hwl, hvl, hcl, hbw8⟩ := hrel
          rename World => w8
          by_cases hjn : j < pn
          · have hjI : (j : Int) < (pn : Int) := by omega
            obtain ⟨b2, o2, rfl, p1, p2⟩ := hpx.out j hjn
            replace p1 := (hbw8.cell (World.block_lt_of_cell? _ _ p1)).trans p1
            replace p2 := (hbw8.cell (World.block_lt_of_cell? _ _ p2)).trans p2
            have hjr : j < row.length := by have := hpn.out; omega
            have hpm : row.getD j (0, 0) ∈ row := by rw [List.getD_eq_getElem?_getD, List.getElem?_eq_getElem hjr]; simp
            have hpr := HG.out.2 _ hpm
            have hnx : Hid (putRow i b (row.take (j + 1)) s.2 = (setPad cv.1 (b + (row.getD j (0, 0)).1.toNat) ((i : Int) + 1), setPad cv.2 (b + (row.getD j (0, 0)).1.toNat) (row.getD j (0, 0)).2)) := Lib.hid (by
              rw [List.take_succ_eq_append_getElem hjr, putRow_snoc, ← hcv.out, List.getD_eq_getElem?_getD, List.getElem?_eq_getElem hjr]; rfl)
            generalize row.getD j (0, 0) = p at p1 p2 hpr hnx
            obtain ⟨qa, qv⟩ := p
            obtain ⟨q, rfl⟩ := Int.eq_ofNat_of_zero_le hpr.1
            simp only [Int.toNat_natCast] at p1 p2 hnx
            have hq9 : q ≤ 999 := by have := hpr.2; simp at this; omega
            have hb2 : b ≤ 20000 := by have := NUM.out; omega
            clear hpr hpm
            have hL9 := hL.guest #[.int .i64 (q : Int), .int .i64 qv] 39 hbw8.size
            have hbw9 := hbw8.alloc hbw8.size (.cells #[.int .i64 (q : Int), .int .i64 qv] 39)
            have ht9 := take_any hL9.pl (b + q) (by omega) (by omega) hL9.tlt hbw9.size
            rw [show ((b + q : Nat) : Int) = (b : Int) + (q : Int) by omega] at ht9
            have HT9 := Lib.hid ht9
            clear ht9
            have H9 := Lib.hid (And.intro hL9 hbw9)
            have HNUM2 := Lib.hid (And.intro hwl (And.intro hvl hcl))
            clear hL hL9 hbw9 hwl hvl hcl
            go_wp2_with fail
            refine HT9.out.mono ?_
            rintro e w10 ⟨tv', rfl, hP, hTu, hv'⟩
            have hL10 := H9.out.1.placed hP hTu hv'
            have hbw10 := hTu.to_below H9.out.2 H9.out.2.size (fun k hk => by
              rcases hk with e | e
              · rw [e]; exact H9.out.1.tB
              · exact (H9.out.1.pl.own.lt k e).1)
            clear hP hTu hv' HT9 H9 p1 p2
            go_wp2_with fail
            go_loopg [] (b + q + 1) (fun gg W => ∃ (mm : Nat) (vv kv : Value), mm ≤ b + q + 1 - cv.1.length ∧ b + q + 1 ≤ cv.1.length + mm + gg ∧ LayV W w.heap.size (Value.slice (some ⟨ob, 0, none⟩) m oc).ownBlock qo (some w8.heap.size) (.cells #[.int .i64 (q : Int), .int .i64 qv] 39 (0, 0)) w.heap.size c0 t0 (.slice (some ⟨bg, 0, none⟩) s.1.length bcap) vv kv tv' (s.1.set i (b : Int)) (padTo cv.1 mm) (padTo cv.2 mm) (takeW ws (b + q)) ∧ Below w.heap.size w W)
            case atStart => exact ⟨0, vv, kv, Nat.zero_le _, by omega, by simpa [padTo] using hL10, hbw10⟩
            case round =>
              clear hL10 hbw10
              obtain ⟨mm, vv, kv, hmm, hgg, hL, hbw11⟩ := hrel
              rename World => w11
              have hlen1 := padTo_len cv.1 mm
              have hlen2 := padTo_len cv.2 mm
              have hvl := HNUM2.out.2.1
              have hcl := HNUM2.out.2.2
              by_cases hlt3 : cv.1.length + mm ≤ b + q
              · obtain ⟨av, ccv, rfl⟩ : ∃ a1 c1, vv = .slice a1 (padTo cv.2 mm).length c1 := by
                  rcases hL.sv.own.2 with ⟨rfl, h0⟩ | ⟨g, cap, cur, rfl, _⟩
                  · exact ⟨none, 0, by rw [h0]⟩
                  · exact ⟨_, cap, rfl⟩
                obtain ⟨ak, cck, rfl⟩ : ∃ a1 c1, kv = .slice a1 (padTo cv.1 mm).length c1 := by
                  rcases hL.sk.own.2 with ⟨rfl, h0⟩ | ⟨g, cap, cur, rfl, _⟩
                  · exact ⟨none, 0, by rw [h0]⟩
                  · exact ⟨_, cap, rfl⟩
                have hcV := hL.sv.cell
                have hownV := hL.sv.own
                have hltI : (((padTo cv.2 mm).length : Nat) : Int) ≤ (b : Int) + (q : Int) := by omega
                have hLV : (padTo cv.2 mm).length ≤ 100000 := by omega
                have HA := Lib.hid hL
                have HN := Lib.hid (And.intro hlen1 hlen2)
                have hbs11 := hbw11.size
                clear hL hlen1 hlen2 hvl hcl
                go_wp2_with (first | (at_builtin; refine wpList_append_own_at _ rfl _ _ 28 rfl w.heap.size 3 i0 (.int .i64 0) 1 8 Tryd.underlying28 hi0 hz0 hz1 hz2 rfl (by decide) _ _ _ rfl (hownV.alloc _) ⟨w11.heap.size, 0, none⟩ 1 1 [.int .i64 0] rfl rfl (news1 _ _ _) ?c2 ?c3 ?c4 ?c5 ?_))
                case c2 => first | rfl | (intro u hu; simp at hu; rw [hu]; rfl)
                case c3 => unfold maxLen; omega
                case c4 => omega
                case c5 => simp; omega
                intro v2 w12 ho12 hg12 _ hl12
                have e1 : (padTo cv.2 mm).map (Value.int .i64) ++ [.int .i64 0] = (padTo cv.2 (mm + 1)).map (Value.int .i64) := by rw [padTo_next, List.map_append]; rfl
                have e2 : (padTo cv.2 mm).length + 1 = (padTo cv.2 (mm + 1)).length := by rw [padTo_next, List.length_append]; rfl
                rw [e1, e2] at ho12
                obtain ⟨x1, x2, hL12⟩ := HA.out.pushV hg12 ho12 hl12
                obtain ⟨gv, gc, rfl⟩ : ∃ g2 c2, v2 = .slice (some ⟨g2, 0, none⟩) (padTo cv.2 (mm + 1)).length c2 := by
                  rcases ho12.2 with ⟨_, h0⟩ | ⟨g, cap, cur, rfl, _⟩
                  · rw [padTo_next] at h0; simp at h0
                  · exact ⟨g, cap, rfl⟩
                have hb12 : Below w.heap.size w (w12.setCell ⟨c0, 1, none⟩ (.slice (some ⟨gv, 0, none⟩) (padTo cv.2 (mm + 1)).length gc)) :=
                  ((hbw11.alloc hbw11.size (.cells #[.int .i64 0] 3)).grown hg12 (by simp; omega) (fun k hk => (HA.out.ge 4 k hk))).setCell (p := ⟨c0, 1, none⟩) HA.out.cB _
                have HB := Lib.hid (And.intro hL12 hb12)
                clear ho12 hg12 hl12 e1 e2 hL12 hb12 hownV hcV hLV hbs11
                have hcK := HB.out.1.sk.cell
                have hownK := HB.out.1.sk.own
                have hLK : (padTo cv.1 mm).length ≤ 100000 := by have := HN.out; have := HNUM2.out; omega
                have hbs12 : w.heap.size ≤ w12.heap.size := by have := HB.out.2.size; simpa [World.setCell] using this
                go_wp2_with (first | (at_builtin; go_loud (refine wpList_append_own_at _ rfl _ _ 28 rfl w.heap.size 3 i0 (.int .i64 0) 1 8 Tryd.underlying28 hi0 hz0 hz1 hz2 rfl (by decide) _ _ _ rfl (hownK.alloc _) ⟨w12.heap.size, 0, none⟩ 1 1 [.int .i64 0] rfl rfl (newsS _ _ _ _ _) ?d2 ?d3 ?d4 ?d5 ?_)))
                case d2 => first | rfl | (intro u hu; simp at hu; rw [hu]; rfl)
                case d3 => unfold maxLen; omega
                case d4 => omega
                case d5 => simp [World.setCell]; omega
                intro v3 w13 ho13 hg13 _ hl13
                have e1 : (padTo cv.1 mm).map (Value.int .i64) ++ [.int .i64 0] = (padTo cv.1 (mm + 1)).map (Value.int .i64) := by rw [padTo_next, List.map_append]; rfl
                have e2 : (padTo cv.1 mm).length + 1 = (padTo cv.1 (mm + 1)).length := by rw [padTo_next, List.length_append]; rfl
                rw [e1, e2] at ho13
                have hsz12 : (w12.setCell ⟨c0, 1, none⟩ (.slice (some ⟨gv, 0, none⟩) (padTo cv.2 (mm + 1)).length gc)).heap.size = w12.heap.size := by simp [World.setCell]
                obtain ⟨y1, y2, hL13⟩ := HB.out.1.pushK hg13 ho13 (by rw [hsz12]; exact hl13)
                obtain ⟨gz, gzc, rfl⟩ : ∃ g2 c2, v3 = .slice (some ⟨g2, 0, none⟩) (padTo cv.1 (mm + 1)).length c2 := by
                  rcases ho13.2 with ⟨_, h0⟩ | ⟨g, cap, cur, rfl, _⟩
                  · rw [padTo_next] at h0; simp at h0
                  · exact ⟨g, cap, rfl⟩
                have hb13 : Below w.heap.size w (w13.setCell ⟨c0, 2, none⟩ (.slice (some ⟨gz, 0, none⟩) (padTo cv.1 (mm + 1)).length gzc)) :=
                  ((HB.out.2.alloc HB.out.2.size (.cells #[.int .i64 0] 3)).grown hg13 (by simp [World.setCell]; omega) (fun k hk => (HB.out.1.ge 5 k hk))).setCell (p := ⟨c0, 2, none⟩) HB.out.1.cB _
                have HC := Lib.hid (And.intro hL13 hb13)
                clear ho13 hg13 hl13 e1 e2 hL13 hb13 hownK hcK hLK hbs12 hsz12 x1 x2 HB HA
                go_wp2_with fail
                go_roundg (b + q + 1 - (cv.1.length + (mm + 1)))
                case measure => omega
                case rel => exact ⟨mm + 1, _, _, by omega, by omega, HC.out.1, HC.out.2⟩
              · have hmx : mm = b + q + 1 - cv.1.length := by omega
                have hlt4 : b + q < cv.1.length + mm := by omega
                obtain ⟨gv, gc, rfl⟩ : ∃ g2 c2, vv = .slice (some ⟨g2, 0, none⟩) (padTo cv.2 mm).length c2 := by
                  rcases hL.sv.own.2 with ⟨_, h0⟩ | ⟨g, cap, cur, rfl, _⟩
                  · omega
                  · exact ⟨g, cap, rfl⟩
                obtain ⟨gz, gzc, rfl⟩ : ∃ g2 c2, kv = .slice (some ⟨g2, 0, none⟩) (padTo cv.1 mm).length c2 := by
                  rcases hL.sk.own.2 with ⟨_, h0⟩ | ⟨g, cap, cur, rfl, _⟩
                  · omega
                  · exact ⟨g, cap, rfl⟩
                have hcV := hL.sv.cell
                have hbox := (hL.hst w8.heap.size rfl).2
                have hbx : w11.cell? ⟨w8.heap.size, 1, none⟩ = some (.int .i64 qv) := cell_of_row _ _ _ _ _ _ hbox
                have hvc : ∃ u, w11.cell? ⟨gv, b + q, none⟩ = some u := by
                  rw [hL.sv.own.cellAt (b + q) (by omega), List.getElem?_map, List.getElem?_eq_getElem (by omega)]; exact ⟨_, rfl⟩
                obtain ⟨uv, hvc⟩ := hvc
                have hvf := hL.sv.own.frozenAt (b + q)
                have hL14 := hL.setV (b + q) qv
                have hb14 := hL.fresh hbw11 (j := 4) (g := gv) (m := b + q) rfl (.int .i64 qv)
                have hcK := hL14.sk.cell
                have hkc : ∃ u, (w11.setCell ⟨gv, b + q, none⟩ (.int .i64 qv)).cell? ⟨gz, b + q, none⟩ = some u := by
                  rw [hL14.sk.own.cellAt (b + q) (by omega), List.getElem?_map, List.getElem?_eq_getElem (by omega)]; exact ⟨_, rfl⟩
                obtain ⟨uk, hkc⟩ := hkc
                have hkf := hL14.sk.own.frozenAt (b + q)
                have hL15 := hL14.setK (b + q) ((i : Int) + 1)
                have hb15 := hL14.fresh hb14 (j := 5) (g := gz) (m := b + q) rfl (.int .i64 ((i : Int) + 1))
                have hltV : ¬ (((padTo cv.2 mm).length : Nat) : Int) ≤ (b : Int) + (q : Int) := by omega
                have hvI : (b : Int) + (q : Int) < (((padTo cv.2 mm).length : Nat) : Int) := by omega
                have hkI2 : (b : Int) + (q : Int) < (((padTo cv.1 mm).length : Nat) : Int) := by omega
                have hv0 : (0 : Int) ≤ (b : Int) + (q : Int) := by omega
                have hvN : ((b : Int) + (q : Int)).toNat = b + q := by omega
                have HE := Lib.hid (And.intro (hL15.forget (zo' := qo)) hb15)
                have HN := Lib.hid (And.intro hmx (And.intro hlen1 hlen2))
                clear hL15 hb15 hL14 hb14 hL hbw11 hbox hmx hlt4 hlen1 hlen2 hvl hcl hmm hgg hlt3
                have hjb : (j : Int) + 1 ≤ 9223372036854775807 := by have := NUM.out; omega
                go_wp2_with fail
                go_roundw
                case rel =>
                  have hN := HN.out
                  have hvl := HNUM2.out.2.1
                  have hwl := HNUM2.out.1
                  have hcl := HNUM2.out.2.2
                  have e1 : setPad cv.1 (b + q) ((i : Int) + 1) = (padTo cv.1 mm).set (b + q) ((i : Int) + 1) := by rw [setPad_eq, hN.1]
                  have e2 : setPad cv.2 (b + q) qv = (padTo cv.2 mm).set (b + q) qv := by rw [setPad_eq, hN.1, hvl]
                  refine ⟨j + 1, .slice (some ⟨gv, 0, none⟩) (padTo cv.2 mm).length gc, .slice (some ⟨gz, 0, none⟩) (padTo cv.1 mm).length gzc, tv', (setPad cv.1 (b + q) ((i : Int) + 1), setPad cv.2 (b + q) qv), takeW ws (b + q), by omega, by go_num, Lib.hid hnx.out.symm, ?_, Lib.hid (fun k => ?_), ?_, ?_, ?_, HE.out.2⟩
                  · show LayV _ _ _ _ _ _ _ _ _ _ _ _ _ _ (setPad cv.1 (b + q) ((i : Int) + 1)) (setPad cv.2 (b + q) qv) _
                    have := HE.out.1
                    rw [e1, e2]; exact this
                  · show bitAt (takeW ws (b + q)) k = ((setPad cv.1 (b + q) ((i : Int) + 1)).getD k 0 != 0)
                    rw [takeW_bit, setPad_getD, hbit.out k]
                    by_cases hk : k = b + q
                    · rw [if_pos hk, decide_eq_true hk, Bool.or_true]
                      symm; rw [bne_iff_ne]; omega
                    · rw [if_neg hk, decide_eq_false hk, Bool.or_false]
                  · show (takeW ws (b + q)).length ≤ (setPad cv.1 (b + q) ((i : Int) + 1)).length
                    rw [takeW_len, setPad_len]; omega
                  · show (setPad cv.1 (b + q) ((i : Int) + 1)).length = (setPad cv.2 (b + q) qv).length
                    rw [setPad_len, setPad_len]; omega
                  · show (setPad cv.1 (b + q) ((i : Int) + 1)).length ≤ 30000
                    rw [setPad_len]; omega
                case measure => simp [intOf]; omega
          · obtain rfl : j = pn := by omega
            have hend : Hid (cv = putRow i b row s.2) := Lib.hid (by rw [hcv.out, List.take_of_length_le (by have := hpn.out; omega)])
            have HE := Lib.hid (And.intro hL hbw8)
            have hkb : (k : Int) + 1 ≤ 9223372036854775807 := by have := HLen.out; omega
            clear hL hbw8
            go_wp2_with fail
            go_roundw
            case rel =>
              refine ⟨k + 1, _, _, _, _, ((s.1.set i (b : Int)), cv), ws, by omega, by go_num, Lib.hid ?_, HE.out.1, hbit, hwl, HE.out.2⟩
              rw [hnext.out, hnx2.out, hend.out]
            case measure => simp [intOf]; omega
      · have hkm : k = m := by omega
        have hsl : s = layS rows := by
          rw [hlay.out, hs.out, List.take_of_length_le (by have := HLen.out; omega)]
        have HSL := Lib.hid hsl
        clear hsl hkm
        obtain ⟨ba, bc, rfl⟩ : ∃ a1 c1, bv = .slice a1 s.1.length c1 := by
          rcases hL.sb.own.2 with ⟨rfl, h0⟩ | ⟨g, cap, cur, rfl, _⟩
          · exact ⟨none, 0, by rw [h0]⟩
          · exact ⟨_, cap, rfl⟩
        obtain ⟨va, vc, rfl⟩ : ∃ a1 c1, vv = .slice a1 s.2.2.length c1 := by
          rcases hL.sv.own.2 with ⟨rfl, h0⟩ | ⟨g, cap, cur, rfl, _⟩
          · exact ⟨none, 0, by rw [h0]⟩
          · exact ⟨_, cap, rfl⟩
        obtain ⟨ka, kc, rfl⟩ : ∃ a1 c1, kv = .slice a1 s.2.1.length c1 := by
          rcases hL.sk.own.2 with ⟨rfl, h0⟩ | ⟨g, cap, cur, rfl, _⟩
          · exact ⟨none, 0, by rw [h0]⟩
          · exact ⟨_, cap, rfl⟩
        have q0 := hL.sb.cell
        have q1 := hL.sv.cell
        have q2 := hL.sk.cell
        have hc0 : w5.cell? ⟨w.heap.size, 0, none⟩ = some (.slice none 0 0) := cell_of_row _ _ _ _ _ _ hL.res
        have hc1 : w5.cell? ⟨w.heap.size, 1, none⟩ = some (.slice none 0 0) := cell_of_row _ _ _ _ _ _ hL.res
        have hc2 : w5.cell? ⟨w.heap.size, 2, none⟩ = some (.slice none 0 0) := cell_of_row _ _ _ _ _ _ hL.res
        have hf0 : w5.frozen? ⟨w.heap.size, 0, none⟩ = false := free_of_block hL.res
        have hf1 : w5.frozen? ⟨w.heap.size, 1, none⟩ = false := free_of_block hL.res
        have hf2 : w5.frozen? ⟨w.heap.size, 2, none⟩ = false := free_of_block hL.res
        have HE := Lib.hid (And.intro hL hbw)
        clear hL hbw hwl hnc hcm hr4
        go_wp2_with fail
        have hne : ∀ j k, j ≠ 0 → own9 (some w.heap.size) (some c0) (some t0) (Value.slice ba s.1.length bc).ownBlock (Value.slice va s.2.2.length vc).ownBlock (Value.slice ka s.2.1.length kc).ownBlock tv.ownBlock (Value.slice oa m oc).ownBlock none j = some k → k ≠ w.heap.size := fun j k hj hk e => HE.out.1.ap j 0 hj k hk (by rw [e]; rfl)
        have key : ∀ (j : Nat) (v : Value) (l : List Int) (x y z : Value), j ≠ 0 → (∀ k, v.ownBlock = some k → k ≠ w.heap.size) → w5.ownsRow w.heap.size 3 1 v l.length (l.map (Value.int .i64)) →
            IntsV (((w5.setCell ⟨w.heap.size, 0, none⟩ x).setCell ⟨w.heap.size, 1, none⟩ y).setCell ⟨w.heap.size, 2, none⟩ z) v l := fun j v l x y z hj hv ho =>
          IntsV.of_owns (row_kept ho (fun k hk => by
            rw [Below.heap_setCell _ _ _ _ (hv k hk), Below.heap_setCell _ _ _ _ (hv k hk), Below.heap_setCell _ _ _ _ (hv k hk)]))
        refine bodyPost_ret (v := .agg #[.slice ba s.1.length bc, .slice va s.2.2.length vc, .slice ka s.2.1.length kc]) (by simp [results, Tryd.results13, go_sem, hc0, hc1, hc2]) rfl ⟨⟨_, _, _, rfl, ?_, ?_, ?_⟩, ((HE.out.2.setCell (p := ⟨w.heap.size, 0, none⟩) (Nat.le_refl _) _).setCell (p := ⟨w.heap.size, 1, none⟩) (Nat.le_refl _) _).setCell (p := ⟨w.heap.size, 2, none⟩) (Nat.le_refl _) _⟩
        · rw [← HSL.out]; exact key 3 _ _ _ _ _ (by omega) (fun k hk => hne 3 k (by omega) hk) HE.out.1.sb.own
        · rw [← HSL.out]; exact key 4 _ _ _ _ _ (by omega) (fun k hk => hne 4 k (by omega) hk) HE.out.1.sv.own
        · rw [← HSL.out]; exact key 5 _ _ _ _ _ (by omega) (fun k hk => hne 5 k (by omega) hk) HE.out.1.sk.own
end Go.Proofs.YtjeebcnjdhlcfaaDoor
