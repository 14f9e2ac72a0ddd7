/- Sets of numbers in sixteen words: joined, in both, in the first alone. -/
import Derived.Test.YtijnekbhpdcemaaDoorBits2
import Derived.Laws.Bits64b
import Derived.Outline
import Derived.ChangeKeysEq
import Derived.Laws.StructEq
namespace Go.Proofs.YtijnekbhpdcemaaDoor
open Go.RowKit
set_option linter.unusedVariables false

theorem block3_low (w : World) (A B C : Obj) : (((w.alloc A).alloc B).alloc C).heap[w.heap.size]? = some A := by
  rw [heap_alloc_old _ _ (by simp; omega)]; exact heap_alloc2_old _ _ _
theorem block3_mid (w : World) (A B C : Obj) : (((w.alloc A).alloc B).alloc C).heap[w.heap.size + 1]? = some B := by
  rw [heap_alloc_old _ _ (by simp)]; exact heap_alloc2_new _ _ _
theorem block3_top (w : World) (A B C : Obj) : (((w.alloc A).alloc B).alloc C).heap[w.heap.size + 2]? = some C := by
  have h := heap_alloc_new ((w.alloc A).alloc B) C
  have e : ((w.alloc A).alloc B).heap.size = w.heap.size + 2 := by simp
  rwa [e] at h

theorem arrInfo : (Tryd.prog.info? 27).map (·.size) = some 16 := by kernel_rfl
theorem arrInfo_of (ws : List Nat) (h : ws.length = 16) : (Tryd.prog.info? 27).map (·.size) = some (setA ws).size := by rw [arrInfo, setA_size, h]

theorem zip_of {f : Nat → Nat → Nat} {ra rb xs : List Nat} (ha : ra.length = 16) (hb : rb.length = 16) (hx : xs.length = 16) (h : ∀ j, j < 16 → xs.getD j 0 = f (ra.getD j 0) (rb.getD j 0)) : xs = List.zipWith f ra rb := by
  apply List.ext_getElem
  · simp; omega
  · intro j h1 h2
    have := h j (by omega)
    rw [List.getD_eq_getElem?_getD, List.getD_eq_getElem?_getD, List.getD_eq_getElem?_getD, List.getElem?_eq_getElem h1, List.getElem?_eq_getElem (by omega), List.getElem?_eq_getElem (by omega)] at this
    rw [List.getElem_zipWith]
    exact this

theorem orW (u v : Nat) (hu : u < 2 ^ 64) (hv : v < 2 ^ 64) : bits .or .u64 (u : Int) (v : Int) = ((u ||| v : Nat) : Int) := bits_or_u64_nat _ _ hu hv
theorem andW (u v : Nat) (hu : u < 2 ^ 64) (hv : v < 2 ^ 64) : bits .and .u64 (u : Int) (v : Int) = ((u &&& v : Nat) : Int) := bits_and_u64_nat _ _ hu hv

theorem andNotW (u v : Nat) (hu : u < 2 ^ 64) (hv : v < 2 ^ 64) : bits .andNot .u64 (u : Int) (v : Int) = ((u ^^^ (u &&& v) : Nat) : Int) := by
  have h1 : (BitVec.ofInt 64 (u : Int)).toNat = u := by
    rw [BitVec.ofInt_natCast, BitVec.toNat_ofNat]; exact Nat.mod_eq_of_lt (by omega)
  have h2 : (BitVec.ofInt 64 (v : Int)).toNat = v := by
    rw [BitVec.ofInt_natCast, BitVec.toNat_ofNat]; exact Nat.mod_eq_of_lt (by omega)
  have e : (BitVec.ofInt 64 (u : Int) &&& ~~~ BitVec.ofInt 64 (v : Int)).toNat = u ^^^ (u &&& v) := by
    apply Nat.eq_of_testBit_eq
    intro i
    rw [Nat.testBit_xor, Nat.testBit_and, ← BitVec.getLsbD]
    rw [BitVec.getLsbD_and, BitVec.getLsbD_not]
    have e1 : (BitVec.ofInt 64 (u : Int)).getLsbD i = u.testBit i := by rw [BitVec.getLsbD, h1]
    have e2 : (BitVec.ofInt 64 (v : Int)).getLsbD i = v.testBit i := by rw [BitVec.getLsbD, h2]
    rw [e1, e2]
    by_cases hi : i < 64
    · simp [hi]; cases u.testBit i <;> cases v.testBit i <;> rfl
    · have : u.testBit i = false := Nat.testBit_lt_two_pow (Nat.lt_of_lt_of_le hu (Nat.pow_le_pow_right (by omega) (by omega)))
      simp [this]
  have hx : u ^^^ (u &&& v) < 2 ^ 64 := Nat.xor_lt_two_pow hu (Nat.and_lt_two_pow _ hv)
  show IntKind.u64.wrap ((BitVec.ofInt 64 (u : Int) &&& ~~~ BitVec.ofInt 64 (v : Int)).toNat : Int) = _
  rw [e, IntKind.wrap_u64]
  omega

theorem or_any (ra rb : List Nat) (w : World) (ha : ra.length = 16) (hb : rb.length = 16) (ha64 : ∀ y ∈ ra, y < 2 ^ 64) (hb64 : ∀ y ∈ rb, y < 2 ^ 64) :
    Calls Tryd.prog 23 #[.agg (setA ra), .agg (setA rb)] w fun e w' => e = .returned (.agg (setA (List.zipWith (· ||| ·) ra rb))) ∧ Below w.heap.size w w' := by
  have hA := Lib.hid ha; have hB := Lib.hid hb
  clear ha hb
  have H64 := Lib.hid ha64; have G64 := Lib.hid hb64
  clear ha64 hb64
  go_enter Tryd.func23, Tryd.ntmps23
  go_wp2_with (first | (refine wpList_load_row rfl 27 _ rfl (w.heap.size + 1) rfl 29 (setA rb) (0, 0) _ (block3_mid w (.cells (setA ra) 29) (.cells (setA rb) 29) _) Tryd.underlying27 rfl (arrInfo_of rb hB.out) ?_))
  go_loopw [5, 6, 9] (fun x y i wr => ∃ (k : Nat) (xs : List Nat), k ≤ 16 ∧ i = .int .i64 k ∧ Hid (xs.length = 16) ∧ Hid (∀ j, j < 16 → xs.getD j 0 = if j < k then (· ||| ·) (ra.getD j 0) (rb.getD j 0) else ra.getD j 0) ∧ Below w.heap.size w wr ∧
      wr.heap[w.heap.size]? = some (.cells (setA xs) 29 (0, 0)) ∧ wr.heap[w.heap.size + 2]? = some (.cells (setA noWords) 29 (0, 0))) (fun _ _ i _ => 16 - (intOf i).toNat)
  case atStart =>
    exact ⟨0, ra, Nat.zero_le _, rfl, hA, Lib.hid (fun j hj => by rw [if_neg (by omega)]), (((Below.refl _ _).alloc (Nat.le_refl _) _).alloc (by simp) _).alloc (by first | (simp; done) | (simp; omega)) _, block3_low w (.cells (setA ra) 29) (.cells (setA rb) 29) _, block3_top w (.cells (setA ra) 29) (.cells (setA rb) 29) _⟩
  case round =>
    obtain ⟨k, xs, hk, rfl, hxl, hxs, hbe, hh0, hh2⟩ := hrel
    by_cases hlt : k < 16
    · have hkx : k < xs.length := by rw [hxl.out]; exact hlt
      have hkb : k < rb.length := by rw [hB.out]; exact hlt
      have hix := fun (W : World) => run_index_agg (P := Tryd.prog) W 27 26 .u64 16 (setA rb) k _ Tryd.underlying27 Tryd.underlying26 (by kernel_rfl) hlt (setA_get rb k hkb)
      have hcell : wr.cell? ⟨w.heap.size, k, none⟩ = some (.int .u64 (xs.getD k 0 : Nat)) := by
        rw [cell_of_row _ _ _ _ _ _ hh0]; exact setA_get _ _ hkx
      have hfree : wr.frozen? ⟨w.heap.size, k, none⟩ = false := free_of_block hh0
      have hxk := Lib.hid (show xs.getD k 0 = ra.getD k 0 by rw [hxs.out k hlt, if_neg (by omega)])
      have hu : xs.getD k 0 < 2 ^ 64 := by
        rw [hxk.out, List.getD_eq_getElem?_getD, List.getElem?_eq_getElem (by rw [hA.out]; exact hlt)]; exact H64.out _ (List.getElem_mem _)
      have hv : rb.getD k 0 < 2 ^ 64 := by
        rw [List.getD_eq_getElem?_getD, List.getElem?_eq_getElem hkb]; exact G64.out _ (List.getElem_mem _)
      have how := Lib.hid (orW _ _ hu hv)
      clear hkx hkb hu hv
      have hyb := Lib.hid (rfl : rb.getD k 0 = rb.getD k 0)
      generalize h1 : xs.getD k 0 = u at hcell how hxk
      generalize h2 : rb.getD k 0 = v at hix how hyb
      have H1 := Lib.hid h1; have H2 := Lib.hid h2
      clear h1 h2
      go_wp2_with (fail)
      go_roundw
      case rel =>
        rw [how.out]
        refine ⟨k + 1, xs.set k ((· ||| ·) u v), by omega, by go_num, Lib.hid (by rw [List.length_set]; exact hxl.out), Lib.hid (fun j hj => ?_), hbe.setCell (by simp) _, ?_, ?_⟩
        · by_cases e : j = k
          · subst e
            rw [if_pos (by omega), List.getD_eq_getElem?_getD, List.getElem?_set_self (by rw [hxl.out]; exact hlt), H2.out, ← hxk.out]; rfl
          · have hx2 := hxs.out j hj
            rw [List.getD_eq_getElem?_getD, List.getElem?_set_ne (by omega), ← List.getD_eq_getElem?_getD, hx2]
            by_cases hjk : j < k
            · rw [if_pos hjk, if_pos (by omega)]
            · rw [if_neg hjk, if_neg (by omega)]
        · rw [block_setCell hh0, setA_set]
        · rw [Below.heap_setCell _ _ _ _ (by simp)]; exact hh2
      case measure => simp [intOf]; omega
    · go_wp2_with (first | (refine wpList_load_row rfl 29 _ rfl w.heap.size rfl 29 (setA xs) (0, 0) _ hh0 Tryd.underlying29 rfl (setInfo_of xs hxl.out) ?_) | (refine wpList_store_row rfl 29 _ _ rfl (w.heap.size + 2) (setA xs) rfl rfl 29 (setA noWords) hh2 (setInfo_of xs hxl.out) (by rw [setA_size, setA_size, hxl.out]; rfl) (setA_one _) ?_))
      have hR := setRow_heap wr (w.heap.size + 2) (setA noWords) (setA xs) 29 (0, 0) hh2
      refine bodyPost_ret (v := .agg (setA xs)) (results_cell_row rfl _ _ (w.heap.size + 2) 29 (setA xs) (0, 0) _ rfl hR Tryd.underlying29 rfl (setInfo_of xs hxl.out)) rfl ⟨?_, below_setRow hbe (by omega) _⟩
      have : xs = List.zipWith (· ||| ·) ra rb := zip_of hA.out hB.out hxl.out (fun j hj => by rw [hxs.out j hj, if_pos (by omega)])
      rw [this]

theorem and_any (ra rb : List Nat) (w : World) (ha : ra.length = 16) (hb : rb.length = 16) (ha64 : ∀ y ∈ ra, y < 2 ^ 64) (hb64 : ∀ y ∈ rb, y < 2 ^ 64) :
    Calls Tryd.prog 24 #[.agg (setA ra), .agg (setA rb)] w fun e w' => e = .returned (.agg (setA (List.zipWith (· &&& ·) ra rb))) ∧ Below w.heap.size w w' := by
  have hA := Lib.hid ha; have hB := Lib.hid hb
  clear ha hb
  have H64 := Lib.hid ha64; have G64 := Lib.hid hb64
  clear ha64 hb64
  go_enter Tryd.func24, Tryd.ntmps24
  go_wp2_with (first | (refine wpList_load_row rfl 27 _ rfl (w.heap.size + 1) rfl 29 (setA rb) (0, 0) _ (block3_mid w (.cells (setA ra) 29) (.cells (setA rb) 29) _) Tryd.underlying27 rfl (arrInfo_of rb hB.out) ?_))
  go_loopw [5, 6, 9] (fun x y i wr => ∃ (k : Nat) (xs : List Nat), k ≤ 16 ∧ i = .int .i64 k ∧ Hid (xs.length = 16) ∧ Hid (∀ j, j < 16 → xs.getD j 0 = if j < k then (· &&& ·) (ra.getD j 0) (rb.getD j 0) else ra.getD j 0) ∧ Below w.heap.size w wr ∧
      wr.heap[w.heap.size]? = some (.cells (setA xs) 29 (0, 0)) ∧ wr.heap[w.heap.size + 2]? = some (.cells (setA noWords) 29 (0, 0))) (fun _ _ i _ => 16 - (intOf i).toNat)
  case atStart =>
    exact ⟨0, ra, Nat.zero_le _, rfl, hA, Lib.hid (fun j hj => by rw [if_neg (by omega)]), (((Below.refl _ _).alloc (Nat.le_refl _) _).alloc (by simp) _).alloc (by first | (simp; done) | (simp; omega)) _, block3_low w (.cells (setA ra) 29) (.cells (setA rb) 29) _, block3_top w (.cells (setA ra) 29) (.cells (setA rb) 29) _⟩
  case round =>
    obtain ⟨k, xs, hk, rfl, hxl, hxs, hbe, hh0, hh2⟩ := hrel
    by_cases hlt : k < 16
    · have hkx : k < xs.length := by rw [hxl.out]; exact hlt
      have hkb : k < rb.length := by rw [hB.out]; exact hlt
      have hix := fun (W : World) => run_index_agg (P := Tryd.prog) W 27 26 .u64 16 (setA rb) k _ Tryd.underlying27 Tryd.underlying26 (by kernel_rfl) hlt (setA_get rb k hkb)
      have hcell : wr.cell? ⟨w.heap.size, k, none⟩ = some (.int .u64 (xs.getD k 0 : Nat)) := by
        rw [cell_of_row _ _ _ _ _ _ hh0]; exact setA_get _ _ hkx
      have hfree : wr.frozen? ⟨w.heap.size, k, none⟩ = false := free_of_block hh0
      have hxk := Lib.hid (show xs.getD k 0 = ra.getD k 0 by rw [hxs.out k hlt, if_neg (by omega)])
      have hu : xs.getD k 0 < 2 ^ 64 := by
        rw [hxk.out, List.getD_eq_getElem?_getD, List.getElem?_eq_getElem (by rw [hA.out]; exact hlt)]; exact H64.out _ (List.getElem_mem _)
      have hv : rb.getD k 0 < 2 ^ 64 := by
        rw [List.getD_eq_getElem?_getD, List.getElem?_eq_getElem hkb]; exact G64.out _ (List.getElem_mem _)
      have how := Lib.hid (andW _ _ hu hv)
      clear hkx hkb hu hv
      have hyb := Lib.hid (rfl : rb.getD k 0 = rb.getD k 0)
      generalize h1 : xs.getD k 0 = u at hcell how hxk
      generalize h2 : rb.getD k 0 = v at hix how hyb
      have H1 := Lib.hid h1; have H2 := Lib.hid h2
      clear h1 h2
      go_wp2_with (fail)
      go_roundw
      case rel =>
        rw [how.out]
        refine ⟨k + 1, xs.set k ((· &&& ·) u v), by omega, by go_num, Lib.hid (by rw [List.length_set]; exact hxl.out), Lib.hid (fun j hj => ?_), hbe.setCell (by simp) _, ?_, ?_⟩
        · by_cases e : j = k
          · subst e
            rw [if_pos (by omega), List.getD_eq_getElem?_getD, List.getElem?_set_self (by rw [hxl.out]; exact hlt), H2.out, ← hxk.out]; rfl
          · have hx2 := hxs.out j hj
            rw [List.getD_eq_getElem?_getD, List.getElem?_set_ne (by omega), ← List.getD_eq_getElem?_getD, hx2]
            by_cases hjk : j < k
            · rw [if_pos hjk, if_pos (by omega)]
            · rw [if_neg hjk, if_neg (by omega)]
        · rw [block_setCell hh0, setA_set]
        · rw [Below.heap_setCell _ _ _ _ (by simp)]; exact hh2
      case measure => simp [intOf]; omega
    · go_wp2_with (first | (refine wpList_load_row rfl 29 _ rfl w.heap.size rfl 29 (setA xs) (0, 0) _ hh0 Tryd.underlying29 rfl (setInfo_of xs hxl.out) ?_) | (refine wpList_store_row rfl 29 _ _ rfl (w.heap.size + 2) (setA xs) rfl rfl 29 (setA noWords) hh2 (setInfo_of xs hxl.out) (by rw [setA_size, setA_size, hxl.out]; rfl) (setA_one _) ?_))
      have hR := setRow_heap wr (w.heap.size + 2) (setA noWords) (setA xs) 29 (0, 0) hh2
      refine bodyPost_ret (v := .agg (setA xs)) (results_cell_row rfl _ _ (w.heap.size + 2) 29 (setA xs) (0, 0) _ rfl hR Tryd.underlying29 rfl (setInfo_of xs hxl.out)) rfl ⟨?_, below_setRow hbe (by omega) _⟩
      have : xs = List.zipWith (· &&& ·) ra rb := zip_of hA.out hB.out hxl.out (fun j hj => by rw [hxs.out j hj, if_pos (by omega)])
      rw [this]

theorem without_any (ra rb : List Nat) (w : World) (ha : ra.length = 16) (hb : rb.length = 16) (ha64 : ∀ y ∈ ra, y < 2 ^ 64) (hb64 : ∀ y ∈ rb, y < 2 ^ 64) :
    Calls Tryd.prog 25 #[.agg (setA ra), .agg (setA rb)] w fun e w' => e = .returned (.agg (setA (List.zipWith (fun a b => a ^^^ (a &&& b)) ra rb))) ∧ Below w.heap.size w w' := by
  have hA := Lib.hid ha; have hB := Lib.hid hb
  clear ha hb
  have H64 := Lib.hid ha64; have G64 := Lib.hid hb64
  clear ha64 hb64
  go_enter Tryd.func25, Tryd.ntmps25
  go_wp2_with (first | (refine wpList_load_row rfl 27 _ rfl (w.heap.size + 1) rfl 29 (setA rb) (0, 0) _ (block3_mid w (.cells (setA ra) 29) (.cells (setA rb) 29) _) Tryd.underlying27 rfl (arrInfo_of rb hB.out) ?_))
  go_loopw [5, 6, 9] (fun x y i wr => ∃ (k : Nat) (xs : List Nat), k ≤ 16 ∧ i = .int .i64 k ∧ Hid (xs.length = 16) ∧ Hid (∀ j, j < 16 → xs.getD j 0 = if j < k then (fun a b => a ^^^ (a &&& b)) (ra.getD j 0) (rb.getD j 0) else ra.getD j 0) ∧ Below w.heap.size w wr ∧
      wr.heap[w.heap.size]? = some (.cells (setA xs) 29 (0, 0)) ∧ wr.heap[w.heap.size + 2]? = some (.cells (setA noWords) 29 (0, 0))) (fun _ _ i _ => 16 - (intOf i).toNat)
  case atStart =>
    exact ⟨0, ra, Nat.zero_le _, rfl, hA, Lib.hid (fun j hj => by rw [if_neg (by omega)]), (((Below.refl _ _).alloc (Nat.le_refl _) _).alloc (by simp) _).alloc (by first | (simp; done) | (simp; omega)) _, block3_low w (.cells (setA ra) 29) (.cells (setA rb) 29) _, block3_top w (.cells (setA ra) 29) (.cells (setA rb) 29) _⟩
  case round =>
    obtain ⟨k, xs, hk, rfl, hxl, hxs, hbe, hh0, hh2⟩ := hrel
    by_cases hlt : k < 16
    · have hkx : k < xs.length := by rw [hxl.out]; exact hlt
      have hkb : k < rb.length := by rw [hB.out]; exact hlt
      have hix := fun (W : World) => run_index_agg (P := Tryd.prog) W 27 26 .u64 16 (setA rb) k _ Tryd.underlying27 Tryd.underlying26 (by kernel_rfl) hlt (setA_get rb k hkb)
      have hcell : wr.cell? ⟨w.heap.size, k, none⟩ = some (.int .u64 (xs.getD k 0 : Nat)) := by
        rw [cell_of_row _ _ _ _ _ _ hh0]; exact setA_get _ _ hkx
      have hfree : wr.frozen? ⟨w.heap.size, k, none⟩ = false := free_of_block hh0
      have hxk := Lib.hid (show xs.getD k 0 = ra.getD k 0 by rw [hxs.out k hlt, if_neg (by omega)])
      have hu : xs.getD k 0 < 2 ^ 64 := by
        rw [hxk.out, List.getD_eq_getElem?_getD, List.getElem?_eq_getElem (by rw [hA.out]; exact hlt)]; exact H64.out _ (List.getElem_mem _)
      have hv : rb.getD k 0 < 2 ^ 64 := by
        rw [List.getD_eq_getElem?_getD, List.getElem?_eq_getElem hkb]; exact G64.out _ (List.getElem_mem _)
      have how := Lib.hid (andNotW _ _ hu hv)
      clear hkx hkb hu hv
      have hyb := Lib.hid (rfl : rb.getD k 0 = rb.getD k 0)
      generalize h1 : xs.getD k 0 = u at hcell how hxk
      generalize h2 : rb.getD k 0 = v at hix how hyb
      have H1 := Lib.hid h1; have H2 := Lib.hid h2
      clear h1 h2
      go_wp2_with (fail)
      go_roundw
      case rel =>
        rw [how.out]
        refine ⟨k + 1, xs.set k ((fun a b => a ^^^ (a &&& b)) u v), by omega, by go_num, Lib.hid (by rw [List.length_set]; exact hxl.out), Lib.hid (fun j hj => ?_), hbe.setCell (by simp) _, ?_, ?_⟩
        · by_cases e : j = k
          · subst e
            rw [if_pos (by omega), List.getD_eq_getElem?_getD, List.getElem?_set_self (by rw [hxl.out]; exact hlt), H2.out, ← hxk.out]; rfl
          · have hx2 := hxs.out j hj
            rw [List.getD_eq_getElem?_getD, List.getElem?_set_ne (by omega), ← List.getD_eq_getElem?_getD, hx2]
            by_cases hjk : j < k
            · rw [if_pos hjk, if_pos (by omega)]
            · rw [if_neg hjk, if_neg (by omega)]
        · rw [block_setCell hh0, setA_set]
        · rw [Below.heap_setCell _ _ _ _ (by simp)]; exact hh2
      case measure => simp [intOf]; omega
    · go_wp2_with (first | (refine wpList_load_row rfl 29 _ rfl w.heap.size rfl 29 (setA xs) (0, 0) _ hh0 Tryd.underlying29 rfl (setInfo_of xs hxl.out) ?_) | (refine wpList_store_row rfl 29 _ _ rfl (w.heap.size + 2) (setA xs) rfl rfl 29 (setA noWords) hh2 (setInfo_of xs hxl.out) (by rw [setA_size, setA_size, hxl.out]; rfl) (setA_one _) ?_))
      have hR := setRow_heap wr (w.heap.size + 2) (setA noWords) (setA xs) 29 (0, 0) hh2
      refine bodyPost_ret (v := .agg (setA xs)) (results_cell_row rfl _ _ (w.heap.size + 2) 29 (setA xs) (0, 0) _ rfl hR Tryd.underlying29 rfl (setInfo_of xs hxl.out)) rfl ⟨?_, below_setRow hbe (by omega) _⟩
      have : xs = List.zipWith (fun a b => a ^^^ (a &&& b)) ra rb := zip_of hA.out hB.out hxl.out (fun j hj => by rw [hxs.out j hj, if_pos (by omega)])
      rw [this]

theorem run_part_int {P : Program} (E : TypeId) (k : IntKind) (hE : P.underlying E = some (.int k)) (cs : Array Value) (j : Nat) (v : Value) (h : cs[j]? = some v) (W : World) : (part E cs j).run P W = .ok v W := by
  have hagg : (isAgg E).run P W = .ok false W := by
    unfold isAgg
    rw [Sem.run_bind, run_underlying hE W]
    simp
  simp only [part, Sem.run_bind, hagg, Result.andThen_ok, Bool.false_eq_true, if_false, h, Sem.run_pure]

theorem run_eqItems_words {P : Program} (E : TypeId) (d : Nat) (hE : P.underlying E = some (.int .u64)) (ra rb : List Nat) : ∀ (l : List Nat) (W : World), (∀ j ∈ l, j < ra.length ∧ j < rb.length) →
    (Op.eqItems (d + 1) E 1 (setA ra) (setA rb) l).run P W = .ok (l.all fun j => ra.getD j 0 == rb.getD j 0) W := by
  intro l
  induction l with
  | nil => intro W _; simp [Op.eqItems]
  | cons j l ih =>
    intro W hl
    have h1 := setA_get ra j (hl j (by simp)).1
    have h2 := setA_get rb j (hl j (by simp)).2
    have ih' := ih W (fun i hi => hl i (by simp [hi]))
    simp only [Op.eqItems, Sem.run_bind, Nat.mul_one, run_part_int E .u64 hE _ j _ h1, run_part_int E .u64 hE _ j _ h2, Result.andThen_ok, run_equalIn_int W d E .u64 .u64 _ _ hE, List.all_cons]
    by_cases hq : ra.getD j 0 = rb.getD j 0
    · simp only [hq, beq_self_eq_true, Bool.not_true, Bool.false_eq_true, if_false, ih', Bool.true_and]
    · have h3 : (((ra.getD j 0 : Nat) : Int) == ((rb.getD j 0 : Nat) : Int)) = false := by rw [beq_eq_false_iff_ne]; omega
      have h4 : (ra.getD j 0 == rb.getD j 0) = false := by rw [beq_eq_false_iff_ne]; exact hq
      simp only [h3, h4, Bool.not_false, if_true, Sem.run_pure, Bool.false_and]

theorem words_all (ra rb : List Nat) (ha : ra.length = 16) (hb : rb.length = 16) : ((List.range 16).all fun j => ra.getD j 0 == rb.getD j 0) = (ra == rb) := by
  rw [Bool.eq_iff_iff]
  simp only [List.all_eq_true, List.mem_range, beq_iff_eq]
  constructor
  · intro h
    apply List.ext_getElem (by omega)
    intro j h1 h2
    have := h j (by omega)
    rw [List.getD_eq_getElem?_getD, List.getD_eq_getElem?_getD, List.getElem?_eq_getElem h1, List.getElem?_eq_getElem h2] at this
    exact this
  · rintro rfl j _; rfl

theorem run_eq_words (ra rb : List Nat) (ha : ra.length = 16) (hb : rb.length = 16) (W : World) :
    (Op.equalIn 10000 27 (.agg (setA ra)) (.agg (setA rb))).run Tryd.prog W = .ok (ra == rb) W := by
  obtain ⟨i, hi⟩ := info_of_underlying Tryd.underlying26
  have hc : Tryd.prog.cellsOf 26 = 1 := by kernel_rfl
  rw [show (10000 : Nat) = 9999 + 1 from rfl, run_equalIn_array W 9999 _ _ Tryd.underlying27 hi, hc, show (9999 : Nat) = 9998 + 1 from rfl,
    run_eqItems_words 26 9998 Tryd.underlying26 ra rb _ W (fun j hj => by simp at hj; omega), words_all ra rb ha hb]

theorem eq_any (ra rb : List Nat) (w : World) (ha : ra.length = 16) (hb : rb.length = 16) :
    Calls Tryd.prog 26 #[.agg (setA ra), .agg (setA rb)] w fun e w' => e = .returned (.bool (ra == rb)) ∧ Below w.heap.size w w' := by
  have hA := Lib.hid ha; have hB := Lib.hid hb
  have hEq := run_eq_words ra rb ha hb
  clear ha hb
  go_enter Tryd.func26, Tryd.ntmps26
  go_wp2_with (first | (refine wpList_load_row rfl 27 (.tmp 5) rfl w.heap.size rfl 29 (setA ra) (0, 0) _ (heap_alloc2_old w (.cells (setA ra) 29) (.cells (setA rb) 29)) Tryd.underlying27 rfl (arrInfo_of ra hA.out) ?_) | (refine wpList_load_row rfl 27 (.tmp 7) rfl (w.heap.size + 1) rfl 29 (setA rb) (0, 0) _ (heap_alloc2_new w (.cells (setA ra) 29) (.cells (setA rb) 29)) Tryd.underlying27 rfl (arrInfo_of rb hB.out) ?_))
  go_ret
  exact ⟨rfl, ((Below.refl _ _).alloc (Nat.le_refl _) _).alloc (by simp) _⟩

end Go.Proofs.YtijnekbhpdcemaaDoor
