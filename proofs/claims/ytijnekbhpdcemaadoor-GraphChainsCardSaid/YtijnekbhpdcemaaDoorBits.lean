/- Sets of numbers in sixteen words: what the calls of package bits tell. -/
import Derived.Test.YtijnekbhpdcemaaDoorEqInts
import Derived.Outline
import Derived.Laws.CopyOwn
namespace Go.Proofs.YtijnekbhpdcemaaDoor
open Go.RowKit
set_option linter.unusedVariables false

/-- the words as a value's cells -/
def setA (ws : List Nat) : Array Value := (ws.map (fun x : Nat => Value.int .u64 (x : Int))).toArray
def noWords : List Nat := [0, 0, 0, 0, 0, 0, 0, 0, 0, 0, 0, 0, 0, 0, 0, 0]

theorem setA_size (ws : List Nat) : (setA ws).size = ws.length := by simp [setA]
theorem setA_get (ws : List Nat) (i : Nat) (h : i < ws.length) : (setA ws)[i]? = some (.int .u64 (ws.getD i 0 : Nat)) := by
  simp [setA, List.getD_eq_getElem?_getD, List.getElem?_eq_getElem h]
theorem setA_set (ws : List Nat) (i x : Nat) : (setA ws).setIfInBounds i (.int .u64 (x : Int)) = setA (ws.set i x) := by
  simp [setA, List.map_set]
theorem setA_one (ws : List Nat) : (setA ws).all (·.oneCell') = true := by
  simp [setA, Value.oneCell']

theorem setInfo : (Tryd.prog.info? 29).map (·.size) = some 16 := by kernel_rfl
theorem setInfo_of (ws : List Nat) (h : ws.length = 16) : (Tryd.prog.info? 29).map (·.size) = some (setA ws).size := by rw [setInfo, setA_size, h]

/-- a number into a set -/
def addS (ws : List Nat) (x : Int) : List Nat := if 0 ≤ x ∧ x < 1024 then ws.set (x.toNat / 64) (ws.getD (x.toNat / 64) 0 ||| 2 ^ (x.toNat % 64)) else ws
theorem addS_length (ws : List Nat) (x : Int) : (addS ws x).length = ws.length := by unfold addS; split <;> simp
def ofS (l : List Int) : List Nat := l.foldl addS noWords
theorem ofS_snoc (l : List Int) (k : Nat) (h : k < l.length) : (l.take (k + 1)).foldl addS noWords = addS ((l.take k).foldl addS noWords) (l.getD k 0) := by
  rw [List.take_succ_eq_append_getElem h, List.foldl_append]
  simp [List.getD_eq_getElem?_getD, List.getElem?_eq_getElem h]

theorem addS_lt (ws : List Nat) (x : Int) (h : ∀ y ∈ ws, y < 2 ^ 64) : ∀ y ∈ addS ws x, y < 2 ^ 64 := by
  unfold addS
  split
  · intro y hy
    rcases List.mem_or_eq_of_mem_set hy with hy | rfl
    · exact h y hy
    · apply Nat.or_lt_two_pow
      · rw [List.getD_eq_getElem?_getD]
        cases e : ws[x.toNat / 64]? with
        | none => simp
        | some z => simpa using h z (List.mem_of_getElem? e)
      · exact Nat.pow_lt_pow_right (by omega) (by omega)
  · exact h

theorem orWord (u n : Nat) (hu : u < 2 ^ 64) : bits .or .u64 (u : Int) (IntKind.u64.wrap (2 ^ (n % 64))) = ((u ||| 2 ^ (n % 64) : Nat) : Int) := by
  have h2 : (2 : Nat) ^ (n % 64) < 2 ^ 64 := Nat.pow_lt_pow_right (by omega) (by omega)
  have e : ((2 : Int) ^ (n % 64)) = ((2 ^ (n % 64) : Nat) : Int) := by norm_cast
  rw [e]
  generalize 2 ^ (n % 64) = t at h2
  rw [IntWalk.u64_in _ ⟨by omega, by omega⟩, bits_or_u64_nat _ _ hu h2]

theorem inSet_yes (i : Int) (w : World) (h : 0 ≤ i ∧ i < 1024) :
    Calls Tryd.prog 40 #[.int .i64 i] w fun e w' => e = .returned (.bool true) ∧ w = w' := by
  go_enter Tryd.func40, Tryd.ntmps40
  go_wp2
  go_ret
  exact ⟨rfl, rfl⟩
theorem inSet_no (i : Int) (w : World) (h : i < 0 ∨ 1024 ≤ i) :
    Calls Tryd.prog 40 #[.int .i64 i] w fun e w' => e = .returned (.bool false) ∧ w = w' := by
  go_enter Tryd.func40, Tryd.ntmps40
  go_wp2
  all_goals go_ret
  all_goals exact ⟨ret_bool (by simp; try omega), rfl⟩

theorem of_any (v : Value) (l : List Int) (w : World) (h : IntsV w v l) :
    Calls Tryd.prog 16 #[v] w fun e w' => e = .returned (.agg (setA (ofS l))) ∧ Below w.heap.size w w' := by
  obtain ⟨a, m, c, rfl, hm, hmc, hml, ha⟩ := h.open
  clear h
  go_enter Tryd.func16, Tryd.ntmps16
  go_wp2_with fail
  go_loopw [5, 8] (fun x i wr => ∃ (k : Nat) (ws : List Nat), k ≤ m ∧ i = .int .i64 k ∧ Hid (ws.length = 16) ∧ Hid (∀ y ∈ ws, y < 2 ^ 64) ∧ Hid (ws = (l.take k).foldl addS noWords) ∧ Below w.heap.size w wr ∧
      wr.heap[w.heap.size]? = some (.cells (setA noWords) 29 (0, 0)) ∧ wr.heap[w.heap.size + 1]? = some (.cells (setA ws) 29 (0, 0))) (fun _ i _ => m - (intOf i).toNat)
  case atStart =>
    exact ⟨0, noWords, Nat.zero_le _, rfl, Lib.hid rfl, Lib.hid (by decide), Lib.hid rfl, ((Below.refl _ _).alloc (Nat.le_refl _) _).alloc (by simp) _,
      heap_alloc2_old _ _ _, heap_alloc2_new _ _ _⟩
  case round =>
    obtain ⟨k, ws, hk, rfl, hws, hlt64, hfold, hb, hh0, hh⟩ := hrel
    by_cases hlt : k < m
    · obtain ⟨b1, o1, rfl, c1⟩ := ha.out k hlt
      have hsn := Lib.hid (ofS_snoc l k (by have := hm.out; omega))
      have c2 : wr.cell? ⟨b1, o1 + k, none⟩ = some (.int .i64 (l.getD k 0)) := by rw [hb.cell (World.block_lt_of_cell? _ _ c1)]; exact c1
      clear c1
      generalize l.getD k 0 = y at c2 hsn
      by_cases hy : 0 ≤ y ∧ y < 1024
      · obtain ⟨n, rfl⟩ := Int.eq_ofNat_of_zero_le hy.1
        have hn : n / 64 < ws.length := by rw [hws.out]; omega
        have hcell : wr.cell? ⟨w.heap.size + 1, n / 64, none⟩ = some (.int .u64 (ws.getD (n / 64) 0 : Nat)) := by
          rw [cell_of_row _ _ _ _ _ _ hh]; exact setA_get _ _ hn
        have hfree : wr.frozen? ⟨w.heap.size + 1, n / 64, none⟩ = false := free_of_block hh
        have hu : ws.getD (n / 64) 0 < 2 ^ 64 := by
          rw [List.getD_eq_getElem?_getD, List.getElem?_eq_getElem hn]; exact hlt64.out _ (List.getElem_mem hn)
        have hadd : Hid (addS ws (n : Int) = ws.set (n / 64) (ws.getD (n / 64) 0 ||| 2 ^ (n % 64))) := Lib.hid (by
          unfold addS; rw [if_pos hy]; rfl)
        have how := Lib.hid (orWord (ws.getD (n / 64) 0) n hu)
        clear hn hu
        generalize ws.getD (n / 64) 0 = u at hcell hadd how
        go_wp2_with (fail)
        refine (inSet_yes _ _ hy).mono ?_
        rintro e w2 ⟨rfl, rfl⟩
        go_wp2_with (fail)
        go_region
        go_wp2_with (fail)
        go_roundw
        case rel =>
          rw [how.out]
          refine ⟨k + 1, addS ws (n : Int), by omega, by go_num, Lib.hid (by rw [addS_length]; exact hws.out), Lib.hid (addS_lt _ _ hlt64.out), Lib.hid (by rw [hsn.out, hfold.out]), (hb.setCell (by simp) _).drew, ?_, ?_⟩
          · show (wr.setCell _ _).heap[_]? = _
            rw [Below.heap_setCell _ _ _ _ (by simp)]; exact hh0
          · show (wr.setCell _ _).heap[_]? = _
            rw [block_setCell hh, setA_set, hadd.out]
        case measure => simp [intOf]; omega
      · go_wp2_with (fail)
        refine (inSet_no _ _ (by omega)).mono ?_
        rintro e w2 ⟨rfl, rfl⟩
        go_wp2_with (fail)
        go_roundw
        case rel => exact ⟨k + 1, ws, by omega, by go_num, hws, hlt64, Lib.hid (by rw [hsn.out, ← hfold.out]; unfold addS; rw [if_neg hy]), hb, hh0, hh⟩
        case measure => simp [intOf]; omega
    · go_wp2_with (first | (refine wpList_load_row rfl 29 _ rfl (w.heap.size + 1) rfl 29 (setA ws) (0, 0) _ hh Tryd.underlying29 rfl (setInfo_of ws hws.out) ?_) | (refine wpList_store_row rfl 29 _ _ rfl w.heap.size (setA ws) rfl rfl 29 (setA noWords) hh0 (setInfo_of ws hws.out) (by rw [setA_size, setA_size, hws.out]; rfl) (setA_one _) ?_))
      have hR := setRow_heap wr w.heap.size (setA noWords) (setA ws) 29 (0, 0) hh0
      refine bodyPost_ret (v := .agg (setA ws)) (results_cell_row rfl _ _ w.heap.size 29 (setA ws) (0, 0) _ rfl hR Tryd.underlying29 rfl (setInfo_of ws hws.out)) rfl ⟨?_, below_setRow hb (Nat.le_refl _) _⟩
      rw [hfold.out, List.take_of_length_le (by have := hm.out; omega)]
      rfl

end Go.Proofs.YtijnekbhpdcemaaDoor
