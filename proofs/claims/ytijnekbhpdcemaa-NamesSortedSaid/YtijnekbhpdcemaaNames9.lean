/- The names' numbers, sorted. -/
import Derived.Test.YtijnekbhpdcemaaNames8
import Derived.Deep.RegionLaw
import Derived.Deep.OwnRows
import Derived.Outline
namespace Go.Proofs.Ytijnekbhpdcemaa
open Go.RowKit Go.Maps Go.Sort
set_option linter.unusedVariables false

/-- what the library's sort is asked for -/
def SortsN (L : List ByteArray) (m : Nat) : Prop :=
  ∀ (W : World) (blk cap bx b c : Nat) (a : Option Addr) (d : Array (Fin (m + 1))), d.size = m + 1 → Holds (encN m) W blk 0 d → blk < W.heap.size →
    W.cell? ⟨bx, 0, none⟩ = some (.pointer (some ⟨b, 0, none⟩)) → W.cell? ⟨b, 0, none⟩ = some (.slice a (m + 1) c) → StrsV W (.slice a (m + 1) c) L → m + 1 ≤ 1000000 →
    bx ≠ blk → b ≠ blk → (∀ g, (Value.slice a (m + 1) c).ownBlock = some g → g ≠ blk) →
    Calls Try.prog 17 #[.slice (some ⟨blk, 0, none⟩) (m + 1) cap, .func (.func 18) #[] #[.pointer (some ⟨bx, 0, none⟩)]] W fun e w' =>
      e = .returned (.tuple #[]) ∧ ∃ d' n os, PermIn 0 d.size d d' ∧ SortedIn (ltOf (cmpN L m)) 0 d.size d' ∧ w' = sortWorld (encN m) W blk 0 n d' os

theorem sort_below {α : Type} [Inhabited α] (enc : α → Value) (w : World) (B blk off m : Nat) (dk : Array α) (os : Array Obj) (hB : B ≤ blk) (hblk : blk < w.heap.size) : Below B w (sortWorld enc w blk off m dk os) := by
  refine ⟨rfl, rfl, rfl, ?_, fun k hk => ?_⟩
  · show w.heap.size ≤ ((putRow enc (Sort.ahead w m) blk off dk).heap ++ os).size
    simp [putRow, mapBlock, Sort.ahead]
  · unfold sortWorld
    rw [heap_grow_old _ _ (by simp [putRow, mapBlock, Sort.ahead]; omega)]
    show (w.heap.modify blk _)[k]? = w.heap[k]?
    rw [Array.getElem?_modify, if_neg (by omega)]

def NumsOf (m : Nat) (d : Array (Fin (m + 1))) : List Int := d.toList.map (fun i => (i.val : Int))

theorem sort_ints (m : Nat) (w : World) (blk k : Nat) (d0 d : Array (Fin (m + 1))) (os : Array Obj) (h0 : Holds (encN m) w blk 0 d0) (hs : d.size = d0.size) (hn : d.size = m + 1) (hm : m + 1 ≤ 1000000) (hblk : blk < w.heap.size) :
    IntsV (sortWorld (encN m) w blk 0 k d os) (.slice (some ⟨blk, 0, none⟩) (m + 1) (m + 1)) (NumsOf m d) := by
  refine IntsV.mk (by simp [NumsOf, hn]) (Nat.le_refl _) (by omega) (fun i hi => ⟨blk, 0, rfl, ?_⟩)
  have hi' : i < d.size := by omega
  unfold sortWorld
  rw [cell?_grow _ _ _ (by simpa [putRow, mapBlock, Sort.ahead] using hblk)]
  have h1 := (holds_putRow (encN m) (Sort.ahead w k) blk 0 d0 d h0 hs i hi').1
  rw [h1, getElem!_pos d i hi']
  simp [NumsOf, encN, hi']

/-- the numbers of the names, in the names' order -/
def SortedPost (L : List ByteArray) (m : Nat) (w : World) (e : Ending) (w' : World) : Prop :=
  ∃ v, ∃ d : Array (Fin (m + 1)), e = .returned v ∧ d.size = m + 1 ∧ PermIn 0 (m + 1) (Array.ofFn (fun i : Fin (m + 1) => i)) d ∧ SortedIn (ltOf (cmpN L m)) 0 (m + 1) d ∧ IntsV w' v (NumsOf m d) ∧ Below w.heap.size w w'

theorem sorted_walk (b m : Nat) (L : List ByteArray) (base : Nat) (w : World) (hm : L.length = m + 1) (h : NamesV w base b L) (hS : SortsN L m) :
    Calls Try.prog 14 #[.pointer (some ⟨b, 0, none⟩)] w fun e w' => SortedPost L m w e w' := by
  obtain ⟨_, hn, sv, mv, hb, hr, _⟩ := h
  have hst : StrsV w sv L := StrsV.of_owns hr
  obtain ⟨a, c, rfl⟩ := row_slice hr
  obtain ⟨c0, c1⟩ := cells_two hb
  rw [hm] at c0 hn
  have hg : Hid (∀ g, (Value.slice a (m + 1) c).ownBlock = some g → g < w.heap.size) := Lib.hid (fun g h => (hr.lt g (by cases a with | none => cases h | some ad => exact h)).2)
  rw [hm] at hst
  obtain ⟨i0, hi, hz0, hz1, hz2⟩ := info_parts Try.infoNum
  have HS := Lib.hid hS
  have hblt := lt_of_block hb
  have c0' : ∀ o : Obj, (w.alloc o).cell? ⟨b, 0, none⟩ = some (.slice a (m + 1) c) := fun o => by rw [World.cell?_alloc_lt _ _ _ hblt]; exact c0
  have hmk := fun (W : World) => run_make_row' (P := Try.prog) 33 3 (.int .i64 0) 8 Try.underlying33 Try.infoNum rfl .i64 .i64 (m + 1) (by omega) (by omega) W
  push_cast at hmk
  clear hr hS
  go_enter Try.func14, Try.ntmps14
  go_wp2
  go_loopw [4, 13] (fun _ x wr => ∃ k : Nat, k ≤ m + 1 ∧ x = .int .i64 k ∧ wr.rowIs (w.heap.size + 1) 3 (m + 1) (fun j => .int .i64 (if j < k then (j : Int) else 0)) ∧ Below (w.heap.size + 1) (w.alloc (.cells #[.pointer (some ⟨b, 0, none⟩)] 25)) wr) (fun _ x _ => m + 1 - (intOf x).toNat)
  case atStart =>
    refine ⟨0, Nat.zero_le _, rfl, ?_, (Below.refl _ _).alloc (by simp) _⟩
    have := World.rowIs_made (w.alloc (.cells #[.pointer (some ⟨b, 0, none⟩)] 25)) (.int .i64 0) (m + 1) 3
    simpa using this
  case round =>
    obtain ⟨k, hk, rfl, hrow, hbel⟩ := hrel
    by_cases hlt : k < m + 1
    · have e1 := hrow.cell hlt
      have e2 := hrow.frozen k
      go_wp2
      go_roundw
      case rel =>
        refine ⟨k + 1, by omega, by go_num, (hrow.set k (.int .i64 (k : Int))).congr (fun j hj => ?_), hbel.setCell (Nat.le_refl _) _⟩
        by_cases hjk : j = k
        · subst hjk; simp
        · rw [if_neg hjk]
          by_cases hj2 : j < k
          · rw [if_pos hj2, if_pos (by omega)]
          · rw [if_neg hj2, if_neg (by omega)]
      case measure => simp [intOf]; omega
    · obtain rfl : k = m + 1 := by omega
      have hwr : Below w.heap.size w wr := ((Below.refl _ _).alloc (Nat.le_refl _) _).trans (hbel.mono (Nat.le_succ _))
      have hb1 : wr.cell? ⟨w.heap.size, 0, none⟩ = some (.pointer (some ⟨b, 0, none⟩)) := (hbel.cell (Nat.lt_succ_self _)).trans (cell_top w _ _ _ 0 rfl)
      have hb2 : wr.cell? ⟨b, 0, none⟩ = some (.slice a (m + 1) c) := (hwr.cell hblt).trans c0
      have hD : Holds (encN m) wr (w.heap.size + 1) 0 (Array.ofFn (fun i : Fin (m + 1) => i)) := fun j hj => by
        have hj' : j < m + 1 := by simpa using hj
        refine ⟨?_, hrow.frozen _⟩
        rw [Nat.zero_add, hrow.cell hj', getElem!_pos _ j hj]
        simp [encN, hj']
      have hsort := HS.out wr (w.heap.size + 1) (m + 1) w.heap.size b c a (Array.ofFn (fun i : Fin (m + 1) => i)) (by simp) hD hrow.lt hb1 hb2 (hst.below hwr) hn (by omega) (by omega) (fun g h => by have := hg.out g h; omega)
      have HSO := Lib.hid hsort
      have HD := Lib.hid hD
      clear hsort hD hb1 hb2
      go_wp2_with (first | (go_at_call 17; refine HSO.out.mono ?_; rintro e w3 ⟨rfl, hpost⟩))
      go_ret
      obtain ⟨d', n, os, hp, hs, rfl⟩ := hpost
      have e1 : (Array.ofFn (fun i : Fin (m + 1) => i)).size = m + 1 := by simp
      rw [e1] at hp hs
      have hd : d'.size = m + 1 := hp.1.trans e1
      exact ⟨_, d', rfl, hd, hp, hs, sort_ints m wr _ n _ d' os HD.out hp.1 hd hn hrow.lt, hwr.trans (sort_below _ _ _ _ _ _ _ _ (Nat.le_succ _) hrow.lt)⟩

end Go.Proofs.Ytijnekbhpdcemaa
