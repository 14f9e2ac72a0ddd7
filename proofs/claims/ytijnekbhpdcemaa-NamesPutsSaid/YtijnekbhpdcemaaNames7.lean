/- What the sort of the names' numbers asks of the comparison. -/
import Derived.Test.YtijnekbhpdcemaaNames6
import Derived.Shelf.SlSortCmp.Insertion
namespace Go.Proofs.Ytijnekbhpdcemaa
open Go.RowKit Go.Maps Go.Sort
set_option linter.unusedVariables false

theorem sort_cell {α : Type} [Inhabited α] (enc : α → Value) (w : World) (blk off m : Nat) (dk : Array α) (os : Array Obj) (a : Addr) (ha : a.block < w.heap.size) (hne : a.block ≠ blk) : (sortWorld enc w blk off m dk os).cell? a = w.cell? a := by
  unfold sortWorld
  rw [cell?_grow _ _ _ (by simpa [putRow, mapBlock, Sort.ahead] using ha), cell?_putRow_other _ _ _ _ _ _ (.inl hne)]
  rfl

theorem sort_strs {α : Type} [Inhabited α] (enc : α → Value) {w : World} {v : Value} {l : List ByteArray} (h : StrsV w v l) (blk off m : Nat) (dk : Array α) (os : Array Obj) (hg : ∀ g, v.ownBlock = some g → g ≠ blk) : StrsV (sortWorld enc w blk off m dk os) v l := by
  obtain ⟨a, c, rfl, hn, hc, hnone, hx⟩ := h
  refine ⟨a, c, rfl, hn, hc, hnone, fun i hi => ?_⟩
  obtain ⟨b, o, rfl, hcell⟩ := hx i hi
  exact ⟨b, o, rfl, (sort_cell enc w blk off m dk os ⟨b, o + i, none⟩ (World.block_lt_of_cell? _ _ hcell) (hg b rfl)).trans hcell⟩

def encN (m : Nat) (i : Fin (m + 1)) : Value := .int .i64 (i.val : Nat)
def cmpN (L : List ByteArray) (m : Nat) (i j : Fin (m + 1)) : Int := cmpS (L.getD i.val ByteArray.empty) (L.getD j.val ByteArray.empty)

theorem names_reads (bx b : Nat) (a : Option Addr) (m c : Nat) (L : List ByteArray) (w : World) (blk off size : Nat) (hb : w.cell? ⟨bx, 0, none⟩ = some (.pointer (some ⟨b, 0, none⟩))) (c0 : w.cell? ⟨b, 0, none⟩ = some (.slice a (m + 1) c)) (hs : StrsV w (.slice a (m + 1) c) L) (hn : m + 1 ≤ 1000000)
    (h1 : bx ≠ blk) (h2 : b ≠ blk) (h3 : ∀ g, (Value.slice a (m + 1) c).ownBlock = some g → g ≠ blk) :
    CmpReads Try.prog 18 #[.pointer (some ⟨bx, 0, none⟩)] (encN m) (cmpN L m) blk off size w :=
  fun k os dk _ x y => closure_any bx b a (m + 1) c L x.val y.val _ ((sort_cell _ _ _ _ _ _ _ _ (World.block_lt_of_cell? _ _ hb) h1).trans hb) ((sort_cell _ _ _ _ _ _ _ _ (World.block_lt_of_cell? _ _ c0) h2).trans c0) (sort_strs _ hs _ _ _ _ _ h3) x.isLt y.isLt hn

end Go.Proofs.Ytijnekbhpdcemaa
