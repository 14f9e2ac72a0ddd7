/- The library's sort at this program; the laws' walks with it. -/
import Derived.Test.YtijnekbhpdcemaaNames15
import Derived.Test.YtijnekbhpdcemaaNamesLay
import Derived.Shelf.SlSortCmp.NoneTotal
namespace Go.Proofs.Ytijnekbhpdcemaa
open Go.RowKit Go.Maps Go.Sort Go.Shelf
set_option linter.unusedVariables false

theorem sortsN (L : List ByteArray) (m : Nat) : SortsN L m := fun W blk cap bx b c a d hd hH hblk hb c0 hs hn h1 h2 h3 => by
  have eg : ∀ args w, (callFunc 18 args).run Try.prog w = .ok (.enter 18 args) w := enters_of Try.func18 (by kernel_rfl) rfl
  have hcon := Any.slices_SortFunc Try.sortNames (encN m) (fun _ => rfl) (cmpN L m) (swo_names L m) 18 #[.pointer (some ⟨bx, 0, none⟩)] blk 0 cap d W eg (names_reads bx b a m c L W blk 0 d.size hb c0 hs hn h1 h2 h3).lays hH hblk (by rw [hd]; omega)
  rw [hd] at hcon ⊢
  exact hcon

theorem sortsNone : SortsNone := fun p cap fv w => AnyF.slices_SortFunc_none { Try.sortNames with } p cap fv w

theorem namesPuts_any (v : Value) (l : List ByteArray) (s : ByteArray) {w : World} (h : StrsIn w v l) (hs : s.size ≤ maxLen) :
    Calls Try.prog 3 #[v, .string s] w fun e w' => e = .returned (.bool true) ∧ Below w.heap.size w w' := namesPuts_walk v l s w h hs (fun L => sortsN L 1)
theorem namesSorted_any (v : Value) (l : List ByteArray) {w : World} (h : StrsIn w v l) :
    Calls Try.prog 4 #[v] w fun e w' => e = .returned (.bool true) ∧ Below w.heap.size w w' := namesSorted_walk v l w h sortsN sortsNone

end Go.Proofs.Ytijnekbhpdcemaa
