/- The closure by which the names' numbers are sorted. -/
import Derived.Test.YtijnekbhpdcemaaNames5
namespace Go.Proofs.Ytijnekbhpdcemaa
open Go.RowKit Go.Maps
set_option linter.unusedVariables false

theorem closure_any (bx b : Nat) (a : Option Addr) (n c : Nat) (L : List ByteArray) (i j : Nat) (W : World) (hb : W.cell? ⟨bx, 0, none⟩ = some (.pointer (some ⟨b, 0, none⟩))) (c0 : W.cell? ⟨b, 0, none⟩ = some (.slice a n c)) (hs : StrsV W (.slice a n c) L) (hi : i < n) (hj : j < n) (hn : n ≤ 1000000) :
    Calls Try.prog 18 #[.int .i64 i, .int .i64 j, .pointer (some ⟨bx, 0, none⟩)] W fun e w' => e = .returned (.int .i64 (cmpS (L.getD i ByteArray.empty) (L.getD j ByteArray.empty))) ∧ ∃ q, w' = W.drewN q := by
  obtain ⟨a', n', c', hv, hln, hnc, hc, hx⟩ := hs.open
  cases hv
  obtain ⟨b1, o1, rfl, c1⟩ := hx.out i hi
  obtain ⟨b2, o2, hbb, c2⟩ := hx.out j hj
  cases hbb
  have hcon := fun (W' : World) => (compare_any (L.getD i ByteArray.empty) (L.getD j ByteArray.empty) W').mono (R' := fun e w' => e = .returned (.int .i64 (cmpS (L.getD i ByteArray.empty) (L.getD j ByteArray.empty))) ∧ w' = W') fun e w' h => ⟨h.1, h.2.symm⟩
  have HC := Lib.hid hcon
  have d1 : (0 : Int) ≤ (i : Int) := by omega
  have d2 : (i : Int) < (n : Int) := by omega
  have d3 : (0 : Int) ≤ (j : Int) := by omega
  have d4 : (j : Int) < (n : Int) := by omega
  clear hcon hs
  generalize L.getD i ByteArray.empty = y at c1 HC
  generalize L.getD j ByteArray.empty = z at c2 HC
  generalize cmpS y z = r at HC
  go_enter Try.func18, Try.ntmps18
  go_wp2
  go_quiet ((go_at_call 19; refine Calls.quiet_of_same (HC.out _)))
  go_wp2
  go_ret
  exact ⟨rfl, _, rfl⟩

end Go.Proofs.Ytijnekbhpdcemaa
