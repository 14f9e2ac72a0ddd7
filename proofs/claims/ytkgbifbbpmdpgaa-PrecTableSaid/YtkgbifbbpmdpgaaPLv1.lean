/- Operations at levels one above the other: the source that the law builds. -/
import Derived.Test.YtkgbifbbpmdpgaaPPr1
import Derived.Test.YtkgbifbbpmdpgaaPGrQ
import Derived.IntWalk
import Derived.Outline
import Derived.Deep.DeepCutAuto
import Derived.Deep.Cut
import Derived.Deep.CutRange
set_option linter.unusedVariables false
set_option linter.unusedSimpArgs false
namespace Go.Proofs.Ytkgbifbbpmdpgaa
open Go.RowKit
def digT (n : Nat) : ByteArray := if n = 0 then ⟨#[48]⟩ else digS n
def szS : Value → Nat
 | .string s => 1 - s.size
 | _ => 0
set_option maxRecDepth 100000 in
theorem digits_zero (w : World) : Calls Try.prog 28 #[.int .i64 0] w (fun e w' => e = .returned (.string ⟨#[48]⟩) ∧ Below w.heap.size w w') := by
 have hcv : ∀ (w : World), (convert 94 9 (.slice (some ⟨w.heap.size,0,none⟩) 1 1)).run Try.prog (w.alloc (.cells #[.int .u8 48] 5)) = .ok (.string (bytesOf [48])) (w.alloc (.cells #[.int .u8 48] 5)) :=
  fun w => run_conv_new w _ _ _ [48] 1 Try.underlying94 Try.underlying5 Try.underlying9
 have hb48 : bytesOf [48] = ⟨#[48]⟩ := by decide
 rw [hb48] at hcv
 go_enter Try.func28, Try.ntmps28
 go_wp2_with fail
 go_loopw [3, 4] (fun x3 x4 W => x3 = .int .u64 0 ∧ (x4 = .string ⟨#[]⟩ ∨ x4 = .string ⟨#[48]⟩) ∧ Below w.heap.size w W) (fun _ x4 _ => szS x4)
 case atStart => exact ⟨rfl, .inl rfl, Below.refl _ _⟩
 case round =>
  obtain ⟨rfl, h4, hb⟩ := hrel
  rename World => W
  have hc := hcv W
  have HB := Lib.hid (hb.alloc hb.size (.cells #[.int .u8 48] 5))
  rcases h4 with rfl | rfl
  · go_wp2_with fail
    go_round
    case rel => exact ⟨rfl, .inr (congrArg Value.string (by decide)), HB.out⟩
    case measure => decide
  · go_wp2_with fail
    go_ret
    exact ⟨rfl, hb⟩
theorem digits_t (n : Nat) (hn : n ≤ 1000000) (w : World) : Calls Try.prog 28 #[.int .i64 (n : Int)] w (fun e w' => e = .returned (.string (digT n)) ∧ Below w.heap.size w w') := by
 by_cases h : n = 0
 · subst h
   exact digits_zero w
 · have : digT n = digS n := if_neg h
   rw [this]
   exact digits_any n ⟨by omega, hn⟩ w
theorem digT_size (n : Nat) : (digT n).size ≤ n + 1 := by
 unfold digT
 split
 · show 1 ≤ _; omega
 · have := digS_size n; omega
def tB (n : Nat) : ByteArray := ⟨#[116]⟩ ++ digT n
def eB : ByteArray := ⟨#[101]⟩
def xB : ByteArray := ⟨#[120]⟩
def lvK (kinds : List Int) (i : Nat) : Int := 2 + kinds.getD i 0 % 3
def lvD (kinds : List Int) (i : Nat) : Dc := ⟨lvK kinds i, ⟨#[]⟩, [nameG (tB i)], 0⟩
def lvA (i : Nat) : Al := ⟨[ptS (nameG eB), ptS (nameG (tB i)), ptS (nameG eB)], noSm, 0⟩
def lvX : Al := ⟨[ptS ⟨xB, true, 0, 0⟩], noSm, 0⟩
def lvL (o s : Nat) : Al := ⟨[ptS (nameG (tB o)), ptS (nameG eB)], nameG (tB s), 0⟩
def levS (kinds : List Int) (o s : Nat) : So :=
 let n := min kinds.length 9
 ⟨⟨#[]⟩, (List.range n).map (lvD kinds), [⟨eB, (List.range n).map lvA ++ [lvX] ++ (if 0 < n then [lvL o s] else []), 0⟩], ⟨#[]⟩⟩
theorem heap_put (w : World) (o : Obj) {b : Nat} {x : Obj} (h : w.heap[b]? = some x) : (w.alloc o).heap[b]? = some x := by
  rw [Below.heap_alloc w o b (by rcases Nat.lt_or_ge b w.heap.size with h' | h'; exact h'; rw [Array.getElem?_eq_none h'] at h; cases h)]; exact h
theorem cell_alloc {w : World} {p : Addr} {u : Value} (h : w.cell? p = some u) (o : Obj) : (w.alloc o).cell? p = some u :=
  (((Below.refl w.heap.size w).alloc (Nat.le_refl _) o).cell (World.block_lt_of_cell? _ _ h)).trans h
end Go.Proofs.Ytkgbifbbpmdpgaa
