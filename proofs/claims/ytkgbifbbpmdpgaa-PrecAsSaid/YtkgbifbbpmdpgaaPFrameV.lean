/- What the arguments give the walks: sources, grammars by numbers, lists of numbers (a plain seat). -/
import Derived.Test.YtkgbifbbpmdpgaaRows
import Derived.ProofKit
import Derived.LaidMore
import Derived.OpenShut
import Derived.ShutString
import Derived.ChangeOld
import Derived.Below
import Derived.Stop.Joined
import Derived.Deep.Slices
import Derived.Lib.SmallJoins
import Derived.Test.YtkgbifbbpmdpgaaPBox
import Derived.Test.YtkgbifbbpmdpgaaPGrW3
set_option linter.unusedVariables false
set_option linter.unusedSimpArgs false
namespace Go.Proofs.Ytkgbifbbpmdpgaa

section
open Go.ChangeShapes Go.WideShapes Go.ChangeAt Go.WideMaps Go.WideElems Go.RowKit
theorem own : ownKnob Try.prog.godebug = none := by kernel_rfl
theorem laidOut : laidOutB Try.prog = true := by kernel_rfl
end
section
open Go.ChangeShapes Go.WideShapes Go.ChangeAt Go.WideMaps Go.WideElems Go.RowKit Go.Deep
section
variable {H : Type} {enc : TypeId × Value → H} {P : Program} {W : World} {base : Nat} {sp : Nat → Bool} {held : Bool}
theorem list_of_trod {α : Type} [Inhabited α] {R : World → List Value → α → Prop} {Q : α → Prop} {T E : TypeId} {size : Nat} (hT : P.underlying T = some (.slice E)) (hc : P.cellsOf E = size) (hs : 0 < size)
  (hx : ∀ n cs x, DataW.trod enc P W base sp held n E cs = some x → ∃ y : α, R W cs y ∧ Q y) {fuel : Nat} {cs : List Value} {x : DataW H × List MemPlace} (h : DataW.trod enc P W base sp held fuel T cs = some x) :
  ∃ v l, cs = [v] ∧ ListV size R W v l ∧ ∀ y ∈ l, Q y := by
 rcases open_slice hT h with ⟨hcs, _⟩ | ⟨a, n, c, m, k, D, Pl, hcs, _, hl, hm, hmm, _, hi⟩
 · exact ⟨_, [], hcs, ListV.nil _ _ _, fun y hy => absurd hy (by simp)⟩
 · have hlm : n ≤ m := by rw [hmm]; split <;> omega
   rw [hc] at hi
   have hp : ∀ i, ∃ y : α, i < n → ∃ cs', W.cells? base (a.add (i * size)) size = some cs' ∧ R W cs' y ∧ Q y := fun i => by
    by_cases hlt : i < n
    · obtain ⟨cs', h1, h2⟩ := hi i (by omega)
      obtain ⟨y, h3, h4⟩ := hx _ _ _ h2
      exact ⟨y, fun _ => ⟨cs', h1, h3, h4⟩⟩
    · exact ⟨default, fun h => absurd h hlt⟩
   obtain ⟨f, hf⟩ := Classical.axiomOfChoice hp
   have hat : ∀ i, i < n → ∃ cs', cs'.length = size ∧ R W cs' (f i) ∧ Q (f i) ∧ ∀ j, j < size → W.cell? ((a.add (i * size)).add j) = cs'[j]? := fun i hin => by
    obtain ⟨cs', h1, h2, h3⟩ := hf i hin
    obtain ⟨_, hlen, hat⟩ := World.cells?_some h1
    exact ⟨cs', hlen, h2, h3, hat⟩
   have hspot : 0 < n → a.spot = none := fun h0 => by
    obtain ⟨cs', h1, _, _, h2⟩ := hat 0 h0
    have h3 := h2 0 hs
    rw [List.getElem?_eq_getElem (by omega)] at h3
    have e : (a.add (0 * size)).add 0 = a := by simp [Addr.add]
    rw [e] at h3
    exact World.cell?_spot h3
   refine ⟨_, (List.range n).map f, hcs, ⟨some a, c, by simp, by simpa using hl, by unfold maxLen at hm; omega, (fun h => by cases h), fun i y hy => ?_⟩, fun y hy => ?_⟩
   · have hin : i < n := by have := (List.getElem?_eq_some_iff.1 hy).1; simpa using this
     have e : y = f i := by
      rw [List.getElem?_map, List.getElem?_range hin] at hy
      simpa using hy.symm
     subst e
     have hs0 := hspot (by omega)
     obtain ⟨b, off, spot⟩ := a
     subst hs0
     obtain ⟨cs', h1, h2, _, h3⟩ := hat i hin
     refine ⟨b, off, cs', rfl, h1, h2, fun j hj => ?_⟩
     have h4 := h3 j hj
     rw [addr_add, addr_add] at h4
     rw [h4, List.getD_eq_getElem?_getD, List.getElem?_eq_getElem (by omega)]; rfl
   · obtain ⟨i, hi1, rfl⟩ := List.mem_map.1 hy
     obtain ⟨_, _, _, h3, _⟩ := hat i (by simpa using hi1)
     exact h3
end
section
variable {H : Type} {enc : TypeId × Value → H} {W : World} {base : Nat} {sp : Nat → Bool} {held : Bool} {n : Nat} {cs : List Value} {x : DataW H × List MemPlace}
end
section
variable {H : Type} {enc : TypeId × Value → H} {P : Program} {W : World} {base : Nat} {sp : Nat → Bool} {held : Bool}
theorem elem5 {F : TypeId} {f0 f1 f2 f3 f4 : Field} {n : Nat} {cs : List Value} {x : DataW H × List MemPlace} (hF : P.underlying F = some (.struct #[f0, f1, f2, f3, f4])) (hcF : P.cellsOf F = 5)
  (c0 : P.cellsOf f0.type = 1) (c1 : P.cellsOf f1.type = 1) (c2 : P.cellsOf f2.type = 1) (c3 : P.cellsOf f3.type = 1) (c4 : P.cellsOf f4.type = 1) (o0 : f0.offset = 0) (o1 : f1.offset = 1) (o2 : f2.offset = 2) (o3 : f3.offset = 3) (o4 : f4.offset = 4)
  (h : DataW.trod enc P W base sp held n F cs = some x) : ∃ v0 v1 v2 v3 v4 y0 y1 y2 y3 y4 m, cs = [v0, v1, v2, v3, v4] ∧ DataW.trod enc P W base sp held m f0.type [v0] = some y0 ∧ DataW.trod enc P W base sp held m f1.type [v1] = some y1 ∧
    DataW.trod enc P W base sp held m f2.type [v2] = some y2 ∧ DataW.trod enc P W base sp held m f3.type [v3] = some y3 ∧ DataW.trod enc P W base sp held m f4.type [v4] = some y4 := by
 obtain ⟨ys, m, _, _, hl, hyl, hf⟩ := DataW.trod_struct hF h
 rw [hcF] at hl
 have g0 := hf 0 f0 rfl
 have g1 := hf 1 f1 rfl
 have g2 := hf 2 f2 rfl
 have g3 := hf 3 f3 rfl
 have g4 := hf 4 f4 rfl
 match cs, hl, ys, hyl with
 | [v0, v1, v2, v3, v4], _, [y0, y1, y2, y3, y4], _ =>
   rw [c0, o0] at g0
   rw [c1, o1] at g1
   rw [c2, o2] at g2
   rw [c3, o3] at g3
   rw [c4, o4] at g4
   exact ⟨v0, v1, v2, v3, v4, y0, y1, y2, y3, y4, m, rfl, g0, g1, g2, g3, g4⟩
end
section
variable {H : Type} {enc : TypeId × Value → H} {W : World} {base : Nat} {sp : Nat → Bool} {held : Bool}
theorem int_elem9 {n : Nat} {cs : List Value} {x : DataW H × List MemPlace} (h : DataW.trod enc Try.prog W base sp held n 3 cs = some x) : ∃ y : Int, intR W cs y ∧ InW y := by
 obtain ⟨i, e, _, hi⟩ := DataW.trod_int Try.underlying3 h
 exact ⟨i, e, hi⟩
theorem ints_elem9 {n : Nat} {cs : List Value} {x : DataW H × List MemPlace} (h : DataW.trod enc Try.prog W base sp held n 27 cs = some x) : ∃ y : List Int, (∃ u, cs = [u] ∧ IntsV W u y) ∧ ∀ z ∈ y, InW z := by
 obtain ⟨v, l, e, hl, hq⟩ := list_of_trod (size := 1) (R := intR) (Q := InW) Try.underlying27 (by kernel_rfl) (by omega) (fun n cs x h => int_elem9 h) h
 exact ⟨l, ⟨v, e, ListV.ints hl⟩, hq⟩
set_option maxRecDepth 100000 in
theorem gr_of_trod {r : Reach} {b0 : Nat} {v : Value} {d : DataW H} {p : List MemPlace} (hv : Value.okWide Try.prog W r b0 29 v) (h : DataW.Trod enc Try.prog W base sp held 29 v d p) : ∃ g, GrV W v g ∧ GrIn g := by
 obtain ⟨cs, rfl, hsz⟩ := okWide_struct Try.underlying29 hv
 obtain ⟨fuel, hf⟩ := h
 obtain ⟨v0, v1, v2, v3, v4, y0, y1, y2, y3, y4, m, hcs, h0, h1, h2, h3, h4⟩ := elem5 Try.underlying29 (by kernel_rfl) (by kernel_rfl) (by kernel_rfl) (by kernel_rfl) (by kernel_rfl) (by kernel_rfl) rfl rfl rfl rfl rfl hf
 obtain ⟨i, e0, _, hi⟩ := DataW.trod_int Try.underlying3 h0
 obtain ⟨_, rl, e1, hrl, hq1⟩ := list_of_trod (size := 1) (R := fun w cs r => ∃ u, cs = [u] ∧ IntsV w u r) (Q := fun r => ∀ x ∈ r, InW x) Try.underlying26 (by kernel_rfl) (by omega) (fun n cs x h => ints_elem9 h) h1
 obtain ⟨ll, ⟨_, e2, hll⟩, hq2⟩ := ints_elem9 h2
 obtain ⟨il, ⟨_, e3, hil⟩, hq3⟩ := ints_elem9 h3
 obtain ⟨bb, e4, _⟩ := DataW.trod_bool Try.underlying4 h4
 cases e0; cases e1; cases e2; cases e3; cases e4
 have hc : cs = #[.int .i64 i, v1, v2, v3, .bool bb] := Array.toList_inj.1 hcs
 subst hc
 exact ⟨⟨i, rl, ll, il, bb⟩, ⟨⟨v1, v2, v3, rfl, hrl, hll, hil⟩⟩, ⟨hi, hq1, hq2, hq3⟩⟩
end
end
end Go.Proofs.Ytkgbifbbpmdpgaa
