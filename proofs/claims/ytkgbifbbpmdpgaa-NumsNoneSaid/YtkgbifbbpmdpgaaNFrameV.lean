/- What the arguments give the walks: sources, grammars by numbers, lists of numbers (a plain seat). -/
import Derived.Test.YtkgbifbbpmdpgaaRows
import Derived.ProofKit
import Derived.LaidMore
import Derived.OpenShut
import Derived.ShutString
import Derived.ChangeOld
import Derived.Below
import Derived.Stop.Joined
import Derived.Deep.Slices
import Derived.Lib.SmallJoins
import Derived.Test.YtkgbifbbpmdpgaaNBox
import Derived.Test.YtkgbifbbpmdpgaaNGrW3
set_option linter.unusedVariables false
set_option linter.unusedSimpArgs false
namespace Go.Proofs.Ytkgbifbbpmdpgaa

section
open Go.ChangeShapes Go.WideShapes Go.ChangeAt Go.WideMaps Go.WideElems Go.RowKit
theorem own : ownKnob Try.prog.godebug = none := by kernel_rfl
theorem laidOut : laidOutB Try.prog = true := by kernel_rfl
end
section
open Go.ChangeShapes Go.WideShapes Go.ChangeAt Go.WideMaps Go.WideElems Go.RowKit Go.Deep
section
variable {H : Type} {enc : TypeId × Value → H} {P : Program} {W : World} {base : Nat} {sp : Nat → Bool} {held : Bool}
theorem list_of_trod {α : Type} [Inhabited α] {R : World → List Value → α → Prop} {Q : α → Prop} {T E : TypeId} {size : Nat} (hT : P.underlying T = some (.slice E)) (hc : P.cellsOf E = size) (hs : 0 < size)
  (hx : ∀ n cs x, DataW.trod enc P W base sp held n E cs = some x → ∃ y : α, R W cs y ∧ Q y) {fuel : Nat} {cs : List Value} {x : DataW H × List MemPlace} (h : DataW.trod enc P W base sp held fuel T cs = some x) :
  ∃ v l, cs = [v] ∧ ListV size R W v l ∧ ∀ y ∈ l, Q y := by
 rcases open_slice hT h with ⟨hcs, _⟩ | ⟨a, n, c, m, k, D, Pl, hcs, _, hl, hm, hmm, _, hi⟩
 · exact ⟨_, [], hcs, ListV.nil _ _ _, fun y hy => absurd hy (by simp)⟩
 · have hlm : n ≤ m := by rw [hmm]; split <;> omega
   rw [hc] at hi
   have hp : ∀ i, ∃ y : α, i < n → ∃ cs', W.cells? base (a.add (i * size)) size = some cs' ∧ R W cs' y ∧ Q y := fun i => by
    by_cases hlt : i < n
    · obtain ⟨cs', h1, h2⟩ := hi i (by omega)
      obtain ⟨y, h3, h4⟩ := hx _ _ _ h2
      exact ⟨y, fun _ => ⟨cs', h1, h3, h4⟩⟩
    · exact ⟨default, fun h => absurd h hlt⟩
   obtain ⟨f, hf⟩ := Classical.axiomOfChoice hp
   have hat : ∀ i, i < n → ∃ cs', cs'.length = size ∧ R W cs' (f i) ∧ Q (f i) ∧ ∀ j, j < size → W.cell? ((a.add (i * size)).add j) = cs'[j]? := fun i hin => by
    obtain ⟨cs', h1, h2, h3⟩ := hf i hin
    obtain ⟨_, hlen, hat⟩ := World.cells?_some h1
    exact ⟨cs', hlen, h2, h3, hat⟩
   have hspot : 0 < n → a.spot = none := fun h0 => by
    obtain ⟨cs', h1, _, _, h2⟩ := hat 0 h0
    have h3 := h2 0 hs
    rw [List.getElem?_eq_getElem (by omega)] at h3
    have e : (a.add (0 * size)).add 0 = a := by simp [Addr.add]
    rw [e] at h3
    exact World.cell?_spot h3
   refine ⟨_, (List.range n).map f, hcs, ⟨some a, c, by simp, by simpa using hl, by unfold maxLen at hm; omega, (fun h => by cases h), fun i y hy => ?_⟩, fun y hy => ?_⟩
   · have hin : i < n := by have := (List.getElem?_eq_some_iff.1 hy).1; simpa using this
     have e : y = f i := by
      rw [List.getElem?_map, List.getElem?_range hin] at hy
      simpa using hy.symm
     subst e
     have hs0 := hspot (by omega)
     obtain ⟨b, off, spot⟩ := a
     subst hs0
     obtain ⟨cs', h1, h2, _, h3⟩ := hat i hin
     refine ⟨b, off, cs', rfl, h1, h2, fun j hj => ?_⟩
     have h4 := h3 j hj
     rw [addr_add, addr_add] at h4
     rw [h4, List.getD_eq_getElem?_getD, List.getElem?_eq_getElem (by omega)]; rfl
   · obtain ⟨i, hi1, rfl⟩ := List.mem_map.1 hy
     obtain ⟨_, _, _, h3, _⟩ := hat i (by simpa using hi1)
     exact h3
theorem elem4 {F : TypeId} {f0 f1 f2 f3 : Field} {n : Nat} {cs : List Value} {x : DataW H × List MemPlace} (hF : P.underlying F = some (.struct #[f0, f1, f2, f3])) (hcF : P.cellsOf F = 4)
  (c0 : P.cellsOf f0.type = 1) (c1 : P.cellsOf f1.type = 1) (c2 : P.cellsOf f2.type = 1) (c3 : P.cellsOf f3.type = 1) (o0 : f0.offset = 0) (o1 : f1.offset = 1) (o2 : f2.offset = 2) (o3 : f3.offset = 3)
  (h : DataW.trod enc P W base sp held n F cs = some x) : ∃ v0 v1 v2 v3 y0 y1 y2 y3 m, cs = [v0, v1, v2, v3] ∧ DataW.trod enc P W base sp held m f0.type [v0] = some y0 ∧ DataW.trod enc P W base sp held m f1.type [v1] = some y1 ∧
    DataW.trod enc P W base sp held m f2.type [v2] = some y2 ∧ DataW.trod enc P W base sp held m f3.type [v3] = some y3 := by
 obtain ⟨ys, m, _, _, hl, hyl, hf⟩ := DataW.trod_struct hF h
 rw [hcF] at hl
 have g0 := hf 0 f0 rfl
 have g1 := hf 1 f1 rfl
 have g2 := hf 2 f2 rfl
 have g3 := hf 3 f3 rfl
 match cs, hl, ys, hyl with
 | [v0, v1, v2, v3], _, [y0, y1, y2, y3], _ =>
   rw [c0, o0] at g0
   rw [c1, o1] at g1
   rw [c2, o2] at g2
   rw [c3, o3] at g3
   exact ⟨v0, v1, v2, v3, y0, y1, y2, y3, m, rfl, g0, g1, g2, g3⟩
theorem elem3 {F : TypeId} {f0 f1 f2 : Field} {n : Nat} {cs : List Value} {x : DataW H × List MemPlace} (hF : P.underlying F = some (.struct #[f0, f1, f2])) (hcF : P.cellsOf F = 3)
  (c0 : P.cellsOf f0.type = 1) (c1 : P.cellsOf f1.type = 1) (c2 : P.cellsOf f2.type = 1) (o0 : f0.offset = 0) (o1 : f1.offset = 1) (o2 : f2.offset = 2)
  (h : DataW.trod enc P W base sp held n F cs = some x) : ∃ v0 v1 v2 y0 y1 y2 m, cs = [v0, v1, v2] ∧ DataW.trod enc P W base sp held m f0.type [v0] = some y0 ∧ DataW.trod enc P W base sp held m f1.type [v1] = some y1 ∧
    DataW.trod enc P W base sp held m f2.type [v2] = some y2 := by
 obtain ⟨ys, m, _, _, hl, hyl, hf⟩ := DataW.trod_struct hF h
 rw [hcF] at hl
 have g0 := hf 0 f0 rfl
 have g1 := hf 1 f1 rfl
 have g2 := hf 2 f2 rfl
 match cs, hl, ys, hyl with
 | [v0, v1, v2], _, [y0, y1, y2], _ =>
   rw [c0, o0] at g0
   rw [c1, o1] at g1
   rw [c2, o2] at g2
   exact ⟨v0, v1, v2, y0, y1, y2, m, rfl, g0, g1, g2⟩
theorem elem411 {F : TypeId} {f0 f1 f2 : Field} {n : Nat} {cs : List Value} {x : DataW H × List MemPlace} (hF : P.underlying F = some (.struct #[f0, f1, f2])) (hcF : P.cellsOf F = 6)
  (c0 : P.cellsOf f0.type = 4) (c1 : P.cellsOf f1.type = 1) (c2 : P.cellsOf f2.type = 1) (o0 : f0.offset = 0) (o1 : f1.offset = 4) (o2 : f2.offset = 5)
  (h : DataW.trod enc P W base sp held n F cs = some x) : ∃ v0 v1 v2 v3 v4 v5 y0 y1 y2 m, cs = [v0, v1, v2, v3, v4, v5] ∧ DataW.trod enc P W base sp held m f0.type [v0, v1, v2, v3] = some y0 ∧ DataW.trod enc P W base sp held m f1.type [v4] = some y1 ∧
    DataW.trod enc P W base sp held m f2.type [v5] = some y2 := by
 obtain ⟨ys, m, _, _, hl, hyl, hf⟩ := DataW.trod_struct hF h
 rw [hcF] at hl
 have g0 := hf 0 f0 rfl
 have g1 := hf 1 f1 rfl
 have g2 := hf 2 f2 rfl
 match cs, hl, ys, hyl with
 | [v0, v1, v2, v3, v4, v5], _, [y0, y1, y2], _ =>
   rw [c0, o0] at g0
   rw [c1, o1] at g1
   rw [c2, o2] at g2
   exact ⟨v0, v1, v2, v3, v4, v5, y0, y1, y2, m, rfl, g0, g1, g2⟩
theorem elem141 {F : TypeId} {f0 f1 f2 : Field} {n : Nat} {cs : List Value} {x : DataW H × List MemPlace} (hF : P.underlying F = some (.struct #[f0, f1, f2])) (hcF : P.cellsOf F = 6)
  (c0 : P.cellsOf f0.type = 1) (c1 : P.cellsOf f1.type = 4) (c2 : P.cellsOf f2.type = 1) (o0 : f0.offset = 0) (o1 : f1.offset = 1) (o2 : f2.offset = 5)
  (h : DataW.trod enc P W base sp held n F cs = some x) : ∃ v0 v1 v2 v3 v4 v5 y0 y1 y2 m, cs = [v0, v1, v2, v3, v4, v5] ∧ DataW.trod enc P W base sp held m f0.type [v0] = some y0 ∧ DataW.trod enc P W base sp held m f1.type [v1, v2, v3, v4] = some y1 ∧
    DataW.trod enc P W base sp held m f2.type [v5] = some y2 := by
 obtain ⟨ys, m, _, _, hl, hyl, hf⟩ := DataW.trod_struct hF h
 rw [hcF] at hl
 have g0 := hf 0 f0 rfl
 have g1 := hf 1 f1 rfl
 have g2 := hf 2 f2 rfl
 match cs, hl, ys, hyl with
 | [v0, v1, v2, v3, v4, v5], _, [y0, y1, y2], _ =>
   rw [c0, o0] at g0
   rw [c1, o1] at g1
   rw [c2, o2] at g2
   exact ⟨v0, v1, v2, v3, v4, v5, y0, y1, y2, m, rfl, g0, g1, g2⟩
end
section
variable {H : Type} {enc : TypeId × Value → H} {W : World} {base : Nat} {sp : Nat → Bool} {held : Bool} {n : Nat} {cs : List Value} {x : DataW H × List MemPlace}
theorem sm_elem (h : DataW.trod enc Try.prog W base sp held n 68 cs = some x) : ∃ y : Sm, smR W cs y ∧ SmIn y := by
 obtain ⟨v0, v1, v2, v3, y0, y1, y2, y3, m, rfl, h0, h1, h2, h3⟩ := elem4 Try.underlying68 (by kernel_rfl) (by kernel_rfl) (by kernel_rfl) (by kernel_rfl) (by kernel_rfl) rfl rfl rfl rfl h
 obtain ⟨s, e0, _, hs⟩ := DataW.trod_string Try.underlying9 h0
 obtain ⟨b, e1, _⟩ := DataW.trod_bool Try.underlying4 h1
 obtain ⟨i, e2, _, hi⟩ := DataW.trod_int Try.underlying3 h2
 obtain ⟨j, e3, _, hj⟩ := DataW.trod_int Try.underlying3 h3
 cases e0; cases e1; cases e2; cases e3
 exact ⟨⟨s, b, i, j⟩, rfl, hs, hi, hj⟩
theorem pt_elem (h : DataW.trod enc Try.prog W base sp held n 78 cs = some x) : ∃ y : Pt, ptR W cs y ∧ PtIn y := by
 obtain ⟨v0, v1, v2, v3, v4, v5, y0, y1, y2, m, rfl, h0, h1, h2⟩ := elem411 Try.underlying78 (by kernel_rfl) (by kernel_rfl) (by kernel_rfl) (by kernel_rfl) rfl rfl rfl h
 obtain ⟨q, e0, hq⟩ := sm_elem h0
 obtain ⟨s, e1, _, hs⟩ := DataW.trod_string Try.underlying9 h1
 obtain ⟨j, e2, _, hj⟩ := DataW.trod_int Try.underlying3 h2
 cases e0; cases e1; cases e2
 exact ⟨⟨q, s, j⟩, rfl, hq, hs, hj⟩
theorem al_elem (h : DataW.trod enc Try.prog W base sp held n 71 cs = some x) : ∃ y : Al, alR W cs y ∧ AlIn y := by
 obtain ⟨v0, v1, v2, v3, v4, v5, y0, y1, y2, m, rfl, h0, h1, h2⟩ := elem141 Try.underlying71 (by kernel_rfl) (by kernel_rfl) (by kernel_rfl) (by kernel_rfl) rfl rfl rfl h
 obtain ⟨v, l, e0, hl, hq0⟩ := list_of_trod (size := 6) (R := ptR) (Q := PtIn) Try.underlying69 (by kernel_rfl) (by omega) (fun n cs x h => pt_elem h) h0
 obtain ⟨q, e1, hq⟩ := sm_elem h1
 obtain ⟨j, e2, _, hj⟩ := DataW.trod_int Try.underlying3 h2
 cases e0; cases e1; cases e2
 exact ⟨⟨l, q, j⟩, ⟨_, rfl, hl⟩, hq0, hq, hj⟩
theorem rl_elem (h : DataW.trod enc Try.prog W base sp held n 74 cs = some x) : ∃ y : Rl, rlR W cs y ∧ RlIn y := by
 obtain ⟨v0, v1, v2, y0, y1, y2, m, rfl, h0, h1, h2⟩ := elem3 Try.underlying74 (by kernel_rfl) (by kernel_rfl) (by kernel_rfl) (by kernel_rfl) rfl rfl rfl h
 obtain ⟨s, e0, _, hs⟩ := DataW.trod_string Try.underlying9 h0
 obtain ⟨v, l, e1, hl, hq0⟩ := list_of_trod (size := 6) (R := alR) (Q := AlIn) Try.underlying72 (by kernel_rfl) (by omega) (fun n cs x h => al_elem h) h1
 obtain ⟨j, e2, _, hj⟩ := DataW.trod_int Try.underlying3 h2
 cases e0; cases e1; cases e2
 exact ⟨⟨s, l, j⟩, ⟨_, rfl, hl⟩, hs, hq0, hj⟩
theorem dc_elem (h : DataW.trod enc Try.prog W base sp held n 64 cs = some x) : ∃ y : Dc, dcR W cs y ∧ DcIn y := by
 obtain ⟨v0, v1, v2, v3, y0, y1, y2, y3, m, rfl, h0, h1, h2, h3⟩ := elem4 Try.underlying64 (by kernel_rfl) (by kernel_rfl) (by kernel_rfl) (by kernel_rfl) (by kernel_rfl) rfl rfl rfl rfl h
 obtain ⟨i, e0, _, hi⟩ := DataW.trod_int Try.underlying3 h0
 obtain ⟨s, e1, _, hs⟩ := DataW.trod_string Try.underlying9 h1
 obtain ⟨v, l, e2, hl, hq0⟩ := list_of_trod (size := 4) (R := smR) (Q := SmIn) Try.underlying62 (by kernel_rfl) (by omega) (fun n cs x h => sm_elem h) h2
 obtain ⟨j, e3, _, hj⟩ := DataW.trod_int Try.underlying3 h3
 cases e0; cases e1; cases e2; cases e3
 exact ⟨⟨i, s, l, j⟩, ⟨_, rfl, hl⟩, hi, hs, hq0, hj⟩
set_option maxRecDepth 100000 in
theorem so_of_trod {r : Reach} {b0 : Nat} {v : Value} {d : DataW H} {p : List MemPlace} (hv : Value.okWide Try.prog W r b0 25 v) (h : DataW.Trod enc Try.prog W base sp held 25 v d p) : ∃ s, SoV W v s ∧ SoIn s := by
 obtain ⟨v0, v1, v2, v3, y0, y1, y2, y3, m, rfl, _, _, h0, h1, h2, h3⟩ := Go.Joins.open_agg4 Try.underlying25 (by kernel_rfl) (by kernel_rfl) hv h
 obtain ⟨s, e0, _, hs⟩ := DataW.trod_string Try.underlying9 h0
 obtain ⟨_, l, e1, hl, hq0⟩ := list_of_trod (size := 4) (R := dcR) (Q := DcIn) Try.underlying22 (by kernel_rfl) (by omega) (fun n cs x h => dc_elem h) h1
 obtain ⟨_, k, e2, hk, hq1⟩ := list_of_trod (size := 3) (R := rlR) (Q := RlIn) Try.underlying23 (by kernel_rfl) (by omega) (fun n cs x h => rl_elem h) h2
 obtain ⟨t, e3, _, ht⟩ := DataW.trod_string Try.underlying9 h3
 cases e0; cases e1; cases e2; cases e3
 exact ⟨⟨s, l, k, t⟩, ⟨_, _, rfl, hl, hk⟩, hs, hq0, hq1, ht⟩
end
section
variable {H : Type} {enc : TypeId × Value → H} {P : Program} {W : World} {base : Nat} {sp : Nat → Bool} {held : Bool}
theorem elem5 {F : TypeId} {f0 f1 f2 f3 f4 : Field} {n : Nat} {cs : List Value} {x : DataW H × List MemPlace} (hF : P.underlying F = some (.struct #[f0, f1, f2, f3, f4])) (hcF : P.cellsOf F = 5)
  (c0 : P.cellsOf f0.type = 1) (c1 : P.cellsOf f1.type = 1) (c2 : P.cellsOf f2.type = 1) (c3 : P.cellsOf f3.type = 1) (c4 : P.cellsOf f4.type = 1) (o0 : f0.offset = 0) (o1 : f1.offset = 1) (o2 : f2.offset = 2) (o3 : f3.offset = 3) (o4 : f4.offset = 4)
  (h : DataW.trod enc P W base sp held n F cs = some x) : ∃ v0 v1 v2 v3 v4 y0 y1 y2 y3 y4 m, cs = [v0, v1, v2, v3, v4] ∧ DataW.trod enc P W base sp held m f0.type [v0] = some y0 ∧ DataW.trod enc P W base sp held m f1.type [v1] = some y1 ∧
    DataW.trod enc P W base sp held m f2.type [v2] = some y2 ∧ DataW.trod enc P W base sp held m f3.type [v3] = some y3 ∧ DataW.trod enc P W base sp held m f4.type [v4] = some y4 := by
 obtain ⟨ys, m, _, _, hl, hyl, hf⟩ := DataW.trod_struct hF h
 rw [hcF] at hl
 have g0 := hf 0 f0 rfl
 have g1 := hf 1 f1 rfl
 have g2 := hf 2 f2 rfl
 have g3 := hf 3 f3 rfl
 have g4 := hf 4 f4 rfl
 match cs, hl, ys, hyl with
 | [v0, v1, v2, v3, v4], _, [y0, y1, y2, y3, y4], _ =>
   rw [c0, o0] at g0
   rw [c1, o1] at g1
   rw [c2, o2] at g2
   rw [c3, o3] at g3
   rw [c4, o4] at g4
   exact ⟨v0, v1, v2, v3, v4, y0, y1, y2, y3, y4, m, rfl, g0, g1, g2, g3, g4⟩
end
section
variable {H : Type} {enc : TypeId × Value → H} {W : World} {base : Nat} {sp : Nat → Bool} {held : Bool}
theorem int_elem9 {n : Nat} {cs : List Value} {x : DataW H × List MemPlace} (h : DataW.trod enc Try.prog W base sp held n 3 cs = some x) : ∃ y : Int, intR W cs y ∧ InW y := by
 obtain ⟨i, e, _, hi⟩ := DataW.trod_int Try.underlying3 h
 exact ⟨i, e, hi⟩
theorem ints_elem9 {n : Nat} {cs : List Value} {x : DataW H × List MemPlace} (h : DataW.trod enc Try.prog W base sp held n 27 cs = some x) : ∃ y : List Int, (∃ u, cs = [u] ∧ IntsV W u y) ∧ ∀ z ∈ y, InW z := by
 obtain ⟨v, l, e, hl, hq⟩ := list_of_trod (size := 1) (R := intR) (Q := InW) Try.underlying27 (by kernel_rfl) (by omega) (fun n cs x h => int_elem9 h) h
 exact ⟨l, ⟨v, e, ListV.ints hl⟩, hq⟩
set_option maxRecDepth 100000 in
theorem gr_of_trod {r : Reach} {b0 : Nat} {v : Value} {d : DataW H} {p : List MemPlace} (hv : Value.okWide Try.prog W r b0 29 v) (h : DataW.Trod enc Try.prog W base sp held 29 v d p) : ∃ g, GrV W v g ∧ GrIn g := by
 obtain ⟨cs, rfl, hsz⟩ := okWide_struct Try.underlying29 hv
 obtain ⟨fuel, hf⟩ := h
 obtain ⟨v0, v1, v2, v3, v4, y0, y1, y2, y3, y4, m, hcs, h0, h1, h2, h3, h4⟩ := elem5 Try.underlying29 (by kernel_rfl) (by kernel_rfl) (by kernel_rfl) (by kernel_rfl) (by kernel_rfl) (by kernel_rfl) rfl rfl rfl rfl rfl hf
 obtain ⟨i, e0, _, hi⟩ := DataW.trod_int Try.underlying3 h0
 obtain ⟨_, rl, e1, hrl, hq1⟩ := list_of_trod (size := 1) (R := fun w cs r => ∃ u, cs = [u] ∧ IntsV w u r) (Q := fun r => ∀ x ∈ r, InW x) Try.underlying26 (by kernel_rfl) (by omega) (fun n cs x h => ints_elem9 h) h1
 obtain ⟨ll, ⟨_, e2, hll⟩, hq2⟩ := ints_elem9 h2
 obtain ⟨il, ⟨_, e3, hil⟩, hq3⟩ := ints_elem9 h3
 obtain ⟨bb, e4, _⟩ := DataW.trod_bool Try.underlying4 h4
 cases e0; cases e1; cases e2; cases e3; cases e4
 have hc : cs = #[.int .i64 i, v1, v2, v3, .bool bb] := Array.toList_inj.1 hcs
 subst hc
 exact ⟨⟨i, rl, ll, il, bb⟩, ⟨⟨v1, v2, v3, rfl, hrl, hll, hil⟩⟩, ⟨hi, hq1, hq2, hq3⟩⟩
end
end
end Go.Proofs.Ytkgbifbbpmdpgaa
