/- What came in, read as grammars by numbers. -/
import Derived.Test.YtnoppoifepbchaaDoorFrameB
import Derived.Test.YtnoppoifepbchaaDoorGrW3
namespace Go.Proofs.YtnoppoifepbchaaDoor

open Go.ChangeShapes Go.WideShapes Go.ChangeAt Go.WideMaps Go.WideElems Go.RowKit Go.Deep
set_option linter.unusedVariables false
section
variable {H : Type} {enc : TypeId × Value → H} {P : Program} {W : World} {base : Nat} {sp : Nat → Bool} {held : Bool}
theorem elem5 {F : TypeId} {f0 f1 f2 f3 f4 : Field} {n : Nat} {cs : List Value} {x : DataW H × List MemPlace} (hF : P.underlying F = some (.struct #[f0, f1, f2, f3, f4])) (hcF : P.cellsOf F = 5)
  (c0 : P.cellsOf f0.type = 1) (c1 : P.cellsOf f1.type = 1) (c2 : P.cellsOf f2.type = 1) (c3 : P.cellsOf f3.type = 1) (c4 : P.cellsOf f4.type = 1) (o0 : f0.offset = 0) (o1 : f1.offset = 1) (o2 : f2.offset = 2) (o3 : f3.offset = 3) (o4 : f4.offset = 4)
  (h : DataW.trod enc P W base sp held n F cs = some x) : ∃ v0 v1 v2 v3 v4 y0 y1 y2 y3 y4 m, cs = [v0, v1, v2, v3, v4] ∧ DataW.trod enc P W base sp held m f0.type [v0] = some y0 ∧ DataW.trod enc P W base sp held m f1.type [v1] = some y1 ∧
    DataW.trod enc P W base sp held m f2.type [v2] = some y2 ∧ DataW.trod enc P W base sp held m f3.type [v3] = some y3 ∧ DataW.trod enc P W base sp held m f4.type [v4] = some y4 := by
 obtain ⟨ys, m, _, _, hl, hyl, hf⟩ := DataW.trod_struct hF h
 rw [hcF] at hl
 have g0 := hf 0 f0 rfl
 have g1 := hf 1 f1 rfl
 have g2 := hf 2 f2 rfl
 have g3 := hf 3 f3 rfl
 have g4 := hf 4 f4 rfl
 match cs, hl, ys, hyl with
 | [v0, v1, v2, v3, v4], _, [y0, y1, y2, y3, y4], _ =>
   rw [c0, o0] at g0
   rw [c1, o1] at g1
   rw [c2, o2] at g2
   rw [c3, o3] at g3
   rw [c4, o4] at g4
   exact ⟨v0, v1, v2, v3, v4, y0, y1, y2, y3, y4, m, rfl, g0, g1, g2, g3, g4⟩
end
section
variable {H : Type} {enc : TypeId × Value → H} {W : World} {base : Nat} {sp : Nat → Bool} {held : Bool}
theorem int_elem9 {n : Nat} {cs : List Value} {x : DataW H × List MemPlace} (h : DataW.trod enc Tryd.prog W base sp held n 3 cs = some x) : ∃ y : Int, intR W cs y ∧ InW y := by
 obtain ⟨i, e, _, hi⟩ := DataW.trod_int Tryd.underlying3 h
 exact ⟨i, e, hi⟩
theorem ints_elem9 {n : Nat} {cs : List Value} {x : DataW H × List MemPlace} (h : DataW.trod enc Tryd.prog W base sp held n 46 cs = some x) : ∃ y : List Int, (∃ u, cs = [u] ∧ IntsV W u y) ∧ ∀ z ∈ y, InW z := by
 obtain ⟨v, l, e, hl, hq⟩ := list_of_trod (size := 1) (R := intR) (Q := InW) Tryd.underlying46 (by kernel_rfl) (by omega) (fun n cs x h => int_elem9 h) h
 exact ⟨l, ⟨v, e, ListV.ints hl⟩, hq⟩
set_option maxRecDepth 100000 in
theorem gr_of_trod {r : Reach} {b0 : Nat} {v : Value} {d : DataW H} {p : List MemPlace} (hv : Value.okWide Tryd.prog W r b0 59 v) (h : DataW.Trod enc Tryd.prog W base sp held 59 v d p) : ∃ g, GrV W v g ∧ GrIn g := by
 obtain ⟨cs, rfl, hsz⟩ := okWide_struct Tryd.underlying59 hv
 obtain ⟨fuel, hf⟩ := h
 obtain ⟨v0, v1, v2, v3, v4, y0, y1, y2, y3, y4, m, hcs, h0, h1, h2, h3, h4⟩ := elem5 Tryd.underlying59 (by kernel_rfl) (by kernel_rfl) (by kernel_rfl) (by kernel_rfl) (by kernel_rfl) (by kernel_rfl) rfl rfl rfl rfl rfl hf
 obtain ⟨i, e0, _, hi⟩ := DataW.trod_int Tryd.underlying3 h0
 obtain ⟨_, rl, e1, hrl, hq1⟩ := list_of_trod (size := 1) (R := fun w cs r => ∃ u, cs = [u] ∧ IntsV w u r) (Q := fun r => ∀ x ∈ r, InW x) Tryd.underlying57 (by kernel_rfl) (by omega) (fun n cs x h => ints_elem9 h) h1
 obtain ⟨ll, ⟨_, e2, hll⟩, hq2⟩ := ints_elem9 h2
 obtain ⟨il, ⟨_, e3, hil⟩, hq3⟩ := ints_elem9 h3
 obtain ⟨bb, e4, _⟩ := DataW.trod_bool Tryd.underlying4 h4
 cases e0; cases e1; cases e2; cases e3; cases e4
 have hc : cs = #[.int .i64 i, v1, v2, v3, .bool bb] := Array.toList_inj.1 hcs
 subst hc
 exact ⟨⟨i, rl, ll, il, bb⟩, ⟨⟨v1, v2, v3, rfl, hrl, hll, hil⟩⟩, ⟨hi, hq1, hq2, hq3⟩⟩
end
end Go.Proofs.YtnoppoifepbchaaDoor
