/- Pieces that came in; the law on Join. -/
import Derived.Test.YtmpdpgbcflogfaaDoorJoinRef
import Derived.Deep.Slices
import Derived.Deep.Fields
import Derived.ChangeArms
namespace Go.Proofs.YtmpdpgbcflogfaaDoor
open Go.RowKit Go.ChangeShapes Go.WideShapes Go.Deep
set_option linter.unusedVariables false
set_option linter.unusedSimpArgs false

/-- pieces that came in: no text is longer than may be -/
def PcsIn (w : World) (v : Value) (L : List Pc) : Prop := PcsV w v L ∧ ∀ p ∈ L, p.text.size ≤ maxLen ∧ p.tag.size ≤ maxLen

section
variable {H : Type} {enc : TypeId × Value → H} {w : World} {base : Nat} {sp : Nat → Bool} {held : Bool}

set_option maxRecDepth 100000 in
theorem piece_cells {n : Nat} {cs : List Value} {x : DataW H × List MemPlace} (h : DataW.trod enc Tryd.prog w base sp held n 28 cs = some x) :
    ∃ p : Pc, cs = p.cells ∧ p.text.size ≤ maxLen ∧ p.tag.size ≤ maxLen := by
  obtain ⟨ys, m, _, _, hl, hyl, hf⟩ := DataW.trod_struct Tryd.underlying28 h
  have e4 : Tryd.prog.cellsOf 28 = 4 := by kernel_rfl
  have e1 : Tryd.prog.cellsOf 3 = 1 := by kernel_rfl
  have e2 : Tryd.prog.cellsOf 9 = 1 := by kernel_rfl
  rw [e4] at hl
  have f0 := hf 0 _ rfl
  have f1 := hf 1 _ rfl
  have f2 := hf 2 _ rfl
  have f3 := hf 3 _ rfl
  match cs, hl, ys, hyl with
  | [c0, c1, c2, c3], _, [y0, y1, y2, y3], _ =>
    simp only [e1, e2, List.drop, List.take, List.getElem?_cons_zero, List.getElem?_cons_succ] at f0 f1 f2 f3
    obtain ⟨z0, h0, _, _⟩ := DataW.trod_int Tryd.underlying3 f0
    obtain ⟨z1, h1, _, hs1⟩ := DataW.trod_string Tryd.underlying9 f1
    obtain ⟨z2, h2, _, _⟩ := DataW.trod_int Tryd.underlying3 f2
    obtain ⟨z3, h3, _, hs3⟩ := DataW.trod_string Tryd.underlying9 f3
    cases h0; cases h1; cases h2; cases h3
    exact ⟨⟨z0, z1, z2, z3⟩, rfl, hs1, hs3⟩

theorem pcs_of_trod {T : TypeId} {a : Option Addr} {n c : Nat} {d : DataW H} {p : List MemPlace}
    (hT : Tryd.prog.underlying T = some (.slice 28)) (h : DataW.Trod enc Tryd.prog w base sp held T (.slice a n c) d p) : ∃ L, PcsIn w (.slice a n c) L := by
  obtain ⟨fuel, hf⟩ := h
  rcases open_slice hT hf with ⟨hcs, _⟩ | ⟨x, l, c', m, k, D, Pl, hcs, _, hl, hm, hmm, _, hi⟩
  · simp [Value.cells] at hcs
    obtain ⟨rfl, rfl, rfl⟩ := hcs
    exact ⟨[], ⟨none, 0, rfl, by simp, by omega, fun _ => rfl, fun i hi => absurd hi (Nat.not_lt_zero _)⟩, fun p hp => by cases hp⟩
  · simp [Value.cells] at hcs
    obtain ⟨rfl, rfl, rfl⟩ := hcs
    have e4 : Tryd.prog.cellsOf 28 = 4 := by kernel_rfl
    have hlm : n ≤ m := by rw [hmm]; split <;> omega
    have hp : ∀ i, ∃ p : Pc, (i < n → ∀ j, j < 4 → w.cell? ((x.add (i * 4)).add j) = p.cells[j]?) ∧ p.text.size ≤ maxLen ∧ p.tag.size ≤ maxLen := fun i => by
      by_cases hlt : i < n
      · obtain ⟨cs', hc, ht⟩ := hi i (by omega)
        obtain ⟨p, rfl, h1, h2⟩ := piece_cells ht
        rw [e4] at hc
        obtain ⟨_, _, hat⟩ := World.cells?_some hc
        exact ⟨p, fun _ => hat, h1, h2⟩
      · exact ⟨noPc, fun h => absurd h hlt, by decide, by decide⟩
    have hx0 : 0 < n → x.spot = none := fun h => by
      obtain ⟨p, hp0, _⟩ := hp 0
      have h1 := hp0 h 0 (by omega)
      have e : (x.add (0 * 4)).add 0 = x := by simp [Addr.add]
      rw [e] at h1
      exact World.cell?_spot (h1.trans (show p.cells[0]? = some (.int .i64 p.kind) from rfl))
    obtain ⟨f, hfs⟩ := Classical.axiomOfChoice hp
    refine ⟨(List.range n).map f, ?_, fun p hpm => ?_⟩
    · have hlen : ((List.range n).map f).length = n := by simp
      refine ⟨some x, c, by rw [hlen], by rw [hlen]; exact hl, by unfold maxLen at hm; omega, (fun h => by cases h), fun i hi2 => ?_⟩
      have hpl := pcs_len ((List.range n).map f)
      rw [hlen] at hpl
      have hq : i / 4 < n := by omega
      have hr : i % 4 < 4 := Nat.mod_lt _ (by omega)
      have hcell := (hfs (i / 4)).1 hq (i % 4) hr
      have hspot := hx0 (by omega)
      obtain ⟨b, off, spot⟩ := x
      subst hspot
      have hg : ((List.range n).map f).getD (i / 4) noPc = f (i / 4) := by
        rw [List.getD_eq_getElem?_getD, List.getElem?_map, List.getElem?_range hq]; rfl
      have hgd := pcs_getD ((List.range n).map f) (i / 4) (by rw [hlen]; exact hq)
      rw [hg] at hgd
      refine ⟨b, off, rfl, ?_⟩
      rw [addr_add, addr_add] at hcell
      have hi4 : off + i / 4 * 4 + i % 4 = off + i := by omega
      rw [hi4] at hcell
      rw [hcell]
      obtain ⟨g0, g1, g2, g3⟩ := hgd
      have hcase : i % 4 = 0 ∧ i = i / 4 * 4 ∨ i % 4 = 1 ∧ i = i / 4 * 4 + 1 ∨ i % 4 = 2 ∧ i = i / 4 * 4 + 2 ∨ i % 4 = 3 ∧ i = i / 4 * 4 + 3 := by omega
      rcases hcase with ⟨e, e2⟩ | ⟨e, e2⟩ | ⟨e, e2⟩ | ⟨e, e2⟩
      · rw [e, show (pcs ((List.range n).map f)).getD i undef = _ from (congrArg (fun q => (pcs ((List.range n).map f)).getD q undef) e2).trans g0]; rfl
      · rw [e, show (pcs ((List.range n).map f)).getD i undef = _ from (congrArg (fun q => (pcs ((List.range n).map f)).getD q undef) e2).trans g1]; rfl
      · rw [e, show (pcs ((List.range n).map f)).getD i undef = _ from (congrArg (fun q => (pcs ((List.range n).map f)).getD q undef) e2).trans g2]; rfl
      · rw [e, show (pcs ((List.range n).map f)).getD i undef = _ from (congrArg (fun q => (pcs ((List.range n).map f)).getD q undef) e2).trans g3]; rfl
    · obtain ⟨i, _, rfl⟩ := List.mem_map.1 hpm
      exact (hfs i).2
end

end Go.Proofs.YtmpdpgbcflogfaaDoor
