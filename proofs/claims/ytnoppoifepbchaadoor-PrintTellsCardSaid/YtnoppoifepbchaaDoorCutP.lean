/- A source, cut: what the law's cut tells. -/
import Derived.Test.YtnoppoifepbchaaDoorCut8
namespace Go.Proofs.YtnoppoifepbchaaDoor
open Go.RowKit
set_option linter.unusedVariables false
set_option linter.unusedSimpArgs false

def Pt.cut (p : Pt) : Pt := ⟨p.sym.cut, cutT p.code 30, p.pos⟩
def Al.cut (a : Al) : Al := ⟨(a.parts.take 5).map Pt.cut, a.prec.cut, a.pos⟩
def Rl.cut (r : Rl) : Rl := ⟨cutT r.left 25, (r.alts.take 4).map Al.cut, r.pos⟩
def Dc.cut (d : Dc) : Dc := ⟨d.kind, cutT d.tag 25, (d.syms.take 5).map Sm.cut, d.pos⟩
def So.cut (s : So) : So := ⟨cutT s.pro 40, (s.decls.take 6).map Dc.cut, (s.rules.take 5).map Rl.cut, cutT s.tail 40⟩

theorem cutT_small (t : ByteArray) (m : Nat) (h : m ≤ 1000000) : (cutT t m).size ≤ 1000000 := Nat.le_trans (cutT_size t m) h
theorem Sm.cut_small (x : Sm) : SmSmall x.cut := cutT_small _ _ (by omega)
theorem Al.cut_small (a : Al) : AlSmall a.cut ∧ a.cut.parts.length ≤ 100 := by
  refine ⟨⟨fun p hp => ?_, Sm.cut_small _⟩, ?_⟩
  · obtain ⟨q, _, rfl⟩ := List.mem_map.1 hp
    exact ⟨Sm.cut_small _, cutT_small _ _ (by omega)⟩
  · show ((a.parts.take 5).map Pt.cut).length ≤ 100
    rw [List.length_map, List.length_take]; omega
theorem Rl.cut_small (r : Rl) : RlSmall r.cut ∧ RlFew r.cut := by
  refine ⟨⟨cutT_small _ _ (by omega), fun a ha => ?_⟩, ?_, fun a ha => ?_⟩
  · obtain ⟨b, _, rfl⟩ := List.mem_map.1 ha
    exact (Al.cut_small b).1
  · show ((r.alts.take 4).map Al.cut).length ≤ 100
    rw [List.length_map, List.length_take]; omega
  · obtain ⟨b, _, rfl⟩ := List.mem_map.1 ha
    exact (Al.cut_small b).2
theorem Dc.cut_small (d : Dc) : DcSmall d.cut ∧ d.cut.syms.length ≤ 100 := by
  refine ⟨⟨cutT_small _ _ (by omega), fun x hx => ?_⟩, ?_⟩
  · obtain ⟨y, _, rfl⟩ := List.mem_map.1 hx
    exact Sm.cut_small y
  · show ((d.syms.take 5).map Sm.cut).length ≤ 100
    rw [List.length_map, List.length_take]; omega
theorem So.cut_small (s : So) : SoSmall s.cut ∧ SoFew s.cut := by
  refine ⟨⟨cutT_small _ _ (by omega), cutT_small _ _ (by omega), fun d hd => ?_, fun r hr => ?_⟩, ?_, ?_, fun d hd => ?_, fun r hr => ?_⟩
  · obtain ⟨e, _, rfl⟩ := List.mem_map.1 hd
    exact (Dc.cut_small e).1
  · obtain ⟨e, _, rfl⟩ := List.mem_map.1 hr
    exact (Rl.cut_small e).1
  · show ((s.decls.take 6).map Dc.cut).length ≤ 100
    rw [List.length_map, List.length_take]; omega
  · show ((s.rules.take 5).map Rl.cut).length ≤ 100
    rw [List.length_map, List.length_take]; omega
  · obtain ⟨e, _, rfl⟩ := List.mem_map.1 hd
    exact (Dc.cut_small e).2
  · obtain ⟨e, _, rfl⟩ := List.mem_map.1 hr
    exact (Rl.cut_small e).2
/-- one element more, of at most m -/
theorem cut_next {α β : Type} (f : α → β) {l : List α} {k m : Nat} {x : α} (hx : l[k]? = some x) : (l.take (k + 1)).map f = (l.take k).map f ++ [f x] := by
  obtain ⟨hk, rfl⟩ := List.getElem?_eq_some_iff.1 hx
  rw [List.take_succ_eq_append_getElem hk, List.map_append]; rfl
theorem cut_done {α β : Type} (f : α → β) {l : List α} {k m : Nat} (hk : k ≤ m) (hl : k ≤ l.length) (h : ¬ (k < l.length ∧ k < m)) : (l.take k).map f = (l.take m).map f := by
  by_cases hm : k < m
  · have : l.length ≤ k := Nat.le_of_not_lt (fun h' => h ⟨h', hm⟩)
    rw [List.take_of_length_le this, List.take_of_length_le (by omega)]
  · rw [show k = m by omega]
end Go.Proofs.YtnoppoifepbchaaDoor
