/- The law CombFull: rows without gaps lie one behind the other; four hundred may be laid, and not one more. -/
import Derived.Test.YtjeebcnjdhlcfaaDoorCombL2
namespace Go.Proofs.YtjeebcnjdhlcfaaDoor
open Go.RowKit
set_option linter.unusedVariables false
set_option linter.unusedSimpArgs false

def flats (n wide : Nat) : List (List Pr) := (List.range n).map fun i : Nat => flatRow wide (-(i : Int))
theorem flats_next (n wide : Nat) : flats (n + 1) wide = flats n wide ++ [flatRow wide (-(n : Int))] := by unfold flats; rw [List.range_succ, List.map_append]; rfl
theorem flats_len (n wide : Nat) : (flats n wide).length = n := by simp [flats]
theorem flats_at (n wide i : Nat) (h : i < n) : rowAt (flats n wide) i = flatRow wide (-(i : Int)) := by
  unfold rowAt flats
  rw [List.getD_eq_getElem?_getD, List.getElem?_map, List.getElem?_range h]; rfl
theorem flatRow_next (k : Nat) (v : Int) : flatRow (k + 1) v = flatRow k v ++ [((k : Int), v)] := by unfold flatRow; rw [List.range_succ, List.map_append]; rfl

/-- n rows without gaps, rows that have none, and more -/
def padded (n wide m : Nat) : List (List Pr) := flats n wide ++ List.replicate m []
theorem padded_next (n wide m : Nat) : padded n wide (m + 1) = padded n wide m ++ [[]] := by unfold padded; rw [List.replicate_succ', List.append_assoc]
theorem padded_len (n wide m : Nat) : (padded n wide m).length = n + m := by simp [padded, flats_len]
theorem padded_at (n wide m i : Nat) : rowAt (padded n wide m) i = if i < n then flatRow wide (-(i : Int)) else [] := by
  unfold padded
  rw [rowAt_app, flats_len]
  split
  · exact flats_at n wide i ‹_›
  · unfold rowAt
    rw [List.getD_eq_getElem?_getD, List.getElem?_replicate]
    split <;> rfl
theorem more_at (l : List (List Pr)) (r : List Pr) (i : Nat) : rowAt (l ++ [r]) i = if i < l.length then rowAt l i else if i = l.length then r else [] := by
  rw [rowAt_app]
  split
  · rfl
  · split
    · rename_i h; subst h; simp [rowAt]
    · rename_i h1 h2
      unfold rowAt
      rw [List.getD_eq_getElem?_getD, List.getElem?_eq_none (by simp; omega)]; rfl
theorem laid_base4 {rows : List (List Pr)} (i : Nat) (h : mayS rows = true) (hl : (orderS rows).length ≤ 20) : 0 ≤ (layS rows).1.getD i 0 ∧ (layS rows).1.getD i 0 ≤ 1000000 := by
  have H := laid_all h
  have ho := orderS_is rows
  refine ⟨H.nonneg i, ?_⟩
  by_cases hi : i ∈ orderS rows
  · have hne := ((ho.2 i).1 hi).2
    obtain ⟨p, hp⟩ := List.exists_mem_of_ne_nil _ hne
    have h1 := (H.pair i hi p hp).1
    have h2 := H.small
    have := Nat.mul_le_mul_left 1000 hl
    omega
  · rw [H.base0 i hi]; omega
/-- few of them have pairs -/
theorem more_full (n wide m : Nat) (r : List Pr) (hn : n ≤ 10) : (fullS (padded n wide m ++ [r])).length < 20 := by
  have hsub : (fullS (padded n wide m ++ [r])).length ≤ (List.range n ++ [(padded n wide m).length]).length := by
    refine List.Nodup.length_le_of_subset (fullS_nodup _) (fun i hi => ?_)
    obtain ⟨_, h2⟩ := (mem_fullS _ _).1 hi
    rw [more_at, padded_at] at h2
    rw [List.mem_append, List.mem_range, List.mem_singleton]
    split at h2
    · split at h2
      · exact .inl ‹_›
      · exact absurd rfl h2
    · split at h2
      · exact .inr ‹_›
      · exact absurd rfl h2
  simp at hsub; omega
theorem not_may_long (l : List (List Pr)) (h : 400 < l.length) : layS l = ([], [], []) := by unfold layS; rw [mayS_long l h]; rfl
theorem not_may_row (l : List (List Pr)) (r : List Pr) (h : rowMay r = false) : layS (l ++ [r]) = ([], [], []) := by
  unfold layS
  rw [mayS_not (l ++ [r]) l.length (by simp) (by rw [more_at, if_neg (by omega), if_pos rfl]; exact h)]; rfl

theorem newsB (w : World) (a : Value) (t : TypeId) (B : Nat) (hB : B = w.heap.size) : ∀ j u, [a][j]? = some u → (w.alloc (.cells #[a] t)).cell? ((⟨B, 0, none⟩ : Addr).add j) = some u := by
  subst hB
  exact news1 w a t
theorem grow_row {B : Nat} {S S' : Nat → Prop} {W w5 : World} {v v5 y : Value} {xs : List Value} {rows : List (List Pr)} {r : List Pr} {L : Nat} (hG : GrowL B 35 1 prowR S W v xs rows) (hy : Firm S' W (fun w' => PairsV w' y r)) (hn : ∀ k, v.ownBlock = some k → ¬ S' k) (hL : rows.length = L)
    (ho : w5.ownsRow B 35 1 v5 (L + 1) (xs ++ [y])) (hg : (W.alloc (.cells #[y] 35)).grownBy w5 v.ownBlock) (hl : v5.ownBlock = v.ownBlock ∨ v5.ownBlock = some (W.heap.size + 1)) :
    GrowL B 35 1 prowR (fun b => S b ∨ S' b) w5 v5 (xs ++ [y]) (rows ++ [r]) := by
  have hal := (Below.refl W.heap.size W).alloc (Nat.le_refl _) (.cells #[y] 35)
  exact (hG.below hal).push (by rw [hL]; exact ho) hg (by simpa using hl) rfl ((hy.below hal).imp (fun w' h => ⟨y, rfl, h⟩)) hn
theorem one_firm {W : World} {o : Nat} {r : List Pr} {n : Nat} {T : TypeId} {fr : Nat × Nat} (hr : r.length = n) (hr2 : n ≤ 1000) (h : W.heap[o]? = some (.cells (r.flatMap pairC).toArray T fr)) : Firm (fun b => b = o) W (fun w' => PairsV w' (.slice (some ⟨o, 0, none⟩) n n) r) := by
  subst hr
  refine ⟨fun b hb => by rw [hb]; exact (Array.getElem?_eq_some_iff.1 h).1, fun w' hw => ?_⟩
  exact PairsV.lit (by omega) ((hw o rfl).trans h)
theorem pairs_own {B : Nat} {T : TypeId} {w : World} {v : Value} {r : List Pr} (h : w.ownsRow B T 2 v r.length (r.flatMap pairC)) : GrowL B T 2 pairR (fun _ => False) w v (r.flatMap pairC) r := by
  refine ⟨h, Firm.pure (fun w' i x hx => ?_), fun k _ h => h⟩
  show _ = pairC x
  apply List.ext_getElem?
  intro j
  rw [List.getElem?_take]
  split
  · rw [List.getElem?_drop, flat2_get pairC (fun _ => rfl) r i j x hx ‹_›]
  · rw [List.getElem?_eq_none (by show 2 ≤ j; omega)]
theorem news2B (w : World) (u u' : Value) (t : TypeId) (B : Nat) (hB : B = w.heap.size) : ∀ j v, [u, u'][j]? = some v → (w.alloc (.cells #[u, u'] t)).cell? ((⟨B, 0, none⟩ : Addr).add j) = some v := by
  subst hB
  exact news2 w u u' t
theorem zeroComb (w : World) : CombV w (.agg #[.slice none 0 0, .slice none 0 0, .slice none 0 0]) ([], [], []) := ⟨_, _, _, rfl, IntsV.nil _, IntsV.nil _, IntsV.nil _⟩
end Go.Proofs.YtjeebcnjdhlcfaaDoor
