/- Slices of strings. -/
import Derived.Test.YtijnekbhpdcemaaChecked
import Derived.Test.YtijnekbhpdcemaaInts
import Derived.Test.YtijnekbhpdcemaaApp
namespace Go.Proofs.Ytijnekbhpdcemaa
open Go.RowKit
set_option linter.unusedVariables false

/-- a slice of strings -/
def StrsV (w : World) (v : Value) (l : List ByteArray) : Prop := CellsV w v l.length (l.map Value.string)

theorem StrsV.below {w w' : World} {v : Value} {l : List ByteArray} (h : StrsV w v l) (hb : Below w.heap.size w w') : StrsV w' v l := CellsV.below h hb

theorem getD_map_str (l : List ByteArray) (i : Nat) (hi : i < l.length) : (l.map Value.string).getD i undef = .string (l.getD i ByteArray.empty) := by
  rw [List.getD_eq_getElem?_getD, List.getD_eq_getElem?_getD, List.getElem?_map, List.getElem?_eq_getElem hi]
  rfl

/-- opened: an index's cell -/
theorem StrsV.open {w : World} {v : Value} {l : List ByteArray} (h : StrsV w v l) : ∃ a n c, v = .slice a n c ∧ Hid (n = l.length) ∧ n ≤ c ∧ c ≤ 9223372036854775807 ∧
    Hid (∀ i, i < n → ∃ b off, a = some ⟨b, off, none⟩ ∧ w.cell? ⟨b, off + i, none⟩ = some (.string (l.getD i ByteArray.empty))) := by
  obtain ⟨a, c, hv, hn, hc, _, hx⟩ := h
  refine ⟨a, _, c, hv, Lib.hid rfl, hn, hc, Lib.hid (fun i hi => ?_)⟩
  obtain ⟨b, off, ha, hcell⟩ := hx i (by simpa using hi)
  exact ⟨b, off, ha, hcell.trans (by rw [getD_map_str l i hi])⟩

theorem CellsV.of_owns {w : World} {base : Nat} {e : TypeId} {v : Value} {n : Nat} {xs : List Value} (h : w.ownsRow base e 1 v n xs) : CellsV w v n xs := by
  obtain ⟨h1, h2⟩ := h
  have h1' : xs.length = n := by simpa using h1
  rcases h2 with ⟨rfl, rfl⟩ | ⟨g, cap, cur, rfl, hg, hh, hn, hc, hs, ht⟩
  · refine ⟨none, 0, rfl, by omega, by omega, fun _ => rfl, fun i hi => ?_⟩
    omega
  · refine ⟨_, cap, rfl, hn, by unfold maxLen at hc; omega, (fun h => by cases h), fun i hi => ?_⟩
    refine ⟨g, 0, rfl, ?_⟩
    rw [cell_of_row w g _ cur e (0, 0) hh]
    have hcs : i < cur.size := by omega
    rw [List.getD_eq_getElem?_getD, ← ht, List.getElem?_take, if_pos (by omega)]
    simp [hcs]

theorem StrsV.of_owns {w : World} {base : Nat} {e : TypeId} {v : Value} {l : List ByteArray} (h : w.ownsRow base e 1 v l.length (l.map Value.string)) : StrsV w v l := CellsV.of_owns h
theorem StrsV.nil (w : World) : StrsV w (.slice none 0 0) [] := ⟨none, 0, rfl, by simp, by omega, fun _ => rfl, fun i hi => absurd hi (Nat.not_lt_zero _)⟩

theorem SrcV.of_strs {w : World} {v : Value} {l : List ByteArray} (h : StrsV w v l) : SrcV w v l.length (l.map Value.string) :=
  SrcV.of_cells h (fun h0 => by simp [List.eq_nil_of_length_eq_zero h0])
theorem strs_one (l : List ByteArray) : ∀ u ∈ l.map Value.string, u.oneCell' = true := by
  intro u hu
  obtain ⟨x, _, rfl⟩ := List.mem_map.1 hu
  rfl

theorem teq {a b : ByteArray} : (a.toList == b.toList) = true ↔ a = b := by
  rw [beq_iff_eq, ByteArray.toList_eq, ByteArray.toList_eq]
  constructor
  · intro h; exact ByteArray.ext (Array.toList_inj.1 h)
  · rintro rfl; rfl
theorem tne {a b : ByteArray} (h : ¬ a = b) : (a.toList == b.toList) = false := by
  rw [Bool.eq_false_iff]; exact fun hc => h (teq.1 hc)

/-- the place of a name; -1: it has none -/
def place (l : List ByteArray) (s : ByteArray) : Nat := l.findIdx (fun t => t.toList == s.toList)
def idx (l : List ByteArray) (s : ByteArray) : Int := if place l s < l.length then (place l s : Int) else -1

theorem getD_of {l : List ByteArray} {k : Nat} (hk : k < l.length) : l.getD k ByteArray.empty = l[k] := by
  rw [List.getD_eq_getElem?_getD, List.getElem?_eq_getElem hk]; rfl
theorem place_here {l : List ByteArray} {s : ByteArray} {k : Nat} (h : ∀ j, j < k → l.getD j ByteArray.empty ≠ s) (hk : k < l.length) (he : l.getD k ByteArray.empty = s) : place l s = k := by
  unfold place
  rw [List.findIdx_eq hk]
  refine ⟨?_, fun j hj => ?_⟩
  · rw [← getD_of hk]; exact teq.2 he
  · rw [← getD_of (show j < l.length by omega)]; exact tne (h j hj)
theorem place_lt {l : List ByteArray} {s : ByteArray} : place l s < l.length ↔ s ∈ l := by
  unfold place
  rw [List.findIdx_lt_length]
  constructor
  · rintro ⟨x, hx, h⟩; rw [← teq.1 h]; exact hx
  · intro h; exact ⟨s, h, teq.2 rfl⟩
theorem idx_here {l : List ByteArray} {s : ByteArray} {k : Nat} (h : ∀ j, j < k → l.getD j ByteArray.empty ≠ s) (hk : k < l.length) (he : l.getD k ByteArray.empty = s) : idx l s = k := by
  unfold idx
  rw [place_here h hk he, if_pos hk]
theorem idx_none {l : List ByteArray} {s : ByteArray} (h : ∀ j, j < l.length → l.getD j ByteArray.empty ≠ s) : idx l s = -1 := by
  unfold idx
  rw [if_neg]
  intro hm
  obtain ⟨k, hk, he⟩ := List.getElem_of_mem (place_lt.1 hm)
  exact h k hk (by rw [getD_of hk]; exact he)

theorem find_any (v : Value) (l : List ByteArray) (s : ByteArray) (w : World) (h : StrsV w v l) :
    Calls Try.prog 10 #[v, .string s] w fun e w' => e = .returned (.int .i64 (idx l s)) ∧ w = w' := by
  obtain ⟨a, n, c, rfl, hn, hnc, hc, hx⟩ := h.open
  clear h
  go_enter Try.func10, Try.ntmps10
  go_wp2
  go_loop [5] (fun i => ∃ k : Nat, k ≤ n ∧ i = .int .i64 k ∧ Hid (∀ j, j < k → l.getD j ByteArray.empty ≠ s)) (fun i => n - (intOf i).toNat)
  case atStart => exact ⟨0, Nat.zero_le _, rfl, Lib.hid (fun j hj => absurd hj (Nat.not_lt_zero _))⟩
  case round =>
    obtain ⟨k, hk, rfl, hp⟩ := hrel
    by_cases hlt : k < n
    · obtain ⟨b, o, rfl, c1⟩ := hx.out k hlt
      by_cases he : l.getD k ByteArray.empty = s
      · have HE := Lib.hid (idx_here hp.out (by have := hn.out; omega) he)
        have h1 : ((l.getD k ByteArray.empty).toList == s.toList) = true := teq.2 he
        clear he
        generalize l.getD k ByteArray.empty = y at c1 h1
        go_wp2
        go_ret
        exact ⟨ret_int HE.out.symm, rfl⟩
      · have h1 : ((l.getD k ByteArray.empty).toList == s.toList) = false := tne he
        have HE := Lib.hid he
        clear he
        generalize hy : l.getD k ByteArray.empty = y at c1 h1 HE
        have HY := Lib.hid hy
        clear hy
        go_wp2
        go_round
        case rel => exact ⟨k + 1, by omega, by go_num, Lib.hid (fun j hj => by
          by_cases e : j = k
          · subst e; rw [HY.out]; exact HE.out
          · exact hp.out j (by omega))⟩
        case measure => simp [intOf]; omega
    · go_wp2
      go_ret
      exact ⟨ret_int (idx_none (fun j hj => hp.out j (by have := hn.out; omega))).symm, rfl⟩

end Go.Proofs.Ytijnekbhpdcemaa
