/- The names' object: New, At, Put. -/
import Derived.Test.YtijnekbhpdcemaaNames
import Derived.Maps.AppendAt
import Derived.Carry
import Derived.Deep.DeepCutAuto
import Derived.Outline
namespace Go.Proofs.Ytijnekbhpdcemaa
open Go.RowKit Go.Maps
set_option linter.unusedVariables false

theorem names_new (w : World) :
    Calls Try.prog 8 #[] w fun e w' => e = .returned (.pointer (some ⟨w.heap.size, 0, none⟩)) ∧ w' = w.alloc (.cells #[.slice none 0 0, .map none] 40) := by
  go_enter Try.func8, Try.ntmps8
  go_wp2
  go_ret
  exact ⟨rfl, rfl⟩

theorem namesD_nil : NamesD [] (.map []) := ⟨⟨[], rfl⟩, fun s => ⟨rfl, fun h => by simp [place] at h⟩⟩

theorem names_made (w : World) (base : Nat) : NamesV (w.alloc (.cells #[.slice none 0 0, .map none] 40)) base w.heap.size [] :=
  ⟨trivial, by simp, _, _, heap_alloc_new w _, World.ownsRow_nil _ _ _ _, .inl ⟨rfl, rfl⟩⟩

def atS (L : List ByteArray) (i : Int) : ByteArray := if 0 ≤ i ∧ i < L.length then L.getD i.toNat ByteArray.empty else ByteArray.empty
def atB (L : List ByteArray) (i : Int) : Bool := decide (0 ≤ i ∧ i < L.length)

theorem names_at (b : Nat) (L : List ByteArray) (i : Int) (base : Nat) (w : World) (h : NamesV w base b L) :
    Calls Try.prog 11 #[.pointer (some ⟨b, 0, none⟩), .int .i64 i] w fun e w' => e = .returned (.tuple #[.string (atS L i), .bool (atB L i)]) ∧ w = w' := by
  obtain ⟨_, hn, sv, mv, hb, hr, _⟩ := h
  have hs : StrsV w sv L := StrsV.of_owns hr
  obtain ⟨a, n, c, rfl, hln, hnc, hc, hx⟩ := hs.open
  obtain ⟨c0, c1⟩ := cells_two hb
  have hn6 : n ≤ 1000000 := by rw [hln.out]; exact hn
  clear hr hb hs hn
  by_cases h0 : 0 ≤ i
  · by_cases h1 : i < n
    · obtain ⟨k, rfl⟩ := Int.eq_ofNat_of_zero_le h0
      have hk : k < n := by omega
      obtain ⟨b1, o1, rfl, c2⟩ := hx.out k hk
      have hS : Hid (atS L (k : Int) = L.getD k ByteArray.empty) := Lib.hid (by unfold atS; rw [if_pos ⟨h0, by rw [← hln.out]; exact h1⟩]; rfl)
      have hB : Hid (atB L (k : Int) = true) := Lib.hid (decide_eq_true ⟨h0, by rw [← hln.out]; exact h1⟩)
      have d1 : decide ((k : Int) < 0) = false := by simp
      have d2 : decide ((n : Int) ≤ (k : Int)) = false := by simp; omega
      generalize L.getD k ByteArray.empty = y at c2 hS
      go_enter Try.func11, Try.ntmps11
      go_wp2
      go_ret2
      exact ⟨by rw [hS.out, hB.out]; rfl, rfl⟩
    · have hS : Hid (atS L i = ByteArray.empty) := Lib.hid (by unfold atS; rw [if_neg]; rw [← hln.out]; exact fun h => h1 h.2)
      have hB : Hid (atB L i = false) := Lib.hid (decide_eq_false (by rw [← hln.out]; exact fun h => h1 h.2))
      have d1 : decide (i < 0) = false := by simp; omega
      have d2 : decide ((n : Int) ≤ i) = true := by simp; omega
      go_enter Try.func11, Try.ntmps11
      go_wp2
      go_ret2
      exact ⟨by rw [hS.out, hB.out]; rfl, rfl⟩
  · have hS : Hid (atS L i = ByteArray.empty) := Lib.hid (by unfold atS; rw [if_neg]; exact fun h => h0 h.1)
    have hB : Hid (atB L i = false) := Lib.hid (decide_eq_false (fun h => h0 h.1))
    have d1 : decide (i < 0) = true := by simp; omega
    go_enter Try.func11, Try.ntmps11
    go_wp2
    go_ret2
    exact ⟨by rw [hS.out, hB.out]; rfl, rfl⟩

/-- the names when one more was put -/
def putS (L : List ByteArray) (s : ByteArray) : List ByteArray := if place L s < L.length then L else L ++ [s]

theorem place_snoc {L : List ByteArray} {s t : ByteArray} (hs : ¬ place L s < L.length) : place (L ++ [s]) t = if place L t < L.length then place L t else if t = s then L.length else L.length + 1 := by
  unfold place
  rw [List.findIdx_append]
  have e : ∀ b : Bool, (List.findIdx (fun t' : ByteArray => t'.toList == t.toList) [s]) = if s.toList == t.toList then 0 else 1 := by
    intro _; rw [List.findIdx_cons]; cases s.toList == t.toList <;> rfl
  split
  · rfl
  · rename_i h
    rw [e true]
    by_cases hst : t = s
    · subst hst
      rw [if_pos (teq.2 rfl), if_pos rfl]; omega
    · rw [tne (fun h => hst h.symm), if_neg hst]; simp; omega

theorem key_lit (l : List UInt8) : WideAt.IsKeyLit (.string l) := by simp [WideAt.IsKeyLit]

theorem namesD_put {L : List ByteArray} {s : ByteArray} {D : DataW Unit} (h : NamesD L D) (hs : ¬ place L s < L.length) : NamesD (L ++ [s]) (D.put (.string s.data.toList) (.lit (.int .i64 (L.length : Nat)))) := by
  obtain ⟨h1, h2⟩ := h
  refine ⟨h1.put _ _, fun t => ?_⟩
  obtain ⟨h3, h4⟩ := h2 t
  have hl : (L ++ [s]).length = L.length + 1 := by simp
  by_cases hst : t = s
  · subst hst
    have hp : place (L ++ [t]) t = L.length := by rw [place_snoc hs, if_neg hs, if_pos rfl]
    rw [hp, hl]
    refine ⟨?_, fun _ z => ?_⟩
    · rw [decide_eq_true (by omega)]
      exact has_true_of_atKey (fun z => atKey_put_same h1 (key_lit _) _ z)
    · exact atKey_put_same h1 (key_lit _) _ z
  · have hne : Lit.string t.data.toList ≠ Lit.string s.data.toList := fun h => hst (key_inj h)
    by_cases hp : place L t < L.length
    · have hp' : place (L ++ [s]) t = place L t := by rw [place_snoc hs, if_pos hp]
      rw [hp', hl]
      refine ⟨?_, fun _ z => ?_⟩
      · rw [decide_eq_true (by omega)]
        exact has_true_of_atKey (fun z => by rw [atKey_put_other hne]; exact h4 hp z)
      · rw [atKey_put_other hne]; exact h4 hp z
    · have hp' : place (L ++ [s]) t = L.length + 1 := by rw [place_snoc hs, if_neg hp, if_neg hst]
      rw [hp', hl]
      refine ⟨?_, fun h => absurd h (by omega)⟩
      rw [decide_eq_false (by omega)]
      rw [decide_eq_false hp] at h3
      exact has_false_of_atKey (fun z => by rw [atKey_put_other hne]; exact atKey_of_not_has h3 z)

end Go.Proofs.Ytijnekbhpdcemaa
