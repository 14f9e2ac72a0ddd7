/- Faults and words held against the document's. -/
import Derived.Test.YtnoppoifepbchaaGreatDoorZA
import Derived.Test.YtnoppoifepbchaaGreatDoorZLex8
namespace Go.Proofs.YtnoppoifepbchaaGreatDoor
section
open Go.RowKit
set_option linter.unusedVariables false
end
section
open Go.RowKit
set_option linter.unusedVariables false
def Wd.cells (p : Wd) : List Value := [.int .i64 p.kind, .string p.text, .int .i64 p.place]
def wds (L : List Wd) : List Value := L.flatMap Wd.cells
theorem wds_app (L M : List Wd) : wds (L ++ M) = wds L ++ wds M := by unfold wds; rw [List.flatMap_append]

/-- a slice of words -/
def WdsV (w : World) (v : Value) (L : List Wd) : Prop := CellsV w v L.length (wds L)
theorem WdsV.below {w w' : World} {v : Value} {L : List Wd} (h : WdsV w v L) (hb : Below w.heap.size w w') : WdsV w' v L := CellsV.below h hb

end
section
open Go.RowKit
set_option linter.unusedVariables false
/-- the document's word of ours: at a place where none begins it tells that place, and no bytes -/
def rwd (i : Nat) (p : Wd × Nat) : Wd × Nat := if p.1.kind = 0 then (⟨0, ByteArray.empty, i⟩, 0) else (p.1, p.2 - i)
theorem rwd_none {i : Nat} {p : Wd × Nat} (h : p.1.kind = 0) : rwd i p = (⟨0, ByteArray.empty, i⟩, 0) := if_pos h
theorem rwd_some {i : Nat} {k a : Int} {t : ByteArray} {e : Nat} (h : k ≠ 0) : rwd i (⟨k, t, a⟩, e) = (⟨k, t, a⟩, e - i) := if_neg h

theorem horA_snoc (l : List UInt8) (c : UInt8) (acc : Nat) : horA acc (l ++ [c]) = horA acc l * 10 + (c.toNat - 48) := by
 unfold horA; rw [List.foldl_append]; rfl
theorem horA_take (l : List UInt8) (k : Nat) (hk : k < l.length) : horA 0 (l.take (k + 1)) = horA 0 (l.take k) * 10 + ((l.getD k 0).toNat - 48) := by
 rw [List.take_add_one, List.getElem?_eq_getElem hk, List.getD_eq_getElem?_getD, List.getElem?_eq_getElem hk]
 exact horA_snoc _ _ _
theorem digL_len (s : ByteArray) (i : Nat) (hi : i ≤ s.size) : (digL s i).length = digF s.size (gAt s) i - i := by
 unfold digL
 rw [extract_len s (digF_bd s.size (gAt s) i hi).2]
theorem digL_at (s : ByteArray) (i k : Nat) (hi : i ≤ s.size) (hk : i + k < digF s.size (gAt s) i) : (((digL s i).getD k 0).toNat : Int) = gAt s (i + k) := by
 unfold digL
 exact extract_getD s (digF_bd s.size (gAt s) i hi).2 (by omega)
theorem horA_six (s : ByteArray) (i k : Nat) (hi : i ≤ s.size) (hk : k ≤ 6) : horA 0 ((digL s i).take k) < 1000000 := by
 have h := horA_lt ((digL s i).take k) 0 (fun c hc => digL_digs s i hi c (List.mem_of_mem_take hc))
 have h2 : ((digL s i).take k).length ≤ 6 := by rw [List.length_take]; omega
 have h3 : 10 ^ ((digL s i).take k).length ≤ 10 ^ 6 := Nat.pow_le_pow_right (by omega) h2
 omega

theorem digWd_eq (s : ByteArray) (i : Nat) (hi : i < s.size) (hd : digB (gAt s i) = true) :
  digWd s i = if gAt s i = 48 ∨ 5 < digF s.size (gAt s) i - i ∨ 50000 < horA 0 ((digL s i).take 6) ∨ (digF s.size (gAt s) i < s.size ∧ begB (gAt s (digF s.size (gAt s) i)) = true) then (noWd, i)
   else (⟨3, s.extract i (digF s.size (gAt s) i), i⟩, digF s.size (gAt s) i) := by
 have hdi : i < digF s.size (gAt s) i := by
  have e1 : digF s.size (gAt s) i = digF s.size (gAt s) (i + 1) := by rw [digF, if_pos ⟨hi, hd⟩]
  have := digF_bd s.size (gAt s) (i + 1) (by omega)
  omega
 have hl := digL_len s i (by omega)
 have h0 := digL_at s i 0 (by omega) (by omega)
 have hD := digL_digs s i (by omega)
 have hX : 5 < digF s.size (gAt s) i - i → gAt s i ≠ 48 → 50000 < horA 0 (digL s i) := by
  intro h5 h48
  cases hq : digL s i with
  | nil => rw [hq] at hl; simp at hl; omega
  | cons c r =>
    rw [hq] at hl h0 hD
    simp at hl
    simp at h0
    have hc := hD c (List.mem_cons_self ..)
    have h1 := horA_ge r (0 * 10 + (c.toNat - 48))
    rw [horA_cons]
    have h2 : 10 ^ 5 ≤ 10 ^ r.length := Nat.pow_le_pow_right (by omega) (by omega)
    have h3 : 1 * 10 ^ r.length ≤ (0 * 10 + (c.toNat - 48)) * 10 ^ r.length := Nat.mul_le_mul_right _ (by omega)
    omega
 have hY : ¬ 5 < digF s.size (gAt s) i - i → (digL s i).take 6 = digL s i := fun h => List.take_of_length_le (by omega)
 unfold digWd
 generalize digF s.size (gAt s) i = D at *
 by_cases h1 : D < s.size ∧ begB (gAt s D) = true
 · rw [if_pos h1, if_pos (.inr (.inr (.inr h1)))]
 · rw [if_neg h1]
   by_cases h2 : gAt s i = 48
   · rw [if_pos (.inl h2), if_pos (.inl h2)]
   · by_cases h5 : 5 < D - i
     · rw [if_pos (.inr (hX h5 h2)), if_pos (.inr (.inl h5))]
     · rw [hY h5]
       by_cases h6 : 50000 < horA 0 (digL s i)
       · rw [if_pos (.inr h6), if_pos (.inr (.inr (.inl h6)))]
       · rw [if_neg (fun h => h.elim h2 h6), if_neg (fun h => h.elim h2 (fun h => h.elim h5 (fun h => h.elim h6 h1)))]
end
end Go.Proofs.YtnoppoifepbchaaGreatDoor
