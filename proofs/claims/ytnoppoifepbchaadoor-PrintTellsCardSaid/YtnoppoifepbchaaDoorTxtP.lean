/- Texts: what May tells of their parts. -/
import Derived.Test.YtnoppoifepbchaaDoorTxt2
namespace Go.Proofs.YtnoppoifepbchaaDoor
open Go.RowKit
set_option linter.unusedVariables false
set_option linter.unusedSimpArgs false

theorem numT_le (n : Int) (h0 : 0 ≤ n) (h1 : n ≤ 50000) : (numT n).size ≤ 10 := by
  obtain ⟨k, rfl⟩ := Int.eq_ofNat_of_zero_le h0
  have e : (numT (k : Int)).size = Lib.nDigits k := by
    show (Lib.itoa (k : Int)).toArray.size = _
    unfold Lib.itoa
    rw [if_neg (by omega)]
    simp [Lib.decDigits_length]
  rw [e]
  rw [Lib.nDigits]; split
  · omega
  rw [Lib.nDigits]; split
  · omega
  rw [Lib.nDigits]; split
  · omega
  rw [Lib.nDigits]; split
  · omega
  rw [Lib.nDigits]; split <;> omega
theorem keyS_size (k : Int) : (keyS k).size ≤ 10 := by
  unfold keyS
  repeat' split
  all_goals decide
theorem symNum_of {num lit : Bool} {x : Sm} (h : symB num lit x = true) : 0 ≤ x.num ∧ x.num ≤ 50000 := by
  unfold symB at h
  split at h
  · rw [decide_eq_true_iff] at h; omega
  · rw [decide_eq_true_iff] at h; rcases h.2 with h | h <;> omega
theorem dc_of {d : Dc} (h : mayDc d = true) : (1 ≤ d.kind ∧ d.kind ≤ 6) ∧ ∀ x ∈ d.syms, SmTx x ∧ 0 ≤ x.num ∧ x.num ≤ 50000 := by
  unfold mayDc dcB at h
  rw [Bool.and_eq_true, decide_eq_true_iff, List.all_eq_true] at h
  exact ⟨⟨h.1.1, h.1.2.1⟩, fun x hx => ⟨symTx_of (h.2 x hx), symNum_of (h.2 x hx)⟩⟩
theorem rl_of {r : Rl} (h : mayRl r = true) : ∀ a ∈ r.alts, AlTx a := by
  unfold mayRl at h
  rw [Bool.and_eq_true, Bool.and_eq_true, List.all_eq_true] at h
  exact fun a ha => alTx_of (h.2.2 a ha)
theorem so_of {s : So} (h : maySo s = true) : (∀ d ∈ s.decls, mayDc d = true) ∧ ∀ r ∈ s.rules, mayRl r = true := by
  unfold maySo at h
  rw [Bool.and_eq_true, Bool.and_eq_true, Bool.and_eq_true, List.all_eq_true, List.all_eq_true] at h
  exact ⟨h.2.1, h.2.2.1⟩
theorem kinds {k : Int} (h : 1 ≤ k ∧ k ≤ 6) : k = 1 ∨ k = 2 ∨ k = 3 ∨ k = 4 ∨ k = 5 ∨ k = 6 := by omega
theorem keys_cell (w : World) (B j : Nat) (hB : B = w.heap.size) : (w.alloc (.cells keyCells 9)).cell? ⟨B, j, none⟩ = keyCells[j]? := cell_top w _ _ B j hB

end Go.Proofs.YtnoppoifepbchaaDoor
