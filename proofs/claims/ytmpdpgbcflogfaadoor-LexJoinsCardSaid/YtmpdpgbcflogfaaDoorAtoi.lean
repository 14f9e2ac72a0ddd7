/- What Atoi tells of digits. -/
import Derived.Test.YtmpdpgbcflogfaaDoorShelfAtoi
import Derived.Test.YtmpdpgbcflogfaaDoorLex3
namespace Go.Proofs.YtmpdpgbcflogfaaDoor
open Go.RowKit
set_option linter.unusedVariables false

def horA (acc : Nat) (l : List UInt8) : Nat := l.foldl (fun a c => a * 10 + (c.toNat - 48)) acc
def Digs (l : List UInt8) : Prop := ∀ c ∈ l, 48 ≤ c.toNat ∧ c.toNat ≤ 57
theorem horA_cons (acc : Nat) (c : UInt8) (r : List UInt8) : horA acc (c :: r) = horA (acc * 10 + (c.toNat - 48)) r := by unfold horA; rw [List.foldl_cons]
theorem horA_ge (l : List UInt8) : ∀ acc, acc * 10 ^ l.length ≤ horA acc l := by
  induction l with
  | nil => intro acc; show acc * 1 ≤ acc; omega
  | cons c r ih =>
    intro acc
    rw [horA_cons, List.length_cons, Nat.pow_succ]
    have h := ih (acc * 10 + (c.toNat - 48))
    generalize 10 ^ r.length = p at *
    have h2 : acc * (p * 10) = acc * 10 * p := by rw [Nat.mul_comm p 10, Nat.mul_assoc]
    have h3 : acc * 10 * p ≤ (acc * 10 + (c.toNat - 48)) * p := Nat.mul_le_mul_right _ (Nat.le_add_right _ _)
    rw [h2]; exact Nat.le_trans h3 h
theorem horA_lt (l : List UInt8) : ∀ acc, Digs l → horA acc l < (acc + 1) * 10 ^ l.length := by
  induction l with
  | nil => intro acc _; show acc < (acc + 1) * 1; omega
  | cons c r ih =>
    intro acc hd
    rw [horA_cons, List.length_cons, Nat.pow_succ]
    have hc := hd c (List.mem_cons_self ..)
    have h := ih (acc * 10 + (c.toNat - 48)) (fun x hx => hd x (List.mem_cons_of_mem _ hx))
    generalize 10 ^ r.length = p at *
    have h2 : (acc + 1) * (p * 10) = (acc + 1) * 10 * p := by rw [Nat.mul_comm p 10, Nat.mul_assoc]
    have h3 : (acc * 10 + (c.toNat - 48) + 1) * p ≤ (acc + 1) * 10 * p := Nat.mul_le_mul_right _ (by omega)
    rw [h2]; exact Nat.lt_of_lt_of_le h h3
theorem horA_mono (l : List UInt8) (acc : Nat) : acc ≤ horA acc l := by
  have h := horA_ge l acc
  have h2 : acc * 1 ≤ acc * 10 ^ l.length := Nat.mul_le_mul_left _ (Nat.pos_of_ne_zero (by simp))
  rw [Nat.mul_one] at h2
  exact Nat.le_trans h2 h

theorem parse_digs : ∀ (l : List UInt8) (acc : Nat), Digs l → (Lib.parseUint10 acc l = .ok (horA acc l) ∨ Lib.parseUint10 acc l = .range) ∧ (horA acc l < 1844674407370955162 → Lib.parseUint10 acc l = .ok (horA acc l))
  | [], acc, _ => ⟨.inl rfl, fun _ => rfl⟩
  | c :: r, acc, hd => by
    have hc := hd c (List.mem_cons_self ..)
    have h := parse_digs r (acc * 10 + (c.toNat - 48)) (fun x hx => hd x (List.mem_cons_of_mem _ hx))
    rw [horA_cons]
    have hm := horA_mono r (acc * 10 + (c.toNat - 48))
    unfold Lib.parseUint10
    rw [if_pos hc]
    by_cases h1 : 1844674407370955162 ≤ acc
    · rw [if_pos h1]; exact ⟨.inr rfl, fun hx => by omega⟩
    · rw [if_neg h1]
      by_cases h2 : 18446744073709551616 ≤ acc * 10 + (c.toNat - 48)
      · rw [if_pos h2]; exact ⟨.inr rfl, fun hx => by omega⟩
      · rw [if_neg h2]; exact h

theorem atoi_digs (l : List UInt8) (hd : Digs l) (hne : l ≠ []) : (Lib.atoiAll l = .ok (horA 0 l : Nat) ∨ Lib.atoiAll l = .range) ∧ (horA 0 l < 1000000 → Lib.atoiAll l = .ok (horA 0 l : Nat)) := by
  obtain ⟨h1, h2⟩ := parse_digs l 0 hd
  cases l with
  | nil => exact absurd rfl hne
  | cons c r =>
    have hc := hd c (List.mem_cons_self ..)
    have hm : Lib.parseMag (if c.toNat = 43 ∨ c.toNat = 45 then r else c :: r) = Lib.parseUint10 0 (c :: r) := by
      rw [if_neg (by omega)]; unfold Lib.parseMag; rw [if_neg (by simp)]
    have hn : ¬ c.toNat = 45 := by omega
    unfold Lib.atoiAll
    simp only [hm]
    constructor
    · rcases h1 with h1 | h1
      · rw [h1]
        simp only [hn, not_false_eq_true, true_and, false_and, if_false]
        split
        · exact .inr rfl
        · exact .inl rfl
      · rw [h1]; exact .inr rfl
    · intro hx
      rw [h2 (by omega)]
      simp only [hn, not_false_eq_true, true_and, false_and, if_false]
      rw [if_neg (by omega)]

end Go.Proofs.YtmpdpgbcflogfaaDoor
