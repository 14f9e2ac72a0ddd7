/- Rising lists; what the numbers of a set are. -/
import Derived.Test.YtijnekbhpdcemaaDoorList
import Derived.Test.YtijnekbhpdcemaaDoorRising
namespace Go.Proofs.YtijnekbhpdcemaaDoor
open Go.RowKit
set_option linter.unusedVariables false

theorem members_rising (ws : List Nat) : Rising (membersS ws) := by
  unfold membersS
  rw [Rising, List.pairwise_map]
  have h : ((List.range 1024).filter (fun (n : Nat) => memS ws (n : Int))).Pairwise (· < ·) := List.Pairwise.sublist List.filter_sublist List.pairwise_lt_range
  exact h.imp (fun {a b} hab => by omega)

theorem mem_members (ws : List Nat) (y : Int) : y ∈ membersS ws ↔ memS ws y = true := by
  unfold membersS
  rw [List.mem_map]
  constructor
  · rintro ⟨n, hn, rfl⟩
    exact (List.mem_filter.1 hn).2
  · intro h
    have hr : 0 ≤ y ∧ y < 1024 := by
      unfold memS at h
      simp at h
      exact h.1
    obtain ⟨n, rfl⟩ := Int.eq_ofNat_of_zero_le hr.1
    exact ⟨n, List.mem_filter.2 ⟨by simp; omega, h⟩, rfl⟩

theorem memS_add (ws : List Nat) (x i : Int) (hws : ws.length = 16) : memS (addS ws x) i = (memS ws i || decide (0 ≤ i ∧ i < 1024 ∧ i = x)) := by
  by_cases hi : 0 ≤ i ∧ i < 1024
  · unfold addS
    by_cases hx : 0 ≤ x ∧ x < 1024
    · rw [if_pos hx]
      unfold memS
      have hd : decide (0 ≤ i ∧ i < 1024) = true := decide_eq_true hi
      rw [hd, Bool.true_and, Bool.true_and]
      by_cases hw : x.toNat / 64 = i.toNat / 64
      · rw [List.getD_eq_getElem?_getD (l := ws.set _ _), hw, List.getElem?_set_self (by omega)]
        simp only [Option.getD_some]
        rw [Nat.testBit_or, Nat.testBit_two_pow]
        congr 1
        rw [Bool.eq_iff_iff]
        simp
        omega
      · rw [List.getD_eq_getElem?_getD (l := ws.set _ _), List.getElem?_set_ne hw, ← List.getD_eq_getElem?_getD]
        have : decide (0 ≤ i ∧ i < 1024 ∧ i = x) = false := by
          rw [decide_eq_false_iff_not]; rintro ⟨_, _, rfl⟩; exact hw rfl
        rw [this, Bool.or_false]
    · rw [if_neg hx]
      have : decide (0 ≤ i ∧ i < 1024 ∧ i = x) = false := by
        rw [decide_eq_false_iff_not]; rintro ⟨_, _, rfl⟩; exact hx hi
      rw [this, Bool.or_false]
  · have h1 : ∀ vs, memS vs i = false := by intro vs; unfold memS; rw [decide_eq_false hi, Bool.false_and]
    rw [h1, h1]
    have : decide (0 ≤ i ∧ i < 1024 ∧ i = x) = false := by
      rw [decide_eq_false_iff_not]; rintro ⟨a, b, _⟩; exact hi ⟨a, b⟩
    rw [this]; rfl

theorem fold_length (l : List Int) : ∀ ws : List Nat, (l.foldl addS ws).length = ws.length := by
  induction l with
  | nil => intro ws; rfl
  | cons x l ih => intro ws; rw [List.foldl_cons, ih, addS_length]
theorem ofS_length (l : List Int) : (ofS l).length = 16 := by unfold ofS; rw [fold_length]; rfl
theorem fold_lt (l : List Int) : ∀ ws : List Nat, (∀ y ∈ ws, y < 2 ^ 64) → ∀ y ∈ l.foldl addS ws, y < 2 ^ 64 := by
  induction l with
  | nil => intro ws h; exact h
  | cons x l ih => intro ws h; rw [List.foldl_cons]; exact ih _ (addS_lt ws x h)
theorem ofS_lt (l : List Int) : ∀ y ∈ ofS l, y < 2 ^ 64 := fold_lt l noWords (by decide)

theorem mem_fold (l : List Int) : ∀ (ws : List Nat) (i : Int), ws.length = 16 → (memS (l.foldl addS ws) i = true ↔ memS ws i = true ∨ (0 ≤ i ∧ i < 1024 ∧ i ∈ l)) := by
  induction l with
  | nil => intro ws i _; simp
  | cons x l ih =>
    intro ws i hws
    rw [List.foldl_cons, ih _ _ (by rw [addS_length, hws]), memS_add ws x i hws]
    simp only [Bool.or_eq_true, decide_eq_true_eq, List.mem_cons]
    constructor
    · rintro ((h | ⟨a, b, c⟩) | ⟨a, b, c⟩)
      · exact .inl h
      · exact .inr ⟨a, b, .inl c⟩
      · exact .inr ⟨a, b, .inr c⟩
    · rintro (h | ⟨a, b, c | c⟩)
      · exact .inl (.inl h)
      · exact .inl (.inr ⟨a, b, c⟩)
      · exact .inr ⟨a, b, c⟩

theorem memS_noWords (i : Int) : memS noWords i = false := by
  unfold memS
  have : ∀ k, noWords.getD k 0 = 0 := by
    intro k
    unfold noWords
    match k with
    | 0 | 1 | 2 | 3 | 4 | 5 | 6 | 7 | 8 | 9 | 10 | 11 | 12 | 13 | 14 | 15 => rfl
    | k + 16 => simp
  rw [this]; simp

theorem memS_ofS (l : List Int) (i : Int) : memS (ofS l) i = true ↔ (0 ≤ i ∧ i < 1024 ∧ i ∈ l) := by
  unfold ofS
  rw [mem_fold l noWords i rfl, memS_noWords]
  simp

/-- the rising list of the numbers that a set may have -/
def SetIs (l r : List Int) : Prop := Rising r ∧ ∀ y, y ∈ r ↔ (0 ≤ y ∧ y < 1024 ∧ y ∈ l)

theorem setIs_members {l r : List Int} (h : SetIs l r) : r = membersS (ofS l) :=
  rising_ext h.1 (members_rising _) (fun y => by rw [h.2, mem_members, memS_ofS])

end Go.Proofs.YtijnekbhpdcemaaDoor
