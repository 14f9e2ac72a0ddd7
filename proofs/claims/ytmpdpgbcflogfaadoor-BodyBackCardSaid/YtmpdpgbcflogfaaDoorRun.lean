/- Runs of plain bytes: nothing is passed over, no brace, no dollar. -/
import Derived.Test.YtmpdpgbcflogfaaDoorBodyJoins
namespace Go.Proofs.YtmpdpgbcflogfaaDoor
open Go.RowKit
set_option linter.unusedVariables false

theorem overF_self {n : Nat} {g : Nat → Int} {i : Nat} (h1 : g i ≠ 34) (h2 : g i ≠ 39) (h3 : g i ≠ 96) (h4 : g i ≠ 47) : overF n g i = i := by
  unfold overF
  rw [if_neg (by omega), if_neg h3, if_neg (fun h => h4 h.2.1), if_neg (fun h => h4 h.2.1)]

/-- a byte at which nothing happens -/
def PlainAt (g : Nat → Int) (i : Nat) : Prop := g i ≠ 34 ∧ g i ≠ 39 ∧ g i ≠ 96 ∧ g i ≠ 47
theorem PlainAt.over {n : Nat} {g : Nat → Int} {i : Nat} (h : PlainAt g i) : overF n g i = i := overF_self h.1 h.2.1 h.2.2.1 h.2.2.2

theorem endF_plain {n : Nat} {g : Nat → Int} {i : Nat} {d : Int} (hi : i < n) (h : PlainAt g i) (hd : deepF g i d ≠ 0) : endF n g i d = endF n g (i + 1) (deepF g i d) := by
  rw [endF, if_pos hi, if_neg (by rw [h.over]; omega), if_neg (by rw [h.over]; omega), if_neg hd]
theorem endF_last {n : Nat} {g : Nat → Int} {i : Nat} {d : Int} (hi : i < n) (h : PlainAt g i) (hd : deepF g i d = 0) : endF n g i d = (i : Int) + 1 := by
  rw [endF, if_pos hi, if_neg (by rw [h.over]; omega), if_neg (by rw [h.over]; omega), if_pos hd]
theorem endF_over {n : Nat} {g : Nat → Int} {i k : Nat} {d : Int} (hi : i < n) (h : overF n g i = k) (hk : i < k) : endF n g i d = endF n g k d := by
  rw [endF, if_pos hi, if_neg (by rw [h]; omega), if_pos (by rw [h]; omega), h]; rfl

theorem endF_run {n : Nat} {g : Nat → Int} {d : Int} (hd : d ≠ 0) (e : Nat) (he : e ≤ n) : ∀ m i, e - i = m → i ≤ e → (∀ j, i ≤ j → j < e → PlainAt g j ∧ g j ≠ 123 ∧ g j ≠ 125) → endF n g i d = endF n g e d := by
  intro m
  induction m with
  | zero => intro i h1 h2 _; rw [show i = e by omega]
  | succ m ih =>
    intro i h1 h2 h
    obtain ⟨hp, h3, h4⟩ := h i (Nat.le_refl _) (by omega)
    have hde : deepF g i d = d := by unfold deepF; rw [if_neg h3, if_neg h4]
    rw [endF_plain (by omega) hp (by rw [hde]; exact hd), hde]
    exact ih (i + 1) (by omega) (by omega) (fun j hj hj2 => h j (by omega) hj2)

theorem nextF_plain {n : Nat} {g : Nat → Int} {i : Nat} (h : PlainAt g i) : nextF n g i = i + 1 := by
  unfold nextF; rw [h.over]; omega
theorem nextF_over {n : Nat} {g : Nat → Int} {i k : Nat} (h : overF n g i = k) (hk : i < k) : nextF n g i = k := by
  unfold nextF; rw [h]; omega

theorem tooF_run {n : Nat} {g : Nat → Int} (e : Nat) (he : e ≤ n) : ∀ m i, e - i = m → i ≤ e → (∀ j, i ≤ j → j < e → PlainAt g j ∧ g j ≠ 36) → tooF n g i = tooF n g e := by
  intro m
  induction m with
  | zero => intro i h1 h2 _; rw [show i = e by omega]
  | succ m ih =>
    intro i h1 h2 h
    obtain ⟨hp, h3⟩ := h i (Nat.le_refl _) (by omega)
    rw [tooF, if_pos (by omega), if_neg (fun hc => h3 hc.1), nextF_plain hp]
    exact ih (i + 1) (by omega) (by omega) (fun j hj hj2 => h j (by omega) hj2)
theorem tooF_end {n : Nat} {g : Nat → Int} {i : Nat} (h : ¬ i < n) : tooF n g i = false := by rw [tooF, if_neg h]
theorem tooF_over {n : Nat} {g : Nat → Int} {i k : Nat} (hi : i < n) (h36 : g i ≠ 36) (h : overF n g i = k) (hk : i < k) : tooF n g i = tooF n g k := by
  rw [tooF, if_pos hi, if_neg (fun hc => h36 hc.1), nextF_over h hk]

theorem cutF_run {s : ByteArray} {n : Nat} {g : Nat → Int} {f : Nat} (e : Nat) (he : e ≤ n) : ∀ m i, e - i = m → i ≤ e → (∀ j, i ≤ j → j < e → PlainAt g j ∧ g j ≠ 36) → cutF s n g f i = cutF s n g f e := by
  intro m
  induction m with
  | zero => intro i h1 h2 _; rw [show i = e by omega]
  | succ m ih =>
    intro i h1 h2 h
    obtain ⟨hp, h3⟩ := h i (Nat.le_refl _) (by omega)
    rw [cutF_skip (by omega) h3, nextF_plain hp]
    exact ih (i + 1) (by omega) (by omega) (fun j hj hj2 => h j (by omega) hj2)

theorem digF_stop {n : Nat} {g : Nat → Int} (e : Nat) (he : e ≤ n) (hs : ¬ (e < n ∧ digB (g e) = true)) : ∀ m i, e - i = m → i ≤ e → (∀ j, i ≤ j → j < e → digB (g j) = true) → digF n g i = e := by
  intro m
  induction m with
  | zero => intro i h1 h2 _; rw [show i = e by omega, digF, if_neg hs]
  | succ m ih =>
    intro i h1 h2 h
    rw [digF, if_pos ⟨by omega, h i (Nat.le_refl _) (by omega)⟩]
    exact ih (i + 1) (by omega) (by omega) (fun j hj hj2 => h j (by omega) hj2)

theorem tagF_none {n : Nat} {g : Nat → Int} {i : Nat} (h : g i ≠ 60) : tagF n g i = i := by
  unfold tagF; rw [if_neg (fun hc => h hc.2.1)]

end Go.Proofs.YtmpdpgbcflogfaaDoor
