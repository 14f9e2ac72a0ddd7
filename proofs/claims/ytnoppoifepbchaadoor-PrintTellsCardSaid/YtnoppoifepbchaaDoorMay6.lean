/- May a declaration, a rule, a source be? print's. -/
import Derived.Test.YtnoppoifepbchaaDoorMay5
import Derived.Deep.CutRange
namespace Go.Proofs.YtnoppoifepbchaaDoor
open Go.RowKit
set_option linter.unusedVariables false
set_option linter.unusedSimpArgs false

def keyS (k : Int) : ByteArray := if k = 1 then ⟨#[37, 116, 111, 107, 101, 110]⟩ else if k = 2 then ⟨#[37, 108, 101, 102, 116]⟩ else if k = 3 then ⟨#[37, 114, 105, 103, 104, 116]⟩ else if k = 4 then ⟨#[37, 110, 111, 110, 97, 115, 115, 111, 99]⟩ else if k = 5 then ⟨#[37, 116, 121, 112, 101]⟩ else if k = 6 then ⟨#[37, 115, 116, 97, 114, 116]⟩ else ⟨#[]⟩
theorem key_any (k : Int) (w : World) : Calls Tryd.prog 59 #[.int .i64 k] w fun e w' => e = .returned (.string (keyS k)) ∧ w = w' := by
  go_enter Tryd.func59, Tryd.ntmps59
  go_wp2_with fail
  all_goals
    go_ret
    exact ⟨ret_str (by unfold keyS; simp at *; grind), rfl⟩
theorem keyS_none {k : Int} (h : ¬ (1 ≤ k ∧ k ≤ 6)) : (keyS k).toList = [] := by
  unfold keyS
  rw [if_neg (by omega), if_neg (by omega), if_neg (by omega), if_neg (by omega), if_neg (by omega), if_neg (by omega)]
  exact str_empty rfl
theorem keyS_some {k : Int} (h : 1 ≤ k ∧ k ≤ 6) : (keyS k).toList.isEmpty = false := by
  refine str_some (fun e => ?_)
  have : k = 1 ∨ k = 2 ∨ k = 3 ∨ k = 4 ∨ k = 5 ∨ k = 6 := by omega
  rcases this with h | h | h | h | h | h <;> subst h <;> exact absurd e (by decide)

def ptagB (d : Dc) : Bool := if d.kind = 5 then isNameB d.tag else if d.kind = 6 then decide (d.tag.size = 0) else decide (d.tag.size = 0 ∨ isNameB d.tag = true)
theorem isName_size {t : ByteArray} (h : isNameB t = true) : t.size ≠ 0 := by
  have := of_decide_eq_true (p := (1 ≤ t.size ∧ t.size ≤ 20 ∧ nameF t.size (gAt t) 0 = t.size)) h
  omega
theorem dcB_ptag (d : Dc) : dcB d = (decide (1 ≤ d.kind ∧ d.kind ≤ 6) && (ptagB d && decide (d.syms.length ≠ 0 ∧ (d.kind = 6 → d.syms.length = 1)))) := by
  unfold dcB ptagB
  have hs := fun h => isName_size (t := d.tag) h
  generalize isNameB d.tag = nb at *
  generalize d.tag.size = sz at *
  generalize d.syms.length = n at *
  rw [Bool.eq_iff_iff]
  by_cases h5 : d.kind = 5
  · rw [if_pos h5]; simp [h5]; cases nb <;> simp <;> grind
  · rw [if_neg h5]
    by_cases h6 : d.kind = 6
    · rw [if_pos h6]; simp [h6]; grind
    · rw [if_neg h6]; simp [h5, h6]; grind

set_option maxRecDepth 100000 in
set_option maxHeartbeats 2000000 in
theorem pmayTag_any (d : Dc) (v : Value) (w : World) (h : DcV w v d) (hs : d.tag.size ≤ 1000000) : Calls Tryd.prog 60 #[v] w fun e w' => e = .returned (.bool (ptagB d)) ∧ Below w.heap.size w w' := by
  obtain ⟨sv, rfl, h⟩ := h
  obtain ⟨a1, n, c, rfl, _⟩ := h.open
  have HR : Hid (ptagB d = if d.kind = 5 then isNameB d.tag else if d.kind = 6 then decide (d.tag.size = 0) else decide (d.tag.size = 0 ∨ isNameB d.tag = true)) := Lib.hid rfl
  have HI := Lib.hid (fun W => isName_any d.tag W hs)
  generalize ptagB d = R at HR ⊢
  obtain ⟨kd, tg, sy, po⟩ := d
  simp only at *
  clear h
  have hba := (Below.refl w.heap.size w).alloc (Nat.le_refl _) (.cells #[.int .i64 kd, .string tg, .slice a1 n c, .int .i64 po] 51)
  generalize isNameB tg = nb at *
  by_cases g5 : kd = 5
  · have d5 : (kd == 5) = true := by simp [g5]
    have HR2 : Hid (R = nb) := Lib.hid (by rw [HR.out, if_pos g5])
    clear g5 HR
    go_enter Tryd.func60, Tryd.ntmps60
    go_wp2_with (first | (go_at_call 62; refine (HI.out _).mono ?_; rintro e w' ⟨rfl, rfl⟩))
    go_ret
    exact ⟨ret_bool (by rw [HR2.out]), hba⟩
  · have d5 : (kd == 5) = false := by simp [g5]
    by_cases g0 : tg.size = 0
    · have d0 := str_empty g0
      by_cases g6 : kd = 6
      · have d6 : (kd == 6) = true := by simp [g6]
        have HR2 : Hid (R = true) := Lib.hid (by rw [HR.out, if_neg g5, if_pos g6]; simp [g0])
        clear g5 HR g0 g6
        go_enter Tryd.func60, Tryd.ntmps60
        go_wp2_with (first | (go_at_call 62; refine (HI.out _).mono ?_; rintro e w' ⟨rfl, rfl⟩))
        go_ret
        exact ⟨ret_bool (by rw [HR2.out]), hba⟩
      · have d6 : (kd == 6) = false := by simp [g6]
        have HR2 : Hid (R = true) := Lib.hid (by rw [HR.out, if_neg g5, if_neg g6]; simp [g0])
        clear g5 HR g0 g6
        go_enter Tryd.func60, Tryd.ntmps60
        go_wp2_with (first | (go_at_call 62; refine (HI.out _).mono ?_; rintro e w' ⟨rfl, rfl⟩))
        go_ret
        exact ⟨ret_bool (by rw [HR2.out]), hba⟩
    · have d0 := str_some g0
      by_cases g6 : kd = 6
      · have d6 : (kd == 6) = true := by simp [g6]
        have HR2 : Hid (R = false) := Lib.hid (by rw [HR.out, if_neg g5, if_pos g6]; simp [g0])
        clear g5 HR g0 g6
        go_enter Tryd.func60, Tryd.ntmps60
        go_wp2_with (first | (go_at_call 62; refine (HI.out _).mono ?_; rintro e w' ⟨rfl, rfl⟩))
        go_ret
        exact ⟨ret_bool (by rw [HR2.out]), hba⟩
      · have d6 : (kd == 6) = false := by simp [g6]
        have HR2 : Hid (R = nb) := Lib.hid (by rw [HR.out, if_neg g5, if_neg g6]; simp [g0])
        clear g5 HR g0 g6
        go_enter Tryd.func60, Tryd.ntmps60
        go_wp2_with (first | (go_at_call 62; refine (HI.out _).mono ?_; rintro e w' ⟨rfl, rfl⟩))
        go_ret
        exact ⟨ret_bool (by rw [HR2.out]), hba⟩
end Go.Proofs.YtnoppoifepbchaaDoor
