/- What each of these texts reads as. -/
import Derived.Test.YtnoppoifepbchaaDoorRulA
import Derived.Test.YtnoppoifepbchaaDoorRulB
import Derived.Test.YtnoppoifepbchaaDoorRulC
import Derived.Test.YtnoppoifepbchaaDoorRulD
import Derived.Test.YtnoppoifepbchaaDoorRulE
namespace Go.Proofs.YtnoppoifepbchaaDoor
open Go.RowKit
set_option linter.unusedVariables false
set_option linter.unusedSimpArgs false

theorem rul1 : ∀ E : List Bool, E.length = 1 → soOk 1 (readT (rS (fun i => E.getD i false) 1)) = true := fun E hE => by
  have h : (allB 0).all (fun P => piece P 1 1) = true := by
    rw [show allB 0 = [[]] from rfl]
    simp only [List.all_cons, List.all_nil, r1_, Bool.and_true]
  have hP : E.take 0 ∈ allB 0 := by have := mem_allB (E.take 0); rwa [List.length_take, hE] at this
  have hQ : E.drop 0 ∈ allB 1 := by have := mem_allB (E.drop 0); rwa [List.length_drop, hE] at this
  have h1 := List.all_eq_true.1 h _ hP
  unfold piece at h1
  have h2 := List.all_eq_true.1 h1 _ hQ
  rw [List.take_append_drop] at h2
  exact h2
theorem rul2 : ∀ E : List Bool, E.length = 2 → soOk 2 (readT (rS (fun i => E.getD i false) 2)) = true := fun E hE => by
  have h : (allB 0).all (fun P => piece P 2 2) = true := by
    rw [show allB 0 = [[]] from rfl]
    simp only [List.all_cons, List.all_nil, r2_, Bool.and_true]
  have hP : E.take 0 ∈ allB 0 := by have := mem_allB (E.take 0); rwa [List.length_take, hE] at this
  have hQ : E.drop 0 ∈ allB 2 := by have := mem_allB (E.drop 0); rwa [List.length_drop, hE] at this
  have h1 := List.all_eq_true.1 h _ hP
  unfold piece at h1
  have h2 := List.all_eq_true.1 h1 _ hQ
  rw [List.take_append_drop] at h2
  exact h2
theorem rul3 : ∀ E : List Bool, E.length = 3 → soOk 3 (readT (rS (fun i => E.getD i false) 3)) = true := fun E hE => by
  have h : (allB 0).all (fun P => piece P 3 3) = true := by
    rw [show allB 0 = [[]] from rfl]
    simp only [List.all_cons, List.all_nil, r3_, Bool.and_true]
  have hP : E.take 0 ∈ allB 0 := by have := mem_allB (E.take 0); rwa [List.length_take, hE] at this
  have hQ : E.drop 0 ∈ allB 3 := by have := mem_allB (E.drop 0); rwa [List.length_drop, hE] at this
  have h1 := List.all_eq_true.1 h _ hP
  unfold piece at h1
  have h2 := List.all_eq_true.1 h1 _ hQ
  rw [List.take_append_drop] at h2
  exact h2
theorem rul4 : ∀ E : List Bool, E.length = 4 → soOk 4 (readT (rS (fun i => E.getD i false) 4)) = true := fun E hE => by
  have h : (allB 0).all (fun P => piece P 4 4) = true := by
    rw [show allB 0 = [[]] from rfl]
    simp only [List.all_cons, List.all_nil, r4_, Bool.and_true]
  have hP : E.take 0 ∈ allB 0 := by have := mem_allB (E.take 0); rwa [List.length_take, hE] at this
  have hQ : E.drop 0 ∈ allB 4 := by have := mem_allB (E.drop 0); rwa [List.length_drop, hE] at this
  have h1 := List.all_eq_true.1 h _ hP
  unfold piece at h1
  have h2 := List.all_eq_true.1 h1 _ hQ
  rw [List.take_append_drop] at h2
  exact h2
theorem rul5 : ∀ E : List Bool, E.length = 5 → soOk 5 (readT (rS (fun i => E.getD i false) 5)) = true := fun E hE => by
  have h : (allB 1).all (fun P => piece P 4 5) = true := by
    rw [show allB 1 = [[true], [false]] from rfl]
    simp only [List.all_cons, List.all_nil, r5_t, r5_f, Bool.and_true]
  have hP : E.take 1 ∈ allB 1 := by have := mem_allB (E.take 1); rwa [List.length_take, hE] at this
  have hQ : E.drop 1 ∈ allB 4 := by have := mem_allB (E.drop 1); rwa [List.length_drop, hE] at this
  have h1 := List.all_eq_true.1 h _ hP
  unfold piece at h1
  have h2 := List.all_eq_true.1 h1 _ hQ
  rw [List.take_append_drop] at h2
  exact h2
theorem rul6 : ∀ E : List Bool, E.length = 6 → soOk 6 (readT (rS (fun i => E.getD i false) 6)) = true := fun E hE => by
  have h : (allB 2).all (fun P => piece P 4 6) = true := by
    rw [show allB 2 = [[true, true], [false, true], [true, false], [false, false]] from rfl]
    simp only [List.all_cons, List.all_nil, r6_tt, r6_ft, r6_tf, r6_ff, Bool.and_true]
  have hP : E.take 2 ∈ allB 2 := by have := mem_allB (E.take 2); rwa [List.length_take, hE] at this
  have hQ : E.drop 2 ∈ allB 4 := by have := mem_allB (E.drop 2); rwa [List.length_drop, hE] at this
  have h1 := List.all_eq_true.1 h _ hP
  unfold piece at h1
  have h2 := List.all_eq_true.1 h1 _ hQ
  rw [List.take_append_drop] at h2
  exact h2
theorem rul7 : ∀ E : List Bool, E.length = 7 → soOk 7 (readT (rS (fun i => E.getD i false) 7)) = true := fun E hE => by
  have h : (allB 3).all (fun P => piece P 4 7) = true := by
    rw [show allB 3 = [[true, true, true], [false, true, true], [true, false, true], [false, false, true], [true, true, false], [false, true, false], [true, false, false], [false, false, false]] from rfl]
    simp only [List.all_cons, List.all_nil, r7_ttt, r7_ftt, r7_tft, r7_fft, r7_ttf, r7_ftf, r7_tff, r7_fff, Bool.and_true]
  have hP : E.take 3 ∈ allB 3 := by have := mem_allB (E.take 3); rwa [List.length_take, hE] at this
  have hQ : E.drop 3 ∈ allB 4 := by have := mem_allB (E.drop 3); rwa [List.length_drop, hE] at this
  have h1 := List.all_eq_true.1 h _ hP
  unfold piece at h1
  have h2 := List.all_eq_true.1 h1 _ hQ
  rw [List.take_append_drop] at h2
  exact h2
theorem rul8 : ∀ E : List Bool, E.length = 8 → soOk 8 (readT (rS (fun i => E.getD i false) 8)) = true := fun E hE => by
  have h : (allB 4).all (fun P => piece P 4 8) = true := by
    rw [show allB 4 = [[true, true, true, true], [false, true, true, true], [true, false, true, true], [false, false, true, true], [true, true, false, true], [false, true, false, true], [true, false, false, true], [false, false, false, true], [true, true, true, false], [false, true, true, false], [true, false, true, false], [false, false, true, false], [true, true, false, false], [false, true, false, false], [true, false, false, false], [false, false, false, false]] from rfl]
    simp only [List.all_cons, List.all_nil, r8_tttt, r8_fttt, r8_tftt, r8_fftt, r8_ttft, r8_ftft, r8_tfft, r8_ffft, r8_tttf, r8_fttf, r8_tftf, r8_fftf, r8_ttff, r8_ftff, r8_tfff, r8_ffff, Bool.and_true]
  have hP : E.take 4 ∈ allB 4 := by have := mem_allB (E.take 4); rwa [List.length_take, hE] at this
  have hQ : E.drop 4 ∈ allB 4 := by have := mem_allB (E.drop 4); rwa [List.length_drop, hE] at this
  have h1 := List.all_eq_true.1 h _ hP
  unfold piece at h1
  have h2 := List.all_eq_true.1 h1 _ hQ
  rw [List.take_append_drop] at h2
  exact h2
theorem rul_any (f : Nat → Bool) (n : Nat) (h1 : 1 ≤ n) (h8 : n ≤ 8) : soOk n (readT (rS f n)) = true := by
  have e : rS f n = rS (fun i => ((List.range n).map f).getD i false) n := rS_congr n (fun i hi => by simp [List.getD_eq_getElem?_getD, List.getElem?_map, List.getElem?_range hi])
  rw [e]
  have hl : ((List.range n).map f).length = n := by simp
  generalize (List.range n).map f = E at hl ⊢
  match n, h1, h8 with
  | 1, _, _ => exact rul1 E hl
  | 2, _, _ => exact rul2 E hl
  | 3, _, _ => exact rul3 E hl
  | 4, _, _ => exact rul4 E hl
  | 5, _, _ => exact rul5 E hl
  | 6, _, _ => exact rul6 E hl
  | 7, _, _ => exact rul7 E hl
  | 8, _, _ => exact rul8 E hl
  | n + 9, _, h => exact absurd h (by omega)

end Go.Proofs.YtnoppoifepbchaaDoor
