/- The parts of an action are the symbols that stand ahead of it, and no others. -/
import Derived.Test.YtbampnmobbgbaaaDoorSubW
import Derived.Test.YtbampnmobbgbaaaDoorSubA
import Derived.Test.YtbampnmobbgbaaaDoorSubB
import Derived.Test.YtbampnmobbgbaaaDoorSubC
import Derived.Test.YtbampnmobbgbaaaDoorSubD
import Derived.Test.YtbampnmobbgbaaaDoorWithin
import Derived.Outline
import Derived.Deep.DeepCutAuto
import Derived.Deep.Cut
namespace Go.Proofs.YtbampnmobbgbaaaDoor
open Go.RowKit
set_option linter.unusedVariables false
set_option linter.unusedSimpArgs false

theorem low6 (f : Nat → Bool) (h1 : rowB f [0, 1, 2, 3, 4, 5] = true) (h2 : rowB f [6, 7, 8, 9, 10, 11] = true) (i : Nat) (hi : i < 12) : f i = true := by
  rcases Nat.lt_or_ge i 6 with h | h
  · exact rowB_at f _ h1 i (by match i, h with | 0, _ => simp | 1, _ => simp | 2, _ => simp | 3, _ => simp | 4, _ => simp | 5, _ => simp)
  · exact rowB_at f _ h2 i (by
      obtain ⟨k, rfl⟩ : ∃ k, i = 6 + k := ⟨i - 6, by omega⟩
      match k, (show k < 6 by omega) with | 0, _ => simp | 1, _ => simp | 2, _ => simp | 3, _ => simp | 4, _ => simp | 5, _ => simp)
theorem low4 (f : Nat → Bool) (h1 : rowB f [0, 1, 2, 3] = true) (h2 : rowB f [4, 5, 6, 7] = true) (h3 : rowB f [8, 9, 10, 11] = true) (i : Nat) (hi : i < 12) : f i = true := by
  rcases Nat.lt_or_ge i 4 with h | h
  · exact rowB_at f _ h1 i (by match i, h with | 0, _ => simp | 1, _ => simp | 2, _ => simp | 3, _ => simp)
  · rcases Nat.lt_or_ge i 8 with h4 | h4
    · exact rowB_at f _ h2 i (by
        obtain ⟨k, rfl⟩ : ∃ k, i = 4 + k := ⟨i - 4, by omega⟩
        match k, (show k < 4 by omega) with | 0, _ => simp | 1, _ => simp | 2, _ => simp | 3, _ => simp)
    · exact rowB_at f _ h3 i (by
        obtain ⟨k, rfl⟩ : ∃ k, i = 8 + k := ⟨i - 8, by omega⟩
        match k, (show k < 4 by omega) with | 0, _ => simp | 1, _ => simp | 2, _ => simp | 3, _ => simp)
theorem sub_all (i j : Nat) (hi : i < 12) (hj : j < 6) : subOk i j = true := by
  match j, hj with
  | 0, _ => exact low6 (fun i => subOk i 0) sub_0a sub_0b i hi
  | 1, _ => exact low6 (fun i => subOk i 1) sub_1a sub_1b i hi
  | 2, _ => exact low6 (fun i => subOk i 2) sub_2a sub_2b i hi
  | 3, _ => exact low6 (fun i => subOk i 3) sub_3a sub_3b i hi
  | 4, _ => exact low4 (fun i => subOk i 4) sub_4a sub_4b sub_4c i hi
  | 5, _ => exact low4 (fun i => subOk i 5) sub_5a sub_5b sub_5c i hi

theorem bodyPost_imp {P : Program} {fn : Func} {R R' : Ending → World → Prop} (h : ∀ e w, R e w → R' e w) {e : Exit} {a : Act} {w : World} (hb : bodyPost P fn R e a w) : bodyPost P fn R' e a w := by
  unfold bodyPost at hb ⊢
  cases e <;> first | exact hb | (obtain ⟨h5, u, h6, h7⟩ := hb; exact ⟨h5, u, h6, h _ _ h7⟩) | (obtain ⟨h5, h7⟩ := hb; exact ⟨h5, h _ _ h7⟩) | exact h _ _ hb
set_option maxRecDepth 100000 in
set_option maxHeartbeats 4000000 in
theorem substRange_any (n ahead : Int) {w : World} (hn : (Lit.int .i64 n).wf = true) (ha : (Lit.int .i64 ahead).wf = true) (hE : Env w) :
    Calls Tryd.prog 4 #[.int .i64 n, .int .i64 ahead] w fun e w' => e = .returned (.bool true) ∧ Below w.heap.size w w' := by
  have HW := Lib.hid (wakes27_any w hE)
  have HE := Lib.hid hE
  have HN : Hid (∀ W : World, Calls Tryd.prog 13 #[.int .i64 n, .int .i64 12] W fun e w' => e = .returned (.int .i64 (n % 12)) ∧ W = w') := Lib.hid (fun W => within_any n 12 W hn (by omega) (by omega))
  have HA : Hid (∀ W : World, Calls Tryd.prog 13 #[.int .i64 ahead, .int .i64 6] W fun e w' => e = .returned (.int .i64 (ahead % 6)) ∧ W = w') := Lib.hid (fun W => within_any ahead 6 W ha (by omega) (by omega))
  obtain ⟨i, hi, ei⟩ : ∃ i : Nat, i < 12 ∧ n % 12 = Int.ofNat i := ⟨(n % 12).toNat, by omega, (Int.toNat_of_nonneg (by omega)).symm⟩
  obtain ⟨j, hj, ej⟩ : ∃ j : Nat, j < 6 ∧ ahead % 6 = Int.ofNat j := ⟨(ahead % 6).toNat, by omega, (Int.toNat_of_nonneg (by omega)).symm⟩
  rw [ei] at HN
  rw [ej] at HA
  have hrun := sub_all i j hi hj
  have HI : Hid (∃ z, z = Int.ofNat i) := Lib.hid ⟨_, rfl⟩
  have HJ : Hid (∃ z, z = Int.ofNat j) := Lib.hid ⟨_, rfl⟩
  obtain ⟨zi, hzi⟩ := HI.out
  obtain ⟨zj, hzj⟩ := HJ.out
  rw [← hzi] at HN
  rw [← hzj] at HA
  have hrun2 : okT (sufS Tryd.prog XE 100000 Tryd.f4 subC (slotS [(0, .int .i64 zi), (1, .int .i64 zj)]) Hp.none) = true := by rw [hzi, hzj]; exact hrun
  have HRUN := Lib.hid hrun2
  clear hrun hrun2 hzi hzj HI HJ ei ej hi hj hn ha hE
  go_enter Tryd.func4, Tryd.ntmps4
  go_upto_region 4 with (first
    | (go_at_call 12; refine HW.out.mono ?_; rintro e w1 ⟨rfl, hb1⟩; have hE1 := Lib.hid (HE.out.below hb1))
    | (go_at_call 13; (with_reducible refine (HN.out _).mono ?_); rintro e w8 ⟨rfl, rfl⟩)
    | (go_at_call 13; (with_reducible refine (HA.out _).mono ?_); rintro e w8 ⟨rfl, rfl⟩))
  refine suffix_env (w := w1) hE1.out (fn := Tryd.f4) (n := 99999) (l := [(0, .int .i64 zi), (1, .int .i64 zj)]) ?hrun ?hok (by decide) rfl rfl ?hl (by assumption) ?hQ
  case hrun => exact (congrArg (fun c => okT (sufS Tryd.prog XE 100000 Tryd.f4 c (slotS [(0, .int .i64 zi), (1, .int .i64 zj)]) Hp.none)) (show _ = subC by kernel_rfl)).trans HRUN.out
  case hok => kernel_rfl
  case hl =>
    intro p hp
    rcases List.mem_cons.1 hp with rfl | hp
    · exact ⟨by show (0 : Nat) < 1000; omega, rfl, rfl⟩
    · rcases List.mem_cons.1 hp with rfl | hp
      · exact ⟨by show (1 : Nat) < 1000; omega, rfl, rfl⟩
      · cases hp
  case hQ =>
    intro e a' w' hb
    exact bodyPost_imp (fun e w' ⟨h1, h2⟩ => ⟨h1, hb1.trans (h2.mono hb1.size)⟩) hb
end Go.Proofs.YtbampnmobbgbaaaDoor
