/- strings.Builder's copyCheck and String at this program, as the small machine has them. -/
import Derived.Test.YtmfjpdlegaimlaaGreatDoorSh27
import Derived.Test.YtmfjpdlegaimlaaGreatDoorRun
import Derived.Test.YtmfjpdlegaimlaaGreatDoorChecked
import Derived.Lib.Builder
import Derived.Lib.UnsafeStr
import Derived.Laws.Externs
import Derived.Shelf.RegionOpenPlain
namespace Go.Proofs.YtmfjpdlegaimlaaGreatDoor
open Go.RowKit
set_option linter.unusedVariables false

theorem Tryz.sizeBuilder : (Tryz.prog.info? 100).map (·.size) = some 2 := by kernel_rfl
theorem lies_one {P : Program} {T : TypeId} {c s : Nat} (h0 : Nat.beq P.depth 0 = false) (hs : P.cellsOf T = s + 1) (hl : sameLayout P P.depth T T = true) (hc : 1 ≤ c) : liesAt P P.depth T c 0 T 1 = true := by
  have hr : ∀ D, rowAt P (sameLayout P P.depth · T) (D + 1) T c 0 1 = true := by
    intro D
    have h1 : decide (0 + 1 ≤ c) = true := by simpa using hc
    unfold rowAt
    simp only [hs, hl, Nat.zero_div, Nat.zero_mod, h1]
    simp
  have hq : ∀ D, P.depth = D + 1 → liesAt P (D + 1) T c 0 T 1 = true := by
    intro D hD
    unfold liesAt
    have h2 := hr D
    rw [← hD] at h2
    rw [h2]; rfl
  cases hd : P.depth with
  | zero => rw [hd] at h0; cases h0
  | succ D => exact hq D hd
theorem Tryz.depthOk : Nat.beq Tryz.prog.depth 0 = false := by kernel_rfl
theorem Tryz.cellsBuilder : Tryz.prog.cellsOf 100 = 1 + 1 := by kernel_rfl
theorem Tryz.sameBuilder : sameLayout Tryz.prog Tryz.prog.depth 100 100 = true := by kernel_rfl
theorem Tryz.cellsByte : Tryz.prog.cellsOf 5 = 1 := by kernel_rfl

set_option maxHeartbeats 1000000 in
set_option maxRecDepth 100000 in
theorem ck_used (b : Nat) (w : World) (h0 : w.cell? ⟨b, 0, none⟩ = some (.pointer (some ⟨b, 0, none⟩))) :
    Calls Tryz.prog 68 #[.pointer (some ⟨b, 0, none⟩)] w fun e w' => e = .returned (.tuple #[]) ∧ w' = w := by
  obtain ⟨j, hj, _⟩ := Option.map_eq_some_iff.1 Tryz.sizeBuilder
  go_enter Tryz.func68, Tryz.ntmps68
  go_wp2
  rw [Lib.run_neq_ptr_same w _ Tryz.underlying97 hj]
  go_wp2
  go_end0
  exact ⟨rfl, rfl⟩

set_option maxHeartbeats 1000000 in
set_option maxRecDepth 100000 in
theorem ck_fresh (b n : Nat) (w : World) (h0 : w.cell? ⟨b, 0, none⟩ = some (.pointer none)) (hsh : w.shape? b = some (100, n)) (hn : 2 ≤ n) (hfz : w.frozen? ⟨b, 0, none⟩ = false) :
    Calls Tryz.prog 68 #[.pointer (some ⟨b, 0, none⟩)] w fun e w' => e = .returned (.tuple #[]) ∧ w' = w.setCell ⟨b, 0, none⟩ (.pointer (some ⟨b, 0, none⟩)) := by
  obtain ⟨j, hj, hjs⟩ := Option.map_eq_some_iff.1 Tryz.sizeBuilder
  have hlies : liesAt Tryz.prog Tryz.prog.depth 100 (n / Tryz.prog.cellsOf 100) 0 100 1 = true := lies_one Tryz.depthOk Tryz.cellsBuilder Tryz.sameBuilder (by rw [Tryz.cellsBuilder]; omega)
  have hun := Lib.run_to_unsafe (P := Tryz.prog) w ⟨b, 0, none⟩ Tryz.underlying97 Tryz.underlying175 hj (by rw [hjs]; decide) hsh (show 0 < n by omega)
  have hfr := Lib.run_from_unsafe (P := Tryz.prog) w ⟨b, 0, none⟩ Tryz.underlying175 Tryz.underlying97 hj hsh hlies
  clear hlies hsh hn
  go_enter Tryz.func68, Tryz.ntmps68
  go_wp2
  rw [run_callFunc_extern Tryz.func97 (by kernel_rfl) (by kernel_rfl) (by kernel_rfl) (e := Extern.AbiNoEscape.same) (by kernel_rfl)]
  rw [Lib.run_noEscape]
  simp only [Result.andThen]
  rw [Oper.upon_value]
  go_wp2
  go_end0
  exact ⟨rfl, rfl⟩

theorem freeze_over (w : World) (g n : Nat) : Over0 w (w.freeze ⟨g, 0, none⟩ n) g := by
  unfold World.freeze
  split
  · exact ⟨rfl, rfl, rfl, rfl, fun _ _ => rfl⟩
  · exact ⟨rfl, rfl, rfl, by simp, fun i hi => by simp [Array.getElem?_modify, Ne.symm hi]⟩

set_option maxHeartbeats 2000000 in
set_option maxRecDepth 100000 in
theorem str_any (b g cap : Nat) (w : World) (cs cur : Array Value) (l : List UInt8) (hb : w.heap[b]? = some (.cells cs 100 (0, 0))) (hc1 : cs[1]? = some (.slice (some ⟨g, 0, none⟩) l.length cap)) (hg : w.heap[g]? = some (.cells cur 5 (0, 0)))
    (h0 : l ≠ []) (hle : l.length ≤ cap) (hcm : cap ≤ 9223372036854775807) (hcell : ∀ (j : Nat) (x : UInt8), l[j]? = some x → cur[j]? = some (.int .u8 x.toNat)) :
    Calls Tryz.prog 49 #[.pointer (some ⟨b, 0, none⟩)] w fun e w' => e = .returned (.string ⟨l.toArray⟩) ∧ Over0 w w' g := by
  have hl0 : l.length ≠ 0 := by simpa using h0
  have c1 : w.drew.cell? ⟨b, 1, none⟩ = some (.slice (some ⟨g, 0, none⟩) l.length cap) := by
    have : w.drew.heap[b]? = some (.cells cs 100 (0, 0)) := hb
    rw [Lib.cell_of_heap this]; simpa using hc1
  have hsz : l.length ≤ cur.size := by
    obtain ⟨x, hx⟩ : ∃ x, l[l.length - 1]? = some x := ⟨_, List.getElem?_eq_getElem (by omega)⟩
    have := (Array.getElem?_eq_some_iff.1 (hcell _ x hx)).1
    omega
  have hSD : (Builtin.unsafeSliceData_ #[98] 133 #[.slice (some ⟨g, 0, none⟩) l.length cap]).run Tryz.prog w.drew = .ok (.pointer (some ⟨g, 0, none⟩)) w.drew :=
    Lib.run_unsafeSliceData_row _ _ _ _ _ _ (by omega)
  have hg' : w.drew.heap[g]? = some (.cells cur 5 (0, 0)) := hg
  have hUS : (Builtin.unsafeString_ #[133, 3] 9 #[.pointer (some ⟨g, 0, none⟩), .int .i64 l.length]).run Tryz.prog w.drew = .ok (.string ⟨l.toArray⟩) (w.drew.freeze ⟨g, 0, none⟩ l.length) := by
    refine Lib.run_unsafeString_row w.drew 133 3 9 5 Tryz.underlying133 Tryz.cellsByte g cur.size (by simp [World.shape?, hg']) l h0 hsz (by omega) ?_
    intro j x hx
    rw [add_addr, Lib.cell_of_heap hg', Nat.zero_add]
    exact hcell j x hx
  have hfin := freeze_over w.drew g l.length
  have hfin2 : Over0 w (w.drew.freeze ⟨g, 0, none⟩ l.length) g := ⟨hfin.os, hfin.tape, hfin.output, hfin.size, hfin.old⟩
  clear hfin hle hcm hcell hsz
  have hmix := mixed
  go_enter Tryz.func49, Tryz.ntmps49
  go_wp2
  go_region_o
  all_goals (go_wp2; go_ret; exact ⟨rfl, hfin2⟩)

theorem bld_ok : BldOk Tryz.prog 100 5 68 49 :=
  ⟨fun b w cs h1 h2 h3 => ck_fresh b cs.size w (by rw [Lib.cell_of_heap h1]; exact h3) (by simp [World.shape?, h1]) h2 (Lib.frozen_of_heap h1 0),
   fun b w cs h1 h2 => ck_used b w (by rw [Lib.cell_of_heap h1]; exact h2),
   fun b g cap w cs cur l h1 h2 h3 h4 h5 h6 h7 => str_any b g cap w cs cur l h1 h2 h3 h4 h5 h6 h7⟩
end Go.Proofs.YtmfjpdlegaimlaaGreatDoor
