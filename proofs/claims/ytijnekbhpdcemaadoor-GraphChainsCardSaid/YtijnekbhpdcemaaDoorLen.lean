/- How many numbers a set has; the lowest bit of a word. -/
import Derived.Test.YtijnekbhpdcemaaDoorBits3
import Derived.Test.YtijnekbhpdcemaaDoorOnes
import Derived.Shelf.Spec.TrailingZeros
import Derived.Outline
namespace Go.Proofs.YtijnekbhpdcemaaDoor
open Go.RowKit
set_option linter.unusedVariables false

/-- how many numbers the first k words have -/
def lenTo (ws : List Nat) : Nat → Nat
  | 0 => 0
  | k + 1 => lenTo ws k + pc (ws.getD k 0)
theorem pc_le (x : Nat) : pc x ≤ 64 := by
  unfold pc; exact Nat.le_trans List.countP_le_length (by simp)
theorem lenTo_le (ws : List Nat) (k : Nat) : lenTo ws k ≤ 64 * k := by
  induction k with
  | zero => simp [lenTo]
  | succ k ih => have := pc_le (ws.getD k 0); simp only [lenTo]; omega

theorem len_any (ws : List Nat) (w : World) (hws : ws.length = 16) (h64 : ∀ y ∈ ws, y < 2 ^ 64) :
    Calls Tryd.prog 19 #[.agg (setA ws)] w fun e w' => e = .returned (.int .i64 (lenTo ws 16)) ∧ Below w.heap.size w w' := by
  have hL := Lib.hid hws; have H64 := Lib.hid h64
  clear hws h64
  go_enter Tryd.func19, Tryd.ntmps19
  go_wp2_with (first | (refine wpList_load_row rfl 27 _ rfl w.heap.size rfl 29 (setA ws) (0, 0) _ (heap_alloc_new w (.cells (setA ws) 29)) Tryd.underlying27 rfl (arrInfo_of ws hL.out) ?_))
  go_loopw [3, 5, 8] (fun n x i wr => ∃ k : Nat, k ≤ 16 ∧ i = .int .i64 k ∧ n = .int .i64 (lenTo ws k) ∧ Below w.heap.size w wr) (fun _ _ i _ => 16 - (intOf i).toNat)
  case atStart => exact ⟨0, Nat.zero_le _, rfl, rfl, (Below.refl _ _).alloc (Nat.le_refl _) _⟩
  case round =>
    obtain ⟨k, hk, rfl, rfl, hb⟩ := hrel
    by_cases hlt : k < 16
    · have hkw : k < ws.length := by rw [hL.out]; exact hlt
      have hix := fun (W : World) => run_index_agg (P := Tryd.prog) W 27 26 .u64 16 (setA ws) k _ Tryd.underlying27 Tryd.underlying26 (by kernel_rfl) hlt (setA_get ws k hkw)
      have hu : ws.getD k 0 < 18446744073709551616 := by
        rw [List.getD_eq_getElem?_getD, List.getElem?_eq_getElem hkw]; exact H64.out _ (List.getElem_mem _)
      have hs : Hid (lenTo ws (k + 1) = lenTo ws k + pc (ws.getD k 0)) := Lib.hid rfl
      have hl1 := lenTo_le ws k
      have hl2 := pc_le (ws.getD k 0)
      generalize ws.getD k 0 = u at hix hu hs hl2
      generalize hg : lenTo ws k = c at hs hl1
      have HG := Lib.hid hg
      clear hkw hg
      generalize hq : pc u = q at hs hl2
      have HQ := Lib.hid hq
      clear hq
      go_wp2_with (fail)
      refine (ones_any u hu _).mono ?_
      rintro e w2 ⟨rfl, rfl⟩
      rw [HQ.out]
      go_wp2_with (fail)
      go_roundw
      case rel => exact ⟨k + 1, by omega, by go_num, by rw [hs.out]; go_num, hb⟩
      case measure => simp [intOf]; omega
    · obtain rfl : k = 16 := by omega
      go_wp2_with (fail)
      go_ret
      exact ⟨rfl, hb⟩

set_option maxHeartbeats 1000000 in
theorem tz_core (x k idx : Nat) (w : World) (hx0 : ((x : Int) == 0) = false)
    (key : IntKind.u64.wrap (bits BinOp.and IntKind.u64 (x : Int) (IntKind.u64.wrap (-(x : Int))) * 285870213051353865) / 288230376151711744 = (idx : Int))
    (hi : idx < 64) (hk : k < 64) (hcell : w.cell? ⟨0, idx, none⟩ = some (.int .u8 k)) :
    Calls Tryd.prog 41 #[.int .u64 x] w fun e w' => e = .returned (.int .i64 k) ∧ w = w' := by
  go_enter Tryd.func41, Tryd.ntmps41
  go_wp2_with (simp only [key])
  go_ret
  exact ⟨rfl, rfl⟩

theorem tz_any (x : Nat) (hx : x < 18446744073709551616) (hx0 : x ≠ 0) (w : World) (hT : TabAt 0 Lib.deBruijn64tab w) :
    Calls Tryd.prog 41 #[.int .u64 x] w fun e w' => e = .returned (.int .i64 (Lib.ctz 64 x)) ∧ w = w' := by
  obtain ⟨hlow, hk⟩ := Lib.lowest_bit 64 x hx0 hx
  obtain ⟨hi, htab⟩ := Lib.deBruijn64_at _ hk
  have hcell := hT _ hi
  rw [htab] at hcell
  exact tz_core x _ _ w (by simp; omega) (tz64_key x _ hx hx0 hlow) hi hk hcell

end Go.Proofs.YtijnekbhpdcemaaDoor
