/- RowsCodes returns true. -/
import Derived.Test.YthhhpaodgmhiiaaRowsWakes
import Derived.Test.YthhhpaodgmhiiaaRows1
namespace Go.Proofs.Ythhhpaodgmhiiaa
open Go.RowKit
set_option linter.unusedVariables false

set_option maxRecDepth 100000 in
theorem refAct_any (n : Int) (w : World) (hn : (Lit.int .i64 n).wf = true) :
    Calls Try.prog 10 #[.int .i64 n] w fun e w' => (∃ k m, e = .returned (.agg #[.int .i64 k, .int .i64 m]) ∧ ActIs n k m) ∧ Below w.heap.size w w' := by
  have hw : -9223372036854775808 ≤ n ∧ n ≤ 9223372036854775807 := by simpa [Lit.wf, IntKind.min, IntKind.max, IntKind.signed, IntKind.bits] using hn
  clear hn
  go_enter Try.func10, Try.ntmps10
  go_wp2_with fail
  all_goals
    refine bodyPost_ret (v := .agg #[_, _]) (results_cell_row rfl _ _ w.heap.size 23 #[_, _] (0, 0) _ rfl (heap_alloc_new w _) Try.underlying23 rfl actInfo) rfl ⟨⟨_, _, rfl, ?_⟩, (Below.refl _ w).alloc (Nat.le_refl _) _⟩
    try simp only [beq_iff_eq, beq_eq_false_iff_ne] at *
    unfold ActIs
    omega

set_option maxRecDepth 100000 in
theorem refCode_any (k n : Int) (w : World) (hk : (Lit.int .i64 k).wf = true) (hn : (Lit.int .i64 n).wf = true) :
    Calls Try.prog 8 #[.agg #[.int .i64 k, .int .i64 n]] w fun e w' => (∃ c, e = .returned (.int .i64 c) ∧ CodeIs k n c) ∧ Below w.heap.size w w' := by
  have hw : -9223372036854775808 ≤ n ∧ n ≤ 9223372036854775807 := by simpa [Lit.wf, IntKind.min, IntKind.max, IntKind.signed, IntKind.bits] using hn
  have hw2 : -9223372036854775808 ≤ k ∧ k ≤ 9223372036854775807 := by simpa [Lit.wf, IntKind.min, IntKind.max, IntKind.signed, IntKind.bits] using hk
  clear hn hk
  go_enter Try.func8, Try.ntmps8
  go_wp2_with fail
  all_goals
    go_ret
    refine ⟨⟨_, rfl, ?_⟩, (Below.refl _ w).alloc (Nat.le_refl _) _⟩
    try simp only [beq_iff_eq, beq_eq_false_iff_ne] at *
    unfold CodeIs
    omega

/-- two acts that lie in a world -/
structure Rws (w0 : World) (A B : Nat) (a0 a1 b0 b1 : Int) (W : World) : Prop where
  a : W.heap[A]? = some (.cells #[.int .i64 a0, .int .i64 a1] 23 (0, 0))
  b : W.heap[B]? = some (.cells #[.int .i64 b0, .int .i64 b1] 23 (0, 0))
  be : Below w0.heap.size w0 W
theorem Rws.step {w0 : World} {A B : Nat} {a0 a1 b0 b1 : Int} {W W' : World} (h : Rws w0 A B a0 a1 b0 b1 W) (hb : Below W.heap.size W W') : Rws w0 A B a0 a1 b0 b1 W' :=
  ⟨(hb.block _ (Array.getElem?_eq_some_iff.1 h.a).1).trans h.a, (hb.block _ (Array.getElem?_eq_some_iff.1 h.b).1).trans h.b, h.be.trans (hb.mono h.be.size)⟩
def Cells4 (A B : Nat) (a0 a1 b0 b1 : Int) (W : World) : Prop := W.cell? ⟨A, 0, none⟩ = some (.int .i64 a0) ∧ W.cell? ⟨A, 1, none⟩ = some (.int .i64 a1) ∧ W.cell? ⟨B, 0, none⟩ = some (.int .i64 b0) ∧ W.cell? ⟨B, 1, none⟩ = some (.int .i64 b1)
theorem Rws.cells {w0 : World} {A B : Nat} {a0 a1 b0 b1 : Int} {W : World} (h : Rws w0 A B a0 a1 b0 b1 W) : Cells4 A B a0 a1 b0 b1 W :=
  ⟨by rw [cell_of_row _ _ _ _ _ _ h.a]; rfl, by rw [cell_of_row _ _ _ _ _ _ h.a]; rfl, by rw [cell_of_row _ _ _ _ _ _ h.b]; rfl, by rw [cell_of_row _ _ _ _ _ _ h.b]; rfl⟩
theorem CodeIs.unique {k n c d : Int} (h : CodeIs k n c) (g : CodeIs k n d) : c = d := by unfold CodeIs at h g; omega
theorem ActIs.unique {n k m k' m' : Int} (h : ActIs n k m) (g : ActIs n k' m') : k = k' ∧ m = m' := by unfold ActIs at h g; omega
theorem code_ex (k n : Int) : ∃ c, CodeIs k n c := by
  unfold CodeIs
  by_cases h1 : k = 1 ∧ 0 ≤ n ∧ n ≤ 19999
  · exact ⟨n + 1, by omega⟩
  · by_cases h2 : k = 2 ∧ 1 ≤ n ∧ n ≤ 19999
    · exact ⟨-n, by omega⟩
    · by_cases h3 : k = 3 ∧ n = 0
      · exact ⟨20001, by omega⟩
      · by_cases h4 : k = 4 ∧ n = 0
        · exact ⟨20002, by omega⟩
        · exact ⟨0, by omega⟩
theorem act_ex (n : Int) : ∃ k m, ActIs n k m := by
  unfold ActIs
  by_cases h1 : 1 ≤ n ∧ n ≤ 20000
  · exact ⟨1, n - 1, by omega⟩
  · by_cases h2 : n ≤ -1 ∧ -19999 ≤ n
    · exact ⟨2, -n, by omega⟩
    · by_cases h3 : n = 20001
      · exact ⟨3, 0, by omega⟩
      · by_cases h4 : n = 20002
        · exact ⟨4, 0, by omega⟩
        · exact ⟨0, 0, by omega⟩

theorem put_at3 (a : Act) (t : Tmp) (v : Value) (h : t < a.tmps.size) : (a.put (some t) v).tmps[t]?.getD undef = v := by
  show (a.tmps.setIfInBounds t v)[t]?.getD undef = v
  simp [h]

set_option maxHeartbeats 40000000 in
set_option maxRecDepth 100000 in
theorem rowsCodes_any (a0 a1 n k : Int) (w : World) (h0 : (Lit.int .i64 a0).wf = true) (h1 : (Lit.int .i64 a1).wf = true) (hn : (Lit.int .i64 n).wf = true) (hk : (Lit.int .i64 k).wf = true) :
    Calls Try.prog 3 #[.agg #[.int .i64 a0, .int .i64 a1], .int .i64 n, .int .i64 k] w fun e w' => e = .returned (.bool true) ∧ Below w.heap.size w w' := by
  have hz : 0 ≤ k % 40100 ∧ k % 40100 < 40100 := ⟨Int.emod_nonneg _ (by omega), Int.emod_lt_of_pos _ (by omega)⟩
  have HW0 : ∀ W, Calls Try.prog 6 #[.int .i64 k, .int .i64 40100] W fun e w' => e = .returned (.int .i64 (k % 40100)) ∧ W = w' := fun W => within_any k 40100 W hk (by omega) (by omega)
  have HW := Lib.hid HW0
  clear HW0
  generalize k % 40100 = z at hz HW
  have hx : 0 ≤ a0 % 6 ∧ a0 % 6 < 6 := ⟨Int.emod_nonneg _ (by omega), Int.emod_lt_of_pos _ (by omega)⟩
  have HX0 : ∀ W, Calls Try.prog 6 #[.int .i64 a0, .int .i64 6] W fun e w' => e = .returned (.int .i64 (a0 % 6)) ∧ W = w' := fun W => within_any a0 6 W h0 (by omega) (by omega)
  have HX := Lib.hid HX0
  clear HX0
  generalize a0 % 6 = x at hx HX
  go_enter Try.func3, Try.ntmps3
  go_wp2_with fail
  refine (rowsWakes_any _).mono ?_
  rintro e w1 ⟨rfl, hb1⟩
  have hA1 : w1.heap[w.heap.size]? = some (.cells #[.int .i64 a0, .int .i64 a1] 23 (0, 0)) := by
    rw [hb1.block _ (by simp)]; exact heap_alloc_new w _
  have hbe1 : Below w.heap.size w w1 := ((Below.refl _ w).alloc (Nat.le_refl _) _).trans (hb1.mono (by simp))
  have hws : w.heap.size < w1.heap.size := (Array.getElem?_eq_some_iff.1 hA1).1
  have q0 : w1.cell? ⟨w.heap.size, 0, none⟩ = some (.int .i64 a0) := by rw [cell_of_row _ _ _ _ _ _ hA1]; rfl
  clear hb1
  go_wp2_with fail
  refine (HW.out _).mono ?_
  rintro e w2 ⟨rfl, rfl⟩
  go_wp2_with fail
  refine (HX.out _).mono ?_
  rintro e w2 ⟨rfl, rfl⟩
  go_wp2_with fail
  have HR0 : Rws w w.heap.size w1.heap.size a0 a1 x (z - 20050) (w1.alloc (.cells #[.int .i64 x, .int .i64 (z - 20050)] 23)) := ⟨(heap_alloc_old w1 _ hws).trans hA1, heap_alloc_new w1 _, hbe1.alloc hbe1.size _⟩
  have hx0 : (Lit.int .i64 x).wf = true := by
    have : -9223372036854775808 ≤ x ∧ x ≤ 9223372036854775807 := by omega
    simpa [Lit.wf, IntKind.min, IntKind.max, IntKind.signed, IntKind.bits] using this
  have hz0 : (Lit.int .i64 (z - 20050)).wf = true := by
    have : -9223372036854775808 ≤ z - 20050 ∧ z - 20050 ≤ 9223372036854775807 := by omega
    simpa [Lit.wf, IntKind.min, IntKind.max, IntKind.signed, IntKind.bits] using this
  generalize (w1.alloc (.cells #[.int .i64 x, .int .i64 (z - 20050)] 23)) = w3 at HR0 ⊢
  generalize w1.heap.size = B at HR0 ⊢
  generalize z - 20050 = y at HR0 hz0 ⊢
  obtain ⟨cA, hcA⟩ := code_ex a0 a1
  obtain ⟨cB, hcB⟩ := code_ex x y
  obtain ⟨k1, m1, hk1⟩ := act_ex n
  obtain ⟨k2, m2, hk2⟩ := act_ex y
  have C1 : Hid (∀ W, Rws w w.heap.size B a0 a1 x y W → Calls Try.prog 7 #[.agg #[.int .i64 a0, .int .i64 a1]] W fun e W' => e = .returned (.int .i64 cA) ∧ Rws w w.heap.size B a0 a1 x y W' ∧ Cells4 w.heap.size B a0 a1 x y W') := Lib.hid (fun W hR => (code_any a0 a1 W h0 h1).mono (by rintro e W' ⟨⟨c, rfl, hc⟩, hb⟩; exact ⟨by rw [hc.unique hcA], hR.step hb, (hR.step hb).cells⟩))
  have C2 : Hid (∀ W, Rws w w.heap.size B a0 a1 x y W → Calls Try.prog 8 #[.agg #[.int .i64 a0, .int .i64 a1]] W fun e W' => e = .returned (.int .i64 cA) ∧ Rws w w.heap.size B a0 a1 x y W' ∧ Cells4 w.heap.size B a0 a1 x y W') := Lib.hid (fun W hR => (refCode_any a0 a1 W h0 h1).mono (by rintro e W' ⟨⟨c, rfl, hc⟩, hb⟩; exact ⟨by rw [hc.unique hcA], hR.step hb, (hR.step hb).cells⟩))
  have C3 : Hid (∀ W, Rws w w.heap.size B a0 a1 x y W → Calls Try.prog 7 #[.agg #[.int .i64 x, .int .i64 y]] W fun e W' => e = .returned (.int .i64 cB) ∧ Rws w w.heap.size B a0 a1 x y W' ∧ Cells4 w.heap.size B a0 a1 x y W') := Lib.hid (fun W hR => (code_any x y W hx0 hz0).mono (by rintro e W' ⟨⟨c, rfl, hc⟩, hb⟩; exact ⟨by rw [hc.unique hcB], hR.step hb, (hR.step hb).cells⟩))
  have C4 : Hid (∀ W, Rws w w.heap.size B a0 a1 x y W → Calls Try.prog 8 #[.agg #[.int .i64 x, .int .i64 y]] W fun e W' => e = .returned (.int .i64 cB) ∧ Rws w w.heap.size B a0 a1 x y W' ∧ Cells4 w.heap.size B a0 a1 x y W') := Lib.hid (fun W hR => (refCode_any x y W hx0 hz0).mono (by rintro e W' ⟨⟨c, rfl, hc⟩, hb⟩; exact ⟨by rw [hc.unique hcB], hR.step hb, (hR.step hb).cells⟩))
  have D1 : Hid (∀ W, Rws w w.heap.size B a0 a1 x y W → Calls Try.prog 9 #[.int .i64 n] W fun e W' => e = .returned (.agg #[.int .i64 k1, .int .i64 m1]) ∧ Rws w w.heap.size B a0 a1 x y W' ∧ Cells4 w.heap.size B a0 a1 x y W') := Lib.hid (fun W hR => (act_any n W hn).mono (by rintro e W' ⟨⟨k, m, rfl, hc⟩, hb⟩; exact ⟨by rw [(hc.unique hk1).1, (hc.unique hk1).2], hR.step hb, (hR.step hb).cells⟩))
  have D2 : Hid (∀ W, Rws w w.heap.size B a0 a1 x y W → Calls Try.prog 10 #[.int .i64 n] W fun e W' => e = .returned (.agg #[.int .i64 k1, .int .i64 m1]) ∧ Rws w w.heap.size B a0 a1 x y W' ∧ Cells4 w.heap.size B a0 a1 x y W') := Lib.hid (fun W hR => (refAct_any n W hn).mono (by rintro e W' ⟨⟨k, m, rfl, hc⟩, hb⟩; exact ⟨by rw [(hc.unique hk1).1, (hc.unique hk1).2], hR.step hb, (hR.step hb).cells⟩))
  have D3 : Hid (∀ W, Rws w w.heap.size B a0 a1 x y W → Calls Try.prog 9 #[.int .i64 y] W fun e W' => e = .returned (.agg #[.int .i64 k2, .int .i64 m2]) ∧ Rws w w.heap.size B a0 a1 x y W' ∧ Cells4 w.heap.size B a0 a1 x y W') := Lib.hid (fun W hR => (act_any y W hz0).mono (by rintro e W' ⟨⟨k, m, rfl, hc⟩, hb⟩; exact ⟨by rw [(hc.unique hk2).1, (hc.unique hk2).2], hR.step hb, (hR.step hb).cells⟩))
  have D4 : Hid (∀ W, Rws w w.heap.size B a0 a1 x y W → Calls Try.prog 10 #[.int .i64 y] W fun e W' => e = .returned (.agg #[.int .i64 k2, .int .i64 m2]) ∧ Rws w w.heap.size B a0 a1 x y W' ∧ Cells4 w.heap.size B a0 a1 x y W') := Lib.hid (fun W hR => (refAct_any y W hz0).mono (by rintro e W' ⟨⟨k, m, rfl, hc⟩, hb⟩; exact ⟨by rw [(hc.unique hk2).1, (hc.unique hk2).2], hR.step hb, (hR.step hb).cells⟩))
  clear hcA hcB hk1 hk2 hx0 hz0 h0 h1 hn hk hA1 q0 hx hz HX HW hbe1
  have HR1 : Rws w w.heap.size B a0 a1 x y w3.drew := ⟨HR0.a, HR0.b, HR0.be.drew⟩
  obtain ⟨r0, r1, r2, r3⟩ := HR1.cells
  obtain ⟨s0, s1, s2, s3⟩ := HR0.cells
  go_region_with (first
    | (go_at_call 7; first
        | ((with_reducible refine (C1.out _ (by assumption)).mono ?_); rintro e W4 ⟨rfl, R4, p0, p1, p2, p3⟩)
        | ((with_reducible refine (C3.out _ (by assumption)).mono ?_); rintro e W4 ⟨rfl, R4, p0, p1, p2, p3⟩))
    | (go_at_call 8; first
        | ((with_reducible refine (C2.out _ (by assumption)).mono ?_); rintro e W4 ⟨rfl, R4, p0, p1, p2, p3⟩)
        | ((with_reducible refine (C4.out _ (by assumption)).mono ?_); rintro e W4 ⟨rfl, R4, p0, p1, p2, p3⟩))
    | (go_at_call 9; first
        | ((with_reducible refine (D1.out _ (by assumption)).mono ?_); rintro e W4 ⟨rfl, R4, p0, p1, p2, p3⟩)
        | ((with_reducible refine (D3.out _ (by assumption)).mono ?_); rintro e W4 ⟨rfl, R4, p0, p1, p2, p3⟩))
    | (go_at_call 10; first
        | ((with_reducible refine (D2.out _ (by assumption)).mono ?_); rintro e W4 ⟨rfl, R4, p0, p1, p2, p3⟩)
        | ((with_reducible refine (D4.out _ (by assumption)).mono ?_); rintro e W4 ⟨rfl, R4, p0, p1, p2, p3⟩)))
  all_goals
    go_wp2_with (fail)
    go_ret
    refine ⟨by simp; exact put_at3 _ 6 _ (by simp only [put_size]; simp), Rws.be (by assumption)⟩
end Go.Proofs.Ythhhpaodgmhiiaa
