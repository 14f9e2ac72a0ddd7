/- RowsTurns returns true. -/
import Derived.Test.YtagnfgigdcplpaaRowsWakes
import Derived.Test.YtagnfgigdcplpaaRows1
namespace Go.Proofs.Ytagnfgigdcplpaa
open Go.RowKit
set_option linter.unusedVariables false

theorem wpList_load_row_g {P : Program} {ops : Array Oper} {rest : List Oper} {o : Oper} {a : Act} {w : World} {Q : Exit → Act → World → Prop} (hw : Region.wanted o (yielded ops a.tmps) = true) (ty : TypeId) (x : Operand) (ho : o.op = .load ty x)
    (g : Nat) (hx : a.eval x = .pointer (some ⟨g, 0, none⟩)) (t : TypeId) (cs : Array Value) (fr : Nat × Nat) (d : TypeDesc) (hg : w.heap[g]? = some (.cells cs t fr))
    (hu : P.underlying ty = some d) (hd : (match d with | .struct _ | .array _ _ => true | _ => false) = true) (hi : (P.info? ty).map (·.size) = some cs.size)
    (h : wpList P ops Q rest (a.put o.dst (.agg cs)) w) : wpList P ops Q (o :: rest) a w :=
  wpList_step fun K hK => by rw [if_pos hw]; exact wp_load_row ty x ho g hx t cs fr d hg hu hd hi (hK _ _ h)

theorem put_at (a : Act) (t : Tmp) (v : Value) (h : t < a.tmps.size) : (a.put (some t) v).tmps[t]?.getD undef = v := by
  show (a.tmps.setIfInBounds t v)[t]?.getD undef = v
  simp [h]

set_option maxHeartbeats 2000000 in
set_option maxRecDepth 100000 in
theorem rowsTurns_any (a0 a1 n k : Int) (w : World) (h0 : (Lit.int .i64 a0).wf = true) (h1 : (Lit.int .i64 a1).wf = true) (hn : (Lit.int .i64 n).wf = true) (hk : (Lit.int .i64 k).wf = true) :
    Calls Try.prog 4 #[.agg #[.int .i64 a0, .int .i64 a1], .int .i64 n, .int .i64 k] w fun e w' => e = .returned (.bool true) ∧ Below w.heap.size w w' := by
  have hw : -9223372036854775808 ≤ n ∧ n ≤ 9223372036854775807 := by simpa [Lit.wf, IntKind.min, IntKind.max, IntKind.signed, IntKind.bits] using hn
  have hz : 0 ≤ k % 40100 ∧ k % 40100 < 40100 := ⟨Int.emod_nonneg _ (by omega), Int.emod_lt_of_pos _ (by omega)⟩
  have HW0 : ∀ W, Calls Try.prog 6 #[.int .i64 k, .int .i64 40100] W fun e w' => e = .returned (.int .i64 (k % 40100)) ∧ W = w' := fun W => within_any k 40100 W hk (by omega) (by omega)
  have HW := Lib.hid HW0
  clear HW0
  generalize k % 40100 = z at hz HW
  go_enter Try.func4, Try.ntmps4
  go_wp2_with fail
  refine (rowsWakes_any _).mono ?_
  rintro e w1 ⟨rfl, hb1⟩
  have hA1 : w1.heap[w.heap.size]? = some (.cells #[.int .i64 a0, .int .i64 a1] 23 (0, 0)) := by
    rw [hb1.block _ (by simp)]; exact heap_alloc_new w _
  have hbe1 : Below w.heap.size w w1 := ((Below.refl _ w).alloc (Nat.le_refl _) _).trans (hb1.mono (by simp))
  clear hb1
  go_wp2_with fail
  refine (HW.out _).mono ?_
  rintro e w2 ⟨rfl, rfl⟩
  go_wp2_with fail
  have hA2 : (w1.alloc (.cells #[.int .i64 n, .int .i64 (z - 20050)] 3)).heap[w.heap.size]? = some (.cells #[.int .i64 a0, .int .i64 a1] 23 (0, 0)) := (heap_alloc_old w1 _ (Array.getElem?_eq_some_iff.1 hA1).1).trans hA1
  have hL2 : (w1.alloc (.cells #[.int .i64 n, .int .i64 (z - 20050)] 3)).heap[w1.heap.size]? = some (.cells #[.int .i64 n, .int .i64 (z - 20050)] 3 (0, 0)) := heap_alloc_new w1 _
  have hbe2 : Below w.heap.size w (w1.alloc (.cells #[.int .i64 n, .int .i64 (z - 20050)] 3)) := hbe1.alloc hbe1.size _
  have hs2 : (w1.alloc (.cells #[.int .i64 n, .int .i64 (z - 20050)] 3)).heap.size = w1.heap.size + 1 := by simp
  have hws : w.heap.size < w1.heap.size := (Array.getElem?_eq_some_iff.1 hA1).1
  generalize (w1.alloc (.cells #[.int .i64 n, .int .i64 (z - 20050)] 3)) = w3 at hA2 hL2 hbe2 hs2 ⊢
  go_loopw [8] (fun x wr => ∃ m : Nat, m ≤ 2 ∧ x = .int .i64 m ∧ Below w3.heap.size w3 wr) (fun x _ => (2 - intOf x).toNat)
  case atStart => exact ⟨0, by omega, rfl, Below.refl _ _⟩
  case round =>
    obtain ⟨m, hm, rfl, hb⟩ := hrel
    have hA3 : wr.heap[w.heap.size]? = some (.cells #[.int .i64 a0, .int .i64 a1] 23 (0, 0)) := by rw [hb.block _ (by omega)]; exact hA2
    have hL3 : wr.heap[w1.heap.size]? = some (.cells #[.int .i64 n, .int .i64 (z - 20050)] 3 (0, 0)) := by rw [hb.block _ (by omega)]; exact hL2
    have hs3 := hb.size
    by_cases hlt : m < 2
    · obtain ⟨y, hcf, hy⟩ : ∃ y, (∀ W : World, W.heap[w1.heap.size]? = some (.cells #[.int .i64 n, .int .i64 (z - 20050)] 3 (0, 0)) → W.cell? ⟨w1.heap.size, m, none⟩ = some (.int .i64 y)) ∧ (-9223372036854775808 ≤ y ∧ y ≤ 9223372036854775807) := by
        rcases (show m = 0 ∨ m = 1 by omega) with rfl | rfl
        · exact ⟨n, fun W hW => by rw [cell_of_row _ _ _ _ _ _ hW]; rfl, hw⟩
        · exact ⟨z - 20050, fun W hW => by rw [cell_of_row _ _ _ _ _ _ hW]; rfl, by omega⟩
      have hcl : w1.heap.size < wr.heap.size := by omega
      have hc := hcf wr hL3
      go_wp2_with (fail)
      refine (act_any y _ (by simpa [Lit.wf, IntKind.min, IntKind.max, IntKind.signed, IntKind.bits] using hy)).mono ?_
      rintro e w4 ⟨⟨k1, m1, rfl, hact⟩, hb4⟩
      have hs4 := hb4.size
      have hL4 : w4.heap[w1.heap.size]? = some (.cells #[.int .i64 n, .int .i64 (z - 20050)] 3 (0, 0)) := by rw [hb4.block _ hcl]; exact hL3
      have hcl4 : w1.heap.size < w4.heap.size := by omega
      have hb34 : Below w3.heap.size w3 w4 := hb.trans (hb4.mono hb.size)
      clear hc
      go_wp2_with (fail)
      have hk1 : (Lit.int .i64 k1).wf = true := by
        have : -9223372036854775808 ≤ k1 ∧ k1 ≤ 9223372036854775807 := by unfold ActIs at hact; omega
        simpa [Lit.wf, IntKind.min, IntKind.max, IntKind.signed, IntKind.bits] using this
      have hm1 : (Lit.int .i64 m1).wf = true := by
        have : -9223372036854775808 ≤ m1 ∧ m1 ≤ 9223372036854775807 := by unfold ActIs at hact; omega
        simpa [Lit.wf, IntKind.min, IntKind.max, IntKind.signed, IntKind.bits] using this
      refine (code_any k1 m1 _ hk1 hm1).mono ?_
      rintro e w5 ⟨⟨c, rfl, hcode⟩, hb5⟩
      have hB5 : w5.heap[w4.heap.size]? = some (.cells #[.int .i64 k1, .int .i64 m1] 23 (0, 0)) := by rw [hb5.block _ (by simp)]; exact heap_alloc_new w4 _
      have hL5 : w5.heap[w1.heap.size]? = some (.cells #[.int .i64 n, .int .i64 (z - 20050)] 3 (0, 0)) := by rw [hb5.block _ (by simp; omega), heap_alloc_old w4 _ hcl4]; exact hL4
      have hc5 := hcf w5 hL5
      have hb35 : Below w3.heap.size w3 w5 := (hb34.alloc hb34.size _).trans (hb5.mono (by simp; have := hb34.size; omega))
      have hcy : c = y ∨ (c ≠ y ∧ c = 0 ∧ k1 = 0 ∧ m1 = 0) := by unfold CodeIs at hcode; unfold ActIs at hact; omega
      clear hcode hact hk1 hm1 hcf hL3 hL4 hA3
      rcases hcy with rfl | ⟨hne, rfl, rfl, rfl⟩
      · go_wp2_with (refine wpList_load_row_g (by rfl) 23 _ rfl w4.heap.size rfl 23 #[.int .i64 k1, .int .i64 m1] (0, 0) _ hB5 Try.underlying23 rfl actInfo ?_)
        case roundEnd => exact ⟨⟨m + 1, by omega, by simp, hb35⟩, by simp [intOf]; omega⟩
      · go_wp2_with (refine wpList_load_row_g (by rfl) 23 _ rfl w4.heap.size rfl 23 #[.int .i64 0, .int .i64 0] (0, 0) _ hB5 Try.underlying23 rfl actInfo ?_)
        case roundEnd => exact ⟨⟨m + 1, by omega, by simp, hb35⟩, by simp [intOf]; omega⟩
    · go_wp2_with (refine wpList_load_row rfl 23 _ rfl w.heap.size rfl 23 #[.int .i64 a0, .int .i64 a1] (0, 0) _ hA3 Try.underlying23 rfl actInfo ?_)
      refine (code_any a0 a1 _ h0 h1).mono ?_
      rintro e w6 ⟨⟨c, rfl, hcode⟩, hb6⟩
      have hA6 : w6.heap[w.heap.size]? = some (.cells #[.int .i64 a0, .int .i64 a1] 23 (0, 0)) := by rw [hb6.block _ (by omega)]; exact hA3
      have hbe6 : Below w.heap.size w w6 := (hbe2.trans (hb.mono (by omega))).trans (hb6.mono (by omega))
      have hs6 := hb6.size
      have hcw : (Lit.int .i64 c).wf = true := by
        have : -9223372036854775808 ≤ c ∧ c ≤ 9223372036854775807 := by unfold CodeIs at hcode; omega
        simpa [Lit.wf, IntKind.min, IntKind.max, IntKind.signed, IntKind.bits] using this
      have HA : Hid (∀ W, Calls Try.prog 9 #[.int .i64 c] W fun e w' => (c ≠ 0 → e = .returned (.agg #[.int .i64 a0, .int .i64 a1])) ∧ Below W.heap.size W w') := Lib.hid (fun W => (act_any c W hcw).mono (by
        rintro e W' ⟨⟨k1, m1, rfl, hact⟩, hb7⟩
        refine ⟨fun hc => ?_, hb7⟩
        have : k1 = a0 ∧ m1 = a1 := by unfold CodeIs at hcode; unfold ActIs at hact; omega
        rw [this.1, this.2]))
      clear hcode hcw h0 h1 hn hk HW hA1 hA2 hL2 hA3 hL3 hb6 hb
      by_cases hc0 : c = 0
      · subst hc0
        go_wp2_with (fail)
        go_quiet (fail)
        go_wp2_with (fail)
        go_ret
        exact ⟨rfl, hbe6.os, hbe6.tape, hbe6.output, hbe6.size, hbe6.block⟩
      · go_wp2_with (fail)
        have hcb : (c == 0) = false := by simpa using hc0
        have hl : ∀ W : World, W.heap[w.heap.size]? = some (.cells #[.int .i64 a0, .int .i64 a1] 23 (0, 0)) → W.cell? ⟨w.heap.size, 0, none⟩ = some (.int .i64 a0) ∧ W.cell? ⟨w.heap.size, 1, none⟩ = some (.int .i64 a1) := fun W hW => ⟨by rw [cell_of_row _ _ _ _ _ _ hW]; rfl, by rw [cell_of_row _ _ _ _ _ _ hW]; rfl⟩
        obtain ⟨q0, q1⟩ := hl w6 hA6
        obtain ⟨r0, r1⟩ := hl w6.drew hA6
        have HL := Lib.hid hl
        clear hl
        go_region_with (first
          | (go_at_call 9; (refine (HA.out _).mono ?_); rintro e w7 ⟨he, hb7⟩; have e2 := he hc0; subst e2; obtain ⟨p0, p1⟩ := HL.out w7 ((hb7.block _ (show w.heap.size < w6.heap.size by omega)).trans hA6)))
        all_goals
          go_wp2_with (fail)
          go_ret
          refine ⟨by simp; exact put_at _ 6 _ (by simp only [put_size]; simp), ?_⟩
          first
            | exact hbe6.drew.trans (hb7.mono (show w.heap.size ≤ w6.heap.size by omega))
            | exact hbe6.trans (hb7.mono (show w.heap.size ≤ w6.heap.size by omega))
end Go.Proofs.Ytagnfgigdcplpaa
