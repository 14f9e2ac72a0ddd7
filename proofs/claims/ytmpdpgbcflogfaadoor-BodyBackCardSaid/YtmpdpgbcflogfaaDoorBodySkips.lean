/- The walk of BodySkips. -/
import Derived.Test.YtmpdpgbcflogfaaDoorSkips
namespace Go.Proofs.YtmpdpgbcflogfaaDoor
open Go.RowKit
set_option linter.unusedVariables false

theorem gAt_cut (s : ByteArray) (a b j : Nat) (hb : b ≤ s.size) (h : a + j < b) : gAt (s.extract a b) j = gAt s (a + j) := by
  have hz : j < (s.extract a b).size := by rw [ByteArray.size_extract]; omega
  rw [← gAt_get _ j hz, ← gAt_get s (a + j) (by omega)]
  congr 1
  rw [ByteArray.getElem_extract]
theorem allGood_empty : AllGood ByteArray.empty := fun j hj => absurd hj (Nat.not_lt_zero _)
theorem allGood_snoc {t s : ByteArray} {k : Nat} (ht : AllGood t) (hk : k < s.size) (h : Good (gAt s k)) : AllGood (t ++ s.extract k (k + 1)) ∧ (t ++ s.extract k (k + 1)).size = t.size + 1 := by
  have hz : (s.extract k (k + 1)).size = 1 := by rw [ByteArray.size_extract]; omega
  have hz2 : (t ++ s.extract k (k + 1)).size = t.size + 1 := by rw [ByteArray.size_append, hz]
  refine ⟨fun j hj => ?_, hz2⟩
  by_cases hlt : j < t.size
  · rw [gAt_left _ _ _ hlt]; exact ht j hlt
  · rw [gAt_right _ _ j 0 (by omega)]
    have : gAt (s.extract k (k + 1)) 0 = gAt s k := by
      rw [gAt_cut s k (k + 1) 0 (by omega) (by omega)]; rfl
    rw [this]; exact h

theorem skips_any {wa wb : ByteArray} (h : (wa, wb) ∈ aroundL) {t : ByteArray} (ht : AllGood t) : ∃ a e, Skips (skipsS wa t wb).size (gAt (skipsS wa t wb)) a e := by
  unfold aroundL at h
  simp only [List.mem_cons, List.not_mem_nil, or_false, Prod.mk.injEq] at h
  rcases h with ⟨rfl, rfl⟩ | ⟨rfl, rfl⟩ | ⟨rfl, rfl⟩ | ⟨rfl, rfl⟩ | ⟨rfl, rfl⟩
  · exact skips_quote (.inl rfl) t ht
  · exact skips_quote (.inr rfl) t ht
  · exact skips_back t ht
  · exact skips_line t ht
  · exact skips_block t ht
theorem around_size {wa wb : ByteArray} (h : (wa, wb) ∈ aroundL) : wa.size ≤ 2 ∧ wb.size ≤ 2 := by
  unfold aroundL at h
  simp only [List.mem_cons, List.not_mem_nil, or_false, Prod.mk.injEq] at h
  rcases h with ⟨rfl, rfl⟩ | ⟨rfl, rfl⟩ | ⟨rfl, rfl⟩ | ⟨rfl, rfl⟩ | ⟨rfl, rfl⟩ <;> decide

/-- the five ways as they lie -/
structure Around (W : World) (B : Nat) : Prop where
  at_ : ∀ q, q < 5 → ∃ (C : Nat) (wa wb : ByteArray), (wa, wb) ∈ aroundL ∧ W.cell? ⟨B, q, none⟩ = some (.slice (some ⟨C, 0, none⟩) 2 2) ∧ W.cell? ⟨C, 0, none⟩ = some (.string wa) ∧ W.cell? ⟨C, 1, none⟩ = some (.string wb)

theorem cell_new (w : World) (cs : Array Value) (T : TypeId) (B i : Nat) (v : Value) (hB : B = w.heap.size) (h : cs[i]? = some v) : (w.alloc (.cells cs T)).cell? ⟨B, i, none⟩ = some v := by
  subst hB
  rw [cell_of_row _ _ i _ _ (0, 0) (heap_alloc_new _ _)]; exact h
theorem cell_old {w : World} {p : Addr} (v : Value) (o : Obj) (h : w.cell? p = some v) : (w.alloc o).cell? p = some v :=
  (((Below.refl w.heap.size w).alloc (Nat.le_refl _) o).cell (World.block_lt_of_cell? _ _ h)).trans h

theorem around_mk (w1 : World) : Around ((((((w1.alloc (.cells #[.string ⟨#[34]⟩, .string ⟨#[34]⟩] 9)).alloc
    (.cells #[.string ⟨#[39]⟩, .string ⟨#[39]⟩] 9)).alloc (.cells #[.string ⟨#[96]⟩, .string ⟨#[96]⟩] 9)).alloc (.cells #[.string ⟨#[47, 47]⟩, .string ⟨#[10]⟩] 9)).alloc
    (.cells #[.string ⟨#[47, 42]⟩, .string ⟨#[42, 47]⟩] 9)).alloc (.cells #[.slice (some ⟨w1.heap.size, 0, none⟩) 2 2, .slice (some ⟨w1.heap.size + 1, 0, none⟩) 2 2, .slice (some ⟨w1.heap.size + 1 + 1, 0, none⟩) 2 2,
      .slice (some ⟨w1.heap.size + 1 + 1 + 1, 0, none⟩) 2 2, .slice (some ⟨w1.heap.size + 1 + 1 + 1 + 1, 0, none⟩) 2 2] 40)) (w1.heap.size + 1 + 1 + 1 + 1 + 1) := by
  refine ⟨fun q hq => ?_⟩
  have : q = 0 ∨ q = 1 ∨ q = 2 ∨ q = 3 ∨ q = 4 := by omega
  rcases this with rfl | rfl | rfl | rfl | rfl
  · exact ⟨w1.heap.size, ⟨#[34]⟩, ⟨#[34]⟩, by unfold aroundL; simp, cell_new _ _ _ _ 0 _ (by simp) rfl, cell_old _ _ (cell_old _ _ (cell_old _ _ (cell_old _ _ (cell_old _ _ (cell_new _ _ _ _ 0 _ (by simp) rfl))))), cell_old _ _ (cell_old _ _ (cell_old _ _ (cell_old _ _ (cell_old _ _ (cell_new _ _ _ _ 1 _ (by simp) rfl)))))⟩
  · exact ⟨w1.heap.size + 1, ⟨#[39]⟩, ⟨#[39]⟩, by unfold aroundL; simp, cell_new _ _ _ _ 1 _ (by simp) rfl, cell_old _ _ (cell_old _ _ (cell_old _ _ (cell_old _ _ (cell_new _ _ _ _ 0 _ (by simp) rfl)))), cell_old _ _ (cell_old _ _ (cell_old _ _ (cell_old _ _ (cell_new _ _ _ _ 1 _ (by simp) rfl))))⟩
  · exact ⟨w1.heap.size + 1 + 1, ⟨#[96]⟩, ⟨#[96]⟩, by unfold aroundL; simp, cell_new _ _ _ _ 2 _ (by simp) rfl, cell_old _ _ (cell_old _ _ (cell_old _ _ (cell_new _ _ _ _ 0 _ (by simp) rfl))), cell_old _ _ (cell_old _ _ (cell_old _ _ (cell_new _ _ _ _ 1 _ (by simp) rfl)))⟩
  · exact ⟨w1.heap.size + 1 + 1 + 1, ⟨#[47, 47]⟩, ⟨#[10]⟩, by unfold aroundL; simp, cell_new _ _ _ _ 3 _ (by simp) rfl, cell_old _ _ (cell_old _ _ (cell_new _ _ _ _ 0 _ (by simp) rfl)), cell_old _ _ (cell_old _ _ (cell_new _ _ _ _ 1 _ (by simp) rfl))⟩
  · exact ⟨w1.heap.size + 1 + 1 + 1 + 1, ⟨#[47, 42]⟩, ⟨#[42, 47]⟩, by unfold aroundL; simp, cell_new _ _ _ _ 4 _ (by simp) rfl, cell_old _ _ (cell_new _ _ _ _ 0 _ (by simp) rfl), cell_old _ _ (cell_new _ _ _ _ 1 _ (by simp) rfl)⟩

set_option maxRecDepth 100000 in
set_option maxHeartbeats 1000000 in
theorem bodySkips_walk (s0 : ByteArray) (k0 : Int) (w : World) (hs0 : s0.size ≤ maxLen) (hk : (Lit.int .i64 k0).wf = true) (hE : Env w) :
    Calls Tryd.prog 6 #[.string s0, .int .i64 k0] w fun e w' => e = .returned (.bool true) ∧ Below w.heap.size w w' := by
  have HE := Lib.hid hE
  have hW1 := fun W => within_any k0 5 W hk (by omega) (by omega)
  have hm := Int.emod_nonneg k0 (show (5 : Int) ≠ 0 by omega)
  have hm2 := Int.emod_lt_of_pos k0 (show (0 : Int) < 5 by omega)
  push_cast at hW1
  generalize k0 % 5 = q at hW1 hm hm2
  have HW1 := Lib.hid hW1
  clear hE hW1
  go_enter Tryd.func6, Tryd.ntmps6
  go_wp2_with fail
  refine (bodyWakes_any _ HE.out).mono ?_
  rintro e w1 ⟨rfl, hb1⟩
  go_wp2_with fail
  have HT := Lib.hid (text_any s0 40 w1 hs0 (by omega))
  refine HT.out.mono ?_
  rintro e w2 ⟨rfl, rfl⟩
  have hts := cutT_size s0 40
  clear HT
  generalize cutT s0 40 = s at hts ⊢
  have hg : ∀ j (h : j < s.size), ((s[j]'h).toNat : Int) = gAt s j := fun j h => gAt_get s j h
  have HB := Lib.hid hb1
  go_wp2_with fail
  go_loop [5, 6] (fun x y => ∃ (k : Nat) (t : ByteArray), k ≤ s.size ∧ x = .string t ∧ y = .int .i64 k ∧ Hid (AllGood t) ∧ t.size ≤ k) (fun _ y => s.size + 1 - (intOf y).toNat)
  case atStart => exact ⟨0, ByteArray.empty, by omega, rfl, rfl, Lib.hid allGood_empty, by decide⟩
  case round =>
    obtain ⟨k, t, hk, rfl, rfl, HT, htk⟩ := hrel
    by_cases hlt : k < s.size
    · have hgk := hg k hlt
      go_wp2_with fail
      all_goals first
        | (go_round
           case rel => exact ⟨k + 1, t, by omega, rfl, by go_num, HT, by omega⟩
           case measure => simp [intOf]; omega)
        | (have ha := allGood_snoc HT.out hlt (by unfold Good; grind)
           go_round
           case rel => exact ⟨k + 1, _, by omega, rfl, by go_num, Lib.hid ha.1, by rw [ha.2]; omega⟩
           case measure => simp [intOf]; omega)
    · clear hg
      go_wp2_with fail
      have har := around_mk w1
      have hbl := ((((((hb1.alloc hb1.size (.cells #[.string ⟨#[34]⟩, .string ⟨#[34]⟩] 9)).alloc (by simp; have := hb1.size; omega)
        (.cells #[.string ⟨#[39]⟩, .string ⟨#[39]⟩] 9)).alloc (by simp; have := hb1.size; omega) (.cells #[.string ⟨#[96]⟩, .string ⟨#[96]⟩] 9)).alloc (by simp; have := hb1.size; omega) (.cells #[.string ⟨#[47, 47]⟩, .string ⟨#[10]⟩] 9)).alloc
        (by simp; have := hb1.size; omega) (.cells #[.string ⟨#[47, 42]⟩, .string ⟨#[42, 47]⟩] 9)).alloc (by simp; have := hb1.size; omega) (.cells #[.slice (some ⟨w1.heap.size, 0, none⟩) 2 2, .slice (some ⟨w1.heap.size + 1, 0, none⟩) 2 2, .slice (some ⟨w1.heap.size + 1 + 1, 0, none⟩) 2 2,
          .slice (some ⟨w1.heap.size + 1 + 1 + 1, 0, none⟩) 2 2, .slice (some ⟨w1.heap.size + 1 + 1 + 1 + 1, 0, none⟩) 2 2] 40))
      generalize (((((w1.alloc (.cells #[.string ⟨#[34]⟩, .string ⟨#[34]⟩] 9)).alloc
        (.cells #[.string ⟨#[39]⟩, .string ⟨#[39]⟩] 9)).alloc (.cells #[.string ⟨#[96]⟩, .string ⟨#[96]⟩] 9)).alloc (.cells #[.string ⟨#[47, 47]⟩, .string ⟨#[10]⟩] 9)).alloc
        (.cells #[.string ⟨#[47, 42]⟩, .string ⟨#[42, 47]⟩] 9)).alloc (.cells #[.slice (some ⟨w1.heap.size, 0, none⟩) 2 2, .slice (some ⟨w1.heap.size + 1, 0, none⟩) 2 2, .slice (some ⟨w1.heap.size + 1 + 1, 0, none⟩) 2 2,
          .slice (some ⟨w1.heap.size + 1 + 1 + 1, 0, none⟩) 2 2, .slice (some ⟨w1.heap.size + 1 + 1 + 1 + 1, 0, none⟩) 2 2] 40) = W6 at har hbl ⊢
      generalize w1.heap.size + 1 + 1 + 1 + 1 + 1 = B at har ⊢
      obtain ⟨qn, rfl⟩ := Int.eq_ofNat_of_zero_le hm
      obtain ⟨C, wa, wb, hmem, c0, c1, c2⟩ := har.at_ qn (by omega)
      have hz := around_size hmem
      obtain ⟨a, e, hsk⟩ := skips_any hmem HT.out
      have hss := skipsS_size wa t wb
      have HK := Lib.hid hsk.cutS
      clear hsk har hmem
      refine (HW1.out _).mono ?_
      rintro e w5 ⟨rfl, rfl⟩
      go_wp2_with fail
      go_quiet (fail)
      rw [show (⟨#[123]⟩ ++ wa ++ t ++ ⟨#[123, 125, 125, 36, 49, 32, 36, 36]⟩ ++ wb ++ ⟨#[36, 50, 125]⟩ : ByteArray) = skipsS wa t wb from rfl]
      have hcl : (skipsS wa t wb).size ≤ 1000 := by omega
      clear hss
      generalize skipsS wa t wb = code at HK hcl ⊢
      go_wp2_with fail
      have hb7 : Below w.heap.size w (W6.drewN nq) := ⟨hbl.os, hbl.tape, hbl.output, hbl.size, hbl.block⟩
      clear c0 c1 c2 hbl
      generalize W6.drewN nq = W7 at hb7 ⊢
      refine (cut_any code W7 (HE.out.below hb7).max (by omega)).mono ?_
      intro e w8 h8
      obtain ⟨v, rfl, hv, hb8⟩ := h8.pcs
      clear h8
      rw [HK.out.2] at hv ⊢
      obtain ⟨a2, n2, cc, rfl, hnl, hnc, hc, hx⟩ := hv.open
      have hb9 := hb7.trans (hb8.mono hb7.size)
      have hn0 : n2 = 3 := hnl.out
      subst hn0
      obtain ⟨b, o, rfl, e0, e1, e2, e3⟩ := hx.out 1 (by omega)
      simp at e0 e2
      clear hx hnl e1 e3 hv hb7 hb8
      have hes := HK.out.1
      go_wp2_with fail
      refine (end_any code 0 w8 (HE.out.below hb9).max (by omega)).mono ?_
      rintro e w9 ⟨rfl, hb10⟩
      rw [hes]
      have hbb := World.block_lt_of_cell? _ _ e0
      replace e0 := (hb10.cell (p := ⟨b, o + 4, none⟩) hbb).trans e0
      replace e2 := (hb10.cell (p := ⟨b, o + 4 + 2, none⟩) hbb).trans e2
      have hb11 := hb9.trans (hb10.mono hb9.size)
      go_wp2_with fail
      go_ret
      exact ⟨rfl, hb11⟩

end Go.Proofs.YtmpdpgbcflogfaaDoor
