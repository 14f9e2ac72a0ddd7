/- z.Has, z.Put: numbers in lists. -/
import Derived.Test.YtkgbifbbpmdpgaaChecked
import Derived.Test.YtkgbifbbpmdpgaaNBase
import Derived.Outline
set_option linter.unusedVariables false
set_option linter.unusedSimpArgs false
namespace Go.Proofs.Ytkgbifbbpmdpgaa
section
open Go.RowKit
def PutIs (l : List Int) (x : Int) (r : List Int) : Prop :=
 ∃ k, k ≤ l.length ∧ (∀ j, k ≤ j → j < l.length → x < l.getD j 0) ∧ (k = 0 ∨ l.getD (k - 1) 0 ≤ x) ∧
  ((0 < k ∧ l.getD (k - 1) 0 = x ∧ r = l) ∨ ((k = 0 ∨ l.getD (k - 1) 0 ≠ x) ∧ r = l.take k ++ (x :: l.drop k)))
theorem Try.infoInt' : (Try.prog.info? 3).map (fun i => (i.zero, i.size, i.bytes)) = some (some (.int .i64 0), 1, 8) := by kernel_rfl
theorem ints_one (l : List Int) : ∀ u ∈ l.map (Value.int .i64), u.oneCell' = true := by
 intro u hu
 obtain ⟨x, _, rfl⟩ := List.mem_map.1 hu
 rfl
theorem owns_empty (w : World) (E : TypeId) : (w.alloc (.cells #[] E)).ownsRow w.heap.size E 1 (.slice (some ⟨w.heap.size, 0, none⟩) 0 0) 0 [] :=
 ⟨rfl, .inr ⟨w.heap.size, 0, #[], rfl, Nat.le_refl _, heap_alloc_new _ _, Nat.le_refl _, by unfold maxLen; omega, rfl, rfl⟩⟩
def PutPost (l : List Int) (x : Int) (w : World) (e : Ending) (w' : World) : Prop := (∃ v' r, e = .returned v' ∧ PutIs l x r ∧ IntsV w' v' r) ∧ Below w.heap.size w w'
set_option maxRecDepth 100000 in
theorem zput_any (v : Value) (l : List Int) (x : Int) (w : World) (h : IntsV w v l) (hl : l.length ≤ 1000000) :
  Calls Try.prog 38 #[v, .int .i64 x] w (PutPost l x w) := by
 have h' := Lib.hid h
 obtain ⟨a, n, c, rfl, hn, hnc, hc, hx⟩ := h.open
 have hnone := Lib.hid h.none_cap
 clear h
 obtain ⟨i0, hi, hz0, hz1, hz2⟩ := info_parts Try.infoInt'
 have hn6 : n ≤ 1000000 := by rw [hn.out]; exact hl
 clear hl
 go_enter Try.func38, Try.ntmps38
 go_wp2
 go_loop [5] (fun i => ∃ k : Nat, k ≤ n ∧ i = .int .i64 k ∧ Hid (∀ j, k ≤ j → j < l.length → x < l.getD j 0)) (fun i => (intOf i).toNat)
 case atStart => exact ⟨n, Nat.le_refl _, rfl, Lib.hid (fun j hj hj2 => by have := hn.out; omega)⟩
 case round =>
  obtain ⟨k, hk, rfl, hp⟩ := hrel
  by_cases hk0 : k = 0
  · subst hk0
    cases a with
    | none =>
      obtain rfl := hnone.out rfl
      obtain rfl : n = 0 := by omega
      have src1 : ∀ W, SrcV W (.slice none 0 0) 0 ([].map (.int .i64)) := fun W => SrcV.of_ints (IntsV.nil W)
      have src2 : ∀ W, Below w.heap.size w W → SrcV W (.slice none 0 0) 0 ([].map (.int .i64)) := fun W _ => SrcV.of_ints (IntsV.nil W)
      go_wp2_with (first | (at_builtin; refine wpList_append_src rfl (.tmp 34) (.tmp 37) 27 rfl w.heap.size 3 i0 (.int .i64 0) 1 8 Try.underlying27 hi hz0 hz1 hz2 rfl (by decide) _ 0 [] rfl (owns_empty w _) (.slice none 0 0) 0 ([].map (.int .i64)) rfl (src1 _) (by simp) (ints_one _) (by unfold maxLen; omega) (by omega) (by simp) ?_; intro v1 w1 hown1 hgrow1))
      have hb1 : Below w.heap.size w w1 := ((Below.refl _ _).alloc (Nat.le_refl _) _).grown hgrow1 (by simp) (by intro k hk; cases hk; exact Nat.le_refl _)
      have hs1 := hb1.size
      clear hgrow1
      go_region_law (first
       | (refine step_append_src rfl (.tmp 39) (.tmp 41) 27 rfl w.heap.size 3 i0 (.int .i64 0) 1 8 Try.underlying27 hi hz0 hz1 hz2 rfl (by decide) v1 0 [] (by simp [Act.eval]) (by first | exact hown1.drew.alloc _ | exact (hown1.alloc _).drew) (.slice (some ⟨w1.heap.size, 0, none⟩) 1 1) 1 ([x].map (.int .i64)) (by simp [Act.eval]) (by first | exact SrcV.new _ _ _ | exact (SrcV.new _ _ _).drew) rfl (ints_one [x]) (by unfold maxLen; omega) (by omega) (by simp; omega) ?_; intro v2 w2 hown2 hgrow2)
       | (refine step_append_src rfl (.tmp 42) (.tmp 45) 27 rfl w.heap.size 3 i0 (.int .i64 0) 1 8 Try.underlying27 hi hz0 hz1 hz2 rfl (by decide) v2 _ _ (by simp [Act.eval]) hown2 (.slice none 0 0) 0 ([].map (.int .i64)) (by simp [Act.eval]) (src2 _ ((by first | exact hb1.drew.alloc (by simp; omega) _ | exact (hb1.alloc (by omega) _).drew : Below w.heap.size w _).grown hgrow2 (by simp; omega) (own_base hown1 (Nat.le_refl _)))) (by simp) (ints_one _) (by unfold maxLen; omega) (by omega) (by have := grown_size hgrow2; simp at this; omega) ?_; intro v3 w3 hown3 hgrow3))
      have hb3 : Below w.heap.size w w3 := ((by first | exact hb1.drew.alloc (by simp; omega) _ | exact (hb1.alloc (by omega) _).drew : Below w.heap.size w _).grown hgrow2 (by simp; omega) (own_base hown1 (Nat.le_refl _))).grown hgrow3 (by have := grown_size hgrow2; simp at this; omega) (own_base hown2 (Nat.le_refl _))
      clear hgrow3 hgrow2 hown1 hown2
      go_wp2_with (fail)
      go_ret
      refine ⟨⟨v3, l.take 0 ++ (x :: l.drop 0), rfl, ⟨0, Nat.zero_le _, hp.out, .inl rfl, .inr ⟨.inl rfl, rfl⟩⟩, IntsV.of_owns (e := 3) (base := w.heap.size) ?_⟩, hb3⟩
      obtain rfl : l = [] := List.eq_nil_of_length_eq_zero hn.out.symm
      simpa [Nat.add_comm, Nat.add_left_comm, Nat.add_assoc] using hown3
    | some ad =>
      have src1 : ∀ W, SrcV W (.slice (some ad) 0 c) 0 ([].map (.int .i64)) := fun W => SrcV.of_ints (IntsV.empty hc)
      have src2 : ∀ W, Below w.heap.size w W → SrcV W (.slice (some ad) n c) n (l.map (.int .i64)) := fun W hW => by
       have := SrcV.of_ints (h'.out.below hW)
       rwa [← hn.out] at this
      go_wp2_with (first | (at_builtin; refine wpList_append_src rfl (.tmp 34) (.tmp 37) 27 rfl w.heap.size 3 i0 (.int .i64 0) 1 8 Try.underlying27 hi hz0 hz1 hz2 rfl (by decide) _ 0 [] rfl (owns_empty w _) (.slice (some ad) 0 c) 0 ([].map (.int .i64)) rfl (src1 _) (by simp) (ints_one _) (by unfold maxLen; omega) (by omega) (by simp) ?_; intro v1 w1 hown1 hgrow1))
      have hb1 : Below w.heap.size w w1 := ((Below.refl _ _).alloc (Nat.le_refl _) _).grown hgrow1 (by simp) (by intro k hk; cases hk; exact Nat.le_refl _)
      have hs1 := hb1.size
      clear hgrow1
      go_region_law (first
       | (refine step_append_src rfl (.tmp 39) (.tmp 41) 27 rfl w.heap.size 3 i0 (.int .i64 0) 1 8 Try.underlying27 hi hz0 hz1 hz2 rfl (by decide) v1 0 [] (by simp [Act.eval]) (by first | exact hown1.drew.alloc _ | exact (hown1.alloc _).drew) (.slice (some ⟨w1.heap.size, 0, none⟩) 1 1) 1 ([x].map (.int .i64)) (by simp [Act.eval]) (by first | exact SrcV.new _ _ _ | exact (SrcV.new _ _ _).drew) rfl (ints_one [x]) (by unfold maxLen; omega) (by omega) (by simp; omega) ?_; intro v2 w2 hown2 hgrow2)
       | (refine step_append_src rfl (.tmp 42) (.tmp 45) 27 rfl w.heap.size 3 i0 (.int .i64 0) 1 8 Try.underlying27 hi hz0 hz1 hz2 rfl (by decide) v2 _ _ (by simp [Act.eval]) hown2 (.slice (some ad) n c) n (l.map (.int .i64)) (by simp [Act.eval]) (src2 _ ((by first | exact hb1.drew.alloc (by simp; omega) _ | exact (hb1.alloc (by omega) _).drew : Below w.heap.size w _).grown hgrow2 (by simp; omega) (own_base hown1 (Nat.le_refl _)))) (by simp; exact hn.out.symm) (ints_one _) (by unfold maxLen; omega) (by omega) (by have := grown_size hgrow2; simp at this; omega) ?_; intro v3 w3 hown3 hgrow3))
      have hb3 : Below w.heap.size w w3 := ((by first | exact hb1.drew.alloc (by simp; omega) _ | exact (hb1.alloc (by omega) _).drew : Below w.heap.size w _).grown hgrow2 (by simp; omega) (own_base hown1 (Nat.le_refl _))).grown hgrow3 (by have := grown_size hgrow2; simp at this; omega) (own_base hown2 (Nat.le_refl _))
      clear hgrow3 hgrow2 hown1 hown2
      go_wp2_with (fail)
      go_ret
      refine ⟨⟨v3, l.take 0 ++ (x :: l.drop 0), rfl, ⟨0, Nat.zero_le _, hp.out, .inl rfl, .inr ⟨.inl rfl, rfl⟩⟩, IntsV.of_owns (e := 3) (base := w.heap.size) ?_⟩, hb3⟩
      have hl0 := hn.out
      simpa [Nat.add_comm, Nat.add_left_comm, Nat.add_assoc, hl0] using hown3
  · obtain ⟨j, rfl⟩ : ∃ j, k = j + 1 := ⟨k - 1, by omega⟩
    clear hk0
    obtain ⟨b, off, rfl, c1⟩ := hx.out j (by omega)
    have hpj : ∀ y, l.getD j 0 = y → x < y → Hid (∀ i, j ≤ i → i < l.length → x < l.getD i 0) := fun y hy hlt => Lib.hid (fun i hi hi2 => by
     by_cases e : i = j
     · subst e; rw [hy]; exact hlt
     · exact hp.out i (by omega) hi2)
    have src1 : ∀ W, Below w.heap.size w W → SrcV W (.slice (some ⟨b, off, none⟩) (j + 1) c) (j + 1) ((l.take (j + 1)).map (.int .i64)) := fun W hW => by
     have := SrcV.of_ints ((IntsV.take h'.out (show j + 1 ≤ n from hk)).below hW)
     rwa [List.length_take, Nat.min_eq_left (by have := hn.out; omega)] at this
    have src2 : ∀ W, Below w.heap.size w W → SrcV W (.slice (some ⟨b, off + (j + 1), none⟩) (n - (j + 1)) (c - (j + 1))) (n - (j + 1)) ((l.drop (j + 1)).map (.int .i64)) := fun W hW => by
     have := SrcV.of_ints ((IntsV.drop h'.out (show j + 1 ≤ n from hk)).below hW)
     rwa [List.length_drop, ← hn.out] at this
    have src3 : c = j + 1 → ∀ W, SrcV W (.slice (some ⟨b, off, none⟩) (n - (j + 1)) (c - (j + 1))) (n - (j + 1)) ((l.drop (j + 1)).map (.int .i64)) := fun e W => by
     have e1 : n - (j + 1) = 0 := by omega
     have e2 : l.drop (j + 1) = [] := List.drop_eq_nil_of_le (by have := hn.out; omega)
     rw [e1, e2]
     exact SrcV.of_ints (IntsV.empty (by omega))
    have HPJ := Lib.hid hpj
    have S1 := Lib.hid src1; have S2 := Lib.hid src2; have S3 := Lib.hid src3
    clear hpj src1 src2 src3
    generalize hy : l.getD j 0 = y at c1 HPJ
    have HY := Lib.hid hy
    clear hy
    have hj0 : (0 : Int) ≤ (j : Int) + 1 := by omega
    have hj1 : (j : Int) + 1 ≤ (n : Int) := by omega
    rcases Int.lt_trichotomy y x with hyx | hyx | hyx
    · have h1 : (y == x) = false := by rw [beq_eq_false_iff_ne]; omega
      have src1 : ∀ W, SrcV (w.alloc W) (.slice (some ⟨b, off, none⟩) (j + 1) c) (j + 1) ((l.take (j + 1)).map (.int .i64)) := fun W => S1.out _ ((Below.refl _ _).alloc (Nat.le_refl _) _)
      by_cases hcj : c = j + 1
      · obtain rfl := hcj
        obtain rfl : n = j + 1 := by omega
        have src2 : ∀ W, Below w.heap.size w W → SrcV W (.slice (some ⟨b, off, none⟩) 0 0) 0 ([].map (.int .i64)) := fun W _ => SrcV.of_ints (IntsV.empty (by omega))
        go_wp2_with (first | (at_builtin; refine wpList_append_src rfl (.tmp 34) (.tmp 37) 27 rfl w.heap.size 3 i0 (.int .i64 0) 1 8 Try.underlying27 hi hz0 hz1 hz2 rfl (by decide) _ 0 [] rfl (owns_empty w _) (.slice (some ⟨b, off, none⟩) (j + 1) (j + 1)) (j + 1) ((l.take (j + 1)).map (.int .i64)) rfl (src1 _) (by first | (simp; done) | (simp; have := hn.out; omega)) (ints_one _) (by unfold maxLen; omega) (by omega) (by simp) ?_; intro v1 w1 hown1 hgrow1))
        have hb1 : Below w.heap.size w w1 := ((Below.refl _ _).alloc (Nat.le_refl _) _).grown hgrow1 (by simp) (by intro k hk; cases hk; exact Nat.le_refl _)
        have hs1 := hb1.size
        clear hgrow1
        go_region_law (first
         | (refine step_append_src rfl (.tmp 39) (.tmp 41) 27 rfl w.heap.size 3 i0 (.int .i64 0) 1 8 Try.underlying27 hi hz0 hz1 hz2 rfl (by decide) v1 (0 + (j + 1)) ([] ++ (l.take (j + 1)).map (.int .i64)) (by simp [Act.eval]) (by first | exact hown1.drew.alloc _ | exact (hown1.alloc _).drew) (.slice (some ⟨w1.heap.size, 0, none⟩) 1 1) 1 ([x].map (.int .i64)) (by simp [Act.eval]) (by first | exact SrcV.new _ _ _ | exact (SrcV.new _ _ _).drew) rfl (ints_one [x]) (by unfold maxLen; omega) (by omega) (by simp; omega) ?_; intro v2 w2 hown2 hgrow2)
         | (refine step_append_src rfl (.tmp 42) (.tmp 45) 27 rfl w.heap.size 3 i0 (.int .i64 0) 1 8 Try.underlying27 hi hz0 hz1 hz2 rfl (by decide) v2 _ _ (by simp [Act.eval]) hown2 (.slice (some ⟨b, off, none⟩) 0 0) 0 ([].map (.int .i64)) (by simp [Act.eval]) (src2 _ ((by first | exact hb1.drew.alloc (by simp; omega) _ | exact (hb1.alloc (by omega) _).drew : Below w.heap.size w _).grown hgrow2 (by first | (simp; done) | (simp; omega)) (own_base hown1 (Nat.le_refl _)))) (by first | (simp; done) | (simp; have := hn.out; omega)) (ints_one _) (by unfold maxLen; omega) (by omega) (by have := grown_size hgrow2; simp at this; omega) ?_; intro v3 w3 hown3 hgrow3))
        have hb3 : Below w.heap.size w w3 := ((by first | exact hb1.drew.alloc (by simp; omega) _ | exact (hb1.alloc (by omega) _).drew : Below w.heap.size w _).grown hgrow2 (by first | (simp; done) | (simp; omega)) (own_base hown1 (Nat.le_refl _))).grown hgrow3 (by have := grown_size hgrow2; simp at this; omega) (own_base hown2 (Nat.le_refl _))
        clear hgrow3 hgrow2 hown1 hown2
        go_wp2_with (fail)
        go_ret
        refine ⟨⟨v3, l ++ [x], rfl, ⟨j + 1, by have := hn.out; omega, hp.out, .inr (by have := HY.out; rw [show j + 1 - 1 = j by omega, this]; omega), .inr ⟨.inr (by have := HY.out; rw [show j + 1 - 1 = j by omega, this]; omega), by rw [List.take_of_length_le (by have := hn.out; omega), List.drop_eq_nil_of_le (by have := hn.out; omega)]⟩⟩, IntsV.of_owns (e := 3) (base := w.heap.size) ?_⟩, hb3⟩
        have hl0 := hn.out
        have hL : (l ++ [x]).length = 0 + (j + 1) + 1 + 0 := by simp; omega
        rw [hL]
        rw [List.take_of_length_le (by omega)] at hown3
        simpa using hown3
      · have src2 := S2.out
        go_wp2_with (first | (at_builtin; refine wpList_append_src rfl (.tmp 34) (.tmp 37) 27 rfl w.heap.size 3 i0 (.int .i64 0) 1 8 Try.underlying27 hi hz0 hz1 hz2 rfl (by decide) _ 0 [] rfl (owns_empty w _) (.slice (some ⟨b, off, none⟩) (j + 1) c) (j + 1) ((l.take (j + 1)).map (.int .i64)) rfl (src1 _) (by simp; have := hn.out; omega) (ints_one _) (by unfold maxLen; omega) (by omega) (by simp) ?_; intro v1 w1 hown1 hgrow1))
        have hb1 : Below w.heap.size w w1 := ((Below.refl _ _).alloc (Nat.le_refl _) _).grown hgrow1 (by simp) (by intro k hk; cases hk; exact Nat.le_refl _)
        have hs1 := hb1.size
        clear hgrow1
        go_region_law (first
         | (refine step_append_src rfl (.tmp 39) (.tmp 41) 27 rfl w.heap.size 3 i0 (.int .i64 0) 1 8 Try.underlying27 hi hz0 hz1 hz2 rfl (by decide) v1 (0 + (j + 1)) ([] ++ (l.take (j + 1)).map (.int .i64)) (by simp [Act.eval]) (by first | exact hown1.drew.alloc _ | exact (hown1.alloc _).drew) (.slice (some ⟨w1.heap.size, 0, none⟩) 1 1) 1 ([x].map (.int .i64)) (by simp [Act.eval]) (by first | exact SrcV.new _ _ _ | exact (SrcV.new _ _ _).drew) rfl (ints_one [x]) (by unfold maxLen; omega) (by omega) (by simp; omega) ?_; intro v2 w2 hown2 hgrow2)
         | (refine step_append_src rfl (.tmp 42) (.tmp 45) 27 rfl w.heap.size 3 i0 (.int .i64 0) 1 8 Try.underlying27 hi hz0 hz1 hz2 rfl (by decide) v2 _ _ (by simp [Act.eval]) hown2 (.slice (some ⟨b, off + (j + 1), none⟩) (n - (j + 1)) (c - (j + 1))) (n - (j + 1)) ((l.drop (j + 1)).map (.int .i64)) (by simp [Act.eval]) (src2 _ ((by first | exact hb1.drew.alloc (by simp; omega) _ | exact (hb1.alloc (by omega) _).drew : Below w.heap.size w _).grown hgrow2 (by first | (simp; done) | (simp; omega)) (own_base hown1 (Nat.le_refl _)))) (by simp; have := hn.out; omega) (ints_one _) (by unfold maxLen; omega) (by omega) (by have := grown_size hgrow2; simp at this; omega) ?_; intro v3 w3 hown3 hgrow3))
        have hb3 : Below w.heap.size w w3 := ((by first | exact hb1.drew.alloc (by simp; omega) _ | exact (hb1.alloc (by omega) _).drew : Below w.heap.size w _).grown hgrow2 (by first | (simp; done) | (simp; omega)) (own_base hown1 (Nat.le_refl _))).grown hgrow3 (by have := grown_size hgrow2; simp at this; omega) (own_base hown2 (Nat.le_refl _))
        clear hgrow3 hgrow2 hown1 hown2
        go_wp2_with (fail)
        go_ret
        refine ⟨⟨v3, l.take (j + 1) ++ (x :: l.drop (j + 1)), rfl, ⟨j + 1, by have := hn.out; omega, hp.out, .inr (by have := HY.out; rw [show j + 1 - 1 = j by omega, this]; omega), .inr ⟨.inr (by have := HY.out; rw [show j + 1 - 1 = j by omega, this]; omega), rfl⟩⟩, IntsV.of_owns (e := 3) (base := w.heap.size) ?_⟩, hb3⟩
        have hl0 := hn.out
        have hmin : min (j + 1) l.length = j + 1 := by omega
        have hsum : j + 1 + (l.length - (j + 1) + 1) = 0 + (j + 1) + 1 + (n - (j + 1)) := by omega
        have hL : (l.take (j + 1) ++ (x :: l.drop (j + 1))).length = 0 + (j + 1) + 1 + (n - (j + 1)) := by simp; omega
        rw [hL]
        simpa using hown3
    · subst hyx
      have h1 : (y == y) = true := by simp
      have hlt : ¬ y < y := by omega
      go_wp2_with (fail)
      go_ret
      exact ⟨⟨_, l, rfl, ⟨j + 1, by have := hn.out; omega, hp.out, .inr (by have := HY.out; rw [show j + 1 - 1 = j by omega, this]; exact Int.le_refl _), .inl ⟨by omega, HY.out, rfl⟩⟩, h'.out⟩, Below.refl _ _⟩
    · go_wp2_with (fail)
      go_round
      case rel => exact ⟨j, by omega, by go_num, HPJ.out y rfl hyx⟩
      case measure => simp [intOf]
end
section
open Go.RowKit
abbrev Rising (l : List Int) : Prop := l.Pairwise (· < ·)
theorem rising_get {l : List Int} (h : Rising l) {i j : Nat} (hij : i < j) (hj : j < l.length) : l.getD i 0 < l.getD j 0 := by
 rw [List.getD_eq_getElem?_getD, List.getD_eq_getElem?_getD, List.getElem?_eq_getElem hj, List.getElem?_eq_getElem (by omega)]
 exact List.pairwise_iff_getElem.1 h i j (by omega) hj hij
theorem mem_get {l : List Int} {y : Int} (h : y ∈ l) : ∃ i, i < l.length ∧ l.getD i 0 = y := by
 obtain ⟨i, hi, rfl⟩ := List.getElem_of_mem h
 exact ⟨i, hi, by rw [List.getD_eq_getElem?_getD, List.getElem?_eq_getElem hi]; rfl⟩
theorem get_mem {l : List Int} {i : Nat} (h : i < l.length) : l.getD i 0 ∈ l := by
 rw [List.getD_eq_getElem?_getD, List.getElem?_eq_getElem h]; exact List.getElem_mem h
theorem mem_take {l : List Int} {k : Nat} {y : Int} (h : y ∈ l.take k) : ∃ i, i < k ∧ i < l.length ∧ l.getD i 0 = y := by
 obtain ⟨i, hi, he⟩ := mem_get h
 have h2 := hi
 rw [List.length_take] at h2
 refine ⟨i, by omega, by omega, ?_⟩
 rw [← he, List.getD_eq_getElem?_getD, List.getD_eq_getElem?_getD, List.getElem?_take, if_pos (by omega)]
theorem mem_drop {l : List Int} {k : Nat} {y : Int} (h : y ∈ l.drop k) : ∃ i, k ≤ i ∧ i < l.length ∧ l.getD i 0 = y := by
 obtain ⟨i, hi, he⟩ := mem_get h
 have h2 := hi
 rw [List.length_drop] at h2
 refine ⟨k + i, by omega, by omega, ?_⟩
 rw [← he, List.getD_eq_getElem?_getD, List.getD_eq_getElem?_getD, List.getElem?_drop]
theorem put_rising {l r : List Int} {x : Int} (hl : Rising l) (h : PutIs l x r) : Rising r ∧ (∀ y, y ∈ r ↔ y = x ∨ y ∈ l) ∧ r.length ≤ l.length + 1 := by
 obtain ⟨k, hk, hgt, hle, h⟩ := h
 rcases h with ⟨hk0, he, rfl⟩ | ⟨hne, rfl⟩
 · refine ⟨hl, fun y => ⟨fun h => .inr h, ?_⟩, by omega⟩
   rintro (rfl | h)
   · rw [← he]; exact get_mem (by omega)
   · exact h
 · refine ⟨?_, ?_, by simp; omega⟩
   · rw [Rising, List.pairwise_append]
     refine ⟨hl.sublist (List.take_sublist _ _), ?_, ?_⟩
     · rw [List.pairwise_cons]
       refine ⟨fun y hy => ?_, hl.sublist (List.drop_sublist _ _)⟩
       obtain ⟨i, hi, hi2, rfl⟩ := mem_drop hy
       exact hgt i hi hi2
     · intro a ha b hb
       obtain ⟨i, hi, hi2, rfl⟩ := mem_take ha
       have hax : l.getD i 0 < x := by
        rcases hle with rfl | hle
        · omega
        · have hlt : l.getD (k - 1) 0 < x := by
           rcases hne with rfl | hne
           · omega
           · omega
          by_cases e : i = k - 1
          · rw [e]; exact hlt
          · have := rising_get hl (show i < k - 1 by omega) (by omega); omega
       rcases List.mem_cons.1 hb with rfl | hb
       · exact hax
       · obtain ⟨j, hj, hj2, rfl⟩ := mem_drop hb
         have := hgt j hj hj2; omega
   · intro y
     have := List.take_append_drop k l
     constructor
     · intro hy
       rcases List.mem_append.1 hy with h | h
       · exact .inr (List.mem_of_mem_take h)
       · rcases List.mem_cons.1 h with h | h
         · exact .inl h
         · exact .inr (List.mem_of_mem_drop h)
     · rintro (rfl | h)
       · simp
       · rw [← this] at h
         rcases List.mem_append.1 h with h | h
         · exact List.mem_append.2 (.inl h)
         · exact List.mem_append.2 (.inr (by simp [h]))
end
end Go.Proofs.Ytkgbifbbpmdpgaa
