/- Words: numbers. -/
import Derived.Test.YtmpdpgbcflogfaaDoorAtoi
namespace Go.Proofs.YtmpdpgbcflogfaaDoor
open Go.RowKit
set_option linter.unusedVariables false

/-- the library's own error holds some value -/
structure LexEnv (w : World) : Prop where
  env : Env w
  err : ∃ ev, w.cell? ⟨3, 0, none⟩ = some ev ∧ (ev = .nilIface ∨ ∃ te pe, ev = .iface te pe)
theorem LexEnv.below {w w' : World} (h : LexEnv w) (hb : Below w.heap.size w w') : LexEnv w' := by
  obtain ⟨ev, h1, h2⟩ := h.err
  exact ⟨h.env.below hb, ev, (hb.cell (World.block_lt_of_cell? _ _ h1)).trans h1, h2⟩

def digL (s : ByteArray) (i : Nat) : List UInt8 := (s.extract i (digF s.size (gAt s) i)).data.toList
def digWd (s : ByteArray) (i : Nat) : Wd × Nat :=
  if digF s.size (gAt s) i < s.size ∧ begB (gAt s (digF s.size (gAt s) i)) = true then (noWd, i)
  else if gAt s i = 48 ∨ 50000 < horA 0 (digL s i) then (noWd, i)
  else (⟨3, s.extract i (digF s.size (gAt s) i), i⟩, digF s.size (gAt s) i)

def AtoiTells (v : Int) (bad : Bool) (w : World) (r : Ending) (w' : World) : Prop :=
  (∃ x : Value, r = .returned (.tuple #[.int .i64 v, x]) ∧ (bad = false → x = .nilIface) ∧ (bad = true → ∃ N, x = .iface 107 (.pointer (some ⟨N, 0, none⟩)))) ∧ Below w.heap.size w w'

theorem digL_digs (s : ByteArray) (i : Nat) (hi : i ≤ s.size) : Digs (digL s i) := by
  have hb := digF_bd s.size (gAt s) i hi
  have ha := digF_all s.size (gAt s) i
  have hl := extract_len s (a := i) hb.2
  intro c hc
  obtain ⟨m, hm, rfl⟩ := List.getElem_of_mem hc
  unfold digL at hm
  rw [hl] at hm
  have h1 := extract_getD s (x := i) (m := m) hb.2 (by omega)
  have h2 := digB_flat (ha (i + m) (by omega) (by omega))
  unfold digL
  rw [List.getD_eq_getElem?_getD, List.getElem?_eq_getElem (by rw [hl]; omega)] at h1
  simp only [Option.getD_some] at h1
  omega

theorem latoi_any (s : ByteArray) (i : Nat) (w : World) (hi : i ≤ s.size) (hd : i < digF s.size (gAt s) i) (hs : s.size ≤ 1000000) (hE : LexEnv w) :
    ∃ (v : Int) (bad : Bool), (bad = false → v = (horA 0 (digL s i) : Nat)) ∧ (bad = true → 1000000 ≤ horA 0 (digL s i)) ∧
      Calls Tryd.prog 78 #[.string (s.extract i (digF s.size (gAt s) i))] w (AtoiTells v bad w) := by
  have hb := digF_bd s.size (gAt s) i hi
  have hl := extract_len s (a := i) hb.2
  have hz : (s.extract i (digF s.size (gAt s) i)).size ≤ 1000000 := by rw [ByteArray.size_extract]; omega
  have hD := digL_digs s i hi
  have hne : digL s i ≠ [] := fun h => by
    have := congrArg List.length h
    unfold digL at this
    rw [hl] at this
    simp at this; omega
  obtain ⟨h1, h2⟩ := atoi_digs (digL s i) hD hne
  rcases h1 with h1 | h1
  · refine ⟨_, false, fun _ => rfl, fun h => (by cases h), ?_⟩
    refine (Tryd.strconv_Atoi_ok _ (by omega) _ h1 w).mono ?_
    rintro e w' ⟨rfl, hw⟩
    refine ⟨⟨_, rfl, fun _ => rfl, fun h => by cases h⟩, ?_⟩
    rcases hw with rfl | ⟨t, rfl⟩
    · exact Below.refl _ _
    · exact Lib.bytesWorld_below _ _ _
  · refine ⟨Lib.atoiSat (digL s i), true, fun h => (by cases h), fun _ => ?_, ?_⟩
    · by_cases hx : horA 0 (digL s i) < 1000000
      · rw [h2 hx] at h1; cases h1
      · omega
    · obtain ⟨ev, he1, he2⟩ := hE.err
      refine (Tryd.strconv_Atoi_range _ (by omega) h1 ev w he1 he2).mono ?_
      rintro e w' ⟨N, rfl, _, _, hbl⟩
      exact ⟨⟨_, rfl, fun h => (by cases h), fun _ => ⟨N, rfl⟩⟩, hbl⟩

set_option maxRecDepth 100000 in
set_option maxHeartbeats 2000000 in
theorem ldigits_any (s : ByteArray) (i : Nat) (w : World) (hi : i < s.size) (hd : digB (gAt s i) = true) (hs : s.size ≤ 1000000) (hE : LexEnv w) :
    Calls Tryd.prog 63 #[.string s, .int .i64 i] w fun r w' => WdTells r (digWd s i) ∧ Below w.heap.size w w' := by
  have hg := fun j h => gAt_get s j h
  have hb := digF_bd s.size (gAt s) i (by omega)
  have hdi : i < digF s.size (gAt s) i := by
    have e1 : digF s.size (gAt s) i = digF s.size (gAt s) (i + 1) := by rw [digF, if_pos ⟨hi, hd⟩]
    have := digF_bd s.size (gAt s) (i + 1) (by omega)
    omega
  have HD := Lib.hid (fun W => digits_any s i W (by omega) hs)
  have HA := Lib.hid (fun W hW => latoi_any s i W (by omega) hdi hs hW)
  have hR : digWd s i = if digF s.size (gAt s) i < s.size ∧ begB (gAt s (digF s.size (gAt s) i)) = true then (noWd, i)
    else if gAt s i = 48 ∨ 50000 < horA 0 (digL s i) then (noWd, i)
    else (⟨3, s.extract i (digF s.size (gAt s) i), i⟩, digF s.size (gAt s) i) := rfl
  have HW := Lib.hid (fun W => whole_any 3 s i (digF s.size (gAt s) i) W hb.1 hb.2 hs)
  have HL := Lib.hid (fun W => letter_any (gAt s (digF s.size (gAt s) i)) W)
  generalize digWd s i = R at hR ⊢
  generalize digF s.size (gAt s) i = d at *
  generalize horA 0 (digL s i) = V at *
  generalize gAt s = g at *
  have hEx : LexEnv (w.alloc (.cells #[.int .i64 0, .string ⟨#[]⟩, .int .i64 0] 53)) := hE.below ((Below.refl _ _).alloc (Nat.le_refl _) _)
  by_cases hc : d < s.size ∧ begB (g d) = true
  · rw [if_pos hc] at hR
    subst hR
    obtain ⟨hc1, hc2⟩ := hc
    cases hlB : letB (g d) with
    | true =>
      rw [hlB] at HL
      go_enter Tryd.func63, Tryd.ntmps63
      go_wp2_with (first
        | (go_at_call 55; refine (HD.out _).mono ?_; rintro e w1 ⟨rfl, rfl⟩)
        | (go_at_call 77; refine (HL.out _).mono ?_; rintro e w1 ⟨rfl, rfl⟩))
      exact bodyPost_ret (v := .tuple #[.agg #[.int .i64 0, .string ByteArray.empty, .int .i64 0], .int .i64 (i : Int)]) (by simp [results, Tryd.results63, go_sem]; rfl) rfl ⟨rfl, (Below.refl _ _).alloc (Nat.le_refl _) _⟩
    | false =>
      rw [hlB] at HL
      have h95 : g d = 95 := by
        unfold begB at hc2; unfold letB at hlB
        simp at hc2 hlB
        omega
      rw [h95] at HL
      go_enter Tryd.func63, Tryd.ntmps63
      go_wp2_with (first
        | (go_at_call 55; refine (HD.out _).mono ?_; rintro e w1 ⟨rfl, rfl⟩)
        | (go_at_call 77; refine (HL.out _).mono ?_; rintro e w1 ⟨rfl, rfl⟩))
      exact bodyPost_ret (v := .tuple #[.agg #[.int .i64 0, .string ByteArray.empty, .int .i64 0], .int .i64 (i : Int)]) (by simp [results, Tryd.results63, go_sem]; rfl) rfl ⟨rfl, (Below.refl _ _).alloc (Nat.le_refl _) _⟩
  · rw [if_neg hc] at hR
    by_cases hds : d < s.size
    · have hnb : begB (g d) = false := by
        cases h : begB (g d) with
        | false => rfl
        | true => exact absurd ⟨hds, h⟩ hc
      have hlB : letB (g d) = false := by
        unfold begB at hnb; unfold letB
        simp at hnb ⊢
        omega
      have h95 : ¬ g d = 95 := by
        unfold begB at hnb
        simp at hnb
        omega
      rw [hlB] at HL
      clear hc hnb hlB
      obtain ⟨v, bad, hv1, hv2, hA⟩ := HA.out _ hEx
      have HA2 := Lib.hid hA
      clear hA HA
      go_enter Tryd.func63, Tryd.ntmps63
      go_wp2_with (first
        | (go_at_call 55; refine (HD.out _).mono ?_; rintro e w1 ⟨rfl, rfl⟩)
        | (go_at_call 77; refine (HL.out _).mono ?_; rintro e w1 ⟨rfl, rfl⟩))
      refine HA2.out.mono ?_
      rintro e w1 ⟨⟨x, rfl, hx1, hx2⟩, hb1⟩
      have hbx := block_below (heap_alloc_new w _) hb1 (by simp)
      have hb2 := ((Below.refl w.heap.size w).alloc (Nat.le_refl _) _).trans (hb1.mono (by simp))
      obtain ⟨c0, c1, c2, f0, f1, f2⟩ := wd_facts hbx
      cases bad with
      | true =>
        obtain ⟨N, rfl⟩ := hx2 rfl
        rw [if_pos (.inr (by have := hv2 rfl; omega))] at hR
        subst hR
        go_wp2_with fail
        exact bodyPost_ret (v := .tuple #[.agg #[.int .i64 0, .string ByteArray.empty, .int .i64 0], .int .i64 (i : Int)]) (by simp [results, Tryd.results63, go_sem, c0, c1, c2, World.cell?_setCell_same, World.cell?_setCell_other]; rfl) rfl ⟨rfl, wd_below hb2 (Nat.le_refl _) _ _ _⟩
      | false =>
        obtain rfl := hx1 rfl
        have hv := hv1 rfl
        by_cases h48 : g i = 48
        · rw [if_pos (.inl h48)] at hR
          subst hR
          go_wp2_with fail
          exact bodyPost_ret (v := .tuple #[.agg #[.int .i64 0, .string ByteArray.empty, .int .i64 0], .int .i64 (i : Int)]) (by simp [results, Tryd.results63, go_sem, c0, c1, c2, World.cell?_setCell_same, World.cell?_setCell_other]; rfl) rfl ⟨rfl, wd_below hb2 (Nat.le_refl _) _ _ _⟩
        · by_cases h5 : 50000 < V
          · rw [if_pos (.inr h5)] at hR
            subst hR
            have h5' : (50000 : Int) < v := by omega
            go_wp2_with fail
            exact bodyPost_ret (v := .tuple #[.agg #[.int .i64 0, .string ByteArray.empty, .int .i64 0], .int .i64 (i : Int)]) (by simp [results, Tryd.results63, go_sem, c0, c1, c2, World.cell?_setCell_same, World.cell?_setCell_other]; rfl) rfl ⟨rfl, wd_below hb2 (Nat.le_refl _) _ _ _⟩
          · rw [if_neg (by omega)] at hR
            subst hR
            subst hv
            have d48 : (g i == 48) = false := by simpa using h48
            have d5 : decide (50000 < V) = false := by simp; omega
            have d6 : decide ((50000 : Int) < (V : Int)) = false := by simp; omega
            go_wp2_with fail
            refine (HW.out _).mono ?_
            rintro e w2 ⟨rfl, hb3⟩
            have hbx2 := block_below hbx hb3 (lt_of_block hbx)
            have hb4 := hb2.trans (hb3.mono hb2.size)
            obtain ⟨c0, c1, c2, f0, f1, f2⟩ := wd_facts hbx2
            go_wp2_with fail
            exact bodyPost_ret (v := .tuple #[.agg #[.int .i64 3, .string (s.extract i d), .int .i64 (i : Int)], .int .i64 (d : Int)]) (by simp [results, Tryd.results63, go_sem, c0, c1, c2, World.cell?_setCell_same, World.cell?_setCell_other]) rfl ⟨wdTells_mk rfl rfl, wd_below hb4 (Nat.le_refl _) _ _ _⟩
    · clear hc
      obtain ⟨v, bad, hv1, hv2, hA⟩ := HA.out _ hEx
      have HA2 := Lib.hid hA
      clear hA HA
      go_enter Tryd.func63, Tryd.ntmps63
      go_wp2_with (first
        | (go_at_call 55; refine (HD.out _).mono ?_; rintro e w1 ⟨rfl, rfl⟩)
        | (go_at_call 77; refine (HL.out _).mono ?_; rintro e w1 ⟨rfl, rfl⟩))
      refine HA2.out.mono ?_
      rintro e w1 ⟨⟨x, rfl, hx1, hx2⟩, hb1⟩
      have hbx := block_below (heap_alloc_new w _) hb1 (by simp)
      have hb2 := ((Below.refl w.heap.size w).alloc (Nat.le_refl _) _).trans (hb1.mono (by simp))
      obtain ⟨c0, c1, c2, f0, f1, f2⟩ := wd_facts hbx
      cases bad with
      | true =>
        obtain ⟨N, rfl⟩ := hx2 rfl
        rw [if_pos (.inr (by have := hv2 rfl; omega))] at hR
        subst hR
        go_wp2_with fail
        exact bodyPost_ret (v := .tuple #[.agg #[.int .i64 0, .string ByteArray.empty, .int .i64 0], .int .i64 (i : Int)]) (by simp [results, Tryd.results63, go_sem, c0, c1, c2, World.cell?_setCell_same, World.cell?_setCell_other]; rfl) rfl ⟨rfl, wd_below hb2 (Nat.le_refl _) _ _ _⟩
      | false =>
        obtain rfl := hx1 rfl
        have hv := hv1 rfl
        by_cases h48 : g i = 48
        · rw [if_pos (.inl h48)] at hR
          subst hR
          go_wp2_with fail
          exact bodyPost_ret (v := .tuple #[.agg #[.int .i64 0, .string ByteArray.empty, .int .i64 0], .int .i64 (i : Int)]) (by simp [results, Tryd.results63, go_sem, c0, c1, c2, World.cell?_setCell_same, World.cell?_setCell_other]; rfl) rfl ⟨rfl, wd_below hb2 (Nat.le_refl _) _ _ _⟩
        · by_cases h5 : 50000 < V
          · rw [if_pos (.inr h5)] at hR
            subst hR
            have h5' : (50000 : Int) < v := by omega
            go_wp2_with fail
            exact bodyPost_ret (v := .tuple #[.agg #[.int .i64 0, .string ByteArray.empty, .int .i64 0], .int .i64 (i : Int)]) (by simp [results, Tryd.results63, go_sem, c0, c1, c2, World.cell?_setCell_same, World.cell?_setCell_other]; rfl) rfl ⟨rfl, wd_below hb2 (Nat.le_refl _) _ _ _⟩
          · rw [if_neg (by omega)] at hR
            subst hR
            subst hv
            have d48 : (g i == 48) = false := by simpa using h48
            have d5 : decide (50000 < V) = false := by simp; omega
            have d6 : decide ((50000 : Int) < (V : Int)) = false := by simp; omega
            go_wp2_with fail
            refine (HW.out _).mono ?_
            rintro e w2 ⟨rfl, hb3⟩
            have hbx2 := block_below hbx hb3 (lt_of_block hbx)
            have hb4 := hb2.trans (hb3.mono hb2.size)
            obtain ⟨c0, c1, c2, f0, f1, f2⟩ := wd_facts hbx2
            go_wp2_with fail
            exact bodyPost_ret (v := .tuple #[.agg #[.int .i64 3, .string (s.extract i d), .int .i64 (i : Int)], .int .i64 (d : Int)]) (by simp [results, Tryd.results63, go_sem, c0, c1, c2, World.cell?_setCell_same, World.cell?_setCell_other]) rfl ⟨wdTells_mk rfl rfl, wd_below hb4 (Nat.le_refl _) _ _ _⟩

end Go.Proofs.YtmpdpgbcflogfaaDoor
