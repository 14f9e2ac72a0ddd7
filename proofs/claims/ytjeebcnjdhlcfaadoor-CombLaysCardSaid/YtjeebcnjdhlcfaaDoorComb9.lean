/- z.EqComb, comb.Get, the document's Get. -/
import Derived.Test.YtjeebcnjdhlcfaaDoorComb8
import Derived.Test.YtjeebcnjdhlcfaaDoorHas
namespace Go.Proofs.YtjeebcnjdhlcfaaDoor
open Go.RowKit
set_option linter.unusedVariables false
set_option linter.unusedSimpArgs false

def CombV (w : World) (x : Value) (s : CombS) : Prop := ∃ bv vv kv, x = .agg #[bv, vv, kv] ∧ IntsV w bv s.1 ∧ IntsV w vv s.2.2 ∧ IntsV w kv s.2.1
theorem CombV.below {w w' : World} {x : Value} {s : CombS} (h : CombV w x s) (hb : Below w.heap.size w w') : CombV w' x s := by
  obtain ⟨bv, vv, kv, rfl, h1, h2, h3⟩ := h
  exact ⟨bv, vv, kv, rfl, h1.below hb, h2.below hb, h3.below hb⟩
def eqCombB (s t : CombS) : Bool := (s.1 == t.1) && ((s.2.2 == t.2.2) && (s.2.1 == t.2.1))
theorem eqCombB_refl (s : CombS) : eqCombB s s = true := by simp [eqCombB]

set_option maxRecDepth 100000 in
set_option maxHeartbeats 4000000 in
theorem eqComb_any (x y : Value) (s t : CombS) (w : World) (hx : CombV w x s) (hy : CombV w y t) :
    Calls Tryd.prog 12 #[x, y] w fun e w' => e = .returned (.bool (eqCombB s t)) ∧ Below w.heap.size w w' := by
  obtain ⟨b1, v1, k1, rfl, hb1, hv1, hk1⟩ := hx
  obtain ⟨b2, v2, k2, rfl, hb2, hv2, hk2⟩ := hy
  have HB := Lib.hid (fun (W : World) (hW : Below w.heap.size w W) => eqInts_any b1 b2 s.1 t.1 W (hb1.below hW) (hb2.below hW))
  have HV := Lib.hid (fun (W : World) (hW : Below w.heap.size w W) => eqInts_any v1 v2 s.2.2 t.2.2 W (hv1.below hW) (hv2.below hW))
  have HK := Lib.hid (fun (W : World) (hW : Below w.heap.size w W) => eqInts_any k1 k2 s.2.1 t.2.1 W (hk1.below hW) (hk2.below hW))
  have hR : Hid (eqCombB s t = ((s.1 == t.1) && ((s.2.2 == t.2.2) && (s.2.1 == t.2.1)))) := Lib.hid rfl
  generalize eqCombB s t = R at hR ⊢
  have hba := ((Below.refl w.heap.size w).alloc (Nat.le_refl _) (.cells #[b1, v1, k1] 30)).alloc (by simp) (.cells #[b2, v2, k2] 30)
  have hc1 : ∀ (W : World) (i : Nat) (u : Value), Below ((w.alloc (.cells #[b1, v1, k1] 30)).alloc (.cells #[b2, v2, k2] 30)).heap.size ((w.alloc (.cells #[b1, v1, k1] 30)).alloc (.cells #[b2, v2, k2] 30)) W → #[b1, v1, k1][i]? = some u → W.cell? ⟨w.heap.size, i, none⟩ = some u := fun W i u hW hu => by
    rw [hW.cell (p := ⟨w.heap.size, i, none⟩) (by simp; omega), World.cell?_alloc_past _ _ _ (by simp), World.cell?_alloc_at _ _ _ _ rfl]; exact hu
  have hc2 : ∀ (W : World) (i : Nat) (u : Value), Below ((w.alloc (.cells #[b1, v1, k1] 30)).alloc (.cells #[b2, v2, k2] 30)).heap.size ((w.alloc (.cells #[b1, v1, k1] 30)).alloc (.cells #[b2, v2, k2] 30)) W → #[b2, v2, k2][i]? = some u → W.cell? ⟨w.heap.size + 1, i, none⟩ = some u := fun W i u hW hu => by
    rw [hW.cell (p := ⟨w.heap.size + 1, i, none⟩) (by simp), World.cell?_alloc_at _ _ _ _ (by simp)]; exact hu
  have HC1 := Lib.hid hc1
  have HC2 := Lib.hid hc2
  clear hc1 hc2 hb1 hb2 hv1 hv2 hk1 hk2
  go_enter Tryd.func12, Tryd.ntmps12
  go_wp2_with fail
  refine (HB.out _ hba).mono ?_
  rintro e w1 ⟨rfl, h1⟩
  have hw1 := hba.trans (h1.mono (by simp; omega))
  have q1 := HC1.out w1 1 v1 h1 rfl
  have q2 := HC2.out w1 1 v2 h1 rfl
  have q3 := HC1.out w1 2 k1 h1 rfl
  have q4 := HC2.out w1 2 k2 h1 rfl
  cases hA : (s.1 == t.1) with
  | false =>
    rw [hA] at hR
    have HA := Lib.hid hA
    clear hA
    go_wp2_with fail
    go_ret
    exact ⟨ret_bool (by rw [hR.out]; rfl), hw1⟩
  | true =>
    rw [hA] at hR
    have HA := Lib.hid hA
    clear hA
    go_wp2_with fail
    refine (HV.out _ hw1).mono ?_
    rintro e w2 ⟨rfl, h2⟩
    have hw2 := hw1.trans (h2.mono hw1.size)
    have h12 := h1.trans (h2.mono h1.size)
    have r3 := HC1.out w2 2 k1 h12 rfl
    have r4 := HC2.out w2 2 k2 h12 rfl
    clear q1 q2 q3 q4
    cases hA2 : (s.2.2 == t.2.2) with
    | false =>
      rw [hA2] at hR
      have HA2 := Lib.hid hA2
      clear hA2
      go_wp2_with fail
      go_ret
      exact ⟨ret_bool (by rw [hR.out]; rfl), hw2⟩
    | true =>
      rw [hA2] at hR
      have HA2 := Lib.hid hA2
      clear hA2
      go_wp2_with fail
      refine (HK.out _ hw2).mono ?_
      rintro e w3 ⟨rfl, h3⟩
      have hw3 := hw2.trans (h3.mono hw2.size)
      go_wp2_with fail
      go_ret
      exact ⟨ret_bool (by rw [hR.out]; rfl), hw3⟩

def getTo (row : List Pr) (k : Int) (j : Nat) : Prop := ∀ i, i < j → (row.getD i (0, 0)).1 ≠ k
theorem getS_at {row : List Pr} {k : Int} {j : Nat} (hj : j < row.length) (h : getTo row k j) (he : (row.getD j (0, 0)).1 = k) : getS row k = ((row.getD j (0, 0)).2, true) := by
  unfold getS
  have hx : row[j] = row.getD j (0, 0) := by rw [List.getD_eq_getElem?_getD, List.getElem?_eq_getElem hj]; rfl
  have : row.find? (fun p => p.1 == k) = some row[j] := by
    rw [List.find?_eq_some_iff_getElem]
    refine ⟨by rw [hx]; simpa using he, j, hj, rfl, fun i hi => ?_⟩
    have := h i hi
    rw [List.getD_eq_getElem?_getD, List.getElem?_eq_getElem (by omega)] at this
    simpa using this
  rw [this, hx]
theorem getS_end {row : List Pr} {k : Int} {j : Nat} (hj : row.length ≤ j) (h : getTo row k j) : getS row k = (0, false) := by
  refine getS_none (fun p hp e => ?_)
  obtain ⟨i, hi, rfl⟩ := List.mem_iff_getElem.1 hp
  refine h i (by omega) ?_
  rw [List.getD_eq_getElem?_getD, List.getElem?_eq_getElem hi]; exact e

def TellsPair (r : Int × Bool) (w : World) (e : Ending) (w' : World) : Prop := e = .returned (.tuple #[.int .i64 r.1, .bool r.2]) ∧ Below w.heap.size w w'

theorem refGet_any (v : Value) (row : List Pr) (k : Int) (w : World) (h : PairsV w v row) :
    Calls Tryd.prog 15 #[v, .int .i64 k] w (TellsPair (getS row k) w) := by
  obtain ⟨a, n, c, rfl, hn, hnc, hcm, hx⟩ := h.open
  clear h
  go_enter Tryd.func15, Tryd.ntmps15
  go_wp2_with fail
  go_loop [6] (fun i => ∃ j : Nat, j ≤ n ∧ i = .int .i64 (j : Int) ∧ Hid (getTo row k j)) (fun i => n - (intOf i).toNat)
  case atStart => exact ⟨0, Nat.zero_le _, rfl, Lib.hid (fun i hi => absurd hi (Nat.not_lt_zero _))⟩
  case round =>
    obtain ⟨j, hj, rfl, hp⟩ := hrel
    by_cases hlt : j < n
    · obtain ⟨b, o, rfl, c1, c2⟩ := hx.out j hlt
      have hjl : j < row.length := by have := hn.out; omega
      by_cases he : (row.getD j (0, 0)).1 = k
      · have HX := Lib.hid (getS_at hjl hp.out he)
        have h1 : ((row.getD j (0, 0)).1 == k) = true := by rw [beq_iff_eq]; exact he
        clear he
        generalize row.getD j (0, 0) = p at c1 c2 h1 HX
        obtain ⟨pa, pv⟩ := p
        simp only at c1 c2 h1
        go_wp2_with fail
        go_ret2
        exact ⟨by rw [HX.out]; rfl, Below.refl _ _⟩
      · have h1 : ((row.getD j (0, 0)).1 == k) = false := by rw [beq_eq_false_iff_ne]; exact he
        have HN : Hid (getTo row k (j + 1)) := Lib.hid (fun i hi => by
          by_cases e : i = j
          · subst e; exact he
          · exact hp.out i (by omega))
        clear he
        generalize row.getD j (0, 0) = p at c1 c2 h1
        obtain ⟨pa, pv⟩ := p
        simp only at c1 c2 h1
        go_wp2_with fail
        go_round
        case rel => exact ⟨j + 1, by omega, by go_num, HN⟩
        case measure => simp [intOf]; omega
    · have HX := Lib.hid (getS_end (by have := hn.out; omega) hp.out)
      go_wp2_with fail
      go_ret2
      exact ⟨by rw [HX.out]; rfl, Below.refl _ _⟩

set_option maxHeartbeats 2000000 in
theorem get_any (x : Value) (s : CombS) (i k : Int) (w : World) (hx : CombV w x s) (hl : s.2.1.length = s.2.2.length) (hb : ∀ i, 0 ≤ s.1.getD i 0 ∧ s.1.getD i 0 ≤ 1000000) (hib : i < s.1.length → i ≤ 9223372036854775806) :
    Calls Tryd.prog 16 #[x, .int .i64 i, .int .i64 k] w (TellsPair (combGet s i k) w) := by
  obtain ⟨bv, vv, kv, rfl, h1, h2, h3⟩ := hx
  obtain ⟨ba, bn, bc, rfl, hbn, hbc, hbm, hbx⟩ := h1.open
  obtain ⟨va, vn, vc, rfl, hvn, hvc, hvm, hvx⟩ := h2.open
  obtain ⟨ka, kn, kc, rfl, hkn, hkc, hkm, hkx⟩ := h3.open
  have hkv : kn = vn := by rw [hkn.out, hvn.out, hl]
  subst hkv
  have hin := Lib.hid (fun W => inRow_any k W)
  clear h1 h2 h3 hl
  by_cases hA : i < 0 ∨ (s.1.length : Int) ≤ i ∨ k < 0 ∨ 999 < k
  · have HX : Hid (combGet s i k = (0, false)) := Lib.hid (by unfold combGet; rw [if_pos hA])
    generalize combGet s i k = R at HX ⊢
    by_cases hi0 : i < 0
    · clear hA
      go_enter Tryd.func16, Tryd.ntmps16
      go_wp2_with fail
      go_ret2
      exact ⟨by rw [HX.out]; rfl, (Below.refl _ _).alloc (Nat.le_refl _) _⟩
    · by_cases hi1 : (bn : Int) ≤ i
      · clear hA
        go_enter Tryd.func16, Tryd.ntmps16
        go_wp2_with fail
        go_ret2
        exact ⟨by rw [HX.out]; rfl, (Below.refl _ _).alloc (Nat.le_refl _) _⟩
      · have hk : decide (0 ≤ k ∧ k ≤ 999) = false := decide_eq_false (by have := hbn.out; omega)
        rw [hk] at hin
        clear hA hk
        go_enter Tryd.func16, Tryd.ntmps16
        go_wp2_with (first | (go_at_call 26; refine (hin.out _).mono ?_; rintro e w9 ⟨rfl, rfl⟩))
        go_ret2
        exact ⟨by rw [HX.out]; rfl, (Below.refl _ _).alloc (Nat.le_refl _) _⟩
  · obtain ⟨r, rfl⟩ := Int.eq_ofNat_of_zero_le (show 0 ≤ i by omega)
    have hk : decide (0 ≤ k ∧ k ≤ 999) = true := decide_eq_true (by omega)
    rw [hk] at hin
    have hrb : r < bn := by have := hbn.out; omega
    obtain ⟨b1, o1, rfl, c1⟩ := hbx.out r hrb
    have hb1 := hb r
    have hib' : (r : Int) ≤ 9223372036854775806 := hib (by omega)
    have HX : Hid (combGet s (r : Int) k = if (s.2.2.length : Int) ≤ s.1.getD r 0 + k ∨ s.2.1.getD (s.1.getD r 0 + k).toNat 0 ≠ (r : Int) + 1 then (0, false) else (s.2.2.getD (s.1.getD r 0 + k).toNat 0, true)) := Lib.hid (by
      unfold combGet; rw [if_neg hA]; rfl)
    generalize combGet s (r : Int) k = R at HX ⊢
    generalize s.1.getD r 0 = B at c1 hb1 HX
    have hk0 : 0 ≤ k ∧ k ≤ 999 := by omega
    obtain ⟨hk0, hk9⟩ := hk0
    have hrI : (r : Int) < (bn : Int) := by omega
    have hr0 : ¬ (r : Int) < 0 := by omega
    have hrn : ¬ (bn : Int) ≤ (r : Int) := by omega
    obtain ⟨m, hm⟩ : ∃ m : Nat, B + k = (m : Int) := ⟨(B + k).toNat, by omega⟩
    rw [hm, Int.toNat_natCast, ← hvn.out] at HX
    obtain ⟨hB0, hB1⟩ := hb1
    clear hA hk hb hbn hbc hbm hbx
    by_cases hmv : kn ≤ m
    · have HX2 : Hid (R = (0, false)) := Lib.hid (by rw [HX.out, if_pos (.inl (by omega))])
      have hmI : (kn : Int) ≤ B + k := by omega
      replace c1 := ((((Below.refl w.heap.size w).alloc (Nat.le_refl _) (.cells #[.slice (some ⟨b1, o1, none⟩) bn bc, .slice va kn vc, .slice ka kn kc] 30)).cell (World.block_lt_of_cell? _ _ c1)).trans c1)
      clear hm HX
      go_enter Tryd.func16, Tryd.ntmps16
      go_wp2_with (first | (go_at_call 26; refine (hin.out _).mono ?_; rintro e w9 ⟨rfl, rfl⟩))
      go_ret2
      exact ⟨by rw [HX2.out]; rfl, (Below.refl _ _).alloc (Nat.le_refl _) _⟩
    · obtain ⟨b2, o2, rfl, c2⟩ := hkx.out m (by omega)
      obtain ⟨b3, o3, rfl, c3⟩ := hvx.out m (by omega)
      have hmI : ¬ (kn : Int) ≤ B + k := by omega
      have hmI2 : B + k < (kn : Int) := by omega
      have hmI3 : 0 ≤ B + k := by omega
      have hmT : (B + k).toNat = m := by omega
      by_cases he : s.2.1.getD m 0 = (r : Int) + 1
      · have HX2 : Hid (R = (s.2.2.getD m 0, true)) := Lib.hid (by rw [HX.out, if_neg (by omega)])
        have h1 : (s.2.1.getD m 0 != (r : Int) + 1) = false := by rw [bne_eq_false_iff_eq]; exact he
        have hbx9 := (Below.refl w.heap.size w).alloc (Nat.le_refl _) (.cells #[.slice (some ⟨b1, o1, none⟩) bn bc, .slice (some ⟨b3, o3, none⟩) kn vc, .slice (some ⟨b2, o2, none⟩) kn kc] 30)
        replace c1 := (hbx9.cell (World.block_lt_of_cell? _ _ c1)).trans c1
        replace c2 := (hbx9.cell (World.block_lt_of_cell? _ _ c2)).trans c2
        replace c3 := (hbx9.cell (World.block_lt_of_cell? _ _ c3)).trans c3
        clear he hm HX hmv hvx hkx hbx9
        generalize s.2.1.getD m 0 = K at c2 h1
        generalize s.2.2.getD m 0 = V at c3 HX2
        go_enter Tryd.func16, Tryd.ntmps16
        go_wp2_with (first | (go_at_call 26; refine (hin.out _).mono ?_; rintro e w9 ⟨rfl, rfl⟩))
        go_ret2
        exact ⟨by rw [HX2.out]; rfl, (Below.refl _ _).alloc (Nat.le_refl _) _⟩
      · have HX2 : Hid (R = (0, false)) := Lib.hid (by rw [HX.out, if_pos (.inr he)])
        have h1 : (s.2.1.getD m 0 != (r : Int) + 1) = true := by rw [bne_iff_ne]; exact he
        have hbx9 := (Below.refl w.heap.size w).alloc (Nat.le_refl _) (.cells #[.slice (some ⟨b1, o1, none⟩) bn bc, .slice (some ⟨b3, o3, none⟩) kn vc, .slice (some ⟨b2, o2, none⟩) kn kc] 30)
        replace c1 := (hbx9.cell (World.block_lt_of_cell? _ _ c1)).trans c1
        replace c2 := (hbx9.cell (World.block_lt_of_cell? _ _ c2)).trans c2
        replace c3 := (hbx9.cell (World.block_lt_of_cell? _ _ c3)).trans c3
        clear he hm HX hmv hvx hkx hbx9
        generalize s.2.1.getD m 0 = K at c2 h1
        go_enter Tryd.func16, Tryd.ntmps16
        go_wp2_with (first | (go_at_call 26; refine (hin.out _).mono ?_; rintro e w9 ⟨rfl, rfl⟩))
        go_ret2
        exact ⟨by rw [HX2.out]; rfl, (Below.refl _ _).alloc (Nat.le_refl _) _⟩
end Go.Proofs.YtjeebcnjdhlcfaaDoor
