/- Slices of slices of numbers; z.EqLists. -/
import Derived.Test.YtijnekbhpdcemaaDoorEqInts
import Derived.Deep.RegionWith
namespace Go.Proofs.YtijnekbhpdcemaaDoor
open Go.RowKit
set_option linter.unusedVariables false
set_option linter.unusedSimpArgs false

/-- a slice of slices of ints -/
def RowsV (w : World) (v : Value) (L : List (List Int)) : Prop :=
  ∃ vs : List Value, CellsV w v L.length vs ∧ vs.length = L.length ∧ ∀ i, i < L.length → IntsV w (vs.getD i undef) (L.getD i [])
theorem RowsV.below {w w' : World} {v : Value} {L : List (List Int)} (h : RowsV w v L) (hb : Below w.heap.size w w') : RowsV w' v L := by
  obtain ⟨vs, h1, h2, h3⟩ := h
  exact ⟨vs, h1.below hb, h2, fun i hi => (h3 i hi).below hb⟩
theorem RowsV.open {w : World} {v : Value} {L : List (List Int)} (h : RowsV w v L) : ∃ a n c, v = .slice a n c ∧ Hid (n = L.length) ∧ n ≤ c ∧ c ≤ 9223372036854775807 ∧
    Hid (∀ i, i < n → ∃ b off u, a = some ⟨b, off, none⟩ ∧ w.cell? ⟨b, off + i, none⟩ = some u ∧ IntsV w u (L.getD i [])) := by
  obtain ⟨vs, ⟨a, c, hv, hn, hc, _, hx⟩, h2, h3⟩ := h
  refine ⟨a, _, c, hv, Lib.hid rfl, hn, hc, Lib.hid (fun i hi => ?_)⟩
  obtain ⟨b, off, ha, hcell⟩ := hx i (by omega)
  exact ⟨b, off, _, ha, hcell, h3 i hi⟩

theorem eqL_take (A B : List (List Int)) (h : A.length = B.length) (k : Nat) (hk : A.length ≤ k) (hp : ∀ i, i < k → A.getD i [] = B.getD i []) : (A == B) = true := by
  rw [beq_iff_eq]
  apply List.ext_getElem h
  intro i h1 h2
  have := hp i (by omega)
  rw [List.getD_eq_getElem?_getD, List.getD_eq_getElem?_getD, List.getElem?_eq_getElem h1, List.getElem?_eq_getElem h2] at this
  simpa using this
theorem eqL_not (A B : List (List Int)) (k : Nat) (hp : A.getD k [] ≠ B.getD k []) : (A == B) = false := by
  rw [beq_eq_false_iff_ne]
  intro h; exact hp (by rw [h])
theorem eqL_len (A B : List (List Int)) (hp : A.length ≠ B.length) : (A == B) = false := by
  rw [beq_eq_false_iff_ne]
  intro h; exact hp (by rw [h])

set_option maxRecDepth 100000 in
theorem eqLists_any (va vb : Value) (A B : List (List Int)) (w : World) (ha : RowsV w va A) (hb : RowsV w vb B) :
    Calls Tryd.prog 35 #[va, vb] w fun e w' => e = .returned (.bool (A == B)) ∧ Below w.heap.size w w' := by
  obtain ⟨a, m, ca, rfl, hm, hmc, hml, ha⟩ := ha.open
  obtain ⟨b, m', cb, rfl, hm', hmc', hml', hb⟩ := hb.open
  by_cases hne : m = m'
  · obtain rfl := hne
    have h1 : (((m : Int)) != ((m : Int))) = false := by simp
    go_enter Tryd.func35, Tryd.ntmps35
    go_wp2_with fail
    go_loopw [5] (fun i wr => ∃ k : Nat, k ≤ m ∧ i = .int .i64 k ∧ Below w.heap.size w wr ∧ Hid (∀ j, j < k → A.getD j [] = B.getD j [])) (fun i _ => m - (intOf i).toNat)
    case atStart => exact ⟨0, Nat.zero_le _, rfl, Below.refl _ _, Lib.hid (fun j hj => absurd hj (Nat.not_lt_zero _))⟩
    case round =>
      obtain ⟨k, hk, rfl, hbr, hp⟩ := hrel
      by_cases hlt : k < m
      · obtain ⟨b1, o1, u1, rfl, c1, i1⟩ := ha.out k hlt
        obtain ⟨b2, o2, u2, rfl, c2, i2⟩ := hb.out k (by omega)
        replace c1 := (hbr.cell (World.block_lt_of_cell? _ _ c1)).trans c1
        replace c2 := (hbr.cell (World.block_lt_of_cell? _ _ c2)).trans c2
        have HQ := Lib.hid (fun (W : World) (hW : Below w.heap.size w W) => eqInts_any u1 u2 (A.getD k []) (B.getD k []) W (i1.below hW) (i2.below hW))
        clear i1 i2
        cases hq : (A.getD k [] == B.getD k []) with
        | true =>
          rw [hq] at HQ
          have hp2 : Hid (∀ j, j < k + 1 → A.getD j [] = B.getD j []) := Lib.hid (fun j hj => by
            by_cases e : j = k
            · subst e; exact beq_iff_eq.1 hq
            · exact hp.out j (by omega))
          clear hp hq
          go_wp2_with fail
          go_region_with (go_at_call 18; refine (HQ.out _ (by first | exact hbr | exact hbr.drew)).mono ?_; rintro e w9 ⟨rfl, hb9⟩)
          all_goals
            have hb10 : Below w.heap.size w w9 := hbr.drew.trans (hb9.mono hbr.size)
            go_wp2_with fail
            go_roundw
            case rel => exact ⟨k + 1, by omega, by go_num, hb10, hp2⟩
            case measure => simp [intOf]; omega
        | false =>
          have HX := Lib.hid (eqL_not A B k (by rw [beq_eq_false_iff_ne] at hq; exact hq))
          rw [hq] at HQ
          clear hp hq
          go_wp2_with fail
          go_region_with (go_at_call 18; refine (HQ.out _ (by first | exact hbr | exact hbr.drew)).mono ?_; rintro e w9 ⟨rfl, hb9⟩)
          all_goals
            have hb10 : Below w.heap.size w w9 := hbr.drew.trans (hb9.mono hbr.size)
            go_wp2_with fail
            go_ret
            exact ⟨ret_bool HX.out.symm, hb10⟩
      · have hx := eqL_take A B (by rw [← hm.out, ← hm'.out]) k (by have := hm.out; omega) hp.out
        have HX := Lib.hid hx
        clear hx
        go_wp2_with fail
        go_ret
        exact ⟨ret_bool HX.out.symm, hbr⟩
  · have h1 : (((m : Int)) != ((m' : Int))) = true := by simp; omega
    have HX := Lib.hid (eqL_len A B (by rw [← hm.out, ← hm'.out]; exact hne))
    go_enter Tryd.func35, Tryd.ntmps35
    go_wp2_with fail
    go_ret
    exact ⟨ret_bool HX.out.symm, Below.refl _ _⟩

end Go.Proofs.YtijnekbhpdcemaaDoor
