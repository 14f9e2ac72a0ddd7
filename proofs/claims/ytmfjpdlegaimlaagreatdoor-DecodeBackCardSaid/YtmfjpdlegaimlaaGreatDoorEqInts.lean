/- z.EqInts tells whether two lists of numbers are the same. -/
import Derived.Test.YtmfjpdlegaimlaaGreatDoorChecked
import Derived.Test.YtmfjpdlegaimlaaGreatDoorApp
namespace Go.Proofs.YtmfjpdlegaimlaaGreatDoor
open Go.RowKit
set_option linter.unusedVariables false

theorem eq_take (la lb : List Int) (h : la.length = lb.length) (k : Nat) (hk : la.length ≤ k) (hp : ∀ i, i < k → la.getD i 0 = lb.getD i 0) : (la == lb) = true := by
  rw [beq_iff_eq]
  apply List.ext_getElem h
  intro i h1 h2
  have := hp i (by omega)
  rw [List.getD_eq_getElem?_getD, List.getD_eq_getElem?_getD, List.getElem?_eq_getElem h1, List.getElem?_eq_getElem h2] at this
  simpa using this

theorem eq_not (la lb : List Int) (k : Nat) (hp : la.getD k 0 ≠ lb.getD k 0) : (la == lb) = false := by
  rw [beq_eq_false_iff_ne]
  intro h; exact hp (by rw [h])

theorem eq_len (la lb : List Int) (hp : la.length ≠ lb.length) : (la == lb) = false := by
  rw [beq_eq_false_iff_ne]
  intro h; exact hp (by rw [h])

theorem eqInts_any (va vb : Value) (la lb : List Int) (w : World) (ha : IntsV w va la) (hb : IntsV w vb lb) :
    Calls Tryz.prog 12 #[va, vb] w fun e w' => e = .returned (.bool (la == lb)) ∧ Below w.heap.size w w' := by
  obtain ⟨a, m, ca, rfl, hm, hmc, hml, ha⟩ := ha.open
  obtain ⟨b, m', cb, rfl, hm', hmc', hml', hb⟩ := hb.open
  by_cases hne : m = m'
  · obtain rfl := hne
    have h1 : (((m : Int)) != ((m : Int))) = false := by simp
    go_enter Tryz.func12, Tryz.ntmps12
    go_wp2
    go_loopw [5] (fun i wr => ∃ k n : Nat, k ≤ m ∧ i = .int .i64 k ∧ wr = w.drewN n ∧ Hid (∀ j, j < k → la.getD j 0 = lb.getD j 0)) (fun i _ => m - (intOf i).toNat)
    case atStart => exact ⟨0, 0, Nat.zero_le _, rfl, rfl, Lib.hid (fun j hj => absurd hj (Nat.not_lt_zero _))⟩
    case round =>
      obtain ⟨k, n, hk, rfl, rfl, hp⟩ := hrel
      by_cases hlt : k < m
      · obtain ⟨b1, o1, rfl, c1⟩ := ha.out k hlt
        obtain ⟨b2, o2, rfl, c2⟩ := hb.out k (by omega)
        go_wp2
        go_quiet (fail)
        go_wp2
        · have hx : (la[k]?.getD 0 != lb[k]?.getD 0) = true := by assumption
          have HX := Lib.hid (eq_not la lb k (by simpa using hx))
          go_ret
          exact ⟨ret_bool HX.out.symm, by rw [World.drewN_drewN]; exact ⟨rfl, rfl, rfl, Nat.le_refl _, fun _ _ => rfl⟩⟩
        · have hx : (la[k]?.getD 0 != lb[k]?.getD 0) = false := by assumption
          go_roundw
          case rel => exact ⟨k + 1, _, by omega, by go_num, rfl, Lib.hid (fun j hj => by
            by_cases e : j = k
            · subst e; simpa using hx
            · exact hp.out j (by omega))⟩
          case measure => simp [intOf]; omega
      · go_wp2
        go_ret
        have hx := eq_take la lb (by rw [← hm.out, ← hm'.out]) k (by have := hm.out; omega) hp.out
        exact ⟨ret_bool hx.symm, ⟨rfl, rfl, rfl, Nat.le_refl _, fun _ _ => rfl⟩⟩
  · have h1 : (((m : Int)) != ((m' : Int))) = true := by simp; omega
    have hx := eq_len la lb (by rw [← hm.out, ← hm'.out]; exact hne)
    have HX := Lib.hid hx; clear hx
    go_enter Tryz.func12, Tryz.ntmps12
    go_wp2
    go_ret
    exact ⟨ret_bool HX.out.symm, Below.refl _ _⟩
end Go.Proofs.YtmfjpdlegaimlaaGreatDoor
