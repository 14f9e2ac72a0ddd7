/- May a symbol, a declaration, an alternative be? The document's. -/
import Derived.Test.YtnoppoifepbchaaDoorEnvP
import Derived.Test.YtnoppoifepbchaaDoorQuote
import Derived.Test.YtnoppoifepbchaaDoorSame2
namespace Go.Proofs.YtnoppoifepbchaaDoor
open Go.RowKit
set_option linter.unusedVariables false
set_option linter.unusedSimpArgs false

def noneB (x : Sm) : Bool := decide (x.name.size = 0 ∧ x.lit = false ∧ x.num = 0)
def symB (num lit : Bool) (x : Sm) : Bool :=
  if x.lit = true then decide (lit = true ∧ x.name.size = 1 ∧ x.num = 0 ∧ quotB (gAt x.name 0) = true)
  else decide (isNameB x.name = true ∧ (x.num = 0 ∨ num = true ∧ 1 ≤ x.num ∧ x.num ≤ 50000))
def mayPt (p : Pt) : Bool := if p.code.size = 0 then symB false true p.sym else noneB p.sym && decide (endS p.code 0 = p.code.size)
def mayAl (a : Al) : Bool := a.parts.all mayPt && (noneB a.prec || symB false true a.prec)
def mayRl (r : Rl) : Bool := isNameB r.left && (decide (r.alts.length ≠ 0) && r.alts.all mayAl)
def dcB (d : Dc) : Bool := decide (1 ≤ d.kind ∧ d.kind ≤ 6 ∧ d.syms.length ≠ 0 ∧ (d.kind = 6 → d.syms.length = 1 ∧ d.tag.size = 0) ∧ (d.kind = 5 → d.tag.size ≠ 0) ∧ (d.tag.size = 0 ∨ isNameB d.tag = true))
def mayDc (d : Dc) : Bool := dcB d && d.syms.all (symB (d.kind == 1) (decide (d.kind < 5)))

/-- names and texts are not too long -/
def SmSmall (x : Sm) : Prop := x.name.size ≤ 1000000
def PtSmall (p : Pt) : Prop := SmSmall p.sym ∧ p.code.size ≤ 1000000
def AlSmall (a : Al) : Prop := (∀ p ∈ a.parts, PtSmall p) ∧ SmSmall a.prec
def RlSmall (r : Rl) : Prop := r.left.size ≤ 1000000 ∧ ∀ a ∈ r.alts, AlSmall a
def DcSmall (d : Dc) : Prop := d.tag.size ≤ 1000000 ∧ ∀ x ∈ d.syms, SmSmall x
def SoSmall (s : So) : Prop := s.pro.size ≤ 1000000 ∧ s.tail.size ≤ 1000000 ∧ (∀ d ∈ s.decls, DcSmall d) ∧ ∀ r ∈ s.rules, RlSmall r

set_option maxRecDepth 100000 in
theorem none_any (x : Sm) (w : World) : Calls Tryd.prog 67 #[x.agg] w fun e w' => e = .returned (.bool (noneB x)) ∧ Below w.heap.size w w' := by
  have HR : Hid (noneB x = decide (x.name.size = 0 ∧ x.lit = false ∧ x.num = 0)) := Lib.hid rfl
  generalize noneB x = R at HR ⊢
  obtain ⟨n, l, m, p⟩ := x
  unfold Sm.agg
  simp only at HR ⊢
  by_cases h0 : n.size = 0
  · have d1 := str_empty h0
    have HR2 : Hid (R = decide (l = false ∧ m = 0)) := Lib.hid (by rw [HR.out]; simp [h0])
    clear HR h0
    cases l with
    | true =>
      go_enter Tryd.func67, Tryd.ntmps67
      go_wp2_with fail
      all_goals
        go_ret
        exact ⟨ret_bool (by rw [HR2.out, Bool.eq_iff_iff]; simp at *), (Below.refl _ _).alloc (Nat.le_refl _) _⟩
    | false =>
      go_enter Tryd.func67, Tryd.ntmps67
      go_wp2_with fail
      all_goals
        go_ret
        exact ⟨ret_bool (by rw [HR2.out, Bool.eq_iff_iff]; simp at *), (Below.refl _ _).alloc (Nat.le_refl _) _⟩
  · have d1 := str_some h0
    have HR2 : Hid (R = false) := Lib.hid (by rw [HR.out]; simp [h0])
    clear HR h0
    go_enter Tryd.func67, Tryd.ntmps67
    go_wp2_with fail
    all_goals
      go_ret
      exact ⟨ret_bool (by rw [HR2.out]), (Below.refl _ _).alloc (Nat.le_refl _) _⟩

set_option maxRecDepth 100000 in
set_option maxHeartbeats 4000000 in
theorem symbol_any (x : Sm) (num lit : Bool) (w : World) (hs : SmSmall x) : Calls Tryd.prog 66 #[x.agg, .bool num, .bool lit] w fun e w' => e = .returned (.bool (symB num lit x)) ∧ Below w.heap.size w w' := by
  have HR : Hid (symB num lit x = if x.lit = true then decide (lit = true ∧ x.name.size = 1 ∧ x.num = 0 ∧ quotB (gAt x.name 0) = true)
    else decide (isNameB x.name = true ∧ (x.num = 0 ∨ num = true ∧ 1 ≤ x.num ∧ x.num ≤ 50000))) := Lib.hid rfl
  generalize symB num lit x = R at HR ⊢
  obtain ⟨n, l, m, p⟩ := x
  unfold Sm.agg
  unfold SmSmall at hs
  simp only at HR hs ⊢
  have hg := fun j h => gAt_get n j h
  have HQ := Lib.hid (fun W => quoted_any (gAt n 0) W (gAt_lo n 0) (gAt_hi n 0))
  have HI := Lib.hid (fun W => rname_any n W hs)
  generalize gAt n = g at *
  cases l with
  | true =>
    have HR2 : Hid (R = decide (lit = true ∧ n.size = 1 ∧ m = 0 ∧ quotB (g 0) = true)) := Lib.hid (by rw [HR.out]; simp)
    clear HR HI
    generalize quotB (g 0) = qb at HQ HR2
    generalize quotC (g 0) = qc at HQ
    by_cases h1 : n.size = 1
    · have HR3 : Hid (R = decide (lit = true ∧ m = 0 ∧ qb = true)) := Lib.hid (by rw [HR2.out]; simp [h1])
      clear HR2
      cases lit <;> cases qb
      all_goals
        go_enter Tryd.func66, Tryd.ntmps66
        go_wp2_with (first | (go_at_call 52; rw [hg]; refine (HQ.out _).mono ?_; rintro e w' ⟨rfl, rfl⟩) | (go_at_call 52; refine (HQ.out _).mono ?_; rintro e w' ⟨rfl, rfl⟩))
        all_goals
          go_ret
          exact ⟨ret_bool (by rw [HR3.out, Bool.eq_iff_iff]; simp at *; try omega), (Below.refl _ _).alloc (Nat.le_refl _) _⟩
    · have HR3 : Hid (R = false) := Lib.hid (by rw [HR2.out]; simp [h1])
      have h2 : ((n.size : Int) != 1) = true := by simp; omega
      clear HR2 h1
      cases lit
      all_goals
        go_enter Tryd.func66, Tryd.ntmps66
        go_wp2_with fail
        all_goals
          go_ret
          exact ⟨ret_bool (by rw [HR3.out]), (Below.refl _ _).alloc (Nat.le_refl _) _⟩
  | false =>
    have HR2 : Hid (R = decide (isNameB n = true ∧ (m = 0 ∨ num = true ∧ 1 ≤ m ∧ m ≤ 50000))) := Lib.hid (by rw [HR.out]; simp)
    clear HR HQ
    generalize isNameB n = nb at HI HR2
    cases nb <;> cases num
    all_goals
      go_enter Tryd.func66, Tryd.ntmps66
      go_wp2_with (first | (go_at_call 24; refine (HI.out _).mono ?_; rintro e w' ⟨rfl, rfl⟩))
      all_goals
        go_ret
        exact ⟨ret_bool (by rw [HR2.out, Bool.eq_iff_iff]; simp at *; try omega), (Below.refl _ _).alloc (Nat.le_refl _) _⟩
end Go.Proofs.YtnoppoifepbchaaDoor
