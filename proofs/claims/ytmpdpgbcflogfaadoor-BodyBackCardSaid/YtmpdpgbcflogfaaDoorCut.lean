/- Cut: an action's text cut into pieces. -/
import Derived.Test.YtmpdpgbcflogfaaDoorPiece
import Derived.Test.YtmpdpgbcflogfaaDoorApp
import Derived.Maps.AppendAt
import Derived.Deep.AppendLies
import Derived.Deep.RegionHeld3
import Derived.Deep.DeepCutAuto
namespace Go.Proofs.YtmpdpgbcflogfaaDoor
open Go.RowKit
set_option linter.unusedVariables false

theorem Tryd.infoPiece : (Tryd.prog.info? 28).map (fun i => (i.zero, i.size, i.bytes)) = some (some (.agg #[.int .i64 0, .string ByteArray.empty, .int .i64 0, .string ByteArray.empty]), 4, 48) := by kernel_rfl

def pcs (L : List Pc) : List Value := L.flatMap Pc.cells
theorem pcs_len (L : List Pc) : (pcs L).length = L.length * 4 := by
  induction L with
  | nil => rfl
  | cons p L ih => unfold pcs at *; rw [List.flatMap_cons, List.length_append, ih]; simp [Pc.cells]; omega
theorem pcs_app (L M : List Pc) : pcs (L ++ M) = pcs L ++ pcs M := by unfold pcs; rw [List.flatMap_append]
theorem pcs_one (p : Pc) : pcs [p] = [.int .i64 p.kind, .string p.text, .int .i64 p.num, .string p.tag] := rfl
theorem pc_cells_one (p : Pc) : ∀ u ∈ pcs [p], u.oneCell' = true := by
  intro u hu
  rw [pcs_one] at hu
  simp at hu
  rcases hu with rfl | rfl | rfl | rfl <;> rfl

def txtL (s : ByteArray) : List Pc := if s.size = 0 then [] else [⟨1, s, 0, ByteArray.empty⟩]

/-- a row that grows -/
def RowGoes (base : Nat) (L : List Pc) (w : World) (v : Value) (e : Ending) (w' : World) : Prop :=
  ∃ v', e = .returned v' ∧ w'.ownsRow base 28 4 v' L.length (pcs L) ∧ w.grownBy w' v.ownBlock ∧ (v'.ownBlock = v.ownBlock ∨ ∃ g, v'.ownBlock = some g ∧ w.heap.size ≤ g)

theorem news4 (w : World) (a b c d : Value) (t : TypeId) : ∀ j u, [a, b, c, d][j]? = some u → (w.alloc (.cells #[a, b, c, d] t)).cell? ((⟨w.heap.size, 0, none⟩ : Addr).add j) = some u := by
  intro j u hj
  match j, hj with
  | 0, hj => simp at hj; subst hj; simp [Addr.add]
  | 1, hj => simp at hj; subst hj; simp [Addr.add]
  | 2, hj => simp at hj; subst hj; simp [Addr.add]
  | 3, hj => simp at hj; subst hj; simp [Addr.add]

theorem grown_alloc {w w' : World} {o : Obj} {r : Option Nat} (h : (w.alloc o).grownBy w' r) : w.grownBy w' r :=
  ((World.grownBy_alloc w o r)).trans h

set_option maxRecDepth 100000 in
theorem withText_any (v : Value) (L : List Pc) (t : ByteArray) (base : Nat) (w : World) (hown : w.ownsRow base 28 4 v L.length (pcs L)) (hb : base ≤ w.heap.size) (hL : L.length ≤ 1000000) :
    Calls Tryd.prog 39 #[v, .string t] w (RowGoes base (L ++ txtL t) w v) := by
  have hl : t.toList.length = t.size := by rw [Lib.toList_data]; rfl
  obtain ⟨i0, hi, hz0, hz1, hz2⟩ := info_parts Tryd.infoPiece
  by_cases h0 : t.size = 0
  · have d1 : t.toList = [] := List.eq_nil_of_length_eq_zero (by omega)
    have hT : Hid (txtL t = []) := Lib.hid (if_pos h0)
    have HO := Lib.hid hown
    clear hown
    clear hl h0
    go_enter Tryd.func39, Tryd.ntmps39
    go_wp2_with fail
    go_ret
    exact ⟨v, rfl, by rw [hT.out]; simpa using HO.out, ⟨rfl, rfl, rfl, Nat.le_refl _, fun _ _ _ => rfl⟩, .inl rfl⟩
  · have d1 : t.toList.isEmpty = false := by rw [List.isEmpty_eq_false_iff]; intro h; rw [h] at hl; exact h0 (by simpa using hl.symm)
    have hT : Hid (txtL t = [⟨1, t, 0, ByteArray.empty⟩]) := Lib.hid (if_neg h0)
    clear hl h0
    go_enter Tryd.func39, Tryd.ntmps39
    go_wp2_with (first | (at_builtin; refine wpList_append_own_at _ rfl _ _ 26 rfl base 28 i0 (.agg #[.int .i64 0, .string ByteArray.empty, .int .i64 0, .string ByteArray.empty]) 4 48 Tryd.underlying26 hi hz0 hz1 hz2 rfl (by decide) _ _ _ rfl (hown.alloc _) ⟨w.heap.size, 0, none⟩ 1 1 (pcs [⟨1, t, 0, ByteArray.empty⟩]) rfl rfl (news4 _ _ _ _ _ _) ?c2 ?c3 ?c4 ?c5 ?_))
    case c2 => exact pc_cells_one _
    case c3 => unfold maxLen; omega
    case c4 => omega
    case c5 => simp; omega
    intro v' w4 hown' hgrow _ hloc
    go_wp2_with fail
    go_ret
    refine ⟨v', rfl, ?_, grown_alloc hgrow, ?_⟩
    · rw [hT.out, pcs_app]; simpa using hown'
    · rcases hloc with h | h
      · exact .inl h
      · exact .inr ⟨_, h, by simp⟩

theorem pieceF_bd (s : ByteArray) (n : Nat) (g : Nat → Int) (i : Nat) (hi : i < n) (hk : (pieceF s n g i).1.kind ≠ 0) : i < (pieceF s n g i).2 ∧ (pieceF s n g i).2 ≤ n := by
  have h1 := tagF_bd n g (i + 1) (by omega)
  have h2 := digF_bd n g (tagF n g (i + 1)) h1.2
  rw [pieceF_eq] at hk ⊢
  split
  · simp; omega
  · rename_i h
    rw [if_neg h] at hk
    split
    · rename_i h3
      rw [if_pos h3] at hk
      exact absurd rfl hk
    · simp; omega

/-- the pieces from a place on, the text's beginning given -/
def cutF (s : ByteArray) (n : Nat) (g : Nat → Int) (f i : Nat) : List Pc :=
  if hi : i < n then
    if g i = 36 then
      if hk : (pieceF s n g i).1.kind = 0 then cutF s n g f (i + 1)
      else txtL (s.extract f i) ++ (pieceF s n g i).1 :: cutF s n g (pieceF s n g i).2 (pieceF s n g i).2
    else cutF s n g f (nextF n g i)
  else txtL (s.extract f s.size)
  termination_by n - i
  decreasing_by
  · omega
  · have := pieceF_bd s n g i hi hk; omega
  · have := nextF_bd n g i hi; omega

def cutS (s : ByteArray) : List Pc × Int :=
  if endS s 0 = s.size then (if tooF s.size (gAt s) 0 = true then ([], 6) else (cutF s s.size (gAt s) 0 0, 0)) else ([], 1)

end Go.Proofs.YtmpdpgbcflogfaaDoor
