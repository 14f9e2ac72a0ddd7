/- Faults and words held against the document's. -/
import Derived.Test.YtmpdpgbcflogfaaDoorLex8
namespace Go.Proofs.YtmpdpgbcflogfaaDoor
section
open Go.RowKit
set_option linter.unusedVariables false

set_option maxRecDepth 100000 in
theorem eqFault_same (e a : Int) (n : ByteArray) (w : World) (hl : -9223372036854775808 ≤ e) (hh : e ≤ 9223372036854775807) :
    Calls Tryd.prog 41 #[.agg #[.int .i64 e, .int .i64 a, .string n], .int .i64 e, .int .i64 a, .string n] w fun r w' => r = .returned (.bool true) ∧ Below w.heap.size w w' := by
  go_enter Tryd.func41, Tryd.ntmps41
  go_wp2_with fail
  go_ret
  exact ⟨rfl, (Below.refl _ _).alloc (Nat.le_refl _) _⟩
end

section
open Go.RowKit
set_option linter.unusedVariables false

def Wd.cells (p : Wd) : List Value := [.int .i64 p.kind, .string p.text, .int .i64 p.place]
def wds (L : List Wd) : List Value := L.flatMap Wd.cells
theorem wds_len (L : List Wd) : (wds L).length = L.length * 3 := by
  induction L with
  | nil => rfl
  | cons p L ih => unfold wds at *; rw [List.flatMap_cons, List.length_append, ih]; simp [Wd.cells]; omega
theorem wds_app (L M : List Wd) : wds (L ++ M) = wds L ++ wds M := by unfold wds; rw [List.flatMap_append]

/-- a slice of words -/
def WdsV (w : World) (v : Value) (L : List Wd) : Prop := CellsV w v L.length (wds L)
theorem WdsV.below {w w' : World} {v : Value} {L : List Wd} (h : WdsV w v L) (hb : Below w.heap.size w w') : WdsV w' v L := CellsV.below h hb

theorem wds_getD (L : List Wd) : ∀ i, i < L.length → (wds L).getD (i * 3) undef = .int .i64 (L.getD i noWd).kind ∧ (wds L).getD (i * 3 + 1) undef = .string (L.getD i noWd).text ∧ (wds L).getD (i * 3 + 2) undef = .int .i64 (L.getD i noWd).place := by
  induction L with
  | nil => intro i hi; exact absurd hi (Nat.not_lt_zero _)
  | cons p L ih =>
    intro i hi
    have e : wds (p :: L) = p.cells ++ wds L := by unfold wds; rw [List.flatMap_cons]
    rw [e]
    cases i with
    | zero => exact ⟨rfl, rfl, rfl⟩
    | succ i =>
      have := ih i (by simpa using hi)
      rw [show (i + 1) * 3 = i * 3 + 3 by omega]
      exact this

theorem WdsV.open {w : World} {v : Value} {L : List Wd} (h : WdsV w v L) : ∃ a n c, v = .slice a n c ∧ Hid (n = L.length) ∧ n ≤ c ∧ c ≤ 9223372036854775807 ∧
    Hid (∀ i, i < n → ∃ b off, a = some ⟨b, off, none⟩ ∧ w.cell? ⟨b, off + i * 3, none⟩ = some (.int .i64 (L.getD i noWd).kind) ∧ w.cell? ⟨b, off + i * 3 + 1, none⟩ = some (.string (L.getD i noWd).text) ∧ w.cell? ⟨b, off + i * 3 + 2, none⟩ = some (.int .i64 (L.getD i noWd).place)) := by
  obtain ⟨a, c, hv, hn, hc, _, hx⟩ := h
  refine ⟨a, _, c, hv, Lib.hid rfl, hn, hc, Lib.hid (fun i hi => ?_)⟩
  have hl := wds_len L
  obtain ⟨h1, h2, h3⟩ := wds_getD L i hi
  obtain ⟨b, off, ha, hc0⟩ := hx (i * 3) (by omega)
  have hcj : ∀ j, j < (wds L).length → w.cell? ⟨b, off + j, none⟩ = some ((wds L).getD j undef) := fun j hj => by
    obtain ⟨b2, off2, ha2, hc2⟩ := hx j hj
    rw [ha] at ha2
    cases ha2
    exact hc2
  refine ⟨b, off, ha, ?_, ?_, ?_⟩
  · rw [hcj _ (by omega), h1]
  · rw [show off + i * 3 + 1 = off + (i * 3 + 1) by omega, hcj _ (by omega), h2]
  · rw [show off + i * 3 + 2 = off + (i * 3 + 2) by omega, hcj _ (by omega), h3]

set_option maxRecDepth 100000 in
theorem eqWords_same (v1 v2 : Value) (L : List Wd) (w : World) (h1 : WdsV w v1 L) (h2 : WdsV w v2 L) (hL : L.length ≤ 100000) :
    Calls Tryd.prog 42 #[v1, v2] w fun e w' => e = .returned (.bool true) ∧ Below w.heap.size w w' := by
  obtain ⟨a1, n1, c1, rfl, hn1, hc1, hm1, hx1⟩ := h1.open
  obtain ⟨a2, n2, c2, rfl, hn2, hc2, hm2, hx2⟩ := h2.open
  obtain rfl : n2 = n1 := by rw [hn1.out, hn2.out]
  have hnl : n2 ≤ 100000 := by rw [hn1.out]; exact hL
  clear h1 h2 hn1 hn2
  go_enter Tryd.func42, Tryd.ntmps42
  go_wp2_with fail
  go_loopw [5] (fun x wr => ∃ k : Nat, k ≤ n2 ∧ x = .int .i64 k ∧ Below w.heap.size w wr) (fun x _ => n2 + 1 - (intOf x).toNat)
  case atStart => exact ⟨0, by omega, rfl, Below.refl _ _⟩
  case round =>
    obtain ⟨k, hk, rfl, hb⟩ := hrel
    by_cases hlt : k < n2
    · obtain ⟨b1, o1, rfl, p0, p1, p2⟩ := hx1.out k hlt
      obtain ⟨b2, o2, rfl, q0, q1, q2⟩ := hx2.out k hlt
      have hl1 := World.block_lt_of_cell? _ _ p0
      have hl2 := World.block_lt_of_cell? _ _ q0
      replace p0 := (hb.cell (p := ⟨b1, o1 + k * 3, none⟩) hl1).trans p0
      replace p1 := (hb.cell (p := ⟨b1, o1 + k * 3 + 1, none⟩) hl1).trans p1
      replace p2 := (hb.cell (p := ⟨b1, o1 + k * 3 + 2, none⟩) hl1).trans p2
      replace q0 := (hb.cell (p := ⟨b2, o2 + k * 3, none⟩) hl2).trans q0
      replace q1 := (hb.cell (p := ⟨b2, o2 + k * 3 + 1, none⟩) hl2).trans q1
      replace q2 := (hb.cell (p := ⟨b2, o2 + k * 3 + 2, none⟩) hl2).trans q2
      generalize L.getD k noWd = p at *
      obtain ⟨kd, tx, pl⟩ := p
      simp only at p0 p1 p2 q0 q1 q2
      go_wp2_with fail
      go_quiet (fail)
      have hb7 : Below w.heap.size w (wr.drewN nq) := ⟨hb.os, hb.tape, hb.output, hb.size, hb.block⟩
      clear p0 p1 p2 q0 q1 q2 hb
      generalize wr.drewN nq = W7 at hb7 ⊢
      go_wp2_with fail
      go_roundw
      case rel => exact ⟨k + 1, by omega, by go_num, hb7⟩
      case measure => simp [intOf]; omega
    · go_wp2_with fail
      go_ret
      exact ⟨rfl, hb⟩
end

section
open Go.RowKit
set_option linter.unusedVariables false

/-- the document's word of ours: at a place where none begins it tells that place, and no bytes -/
def rwd (i : Nat) (p : Wd × Nat) : Wd × Nat := if p.1.kind = 0 then (⟨0, ByteArray.empty, i⟩, 0) else (p.1, p.2 - i)
theorem rwd_none {i : Nat} {p : Wd × Nat} (h : p.1.kind = 0) : rwd i p = (⟨0, ByteArray.empty, i⟩, 0) := if_pos h
theorem rwd_some {i : Nat} {k a : Int} {t : ByteArray} {e : Nat} (h : k ≠ 0) : rwd i (⟨k, t, a⟩, e) = (⟨k, t, a⟩, e - i) := if_neg h

theorem horA_snoc (l : List UInt8) (c : UInt8) (acc : Nat) : horA acc (l ++ [c]) = horA acc l * 10 + (c.toNat - 48) := by
  unfold horA; rw [List.foldl_append]; rfl
theorem horA_take (l : List UInt8) (k : Nat) (hk : k < l.length) : horA 0 (l.take (k + 1)) = horA 0 (l.take k) * 10 + ((l.getD k 0).toNat - 48) := by
  rw [List.take_add_one, List.getElem?_eq_getElem hk, List.getD_eq_getElem?_getD, List.getElem?_eq_getElem hk]
  exact horA_snoc _ _ _
theorem digL_len (s : ByteArray) (i : Nat) (hi : i ≤ s.size) : (digL s i).length = digF s.size (gAt s) i - i := by
  unfold digL
  rw [extract_len s (digF_bd s.size (gAt s) i hi).2]
theorem digL_at (s : ByteArray) (i k : Nat) (hi : i ≤ s.size) (hk : i + k < digF s.size (gAt s) i) : (((digL s i).getD k 0).toNat : Int) = gAt s (i + k) := by
  unfold digL
  exact extract_getD s (digF_bd s.size (gAt s) i hi).2 (by omega)
theorem horA_six (s : ByteArray) (i k : Nat) (hi : i ≤ s.size) (hk : k ≤ 6) : horA 0 ((digL s i).take k) < 1000000 := by
  have h := horA_lt ((digL s i).take k) 0 (fun c hc => digL_digs s i hi c (List.mem_of_mem_take hc))
  have h2 : ((digL s i).take k).length ≤ 6 := by rw [List.length_take]; omega
  have h3 : 10 ^ ((digL s i).take k).length ≤ 10 ^ 6 := Nat.pow_le_pow_right (by omega) h2
  omega

theorem digWd_eq (s : ByteArray) (i : Nat) (hi : i < s.size) (hd : digB (gAt s i) = true) :
    digWd s i = if gAt s i = 48 ∨ 5 < digF s.size (gAt s) i - i ∨ 50000 < horA 0 ((digL s i).take 6) ∨ (digF s.size (gAt s) i < s.size ∧ begB (gAt s (digF s.size (gAt s) i)) = true) then (noWd, i)
      else (⟨3, s.extract i (digF s.size (gAt s) i), i⟩, digF s.size (gAt s) i) := by
  have hdi : i < digF s.size (gAt s) i := by
    have e1 : digF s.size (gAt s) i = digF s.size (gAt s) (i + 1) := by rw [digF, if_pos ⟨hi, hd⟩]
    have := digF_bd s.size (gAt s) (i + 1) (by omega)
    omega
  have hl := digL_len s i (by omega)
  have h0 := digL_at s i 0 (by omega) (by omega)
  have hD := digL_digs s i (by omega)
  have hX : 5 < digF s.size (gAt s) i - i → gAt s i ≠ 48 → 50000 < horA 0 (digL s i) := by
    intro h5 h48
    cases hq : digL s i with
    | nil => rw [hq] at hl; simp at hl; omega
    | cons c r =>
      rw [hq] at hl h0 hD
      simp at hl
      simp at h0
      have hc := hD c (List.mem_cons_self ..)
      have h1 := horA_ge r (0 * 10 + (c.toNat - 48))
      rw [horA_cons]
      have h2 : 10 ^ 5 ≤ 10 ^ r.length := Nat.pow_le_pow_right (by omega) (by omega)
      have h3 : 1 * 10 ^ r.length ≤ (0 * 10 + (c.toNat - 48)) * 10 ^ r.length := Nat.mul_le_mul_right _ (by omega)
      omega
  have hY : ¬ 5 < digF s.size (gAt s) i - i → (digL s i).take 6 = digL s i := fun h => List.take_of_length_le (by omega)
  unfold digWd
  generalize digF s.size (gAt s) i = D at *
  by_cases h1 : D < s.size ∧ begB (gAt s D) = true
  · rw [if_pos h1, if_pos (.inr (.inr (.inr h1)))]
  · rw [if_neg h1]
    by_cases h2 : gAt s i = 48
    · rw [if_pos (.inl h2), if_pos (.inl h2)]
    · by_cases h5 : 5 < D - i
      · rw [if_pos (.inr (hX h5 h2)), if_pos (.inr (.inl h5))]
      · rw [hY h5]
        by_cases h6 : 50000 < horA 0 (digL s i)
        · rw [if_pos (.inr h6), if_pos (.inr (.inr (.inl h6)))]
        · rw [if_neg (fun h => h.elim h2 h6), if_neg (fun h => h.elim h2 (fun h => h.elim h5 (fun h => h.elim h6 h1)))]
end

end Go.Proofs.YtmpdpgbcflogfaaDoor
