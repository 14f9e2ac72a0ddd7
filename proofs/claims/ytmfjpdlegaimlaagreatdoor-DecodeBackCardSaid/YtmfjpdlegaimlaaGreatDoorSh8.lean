/- The small machine's operations that build. Of no program. -/
import Derived.Test.YtmfjpdlegaimlaaGreatDoorSh7
import Derived.Laws.Tables
namespace Go.Proofs.YtmfjpdlegaimlaaGreatDoor
open Go.RowKit
set_option linter.unusedVariables false
set_option linter.unusedSimpArgs false
variable {bs : Inhabited Base}

theorem getElem?_getElem! {z : Array Value} {i : Nat} (h : i < z.size) : z[i]? = some z[i]! := by simp [h]
theorem zerosL_get (z : List Value) : ∀ (n i : Nat), i < n * z.length → (zerosL z n)[i]? = z[i % z.length]?
  | 0, i, h => by simp at h
  | n + 1, i, h => by
    show (catL z (zerosL z n))[i]? = _
    rw [catL_eq]
    by_cases hi : i < z.length
    · rw [List.getElem?_append_left hi, Nat.mod_eq_of_lt hi]
    · rw [List.getElem?_append_right (by omega), zerosL_get z n (i - z.length) (by rw [Nat.succ_mul] at h; omega)]
      have e : i % z.length = (i - z.length) % z.length := Nat.mod_eq_sub_mod (by omega)
      rw [e]
theorem zerosL_made (z : Array Value) (n : Nat) : (madeCells z (n * z.size)).toList = zerosL z.toList n := by
  apply List.ext_getElem?
  intro i
  by_cases h : i < n * z.size
  · rw [zerosL_get _ _ _ (by simpa using h)]
    have hz : 0 < z.size := by
      rcases Nat.eq_zero_or_pos z.size with e | e
      · rw [e] at h; simp at h
      · exact e
    have hm : i % z.size < z.size := Nat.mod_lt _ hz
    simp [madeCells, h, hm]
  · rw [List.getElem?_eq_none (by simp [madeCells]; omega), List.getElem?_eq_none (by rw [zerosL_len]; simp; omega)]
theorem zerosL_mem (z : List Value) : ∀ (n : Nat) (x : Value), x ∈ zerosL z n → x ∈ z
  | 0, x, h => by cases h
  | n + 1, x, h => by
    have h' : x ∈ catL z (zerosL z n) := h
    rw [catL_eq] at h'
    rcases List.mem_append.1 h' with h | h
    · exact h
    · exact zerosL_mem z n x h

/-! ### parts laid into cells -/
theorem setFold_get (off : Nat) : ∀ (l : List Value) (n : Nat) (cs : Array Value), off + n + l.length ≤ cs.size → ∀ i,
    ((l.zipIdx n).foldl (fun (cs : Array Value) (p : Value × Nat) => cs.setIfInBounds (off + p.2) p.1) cs)[i]? = if off + n ≤ i ∧ i < off + n + l.length then l[i - (off + n)]? else cs[i]?
  | [], n, cs, h, i => by simp; intro h1 h2; omega
  | x :: r, n, cs, h, i => by
    simp only [List.length_cons] at h ⊢
    rw [List.zipIdx_cons, List.foldl_cons, setFold_get off r (n + 1) (cs.setIfInBounds (off + n) x) (by simp; omega) i]
    by_cases h1 : off + n ≤ i ∧ i < off + n + (r.length + 1)
    · rw [if_pos h1]
      by_cases h2 : i = off + n
      · subst h2
        rw [if_neg (by omega), Array.getElem?_setIfInBounds, if_pos rfl, if_pos (by omega)]; simp
      · rw [if_pos (by omega)]
        have e : i - (off + n) = (i - (off + (n + 1))) + 1 := by omega
        rw [e, List.getElem?_cons_succ]
    · rw [if_neg h1, if_neg (by omega), Array.getElem?_setIfInBounds, if_neg (by omega)]
theorem setFold (off : Nat) (l : List Value) (cs : Array Value) (h : off + l.length ≤ cs.size) :
    (l.zipIdx.foldl (fun (cs : Array Value) (p : Value × Nat) => cs.setIfInBounds (off + p.2) p.1) cs).toList = cs.toList.take off ++ (l ++ cs.toList.drop (off + l.length)) := by
  apply List.ext_getElem?
  intro i
  rw [Array.getElem?_toList, setFold_get off l 0 cs (by omega) i, Nat.add_zero]
  have hlen : (cs.toList.take off).length = off := by simp; omega
  by_cases h1 : i < off
  · rw [if_neg (by omega), List.getElem?_append_left (by omega), List.getElem?_take, if_pos h1, Array.getElem?_toList]
  · rw [List.getElem?_append_right (by omega), hlen]
    by_cases h2 : i < off + l.length
    · rw [if_pos (by omega), List.getElem?_append_left (by omega)]
    · rw [if_neg (by omega), List.getElem?_append_right (by omega), List.getElem?_drop, Array.getElem?_toList]
      congr 1; omega
theorem putL_eq (l : List Value) (off : Nat) (vs : List Value) : putL l off vs = l.take off ++ (vs ++ l.drop (off + vs.length)) := by
  unfold putL
  rw [catL_eq, catL_eq, takeN_eq, dropN_eq, lenL_eq]; rfl
theorem VL.put {β : Bij} {l m vs us : List Value} (h : VL β l m) (hv : VL β vs us) (off : Nat) : VL β (putL l off vs) (m.take off ++ (us ++ m.drop (off + us.length))) := by
  rw [putL_eq, ← hv.1]
  exact (h.take off).append (hv.append (h.drop _))
/-- parts, in both -/
inductive PL (β : Bij) : List (Nat × Value) → List (Nat × Value) → Prop
  | nil : PL β [] []
  | cons {i : Nat} {x y : Value} {l m : List (Nat × Value)} (h : VR β x y) (hl : PL β l m) : PL β ((i, x) :: l) ((i, y) :: m)
theorem fill_run {β : Bij} {place place' : Nat → Option (Nat × Nat)} (hpl : ∀ k, place k = place' k) {parts parts' : List (Nat × Value)} (hp : PL β parts parts') : ∀ (l l' : List Value) (cs : Array Value), VL β l cs.toList → fillL place parts l = some l' →
    ∃ cs', Instr.fill place' cs parts' = some cs' ∧ VL β l' cs'.toList := by
  induction hp with
  | nil => intro l l' cs h e; cases e; exact ⟨cs, rfl, h⟩
  | cons h hl ih =>
    rename_i i x y r r'
    intro l l' cs hv e
    have e' : (match place i with
      | some q => cond (oneL (cellsL x) && Nat.beq (lenL (cellsL x)) q.2 && Nat.ble (Nat.add q.1 q.2) (lenL l)) (fillL place r (putL l q.1 (cellsL x))) none
      | none => none) = some l' := e
    cases hq : place i with
    | none => rw [hq] at e'; cases e'
    | some q =>
      obtain ⟨off, size⟩ := q
      rw [hq] at e'
      simp only at e'
      rcases cond_split e' with ⟨h1, h2⟩ | ⟨_, h2⟩
      · obtain ⟨h1, h3⟩ := and_split h1
        obtain ⟨h1, h4⟩ := and_split h1
        have h3 : off + size ≤ lenL l := of_ble h3
        have h4 := of_beq h4
        rw [lenL_eq] at h3 h4
        have hc := cells_VL h h1
        have hs : y.cells.size = size := by rw [← h4, hc.1]; simp
        have hz : off + y.cells.size ≤ cs.size := by have := hv.1; simp at this; omega
        have hfold := setFold off y.cells.toList cs (by simpa using hz)
        have e2 : (y.cells.zipIdx.foldl (fun cs (x : Value × Nat) => cs.setIfInBounds (off + x.2) x.1) cs).toList = cs.toList.take off ++ (y.cells.toList ++ cs.toList.drop (off + y.cells.toList.length)) := by
          rw [← Array.foldl_toList, Array.toList_zipIdx]; simpa using hfold
        obtain ⟨cs', h5, h6⟩ := ih (putL l off (cellsL x)) l' (y.cells.zipIdx.foldl (fun cs (x : Value × Nat) => cs.setIfInBounds (off + x.2) x.1) cs) (by rw [e2]; exact hv.put hc off) h2
        refine ⟨cs', ?_, h6⟩
        rw [Instr.fill, ← hpl, hq]
        have n1 : ¬ (y.cells.size ≠ size) := by omega
        have n2 : ¬ (off + y.cells.size > cs.size) := by omega
        simp only [hs, ne_eq, not_true_eq_false, decide_false, Bool.false_or]
        rw [hs] at n2
        rw [if_neg (by simpa using n2)]
        exact h5
      · cases h2
end Go.Proofs.YtmfjpdlegaimlaaGreatDoor
