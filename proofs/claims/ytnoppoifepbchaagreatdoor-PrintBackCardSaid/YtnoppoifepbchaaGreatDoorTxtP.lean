/- Texts: what May tells of their parts. -/
import Derived.Test.YtnoppoifepbchaaGreatDoorTxt1
import Derived.Test.YtnoppoifepbchaaGreatDoorTxt5
namespace Go.Proofs.YtnoppoifepbchaaGreatDoor
section
open Go.RowKit
set_option linter.unusedVariables false
set_option linter.unusedSimpArgs false

theorem numT_le (n : Int) (h0 : 0 ≤ n) (h1 : n ≤ 50000) : (numT n).size ≤ 10 := by
 obtain ⟨k, rfl⟩ := Int.eq_ofNat_of_zero_le h0
 have e : (numT (k : Int)).size = Lib.nDigits k := by
  show (Lib.itoa (k : Int)).toArray.size = _
  unfold Lib.itoa
  rw [if_neg (by omega)]
  simp [Lib.decDigits_length]
 rw [e]
 rw [Lib.nDigits]; split
 · omega
 rw [Lib.nDigits]; split
 · omega
 rw [Lib.nDigits]; split
 · omega
 rw [Lib.nDigits]; split
 · omega
 rw [Lib.nDigits]; split <;> omega
theorem keyS_size (k : Int) : (keyS k).size ≤ 10 := by
 unfold keyS
 repeat' split
 all_goals decide
theorem symNum_of {num lit : Bool} {x : Sm} (h : symB num lit x = true) : 0 ≤ x.num ∧ x.num ≤ 50000 := by
 unfold symB at h
 split at h
 · rw [decide_eq_true_iff] at h; omega
 · rw [decide_eq_true_iff] at h; rcases h.2 with h | h <;> omega
theorem dc_of {d : Dc} (h : mayDc d = true) : (1 ≤ d.kind ∧ d.kind ≤ 6) ∧ ∀ x ∈ d.syms, SmTx x ∧ 0 ≤ x.num ∧ x.num ≤ 50000 := by
 unfold mayDc dcB at h
 rw [Bool.and_eq_true, decide_eq_true_iff, List.all_eq_true] at h
 exact ⟨⟨h.1.1, h.1.2.1⟩, fun x hx => ⟨symTx_of (h.2 x hx), symNum_of (h.2 x hx)⟩⟩
theorem rl_of {r : Rl} (h : mayRl r = true) : ∀ a ∈ r.alts, AlTx a := by
 unfold mayRl at h
 rw [Bool.and_eq_true, Bool.and_eq_true, List.all_eq_true] at h
 exact fun a ha => alTx_of (h.2.2 a ha)
theorem so_of {s : So} (h : maySo s = true) : (∀ d ∈ s.decls, mayDc d = true) ∧ ∀ r ∈ s.rules, mayRl r = true := by
 unfold maySo at h
 rw [Bool.and_eq_true, Bool.and_eq_true, Bool.and_eq_true, List.all_eq_true, List.all_eq_true] at h
 exact ⟨h.2.1, h.2.2.1⟩
theorem kinds {k : Int} (h : 1 ≤ k ∧ k ≤ 6) : k = 1 ∨ k = 2 ∨ k = 3 ∨ k = 4 ∨ k = 5 ∨ k = 6 := by omega
theorem keys_cell (w : World) (B j : Nat) (hB : B = w.heap.size) : (w.alloc (.cells keyCells 9)).cell? ⟨B, j, none⟩ = keyCells[j]? := cell_top w _ _ B j hB
end
section
open Go.RowKit
set_option linter.unusedVariables false
set_option linter.unusedSimpArgs false

theorem join_sp (x : ByteArray) (l : List ByteArray) : Lib.join ((x :: l).map (·.data.toList)) [32] = x.data.toList ++ tailSp l := by
 induction l generalizing x with
 | nil => simp [Lib.join, tailSp]
 | cons y l ih =>
   have e : Lib.join ((x :: y :: l).map (·.data.toList)) [32] = x.data.toList ++ [32] ++ Lib.join ((y :: l).map (·.data.toList)) [32] := by
    simp [Lib.join]
   rw [e, ih]
   simp [tailSp]
theorem tailSp_len (l : List ByteArray) (C : Nat) (h : ∀ y ∈ l, y.size ≤ C) : (tailSp l).length ≤ l.length * (C + 1) := by
 induction l with
 | nil => simp [tailSp]
 | cons y l ih =>
   have h1 := h y (by simp)
   have h2 := ih (fun z hz => h z (by simp [hz]))
   have e : tailSp (y :: l) = 32 :: y.data.toList ++ tailSp l := by simp [tailSp]
   have e2 : y.data.toList.length = y.size := rfl
   rw [e, List.length_append, List.length_cons, e2, List.length_cons, Nat.succ_mul]
   omega
/-- a row of its own that is not empty, opened -/
theorem OwnS.open {base : Nat} {w : World} {v : Value} {x : ByteArray} {l : List ByteArray} (h : OwnS base w v (x :: l)) : ∃ g cap, v = .slice (some ⟨g, 0, none⟩) (x :: l).length cap ∧ g < w.heap.size ∧ (x :: l).length ≤ cap ∧
  ∀ (j : Nat) y, (x :: l)[j]? = some y → w.cell? ⟨g, 0 + j, none⟩ = some (.string y) := by
 obtain ⟨h1, h2⟩ := h
 rcases h2 with ⟨_, h0⟩ | ⟨g, cap, cur, rfl, hg, hh, hn, hc, hs, ht⟩
 · simp at h0
 · refine ⟨g, cap, rfl, lt_of_block hh, hn, fun j y hj => ?_⟩
   have hj' : j < (x :: l).length := (List.getElem?_eq_some_iff.1 hj).1
   rw [Nat.zero_add, cell_of_row w g j cur _ (0, 0) hh]
   have : ((x :: l).map Value.string)[j]? = some (.string y) := by rw [List.getElem?_map, hj]; rfl
   rw [← ht, List.getElem?_take, if_pos (by omega)] at this
   simpa using this

theorem join_any (v : Value) (x : ByteArray) (l : List ByteArray) (base : Nat) (w : World) (h : OwnS base w v (x :: l)) (hl : (x :: l).length ≤ 200000) (hz : (x.data.toList ++ tailSp l).length ≤ 140737488355328) :
  Calls Tryz.prog 41 #[v, .string ⟨#[32]⟩] w fun e w' => e = .returned (.string ⟨(x.data.toList ++ tailSp l).toArray⟩) ∧ Below w.heap.size w w' := by
 obtain ⟨g, cap, rfl, hg, hle, hcs⟩ := h.open
 refine (Tryz.strings_Join g 0 cap (x :: l) ⟨#[32]⟩ w hcs hg (by omega) hle (by show (Lib.join _ [32]).length ≤ _; rw [join_sp]; exact hz)).mono ?_
 rintro e w' ⟨he, hb⟩
 refine ⟨he.trans ?_, hb⟩
 show Ending.returned (.string ⟨(Lib.join _ [32]).toArray⟩) = _
 rw [join_sp]

theorem declSm_size (x : Sm) (h : SmSmall x) (h0 : 0 ≤ x.num) (h1 : x.num ≤ 50000) : (∀ y ∈ declSm x, y.size ≤ 1000000) ∧ (declSm x).length ≤ 2 := by
 have hn := numT_le x.num h0 h1
 have hs := symT_size x h
 unfold declSm
 split
 · refine ⟨fun y hy => ?_, by simp⟩
   obtain rfl : y = symT x := by simpa using hy
   exact hs
 · refine ⟨fun y hy => ?_, by simp⟩
   rcases (by simpa using hy : y = symT x ∨ y = numT x.num) with rfl | rfl
   · exact hs
   · omega
theorem flat_len {α β : Type} (f : α → List β) (l : List α) (C : Nat) (h : ∀ x ∈ l, (f x).length ≤ C) : (l.flatMap f).length ≤ l.length * C := by
 induction l with
 | nil => simp
 | cons x l ih =>
   have h1 := h x (by simp)
   have h2 := ih (fun z hz => h z (by simp [hz]))
   rw [List.flatMap_cons, List.length_append, List.length_cons, Nat.succ_mul]; omega
theorem declT_len (d : Dc) (hs : DcSmall d) (hm : mayDc d = true) (hf : d.syms.length ≤ 401) : (declT d).length ≤ 900000000 ∧ (keyS d.kind :: declTl d).length ≤ 200000 := by
 have hd := dc_of hm
 have h1 := flat_len declSm d.syms 2 (fun x hx => (declSm_size x (hs.2 x hx) (hd.2 x hx).2.1 (hd.2 x hx).2.2).2)
 have hl : (declTl d).length ≤ 803 := by
  unfold declTl
  rw [List.length_append]
  split <;> simp at * <;> omega
 have h2 := tailSp_len (declTl d) 1000002 (fun y hy => by
  unfold declTl at hy
  rcases List.mem_append.1 hy with hy | hy
  · split at hy
    · simp at hy
    · obtain rfl : y = (⟨#[60]⟩ : ByteArray) ++ d.tag ++ ⟨#[62]⟩ := by simpa using hy
      rw [ByteArray.size_append, ByteArray.size_append]
      have := hs.1
      have e1 : (⟨#[60]⟩ : ByteArray).size = 1 := rfl
      have e2 : (⟨#[62]⟩ : ByteArray).size = 1 := rfl
      omega
  · obtain ⟨x, hx, hy⟩ := List.mem_flatMap.1 hy
    have := (declSm_size x (hs.2 x hx) (hd.2 x hx).2.1 (hd.2 x hx).2.2).1 y hy
    omega)
 have hk := keyS_size d.kind
 have hk' : (keyS d.kind).data.toList.length = (keyS d.kind).size := rfl
 refine ⟨?_, by rw [List.length_cons]; omega⟩
 unfold declT
 rw [List.length_append, hk']
 have : (declTl d).length * (1000002 + 1) ≤ 803 * 1000003 := Nat.mul_le_mul_right _ hl
 omega
theorem ruleT_len (r : Rl) (hs : RlSmall r) (hf : RlFew r) : (ruleT r).length ≤ 170000000000 ∧ (r.left :: ruleTl r).length ≤ 200000 := by
 have hb : (∀ y ∈ barL r.alts, y.size ≤ 1000000) ∧ (barL r.alts).length ≤ 162004 := by
  have ha : ∀ a ∈ r.alts, (∀ y ∈ altL a, y.size ≤ 1000000) ∧ (altL a).length ≤ 403 := fun a ha => by
   refine ⟨fun y hy => ?_, altL_len a (hf.2 a ha)⟩
   unfold altL at hy
   rcases List.mem_append.1 hy with hy | hy
   · obtain ⟨p, hp, rfl⟩ := List.mem_map.1 hy
     exact partT_size p ((hs.2 a ha).1 p hp)
   · split at hy
     · simp at hy
     · rcases (by simpa using hy : y = (⟨#[37, 112, 114, 101, 99]⟩ : ByteArray) ∨ y = symT a.prec) with rfl | rfl
       · decide
       · exact symT_size _ (hs.2 a ha).2
  have hn := hf.1
  generalize r.alts = l at ha hn
  cases l with
  | nil => simp [barL]
  | cons a l =>
    unfold barL
    have h1 := flat_len (fun b => (⟨#[124]⟩ : ByteArray) :: altL b) l 404 (fun b hb => by have := (ha b (by simp [hb])).2; simp; omega)
    refine ⟨fun y hy => ?_, ?_⟩
    · rcases List.mem_append.1 hy with hy | hy
      · exact (ha a (by simp)).1 y hy
      · obtain ⟨b, hb, hy⟩ := List.mem_flatMap.1 hy
        rcases List.mem_cons.1 hy with rfl | hy
        · decide
        · exact (ha b (by simp [hb])).1 y hy
    · have := (ha a (by simp)).2
      rw [List.length_append]
      rw [List.length_cons] at hn
      omega
 have hl : (ruleTl r).length ≤ 162006 := by
  unfold ruleTl
  simp
  omega
 have h2 := tailSp_len (ruleTl r) 1000000 (fun y hy => by
  unfold ruleTl at hy
  rcases List.mem_append.1 hy with hy | hy
  · rcases List.mem_append.1 hy with hy | hy
    · obtain rfl : y = (⟨#[58]⟩ : ByteArray) := by simpa using hy
      decide
    · exact hb.1 y hy
  · obtain rfl : y = (⟨#[59]⟩ : ByteArray) := by simpa using hy
    decide)
 have hk := hs.1
 have hk' : r.left.data.toList.length = r.left.size := rfl
 refine ⟨?_, by rw [List.length_cons]; omega⟩
 unfold ruleT
 rw [List.length_append, hk']
 have : (ruleTl r).length * (1000000 + 1) ≤ 162006 * 1000001 := Nat.mul_le_mul_right _ hl
 omega
end
end Go.Proofs.YtnoppoifepbchaaGreatDoor
