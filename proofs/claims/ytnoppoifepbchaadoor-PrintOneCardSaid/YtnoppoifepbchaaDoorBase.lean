/- Small lemmas on strings, slices and worlds, of no program. -/
import Derived.WalkKit
import Derived.WalkSpells
import Derived.WalkLawsBesides
import Derived.Deep.QuietTactic
import Derived.BigQuiet
import Derived.Lib.Hide
import Derived.Laws.BytesString
import Derived.Lib.Strings
import Derived.Lib.Index
namespace Go.Proofs.YtnoppoifepbchaaDoor
section
open Go.RowKit
set_option linter.unusedVariables false

theorem ret_bool {a b : Bool} (h : a = b) : Ending.returned (.bool a) = .returned (.bool b) := by rw [h]
theorem ret_str {a b : ByteArray} (h : a = b) : Ending.returned (.string a) = .returned (.string b) := by rw [h]
theorem ret_int {k : IntKind} {a b : Int} (h : a = b) : Ending.returned (.int k a) = .returned (.int k b) := by rw [h]

/-- bytes of numbers -/
def bytesOf (ns : List Int) : ByteArray := ⟨(ns.map (fun n => UInt8.ofNat n.toNat)).toArray⟩

theorem foldl_push (ns : List Int) : ∀ (s : ByteArray), ns.foldl (fun r n => r.push (UInt8.ofNat n.toNat)) s = ⟨s.data ++ (ns.map (fun n => UInt8.ofNat n.toNat)).toArray⟩ := by
 induction ns with
 | nil => intro s; simp
 | cons n ns ih =>
   intro s
   rw [List.foldl_cons, ih]
   congr 1
   show (s.data.push _) ++ _ = _
   simp

theorem run_conv_cells {P : Program} (w : World) (src dst e : TypeId) (a : Addr) (ns : List Int) (c : Nat)
  (hs : P.underlying src = some (.slice e)) (he : P.underlying e = some (.int .u8)) (hd : P.underlying dst = some .string)
  (h : ∀ j v, (ns.map (Value.int .u8))[j]? = some v → w.cell? (a.add j) = some v) :
  (convert src dst (.slice (some a) ns.length c)).run P w = .ok (.string (bytesOf ns)) w := by
 rw [run_convert_bytes_string w src dst e _ _ _ hs he hd]
 have hl := run_loadCells_list (P := P) w a (ns.map (Value.int .u8)) h
 rw [List.length_map] at hl
 rw [run_bytesToString w a ns.length c ns hl, foldl_push]
 unfold bytesOf
 simp [ByteArray.empty, ByteArray.emptyWithCapacity]
 rfl

theorem run_conv_new {P : Program} (w : World) (src dst e : TypeId) (ns : List Int) (c : Nat)
  (hs : P.underlying src = some (.slice e)) (he : P.underlying e = some (.int .u8)) (hd : P.underlying dst = some .string) :
  (convert src dst (.slice (some ⟨w.heap.size, 0, none⟩) ns.length c)).run P (w.alloc (.cells (ns.map (Value.int .u8)).toArray e)) = .ok (.string (bytesOf ns)) (w.alloc (.cells (ns.map (Value.int .u8)).toArray e)) := by
 refine run_conv_cells _ src dst e _ ns c hs he hd ?_
 intro j v hv
 have hj : j < ns.length := by
  have := (List.getElem?_eq_some_iff.1 hv).1; simpa using this
 have e1 : (⟨w.heap.size, 0, none⟩ : Addr).add j = ⟨w.heap.size, j, none⟩ := by simp [Addr.add]; omega
 rw [e1, World.cell?_alloc_at _ _ _ _ (by first | (simp; done) | (simp; omega))]
 simpa using hv

/-- a cell of the block that was laid last -/
theorem cell_top (W : World) (cs : Array Value) (t : TypeId) (B k : Nat) (hB : B = W.heap.size) : (W.alloc (.cells cs t)).cell? ⟨B, k, none⟩ = cs[k]? := by
 subst hB; exact World.cell?_alloc_at _ _ _ _ rfl

theorem ba_append (a b : Array UInt8) : (⟨a⟩ ++ ⟨b⟩ : ByteArray) = ⟨a ++ b⟩ := by
 apply ByteArray.ext
 exact ByteArray.data_append

theorem bytesOf_append (a b : List Int) : bytesOf a ++ bytesOf b = bytesOf (a ++ b) := by
 unfold bytesOf
 rw [ba_append]; simp
end
section
open Go.RowKit
set_option linter.unusedVariables false

/-- the byte of a text at a place -/
def gAt (s : ByteArray) (j : Nat) : Int := ((s.data.toList.getD j 0).toNat : Int)
theorem gAt_lo (s : ByteArray) (j : Nat) : 0 ≤ gAt s j := Int.natCast_nonneg _
theorem gAt_hi (s : ByteArray) (j : Nat) : gAt s j ≤ 255 := by
 unfold gAt
 have := (s.data.toList.getD j 0).toNat_lt
 omega
theorem gAt_get (s : ByteArray) (j : Nat) (h : j < s.size) : ((s[j]'h).toNat : Int) = gAt s j := by
 unfold gAt
 rw [List.getD_eq_getElem?_getD, List.getElem?_eq_getElem (by simpa using h)]
 rfl
theorem gAt_extract (s : ByteArray) (i j : Nat) (h : j < (s.extract i s.size).size) : (((s.extract i s.size)[j]'h).toNat : Int) = gAt s (i + j) := by
 have h2 : i + j < s.size := by have := ByteArray.size_extract (a := s) (b := i) (e := s.size); omega
 rw [← gAt_get s (i + j) h2]
 congr 1
 rw [ByteArray.getElem_extract]

theorem toList_beq {a b : ByteArray} : (a.toList == b.toList) = decide (a.data.toList = b.data.toList) := by
 rw [Lib.toList_data, Lib.toList_data, Bool.eq_iff_iff]; simp

theorem u8_iff (x : UInt8) (n : Int) (h0 : 0 ≤ n) (h1 : n ≤ 255) : x = UInt8.ofNat n.toNat ↔ (x.toNat : Int) = n := by
 constructor
 · rintro rfl
   rw [UInt8.toNat_ofNat']
   omega
 · intro h
   apply UInt8.toNat_inj.1
   rw [UInt8.toNat_ofNat']
   omega

/-- a row of bytes in a text are given numbers, just if each one is -/
theorem extract_beq {s : ByteArray} {i : Nat} {l : List Int} (hl : i + l.length ≤ s.size) (hb : ∀ x ∈ l, 0 ≤ x ∧ x ≤ 255) :
  ((s.extract i (i + l.length)).toList == (bytesOf l).toList) = true ↔ ∀ j, j < l.length → gAt s (i + j) = l.getD j 0 := by
 rw [toList_beq, decide_eq_true_iff, Lib.extract_data]
 have hs : s.data.toList.length = s.size := rfl
 have e2 : (bytesOf l).data.toList = l.map (fun n => UInt8.ofNat n.toNat) := by simp [bytesOf]
 rw [e2]
 have e3 : i + l.length - i = l.length := by omega
 rw [e3]
 constructor
 · intro h j hj
   have h1 : ((s.data.toList.drop i).take l.length)[j]? = (l.map (fun n => UInt8.ofNat n.toNat))[j]? := by rw [h]
   rw [List.getElem?_take, if_pos hj, List.getElem?_drop, List.getElem?_map] at h1
   rw [List.getElem?_eq_getElem (by omega), List.getElem?_eq_getElem hj] at h1
   simp only [Option.map_some, Option.some.injEq] at h1
   have hm := hb l[j] (List.getElem_mem hj)
   rw [u8_iff _ _ hm.1 hm.2] at h1
   unfold gAt
   rw [List.getD_eq_getElem?_getD, List.getD_eq_getElem?_getD, List.getElem?_eq_getElem (by omega), List.getElem?_eq_getElem hj]
   exact h1
 · intro h
   apply List.ext_getElem
   · simp; omega
   · intro j h1 h2
     have hj : j < l.length := by simpa using h2
     have hm := hb l[j] (List.getElem_mem hj)
     have h3 := h j hj
     unfold gAt at h3
     rw [List.getD_eq_getElem?_getD, List.getD_eq_getElem?_getD, List.getElem?_eq_getElem (by omega), List.getElem?_eq_getElem hj] at h3
     rw [List.getElem_take, List.getElem_drop, List.getElem_map, u8_iff _ _ hm.1 hm.2]
     exact h3


theorem gAt_at (s : ByteArray) (j : Nat) (h : j < s.data.toList.length) : ((s.data.toList[j]'h).toNat : Int) = gAt s j := by
 unfold gAt
 rw [List.getD_eq_getElem?_getD, List.getElem?_eq_getElem h]; rfl

/-- the first byte of a kind from a place on; -1: there is none -/
def findB (n : Nat) (g : Nat → Int) (c : Int) (i : Nat) : Int :=
 if i < n then if g i = c then (i : Int) else findB n g c (i + 1) else -1
 termination_by n - i

/-- the first two bytes of a kind -/
def findW (n : Nat) (g : Nat → Int) (a b : Int) (i : Nat) : Int :=
 if i + 1 < n then if g i = a ∧ g (i + 1) = b then (i : Int) else findW n g a b (i + 1) else -1
 termination_by n - i

theorem findB_bd (n : Nat) (g : Nat → Int) (c : Int) (i : Nat) : findB n g c i = -1 ∨ ((i : Int) ≤ findB n g c i ∧ findB n g c i < n) := by
 fun_induction findB n g c i with
 | case1 i h h2 => right; omega
 | case2 i h h2 ih => rcases ih with h | h <;> omega
 | case3 i h => left; rfl
theorem findW_bd (n : Nat) (g : Nat → Int) (a b : Int) (i : Nat) : findW n g a b i = -1 ∨ ((i : Int) ≤ findW n g a b i ∧ findW n g a b i + 1 < n) := by
 fun_induction findW n g a b i with
 | case1 i h h2 => right; omega
 | case2 i h h2 ih => rcases ih with h | h <;> omega
 | case3 i h => left; rfl

theorem findB_index (s : ByteArray) (c : UInt8) : ∀ m i, s.size - i = m → findB s.size (gAt s) c.toNat i = if Lib.indexByte (s.data.toList.drop i) c = -1 then -1 else i + Lib.indexByte (s.data.toList.drop i) c := by
 have hs : s.data.toList.length = s.size := rfl
 intro m
 induction m with
 | zero =>
   intro i hi
   rw [findB, if_neg (by omega), List.drop_eq_nil_of_le (by omega)]; rfl
 | succ m ih =>
   intro i hi
   have hl : i < s.data.toList.length := by omega
   rw [findB, if_pos (by omega), List.drop_eq_getElem_cons hl, ih (i + 1) (by omega)]
   have e := gAt_at s i hl
   generalize s.data.toList[i] = b at e ⊢
   have hge := Lib.indexByte_ge (s.data.toList.drop (i + 1)) c
   have hcons : ∀ l : List UInt8, Lib.indexByte (b :: l) c = if b == c then 0 else if Lib.indexByte l c == -1 then -1 else Lib.indexByte l c + 1 := fun l => rfl
   rw [hcons]
   by_cases hb : b = c
   · subst hb
     rw [if_pos (by omega), if_pos (c := (b == b) = true) (by simp)]; simp
   · have hne : ¬ gAt s i = c.toNat := by
      intro h
      apply hb
      apply UInt8.toNat_inj.1
      omega
     rw [if_neg hne, if_neg (c := (b == c) = true) (by simpa using hb)]
     generalize Lib.indexByte (s.data.toList.drop (i + 1)) c = r at hge ⊢
     by_cases hr : r = -1
     · subst hr; simp
     · rw [if_neg hr, if_neg (c := (r == -1) = true) (by simpa using hr), if_neg (by omega)]; omega

theorem findW_index (s : ByteArray) (a b : UInt8) : ∀ m i, s.size - i = m → findW s.size (gAt s) a.toNat b.toNat i = if Lib.index (s.data.toList.drop i) [a, b] = -1 then -1 else i + Lib.index (s.data.toList.drop i) [a, b] := by
 have hs : s.data.toList.length = s.size := rfl
 intro m
 induction m with
 | zero =>
   intro i hi
   rw [findW, if_neg (by omega), List.drop_eq_nil_of_le (by omega)]; rfl
 | succ m ih =>
   intro i hi
   have hl : i < s.data.toList.length := by omega
   have hge := Lib.index_ge (s.data.toList.drop (i + 1)) [a, b]
   by_cases hl2 : i + 1 < s.data.toList.length
   · rw [findW, if_pos (by omega), ih (i + 1) (by omega)]
     rw [List.drop_eq_getElem_cons hl]
     have e := gAt_at s i hl
     have e2 := gAt_at s (i + 1) hl2
     have hp : [a, b].isPrefixOf (s.data.toList[i] :: s.data.toList.drop (i + 1)) = decide (gAt s i = a.toNat ∧ gAt s (i + 1) = b.toNat) := by
      rw [List.drop_eq_getElem_cons hl2, Bool.eq_iff_iff, decide_eq_true_iff]
      simp only [List.isPrefixOf, Bool.and_eq_true, beq_iff_eq]
      rw [← e, ← e2]
      constructor
      · rintro ⟨h1, h2, _⟩; rw [← h1, ← h2]; exact ⟨rfl, rfl⟩
      · rintro ⟨h1, h2⟩; exact ⟨UInt8.toNat_inj.1 (by omega), UInt8.toNat_inj.1 (by omega), trivial⟩
     rw [Lib.index, hp]
     generalize Lib.index (s.data.toList.drop (i + 1)) [a, b] = r at hge ⊢
     by_cases hc : gAt s i = a.toNat ∧ gAt s (i + 1) = b.toNat
     · rw [if_pos hc, if_pos (c := decide _ = true) (by simpa using hc)]; simp
     · rw [if_neg hc, if_neg (c := decide _ = true) (by simpa using hc)]
       by_cases hr : r = -1
       · subst hr; simp
       · rw [if_neg hr, if_neg (c := (r == -1) = true) (by simpa using hr), if_neg (by omega)]; omega
   · rw [findW, if_neg (by omega), List.drop_eq_getElem_cons hl, List.drop_eq_nil_of_le (show s.data.toList.length ≤ i + 1 by omega), Lib.index]
     simp [List.isPrefixOf, Lib.index]

theorem drop_data (s : ByteArray) (i : Nat) : (s.extract i s.size).data.toList = s.data.toList.drop i := by
 rw [Lib.extract_data]
 exact List.take_of_length_le (by rw [List.length_drop]; exact Nat.le_refl _)

theorem prefix_two (s : ByteArray) (a b : UInt8) (i : Nat) : Lib.hasPrefix (s.data.toList.drop i) [a, b] = decide (i + 1 < s.size ∧ gAt s i = a.toNat ∧ gAt s (i + 1) = b.toNat) := by
 have hs : s.data.toList.length = s.size := rfl
 unfold Lib.hasPrefix
 rw [Bool.eq_iff_iff, decide_eq_true_iff]
 by_cases hl : i < s.data.toList.length
 · rw [List.drop_eq_getElem_cons hl]
   have e := gAt_at s i hl
   by_cases hl2 : i + 1 < s.data.toList.length
   · rw [List.drop_eq_getElem_cons hl2]
     have e2 := gAt_at s (i + 1) hl2
     simp only [List.isPrefixOf, Bool.and_eq_true, beq_iff_eq]
     rw [← e, ← e2]
     constructor
     · rintro ⟨h1, h2, _⟩; rw [← h1, ← h2]; exact ⟨by omega, rfl, rfl⟩
     · rintro ⟨_, h1, h2⟩; exact ⟨UInt8.toNat_inj.1 (by omega), UInt8.toNat_inj.1 (by omega), trivial⟩
   · rw [List.drop_eq_nil_of_le (show s.data.toList.length ≤ i + 1 by omega)]
     simp [List.isPrefixOf]; omega
 · rw [List.drop_eq_nil_of_le (by omega)]
   simp [List.isPrefixOf]; omega

/-- the place behind a quoted text; -1: it is unfinished -/
def quo (n : Nat) (g : Nat → Int) (q : Int) (i : Nat) : Int :=
 if i < n then
  if g i = q then (i : Int) + 1
  else if g i = 92 then (if i + 1 < n ∧ g (i + 1) = 10 then -1 else quo n g q (i + 2))
  else if g i = 10 then -1 else quo n g q (i + 1)
 else -1
 termination_by n - i

theorem quo_bd (n : Nat) (g : Nat → Int) (q : Int) (i : Nat) : quo n g q i = -1 ∨ ((i : Int) < quo n g q i ∧ quo n g q i ≤ n) := by
 fun_induction quo n g q i with
 | case1 i h h2 => right; omega
 | case2 i h h2 h3 h4 => left; rfl
 | case3 i h h2 h3 h4 ih => rcases ih with h | h <;> omega
 | case4 i h h2 h3 h4 => left; rfl
 | case5 i h h2 h3 h4 ih => rcases ih with h | h <;> omega
 | case6 i h => left; rfl

/-- what is passed over at a place: the place behind; at itself: nothing; -1: it is unfinished -/
def overF (n : Nat) (g : Nat → Int) (i : Nat) : Int :=
 if g i = 34 ∨ g i = 39 then quo n g (g i) (i + 1)
 else if g i = 96 then (if findB n g 96 (i + 1) = -1 then -1 else findB n g 96 (i + 1) + 1)
 else if i + 1 < n ∧ g i = 47 ∧ g (i + 1) = 47 then (if findB n g 10 i = -1 then (n : Int) else findB n g 10 i)
 else if i + 1 < n ∧ g i = 47 ∧ g (i + 1) = 42 then (if findW n g 42 47 (i + 2) = -1 then -1 else findW n g 42 47 (i + 2) + 2)
 else (i : Int)

theorem overF_bd (n : Nat) (g : Nat → Int) (i : Nat) (hi : i < n) : overF n g i = -1 ∨ ((i : Int) ≤ overF n g i ∧ overF n g i ≤ n) := by
 unfold overF
 have h1 := quo_bd n g (g i) (i + 1)
 have h2 := findB_bd n g 96 (i + 1)
 have h3 := findB_bd n g 10 i
 have h4 := findW_bd n g 42 47 (i + 2)
 split
 · omega
 split
 · split <;> omega
 split
 · split <;> omega
 split
 · split <;> omega
 · omega

/-- the place behind the brace that belongs to the first one; -1: there is none -/
def deepF (g : Nat → Int) (i : Nat) (d : Int) : Int := if g i = 123 then d + 1 else if g i = 125 then d - 1 else d
def endF (n : Nat) (g : Nat → Int) (i : Nat) (d : Int) : Int :=
 if i < n then
  if overF n g i < 0 then -1
  else if (i : Int) < overF n g i then endF n g (overF n g i).toNat d
  else if deepF g i d = 0 then (i : Int) + 1 else endF n g (i + 1) (deepF g i d)
 else -1
 termination_by n - i
 decreasing_by all_goals omega

def endS (s : ByteArray) (i : Int) : Int :=
 if 0 ≤ i ∧ i < s.size ∧ gAt s i.toNat = 123 then endF s.size (gAt s) i.toNat 0 else -1
end
end Go.Proofs.YtnoppoifepbchaaDoor
