/- What stands between words. -/
import Derived.Test.YtnoppoifepbchaaDoorWd
namespace Go.Proofs.YtnoppoifepbchaaDoor

section
open Go.RowKit
set_option linter.unusedVariables false
def blankB (c : Int) : Bool := decide (c = 32 ∨ c = 9 ∨ c = 10 ∨ c = 13)
theorem blank_any (c : Int) (w : World) :
  Calls Tryd.prog 81 #[.int .u8 c] w fun e w' => e = .returned (.bool (blankB c)) ∧ w = w' := by
 go_enter Tryd.func81, Tryd.ntmps81
 go_wp2
 all_goals
  go_ret
  exact ⟨ret_bool (by rw [Bool.eq_iff_iff]; unfold blankB; simp at *; omega), rfl⟩

/-- the place behind the blank or the remark that stands at a place; at itself: none; -1: it is unfinished -/
def gapF (n : Nat) (g : Nat → Int) (i : Nat) : Int := if blankB (g i) = true then (i : Int) + 1 else remF n g i
theorem gapF_bd (n : Nat) (g : Nat → Int) (i : Nat) (hi : i < n) : gapF n g i = -1 ∨ ((i : Int) ≤ gapF n g i ∧ gapF n g i ≤ n) := by
 unfold gapF; split
 · omega
 · exact remF_bd n g i (by omega)
def betF (n : Nat) (g : Nat → Int) (i : Nat) : Nat × Bool :=
 if h : i < n then
  if gapF n g i < 0 then (i, false)
  else if gapF n g i = i then (i, true)
  else betF n g (max (gapF n g i).toNat (i + 1))
 else (i, true)
 termination_by n - i
 decreasing_by omega
theorem betF_bd (n : Nat) (g : Nat → Int) : ∀ m i, n - i = m → i ≤ n → i ≤ (betF n g i).1 ∧ (betF n g i).1 ≤ n := by
 intro m
 induction m using Nat.strongRecOn with
 | ind m ih =>
   intro i hm hi
   rw [betF]
   split
   · rename_i h
     have hb := gapF_bd n g i h
     split
     · exact ⟨Nat.le_refl _, hi⟩
     · split
       · exact ⟨Nat.le_refl _, hi⟩
       · have := ih (n - max (gapF n g i).toNat (i + 1)) (by omega) _ rfl (by omega)
         omega
   · exact ⟨Nat.le_refl _, hi⟩

set_option maxRecDepth 100000 in
theorem between_any (s : ByteArray) (i : Nat) (w : World) (hm : MaxAt w) (hi : i ≤ s.size) (hs : s.size ≤ 1000000) :
  Calls Tryd.prog 54 #[.string s, .int .i64 i] w fun e w' => e = .returned (.tuple #[.int .i64 ((betF s.size (gAt s) i).1 : Nat), .bool (betF s.size (gAt s) i).2]) ∧ w = w' := by
 have hg := fun j h => gAt_get s j h
 have HM := Lib.hid (fun k hk => remark_any s k w hm hk hs)
 generalize gAt s = g at *
 have HR : Hid (∃ R, R = betF s.size g i) := Lib.hid ⟨_, rfl⟩
 obtain ⟨R, hR⟩ := HR.out
 rw [← hR]
 have HI := Lib.hid hR
 clear hR HR hm
 go_enter Tryd.func54, Tryd.ntmps54
 go_wp2_with fail
 go_loop [1] (fun x => ∃ k : Nat, k ≤ s.size ∧ x = .int .i64 k ∧ Hid (R = betF s.size g k)) (fun x => s.size + 1 - (intOf x).toNat)
 case atStart => exact ⟨i, hi, rfl, HI⟩
 case round =>
  obtain ⟨k, hk, rfl, HK⟩ := hrel
  by_cases hlt : k < s.size
  · have hbd := gapF_bd s.size g k hlt
    have e := HK.out
    rw [betF, dif_pos hlt] at e
    have HB := Lib.hid (fun W => blank_any (g k) W)
    have HM2 := Lib.hid (HM.out k (by omega))
    have hgap : gapF s.size g k = if blankB (g k) = true then (k : Int) + 1 else remF s.size g k := rfl
    cases hbl : blankB (g k) with
    | true =>
      rw [hbl, if_pos rfl] at hgap
      rw [hgap, if_neg (by omega), if_neg (by omega), show max ((k : Int) + 1).toNat (k + 1) = k + 1 by omega] at e
      rw [hbl] at HB
      have HK2 := Lib.hid e
      clear e HK hgap hbd HM2
      go_wp2_with (first | (go_at_call 81; refine (HB.out _).mono ?_; rintro e w1 ⟨rfl, rfl⟩))
      go_round
      case rel => exact ⟨k + 1, by omega, by go_num, HK2⟩
      case measure => simp [intOf]; omega
    | false =>
      rw [hbl, if_neg (by simp)] at hgap
      rw [hgap] at e hbd
      rw [hbl] at HB
      generalize remF s.size g k = r at HM2 hbd e
      clear HK hgap
      by_cases h0 : r < 0
      · obtain rfl : r = -1 := by omega
        rw [if_pos h0] at e
        subst e
        go_wp2_with (first
         | (go_at_call 81; refine (HB.out _).mono ?_; rintro e w1 ⟨rfl, rfl⟩)
         | (go_at_call 82; refine HM2.out.mono ?_; rintro e w1 ⟨rfl, rfl⟩))
        go_ret2
        exact ⟨rfl, rfl⟩
      · rw [if_neg h0] at e
        obtain ⟨q, rfl⟩ := Int.eq_ofNat_of_zero_le (show 0 ≤ r by omega)
        by_cases hq : (q : Int) = k
        · obtain rfl : q = k := by omega
          rw [if_pos rfl] at e
          subst e
          go_wp2_with (first
           | (go_at_call 81; refine (HB.out _).mono ?_; rintro e w1 ⟨rfl, rfl⟩)
           | (go_at_call 82; refine HM2.out.mono ?_; rintro e w1 ⟨rfl, rfl⟩))
          go_ret2
          exact ⟨rfl, rfl⟩
        · rw [if_neg hq, show max ((q : Nat) : Int).toNat (k + 1) = q by omega] at e
          have HK2 := Lib.hid e
          have d1 : ((q : Int) == (k : Int)) = false := by simpa using hq
          have hqk : k < q := by omega
          have hqs : q ≤ s.size := by omega
          clear e hq hbd h0
          go_wp2_with (first
           | (go_at_call 81; refine (HB.out _).mono ?_; rintro e w1 ⟨rfl, rfl⟩)
           | (go_at_call 82; refine HM2.out.mono ?_; rintro e w1 ⟨rfl, rfl⟩))
          go_round
          case rel => exact ⟨q, hqs, rfl, HK2⟩
          case measure => simp [intOf]; omega
  · have e := HK.out
    rw [betF, dif_neg hlt] at e
    subst e
    clear HK
    go_wp2_with fail
    go_ret2
    exact ⟨rfl, rfl⟩
end
section
open Go.RowKit
set_option linter.unusedVariables false
def Wd.agg (p : Wd) : Value := .agg #[.int .i64 p.kind, .string p.text, .int .i64 p.place]
def noWd : Wd := ⟨0, ByteArray.empty, 0⟩

set_option maxRecDepth 100000 in
theorem whole_any (k : Int) (s : ByteArray) (a e : Nat) (w : World) (ha : a ≤ e) (he : e ≤ s.size) (hs : s.size ≤ 1000000) :
  Calls Tryd.prog 89 #[.int .i64 k, .string s, .int .i64 a, .int .i64 e] w fun r w' => r = .returned (.tuple #[.agg #[.int .i64 k, .string (s.extract a e), .int .i64 (a : Nat)], .int .i64 (e : Nat)]) ∧ Below w.heap.size w w' := by
 go_enter Tryd.func89, Tryd.ntmps89
 go_wp2_with fail
 exact bodyPost_ret (v := .tuple #[.agg #[.int .i64 k, .string (s.extract a e), .int .i64 (a : Int)], .int .i64 (e : Int)]) (by simp [results, Tryd.results89, go_sem]) rfl ⟨rfl, (Below.refl _ _).alloc (Nat.le_refl _) _⟩

theorem wd_facts {w1 : World} {B : Nat} (hbx : w1.heap[B]? = some (.cells #[.int .i64 0, .string ⟨#[]⟩, .int .i64 0] 76 (0, 0))) :
  w1.cell? ⟨B, 0, none⟩ = some (.int .i64 0) ∧ w1.cell? ⟨B, 1, none⟩ = some (.string ⟨#[]⟩) ∧ w1.cell? ⟨B, 2, none⟩ = some (.int .i64 0) ∧ w1.frozen? ⟨B, 0, none⟩ = false ∧ w1.frozen? ⟨B, 1, none⟩ = false ∧ w1.frozen? ⟨B, 2, none⟩ = false :=
 ⟨by rw [cell_of_row w1 _ 0 _ _ (0, 0) hbx]; rfl, by rw [cell_of_row w1 _ 1 _ _ (0, 0) hbx]; rfl, by rw [cell_of_row w1 _ 2 _ _ (0, 0) hbx]; rfl, free_of_block hbx, free_of_block hbx, free_of_block hbx⟩
theorem wd_below {w w1 : World} {B : Nat} (h : Below w.heap.size w w1) (hB : w.heap.size ≤ B) (a b c : Value) : Below w.heap.size w (((w1.setCell ⟨B, 0, none⟩ a).setCell ⟨B, 1, none⟩ b).setCell ⟨B, 2, none⟩ c) :=
 ((h.setCell (p := ⟨B, 0, none⟩) hB a).setCell (p := ⟨B, 1, none⟩) hB b).setCell (p := ⟨B, 2, none⟩) hB c

def nameWd (s : ByteArray) (i : Nat) : Wd × Nat :=
 if nameF s.size (gAt s) i - i ≤ 20 then (⟨1, s.extract i (nameF s.size (gAt s) i), i⟩, nameF s.size (gAt s) i) else (noWd, i)

set_option maxRecDepth 100000 in
theorem lname_any (s : ByteArray) (i : Nat) (w : World) (hi : i < s.size) (hn : i < nameF s.size (gAt s) i) (hs : s.size ≤ 1000000) :
  Calls Tryd.prog 84 #[.string s, .int .i64 i] w fun r w' => r = .returned (.tuple #[(nameWd s i).1.agg, .int .i64 ((nameWd s i).2 : Nat)]) ∧ Below w.heap.size w w' := by
 have hb := nameF_bd s.size (gAt s) i (by omega)
 have HN := Lib.hid (fun W => name_at s i W (by omega) hs)
 have hsub := isName_sub s i (by omega)
 have hiz : (s.extract i (nameF s.size (gAt s) i)).size ≤ 1000000 := by rw [ByteArray.size_extract]; omega
 have HI := Lib.hid (fun W => isName_any (s.extract i (nameF s.size (gAt s) i)) W hiz)
 rw [hsub] at HI
 have HW := Lib.hid (fun W => whole_any 1 s i (nameF s.size (gAt s) i) W (by omega) hb.2 hs)
 have hR : nameWd s i = if nameF s.size (gAt s) i - i ≤ 20 then (⟨1, s.extract i (nameF s.size (gAt s) i), i⟩, nameF s.size (gAt s) i) else (noWd, i) := rfl
 clear hsub hiz
 generalize nameWd s i = R at hR ⊢
 generalize nameF s.size (gAt s) i = n at *
 by_cases h : n - i ≤ 20
 · rw [if_pos h] at hR
   subst hR
   have hd : decide (i < n ∧ n - i ≤ 20) = true := decide_eq_true ⟨hn, h⟩
   rw [hd] at HI
   go_enter Tryd.func84, Tryd.ntmps84
   go_wp2_with (first
    | (go_at_call 83; refine (HN.out _).mono ?_; rintro e w1 ⟨rfl, rfl⟩)
    | (go_at_call 62; refine (HI.out _).mono ?_; rintro e w1 ⟨rfl, rfl⟩))
   refine (HW.out _).mono ?_
   rintro e w1 ⟨rfl, hb1⟩
   have hbx := block_below (heap_alloc_new w _) hb1 (by simp)
   have hb2 := ((Below.refl w.heap.size w).alloc (Nat.le_refl _) _).trans (hb1.mono (by simp))
   obtain ⟨c0, c1, c2, f0, f1, f2⟩ := wd_facts hbx
   go_wp2_with fail
   exact bodyPost_ret (v := .tuple #[.agg #[.int .i64 1, .string (s.extract i n), .int .i64 (i : Int)], .int .i64 (n : Int)]) (by simp [results, Tryd.results84, go_sem, c0, c1, c2, World.cell?_setCell_same, World.cell?_setCell_other]) rfl ⟨rfl, wd_below hb2 (Nat.le_refl _) _ _ _⟩
 · rw [if_neg h] at hR
   subst hR
   have hd : decide (i < n ∧ n - i ≤ 20) = false := decide_eq_false (fun hc => h hc.2)
   rw [hd] at HI
   go_enter Tryd.func84, Tryd.ntmps84
   go_wp2_with (first
    | (go_at_call 83; refine (HN.out _).mono ?_; rintro e w1 ⟨rfl, rfl⟩)
    | (go_at_call 62; refine (HI.out _).mono ?_; rintro e w1 ⟨rfl, rfl⟩))
   exact bodyPost_ret (v := .tuple #[.agg #[.int .i64 0, .string ByteArray.empty, .int .i64 0], .int .i64 (i : Int)]) (by simp [results, Tryd.results84, go_sem]; rfl) rfl ⟨rfl, (Below.refl _ _).alloc (Nat.le_refl _) _⟩
end
section
open Go.RowKit
set_option linter.unusedVariables false
def keyL : List (List UInt8) := [[37, 116, 111, 107, 101, 110], [37, 108, 101, 102, 116], [37, 114, 105, 103, 104, 116], [37, 110, 111, 110, 97, 115, 115, 111, 99], [37, 116, 121, 112, 101], [37, 115, 116, 97, 114, 116], [37, 112, 114, 101, 99]]
def isKeyB (t : ByteArray) : Bool := decide (t.data.toList ∈ keyL)

set_option maxRecDepth 100000 in
theorem isKey_any (t : ByteArray) (w : World) :
  Calls Tryd.prog 115 #[.string t] w fun r w' => r = .returned (.bool (isKeyB t)) ∧ w = w' := by
 have hL : t.toList = t.data.toList := Lib.toList_data t
 have HR : Hid (isKeyB t = decide (t.data.toList ∈ keyL)) := Lib.hid rfl
 generalize isKeyB t = R at HR ⊢
 generalize t.data.toList = l at hL HR
 have e1 : (⟨#[37, 116, 111, 107, 101, 110]⟩ : ByteArray).toList = [37, 116, 111, 107, 101, 110] := Lib.toList_data _
 have e2 : (⟨#[37, 108, 101, 102, 116]⟩ : ByteArray).toList = [37, 108, 101, 102, 116] := Lib.toList_data _
 have e3 : (⟨#[37, 114, 105, 103, 104, 116]⟩ : ByteArray).toList = [37, 114, 105, 103, 104, 116] := Lib.toList_data _
 have e4 : (⟨#[37, 110, 111, 110, 97, 115, 115, 111, 99]⟩ : ByteArray).toList = [37, 110, 111, 110, 97, 115, 115, 111, 99] := Lib.toList_data _
 have e5 : (⟨#[37, 116, 121, 112, 101]⟩ : ByteArray).toList = [37, 116, 121, 112, 101] := Lib.toList_data _
 have e6 : (⟨#[37, 115, 116, 97, 114, 116]⟩ : ByteArray).toList = [37, 115, 116, 97, 114, 116] := Lib.toList_data _
 have e7 : (⟨#[37, 112, 114, 101, 99]⟩ : ByteArray).toList = [37, 112, 114, 101, 99] := Lib.toList_data _
 go_enter Tryd.func115, Tryd.ntmps115
 go_wp2_with fail
 all_goals
  go_ret
  exact ⟨ret_bool (by rw [HR.out]; unfold keyL; simp only [List.mem_cons, List.not_mem_nil, or_false]; simp_all), rfl⟩

def letF (n : Nat) (g : Nat → Int) (i : Nat) : Nat := if i < n ∧ letB (g i) = true then letF n g (i + 1) else i
 termination_by n - i
theorem letF_bd (n : Nat) (g : Nat → Int) (i : Nat) (hi : i ≤ n) : i ≤ letF n g i ∧ letF n g i ≤ n := by
 fun_induction letF n g i with
 | case1 i h ih => have := ih (by omega); omega
 | case2 i h => omega

def pctWd (s : ByteArray) (i : Nat) : Wd × Nat :=
 if i + 1 = s.size then (noWd, i)
 else if gAt s (i + 1) = 37 then (⟨7, s.extract i (i + 2), i⟩, i + 2)
 else if gAt s (i + 1) = 123 then
  (if behW s.size (gAt s) 37 125 (i + 2) = -1 then (noWd, i) else (⟨9, s.extract (i + 2) ((behW s.size (gAt s) 37 125 (i + 2)).toNat - 2), i⟩, (behW s.size (gAt s) 37 125 (i + 2)).toNat))
 else if isKeyB (s.extract i (letF s.size (gAt s) (i + 1))) = true then (⟨5, s.extract i (letF s.size (gAt s) (i + 1)), i⟩, letF s.size (gAt s) (i + 1)) else (noWd, i)

def WdTells (r : Ending) (p : Wd × Nat) : Prop := r = .returned (.tuple #[p.1.agg, .int .i64 (p.2 : Nat)])
theorem wdTells_mk {p : Wd × Nat} {k a z : Int} {t : ByteArray} (h1 : p.1 = ⟨k, t, a⟩) (h2 : (p.2 : Int) = z) : WdTells (.returned (.tuple #[.agg #[.int .i64 k, .string t, .int .i64 a], .int .i64 z])) p := by
 unfold WdTells; rw [h1, h2]; rfl

set_option maxRecDepth 100000 in
theorem percent_any (s : ByteArray) (i : Nat) (w : World) (hm : MaxAt w) (hi : i < s.size) (hs : s.size ≤ 1000000) :
  Calls Tryd.prog 91 #[.string s, .int .i64 i] w fun r w' => WdTells r (pctWd s i) ∧ Below w.heap.size w w' := by
 have hg := fun j h => gAt_get s j h
 have hR : pctWd s i = if i + 1 = s.size then (noWd, i)
  else if gAt s (i + 1) = 37 then (⟨7, s.extract i (i + 2), i⟩, i + 2)
  else if gAt s (i + 1) = 123 then
   (if behW s.size (gAt s) 37 125 (i + 2) = -1 then (noWd, i) else (⟨9, s.extract (i + 2) ((behW s.size (gAt s) 37 125 (i + 2)).toNat - 2), i⟩, (behW s.size (gAt s) 37 125 (i + 2)).toNat))
  else if isKeyB (s.extract i (letF s.size (gAt s) (i + 1))) = true then (⟨5, s.extract i (letF s.size (gAt s) (i + 1)), i⟩, letF s.size (gAt s) (i + 1)) else (noWd, i) := rfl
 generalize pctWd s i = R at hR ⊢
 by_cases h1 : i + 1 = s.size
 · rw [if_pos h1] at hR
   subst hR
   have d1 : ((i : Int) + 1 == (s.size : Int)) = true := by simp; omega
   go_enter Tryd.func91, Tryd.ntmps91
   go_wp2_with fail
   exact bodyPost_ret (v := .tuple #[.agg #[.int .i64 0, .string ByteArray.empty, .int .i64 0], .int .i64 (i : Int)]) (by simp [results, Tryd.results91, go_sem]; rfl) rfl ⟨rfl, (Below.refl _ _).alloc (Nat.le_refl _) _⟩
 have d1 : ((i : Int) + 1 == (s.size : Int)) = false := by simp; omega
 have hi1 : i + 1 < s.size := by omega
 rw [if_neg h1] at hR
 by_cases h2 : gAt s (i + 1) = 37
 · rw [if_pos h2] at hR
   subst hR
   have HW := Lib.hid (fun W => whole_any 7 s i (i + 2) W (by omega) (by omega) hs)
   have hg1 := hg (i + 1) hi1
   rw [h2] at hg1
   have e2 : ((i + 2 : Nat) : Int) = (i : Int) + 2 := by omega
   rw [e2] at HW
   clear hg
   go_enter Tryd.func91, Tryd.ntmps91
   go_wp2_with fail
   refine (HW.out _).mono ?_
   rintro e w1 ⟨rfl, hb1⟩
   have hbx := block_below (heap_alloc_new w _) hb1 (by simp)
   have hb2 := ((Below.refl w.heap.size w).alloc (Nat.le_refl _) _).trans (hb1.mono (by simp))
   obtain ⟨c0, c1, c2, f0, f1, f2⟩ := wd_facts hbx
   go_wp2_with fail
   exact bodyPost_ret (v := .tuple #[.agg #[.int .i64 7, .string (s.extract i (i + 2)), .int .i64 (i : Int)], .int .i64 ((i : Int) + 2)]) (by simp [results, Tryd.results91, go_sem, c0, c1, c2, World.cell?_setCell_same, World.cell?_setCell_other]) rfl ⟨wdTells_mk rfl e2, wd_below hb2 (Nat.le_refl _) _ _ _⟩
 rw [if_neg h2] at hR
 by_cases h3 : gAt s (i + 1) = 123
 · rw [if_pos h3] at hR
   have HB := Lib.hid (fun W (hW : MaxAt W) => behind_two s (i + 2) 37 125 W hW (by omega) hs)
   have e2 : ((i + 2 : Nat) : Int) = (i : Int) + 2 := by omega
   rw [e2] at HB
   have hbb : behW s.size (gAt s) 37 125 (i + 2) = -1 ∨ ((i : Int) + 4 ≤ behW s.size (gAt s) 37 125 (i + 2) ∧ behW s.size (gAt s) 37 125 (i + 2) ≤ s.size) := by
    have := findW_bd s.size (gAt s) 37 125 (i + 2)
    unfold behW; split <;> omega
   have hmx : MaxAt (w.alloc (.cells #[.int .i64 0, .string ⟨#[]⟩, .int .i64 0] 76)) := hm.below ((Below.refl _ _).alloc (Nat.le_refl _) _)
   have HB2 := HB.out _ hmx
   rw [show (((37 : UInt8).toNat : Nat) : Int) = 37 from rfl, show (((125 : UInt8).toNat : Nat) : Int) = 125 from rfl] at HB2
   have hg1 := hg (i + 1) hi1
   rw [h3] at hg1
   generalize behW s.size (gAt s) 37 125 (i + 2) = E at *
   have HB3 := Lib.hid HB2
   clear hg HB2 HB
   by_cases hE : E = -1
   · subst hE
     rw [if_pos rfl] at hR
     subst hR
     go_enter Tryd.func91, Tryd.ntmps91
     go_wp2_with fail
     refine HB3.out.mono ?_
     rintro e w1 ⟨rfl, rfl⟩
     go_wp2_with fail
     exact bodyPost_ret (v := .tuple #[.agg #[.int .i64 0, .string ByteArray.empty, .int .i64 0], .int .i64 (i : Int)]) (by simp [results, Tryd.results91, go_sem]; rfl) rfl ⟨rfl, (Below.refl _ _).alloc (Nat.le_refl _) _⟩
   · rw [if_neg hE] at hR
     obtain ⟨q, rfl⟩ := Int.eq_ofNat_of_zero_le (show 0 ≤ E by omega)
     have hq1 : i + 4 ≤ q := by omega
     have hq2 : q ≤ s.size := by omega
     have e3 : (q : Int) - 2 = ((q - 2 : Nat) : Int) := by omega
     subst hR
     clear hbb hE
     go_enter Tryd.func91, Tryd.ntmps91
     go_wp2_with fail
     refine HB3.out.mono ?_
     rintro e w1 ⟨rfl, rfl⟩
     go_wp2_with fail
     exact bodyPost_ret (v := .tuple #[.agg #[.int .i64 9, .string (s.extract (i + 2) (q - 2)), .int .i64 (i : Int)], .int .i64 (q : Int)]) (by simp [results, Tryd.results91, go_sem]) rfl ⟨wdTells_mk rfl rfl, (Below.refl _ _).alloc (Nat.le_refl _) _⟩
 · rw [if_neg h3] at hR
   have hlb := letF_bd s.size (gAt s) (i + 1) (by omega)
   have HK := Lib.hid (fun W => isKey_any (s.extract i (letF s.size (gAt s) (i + 1))) W)
   have HW := Lib.hid (fun W => whole_any 5 s i (letF s.size (gAt s) (i + 1)) W (by omega) hlb.2 hs)
   generalize isKeyB (s.extract i (letF s.size (gAt s) (i + 1))) = K at hR HK
   have d2 : (gAt s (i + 1) == 37) = false := by simpa using h2
   have d3 : (gAt s (i + 1) == 123) = false := by simpa using h3
   have HL : Hid (∃ E, E = letF s.size (gAt s) (i + 1)) := Lib.hid ⟨_, rfl⟩
   obtain ⟨E, hE⟩ := HL.out
   rw [← hE] at hR HK HW hlb
   have HE := Lib.hid hE
   clear hE HL h2 h3
   generalize gAt s = g at *
   go_enter Tryd.func91, Tryd.ntmps91
   go_wp2_with fail
   go_loop [7] (fun x => ∃ k : Nat, i + 1 ≤ k ∧ k ≤ s.size ∧ x = .int .i64 k ∧ Hid (E = letF s.size g k)) (fun x => s.size + 1 - (intOf x).toNat)
   case atStart => exact ⟨i + 1, by omega, by omega, by go_num, HE⟩
   case round =>
    obtain ⟨k, hk1, hk2, rfl, HQ⟩ := hrel
    by_cases hlt : k < s.size
    · have HLb := Lib.hid (fun W => letter_any (g k) W)
      cases hlB : letB (g k) with
      | true =>
        rw [hlB] at HLb
        have HQ2 : Hid (E = letF s.size g (k + 1)) := Lib.hid (by have e := HQ.out; rw [letF, if_pos ⟨hlt, hlB⟩] at e; exact e)
        go_wp2_with (first | (go_at_call 110; refine (HLb.out _).mono ?_; rintro e w1 ⟨rfl, rfl⟩))
        go_round
        case rel => exact ⟨k + 1, by omega, by omega, by go_num, HQ2⟩
        case measure => simp [intOf]; omega
      | false =>
        rw [hlB] at HLb
        have hEk : E = k := by have e := HQ.out; rw [letF, if_neg (fun hc => by rw [hlB] at hc; exact absurd hc.2 (by simp))] at e; exact e
        subst hEk
        clear HQ HE
        go_wp2_with (first | (go_at_call 110; refine (HLb.out _).mono ?_; rintro e w1 ⟨rfl, rfl⟩))
        refine (HK.out _).mono ?_
        rintro e w1 ⟨rfl, rfl⟩
        cases K with
        | true =>
          rw [if_pos rfl] at hR
          subst hR
          go_wp2_with fail
          refine (HW.out _).mono ?_
          rintro e w1 ⟨rfl, hb1⟩
          have hbx := block_below (heap_alloc_new w _) hb1 (by simp)
          have hb2 := ((Below.refl w.heap.size w).alloc (Nat.le_refl _) _).trans (hb1.mono (by simp))
          obtain ⟨c0, c1, c2, f0, f1, f2⟩ := wd_facts hbx
          go_wp2_with fail
          exact bodyPost_ret (v := .tuple #[.agg #[.int .i64 5, .string (s.extract i E), .int .i64 (i : Int)], .int .i64 (E : Int)]) (by simp [results, Tryd.results91, go_sem, c0, c1, c2, World.cell?_setCell_same, World.cell?_setCell_other]) rfl ⟨wdTells_mk rfl rfl, wd_below hb2 (Nat.le_refl _) _ _ _⟩
        | false =>
          rw [if_neg (by simp)] at hR
          subst hR
          go_wp2_with fail
          exact bodyPost_ret (v := .tuple #[.agg #[.int .i64 0, .string ByteArray.empty, .int .i64 0], .int .i64 (i : Int)]) (by simp [results, Tryd.results91, go_sem]; rfl) rfl ⟨rfl, (Below.refl _ _).alloc (Nat.le_refl _) _⟩
    · have hEk : E = k := by have e := HQ.out; rw [letF, if_neg (fun hc => hlt hc.1)] at e; exact e
      subst hEk
      clear HQ HE
      go_wp2_with fail
      refine (HK.out _).mono ?_
      rintro e w1 ⟨rfl, rfl⟩
      cases K with
      | true =>
        rw [if_pos rfl] at hR
        subst hR
        go_wp2_with fail
        refine (HW.out _).mono ?_
        rintro e w1 ⟨rfl, hb1⟩
        have hbx := block_below (heap_alloc_new w _) hb1 (by simp)
        have hb2 := ((Below.refl w.heap.size w).alloc (Nat.le_refl _) _).trans (hb1.mono (by simp))
        obtain ⟨c0, c1, c2, f0, f1, f2⟩ := wd_facts hbx
        go_wp2_with fail
        exact bodyPost_ret (v := .tuple #[.agg #[.int .i64 5, .string (s.extract i E), .int .i64 (i : Int)], .int .i64 (E : Int)]) (by simp [results, Tryd.results91, go_sem, c0, c1, c2, World.cell?_setCell_same, World.cell?_setCell_other]) rfl ⟨wdTells_mk rfl rfl, wd_below hb2 (Nat.le_refl _) _ _ _⟩
      | false =>
        rw [if_neg (by simp)] at hR
        subst hR
        go_wp2_with fail
        exact bodyPost_ret (v := .tuple #[.agg #[.int .i64 0, .string ByteArray.empty, .int .i64 0], .int .i64 (i : Int)]) (by simp [results, Tryd.results91, go_sem]; rfl) rfl ⟨rfl, (Below.refl _ _).alloc (Nat.le_refl _) _⟩
end
end Go.Proofs.YtnoppoifepbchaaDoor
