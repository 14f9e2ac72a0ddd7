/- merged -/
import Derived.Test.YtnoppoifepbchaaDoorBuilder
import Derived.Test.YtnoppoifepbchaaDoorQuote
import Derived.Test.YtnoppoifepbchaaDoorTxt1
import Derived.Test.YtnoppoifepbchaaDoorShelfAtoi
import Derived.Maps.AppendAt
import Derived.Deep.AppendLies
import Derived.Deep.RegionHeld3
import Derived.Deep.DeepCutAuto
import Derived.Lib.AppendIntMem
import Derived.Lib.Strings
namespace Go.Proofs.YtnoppoifepbchaaDoor
section
structure Wd where
 kind : Int
 text : ByteArray
 place : Int
end
section
section
open Go.RowKit
set_option linter.unusedVariables false
end
section
open Go.RowKit
set_option linter.unusedVariables false
end
section
open Go.RowKit
set_option linter.unusedVariables false
structure Pc where
 kind : Int
 text : ByteArray
 num : Int
 tag : ByteArray

def Pc.agg (p : Pc) : Value := .agg #[.int .i64 p.kind, .string p.text, .int .i64 p.num, .string p.tag]
def Pc.cells (p : Pc) : List Value := [.int .i64 p.kind, .string p.text, .int .i64 p.num, .string p.tag]

theorem digF_all (n : Nat) (g : Nat → Int) (i : Nat) : ∀ j, i ≤ j → j < digF n g i → digB (g j) = true := by
 fun_induction digF n g i with
 | case1 i h ih =>
   intro j h1 h2
   by_cases e : j = i
   · subst e; exact h.2
   · exact ih j (by omega) h2
 | case2 i h => intro j h1 h2; omega

theorem tagF_two (n : Nat) (g : Nat → Int) (i : Nat) : tagF n g i = i ∨ i + 3 ≤ tagF n g i := by
 unfold tagF; split
 · right; omega
 · left; rfl

end
end
section
section
open Go.RowKit
set_option linter.unusedVariables false
def pcs (L : List Pc) : List Value := L.flatMap Pc.cells
end
section
open Go.RowKit
set_option linter.unusedVariables false
end
end
section
section
open Go.RowKit
set_option linter.unusedVariables false
/-- a slice of pieces -/
def PcsV (w : World) (v : Value) (L : List Pc) : Prop := CellsV w v L.length (pcs L)

theorem PcsV.below {w w' : World} {v : Value} {L : List Pc} (h : PcsV w v L) (hb : Below w.heap.size w w') : PcsV w' v L := CellsV.below h hb

end
section
open Go.RowKit
set_option linter.unusedVariables false
end
section
open Go.RowKit
set_option linter.unusedVariables false
end
end
section
section
open Go.RowKit
set_option linter.unusedVariables false
/-- the byte at a place; -1: the text ends -/
def oAt (s : ByteArray) (i : Nat) : Int := if i < s.size then gAt s i else -1
/-- the bytes of two texts from two places on are alike, and one more -/
def Alike (s t : ByteArray) (x y len : Nat) : Prop := ∀ m, m ≤ len → oAt t (y + m) = oAt s (x + m)
theorem Alike.zero {s t : ByteArray} {x y len : Nat} (h : Alike s t x y len) : oAt t y = oAt s x := h 0 (Nat.zero_le _)

end
section
open Go.RowKit
set_option linter.unusedVariables false
theorem extract_len (s : ByteArray) {a b : Nat} (h : b ≤ s.size) : (s.extract a b).data.toList.length = b - a := by
 show (s.extract a b).size = _
 rw [ByteArray.size_extract]; omega
theorem extract_getD (s : ByteArray) {x e m : Nat} (he : e ≤ s.size) (hm : x + m < e) : ((((s.extract x e).data.toList).getD m 0).toNat : Int) = gAt s (x + m) := gAt_sub s x e m he hm
theorem digB_flat {c : Int} (h : digB c = true) : 48 ≤ c ∧ c ≤ 57 := by unfold digB at h; simpa using h
end
section
open Go.RowKit
set_option linter.unusedVariables false
end
end
section
open Go.RowKit
set_option linter.unusedVariables false
def takeF (n : Nat) (g : Nat → Int) (i : Int) : Int × Int × Bool :=
 if 3 ≤ n ∧ g 0 = 39 ∧ plainB (g 1) = true ∧ g 2 = 39 then (g 1, i + 3, true)
 else if 4 ≤ n ∧ g 0 = 39 ∧ g 1 = 92 ∧ g 3 = 39 ∧ escB (g 2) = true then (escC (g 2), i + 4, true)
 else (0, 0, false)

/-- the byte of a text at a place -/
def takeS (s : ByteArray) (i : Int) : Int × Int × Bool :=
 if 0 ≤ i ∧ i < s.size then takeF (s.size - i.toNat) (fun j => gAt s (i.toNat + j)) i else (0, 0, false)

def TakeTells (s : ByteArray) (i : Int) (e : Ending) : Prop := e = .returned (.tuple #[.int .u8 (takeS s i).1, .int .i64 (takeS s i).2.1, .bool (takeS s i).2.2])

theorem tells_mk {s : ByteArray} {i c e : Int} {ok : Bool} (h : takeS s i = (c, e, ok)) : TakeTells s i (.returned (.tuple #[.int .u8 c, .int .i64 e, .bool ok])) := by
 unfold TakeTells; rw [h]

theorem takeS_in {s : ByteArray} (i : Nat) (h : i < s.size) : takeS s i = takeF (s.size - i) (fun j => gAt s (i + j)) i := by
 unfold takeS; rw [if_pos (by omega)]; rfl

theorem take_in (s : ByteArray) (i : Nat) (g : Nat → Int) (w : World) (h0 : i < s.size) (h1 : s.size ≤ 9223372036854775000) (hT : Hid (takeS s i = takeF (s.size - i) g i))
  (hg : ∀ j (h : j < (s.extract i s.size).size), (((s.extract i s.size)[j]'h).toNat : Int) = g j) (hg0 : ∀ j, 0 ≤ g j) (hg1 : ∀ j, g j ≤ 255) :
   Calls Tryd.prog 87 #[.string s, .int .i64 i] w fun e w' => TakeTells s i e ∧ w = w' := by
 go_enter Tryd.func87, Tryd.ntmps87
 go_wp2_with (first | (go_at_call 112; refine (plain_any _ _ (hg0 _) (hg1 _)).mono ?_; rintro e w' ⟨rfl, rfl⟩) | (go_at_call 113; refine (esc_any _ _ (hg0 _) (hg1 _)).mono ?_; rintro e w' ⟨rfl, rfl⟩))
 all_goals go_ret3
 all_goals refine ⟨tells_mk ?_, rfl⟩
 all_goals rw [hT.out]
 all_goals unfold takeF
 all_goals grind [plainB]

theorem take_out (s : ByteArray) (i : Int) (w : World) (h0 : i < 0 ∨ s.size ≤ i) (h1 : s.size ≤ 9223372036854775000) :
  Calls Tryd.prog 87 #[.string s, .int .i64 i] w fun e w' => TakeTells s i e ∧ w = w' := by
 have hT := Lib.hid (show takeS s i = (0, 0, false) from by unfold takeS; rw [if_neg (by omega)])
 go_enter Tryd.func87, Tryd.ntmps87
 go_wp2_with (fail)
 all_goals go_ret3
 all_goals exact ⟨tells_mk hT.out, rfl⟩

theorem take_any (s : ByteArray) (i : Int) (w : World) (h1 : s.size ≤ 9223372036854775000) :
  Calls Tryd.prog 87 #[.string s, .int .i64 i] w fun e w' => TakeTells s i e ∧ w = w' := by
 by_cases h : 0 ≤ i ∧ i < s.size
 · obtain ⟨j, rfl⟩ := Int.eq_ofNat_of_zero_le h.1
   exact take_in s j (fun k => gAt s (j + k)) w (by omega) h1 (Lib.hid (takeS_in j (by omega))) (fun k hk => gAt_extract s j k hk) (fun k => gAt_lo _ _) (fun k => gAt_hi _ _)
 · exact take_out s i w (by omega) h1
end
end Go.Proofs.YtnoppoifepbchaaDoor
