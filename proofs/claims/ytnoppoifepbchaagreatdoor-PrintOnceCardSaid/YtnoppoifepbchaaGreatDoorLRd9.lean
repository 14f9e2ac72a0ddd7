/- Both readers at any text. -/
import Derived.Test.YtnoppoifepbchaaGreatDoorReadS
import Derived.Test.YtnoppoifepbchaaGreatDoorRd8
import Derived.Test.YtnoppoifepbchaaGreatDoorTxt7
import Derived.Maps.AppendAt
import Derived.Deep.AppendLies
import Derived.Deep.RegionHeld3
import Derived.Deep.DeepCutAuto
import Derived.Lib.AppendIntMem
namespace Go.Proofs.YtnoppoifepbchaaGreatDoor
section
open Go.RowKit
set_option linter.unusedVariables false
set_option linter.unusedSimpArgs false

theorem wds_at : ∀ (L : List Wd) (i : Nat) (x : Wd), L[i]? = some x → ((wds L).drop (i * 3)).take 3 = [.int .i64 x.kind, .string x.text, .int .i64 x.place]
 | [], i, x, h => by simp at h
 | y :: L, 0, x, h => by
   simp at h
   subst h
   rfl
 | y :: L, i + 1, x, h => by
   have e : (i + 1) * 3 = 3 + i * 3 := by omega
   have e2 : (wds (y :: L)).drop 3 = wds L := rfl
   rw [e, ← List.drop_drop, e2]
   exact wds_at L i x (by simpa using h)
theorem wdl_of_own {base : Nat} {w : World} {v : Value} {L : List Wd} (h : w.ownsRow base 42 3 v L.length (wds L)) : WdL w v L :=
 GrowL.list (S := fun _ => False) (R := wdR) ⟨h, Firm.pure (fun w' i x hx => wds_at L i x hx), fun _ _ h => h⟩ (by decide)
theorem bytes_below (w : World) (e : TypeId) (s : ByteArray) : Below w.heap.size w (Lib.bytesWorld w e s) :=
 ⟨rfl, rfl, rfl, by rw [Lib.bytesWorld_size]; omega, fun r hr => Lib.bytesWorld_at_old w e s r hr⟩
theorem atoi_ok : AtoiOk := fun t W h5 h0 hd hv => by
 have hne : t.data.toList ≠ [] := fun e => by
  have : t.size = t.data.toList.length := rfl
  rw [e, List.length_nil] at this
  omega
 have h := (atoi_digs t.data.toList hd hne).2 (show horA 0 t.data.toList < 1000000 by have e : horA 0 t.data.toList = rdNum t := rfl; rw [e]; omega)
 refine (Tryz.strconv_Atoi_ok t (by omega) _ h W).mono ?_
 rintro e w' ⟨rfl, hw⟩
 refine ⟨rfl, ?_⟩
 rcases hw with rfl | ⟨t2, rfl⟩
 · exact Below.refl _ _
 · exact bytes_below _ _ _
theorem lexGo_any (s : ByteArray) (w : World) (hs : s.size ≤ 1000000) (hE : LexEnv w) :
  Calls Tryz.prog 45 #[.string s] w (LexGo (wordsS s).1 (wordsS s).2.1 (wordsS s).2.2 w) := by
 refine (lwords_any s w hs hE).mono ?_
 rintro e w' ⟨⟨v, rfl, h⟩, hb⟩
 exact ⟨⟨v, rfl, wdl_of_own h⟩, hb⟩
/-- what a text is read as -/
def readT (s : ByteArray) : So × Int × Int := readS (wordsS s).1 (wordsS s).2.1 (wordsS s).2.2
theorem readL_any (s : ByteArray) (w : World) (hs : s.size ≤ 1000000) (hE : LexEnv w) : Calls Tryz.prog 19 #[.string s] w (ReadGo (readT s) w) :=
 read_any (Lib.hid atoi_ok) s _ _ _ w (words_bounds s).1.1 (words_bounds s).1.2 (words_bounds s).2 (Lib.hid (fun W hb => lexGo_any s W hs (hE.below hb)))
end
section
section
open Go.RowKit
set_option linter.unusedVariables false
end
section
open Go.RowKit
set_option linter.unusedVariables false
/-- the number of a row of digits -/
def numW (g : Nat → Int) (a : Nat) : Nat → Int
 | 0 => 0
 | k + 1 => wrap64 (wrap64 (numW g a k * 10) + (g (a + k) - 48))

end
section
open Go.RowKit
set_option linter.unusedVariables false
/-- more digits than may be, somewhere behind a dollar that is not passed over -/
def nextF (n : Nat) (g : Nat → Int) (i : Nat) : Nat := max (overF n g i).toNat (i + 1)
def tooF (n : Nat) (g : Nat → Int) (i : Nat) : Bool :=
 if i < n then
  if g i = 36 ∧ 3 < digF n g (tagF n g (i + 1)) - tagF n g (i + 1) then true else tooF n g (nextF n g i)
 else false
 termination_by n - i
 decreasing_by unfold nextF; omega

theorem nextF_bd (n : Nat) (g : Nat → Int) (i : Nat) (hi : i < n) : i < nextF n g i ∧ nextF n g i ≤ n := by
 have := overF_bd n g i hi
 unfold nextF; omega

def pieceF (s : ByteArray) (n : Nat) (g : Nat → Int) (i : Nat) : Pc × Nat :=
 let b := tagF n g (i + 1)
 let tag := if i + 1 < b then s.extract (i + 2) (b - 1) else ByteArray.empty
 if b < n ∧ g b = 36 then (⟨2, ByteArray.empty, 0, tag⟩, b + 1)
 else if digF n g b = b then (⟨0, ByteArray.empty, 0, ByteArray.empty⟩, i)
 else (⟨3, ByteArray.empty, numW g b (digF n g b - b), tag⟩, digF n g b)

def tagT (s : ByteArray) (i b : Nat) : ByteArray := if i + 1 < b then s.extract (i + 2) (b - 1) else ByteArray.empty
theorem pieceF_eq (s : ByteArray) (n : Nat) (g : Nat → Int) (i : Nat) : pieceF s n g i =
  if tagF n g (i + 1) < n ∧ g (tagF n g (i + 1)) = 36 then (⟨2, ByteArray.empty, 0, tagT s i (tagF n g (i + 1))⟩, tagF n g (i + 1) + 1)
  else if digF n g (tagF n g (i + 1)) = tagF n g (i + 1) then (⟨0, ByteArray.empty, 0, ByteArray.empty⟩, i)
  else (⟨3, ByteArray.empty, numW g (tagF n g (i + 1)) (digF n g (tagF n g (i + 1)) - tagF n g (i + 1)), tagT s i (tagF n g (i + 1))⟩, digF n g (tagF n g (i + 1))) := rfl

end
end
section
section
open Go.RowKit
set_option linter.unusedVariables false
def txtL (s : ByteArray) : List Pc := if s.size = 0 then [] else [⟨1, s, 0, ByteArray.empty⟩]

theorem pieceF_bd (s : ByteArray) (n : Nat) (g : Nat → Int) (i : Nat) (hi : i < n) (hk : (pieceF s n g i).1.kind ≠ 0) : i < (pieceF s n g i).2 ∧ (pieceF s n g i).2 ≤ n := by
 have h1 := tagF_bd n g (i + 1) (by omega)
 have h2 := digF_bd n g (tagF n g (i + 1)) h1.2
 rw [pieceF_eq] at hk ⊢
 split
 · simp; omega
 · rename_i h
   rw [if_neg h] at hk
   split
   · rename_i h3
     rw [if_pos h3] at hk
     exact absurd rfl hk
   · simp; omega

/-- the pieces from a place on, the text's beginning given -/
def cutF (s : ByteArray) (n : Nat) (g : Nat → Int) (f i : Nat) : List Pc :=
 if hi : i < n then
  if g i = 36 then
   if hk : (pieceF s n g i).1.kind = 0 then cutF s n g f (i + 1)
   else txtL (s.extract f i) ++ (pieceF s n g i).1 :: cutF s n g (pieceF s n g i).2 (pieceF s n g i).2
  else cutF s n g f (nextF n g i)
 else txtL (s.extract f s.size)
 termination_by n - i
 decreasing_by
 · omega
 · have := pieceF_bd s n g i hi hk; omega
 · have := nextF_bd n g i hi; omega

def cutS (s : ByteArray) : List Pc × Int :=
 if endS s 0 = s.size then (if tooF s.size (gAt s) 0 = true then ([], 6) else (cutF s s.size (gAt s) 0 0, 0)) else ([], 1)
end
section
open Go.RowKit
set_option linter.unusedVariables false
end
end
section
section
open Go.RowKit
set_option linter.unusedVariables false
def noPc : Pc := ⟨0, ByteArray.empty, 0, ByteArray.empty⟩
end
section
open Go.RowKit
set_option linter.unusedVariables false
end
section
open Go.RowKit
set_option linter.unusedVariables false
def s1 : ByteArray := ⟨#[123, 36, 36, 61, 36, 49, 125]⟩
theorem k1 : (cutS s1).2 = 0 := by decide +kernel
theorem k2 : (cutS s1).1.length = 5 := by decide +kernel
theorem k3 : ((cutS s1).1.getD 1 noPc).kind = 2 := by decide +kernel
end
end
end Go.Proofs.YtnoppoifepbchaaGreatDoor
