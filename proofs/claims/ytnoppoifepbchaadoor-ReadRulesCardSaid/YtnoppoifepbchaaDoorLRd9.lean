/- Both readers at any text. -/
import Derived.Test.YtnoppoifepbchaaDoorLLexOk
import Derived.Test.YtnoppoifepbchaaDoorLLex18
import Derived.Test.YtnoppoifepbchaaDoorRd8
namespace Go.Proofs.YtnoppoifepbchaaDoor
open Go.RowKit
set_option linter.unusedVariables false
set_option linter.unusedSimpArgs false

theorem wds_at : ∀ (L : List Wd) (i : Nat) (x : Wd), L[i]? = some x → ((wds L).drop (i * 3)).take 3 = [.int .i64 x.kind, .string x.text, .int .i64 x.place]
 | [], i, x, h => by simp at h
 | y :: L, 0, x, h => by
   simp at h
   subst h
   rfl
 | y :: L, i + 1, x, h => by
   have e : (i + 1) * 3 = 3 + i * 3 := by omega
   have e2 : (wds (y :: L)).drop 3 = wds L := rfl
   rw [e, ← List.drop_drop, e2]
   exact wds_at L i x (by simpa using h)
theorem wdl_of_own {base : Nat} {w : World} {v : Value} {L : List Wd} (h : w.ownsRow base 76 3 v L.length (wds L)) : WdL w v L :=
 GrowL.list (S := fun _ => False) (R := wdR) ⟨h, Firm.pure (fun w' i x hx => wds_at L i x hx), fun _ _ h => h⟩ (by decide)
theorem bytes_below (w : World) (e : TypeId) (s : ByteArray) : Below w.heap.size w (Lib.bytesWorld w e s) :=
 ⟨rfl, rfl, rfl, by rw [Lib.bytesWorld_size]; omega, fun r hr => Lib.bytesWorld_at_old w e s r hr⟩
theorem atoi_ok : AtoiOk := fun t W h5 h0 hd hv => by
 have hne : t.data.toList ≠ [] := fun e => by
  have : t.size = t.data.toList.length := rfl
  rw [e, List.length_nil] at this
  omega
 have h := (atoi_digs t.data.toList hd hne).2 (show horA 0 t.data.toList < 1000000 by have e : horA 0 t.data.toList = rdNum t := rfl; rw [e]; omega)
 refine (Tryd.strconv_Atoi_ok t (by omega) _ h W).mono ?_
 rintro e w' ⟨rfl, hw⟩
 refine ⟨rfl, ?_⟩
 rcases hw with rfl | ⟨t2, rfl⟩
 · exact Below.refl _ _
 · exact bytes_below _ _ _
theorem lexGo_any (s : ByteArray) (w : World) (hs : s.size ≤ 1000000) (hE : LexEnv w) :
  Calls Tryd.prog 25 #[.string s] w (LexGo (wordsS s).1 (wordsS s).2.1 (wordsS s).2.2 w) := by
 refine (lwords_any s w hs hE).mono ?_
 rintro e w' ⟨⟨v, rfl, h⟩, hb⟩
 exact ⟨⟨v, rfl, wdl_of_own h⟩, hb⟩
/-- what a text is read as -/
def readT (s : ByteArray) : So × Int × Int := readS (wordsS s).1 (wordsS s).2.1 (wordsS s).2.2
theorem readL_any (s : ByteArray) (w : World) (hs : s.size ≤ 1000000) (hE : LexEnv w) : Calls Tryd.prog 11 #[.string s] w (ReadGo (readT s) w) :=
 read_any (Lib.hid atoi_ok) s _ _ _ w (words_bounds s).1.1 (words_bounds s).1.2 (words_bounds s).2 (Lib.hid (fun W hb => lexGo_any s W hs (hE.below hb)))
end Go.Proofs.YtnoppoifepbchaaDoor
