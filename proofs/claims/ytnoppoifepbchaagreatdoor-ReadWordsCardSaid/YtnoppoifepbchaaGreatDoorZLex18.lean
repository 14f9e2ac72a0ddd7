/- The document's word: any; its words; what both tell of a text. -/
import Derived.Test.YtnoppoifepbchaaGreatDoorZA
import Derived.Test.YtnoppoifepbchaaGreatDoorZLex8
import Derived.Test.YtnoppoifepbchaaGreatDoorZLex11
import Derived.Test.YtnoppoifepbchaaGreatDoorZLex13
import Derived.Test.YtnoppoifepbchaaGreatDoorZLex14
import Derived.Test.YtnoppoifepbchaaGreatDoorZLex16
import Derived.Test.YtnoppoifepbchaaGreatDoorZLex15
import Derived.Test.YtnoppoifepbchaaGreatDoorZLex17
import Derived.Test.YtnoppoifepbchaaGreatDoorZLex19
import Derived.Test.YtnoppoifepbchaaGreatDoorZLexWakes
import Derived.Test.YtnoppoifepbchaaGreatDoorZMove2
namespace Go.Proofs.YtnoppoifepbchaaGreatDoor
open Go.RowKit
set_option linter.unusedVariables false
set_option linter.unusedSimpArgs false
theorem rword_key (s : ByteArray) (i : Nat) (w : World) (h : gAt s i = 37) (hi : i < s.size) (h1 : ¬ (i + 1 < s.size ∧ gAt s (i + 1) = 37)) (h2 : ¬ (i + 1 < s.size ∧ gAt s (i + 1) = 123)) (hs : s.size ≤ 1000000) :
  Calls Tryz.prog 34 #[.string s, .int .i64 i] w fun r w' => WdTells r (if isKeyB (s.extract i (letF s.size (gAt s) (i + 1))) = true then (⟨5, s.extract i (letF s.size (gAt s) (i + 1)), i⟩, letF s.size (gAt s) (i + 1) - i) else (⟨0, ByteArray.empty, i⟩, 0)) ∧ Below w.heap.size w w' := by
 have hb := letF_bd s.size (gAt s) (i + 1) (by omega)
 by_cases h3 : letF s.size (gAt s) (i + 1) < s.size
 · exact rword_key1 s i w h hi h1 h2 h3 hs
 · exact rword_key2 s i w h hi h1 h2 (by omega) hs

theorem rword_pct (s : ByteArray) (i : Nat) (w : World) (h : gAt s i = 37) (hi : i < s.size) (hs : s.size ≤ 1000000) :
  Calls Tryz.prog 34 #[.string s, .int .i64 i] w fun r w' => WdTells r (rwd i (pctWd s i)) ∧ Below w.heap.size w w' := by
 unfold pctWd
 by_cases h0 : i + 1 = s.size
 · rw [if_pos h0]
   have := rword_key s i w h hi (by omega) (by omega) hs
   have hl : letF s.size (gAt s) (i + 1) = i + 1 := by rw [letF, if_neg (by omega)]
   have hk : isKeyB (s.extract i (i + 1)) = false := by
    cases hq : isKeyB (s.extract i (i + 1)) with
    | false => rfl
    | true =>
      obtain ⟨j, hj, e⟩ := (key_at _).1 hq
      have e2 := congrArg List.length e
      rw [extract_len s (by omega)] at e2
      match j, hj with
      | 0, _ | 1, _ | 2, _ | 3, _ | 4, _ | 5, _ | 6, _ => simp [keyL] at e2 <;> omega
   rw [hl, hk, if_neg (by simp)] at this
   rw [rwd_none rfl]
   exact this
 · rw [if_neg h0]
   by_cases h1 : gAt s (i + 1) = 37
   · rw [if_pos h1, rwd_some (by decide), show i + 2 - i = 2 by omega]
     exact rword_mark s i w h (by omega) h1 hs
   · rw [if_neg h1]
     by_cases h2 : gAt s (i + 1) = 123
     · rw [if_pos h2]
       have := rword_pro s i w h (by omega) h2 hs
       have hb := findW_bd s.size (gAt s) 37 125 (i + 2)
       unfold behW
       generalize findW s.size (gAt s) 37 125 (i + 2) = F at *
       by_cases hF : F = -1
       · rw [if_pos hF] at this
         rw [if_pos hF, if_pos rfl, rwd_none rfl]
         exact this
       · rw [if_neg hF] at this
         rw [if_neg hF, if_neg (by omega), rwd_some (by decide)]
         rw [show (F + 2).toNat - 2 = F.toNat by omega, show (F + 2).toNat - i = F.toNat + 2 - i by omega]
         exact this
     · rw [if_neg h2]
       have := rword_key s i w h hi (fun hx => h1 hx.2) (fun hx => h2 hx.2) hs
       by_cases hk : isKeyB (s.extract i (letF s.size (gAt s) (i + 1))) = true
       · rw [if_pos hk] at this ⊢; rw [rwd_some (by decide)]; exact this
       · rw [if_neg hk] at this ⊢; rw [rwd_none rfl]; exact this

theorem rword_any (s : ByteArray) (i : Nat) (w : World) (hi : i < s.size) (hs : s.size ≤ 1000000) :
  Calls Tryz.prog 34 #[.string s, .int .i64 i] w fun r w' => WdTells r (rwd i (wordWd s i)) ∧ Below w.heap.size w w' := by
 unfold wordWd
 have hni := name_begins (s := s) hi
 by_cases hb : begB (gAt s i) = true
 · rw [if_pos (hni.2 hb)]; exact rword_name s i w hi hb hs
 rw [if_neg (fun hc => hb (hni.1 hc))]
 by_cases hd : digB (gAt s i) = true
 · rw [if_pos hd]; exact rword_dig s i w hi hd hs
 rw [if_neg hd]
 by_cases h1 : gAt s i = 39
 · rw [if_pos h1]; exact rword_lit s i w h1 hi hs
 rw [if_neg h1]
 by_cases h2 : gAt s i = 60
 · rw [if_pos h2]; exact rword_tag s i w h2 hi hs
 rw [if_neg h2]
 by_cases h3 : gAt s i = 58 ∨ gAt s i = 59 ∨ gAt s i = 124
 · rw [if_pos h3, rwd_some (by decide), show i + 1 - i = 1 by omega]
   exact rword_sign s i w _ ⟨hi, rfl, by simpa using hb, by simpa using hd⟩ h3 hs
 rw [if_neg h3]
 by_cases h4 : gAt s i = 123
 · rw [if_pos h4]; exact rword_code s i w h4 hi hs
 rw [if_neg h4]
 by_cases h5 : gAt s i = 37
 · rw [if_pos h5]; exact rword_pct s i w h5 hi hs
 rw [if_neg h5, rwd_none rfl]
 exact rword_none s i w hi (by simpa using hb) (by simpa using hd) h1 h2 (fun h => h3 (.inl h)) (fun h => h3 (.inr (.inl h))) (fun h => h3 (.inr (.inr h))) h4 h5 hs

theorem lwords_any (s : ByteArray) (w : World) (hs : s.size ≤ 1000000) (hE : LexEnv w) :
  Calls Tryz.prog 45 #[.string s] w (LWordsTells (wordsS s) w) := by
 unfold wordsS
 by_cases h : 4000 < s.size
 · rw [if_pos h]; exact lwords_long s w hs h
 · rw [if_neg h]; exact lwords_in s w _ (by omega) hE (Lib.hid rfl)
theorem rwords_any (s : ByteArray) (w : World) (hs : s.size ≤ 1000000) :
  Calls Tryz.prog 14 #[.string s] w (RWordsTells (wordsS s) w) := by
 unfold wordsS
 by_cases h : 4000 < s.size
 · rw [if_pos h]; exact rwords_long s w hs h
 · rw [if_neg h]; exact rwords_in s w _ (by omega) (Lib.hid rfl) (Lib.hid (fun W k hk => rword_any s k W hk hs))

end Go.Proofs.YtnoppoifepbchaaGreatDoor
