/- The words that are told may be read. -/
import Derived.Test.YtnoppoifepbchaaDoorLLexWakes
import Derived.Test.YtnoppoifepbchaaDoorSrcA
namespace Go.Proofs.YtnoppoifepbchaaDoor
open Go.RowKit
set_option linter.unusedVariables false

/-- a word that stands in a text -/
def WdOk (x : Wd) : Prop := 1 ≤ x.kind ∧ x.kind ≤ 9 ∧ 0 ≤ x.place ∧ x.place ≤ 100000 ∧ x.text.size ≤ 100000 ∧
 (x.kind = 3 → x.text.size ≤ 5 ∧ 0 < x.text.size ∧ (∀ c ∈ x.text.data.toList, 48 ≤ c.toNat ∧ c.toNat ≤ 57) ∧ rdNum x.text ≤ 50000)
theorem ext_small (s : ByteArray) (a b : Nat) (h : s.size ≤ 90000) : (s.extract a b).size ≤ 100000 := by rw [ByteArray.size_extract]; omega
theorem wdOk_plain {k : Int} {t : ByteArray} {i : Nat} (h1 : 1 ≤ k) (h9 : k ≤ 9) (h3 : k ≠ 3) (ht : t.size ≤ 100000) (hi : i ≤ 90000) : WdOk ⟨k, t, i⟩ :=
 ⟨h1, h9, by simp only; omega, by simp only; omega, ht, fun h => absurd h h3⟩
theorem digWd_ok (s : ByteArray) (i : Nat) (hi : i < s.size) (hd : digB (gAt s i) = true) (hs : s.size ≤ 90000) (hk : (digWd s i).1.kind ≠ 0) : WdOk (digWd s i).1 := by
 have hb := digF_bd s.size (gAt s) i (by omega)
 have hlt : i < digF s.size (gAt s) i := by
  rw [digF, if_pos ⟨hi, hd⟩]
  have := digF_bd s.size (gAt s) (i + 1) (by omega)
  omega
 have hds := digL_digs s i (by omega)
 have hlen : (digL s i).length = digF s.size (gAt s) i - i := extract_len s hb.2
 have h0 := extract_getD s (x := i) (m := 0) hb.2 (by omega)
 unfold digWd at hk ⊢
 split
 · rename_i h; rw [if_pos h] at hk; exact absurd rfl hk
 rename_i h; rw [if_neg h] at hk
 split
 · rename_i h2; rw [if_pos h2] at hk; exact absurd rfl hk
 rename_i h2
 have h48 : gAt s i ≠ 48 := fun e => h2 (.inl e)
 have h5 : horA 0 (digL s i) ≤ 50000 := Nat.le_of_not_lt (fun e => h2 (.inr e))
 have hsz : (s.extract i (digF s.size (gAt s) i)).size = (digL s i).length := rfl
 refine ⟨by show (1 : Int) ≤ 3; decide, by show (3 : Int) ≤ 9; decide, by show (0 : Int) ≤ (i : Int); omega, by show (i : Int) ≤ 100000; omega, ext_small _ _ _ hs, fun _ => ⟨?_, ?_, hds, h5⟩⟩
 · show (s.extract i (digF s.size (gAt s) i)).size ≤ 5
   rw [hsz]
   have hl0 : (digL s i).getD 0 0 = (s.extract i (digF s.size (gAt s) i)).data.toList.getD 0 0 := rfl
   rw [← hl0, Nat.add_zero] at h0
   cases hl : digL s i with
   | nil => simp
   | cons c r =>
     rw [hl] at h0 h5 hds
     have hc := hds c (List.mem_cons_self ..)
     have e0 : (c.toNat : Int) = gAt s i := h0
     rw [horA_cons] at h5
     have hg := horA_ge r (0 * 10 + (c.toNat - 48))
     have hc1 : 1 ≤ 0 * 10 + (c.toNat - 48) := by omega
     rcases Nat.lt_or_ge 4 r.length with h6 | h6
     · exfalso
       have h7 : 10 ^ 5 ≤ 10 ^ r.length := Nat.pow_le_pow_right (by decide) h6
       have h8 : 1 * 10 ^ r.length ≤ (0 * 10 + (c.toNat - 48)) * 10 ^ r.length := Nat.mul_le_mul_right _ hc1
       omega
     · simp only [List.length_cons]; omega
 · show 0 < (s.extract i (digF s.size (gAt s) i)).size
   rw [hsz]; omega
theorem wordWd_ok (s : ByteArray) (i : Nat) (hi : i < s.size) (hs : s.size ≤ 90000) (hk : (wordWd s i).1.kind ≠ 0) : WdOk (wordWd s i).1 := by
 unfold wordWd at hk ⊢
 split
 · rename_i h; rw [if_pos h] at hk
   unfold nameWd at hk ⊢
   split
   · exact wdOk_plain (by decide) (by decide) (by decide) (ext_small _ _ _ hs) (by omega)
   · rename_i h2; rw [if_neg h2] at hk; exact absurd rfl hk
 rename_i h; rw [if_neg h] at hk; clear h
 split
 · rename_i h; rw [if_pos h] at hk; exact digWd_ok s i hi h hs hk
 rename_i h; rw [if_neg h] at hk; clear h
 split
 · rename_i h; rw [if_pos h] at hk
   split
   · exact wdOk_plain (by decide) (by decide) (by decide) (by show 1 ≤ 100000; decide) (by omega)
   · rename_i h2; rw [if_neg h2] at hk; exact absurd rfl hk
 rename_i h; rw [if_neg h] at hk; clear h
 split
 · rename_i h; rw [if_pos h] at hk
   split
   · exact wdOk_plain (by decide) (by decide) (by decide) (ext_small _ _ _ hs) (by omega)
   · rename_i h2; rw [if_neg h2] at hk; exact absurd rfl hk
 rename_i h; rw [if_neg h] at hk; clear h
 split
 · exact wdOk_plain (by decide) (by decide) (by decide) (ext_small _ _ _ hs) (by omega)
 rename_i h; rw [if_neg h] at hk; clear h
 split
 · rename_i h; rw [if_pos h] at hk
   split
   · exact wdOk_plain (by decide) (by decide) (by decide) (ext_small _ _ _ hs) (by omega)
   · rename_i h2; rw [if_neg h2] at hk; exact absurd rfl hk
 rename_i h; rw [if_neg h] at hk; clear h
 split
 · rename_i h; rw [if_pos h] at hk
   unfold pctWd at hk ⊢
   split
   · rename_i h2; rw [if_pos h2] at hk; exact absurd rfl hk
   rename_i h2; rw [if_neg h2] at hk
   split
   · exact wdOk_plain (by decide) (by decide) (by decide) (ext_small _ _ _ hs) (by omega)
   rename_i h3; rw [if_neg h3] at hk
   split
   · rename_i h4; rw [if_pos h4] at hk
     split
     · rename_i h5; rw [if_pos h5] at hk; exact absurd rfl hk
     · exact wdOk_plain (by decide) (by decide) (by decide) (ext_small _ _ _ hs) (by omega)
   rename_i h4; rw [if_neg h4] at hk
   split
   · exact wdOk_plain (by decide) (by decide) (by decide) (ext_small _ _ _ hs) (by omega)
   · rename_i h5; rw [if_neg h5] at hk; exact absurd rfl hk
 · rename_i h; rw [if_neg h] at hk; exact absurd rfl hk
/-- words with the end behind them -/
theorem lexOk_end {L : List Wd} {t : ByteArray} {p : Int} (hL : ∀ x ∈ L, WdOk x) (hl : L.length ≤ 90000) (ht : t.size ≤ 100000) (h0 : 0 ≤ p) (h1 : p ≤ 100000) : LexOk (L ++ [⟨10, t, p⟩]) := by
 have key : ∀ (P : Wd → Prop), (∀ x, WdOk x → P x) → P ⟨10, t, p⟩ → ∀ x ∈ L ++ [⟨10, t, p⟩], P x := fun P h2 h3 x hx => by
  rcases List.mem_append.1 hx with h | h
  · exact h2 x (hL x h)
  · rw [List.mem_singleton.1 h]; exact h3
 exact {
  ends := ⟨L, _, rfl, rfl, fun x hx => by have := (hL x hx).2.1; omega⟩
  num := key (fun x => x.kind = 3 → _) (fun x hx => hx.2.2.2.2.2) (fun h => absurd h (show ¬ (10 : Int) = 3 by decide))
  len := by simp; omega
  text := key (fun x => x.text.size ≤ 100000) (fun x hx => hx.2.2.2.2.1) ht
  place := key (fun x => 0 ≤ x.place ∧ x.place ≤ 100000) (fun x hx => ⟨hx.2.2.1, hx.2.2.2.1⟩) ⟨h0, h1⟩
  kinds := key (fun x => 0 ≤ x.kind ∧ x.kind ≤ 10) (fun x hx => ⟨by have := hx.1; omega, by have := hx.2.1; omega⟩) ⟨show (0 : Int) ≤ 10 by decide, show (10 : Int) ≤ 10 by decide⟩ }
theorem wordsF_ok (s : ByteArray) (hs : s.size ≤ 90000) : ∀ (i m : Nat) (L : List Wd), i ≤ s.size → L.length ≤ i → (∀ x ∈ L, WdOk x) →
  ((wordsF s i m L).2.1 = 0 ∧ LexOk (wordsF s i m L).1) ∨ ((wordsF s i m L).2.1 = 2 ∧ (wordsF s i m L).1 = [] ∧ 0 ≤ (wordsF s i m L).2.2 ∧ (wordsF s i m L).2.2 ≤ 100000) := by
 intro i m L
 fun_induction wordsF s i m L with
 | case1 i m L h ih =>
   intro hi hl hL
   have h1 := betF_bd s.size (gAt s) _ i rfl hi
   have h2 := wordWd_bd s _ h.2.2.1 h.2.2.2.1
   refine ih (by omega) (by rw [List.length_append, List.length_singleton]; omega) (fun x hx => ?_)
   rcases List.mem_append.1 hx with h3 | h3
   · exact hL x h3
   · rw [List.mem_singleton.1 h3]; exact wordWd_ok s _ h.2.2.1 hs h.2.2.2.1
 | case2 i m L h =>
   intro hi hl hL
   have h1 := betF_bd s.size (gAt s) _ i rfl hi
   unfold stopF
   split
   · right; exact ⟨rfl, rfl, by simp only; omega, by simp only; omega⟩
   · split
     · split
       · right; exact ⟨rfl, rfl, by simp only; omega, by simp only; omega⟩
       · rename_i h3 h4
         have h2 := wordWd_bd s _ h3 h4
         left; exact ⟨rfl, lexOk_end hL (by omega) (ext_small _ _ _ hs) (by omega) (by omega)⟩
     · left; exact ⟨rfl, lexOk_end hL (by omega) (by show 0 ≤ 100000; decide) (by omega) (by omega)⟩
theorem wordsS_ok (s : ByteArray) : ((wordsS s).2.1 = 0 ∧ LexOk (wordsS s).1) ∨ (((wordsS s).2.1 = 2 ∨ (wordsS s).2.1 = 4) ∧ (wordsS s).1 = [] ∧ 0 ≤ (wordsS s).2.2 ∧ (wordsS s).2.2 ≤ 100000) := by
 unfold wordsS
 split
 · right; exact ⟨.inr rfl, rfl, by decide, by decide⟩
 · rcases wordsF_ok s (by omega) 0 0 [] (Nat.zero_le _) (Nat.zero_le _) (fun x hx => by cases hx) with h | h
   · exact .inl h
   · exact .inr ⟨.inl h.1, h.2⟩
theorem words_bounds (s : ByteArray) : (-9223372036854775808 ≤ (wordsS s).2.1 ∧ (wordsS s).2.1 ≤ 9223372036854775807) ∧ ((wordsS s).2.1 = 0 → LexOk (wordsS s).1) := by
 rcases wordsS_ok s with h | ⟨h | h, h2⟩
 · exact ⟨by rw [h.1]; decide, fun _ => h.2⟩
 · exact ⟨by rw [h]; decide, fun e => by rw [h] at e; exact absurd e (by decide)⟩
 · exact ⟨by rw [h]; decide, fun e => by rw [h] at e; exact absurd e (by decide)⟩
end Go.Proofs.YtnoppoifepbchaaDoor
