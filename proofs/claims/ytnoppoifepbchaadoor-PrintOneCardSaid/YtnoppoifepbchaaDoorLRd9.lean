/- Both readers at any text. -/
import Derived.Test.YtnoppoifepbchaaDoorReadS
import Derived.Test.YtnoppoifepbchaaDoorRd8
import Derived.Test.YtnoppoifepbchaaDoorTxt1
import Derived.Maps.AppendAt
import Derived.Deep.AppendLies
import Derived.Deep.RegionHeld3
import Derived.Deep.DeepCutAuto
import Derived.Lib.AppendIntMem
namespace Go.Proofs.YtnoppoifepbchaaDoor
section
open Go.RowKit
set_option linter.unusedVariables false
set_option linter.unusedSimpArgs false

theorem wds_at : ∀ (L : List Wd) (i : Nat) (x : Wd), L[i]? = some x → ((wds L).drop (i * 3)).take 3 = [.int .i64 x.kind, .string x.text, .int .i64 x.place]
 | [], i, x, h => by simp at h
 | y :: L, 0, x, h => by
   simp at h
   subst h
   rfl
 | y :: L, i + 1, x, h => by
   have e : (i + 1) * 3 = 3 + i * 3 := by omega
   have e2 : (wds (y :: L)).drop 3 = wds L := rfl
   rw [e, ← List.drop_drop, e2]
   exact wds_at L i x (by simpa using h)
theorem wdl_of_own {base : Nat} {w : World} {v : Value} {L : List Wd} (h : w.ownsRow base 76 3 v L.length (wds L)) : WdL w v L :=
 GrowL.list (S := fun _ => False) (R := wdR) ⟨h, Firm.pure (fun w' i x hx => wds_at L i x hx), fun _ _ h => h⟩ (by decide)
theorem bytes_below (w : World) (e : TypeId) (s : ByteArray) : Below w.heap.size w (Lib.bytesWorld w e s) :=
 ⟨rfl, rfl, rfl, by rw [Lib.bytesWorld_size]; omega, fun r hr => Lib.bytesWorld_at_old w e s r hr⟩
theorem atoi_ok : AtoiOk := fun t W h5 h0 hd hv => by
 have hne : t.data.toList ≠ [] := fun e => by
  have : t.size = t.data.toList.length := rfl
  rw [e, List.length_nil] at this
  omega
 have h := (atoi_digs t.data.toList hd hne).2 (show horA 0 t.data.toList < 1000000 by have e : horA 0 t.data.toList = rdNum t := rfl; rw [e]; omega)
 refine (Tryd.strconv_Atoi_ok t (by omega) _ h W).mono ?_
 rintro e w' ⟨rfl, hw⟩
 refine ⟨rfl, ?_⟩
 rcases hw with rfl | ⟨t2, rfl⟩
 · exact Below.refl _ _
 · exact bytes_below _ _ _
theorem lexGo_any (s : ByteArray) (w : World) (hs : s.size ≤ 1000000) (hE : LexEnv w) :
  Calls Tryd.prog 25 #[.string s] w (LexGo (wordsS s).1 (wordsS s).2.1 (wordsS s).2.2 w) := by
 refine (lwords_any s w hs hE).mono ?_
 rintro e w' ⟨⟨v, rfl, h⟩, hb⟩
 exact ⟨⟨v, rfl, wdl_of_own h⟩, hb⟩
/-- what a text is read as -/
def readT (s : ByteArray) : So × Int × Int := readS (wordsS s).1 (wordsS s).2.1 (wordsS s).2.2
theorem readL_any (s : ByteArray) (w : World) (hs : s.size ≤ 1000000) (hE : LexEnv w) : Calls Tryd.prog 11 #[.string s] w (ReadGo (readT s) w) :=
 read_any (Lib.hid atoi_ok) s _ _ _ w (words_bounds s).1.1 (words_bounds s).1.2 (words_bounds s).2 (Lib.hid (fun W hb => lexGo_any s W hs (hE.below hb)))
end
section
section
open Go.RowKit
set_option linter.unusedVariables false
end
section
open Go.RowKit
set_option linter.unusedVariables false
/-- the number of a row of digits -/
def numW (g : Nat → Int) (a : Nat) : Nat → Int
 | 0 => 0
 | k + 1 => wrap64 (wrap64 (numW g a k * 10) + (g (a + k) - 48))

end
section
open Go.RowKit
set_option linter.unusedVariables false
/-- more digits than may be, somewhere behind a dollar that is not passed over -/
def nextF (n : Nat) (g : Nat → Int) (i : Nat) : Nat := max (overF n g i).toNat (i + 1)
def tooF (n : Nat) (g : Nat → Int) (i : Nat) : Bool :=
 if i < n then
  if g i = 36 ∧ 3 < digF n g (tagF n g (i + 1)) - tagF n g (i + 1) then true else tooF n g (nextF n g i)
 else false
 termination_by n - i
 decreasing_by unfold nextF; omega

theorem nextF_bd (n : Nat) (g : Nat → Int) (i : Nat) (hi : i < n) : i < nextF n g i ∧ nextF n g i ≤ n := by
 have := overF_bd n g i hi
 unfold nextF; omega

def pieceF (s : ByteArray) (n : Nat) (g : Nat → Int) (i : Nat) : Pc × Nat :=
 let b := tagF n g (i + 1)
 let tag := if i + 1 < b then s.extract (i + 2) (b - 1) else ByteArray.empty
 if b < n ∧ g b = 36 then (⟨2, ByteArray.empty, 0, tag⟩, b + 1)
 else if digF n g b = b then (⟨0, ByteArray.empty, 0, ByteArray.empty⟩, i)
 else (⟨3, ByteArray.empty, numW g b (digF n g b - b), tag⟩, digF n g b)

def tagT (s : ByteArray) (i b : Nat) : ByteArray := if i + 1 < b then s.extract (i + 2) (b - 1) else ByteArray.empty
theorem pieceF_eq (s : ByteArray) (n : Nat) (g : Nat → Int) (i : Nat) : pieceF s n g i =
  if tagF n g (i + 1) < n ∧ g (tagF n g (i + 1)) = 36 then (⟨2, ByteArray.empty, 0, tagT s i (tagF n g (i + 1))⟩, tagF n g (i + 1) + 1)
  else if digF n g (tagF n g (i + 1)) = tagF n g (i + 1) then (⟨0, ByteArray.empty, 0, ByteArray.empty⟩, i)
  else (⟨3, ByteArray.empty, numW g (tagF n g (i + 1)) (digF n g (tagF n g (i + 1)) - tagF n g (i + 1)), tagT s i (tagF n g (i + 1))⟩, digF n g (tagF n g (i + 1))) := rfl

end
end
section
section
open Go.RowKit
set_option linter.unusedVariables false
def txtL (s : ByteArray) : List Pc := if s.size = 0 then [] else [⟨1, s, 0, ByteArray.empty⟩]

theorem pieceF_bd (s : ByteArray) (n : Nat) (g : Nat → Int) (i : Nat) (hi : i < n) (hk : (pieceF s n g i).1.kind ≠ 0) : i < (pieceF s n g i).2 ∧ (pieceF s n g i).2 ≤ n := by
 have h1 := tagF_bd n g (i + 1) (by omega)
 have h2 := digF_bd n g (tagF n g (i + 1)) h1.2
 rw [pieceF_eq] at hk ⊢
 split
 · simp; omega
 · rename_i h
   rw [if_neg h] at hk
   split
   · rename_i h3
     rw [if_pos h3] at hk
     exact absurd rfl hk
   · simp; omega

/-- the pieces from a place on, the text's beginning given -/
def cutF (s : ByteArray) (n : Nat) (g : Nat → Int) (f i : Nat) : List Pc :=
 if hi : i < n then
  if g i = 36 then
   if hk : (pieceF s n g i).1.kind = 0 then cutF s n g f (i + 1)
   else txtL (s.extract f i) ++ (pieceF s n g i).1 :: cutF s n g (pieceF s n g i).2 (pieceF s n g i).2
  else cutF s n g f (nextF n g i)
 else txtL (s.extract f s.size)
 termination_by n - i
 decreasing_by
 · omega
 · have := pieceF_bd s n g i hi hk; omega
 · have := nextF_bd n g i hi; omega

def cutS (s : ByteArray) : List Pc × Int :=
 if endS s 0 = s.size then (if tooF s.size (gAt s) 0 = true then ([], 6) else (cutF s s.size (gAt s) 0 0, 0)) else ([], 1)
end
section
open Go.RowKit
set_option linter.unusedVariables false
end
end
section
section
open Go.RowKit
set_option linter.unusedVariables false
def noPc : Pc := ⟨0, ByteArray.empty, 0, ByteArray.empty⟩
end
section
open Go.RowKit
set_option linter.unusedVariables false
end
section
open Go.RowKit
set_option linter.unusedVariables false
def s1 : ByteArray := ⟨#[123, 36, 36, 61, 36, 49, 125]⟩
theorem k1 : (cutS s1).2 = 0 := by decide +kernel
theorem k2 : (cutS s1).1.length = 5 := by decide +kernel
theorem k3 : ((cutS s1).1.getD 1 noPc).kind = 2 := by decide +kernel
end
end
section
section
open Go.RowKit
set_option linter.unusedVariables false
theorem oAt_lt {s : ByteArray} {i : Nat} (h : i < s.size) : oAt s i = gAt s i := if_pos h
theorem oAt_end {s : ByteArray} {i : Nat} (h : ¬ i < s.size) : oAt s i = -1 := if_neg h
theorem oAt_is {s : ByteArray} {i : Nat} {c : Int} (hc : 0 ≤ c) : oAt s i = c ↔ i < s.size ∧ gAt s i = c := by
 unfold oAt; split <;> constructor
 · intro h1; exact ⟨by assumption, h1⟩
 · rintro ⟨_, h1⟩; exact h1
 · intro h1; omega
 · rintro ⟨h1, _⟩; omega
theorem oAt_dig {s : ByteArray} {i : Nat} : digB (oAt s i) = true ↔ i < s.size ∧ digB (gAt s i) = true := by
 unfold oAt; split
 · rename_i h; simp [h]
 · rename_i h; simp [h]; decide
theorem oAt_beg {s : ByteArray} {i : Nat} : begB (oAt s i) = true ↔ i < s.size ∧ begB (gAt s i) = true := by
 unfold oAt; split
 · rename_i h; simp [h]
 · rename_i h; simp [h]; decide

def nameB (c : Int) : Bool := begB c || digB c || decide (c = 46)
theorem nameW_o (s : ByteArray) (i : Nat) : nameW s.size (gAt s) i = if nameB (oAt s i) = true then nameW s.size (gAt s) (i + 1) else i := by
 have e1 := @oAt_dig s i
 have e2 := @oAt_beg s i
 have e3 := @oAt_is s i 46 (by omega)
 rw [nameW]
 have : (i < s.size ∧ (begB (gAt s i) = true ∨ digB (gAt s i) = true ∨ gAt s i = 46)) ↔ nameB (oAt s i) = true := by
  unfold nameB; simp only [Bool.or_eq_true, decide_eq_true_eq, e1, e2, e3]
  constructor
  · rintro ⟨h, h1 | h1 | h1⟩
    · exact .inl (.inl ⟨h, h1⟩)
    · exact .inl (.inr ⟨h, h1⟩)
    · exact .inr ⟨h, h1⟩
  · rintro ((⟨h, h1⟩ | ⟨h, h1⟩) | ⟨h, h1⟩)
    · exact ⟨h, .inl h1⟩
    · exact ⟨h, .inr (.inl h1)⟩
    · exact ⟨h, .inr (.inr h1)⟩
 by_cases h : nameB (oAt s i) = true
 · rw [if_pos h, if_pos (this.2 h)]
 · rw [if_neg h, if_neg (fun hc => h (this.1 hc))]
theorem nameF_o (s : ByteArray) (i : Nat) : nameF s.size (gAt s) i = if begB (oAt s i) = true then nameW s.size (gAt s) i else i := by
 unfold nameF
 by_cases h : begB (oAt s i) = true
 · rw [if_pos h, if_pos (oAt_beg.1 h)]
 · rw [if_neg h, if_neg (fun hc => h (oAt_beg.2 hc))]
theorem digF_o (s : ByteArray) (i : Nat) : digF s.size (gAt s) i = if digB (oAt s i) = true then digF s.size (gAt s) (i + 1) else i := by
 rw [digF]
 by_cases h : digB (oAt s i) = true
 · rw [if_pos h, if_pos (oAt_dig.1 h)]
 · rw [if_neg h, if_neg (fun hc => h (oAt_dig.2 hc))]
theorem tagF_o (s : ByteArray) (i : Nat) : tagF s.size (gAt s) i = if oAt s i = 60 ∧ i + 1 < nameF s.size (gAt s) (i + 1) ∧ nameF s.size (gAt s) (i + 1) - (i + 1) ≤ 20 ∧ oAt s (nameF s.size (gAt s) (i + 1)) = 62 then nameF s.size (gAt s) (i + 1) + 1 else i := by
 have e1 := @oAt_is s i 60 (by omega)
 have e2 := @oAt_is s (nameF s.size (gAt s) (i + 1)) 62 (by omega)
 unfold tagF
 simp only [e1, e2]
 generalize nameF s.size (gAt s) (i + 1) = e
 by_cases h : (i < s.size ∧ gAt s i = 60) ∧ i + 1 < e ∧ e - (i + 1) ≤ 20 ∧ e < s.size ∧ gAt s e = 62
 · rw [if_pos h, if_pos ⟨h.1.1, h.1.2, h.2⟩]
 · rw [if_neg h, if_neg (fun hc => h ⟨⟨hc.1, hc.2.1⟩, hc.2.2⟩)]

theorem Alike.le {s t : ByteArray} {x y len k : Nat} (h : Alike s t x y len) (hk : k ≤ len) : Alike s t x y k := fun m hm => h m (by omega)
theorem Alike.from {s t : ByteArray} {x y len k : Nat} (h : Alike s t x y len) (hk : k ≤ len) : Alike s t (x + k) (y + k) (len - k) := fun m hm => by
 have := h (k + m) (by omega)
 rwa [← Nat.add_assoc, ← Nat.add_assoc] at this
theorem nameW_alike {s t : ByteArray} : ∀ len x y, Alike s t x y len → nameW s.size (gAt s) x ≤ x + len → nameW t.size (gAt t) y + x = y + nameW s.size (gAt s) x := by
 intro len
 induction len with
 | zero =>
   intro x y h hl
   rw [nameW_o s x] at hl ⊢
   rw [nameW_o t y, h.zero]
   split
   · rename_i hn
     rw [if_pos hn] at hl
     have hx : x < s.size := by
      by_cases hx : x < s.size
      · exact hx
      · rw [oAt_end hx] at hn; exact absurd hn (by decide)
     have := nameW_bd s.size (gAt s) (x + 1) (by omega)
     omega
   · omega
 | succ len ih =>
   intro x y h hl
   rw [nameW_o s x] at hl ⊢
   rw [nameW_o t y, h.zero]
   split
   · rename_i hn
     rw [if_pos hn] at hl
     have := ih (x + 1) (y + 1) (h.from (k := 1) (by omega)) (by omega)
     omega
   · omega
theorem nameF_alike {s t : ByteArray} {len x y : Nat} (h : Alike s t x y len) (hl : nameF s.size (gAt s) x ≤ x + len) : nameF t.size (gAt t) y + x = y + nameF s.size (gAt s) x := by
 rw [nameF_o s x] at hl ⊢
 rw [nameF_o t y, h.zero]
 split
 · rename_i hb
   rw [if_pos hb] at hl
   exact nameW_alike len x y h hl
 · omega
theorem tagF_alike {s t : ByteArray} {len x y : Nat} (h : Alike s t x y len) (hl : oAt s x = 60 → nameF s.size (gAt s) (x + 1) ≤ x + len) : tagF t.size (gAt t) y + x = y + tagF s.size (gAt s) x := by
 rw [tagF_o s x, tagF_o t y, h.zero]
 by_cases h60 : oAt s x = 60
 · have hl' := hl h60
   have hx : x < s.size := ((oAt_is (by omega)).1 h60).1
   have hb := nameF_bd s.size (gAt s) (x + 1) (by omega)
   have h1 := nameF_alike (h.from (k := 1) (by omega)) (by omega)
   have h2 := h (nameF s.size (gAt s) (x + 1) - x) (by omega)
   rw [show x + (nameF s.size (gAt s) (x + 1) - x) = nameF s.size (gAt s) (x + 1) by omega, show y + (nameF s.size (gAt s) (x + 1) - x) = nameF t.size (gAt t) (y + 1) by omega] at h2
   rw [h2]
   generalize nameF s.size (gAt s) (x + 1) = a at *
   generalize nameF t.size (gAt t) (y + 1) = b at *
   by_cases hc : oAt s x = 60 ∧ x + 1 < a ∧ a - (x + 1) ≤ 20 ∧ oAt s a = 62
   · rw [if_pos hc, if_pos ⟨hc.1, by omega, by omega, hc.2.2.2⟩] <;> omega
   · rw [if_neg hc, if_neg (fun hd => hc ⟨hd.1, by omega, by omega, hd.2.2.2⟩)] <;> omega
 · rw [if_neg (fun hc => h60 hc.1), if_neg (fun hc => h60 hc.1)]

theorem quo_alike {s t : ByteArray} {q : Int} (k : Nat) : ∀ m x y, s.size - x = m → quo s.size (gAt s) q x = k → Alike s t x y (k - 1 - x) → quo t.size (gAt t) q y + x = y + k := by
 intro m
 induction m using Nat.strongRecOn with
 | ind m ih =>
   intro x y hm hq ha
   have hbd := quo_bd s.size (gAt s) q x
   have hb : (x : Int) < k ∧ (k : Int) ≤ s.size := by omega
   have hz := ha.zero
   rw [oAt_lt (show x < s.size by omega)] at hz
   have hg0 := gAt_lo s x
   obtain ⟨hy, hgy⟩ := (oAt_is hg0).1 hz
   rw [quo, if_pos hy, hgy]
   rw [quo, if_pos (by omega)] at hq
   by_cases h1 : gAt s x = q
   · rw [if_pos h1] at hq ⊢; omega
   · rw [if_neg h1] at hq ⊢
     by_cases h2 : gAt s x = 92
     · rw [if_pos h2] at hq ⊢
       by_cases h3 : x + 1 < s.size ∧ gAt s (x + 1) = 10
       · rw [if_pos h3] at hq; omega
       · rw [if_neg h3] at hq
         have hbd2 := quo_bd s.size (gAt s) q (x + 2)
         have h4 := ha 1 (by omega)
         rw [oAt_lt (show x + 1 < s.size by omega)] at h4
         obtain ⟨hy1, hgy1⟩ := (oAt_is (gAt_lo s (x + 1))).1 h4
         rw [if_neg (fun hc => h3 ⟨by omega, by rw [← hgy1]; exact hc.2⟩)]
         have := ih (s.size - (x + 2)) (by omega) (x + 2) (y + 2) rfl hq ((ha.from (k := 2) (by omega)).le (by omega))
         omega
     · rw [if_neg h2] at hq ⊢
       by_cases h3 : gAt s x = 10
       · rw [if_pos h3] at hq; omega
       · rw [if_neg h3] at hq ⊢
         have hbd2 := quo_bd s.size (gAt s) q (x + 1)
         have := ih (s.size - (x + 1)) (by omega) (x + 1) (y + 1) rfl hq ((ha.from (k := 1) (by omega)).le (by omega))
         omega
theorem findB_alike {s t : ByteArray} {c : Int} (k : Nat) : ∀ m x y, s.size - x = m → findB s.size (gAt s) c x = k → Alike s t x y (k - x) → findB t.size (gAt t) c y + x = y + k := by
 intro m
 induction m with
 | zero => intro x y hm hq ha; rw [findB, if_neg (by omega)] at hq; omega
 | succ m ih =>
   intro x y hm hq ha
   have hbd := findB_bd s.size (gAt s) c x
   have hz := ha.zero
   rw [oAt_lt (show x < s.size by omega)] at hz
   obtain ⟨hy, hgy⟩ := (oAt_is (gAt_lo s x)).1 hz
   rw [findB, if_pos hy, hgy]
   rw [findB, if_pos (by omega)] at hq
   by_cases h1 : gAt s x = c
   · rw [if_pos h1] at hq ⊢; omega
   · rw [if_neg h1] at hq ⊢
     have hbd2 := findB_bd s.size (gAt s) c (x + 1)
     have := ih (x + 1) (y + 1) (by omega) hq ((ha.from (k := 1) (by omega)).le (by omega))
     omega
theorem findW_alike {s t : ByteArray} {a b : Int} (k : Nat) : ∀ m x y, s.size - x = m → findW s.size (gAt s) a b x = k → Alike s t x y (k + 1 - x) → findW t.size (gAt t) a b y + x = y + k := by
 intro m
 induction m with
 | zero => intro x y hm hq ha; rw [findW, if_neg (by omega)] at hq; omega
 | succ m ih =>
   intro x y hm hq ha
   have hbd := findW_bd s.size (gAt s) a b x
   have hz := ha.zero
   rw [oAt_lt (show x < s.size by omega)] at hz
   obtain ⟨hy, hgy⟩ := (oAt_is (gAt_lo s x)).1 hz
   have h4 := ha 1 (by omega)
   rw [oAt_lt (show x + 1 < s.size by omega)] at h4
   obtain ⟨hy1, hgy1⟩ := (oAt_is (gAt_lo s (x + 1))).1 h4
   rw [findW, if_pos hy1, hgy, hgy1]
   rw [findW, if_pos (by omega)] at hq
   by_cases h1 : gAt s x = a ∧ gAt s (x + 1) = b
   · rw [if_pos h1] at hq ⊢; omega
   · rw [if_neg h1] at hq ⊢
     have hbd2 := findW_bd s.size (gAt s) a b (x + 1)
     have := ih (x + 1) (y + 1) (by omega) hq ((ha.from (k := 1) (by omega)).le (by omega))
     omega

theorem overF_alike {s t : ByteArray} {x y k : Nat} (hx : x < s.size) (hk : k < s.size) (ho : overF s.size (gAt s) x = k) (ha : Alike s t x y (max 1 (k - x))) : overF t.size (gAt t) y + x = y + k := by
 have hz := ha.zero
 rw [oAt_lt hx] at hz
 obtain ⟨hy, hgy⟩ := (oAt_is (gAt_lo s x)).1 hz
 have h1 := ha 1 (by omega)
 have e47 : (y + 1 < t.size ∧ gAt t y = 47 ∧ gAt t (y + 1) = 47) ↔ (x + 1 < s.size ∧ gAt s x = 47 ∧ gAt s (x + 1) = 47) := by
  have a1 := @oAt_is t (y + 1) 47 (by omega)
  have a2 := @oAt_is s (x + 1) 47 (by omega)
  rw [h1] at a1; rw [hgy]
  constructor
  · rintro ⟨p, q, r⟩; have := a2.1 (a1.2 ⟨p, r⟩); exact ⟨this.1, q, this.2⟩
  · rintro ⟨p, q, r⟩; have := a1.1 (a2.2 ⟨p, r⟩); exact ⟨this.1, q, this.2⟩
 have e42 : (y + 1 < t.size ∧ gAt t y = 47 ∧ gAt t (y + 1) = 42) ↔ (x + 1 < s.size ∧ gAt s x = 47 ∧ gAt s (x + 1) = 42) := by
  have a1 := @oAt_is t (y + 1) 42 (by omega)
  have a2 := @oAt_is s (x + 1) 42 (by omega)
  rw [h1] at a1; rw [hgy]
  constructor
  · rintro ⟨p, q, r⟩; have := a2.1 (a1.2 ⟨p, r⟩); exact ⟨this.1, q, this.2⟩
  · rintro ⟨p, q, r⟩; have := a1.1 (a2.2 ⟨p, r⟩); exact ⟨this.1, q, this.2⟩
 unfold overF at ho ⊢
 rw [hgy] at e47 e42 ⊢
 by_cases c1 : gAt s x = 34 ∨ gAt s x = 39
 · rw [if_pos c1] at ho ⊢
   have hbd := quo_bd s.size (gAt s) (gAt s x) (x + 1)
   have := quo_alike k _ (x + 1) (y + 1) rfl ho ((ha.from (k := 1) (by omega)).le (by omega))
   omega
 · rw [if_neg c1] at ho ⊢
   by_cases c2 : gAt s x = 96
   · rw [if_pos c2] at ho ⊢
     have hbd := findB_bd s.size (gAt s) 96 (x + 1)
     by_cases c3 : findB s.size (gAt s) 96 (x + 1) = -1
     · rw [if_pos c3] at ho; omega
     · rw [if_neg c3] at ho
       have := findB_alike (c := 96) (k - 1) _ (x + 1) (y + 1) rfl (by omega) ((ha.from (k := 1) (by omega)).le (by omega))
       rw [if_neg (by omega)]; omega
   · rw [if_neg c2] at ho ⊢
     by_cases c4 : x + 1 < s.size ∧ gAt s x = 47 ∧ gAt s (x + 1) = 47
     · rw [if_pos c4] at ho; rw [if_pos (e47.2 c4)]
       have hbd := findB_bd s.size (gAt s) 10 x
       by_cases c3 : findB s.size (gAt s) 10 x = -1
       · rw [if_pos c3] at ho; omega
       · rw [if_neg c3] at ho
         have := findB_alike k _ x y rfl ho (ha.le (by omega))
         rw [if_neg (by omega)]; omega
     · rw [if_neg c4] at ho; rw [if_neg (fun hc => c4 (e47.1 hc))]
       by_cases c5 : x + 1 < s.size ∧ gAt s x = 47 ∧ gAt s (x + 1) = 42
       · rw [if_pos c5] at ho; rw [if_pos (e42.2 c5)]
         have hbd := findW_bd s.size (gAt s) 42 47 (x + 2)
         by_cases c3 : findW s.size (gAt s) 42 47 (x + 2) = -1
         · rw [if_pos c3] at ho; omega
         · rw [if_neg c3] at ho
           have := findW_alike (a := 42) (b := 47) (k - 2) _ (x + 2) (y + 2) rfl (by omega) ((ha.from (k := 2) (by omega)).le (by omega))
           rw [if_neg (by omega)]; omega
       · rw [if_neg c5] at ho; rw [if_neg (fun hc => c5 (e42.1 hc))]; omega
end
section
open Go.RowKit
set_option linter.unusedVariables false
theorem nameW_all (n : Nat) (g : Nat → Int) (i : Nat) : ∀ j, i ≤ j → j < nameW n g i → nameB (g j) = true := by
 fun_induction nameW n g i with
 | case1 i h ih =>
   intro j h1 h2
   by_cases e : j = i
   · subst e
     unfold nameB
     rcases h.2 with h | h | h
     · simp [h]
     · simp [h]
     · simp [h]
   · exact ih j (by omega) h2
 | case2 i h => intro j h1 h2; omega
theorem nameF_all (n : Nat) (g : Nat → Int) (i : Nat) : ∀ j, i ≤ j → j < nameF n g i → nameB (g j) = true := by
 unfold nameF; split
 · exact nameW_all n g i
 · intro j h1 h2; omega
end
section
open Go.RowKit
set_option linter.unusedVariables false
theorem digF_fin (n : Nat) (g : Nat → Int) (i : Nat) : ¬ (digF n g i < n ∧ digB (g (digF n g i)) = true) := by
 fun_induction digF n g i with
 | case1 i h ih => exact ih
 | case2 i h => exact h

theorem tagF_is (s : ByteArray) (i : Nat) : tagF s.size (gAt s) i = i ∨ (oAt s i = 60 ∧ i + 3 ≤ tagF s.size (gAt s) i ∧ nameF s.size (gAt s) (i + 1) + 1 = tagF s.size (gAt s) i ∧ gAt s (tagF s.size (gAt s) i - 1) = 62) := by
 rw [tagF_o]; split
 · rename_i h
   have := (oAt_is (by omega)).1 h.2.2.2
   exact .inr ⟨h.1, by omega, rfl, this.2⟩
 · exact .inl rfl

end
end
section
section
open Go.RowKit
set_option linter.unusedVariables false
theorem remF_none {n : Nat} {g : Nat → Int} {i : Nat} (h : g i ≠ 47) : remF n g i = i := by
 unfold remF
 rw [if_neg (fun hc => h hc.2.1), if_neg (fun hc => h hc.2.1)]

end
section
open Go.RowKit
set_option linter.unusedVariables false
end
section
open Go.RowKit
set_option linter.unusedVariables false
end
end
section
section
open Go.RowKit
set_option linter.unusedVariables false
end
section
open Go.RowKit
set_option linter.unusedVariables false
end
section
open Go.RowKit
set_option linter.unusedVariables false
theorem horA_snoc (l : List UInt8) (c : UInt8) (acc : Nat) : horA acc (l ++ [c]) = horA acc l * 10 + (c.toNat - 48) := by
 unfold horA; rw [List.foldl_append]; rfl
end
end
section
section
open Go.RowKit
set_option linter.unusedVariables false
/-- a step over what stands between: the document's way -/
theorem words_gap {s : ByteArray} {i m q : Nat} {L : List Wd} (hi : i < s.size) (h : gapF s.size (gAt s) i = (q : Int)) (hq : i < q) : wordsF s i m L = wordsF s q m L := by
 have hb : betF s.size (gAt s) i = betF s.size (gAt s) q := by
  rw [betF, dif_pos hi, h, if_neg (by omega), if_neg (by omega)]
  congr 1
  omega
 have hq2 : q ≤ s.size := by have := gapF_bd s.size (gAt s) i hi; omega
 by_cases hqs : q < s.size
 · have e : stopF s i m L = stopF s q m L := by unfold stopF; rw [hb]
   by_cases hc : (betF s.size (gAt s) q).2 = true ∧ goesB s (betF s.size (gAt s) q).1 m
   · rw [wordsF, dif_pos (by rw [hb]; exact ⟨hi, hc⟩), hb]
     conv => rhs; rw [wordsF, dif_pos ⟨hqs, hc⟩]
   · rw [wordsF, dif_neg (by rw [hb]; exact fun hx => hc hx.2), e]
     conv => rhs; rw [wordsF, dif_neg (fun hx => hc hx.2)]
 · obtain rfl : q = s.size := by omega
   have h2 : betF s.size (gAt s) s.size = (s.size, true) := by rw [betF, dif_neg (Nat.lt_irrefl _)]
   rw [words_out (hb.trans h2), words_out h2]
theorem bet_here {n : Nat} {g : Nat → Int} {i : Nat} (hi : i < n) (h : gapF n g i = (i : Int)) : betF n g i = (i, true) := by
 rw [betF, dif_pos hi, h, if_neg (by omega), if_pos rfl]
end
section
open Go.RowKit
set_option linter.unusedVariables false
set_option linter.unusedSimpArgs false
end
section
open Go.RowKit
set_option linter.unusedVariables false
set_option linter.unusedSimpArgs false
end
section
open Go.RowKit
set_option linter.unusedVariables false
set_option linter.unusedSimpArgs false
end
section
open Go.RowKit
set_option linter.unusedVariables false
set_option linter.unusedSimpArgs false
end
section
open Go.RowKit
set_option linter.unusedVariables false
set_option linter.unusedSimpArgs false
end
end
end Go.Proofs.YtnoppoifepbchaaDoor
