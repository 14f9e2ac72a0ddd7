/- What is printed: each word is read as itself. -/
import Derived.Test.YtnoppoifepbchaaGreatDoorQReadK
import Derived.Test.YtnoppoifepbchaaGreatDoorQLexLong2
import Derived.Test.YtnoppoifepbchaaGreatDoorTxt7
import Derived.Test.YtnoppoifepbchaaGreatDoorLRd9
namespace Go.Proofs.YtnoppoifepbchaaGreatDoor

open Go.RowKit
section
set_option linter.unusedVariables false
set_option linter.unusedSimpArgs false
/-- a text that is one word -/
def Tok (τ : ByteArray) (y : Ky) : Prop := 0 < τ.size ∧ wordWd τ 0 = (⟨y.1, y.2, 0⟩, τ.size) ∧ y.1 ≠ 0
theorem ext_all (s : ByteArray) : s.extract 0 s.size = s := by simp
theorem tok_name {t : ByteArray} (h : isNameB t = true) : Tok t (1, t) := by
 unfold isNameB at h
 obtain ⟨h1, h2, h3⟩ := of_decide_eq_true h
 refine ⟨h1, ?_, show (1 : Int) ≠ 0 by decide⟩
 unfold wordWd
 rw [if_pos (by omega)]
 unfold nameWd
 rw [h3, if_pos (by omega), ext_all]; rfl
theorem wd_ext {a b : Wd × Nat} (h1 : a.1.kind = b.1.kind) (h2 : a.1.text = b.1.text) (h3 : a.1.place = b.1.place) (h4 : a.2 = b.2) : a = b := by
 obtain ⟨⟨_, _, _⟩, _⟩ := a
 obtain ⟨⟨_, _, _⟩, _⟩ := b
 simp only at h1 h2 h3 h4
 subst h1 h2 h3 h4; rfl
theorem lit_all : ∀ c : Fin 256, quotB (c.val : Int) = true → (wordWd (bytesOf (quoteL (c.val : Int))) 0).1.kind = 2 ∧ (wordWd (bytesOf (quoteL (c.val : Int))) 0).1.text.data.toList = [UInt8.ofNat c.val] ∧ (wordWd (bytesOf (quoteL (c.val : Int))) 0).1.place = 0 ∧ (wordWd (bytesOf (quoteL (c.val : Int))) 0).2 = (bytesOf (quoteL (c.val : Int))).size ∧ 0 < (bytesOf (quoteL (c.val : Int))).size := by decide +kernel
theorem tok_lit {x : ByteArray} (h1 : x.size = 1) (hq : quotB (gAt x 0) = true) : Tok (bytesOf (quoteL (gAt x 0))) (2, x) := by
 have hl : x.data.toList.length = 1 := h1
 obtain ⟨c, hc⟩ : ∃ c, x.data.toList = [c] := by
  match hx : x.data.toList, hl with
  | [c], _ => exact ⟨c, rfl⟩
 have hg : gAt x 0 = (c.toNat : Int) := by unfold gAt; rw [hc]; rfl
 have hlt := c.toNat_lt
 obtain ⟨h2, h3, h4, h5, h6⟩ := lit_all ⟨c.toNat, hlt⟩ (by rw [← hg]; exact hq)
 rw [hg]
 refine ⟨h6, wd_ext h2 ?_ h4 h5, show (2 : Int) ≠ 0 by decide⟩
 refine ByteArray.ext (Array.toList_inj.1 ?_)
 rw [h3, hc]
 simp
theorem key_all : ∀ k : Fin 7, 1 ≤ k.val → (wordWd (keyS (k.val : Int)) 0).1.kind = 5 ∧ (wordWd (keyS (k.val : Int)) 0).1.text.data.toList = (keyS (k.val : Int)).data.toList ∧ (wordWd (keyS (k.val : Int)) 0).1.place = 0 ∧ (wordWd (keyS (k.val : Int)) 0).2 = (keyS (k.val : Int)).size ∧ 0 < (keyS (k.val : Int)).size := by decide +kernel
theorem tok_key {k : Int} (h1 : 1 ≤ k) (h6 : k ≤ 6) : Tok (keyS k) (5, keyS k) := by
 obtain ⟨n, rfl⟩ := Int.eq_ofNat_of_zero_le (show 0 ≤ k by omega)
 obtain ⟨h2, h3, h4, h5, h7⟩ := key_all ⟨n, by omega⟩ (by show 1 ≤ n; omega)
 exact ⟨h7, wd_ext h2 (ByteArray.ext (Array.toList_inj.1 h3)) h4 h5, show (5 : Int) ≠ 0 by decide⟩
theorem tok_fix (τ : ByteArray) (k : Int) (h : ((wordWd τ 0).1.kind == k && ((wordWd τ 0).1.text.data.toList == τ.data.toList) && ((wordWd τ 0).1.place == 0) && ((wordWd τ 0).2 == τ.size) && decide (0 < τ.size) && !(k == 0)) = true) : Tok τ (k, τ) := by
 simp only [Bool.and_eq_true, beq_iff_eq, decide_eq_true_iff, Bool.not_eq_true', beq_eq_false_iff_ne] at h
 obtain ⟨⟨⟨⟨⟨h1, h2⟩, h3⟩, h4⟩, h5⟩, h6⟩ := h
 exact ⟨h5, wd_ext h1 (ByteArray.ext (Array.toList_inj.1 h2)) h3 h4, h6⟩
theorem tok_prec : Tok ⟨#[37, 112, 114, 101, 99]⟩ (5, ⟨#[37, 112, 114, 101, 99]⟩) := tok_fix _ _ (by decide +kernel)
theorem tok_colon : Tok ⟨#[58]⟩ (6, ⟨#[58]⟩) := tok_fix _ _ (by decide +kernel)
theorem tok_semi : Tok ⟨#[59]⟩ (6, ⟨#[59]⟩) := tok_fix _ _ (by decide +kernel)
theorem tok_bar : Tok ⟨#[124]⟩ (6, ⟨#[124]⟩) := tok_fix _ _ (by decide +kernel)
theorem tok_mark : Tok ⟨#[37, 37]⟩ (7, ⟨#[37, 37]⟩) := tok_fix _ _ (by decide +kernel)
end
section
set_option linter.unusedVariables false
set_option linter.unusedSimpArgs false
theorem dec_dig : ∀ n, ∀ c ∈ Lib.decDigits n, digB ((c.toNat : Int)) = true := by
 intro n
 induction n using Nat.strongRecOn with
 | ind n ih =>
   intro c hc
   by_cases h : n < 10
   · rw [dec_lt' h, List.mem_singleton] at hc
     subst hc
     unfold digB
     rw [UInt8.toNat_ofNat', decide_eq_true_iff]; omega
   · rw [dec_ge' (by omega), List.mem_append, List.mem_singleton] at hc
     rcases hc with hc | rfl
     · exact ih _ (by omega) c hc
     · unfold digB
       rw [UInt8.toNat_ofNat', decide_eq_true_iff]; omega
theorem gAt_mem {s : ByteArray} {i : Nat} (h : i < s.size) : ∃ c ∈ s.data.toList, gAt s i = (c.toNat : Int) := by
 have hl : i < s.data.toList.length := h
 refine ⟨s.data.toList[i], List.getElem_mem hl, ?_⟩
 unfold gAt
 rw [List.getD_eq_getElem?_getD, List.getElem?_eq_getElem hl]; rfl
theorem tok_num {n : Int} (h1 : 1 ≤ n) (h2 : n ≤ 50000) : Tok (numT n) (3, numT n) := by
 obtain ⟨k, rfl⟩ := Int.eq_ofNat_of_zero_le (show 0 ≤ n by omega)
 have hd : (numT (k : Int)).data.toList = Lib.decDigits k := by
  unfold numT Lib.itoa; simp
 have hne := dec_ne k
 have hsz : 0 < (numT (k : Int)).size := by
  show 0 < (numT (k : Int)).data.toList.length
  rw [hd]; exact List.length_pos_iff.2 hne
 have hall : ∀ j, j < (numT (k : Int)).size → digB (gAt (numT (k : Int)) j) = true := fun j hj => by
  obtain ⟨c, hc, e⟩ := gAt_mem hj
  rw [e]; rw [hd] at hc; exact dec_dig k c hc
 have hF : digF (numT (k : Int)).size (gAt (numT (k : Int))) 0 = (numT (k : Int)).size :=
  digF_to _ _ (by rw [oAt_end (Nat.lt_irrefl _)]; decide) _ 0 rfl (Nat.zero_le _) (fun j _ hj => by rw [oAt_lt hj]; exact hall j hj)
 have h0 := hall 0 hsz
 have hb : begB (gAt (numT (k : Int)) 0) = false := by
  unfold digB at h0; unfold begB
  rw [decide_eq_true_iff] at h0
  rw [decide_eq_false_iff_not]; omega
 have h48 : gAt (numT (k : Int)) 0 ≠ 48 := by
  have := dec_head k (by omega)
  unfold gAt; rw [hd]; omega
 refine ⟨hsz, ?_, show (3 : Int) ≠ 0 by decide⟩
 unfold wordWd
 rw [if_neg (fun hc => by have := (name_begins (s := numT (k : Int)) hsz).1 hc; rw [hb] at this; cases this), if_pos h0]
 unfold digWd digL
 rw [hF, if_neg (fun hc => Nat.lt_irrefl _ hc.1), ext_all, hd, horA_dec, if_neg (by omega)]; rfl
theorem gAt_mk (l : List UInt8) (j : Nat) : gAt ⟨l.toArray⟩ j = (((l.getD j 0).toNat : Nat) : Int) := by unfold gAt; rfl
theorem tok_tag {t : ByteArray} (h : isNameB t = true) : Tok (⟨#[60]⟩ ++ t ++ ⟨#[62]⟩) (4, t) := by
 unfold isNameB at h
 obtain ⟨h1, h2, h3⟩ := of_decide_eq_true h
 have e60 : (⟨#[60]⟩ : ByteArray).size = 1 := rfl
 have e62 : (⟨#[62]⟩ : ByteArray).size = 1 := rfl
 have hA : (⟨#[60]⟩ ++ t).size = 1 + t.size := by rw [ByteArray.size_append, e60]
 have hsz : (⟨#[60]⟩ ++ t ++ ⟨#[62]⟩ : ByteArray).size = t.size + 2 := by rw [ByteArray.size_append, hA, e62]; omega
 generalize hτ : (⟨#[60]⟩ ++ t ++ ⟨#[62]⟩ : ByteArray) = τ at hsz ⊢
 have g0 : gAt τ 0 = 60 := by rw [← hτ, gAt_app, if_pos (by omega), gAt_app, if_pos (by decide)]; decide
 have gm : ∀ j, j < t.size → gAt τ (1 + j) = gAt t j := fun j hj => by
  rw [← hτ, gAt_app, if_pos (by omega), gAt_app, if_neg (by omega), e60, show 1 + j - 1 = j by omega]
 have ge : gAt τ (t.size + 1) = 62 := by rw [← hτ, gAt_app, if_neg (by omega), hA, show t.size + 1 - (1 + t.size) = 0 by omega]; decide
 have b0 : begB (gAt t 0) = true := (name_begins (s := t) (by omega)).1 (by omega)
 have hnm : ∀ j, j < t.size → nameB (gAt t j) = true := fun j hj => nameF_all t.size (gAt t) 0 j (Nat.zero_le _) (by omega)
 have hN : nameF τ.size (gAt τ) 1 = t.size + 1 := by
  rw [nameF_o, oAt_lt (by omega), show (1 : Nat) = 1 + 0 from rfl, gm 0 (by omega), if_pos b0]
  refine nameW_to τ (t.size + 1) (by rw [oAt_lt (by omega), ge]; decide) _ 1 rfl (by omega) (fun j h5 h6 => ?_)
  rw [oAt_lt (by omega), show j = 1 + (j - 1) by omega, gm _ (by omega)]
  exact hnm _ (by omega)
 have hT : tagF τ.size (gAt τ) 0 = t.size + 2 := by
  rw [tagF_o, Nat.zero_add, hN, oAt_lt (by omega), g0, oAt_lt (by omega), ge, if_pos (by omega)]
 refine ⟨by omega, ?_, show (4 : Int) ≠ 0 by decide⟩
 unfold wordWd
 rw [if_neg (fun hc => by have := (name_begins (s := τ) (by omega)).1 hc; rw [g0] at this; exact absurd this (by decide)), g0, if_neg (by decide), if_neg (by decide), if_pos rfl, hT, if_pos (by omega)]
 have he : τ.extract (0 + 1) (t.size + 2 - 1) = t := by
  refine ByteArray.ext (Array.toList_inj.1 ?_)
  rw [← hτ]
  simp only [ByteArray.data_extract, Array.toList_extract, ByteArray.data_append, Array.toList_append]
  simp [List.extract]
 rw [he, hsz]; rfl
theorem tok_code {c : ByteArray} (h0 : c.size ≠ 0) (h : endS c 0 = c.size) : Tok c (8, c) := by
 have g0 : gAt c 0 = 123 := by
  unfold endS at h
  split at h
  · rename_i hc; exact hc.2.2
  · omega
 refine ⟨by omega, ?_, show (8 : Int) ≠ 0 by decide⟩
 unfold wordWd
 rw [if_neg (fun hc => by have := (name_begins (s := c) (by omega)).1 hc; rw [g0] at this; exact absurd this (by decide)), g0, if_neg (by decide), if_neg (by decide), if_neg (by decide), if_neg (by decide), if_pos rfl]
 rw [show ((0 : Nat) : Int) = 0 from rfl, h, if_pos (by omega), Int.toNat_natCast, ext_all]
end
section
set_option linter.unusedVariables false
set_option linter.unusedSimpArgs false
theorem findW_none (n : Nat) (g : Nat → Int) (a b : Int) (i : Nat) (h : findW n g a b i = -1) : ∀ j, i ≤ j → j + 1 < n → ¬ (g j = a ∧ g (j + 1) = b) := by
 fun_induction findW n g a b i with
 | case1 i hi hc => omega
 | case2 i hi hc ih =>
   intro j h1 h2
   by_cases e : j = i
   · rw [e]; exact hc
   · exact ih h j (by omega) h2
 | case3 i hi => intro j h1 h2; omega
theorem findW_at (n : Nat) (g : Nat → Int) (a b : Int) (z : Nat) (hz : z + 1 < n) (ha : g z = a ∧ g (z + 1) = b) : ∀ m i, z - i = m → i ≤ z → (∀ j, i ≤ j → j < z → ¬ (g j = a ∧ g (j + 1) = b)) → findW n g a b i = (z : Int) := by
 intro m
 induction m with
 | zero => intro i h1 h2 _; obtain rfl : i = z := by omega
           rw [findW, if_pos hz, if_pos ha]
 | succ m ih =>
   intro i h1 h2 h3
   rw [findW, if_pos (by omega), if_neg (h3 i (Nat.le_refl _) (by omega))]
   exact ih (i + 1) (by omega) (by omega) (fun j h4 h5 => h3 j (by omega) h5)
theorem tok_pro {p : ByteArray} (h : pctB p = false) : Tok (⟨#[37, 123]⟩ ++ p ++ ⟨#[37, 125]⟩) (9, p) := by
 have hn : findW p.size (gAt p) 37 125 0 = -1 := by
  unfold pctB at h; simpa using h
 have e1 : (⟨#[37, 123]⟩ : ByteArray).size = 2 := rfl
 have e2 : (⟨#[37, 125]⟩ : ByteArray).size = 2 := rfl
 have hA : (⟨#[37, 123]⟩ ++ p).size = 2 + p.size := by rw [ByteArray.size_append, e1]
 have hsz : (⟨#[37, 123]⟩ ++ p ++ ⟨#[37, 125]⟩ : ByteArray).size = p.size + 4 := by rw [ByteArray.size_append, hA, e2]; omega
 generalize hτ : (⟨#[37, 123]⟩ ++ p ++ ⟨#[37, 125]⟩ : ByteArray) = τ at hsz ⊢
 have g0 : gAt τ 0 = 37 := by rw [← hτ, gAt_app, if_pos (by omega), gAt_app, if_pos (by decide)]; decide
 have g1 : gAt τ 1 = 123 := by rw [← hτ, gAt_app, if_pos (by omega), gAt_app, if_pos (by decide)]; decide
 have gm : ∀ j, j < p.size → gAt τ (2 + j) = gAt p j := fun j hj => by
  rw [← hτ, gAt_app, if_pos (by omega), gAt_app, if_neg (by omega), e1, show 2 + j - 2 = j by omega]
 have g3 : gAt τ (p.size + 2) = 37 := by rw [← hτ, gAt_app, if_neg (by omega), hA, show p.size + 2 - (2 + p.size) = 0 by omega]; decide
 have g4 : gAt τ (p.size + 2 + 1) = 125 := by rw [← hτ, gAt_app, if_neg (by omega), hA, show p.size + 2 + 1 - (2 + p.size) = 1 by omega]; decide
 have hW : findW τ.size (gAt τ) 37 125 2 = ((p.size + 2 : Nat) : Int) := findW_at _ _ _ _ _ (by omega) ⟨g3, g4⟩ _ 2 rfl (by omega) (fun j h5 h6 hc => by
  have q1 := gm (j - 2) (by omega)
  rw [show 2 + (j - 2) = j by omega] at q1
  by_cases h7 : j + 1 < p.size + 2
  · have q2 := gm (j - 2 + 1) (by omega)
    rw [show 2 + (j - 2 + 1) = j + 1 by omega] at q2
    exact findW_none _ _ _ _ _ hn (j - 2) (Nat.zero_le _) (by omega) ⟨by rw [← q1]; exact hc.1, by rw [← q2]; exact hc.2⟩
  · rw [show j + 1 = p.size + 2 by omega, g3] at hc
    exact absurd hc.2 (by decide))
 refine ⟨by omega, ?_, show (9 : Int) ≠ 0 by decide⟩
 unfold wordWd
 rw [if_neg (fun hc => by have := (name_begins (s := τ) (by omega)).1 hc; rw [g0] at this; exact absurd this (by decide)), g0, if_neg (by decide), if_neg (by decide), if_neg (by decide), if_neg (by decide), if_neg (by decide), if_pos rfl]
 unfold pctWd
 rw [if_neg (by omega), show (0 : Nat) + 1 = 1 from rfl, g1, if_neg (by decide), if_pos rfl]
 unfold behW
 rw [show (0 : Nat) + 2 = 2 from rfl, hW, if_neg (by omega), if_neg (by omega)]
 have he : τ.extract 2 ((((p.size + 2 : Nat) : Int) + 2).toNat - 2) = p := by
  rw [show (((p.size + 2 : Nat) : Int) + 2).toNat - 2 = p.size + 2 by omega]
  refine ByteArray.ext (Array.toList_inj.1 ?_)
  rw [← hτ]
  simp only [ByteArray.data_extract, Array.toList_extract, ByteArray.data_append, Array.toList_append]
  simp [List.extract]
 rw [he, hsz, show (((p.size + 2 : Nat) : Int) + 2).toNat = p.size + 4 by omega]; rfl
/-- a stretch of a text, read as words -/
def Runs (t : ByteArray) (i m : Nat) (ks : List Ky) (j m' : Nat) : Prop := ∀ L, ∃ L', wordsF t i m L = wordsF t j m' (L ++ L') ∧ L'.map keyOf = ks
theorem Runs.refl (t : ByteArray) (i m : Nat) : Runs t i m [] i m := fun L => ⟨[], by rw [List.append_nil], rfl⟩
theorem Runs.trans {t : ByteArray} {i m j m' k m'' : Nat} {a b : List Ky} (h : Runs t i m a j m') (h' : Runs t j m' b k m'') : Runs t i m (a ++ b) k m'' := fun L => by
 obtain ⟨L1, e1, k1⟩ := h L
 obtain ⟨L2, e2, k2⟩ := h' (L ++ L1)
 exact ⟨L1 ++ L2, by rw [e1, e2, List.append_assoc], by rw [List.map_append, k1, k2]⟩
/-- what stands from a place on -/
def Hd (t : ByteArray) (i : Nat) (l : List UInt8) : Prop := i ≤ t.size ∧ t.data.toList.drop i = l
theorem Hd.go {t : ByteArray} {i : Nat} {a b : List UInt8} (h : Hd t i (a ++ b)) : Hd t (i + a.length) b := by
 obtain ⟨h1, h2⟩ := h
 have hl := congrArg List.length h2
 rw [List.length_drop, List.length_append] at hl
 have ht : t.data.toList.length = t.size := rfl
 refine ⟨by omega, ?_⟩
 rw [← List.drop_drop, h2, List.drop_left]
theorem Hd.get {t : ByteArray} {i : Nat} {l : List UInt8} (h : Hd t i l) {j : Nat} (hj : j < l.length) : i + j < t.size ∧ gAt t (i + j) = (((l.getD j 0).toNat : Nat) : Int) := by
 obtain ⟨h1, rfl⟩ := h
 have ht : t.data.toList.length = t.size := rfl
 rw [List.length_drop] at hj
 refine ⟨by omega, ?_⟩
 unfold gAt
 rw [List.getD_eq_getElem?_getD, List.getD_eq_getElem?_getD, List.getElem?_drop]
theorem Hd.same {t τ : ByteArray} {i : Nat} {R : List UInt8} (h : Hd t i (τ.data.toList ++ R)) : Same τ t 0 i τ.size := by
 have hτ : τ.data.toList.length = τ.size := rfl
 have h1 := h.go.1
 rw [hτ] at h1
 refine ⟨by omega, h1, fun m hm => ?_⟩
 have := (h.get (j := m) (by rw [List.length_append]; omega)).2
 rw [this, Nat.zero_add, List.getD_eq_getElem?_getD, List.getElem?_append_left (by omega)]
 unfold gAt
 rw [List.getD_eq_getElem?_getD]
theorem run_tok {t τ : ByteArray} {y : Ky} {i m : Nat} {c : UInt8} {R : List UInt8} (hτ : Tok τ y) (h : Hd t i (τ.data.toList ++ c :: R)) (hc : c = 32 ∨ c = 10) (h7 : ¬ (y.1 = 7 ∧ m = 1)) :
  Runs t i m [y] (i + τ.size + 1) (if y.1 = 7 then m + 1 else m) ∧ Hd t (i + τ.size + 1) R := by
 have hl : τ.data.toList.length = τ.size := rfl
 have hS := h.same
 have hg := h.go
 rw [hl] at hg
 have hcb := hg.get (j := 0) (by simp)
 rw [Nat.add_zero] at hcb
 have hbl : blankB (gAt t (i + τ.size)) = true := by
  rw [hcb.2]; rcases hc with rfl | rfl
  · exact (by decide : blankB 32 = true)
  · exact (by decide : blankB 10 = true)
 have hnn : nameB (gAt t (i + τ.size)) = false := by
  rw [hcb.2]; rcases hc with rfl | rfl
  · exact (by decide : nameB 32 = false)
  · exact (by decide : nameB 10 = false)
 have hz : (wordWd τ 0).2 = τ.size := by rw [hτ.2.1]
 have hw := word_move (s := τ) (t := t) (x := 0) (y := i) hτ.1 (by rw [hτ.2.1]; exact hτ.2.2) (by rw [hz]; exact hS) (by rw [hz]; exact .inr (by rw [Nat.sub_zero, oAt_lt hcb.1]; exact hnn))
 rw [hτ.2.1] at hw
 simp only [Nat.sub_zero] at hw
 have hit : i < t.size := by have := hτ.1; omega
 have hk : (wordWd t i).1.kind ≠ 0 := by rw [hw]; exact hτ.2.2
 obtain ⟨f1, f2⟩ := word_first hit hk
 refine ⟨fun L => ⟨[⟨y.1, y.2, i⟩], ?_, rfl⟩, ?_⟩
 · rw [words_on (bet_none hit f1 f2) (Nat.le_refl _) hit hk (by rw [hw]; exact h7), hw]
   exact words_gap hcb.1 (gap_blank hbl) (by omega)
 · exact Hd.go (a := [c]) hg
end
end Go.Proofs.YtnoppoifepbchaaGreatDoor
