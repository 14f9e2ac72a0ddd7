/- What is printed: each word is read as itself. -/
import Derived.Test.YtnoppoifepbchaaDoorQReadK
import Derived.Test.YtnoppoifepbchaaDoorQLexLong2
import Derived.Test.YtnoppoifepbchaaDoorTxt1
import Derived.Test.YtnoppoifepbchaaDoorLRd9
namespace Go.Proofs.YtnoppoifepbchaaDoor
section
open Go.RowKit
section
set_option linter.unusedVariables false
set_option linter.unusedSimpArgs false
/-- a text that is one word -/
def Tok (τ : ByteArray) (y : Ky) : Prop := 0 < τ.size ∧ wordWd τ 0 = (⟨y.1, y.2, 0⟩, τ.size) ∧ y.1 ≠ 0
theorem ext_all (s : ByteArray) : s.extract 0 s.size = s := by simp
theorem tok_name {t : ByteArray} (h : isNameB t = true) : Tok t (1, t) := by
 unfold isNameB at h
 obtain ⟨h1, h2, h3⟩ := of_decide_eq_true h
 refine ⟨h1, ?_, show (1 : Int) ≠ 0 by decide⟩
 unfold wordWd
 rw [if_pos (by omega)]
 unfold nameWd
 rw [h3, if_pos (by omega), ext_all]; rfl
theorem wd_ext {a b : Wd × Nat} (h1 : a.1.kind = b.1.kind) (h2 : a.1.text = b.1.text) (h3 : a.1.place = b.1.place) (h4 : a.2 = b.2) : a = b := by
 obtain ⟨⟨_, _, _⟩, _⟩ := a
 obtain ⟨⟨_, _, _⟩, _⟩ := b
 simp only at h1 h2 h3 h4
 subst h1 h2 h3 h4; rfl
theorem lit_all : ∀ c : Fin 256, quotB (c.val : Int) = true → (wordWd (bytesOf (quoteL (c.val : Int))) 0).1.kind = 2 ∧ (wordWd (bytesOf (quoteL (c.val : Int))) 0).1.text.data.toList = [UInt8.ofNat c.val] ∧ (wordWd (bytesOf (quoteL (c.val : Int))) 0).1.place = 0 ∧ (wordWd (bytesOf (quoteL (c.val : Int))) 0).2 = (bytesOf (quoteL (c.val : Int))).size ∧ 0 < (bytesOf (quoteL (c.val : Int))).size := by decide +kernel
theorem tok_lit {x : ByteArray} (h1 : x.size = 1) (hq : quotB (gAt x 0) = true) : Tok (bytesOf (quoteL (gAt x 0))) (2, x) := by
 have hl : x.data.toList.length = 1 := h1
 obtain ⟨c, hc⟩ : ∃ c, x.data.toList = [c] := by
  match hx : x.data.toList, hl with
  | [c], _ => exact ⟨c, rfl⟩
 have hg : gAt x 0 = (c.toNat : Int) := by unfold gAt; rw [hc]; rfl
 have hlt := c.toNat_lt
 obtain ⟨h2, h3, h4, h5, h6⟩ := lit_all ⟨c.toNat, hlt⟩ (by rw [← hg]; exact hq)
 rw [hg]
 refine ⟨h6, wd_ext h2 ?_ h4 h5, show (2 : Int) ≠ 0 by decide⟩
 refine ByteArray.ext (Array.toList_inj.1 ?_)
 rw [h3, hc]
 simp
theorem key_all : ∀ k : Fin 7, 1 ≤ k.val → (wordWd (keyS (k.val : Int)) 0).1.kind = 5 ∧ (wordWd (keyS (k.val : Int)) 0).1.text.data.toList = (keyS (k.val : Int)).data.toList ∧ (wordWd (keyS (k.val : Int)) 0).1.place = 0 ∧ (wordWd (keyS (k.val : Int)) 0).2 = (keyS (k.val : Int)).size ∧ 0 < (keyS (k.val : Int)).size := by decide +kernel
theorem tok_key {k : Int} (h1 : 1 ≤ k) (h6 : k ≤ 6) : Tok (keyS k) (5, keyS k) := by
 obtain ⟨n, rfl⟩ := Int.eq_ofNat_of_zero_le (show 0 ≤ k by omega)
 obtain ⟨h2, h3, h4, h5, h7⟩ := key_all ⟨n, by omega⟩ (by show 1 ≤ n; omega)
 exact ⟨h7, wd_ext h2 (ByteArray.ext (Array.toList_inj.1 h3)) h4 h5, show (5 : Int) ≠ 0 by decide⟩
theorem tok_fix (τ : ByteArray) (k : Int) (h : ((wordWd τ 0).1.kind == k && ((wordWd τ 0).1.text.data.toList == τ.data.toList) && ((wordWd τ 0).1.place == 0) && ((wordWd τ 0).2 == τ.size) && decide (0 < τ.size) && !(k == 0)) = true) : Tok τ (k, τ) := by
 simp only [Bool.and_eq_true, beq_iff_eq, decide_eq_true_iff, Bool.not_eq_true', beq_eq_false_iff_ne] at h
 obtain ⟨⟨⟨⟨⟨h1, h2⟩, h3⟩, h4⟩, h5⟩, h6⟩ := h
 exact ⟨h5, wd_ext h1 (ByteArray.ext (Array.toList_inj.1 h2)) h3 h4, h6⟩
theorem tok_prec : Tok ⟨#[37, 112, 114, 101, 99]⟩ (5, ⟨#[37, 112, 114, 101, 99]⟩) := tok_fix _ _ (by decide +kernel)
theorem tok_colon : Tok ⟨#[58]⟩ (6, ⟨#[58]⟩) := tok_fix _ _ (by decide +kernel)
theorem tok_semi : Tok ⟨#[59]⟩ (6, ⟨#[59]⟩) := tok_fix _ _ (by decide +kernel)
theorem tok_bar : Tok ⟨#[124]⟩ (6, ⟨#[124]⟩) := tok_fix _ _ (by decide +kernel)
theorem tok_mark : Tok ⟨#[37, 37]⟩ (7, ⟨#[37, 37]⟩) := tok_fix _ _ (by decide +kernel)
end
section
set_option linter.unusedVariables false
set_option linter.unusedSimpArgs false
theorem dec_dig : ∀ n, ∀ c ∈ Lib.decDigits n, digB ((c.toNat : Int)) = true := by
 intro n
 induction n using Nat.strongRecOn with
 | ind n ih =>
   intro c hc
   by_cases h : n < 10
   · rw [dec_lt' h, List.mem_singleton] at hc
     subst hc
     unfold digB
     rw [UInt8.toNat_ofNat', decide_eq_true_iff]; omega
   · rw [dec_ge' (by omega), List.mem_append, List.mem_singleton] at hc
     rcases hc with hc | rfl
     · exact ih _ (by omega) c hc
     · unfold digB
       rw [UInt8.toNat_ofNat', decide_eq_true_iff]; omega
theorem gAt_mem {s : ByteArray} {i : Nat} (h : i < s.size) : ∃ c ∈ s.data.toList, gAt s i = (c.toNat : Int) := by
 have hl : i < s.data.toList.length := h
 refine ⟨s.data.toList[i], List.getElem_mem hl, ?_⟩
 unfold gAt
 rw [List.getD_eq_getElem?_getD, List.getElem?_eq_getElem hl]; rfl
theorem tok_num {n : Int} (h1 : 1 ≤ n) (h2 : n ≤ 50000) : Tok (numT n) (3, numT n) := by
 obtain ⟨k, rfl⟩ := Int.eq_ofNat_of_zero_le (show 0 ≤ n by omega)
 have hd : (numT (k : Int)).data.toList = Lib.decDigits k := by
  unfold numT Lib.itoa; simp
 have hne := dec_ne k
 have hsz : 0 < (numT (k : Int)).size := by
  show 0 < (numT (k : Int)).data.toList.length
  rw [hd]; exact List.length_pos_iff.2 hne
 have hall : ∀ j, j < (numT (k : Int)).size → digB (gAt (numT (k : Int)) j) = true := fun j hj => by
  obtain ⟨c, hc, e⟩ := gAt_mem hj
  rw [e]; rw [hd] at hc; exact dec_dig k c hc
 have hF : digF (numT (k : Int)).size (gAt (numT (k : Int))) 0 = (numT (k : Int)).size :=
  digF_to _ _ (by rw [oAt_end (Nat.lt_irrefl _)]; decide) _ 0 rfl (Nat.zero_le _) (fun j _ hj => by rw [oAt_lt hj]; exact hall j hj)
 have h0 := hall 0 hsz
 have hb : begB (gAt (numT (k : Int)) 0) = false := by
  unfold digB at h0; unfold begB
  rw [decide_eq_true_iff] at h0
  rw [decide_eq_false_iff_not]; omega
 have h48 : gAt (numT (k : Int)) 0 ≠ 48 := by
  have := dec_head k (by omega)
  unfold gAt; rw [hd]; omega
 refine ⟨hsz, ?_, show (3 : Int) ≠ 0 by decide⟩
 unfold wordWd
 rw [if_neg (fun hc => by have := (name_begins (s := numT (k : Int)) hsz).1 hc; rw [hb] at this; cases this), if_pos h0]
 unfold digWd digL
 rw [hF, if_neg (fun hc => Nat.lt_irrefl _ hc.1), ext_all, hd, horA_dec, if_neg (by omega)]; rfl
theorem gAt_mk (l : List UInt8) (j : Nat) : gAt ⟨l.toArray⟩ j = (((l.getD j 0).toNat : Nat) : Int) := by unfold gAt; rfl
theorem tok_tag {t : ByteArray} (h : isNameB t = true) : Tok (⟨#[60]⟩ ++ t ++ ⟨#[62]⟩) (4, t) := by
 unfold isNameB at h
 obtain ⟨h1, h2, h3⟩ := of_decide_eq_true h
 have e60 : (⟨#[60]⟩ : ByteArray).size = 1 := rfl
 have e62 : (⟨#[62]⟩ : ByteArray).size = 1 := rfl
 have hA : (⟨#[60]⟩ ++ t).size = 1 + t.size := by rw [ByteArray.size_append, e60]
 have hsz : (⟨#[60]⟩ ++ t ++ ⟨#[62]⟩ : ByteArray).size = t.size + 2 := by rw [ByteArray.size_append, hA, e62]; omega
 generalize hτ : (⟨#[60]⟩ ++ t ++ ⟨#[62]⟩ : ByteArray) = τ at hsz ⊢
 have g0 : gAt τ 0 = 60 := by rw [← hτ, gAt_app, if_pos (by omega), gAt_app, if_pos (by decide)]; decide
 have gm : ∀ j, j < t.size → gAt τ (1 + j) = gAt t j := fun j hj => by
  rw [← hτ, gAt_app, if_pos (by omega), gAt_app, if_neg (by omega), e60, show 1 + j - 1 = j by omega]
 have ge : gAt τ (t.size + 1) = 62 := by rw [← hτ, gAt_app, if_neg (by omega), hA, show t.size + 1 - (1 + t.size) = 0 by omega]; decide
 have b0 : begB (gAt t 0) = true := (name_begins (s := t) (by omega)).1 (by omega)
 have hnm : ∀ j, j < t.size → nameB (gAt t j) = true := fun j hj => nameF_all t.size (gAt t) 0 j (Nat.zero_le _) (by omega)
 have hN : nameF τ.size (gAt τ) 1 = t.size + 1 := by
  rw [nameF_o, oAt_lt (by omega), show (1 : Nat) = 1 + 0 from rfl, gm 0 (by omega), if_pos b0]
  refine nameW_to τ (t.size + 1) (by rw [oAt_lt (by omega), ge]; decide) _ 1 rfl (by omega) (fun j h5 h6 => ?_)
  rw [oAt_lt (by omega), show j = 1 + (j - 1) by omega, gm _ (by omega)]
  exact hnm _ (by omega)
 have hT : tagF τ.size (gAt τ) 0 = t.size + 2 := by
  rw [tagF_o, Nat.zero_add, hN, oAt_lt (by omega), g0, oAt_lt (by omega), ge, if_pos (by omega)]
 refine ⟨by omega, ?_, show (4 : Int) ≠ 0 by decide⟩
 unfold wordWd
 rw [if_neg (fun hc => by have := (name_begins (s := τ) (by omega)).1 hc; rw [g0] at this; exact absurd this (by decide)), g0, if_neg (by decide), if_neg (by decide), if_pos rfl, hT, if_pos (by omega)]
 have he : τ.extract (0 + 1) (t.size + 2 - 1) = t := by
  refine ByteArray.ext (Array.toList_inj.1 ?_)
  rw [← hτ]
  simp only [ByteArray.data_extract, Array.toList_extract, ByteArray.data_append, Array.toList_append]
  simp [List.extract]
 rw [he, hsz]; rfl
theorem tok_code {c : ByteArray} (h0 : c.size ≠ 0) (h : endS c 0 = c.size) : Tok c (8, c) := by
 have g0 : gAt c 0 = 123 := by
  unfold endS at h
  split at h
  · rename_i hc; exact hc.2.2
  · omega
 refine ⟨by omega, ?_, show (8 : Int) ≠ 0 by decide⟩
 unfold wordWd
 rw [if_neg (fun hc => by have := (name_begins (s := c) (by omega)).1 hc; rw [g0] at this; exact absurd this (by decide)), g0, if_neg (by decide), if_neg (by decide), if_neg (by decide), if_neg (by decide), if_pos rfl]
 rw [show ((0 : Nat) : Int) = 0 from rfl, h, if_pos (by omega), Int.toNat_natCast, ext_all]
end
section
set_option linter.unusedVariables false
set_option linter.unusedSimpArgs false
theorem findW_none (n : Nat) (g : Nat → Int) (a b : Int) (i : Nat) (h : findW n g a b i = -1) : ∀ j, i ≤ j → j + 1 < n → ¬ (g j = a ∧ g (j + 1) = b) := by
 fun_induction findW n g a b i with
 | case1 i hi hc => omega
 | case2 i hi hc ih =>
   intro j h1 h2
   by_cases e : j = i
   · rw [e]; exact hc
   · exact ih h j (by omega) h2
 | case3 i hi => intro j h1 h2; omega
theorem findW_at (n : Nat) (g : Nat → Int) (a b : Int) (z : Nat) (hz : z + 1 < n) (ha : g z = a ∧ g (z + 1) = b) : ∀ m i, z - i = m → i ≤ z → (∀ j, i ≤ j → j < z → ¬ (g j = a ∧ g (j + 1) = b)) → findW n g a b i = (z : Int) := by
 intro m
 induction m with
 | zero => intro i h1 h2 _; obtain rfl : i = z := by omega
           rw [findW, if_pos hz, if_pos ha]
 | succ m ih =>
   intro i h1 h2 h3
   rw [findW, if_pos (by omega), if_neg (h3 i (Nat.le_refl _) (by omega))]
   exact ih (i + 1) (by omega) (by omega) (fun j h4 h5 => h3 j (by omega) h5)
theorem tok_pro {p : ByteArray} (h : pctB p = false) : Tok (⟨#[37, 123]⟩ ++ p ++ ⟨#[37, 125]⟩) (9, p) := by
 have hn : findW p.size (gAt p) 37 125 0 = -1 := by
  unfold pctB at h; simpa using h
 have e1 : (⟨#[37, 123]⟩ : ByteArray).size = 2 := rfl
 have e2 : (⟨#[37, 125]⟩ : ByteArray).size = 2 := rfl
 have hA : (⟨#[37, 123]⟩ ++ p).size = 2 + p.size := by rw [ByteArray.size_append, e1]
 have hsz : (⟨#[37, 123]⟩ ++ p ++ ⟨#[37, 125]⟩ : ByteArray).size = p.size + 4 := by rw [ByteArray.size_append, hA, e2]; omega
 generalize hτ : (⟨#[37, 123]⟩ ++ p ++ ⟨#[37, 125]⟩ : ByteArray) = τ at hsz ⊢
 have g0 : gAt τ 0 = 37 := by rw [← hτ, gAt_app, if_pos (by omega), gAt_app, if_pos (by decide)]; decide
 have g1 : gAt τ 1 = 123 := by rw [← hτ, gAt_app, if_pos (by omega), gAt_app, if_pos (by decide)]; decide
 have gm : ∀ j, j < p.size → gAt τ (2 + j) = gAt p j := fun j hj => by
  rw [← hτ, gAt_app, if_pos (by omega), gAt_app, if_neg (by omega), e1, show 2 + j - 2 = j by omega]
 have g3 : gAt τ (p.size + 2) = 37 := by rw [← hτ, gAt_app, if_neg (by omega), hA, show p.size + 2 - (2 + p.size) = 0 by omega]; decide
 have g4 : gAt τ (p.size + 2 + 1) = 125 := by rw [← hτ, gAt_app, if_neg (by omega), hA, show p.size + 2 + 1 - (2 + p.size) = 1 by omega]; decide
 have hW : findW τ.size (gAt τ) 37 125 2 = ((p.size + 2 : Nat) : Int) := findW_at _ _ _ _ _ (by omega) ⟨g3, g4⟩ _ 2 rfl (by omega) (fun j h5 h6 hc => by
  have q1 := gm (j - 2) (by omega)
  rw [show 2 + (j - 2) = j by omega] at q1
  by_cases h7 : j + 1 < p.size + 2
  · have q2 := gm (j - 2 + 1) (by omega)
    rw [show 2 + (j - 2 + 1) = j + 1 by omega] at q2
    exact findW_none _ _ _ _ _ hn (j - 2) (Nat.zero_le _) (by omega) ⟨by rw [← q1]; exact hc.1, by rw [← q2]; exact hc.2⟩
  · rw [show j + 1 = p.size + 2 by omega, g3] at hc
    exact absurd hc.2 (by decide))
 refine ⟨by omega, ?_, show (9 : Int) ≠ 0 by decide⟩
 unfold wordWd
 rw [if_neg (fun hc => by have := (name_begins (s := τ) (by omega)).1 hc; rw [g0] at this; exact absurd this (by decide)), g0, if_neg (by decide), if_neg (by decide), if_neg (by decide), if_neg (by decide), if_neg (by decide), if_pos rfl]
 unfold pctWd
 rw [if_neg (by omega), show (0 : Nat) + 1 = 1 from rfl, g1, if_neg (by decide), if_pos rfl]
 unfold behW
 rw [show (0 : Nat) + 2 = 2 from rfl, hW, if_neg (by omega), if_neg (by omega)]
 have he : τ.extract 2 ((((p.size + 2 : Nat) : Int) + 2).toNat - 2) = p := by
  rw [show (((p.size + 2 : Nat) : Int) + 2).toNat - 2 = p.size + 2 by omega]
  refine ByteArray.ext (Array.toList_inj.1 ?_)
  rw [← hτ]
  simp only [ByteArray.data_extract, Array.toList_extract, ByteArray.data_append, Array.toList_append]
  simp [List.extract]
 rw [he, hsz, show (((p.size + 2 : Nat) : Int) + 2).toNat = p.size + 4 by omega]; rfl
/-- a stretch of a text, read as words -/
def Runs (t : ByteArray) (i m : Nat) (ks : List Ky) (j m' : Nat) : Prop := ∀ L, ∃ L', wordsF t i m L = wordsF t j m' (L ++ L') ∧ L'.map keyOf = ks
theorem Runs.refl (t : ByteArray) (i m : Nat) : Runs t i m [] i m := fun L => ⟨[], by rw [List.append_nil], rfl⟩
theorem Runs.trans {t : ByteArray} {i m j m' k m'' : Nat} {a b : List Ky} (h : Runs t i m a j m') (h' : Runs t j m' b k m'') : Runs t i m (a ++ b) k m'' := fun L => by
 obtain ⟨L1, e1, k1⟩ := h L
 obtain ⟨L2, e2, k2⟩ := h' (L ++ L1)
 exact ⟨L1 ++ L2, by rw [e1, e2, List.append_assoc], by rw [List.map_append, k1, k2]⟩
/-- what stands from a place on -/
def Hd (t : ByteArray) (i : Nat) (l : List UInt8) : Prop := i ≤ t.size ∧ t.data.toList.drop i = l
theorem Hd.go {t : ByteArray} {i : Nat} {a b : List UInt8} (h : Hd t i (a ++ b)) : Hd t (i + a.length) b := by
 obtain ⟨h1, h2⟩ := h
 have hl := congrArg List.length h2
 rw [List.length_drop, List.length_append] at hl
 have ht : t.data.toList.length = t.size := rfl
 refine ⟨by omega, ?_⟩
 rw [← List.drop_drop, h2, List.drop_left]
theorem Hd.get {t : ByteArray} {i : Nat} {l : List UInt8} (h : Hd t i l) {j : Nat} (hj : j < l.length) : i + j < t.size ∧ gAt t (i + j) = (((l.getD j 0).toNat : Nat) : Int) := by
 obtain ⟨h1, rfl⟩ := h
 have ht : t.data.toList.length = t.size := rfl
 rw [List.length_drop] at hj
 refine ⟨by omega, ?_⟩
 unfold gAt
 rw [List.getD_eq_getElem?_getD, List.getD_eq_getElem?_getD, List.getElem?_drop]
theorem Hd.same {t τ : ByteArray} {i : Nat} {R : List UInt8} (h : Hd t i (τ.data.toList ++ R)) : Same τ t 0 i τ.size := by
 have hτ : τ.data.toList.length = τ.size := rfl
 have h1 := h.go.1
 rw [hτ] at h1
 refine ⟨by omega, h1, fun m hm => ?_⟩
 have := (h.get (j := m) (by rw [List.length_append]; omega)).2
 rw [this, Nat.zero_add, List.getD_eq_getElem?_getD, List.getElem?_append_left (by omega)]
 unfold gAt
 rw [List.getD_eq_getElem?_getD]
theorem run_tok {t τ : ByteArray} {y : Ky} {i m : Nat} {c : UInt8} {R : List UInt8} (hτ : Tok τ y) (h : Hd t i (τ.data.toList ++ c :: R)) (hc : c = 32 ∨ c = 10) (h7 : ¬ (y.1 = 7 ∧ m = 1)) :
  Runs t i m [y] (i + τ.size + 1) (if y.1 = 7 then m + 1 else m) ∧ Hd t (i + τ.size + 1) R := by
 have hl : τ.data.toList.length = τ.size := rfl
 have hS := h.same
 have hg := h.go
 rw [hl] at hg
 have hcb := hg.get (j := 0) (by simp)
 rw [Nat.add_zero] at hcb
 have hbl : blankB (gAt t (i + τ.size)) = true := by
  rw [hcb.2]; rcases hc with rfl | rfl
  · exact (by decide : blankB 32 = true)
  · exact (by decide : blankB 10 = true)
 have hnn : nameB (gAt t (i + τ.size)) = false := by
  rw [hcb.2]; rcases hc with rfl | rfl
  · exact (by decide : nameB 32 = false)
  · exact (by decide : nameB 10 = false)
 have hz : (wordWd τ 0).2 = τ.size := by rw [hτ.2.1]
 have hw := word_move (s := τ) (t := t) (x := 0) (y := i) hτ.1 (by rw [hτ.2.1]; exact hτ.2.2) (by rw [hz]; exact hS) (by rw [hz]; exact .inr (by rw [Nat.sub_zero, oAt_lt hcb.1]; exact hnn))
 rw [hτ.2.1] at hw
 simp only [Nat.sub_zero] at hw
 have hit : i < t.size := by have := hτ.1; omega
 have hk : (wordWd t i).1.kind ≠ 0 := by rw [hw]; exact hτ.2.2
 obtain ⟨f1, f2⟩ := word_first hit hk
 refine ⟨fun L => ⟨[⟨y.1, y.2, i⟩], ?_, rfl⟩, ?_⟩
 · rw [words_on (bet_none hit f1 f2) (Nat.le_refl _) hit hk (by rw [hw]; exact h7), hw]
   exact words_gap hcb.1 (gap_blank hbl) (by omega)
 · exact Hd.go (a := [c]) hg
end
end
section
open Go.RowKit
section
set_option linter.unusedVariables false
set_option linter.unusedSimpArgs false
def Toks : List ByteArray → List Ky → Prop
 | [], [] => True
 | τ :: l, y :: k => (Tok τ y ∧ y.1 ≠ 7) ∧ Toks l k
 | _, _ => False
theorem Toks.app {a b : List ByteArray} {x y : List Ky} (h : Toks a x) (h' : Toks b y) : Toks (a ++ b) (x ++ y) := by
 induction a generalizing x with
 | nil => cases x with
   | nil => exact h'
   | cons _ _ => exact absurd h (by simp [Toks])
 | cons c a ih => cases x with
   | nil => exact absurd h (by simp [Toks])
   | cons z x => exact ⟨h.1, ih h.2⟩
theorem Toks.flat {α : Type} {f : α → List ByteArray} {g : α → List Ky} : ∀ {l : List α}, (∀ a ∈ l, Toks (f a) (g a)) → Toks (l.flatMap f) (l.flatMap g)
 | [], _ => trivial
 | a :: l, h => by
   rw [List.flatMap_cons, List.flatMap_cons]
   exact (h a (by simp)).app (Toks.flat (fun b hb => h b (by simp [hb])))
theorem Toks.one {τ : ByteArray} {y : Ky} (h : Tok τ y) (h7 : y.1 ≠ 7) : Toks [τ] [y] := ⟨⟨h, h7⟩, trivial⟩
theorem run_line {t : ByteArray} {m : Nat} {R : List UInt8} : ∀ (l : List ByteArray) (x : ByteArray) (ks : List Ky) (i : Nat), Toks (x :: l) ks → Hd t i (x.data.toList ++ (tailSp l ++ 10 :: R)) → ∃ j, Runs t i m ks j m ∧ Hd t j R
 | [], x, ks, i, hT, h => by
   cases ks with
   | nil => exact absurd hT (by simp [Toks])
   | cons y k =>
     cases k with
     | cons _ _ => exact absurd hT.2 (by simp [Toks])
     | nil =>
       obtain ⟨h1, h2⟩ := run_tok (m := m) hT.1.1 (show Hd t i (x.data.toList ++ 10 :: R) from h) (.inr rfl) (fun hc => hT.1.2 hc.1)
       rw [if_neg hT.1.2] at h1
       exact ⟨_, h1, h2⟩
 | z :: l, x, ks, i, hT, h => by
   cases ks with
   | nil => exact absurd hT (by simp [Toks])
   | cons y k =>
     have e : x.data.toList ++ (tailSp (z :: l) ++ 10 :: R) = x.data.toList ++ 32 :: (z.data.toList ++ (tailSp l ++ 10 :: R)) := by
      unfold tailSp; rw [List.flatMap_cons]; simp
     rw [e] at h
     obtain ⟨h1, h2⟩ := run_tok (m := m) hT.1.1 h (.inl rfl) (fun hc => hT.1.2 hc.1)
     rw [if_neg hT.1.2] at h1
     obtain ⟨j, h3, h4⟩ := run_line l z k _ hT.2 h2
     exact ⟨j, h1.trans h3, h4⟩
theorem toks_sym {num lit : Bool} {x : Sm} (h : symB num lit x = true) : Toks [symT x] [symK x] := by
 unfold symB at h
 unfold symT symK
 by_cases hl : x.lit = true
 · rw [if_pos hl] at h ⊢
   rw [if_pos hl]
   obtain ⟨_, h1, _, h2⟩ := of_decide_eq_true h
   exact .one (tok_lit h1 h2) (show (2 : Int) ≠ 7 by decide)
 · rw [if_neg hl] at h ⊢
   rw [if_neg hl]
   exact .one (tok_name (of_decide_eq_true h).1) (show (1 : Int) ≠ 7 by decide)
theorem toks_declSm {num lit : Bool} {x : Sm} (h : symB num lit x = true) : Toks (declSm x) (declSmK x) := by
 have h0 := toks_sym h
 suffices hx : Toks (if x.num = 0 then [] else [numT x.num]) (if x.num = 0 then [] else [(3, numT x.num)]) from h0.app hx
 by_cases hn : x.num = 0
 · rw [if_pos hn, if_pos hn]; trivial
 · rw [if_neg hn, if_neg hn]
   unfold symB at h
   by_cases hl : x.lit = true
   · rw [if_pos hl] at h; exact absurd (of_decide_eq_true h).2.2.1 hn
   · rw [if_neg hl] at h
     have := (of_decide_eq_true h).2
     exact .one (tok_num (by omega) (by omega)) (show (3 : Int) ≠ 7 by decide)
theorem run_decl {t : ByteArray} {i m : Nat} {R : List UInt8} {d : Dc} (hd : mayDc d = true) (h : Hd t i (declT d ++ [10] ++ R)) : ∃ j, Runs t i m (declK d) j m ∧ Hd t j R := by
 unfold mayDc dcB at hd
 rw [Bool.and_eq_true, List.all_eq_true, decide_eq_true_iff] at hd
 obtain ⟨⟨h1, h2, h3, h4, h5, h6⟩, h7⟩ := hd
 unfold declT at h
 rw [List.append_assoc, List.append_assoc] at h
 refine run_line (declTl d) (keyS d.kind) _ i ?_ h
 unfold declTl declK
 refine Toks.app (a := [keyS d.kind]) (x := [(5, keyS d.kind)]) (.one (tok_key h1 h2) (show (5 : Int) ≠ 7 by decide)) (Toks.app ?_ (.flat (fun x hx => toks_declSm (h7 x hx))))
 by_cases ht : d.tag.size = 0
 · rw [if_pos ht, if_pos ht]; trivial
 · rw [if_neg ht, if_neg ht]
   exact .one (tok_tag (h6.resolve_left ht)) (show (4 : Int) ≠ 7 by decide)
theorem toks_pt {p : Pt} (h : mayPt p = true) : Toks [partT p] [ptK p] := by
 unfold mayPt at h
 unfold partT ptK
 by_cases hc : p.code.size = 0
 · rw [if_pos hc] at h ⊢
   rw [if_pos hc]; exact toks_sym h
 · rw [if_neg hc, Bool.and_eq_true] at h
   rw [if_neg hc, if_neg hc]
   exact .one (tok_code hc (of_decide_eq_true h.2)) (show (8 : Int) ≠ 7 by decide)
theorem toks_pts : ∀ {l : List Pt}, (∀ p ∈ l, mayPt p = true) → Toks (l.map partT) (l.map ptK)
 | [], _ => trivial
 | p :: l, h => Toks.app (a := [partT p]) (x := [ptK p]) (toks_pt (h p (by simp))) (toks_pts (fun q hq => h q (by simp [hq])))
theorem toks_alt {a : Al} (h : mayAl a = true) : Toks (altL a) (altK a) := by
 unfold mayAl at h
 rw [Bool.and_eq_true, List.all_eq_true, Bool.or_eq_true] at h
 unfold altL altK
 refine (toks_pts h.1).app ?_
 by_cases hn : noneB a.prec = true
 · rw [if_pos hn, if_pos hn]; trivial
 · rw [if_neg hn, if_neg hn]
   exact Toks.app (a := [⟨#[37, 112, 114, 101, 99]⟩]) (x := [precK]) (.one tok_prec (show (5 : Int) ≠ 7 by decide)) (toks_sym (h.2.resolve_left hn))
theorem toks_alts {l : List Al} (h : ∀ a ∈ l, mayAl a = true) : Toks (barL l) (altsK l) := by
 cases l with
 | nil => trivial
 | cons a l =>
   refine (toks_alt (h a (by simp))).app (.flat (fun b hb => ?_))
   exact Toks.app (a := [⟨#[124]⟩]) (x := [barK]) (.one tok_bar (show (6 : Int) ≠ 7 by decide)) (toks_alt (h b (by simp [hb])))
theorem run_rule {t : ByteArray} {i m : Nat} {R : List UInt8} {r : Rl} (hr : mayRl r = true) (h : Hd t i (ruleT r ++ [10] ++ R)) : ∃ j, Runs t i m (ruleK r) j m ∧ Hd t j R := by
 unfold mayRl at hr
 rw [Bool.and_eq_true, Bool.and_eq_true, List.all_eq_true] at hr
 unfold ruleT at h
 rw [List.append_assoc, List.append_assoc] at h
 refine run_line (ruleTl r) r.left _ i ?_ h
 unfold ruleTl ruleK
 have h1 : Toks (barL r.alts ++ [⟨#[59]⟩]) (altsK r.alts ++ [(6, ⟨#[59]⟩)]) := (toks_alts hr.2.2).app (.one tok_semi (show (6 : Int) ≠ 7 by decide))
 have h2 : Toks ([⟨#[58]⟩] ++ (barL r.alts ++ [⟨#[59]⟩])) ([(6, ⟨#[58]⟩)] ++ (altsK r.alts ++ [(6, ⟨#[59]⟩)])) := Toks.app (.one tok_colon (show (6 : Int) ≠ 7 by decide)) h1
 have h3 : Toks ([r.left] ++ _) ([(1, r.left)] ++ _) := Toks.app (.one (tok_name hr.1) (show (1 : Int) ≠ 7 by decide)) h2
 exact h3
theorem run_flat {α : Type} {t : ByteArray} {m : Nat} {R : List UInt8} {f : α → List UInt8} {g : α → List Ky} : ∀ (l : List α) (i : Nat), (∀ a ∈ l, ∀ i R, Hd t i (f a ++ R) → ∃ j, Runs t i m (g a) j m ∧ Hd t j R) → Hd t i (l.flatMap f ++ R) → ∃ j, Runs t i m (l.flatMap g) j m ∧ Hd t j R
 | [], i, _, h => ⟨i, Runs.refl t i m, h⟩
 | a :: l, i, ha, h => by
   rw [List.flatMap_cons, List.append_assoc] at h
   obtain ⟨j, h1, h2⟩ := ha a (by simp) i _ h
   obtain ⟨k, h3, h4⟩ := run_flat l j (fun b hb => ha b (by simp [hb])) h2
   exact ⟨k, h1.trans h3, h4⟩
theorem run_pro {t : ByteArray} {i m : Nat} {R : List UInt8} {p : ByteArray} (hp : pctB p = false) (h : Hd t i (proT p ++ R)) : ∃ j, Runs t i m (if p.size = 0 then [] else [(9, p)]) j m ∧ Hd t j R := by
 unfold proT at h
 by_cases h0 : p.size = 0
 · rw [if_pos h0] at h ⊢
   exact ⟨i, Runs.refl t i m, h⟩
 · rw [if_neg h0] at h ⊢
   have e : [37, 123] ++ p.data.toList ++ [37, 125, 10] ++ R = (⟨#[37, 123]⟩ ++ p ++ ⟨#[37, 125]⟩ : ByteArray).data.toList ++ 10 :: R := by
    simp [ByteArray.data_append, Array.toList_append]
   rw [e] at h
   obtain ⟨h1, h2⟩ := run_tok (m := m) (tok_pro hp) h (.inr rfl) (fun hc => absurd hc.1 (show (9 : Int) ≠ 7 by decide))
   rw [if_neg (show (9 : Int) ≠ 7 by decide)] at h1
   exact ⟨_, h1, h2⟩
/-- the printed text, read as words: the document's form -/
theorem words_back0 {s : So} (hm : maySo s = true) : ∃ L, wordsF ⟨(soT s).toArray⟩ 0 0 [] = (L, 0, 0) ∧ L.map keyOf = soK s := by
 have hm2 := hm
 unfold maySo at hm2
 rw [Bool.and_eq_true, Bool.and_eq_true, Bool.and_eq_true, List.all_eq_true, List.all_eq_true, Bool.not_eq_true'] at hm2
 obtain ⟨hp, hd, hr, _⟩ := hm2
 generalize ht : (⟨(soT s).toArray⟩ : ByteArray) = t
 have h : Hd t 0 (proT s.pro ++ (s.decls.flatMap (fun d => declT d ++ [10]) ++ ([37, 37, 10] ++ (s.rules.flatMap (fun r => ruleT r ++ [10]) ++ tailT s.tail)))) := by
  refine ⟨Nat.zero_le _, ?_⟩
  rw [← ht]
  unfold soT
  rw [if_pos hm]
  simp
 obtain ⟨i1, r1, h1⟩ := run_pro (m := 0) hp h
 obtain ⟨i2, r2, h2⟩ := run_flat (g := declK) s.decls i1 (fun d hd' i R hh => run_decl (hd d hd') hh) h1
 obtain ⟨r3, h3⟩ := run_tok (m := 0) tok_mark (show Hd t i2 ((⟨#[37, 37]⟩ : ByteArray).data.toList ++ 10 :: _) from h2) (.inr rfl) (fun hc => absurd hc.2 (by decide))
 rw [if_pos rfl] at r3
 generalize i2 + (⟨#[37, 37]⟩ : ByteArray).size + 1 = i3 at r3 h3
 obtain ⟨i4, r4, h4⟩ := run_flat (g := ruleK) s.rules i3 (fun r hr' i R hh => run_rule (hr r hr') hh) h3
 obtain ⟨L, e, hL⟩ := (r1.trans (r2.trans (r3.trans r4))) []
 rw [List.nil_append] at e
 rw [e]
 unfold tailT at h4
 by_cases h0 : s.tail.size = 0
 · rw [if_pos h0] at h4
   have hl := congrArg List.length h4.2
   rw [List.length_drop] at hl
   have hz : t.data.toList.length = t.size := rfl
   have hi : i4 = t.size := by have := h4.1; simp at hl; omega
   rw [hi, words_out (by rw [betF, dif_neg (Nat.lt_irrefl _)])]
   refine ⟨_, rfl, ?_⟩
   rw [List.map_append, hL]
   have : s.tail = ByteArray.empty := ByteArray.ext (Array.eq_empty_of_size_eq_zero h0)
   unfold soK
   rw [this]
   simp [keyOf]
 · rw [if_neg h0] at h4
   have g0 := h4.get (j := 0) (by simp)
   have g1 := h4.get (j := 1) (by simp)
   have e0 : gAt t i4 = 37 := g0.2
   have e1 : gAt t (i4 + 1) = 37 := g1.2
   have hw := mark_word g1.1 e0 e1
   rw [words_last (b := i4) (bet_none (by omega) (by rw [e0]; decide) (by rw [e0]; decide)) (by omega) (by rw [hw]), hw]
   refine ⟨_, rfl, ?_⟩
   have hx : t.extract (i4 + 2) t.size = s.tail := by
    have h5 := (Hd.go (a := [37, 37]) h4).2
    refine ByteArray.ext (Array.toList_inj.1 ?_)
    rw [drop_data]; exact h5
   rw [List.map_append, hL]
   simp only [hx]
   unfold soK
   simp [keyOf]
theorem words_back {s : So} (hm : maySo s = true) (hs : (⟨(soT s).toArray⟩ : ByteArray).size ≤ 4000) : ∃ L, wordsS ⟨(soT s).toArray⟩ = (L, 0, 0) ∧ L.map keyOf = soK s := by
 obtain ⟨L, e, h⟩ := words_back0 hm
 exact ⟨L, by unfold wordsS; rw [if_neg (by omega), e], h⟩
end
end
end Go.Proofs.YtnoppoifepbchaaDoor
