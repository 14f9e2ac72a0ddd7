/- What is printed, read as words. -/
import Derived.Test.YtnoppoifepbchaaGreatDoorPlA
namespace Go.Proofs.YtnoppoifepbchaaGreatDoor

open Go.RowKit
section
set_option linter.unusedVariables false
set_option linter.unusedSimpArgs false
def Toks : List ByteArray → List Ky → Prop
 | [], [] => True
 | τ :: l, y :: k => (Tok τ y ∧ y.1 ≠ 7) ∧ Toks l k
 | _, _ => False
theorem Toks.app {a b : List ByteArray} {x y : List Ky} (h : Toks a x) (h' : Toks b y) : Toks (a ++ b) (x ++ y) := by
 induction a generalizing x with
 | nil => cases x with
   | nil => exact h'
   | cons _ _ => exact absurd h (by simp [Toks])
 | cons c a ih => cases x with
   | nil => exact absurd h (by simp [Toks])
   | cons z x => exact ⟨h.1, ih h.2⟩
theorem Toks.flat {α : Type} {f : α → List ByteArray} {g : α → List Ky} : ∀ {l : List α}, (∀ a ∈ l, Toks (f a) (g a)) → Toks (l.flatMap f) (l.flatMap g)
 | [], _ => trivial
 | a :: l, h => by
   rw [List.flatMap_cons, List.flatMap_cons]
   exact (h a (by simp)).app (Toks.flat (fun b hb => h b (by simp [hb])))
theorem Toks.one {τ : ByteArray} {y : Ky} (h : Tok τ y) (h7 : y.1 ≠ 7) : Toks [τ] [y] := ⟨⟨h, h7⟩, trivial⟩
theorem run_line {t : ByteArray} {m : Nat} {R : List UInt8} : ∀ (l : List ByteArray) (x : ByteArray) (ks : List Ky) (i : Nat), Toks (x :: l) ks → Hd t i (x.data.toList ++ (tailSp l ++ 10 :: R)) → ∃ j, Runs t i m ks j m ∧ Hd t j R
 | [], x, ks, i, hT, h => by
   cases ks with
   | nil => exact absurd hT (by simp [Toks])
   | cons y k =>
     cases k with
     | cons _ _ => exact absurd hT.2 (by simp [Toks])
     | nil =>
       obtain ⟨h1, h2⟩ := run_tok (m := m) hT.1.1 (show Hd t i (x.data.toList ++ 10 :: R) from h) (.inr rfl) (fun hc => hT.1.2 hc.1)
       rw [if_neg hT.1.2] at h1
       exact ⟨_, h1, h2⟩
 | z :: l, x, ks, i, hT, h => by
   cases ks with
   | nil => exact absurd hT (by simp [Toks])
   | cons y k =>
     have e : x.data.toList ++ (tailSp (z :: l) ++ 10 :: R) = x.data.toList ++ 32 :: (z.data.toList ++ (tailSp l ++ 10 :: R)) := by
      unfold tailSp; rw [List.flatMap_cons]; simp
     rw [e] at h
     obtain ⟨h1, h2⟩ := run_tok (m := m) hT.1.1 h (.inl rfl) (fun hc => hT.1.2 hc.1)
     rw [if_neg hT.1.2] at h1
     obtain ⟨j, h3, h4⟩ := run_line l z k _ hT.2 h2
     exact ⟨j, h1.trans h3, h4⟩
theorem toks_sym {num lit : Bool} {x : Sm} (h : symB num lit x = true) : Toks [symT x] [symK x] := by
 unfold symB at h
 unfold symT symK
 by_cases hl : x.lit = true
 · rw [if_pos hl] at h ⊢
   rw [if_pos hl]
   obtain ⟨_, h1, _, h2⟩ := of_decide_eq_true h
   exact .one (tok_lit h1 h2) (show (2 : Int) ≠ 7 by decide)
 · rw [if_neg hl] at h ⊢
   rw [if_neg hl]
   exact .one (tok_name (of_decide_eq_true h).1) (show (1 : Int) ≠ 7 by decide)
theorem toks_declSm {num lit : Bool} {x : Sm} (h : symB num lit x = true) : Toks (declSm x) (declSmK x) := by
 have h0 := toks_sym h
 suffices hx : Toks (if x.num = 0 then [] else [numT x.num]) (if x.num = 0 then [] else [(3, numT x.num)]) from h0.app hx
 by_cases hn : x.num = 0
 · rw [if_pos hn, if_pos hn]; trivial
 · rw [if_neg hn, if_neg hn]
   unfold symB at h
   by_cases hl : x.lit = true
   · rw [if_pos hl] at h; exact absurd (of_decide_eq_true h).2.2.1 hn
   · rw [if_neg hl] at h
     have := (of_decide_eq_true h).2
     exact .one (tok_num (by omega) (by omega)) (show (3 : Int) ≠ 7 by decide)
theorem run_decl {t : ByteArray} {i m : Nat} {R : List UInt8} {d : Dc} (hd : mayDc d = true) (h : Hd t i (declT d ++ [10] ++ R)) : ∃ j, Runs t i m (declK d) j m ∧ Hd t j R := by
 unfold mayDc dcB at hd
 rw [Bool.and_eq_true, List.all_eq_true, decide_eq_true_iff] at hd
 obtain ⟨⟨h1, h2, h3, h4, h5, h6⟩, h7⟩ := hd
 unfold declT at h
 rw [List.append_assoc, List.append_assoc] at h
 refine run_line (declTl d) (keyS d.kind) _ i ?_ h
 unfold declTl declK
 refine Toks.app (a := [keyS d.kind]) (x := [(5, keyS d.kind)]) (.one (tok_key h1 h2) (show (5 : Int) ≠ 7 by decide)) (Toks.app ?_ (.flat (fun x hx => toks_declSm (h7 x hx))))
 by_cases ht : d.tag.size = 0
 · rw [if_pos ht, if_pos ht]; trivial
 · rw [if_neg ht, if_neg ht]
   exact .one (tok_tag (h6.resolve_left ht)) (show (4 : Int) ≠ 7 by decide)
theorem toks_pt {p : Pt} (h : mayPt p = true) : Toks [partT p] [ptK p] := by
 unfold mayPt at h
 unfold partT ptK
 by_cases hc : p.code.size = 0
 · rw [if_pos hc] at h ⊢
   rw [if_pos hc]; exact toks_sym h
 · rw [if_neg hc, Bool.and_eq_true] at h
   rw [if_neg hc, if_neg hc]
   exact .one (tok_code hc (of_decide_eq_true h.2)) (show (8 : Int) ≠ 7 by decide)
theorem toks_pts : ∀ {l : List Pt}, (∀ p ∈ l, mayPt p = true) → Toks (l.map partT) (l.map ptK)
 | [], _ => trivial
 | p :: l, h => Toks.app (a := [partT p]) (x := [ptK p]) (toks_pt (h p (by simp))) (toks_pts (fun q hq => h q (by simp [hq])))
theorem toks_alt {a : Al} (h : mayAl a = true) : Toks (altL a) (altK a) := by
 unfold mayAl at h
 rw [Bool.and_eq_true, List.all_eq_true, Bool.or_eq_true] at h
 unfold altL altK
 refine (toks_pts h.1).app ?_
 by_cases hn : noneB a.prec = true
 · rw [if_pos hn, if_pos hn]; trivial
 · rw [if_neg hn, if_neg hn]
   exact Toks.app (a := [⟨#[37, 112, 114, 101, 99]⟩]) (x := [precK]) (.one tok_prec (show (5 : Int) ≠ 7 by decide)) (toks_sym (h.2.resolve_left hn))
theorem toks_alts {l : List Al} (h : ∀ a ∈ l, mayAl a = true) : Toks (barL l) (altsK l) := by
 cases l with
 | nil => trivial
 | cons a l =>
   refine (toks_alt (h a (by simp))).app (.flat (fun b hb => ?_))
   exact Toks.app (a := [⟨#[124]⟩]) (x := [barK]) (.one tok_bar (show (6 : Int) ≠ 7 by decide)) (toks_alt (h b (by simp [hb])))
theorem run_rule {t : ByteArray} {i m : Nat} {R : List UInt8} {r : Rl} (hr : mayRl r = true) (h : Hd t i (ruleT r ++ [10] ++ R)) : ∃ j, Runs t i m (ruleK r) j m ∧ Hd t j R := by
 unfold mayRl at hr
 rw [Bool.and_eq_true, Bool.and_eq_true, List.all_eq_true] at hr
 unfold ruleT at h
 rw [List.append_assoc, List.append_assoc] at h
 refine run_line (ruleTl r) r.left _ i ?_ h
 unfold ruleTl ruleK
 have h1 : Toks (barL r.alts ++ [⟨#[59]⟩]) (altsK r.alts ++ [(6, ⟨#[59]⟩)]) := (toks_alts hr.2.2).app (.one tok_semi (show (6 : Int) ≠ 7 by decide))
 have h2 : Toks ([⟨#[58]⟩] ++ (barL r.alts ++ [⟨#[59]⟩])) ([(6, ⟨#[58]⟩)] ++ (altsK r.alts ++ [(6, ⟨#[59]⟩)])) := Toks.app (.one tok_colon (show (6 : Int) ≠ 7 by decide)) h1
 have h3 : Toks ([r.left] ++ _) ([(1, r.left)] ++ _) := Toks.app (.one (tok_name hr.1) (show (1 : Int) ≠ 7 by decide)) h2
 exact h3
theorem run_flat {α : Type} {t : ByteArray} {m : Nat} {R : List UInt8} {f : α → List UInt8} {g : α → List Ky} : ∀ (l : List α) (i : Nat), (∀ a ∈ l, ∀ i R, Hd t i (f a ++ R) → ∃ j, Runs t i m (g a) j m ∧ Hd t j R) → Hd t i (l.flatMap f ++ R) → ∃ j, Runs t i m (l.flatMap g) j m ∧ Hd t j R
 | [], i, _, h => ⟨i, Runs.refl t i m, h⟩
 | a :: l, i, ha, h => by
   rw [List.flatMap_cons, List.append_assoc] at h
   obtain ⟨j, h1, h2⟩ := ha a (by simp) i _ h
   obtain ⟨k, h3, h4⟩ := run_flat l j (fun b hb => ha b (by simp [hb])) h2
   exact ⟨k, h1.trans h3, h4⟩
theorem run_pro {t : ByteArray} {i m : Nat} {R : List UInt8} {p : ByteArray} (hp : pctB p = false) (h : Hd t i (proT p ++ R)) : ∃ j, Runs t i m (if p.size = 0 then [] else [(9, p)]) j m ∧ Hd t j R := by
 unfold proT at h
 by_cases h0 : p.size = 0
 · rw [if_pos h0] at h ⊢
   exact ⟨i, Runs.refl t i m, h⟩
 · rw [if_neg h0] at h ⊢
   have e : [37, 123] ++ p.data.toList ++ [37, 125, 10] ++ R = (⟨#[37, 123]⟩ ++ p ++ ⟨#[37, 125]⟩ : ByteArray).data.toList ++ 10 :: R := by
    simp [ByteArray.data_append, Array.toList_append]
   rw [e] at h
   obtain ⟨h1, h2⟩ := run_tok (m := m) (tok_pro hp) h (.inr rfl) (fun hc => absurd hc.1 (show (9 : Int) ≠ 7 by decide))
   rw [if_neg (show (9 : Int) ≠ 7 by decide)] at h1
   exact ⟨_, h1, h2⟩
/-- the printed text, read as words: the document's form -/
theorem words_back0 {s : So} (hm : maySo s = true) : ∃ L, wordsF ⟨(soT s).toArray⟩ 0 0 [] = (L, 0, 0) ∧ L.map keyOf = soK s := by
 have hm2 := hm
 unfold maySo at hm2
 rw [Bool.and_eq_true, Bool.and_eq_true, Bool.and_eq_true, List.all_eq_true, List.all_eq_true, Bool.not_eq_true'] at hm2
 obtain ⟨hp, hd, hr, _⟩ := hm2
 generalize ht : (⟨(soT s).toArray⟩ : ByteArray) = t
 have h : Hd t 0 (proT s.pro ++ (s.decls.flatMap (fun d => declT d ++ [10]) ++ ([37, 37, 10] ++ (s.rules.flatMap (fun r => ruleT r ++ [10]) ++ tailT s.tail)))) := by
  refine ⟨Nat.zero_le _, ?_⟩
  rw [← ht]
  unfold soT
  rw [if_pos hm]
  simp
 obtain ⟨i1, r1, h1⟩ := run_pro (m := 0) hp h
 obtain ⟨i2, r2, h2⟩ := run_flat (g := declK) s.decls i1 (fun d hd' i R hh => run_decl (hd d hd') hh) h1
 obtain ⟨r3, h3⟩ := run_tok (m := 0) tok_mark (show Hd t i2 ((⟨#[37, 37]⟩ : ByteArray).data.toList ++ 10 :: _) from h2) (.inr rfl) (fun hc => absurd hc.2 (by decide))
 rw [if_pos rfl] at r3
 generalize i2 + (⟨#[37, 37]⟩ : ByteArray).size + 1 = i3 at r3 h3
 obtain ⟨i4, r4, h4⟩ := run_flat (g := ruleK) s.rules i3 (fun r hr' i R hh => run_rule (hr r hr') hh) h3
 obtain ⟨L, e, hL⟩ := (r1.trans (r2.trans (r3.trans r4))) []
 rw [List.nil_append] at e
 rw [e]
 unfold tailT at h4
 by_cases h0 : s.tail.size = 0
 · rw [if_pos h0] at h4
   have hl := congrArg List.length h4.2
   rw [List.length_drop] at hl
   have hz : t.data.toList.length = t.size := rfl
   have hi : i4 = t.size := by have := h4.1; simp at hl; omega
   rw [hi, words_out (by rw [betF, dif_neg (Nat.lt_irrefl _)])]
   refine ⟨_, rfl, ?_⟩
   rw [List.map_append, hL]
   have : s.tail = ByteArray.empty := ByteArray.ext (Array.eq_empty_of_size_eq_zero h0)
   unfold soK
   rw [this]
   simp [keyOf]
 · rw [if_neg h0] at h4
   have g0 := h4.get (j := 0) (by simp)
   have g1 := h4.get (j := 1) (by simp)
   have e0 : gAt t i4 = 37 := g0.2
   have e1 : gAt t (i4 + 1) = 37 := g1.2
   have hw := mark_word g1.1 e0 e1
   rw [words_last (b := i4) (bet_none (by omega) (by rw [e0]; decide) (by rw [e0]; decide)) (by omega) (by rw [hw]), hw]
   refine ⟨_, rfl, ?_⟩
   have hx : t.extract (i4 + 2) t.size = s.tail := by
    have h5 := (Hd.go (a := [37, 37]) h4).2
    refine ByteArray.ext (Array.toList_inj.1 ?_)
    rw [drop_data]; exact h5
   rw [List.map_append, hL]
   simp only [hx]
   unfold soK
   simp [keyOf]
theorem words_back {s : So} (hm : maySo s = true) (hs : (⟨(soT s).toArray⟩ : ByteArray).size ≤ 4000) : ∃ L, wordsS ⟨(soT s).toArray⟩ = (L, 0, 0) ∧ L.map keyOf = soK s := by
 obtain ⟨L, e, h⟩ := words_back0 hm
 exact ⟨L, by unfold wordsS; rw [if_neg (by omega), e], h⟩
end
end Go.Proofs.YtnoppoifepbchaaGreatDoor
