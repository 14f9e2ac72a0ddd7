/- What is printed and read is the same. -/
import Derived.Test.YtnoppoifepbchaaGreatDoorPlB
import Derived.Test.YtnoppoifepbchaaGreatDoorPlC
namespace Go.Proofs.YtnoppoifepbchaaGreatDoor

open Go.RowKit
section
set_option linter.unusedVariables false
set_option linter.unusedSimpArgs false

theorem num_back (n : Int) (h1 : 1 ≤ n) (h2 : n ≤ 50000) : ((rdNum (numT n) : Nat) : Int) = n := by
 obtain ⟨k, rfl⟩ := Int.eq_ofNat_of_zero_le (show 0 ≤ n by omega)
 have hd : (numT (k : Int)).data.toList = Lib.decDigits k := by unfold numT Lib.itoa; simp
 have e : rdNum (numT (k : Int)) = horA 0 (numT (k : Int)).data.toList := rfl
 rw [e, hd, horA_dec]
theorem may_sm (num lit : Bool) (x : Sm) : symB num lit x.bare = symB num lit x := rfl
theorem may_pt (p : Pt) : mayPt p.bare = mayPt p := rfl
theorem all_bare {α β : Type} (f : α → β) (p : β → Bool) (q : α → Bool) (h : ∀ x, p (f x) = q x) (l : List α) : (l.map f).all p = l.all q := by
 rw [List.all_map]; congr 1; funext x; exact h x
theorem map_bare {α β γ : Type} (f : α → β) (p : β → γ) (q : α → γ) (h : ∀ x, p (f x) = q x) (l : List α) : (l.map f).map p = l.map q := by
 rw [List.map_map]; congr 1; funext x; exact h x
theorem flat_bare {α β γ : Type} (f : α → β) (p : β → List γ) (q : α → List γ) (h : ∀ x, p (f x) = q x) (l : List α) : (l.map f).flatMap p = l.flatMap q := by
 rw [List.flatMap_map]; congr 1; funext x; exact h x
theorem may_al (a : Al) : mayAl a.bare = mayAl a := by
 unfold mayAl
 show ((a.parts.map Pt.bare).all mayPt && (noneB a.prec.bare || symB false true a.prec.bare)) = _
 rw [all_bare Pt.bare mayPt mayPt may_pt]; rfl
theorem may_rl (r : Rl) : mayRl r.bare = mayRl r := by
 unfold mayRl
 show (isNameB r.left && (decide ((r.alts.map Al.bare).length ≠ 0) && (r.alts.map Al.bare).all mayAl)) = _
 rw [all_bare Al.bare mayAl mayAl may_al, List.length_map]
theorem may_dc (d : Dc) : mayDc d.bare = mayDc d := by
 unfold mayDc dcB
 show (decide (1 ≤ d.kind ∧ d.kind ≤ 6 ∧ (d.syms.map Sm.bare).length ≠ 0 ∧ (d.kind = 6 → (d.syms.map Sm.bare).length = 1 ∧ d.tag.size = 0) ∧ (d.kind = 5 → d.tag.size ≠ 0) ∧ (d.tag.size = 0 ∨ isNameB d.tag = true)) && (d.syms.map Sm.bare).all (symB (d.kind == 1) (decide (d.kind < 5)))) = _
 rw [all_bare Sm.bare _ _ (may_sm _ _)]
 simp only [List.length_map]
theorem may_so (s : So) : maySo s.bare = maySo s := by
 unfold maySo
 show (!pctB s.pro && ((s.decls.map Dc.bare).all mayDc && ((s.rules.map Rl.bare).all mayRl && decide ((s.rules.map Rl.bare).length ≠ 0)))) = _
 rw [all_bare Dc.bare mayDc mayDc may_dc, all_bare Rl.bare mayRl mayRl may_rl, List.length_map]
theorem alt_bare (a : Al) : altL a.bare = altL a := by
 unfold altL
 show (a.parts.map Pt.bare).map partT ++ (if noneB a.prec.bare = true then [] else [⟨#[37, 112, 114, 101, 99]⟩, symT a.prec.bare]) = _
 rw [map_bare Pt.bare partT partT (fun _ => rfl)]; rfl
theorem bar_bare (l : List Al) : barL (l.map Al.bare) = barL l := by
 cases l with
 | nil => rfl
 | cons a l =>
   show altL a.bare ++ (l.map Al.bare).flatMap (fun b => ⟨#[124]⟩ :: altL b) = altL a ++ l.flatMap (fun b => ⟨#[124]⟩ :: altL b)
   rw [alt_bare, flat_bare Al.bare _ (fun b => ⟨#[124]⟩ :: altL b) (fun x => by simp only [alt_bare])]
theorem rule_bare (r : Rl) : ruleT r.bare = ruleT r := by
 unfold ruleT ruleTl
 show r.left.data.toList ++ tailSp ([⟨#[58]⟩] ++ barL (r.alts.map Al.bare) ++ [⟨#[59]⟩]) = _
 rw [bar_bare]
theorem decl_bare (d : Dc) : declT d.bare = declT d := by
 unfold declT declTl
 show (keyS d.kind).data.toList ++ tailSp ((if d.tag.size = 0 then [] else [⟨#[60]⟩ ++ d.tag ++ ⟨#[62]⟩]) ++ (d.syms.map Sm.bare).flatMap declSm) = _
 rw [flat_bare Sm.bare declSm declSm (fun _ => rfl)]
theorem text_bare (s : So) : soT s.bare = soT s := by
 unfold soT
 rw [may_so]
 show (if maySo s = true then proT s.pro ++ (s.decls.map Dc.bare).flatMap (fun d => declT d ++ [10]) ++ [37, 37, 10] ++ (s.rules.map Rl.bare).flatMap (fun r => ruleT r ++ [10]) ++ tailT s.tail else []) = _
 rw [flat_bare Dc.bare _ (fun d => declT d ++ [10]) (fun x => by simp only [decl_bare]), flat_bare Rl.bare _ (fun r => ruleT r ++ [10]) (fun x => by simp only [rule_bare])]
theorem eqL_bare {α β : Type} (f : α → β) (p : β → β → Bool) (q : α → α → Bool) (h : ∀ x y, p (f x) (f y) = q x y) (a b : List α) : eqL p (a.map f) (b.map f) = eqL q a b := by
 unfold eqL
 rw [List.length_map, List.length_map, List.zip_map, List.all_map]
 congr 1
 congr 1
 funext x
 exact h _ _
theorem eqL_self {α : Type} {p : α → α → Bool} (h : ∀ x, p x x = true) (l : List α) : eqL p l l = true := by
 unfold eqL
 rw [beq_self_eq_true, Bool.true_and, List.all_eq_true]
 intro x hx
 obtain ⟨i, hi⟩ := List.getElem?_of_mem hx
 rw [List.getElem?_zip_eq_some] at hi
 have : x.1 = x.2 := Option.some.inj (hi.1.symm.trans hi.2)
 rw [this]; exact h _
theorem same_al (a b : Al) : a.bare.same b.bare = a.same b := by
 unfold Al.same
 show (a.prec.bare.same b.prec.bare && eqL Pt.same (a.parts.map Pt.bare) (b.parts.map Pt.bare)) = _
 rw [eqL_bare Pt.bare Pt.same Pt.same (fun _ _ => rfl)]; rfl
theorem same_so (a b : So) : a.bare.same b.bare = a.same b := by
 unfold So.same
 show ((a.pro.toList == b.pro.toList) && ((a.tail.toList == b.tail.toList) && (eqL Dc.same (a.decls.map Dc.bare) (b.decls.map Dc.bare) && eqL Rl.same (a.rules.map Rl.bare) (b.rules.map Rl.bare)))) = _
 rw [eqL_bare Dc.bare Dc.same Dc.same (fun x y => by
   unfold Dc.same
   show ((x.kind == y.kind) && ((x.tag.toList == y.tag.toList) && eqL Sm.same (x.syms.map Sm.bare) (y.syms.map Sm.bare))) = _
   rw [eqL_bare Sm.bare Sm.same Sm.same (fun _ _ => rfl)]),
  eqL_bare Rl.bare Rl.same Rl.same (fun x y => by
   unfold Rl.same
   show ((x.left.toList == y.left.toList) && eqL Al.same (x.alts.map Al.bare) (y.alts.map Al.bare)) = _
   rw [eqL_bare Al.bare Al.same Al.same same_al])]
theorem same_self (s : So) : s.same s = true := by
 have hs : ∀ x : Sm, x.same x = true := fun x => by unfold Sm.same; simp
 have hp : ∀ x : Pt, x.same x = true := fun x => by unfold Pt.same; simp [hs]
 have ha : ∀ x : Al, x.same x = true := fun x => by unfold Al.same; rw [hs, eqL_self hp]; rfl
 have hr : ∀ x : Rl, x.same x = true := fun x => by unfold Rl.same; rw [eqL_self ha]; simp
 have hd : ∀ x : Dc, x.same x = true := fun x => by unfold Dc.same; rw [eqL_self hs]; simp
 unfold So.same; rw [eqL_self hd, eqL_self hr]; simp
theorem same_bare {a b : So} (h : a.bare = b.bare) : a.same b = true := by rw [← same_so, h]; exact same_self _
theorem eqL_map {α β : Type} (f : α → β) {p : α → α → Bool} (h : ∀ x y, p x y = true → f x = f y) : ∀ {a b : List α}, eqL p a b = true → a.map f = b.map f
 | [], [], _ => rfl
 | [], _ :: _, h2 => by simp [eqL] at h2
 | _ :: _, [], h2 => by simp [eqL] at h2
 | x :: a, y :: b, h2 => by
   unfold eqL at h2
   simp only [List.length_cons, List.zip_cons_cons, List.all_cons, Bool.and_eq_true, beq_iff_eq, Nat.add_right_cancel_iff] at h2
   rw [List.map_cons, List.map_cons, h x y h2.2.1, eqL_map f h (a := a) (b := b) (by unfold eqL; rw [Bool.and_eq_true, beq_iff_eq]; exact ⟨h2.1, h2.2.2⟩)]
theorem ba_toList {a b : ByteArray} (h : (a.toList == b.toList) = true) : a = b := by
 rw [Lib.toList_data, Lib.toList_data] at h
 exact ByteArray.ext (Array.toList_inj.1 (by simpa using h))
theorem bare_sm (x y : Sm) (h : x.same y = true) : x.bare = y.bare := by
 unfold Sm.same at h
 simp only [Bool.and_eq_true, beq_iff_eq] at h
 have h1 := ba_toList (a := x.name) (b := y.name) (by simpa using h.1)
 unfold Sm.bare
 rw [h1, h.2.1, h.2.2]
theorem bare_pt (x y : Pt) (h : x.same y = true) : x.bare = y.bare := by
 unfold Pt.same at h
 rw [Bool.and_eq_true] at h
 unfold Pt.bare
 rw [bare_sm _ _ h.2, ba_toList h.1]
theorem bare_al (x y : Al) (h : x.same y = true) : x.bare = y.bare := by
 unfold Al.same at h
 rw [Bool.and_eq_true] at h
 unfold Al.bare
 rw [bare_sm _ _ h.1, eqL_map Pt.bare bare_pt h.2]
theorem bare_rl (x y : Rl) (h : x.same y = true) : x.bare = y.bare := by
 unfold Rl.same at h
 rw [Bool.and_eq_true] at h
 unfold Rl.bare
 rw [ba_toList h.1, eqL_map Al.bare bare_al h.2]
theorem bare_dc (x y : Dc) (h : x.same y = true) : x.bare = y.bare := by
 unfold Dc.same at h
 rw [Bool.and_eq_true, Bool.and_eq_true, beq_iff_eq] at h
 unfold Dc.bare
 rw [h.1, ba_toList h.2.1, eqL_map Sm.bare bare_sm h.2.2]
theorem bare_of_same {x y : So} (h : x.same y = true) : x.bare = y.bare := by
 unfold So.same at h
 rw [Bool.and_eq_true, Bool.and_eq_true, Bool.and_eq_true] at h
 unfold So.bare
 rw [ba_toList h.1, ba_toList h.2.1, eqL_map Dc.bare bare_dc h.2.2.1, eqL_map Rl.bare bare_rl h.2.2.2]
/-- a source that may be: its text is read as it was -/
theorem text_back {s : So} (hm : maySo s = true) (hs : (⟨(soT s).toArray⟩ : ByteArray).size ≤ 4000) : ∃ y, readT ⟨(soT s).toArray⟩ = (y, 0, 0) ∧ y.bare = s.bare ∧ s.same y = true ∧ y.same s = true ∧ soT y = soT s := by
 obtain ⟨L, e, hL⟩ := words_back hm hs
 obtain ⟨x, r, h1, h2⟩ := so_back num_back s L hm hL
 refine ⟨x, ?_, h2, same_bare h2.symm, same_bare h2, by rw [← text_bare, h2, text_bare]⟩
 unfold readT readS
 rw [e]
 simp only [h1]
 rfl
/-- what was read of a text may be, and has a text -/
theorem read_may {t : ByteArray} {x : So} {p : Int} (h : readT t = (x, 0, p)) : maySo x = true ∧ soT x ≠ [] := by
 have hm : maySo x = true := by
  unfold readT readS at h
  split at h
  · rename_i he
    simp only [Prod.mk.injEq] at h
    exact absurd h.2.1 he
  · split at h
    · rename_i y r hy
      simp only [Prod.mk.injEq] at h
      rw [← h.1]
      exact so_may (wordsS_may t) hy
    · simp only [Prod.mk.injEq] at h
      exact absurd h.2.1 (by decide)
 refine ⟨hm, fun e => ?_⟩
 unfold soT at e
 rw [if_pos hm] at e
 simp at e
/-- two sources that may be have one text just if they are the same -/
theorem text_one {a b : So} (ha : maySo a = true) (hb : maySo b = true) : (soT a = soT b) ↔ a.same b = true := by
 constructor
 · intro h
   obtain ⟨L, e, hL⟩ := words_back0 ha
   obtain ⟨M, e2, hM⟩ := words_back0 hb
   rw [← h, e] at e2
   simp only [Prod.mk.injEq, and_true] at e2
   subst e2
   obtain ⟨x, r, h1, h2⟩ := so_back num_back a L ha hL
   obtain ⟨y, r2, h3, h4⟩ := so_back num_back b L hb hM
   rw [h1] at h3
   simp only [Rd.ok.injEq] at h3
   exact same_bare (by rw [← h2, ← h4, h3.1])
 · intro h
   have := bare_of_same h
   rw [← text_bare, this, text_bare]
end
end Go.Proofs.YtnoppoifepbchaaGreatDoor
