/- What is printed and read is the same. -/
import Derived.Test.YtnoppoifepbchaaGreatDoorPlA
import Derived.Test.YtnoppoifepbchaaGreatDoorPlC
namespace Go.Proofs.YtnoppoifepbchaaGreatDoor
section
open Go.RowKit
section
set_option linter.unusedVariables false
set_option linter.unusedSimpArgs false

theorem num_back (n : Int) (h1 : 1 ≤ n) (h2 : n ≤ 50000) : ((rdNum (numT n) : Nat) : Int) = n := by
 obtain ⟨k, rfl⟩ := Int.eq_ofNat_of_zero_le (show 0 ≤ n by omega)
 have hd : (numT (k : Int)).data.toList = Lib.decDigits k := by unfold numT Lib.itoa; simp
 have e : rdNum (numT (k : Int)) = horA 0 (numT (k : Int)).data.toList := rfl
 rw [e, hd, horA_dec]
theorem may_sm (num lit : Bool) (x : Sm) : symB num lit x.bare = symB num lit x := rfl
theorem may_pt (p : Pt) : mayPt p.bare = mayPt p := rfl
theorem all_bare {α β : Type} (f : α → β) (p : β → Bool) (q : α → Bool) (h : ∀ x, p (f x) = q x) (l : List α) : (l.map f).all p = l.all q := by
 rw [List.all_map]; congr 1; funext x; exact h x
theorem map_bare {α β γ : Type} (f : α → β) (p : β → γ) (q : α → γ) (h : ∀ x, p (f x) = q x) (l : List α) : (l.map f).map p = l.map q := by
 rw [List.map_map]; congr 1; funext x; exact h x
theorem flat_bare {α β γ : Type} (f : α → β) (p : β → List γ) (q : α → List γ) (h : ∀ x, p (f x) = q x) (l : List α) : (l.map f).flatMap p = l.flatMap q := by
 rw [List.flatMap_map]; congr 1; funext x; exact h x
theorem may_al (a : Al) : mayAl a.bare = mayAl a := by
 unfold mayAl
 show ((a.parts.map Pt.bare).all mayPt && (noneB a.prec.bare || symB false true a.prec.bare)) = _
 rw [all_bare Pt.bare mayPt mayPt may_pt]; rfl
theorem may_rl (r : Rl) : mayRl r.bare = mayRl r := by
 unfold mayRl
 show (isNameB r.left && (decide ((r.alts.map Al.bare).length ≠ 0) && (r.alts.map Al.bare).all mayAl)) = _
 rw [all_bare Al.bare mayAl mayAl may_al, List.length_map]
theorem may_dc (d : Dc) : mayDc d.bare = mayDc d := by
 unfold mayDc dcB
 show (decide (1 ≤ d.kind ∧ d.kind ≤ 6 ∧ (d.syms.map Sm.bare).length ≠ 0 ∧ (d.kind = 6 → (d.syms.map Sm.bare).length = 1 ∧ d.tag.size = 0) ∧ (d.kind = 5 → d.tag.size ≠ 0) ∧ (d.tag.size = 0 ∨ isNameB d.tag = true)) && (d.syms.map Sm.bare).all (symB (d.kind == 1) (decide (d.kind < 5)))) = _
 rw [all_bare Sm.bare _ _ (may_sm _ _)]
 simp only [List.length_map]
theorem may_so (s : So) : maySo s.bare = maySo s := by
 unfold maySo
 show (!pctB s.pro && ((s.decls.map Dc.bare).all mayDc && ((s.rules.map Rl.bare).all mayRl && decide ((s.rules.map Rl.bare).length ≠ 0)))) = _
 rw [all_bare Dc.bare mayDc mayDc may_dc, all_bare Rl.bare mayRl mayRl may_rl, List.length_map]
theorem alt_bare (a : Al) : altL a.bare = altL a := by
 unfold altL
 show (a.parts.map Pt.bare).map partT ++ (if noneB a.prec.bare = true then [] else [⟨#[37, 112, 114, 101, 99]⟩, symT a.prec.bare]) = _
 rw [map_bare Pt.bare partT partT (fun _ => rfl)]; rfl
theorem bar_bare (l : List Al) : barL (l.map Al.bare) = barL l := by
 cases l with
 | nil => rfl
 | cons a l =>
   show altL a.bare ++ (l.map Al.bare).flatMap (fun b => ⟨#[124]⟩ :: altL b) = altL a ++ l.flatMap (fun b => ⟨#[124]⟩ :: altL b)
   rw [alt_bare, flat_bare Al.bare _ (fun b => ⟨#[124]⟩ :: altL b) (fun x => by simp only [alt_bare])]
theorem rule_bare (r : Rl) : ruleT r.bare = ruleT r := by
 unfold ruleT ruleTl
 show r.left.data.toList ++ tailSp ([⟨#[58]⟩] ++ barL (r.alts.map Al.bare) ++ [⟨#[59]⟩]) = _
 rw [bar_bare]
theorem decl_bare (d : Dc) : declT d.bare = declT d := by
 unfold declT declTl
 show (keyS d.kind).data.toList ++ tailSp ((if d.tag.size = 0 then [] else [⟨#[60]⟩ ++ d.tag ++ ⟨#[62]⟩]) ++ (d.syms.map Sm.bare).flatMap declSm) = _
 rw [flat_bare Sm.bare declSm declSm (fun _ => rfl)]
theorem text_bare (s : So) : soT s.bare = soT s := by
 unfold soT
 rw [may_so]
 show (if maySo s = true then proT s.pro ++ (s.decls.map Dc.bare).flatMap (fun d => declT d ++ [10]) ++ [37, 37, 10] ++ (s.rules.map Rl.bare).flatMap (fun r => ruleT r ++ [10]) ++ tailT s.tail else []) = _
 rw [flat_bare Dc.bare _ (fun d => declT d ++ [10]) (fun x => by simp only [decl_bare]), flat_bare Rl.bare _ (fun r => ruleT r ++ [10]) (fun x => by simp only [rule_bare])]
theorem eqL_bare {α β : Type} (f : α → β) (p : β → β → Bool) (q : α → α → Bool) (h : ∀ x y, p (f x) (f y) = q x y) (a b : List α) : eqL p (a.map f) (b.map f) = eqL q a b := by
 unfold eqL
 rw [List.length_map, List.length_map, List.zip_map, List.all_map]
 congr 1
 congr 1
 funext x
 exact h _ _
theorem eqL_self {α : Type} {p : α → α → Bool} (h : ∀ x, p x x = true) (l : List α) : eqL p l l = true := by
 unfold eqL
 rw [beq_self_eq_true, Bool.true_and, List.all_eq_true]
 intro x hx
 obtain ⟨i, hi⟩ := List.getElem?_of_mem hx
 rw [List.getElem?_zip_eq_some] at hi
 have : x.1 = x.2 := Option.some.inj (hi.1.symm.trans hi.2)
 rw [this]; exact h _
theorem same_al (a b : Al) : a.bare.same b.bare = a.same b := by
 unfold Al.same
 show (a.prec.bare.same b.prec.bare && eqL Pt.same (a.parts.map Pt.bare) (b.parts.map Pt.bare)) = _
 rw [eqL_bare Pt.bare Pt.same Pt.same (fun _ _ => rfl)]; rfl
theorem same_so (a b : So) : a.bare.same b.bare = a.same b := by
 unfold So.same
 show ((a.pro.toList == b.pro.toList) && ((a.tail.toList == b.tail.toList) && (eqL Dc.same (a.decls.map Dc.bare) (b.decls.map Dc.bare) && eqL Rl.same (a.rules.map Rl.bare) (b.rules.map Rl.bare)))) = _
 rw [eqL_bare Dc.bare Dc.same Dc.same (fun x y => by
  unfold Dc.same
  show ((x.kind == y.kind) && ((x.tag.toList == y.tag.toList) && eqL Sm.same (x.syms.map Sm.bare) (y.syms.map Sm.bare))) = _
  rw [eqL_bare Sm.bare Sm.same Sm.same (fun _ _ => rfl)]),
  eqL_bare Rl.bare Rl.same Rl.same (fun x y => by
   unfold Rl.same
   show ((x.left.toList == y.left.toList) && eqL Al.same (x.alts.map Al.bare) (y.alts.map Al.bare)) = _
   rw [eqL_bare Al.bare Al.same Al.same same_al])]
theorem same_self (s : So) : s.same s = true := by
 have hs : ∀ x : Sm, x.same x = true := fun x => by unfold Sm.same; simp
 have hp : ∀ x : Pt, x.same x = true := fun x => by unfold Pt.same; simp [hs]
 have ha : ∀ x : Al, x.same x = true := fun x => by unfold Al.same; rw [hs, eqL_self hp]; rfl
 have hr : ∀ x : Rl, x.same x = true := fun x => by unfold Rl.same; rw [eqL_self ha]; simp
 have hd : ∀ x : Dc, x.same x = true := fun x => by unfold Dc.same; rw [eqL_self hs]; simp
 unfold So.same; rw [eqL_self hd, eqL_self hr]; simp
theorem same_bare {a b : So} (h : a.bare = b.bare) : a.same b = true := by rw [← same_so, h]; exact same_self _
theorem eqL_map {α β : Type} (f : α → β) {p : α → α → Bool} (h : ∀ x y, p x y = true → f x = f y) : ∀ {a b : List α}, eqL p a b = true → a.map f = b.map f
 | [], [], _ => rfl
 | [], _ :: _, h2 => by simp [eqL] at h2
 | _ :: _, [], h2 => by simp [eqL] at h2
 | x :: a, y :: b, h2 => by
   unfold eqL at h2
   simp only [List.length_cons, List.zip_cons_cons, List.all_cons, Bool.and_eq_true, beq_iff_eq, Nat.add_right_cancel_iff] at h2
   rw [List.map_cons, List.map_cons, h x y h2.2.1, eqL_map f h (a := a) (b := b) (by unfold eqL; rw [Bool.and_eq_true, beq_iff_eq]; exact ⟨h2.1, h2.2.2⟩)]
theorem ba_toList {a b : ByteArray} (h : (a.toList == b.toList) = true) : a = b := by
 rw [Lib.toList_data, Lib.toList_data] at h
 exact ByteArray.ext (Array.toList_inj.1 (by simpa using h))
theorem bare_sm (x y : Sm) (h : x.same y = true) : x.bare = y.bare := by
 unfold Sm.same at h
 simp only [Bool.and_eq_true, beq_iff_eq] at h
 have h1 := ba_toList (a := x.name) (b := y.name) (by simpa using h.1)
 unfold Sm.bare
 rw [h1, h.2.1, h.2.2]
theorem bare_pt (x y : Pt) (h : x.same y = true) : x.bare = y.bare := by
 unfold Pt.same at h
 rw [Bool.and_eq_true] at h
 unfold Pt.bare
 rw [bare_sm _ _ h.2, ba_toList h.1]
theorem bare_al (x y : Al) (h : x.same y = true) : x.bare = y.bare := by
 unfold Al.same at h
 rw [Bool.and_eq_true] at h
 unfold Al.bare
 rw [bare_sm _ _ h.1, eqL_map Pt.bare bare_pt h.2]
theorem bare_rl (x y : Rl) (h : x.same y = true) : x.bare = y.bare := by
 unfold Rl.same at h
 rw [Bool.and_eq_true] at h
 unfold Rl.bare
 rw [ba_toList h.1, eqL_map Al.bare bare_al h.2]
theorem bare_dc (x y : Dc) (h : x.same y = true) : x.bare = y.bare := by
 unfold Dc.same at h
 rw [Bool.and_eq_true, Bool.and_eq_true, beq_iff_eq] at h
 unfold Dc.bare
 rw [h.1, ba_toList h.2.1, eqL_map Sm.bare bare_sm h.2.2]
theorem bare_of_same {x y : So} (h : x.same y = true) : x.bare = y.bare := by
 unfold So.same at h
 rw [Bool.and_eq_true, Bool.and_eq_true, Bool.and_eq_true] at h
 unfold So.bare
 rw [ba_toList h.1, ba_toList h.2.1, eqL_map Dc.bare bare_dc h.2.2.1, eqL_map Rl.bare bare_rl h.2.2.2]
/-- a source that may be: its text is read as it was -/
theorem text_back {s : So} (hm : maySo s = true) (hs : (⟨(soT s).toArray⟩ : ByteArray).size ≤ 4000) : ∃ y, readT ⟨(soT s).toArray⟩ = (y, 0, 0) ∧ y.bare = s.bare ∧ s.same y = true ∧ y.same s = true ∧ soT y = soT s := by
 obtain ⟨L, e, hL⟩ := words_back hm hs
 obtain ⟨x, r, h1, h2⟩ := so_back num_back s L hm hL
 refine ⟨x, ?_, h2, same_bare h2.symm, same_bare h2, by rw [← text_bare, h2, text_bare]⟩
 unfold readT readS
 rw [e]
 simp only [h1]
 rfl
/-- what was read of a text may be, and has a text -/
theorem read_may {t : ByteArray} {x : So} {p : Int} (h : readT t = (x, 0, p)) : maySo x = true ∧ soT x ≠ [] := by
 have hm : maySo x = true := by
  unfold readT readS at h
  split at h
  · rename_i he
    simp only [Prod.mk.injEq] at h
    exact absurd h.2.1 he
  · split at h
    · rename_i y r hy
      simp only [Prod.mk.injEq] at h
      rw [← h.1]
      exact so_may (wordsS_may t) hy
    · simp only [Prod.mk.injEq] at h
      exact absurd h.2.1 (by decide)
 refine ⟨hm, fun e => ?_⟩
 unfold soT at e
 rw [if_pos hm] at e
 simp at e
/-- two sources that may be have one text just if they are the same -/
theorem text_one {a b : So} (ha : maySo a = true) (hb : maySo b = true) : (soT a = soT b) ↔ a.same b = true := by
 constructor
 · intro h
   obtain ⟨L, e, hL⟩ := words_back0 ha
   obtain ⟨M, e2, hM⟩ := words_back0 hb
   rw [← h, e] at e2
   simp only [Prod.mk.injEq, and_true] at e2
   subst e2
   obtain ⟨x, r, h1, h2⟩ := so_back num_back a L ha hL
   obtain ⟨y, r2, h3, h4⟩ := so_back num_back b L hb hM
   rw [h1] at h3
   simp only [Rd.ok.injEq] at h3
   exact same_bare (by rw [← h2, ← h4, h3.1])
 · intro h
   have := bare_of_same h
   rw [← text_bare, this, text_bare]
end
end
section
open Go.RowKit
section
set_option linter.unusedVariables false
set_option linter.unusedSimpArgs false
theorem tail_len {l : Wds} (h : (hdW l).kind ≠ 0) : l.tail.length + 1 = l.length := by
 cases l with
 | nil => exact absurd rfl h
 | cons w l => rfl
theorem syms_len (k : Int) : ∀ n (l : Wds), l.length ≤ n → (rdSyms k l).1.length + (rdSyms k l).2.length ≤ l.length := by
 intro n
 induction n with
 | zero =>
   intro l hl
   obtain rfl := List.eq_nil_of_length_eq_zero (Nat.le_zero.1 hl)
   rw [rdSyms]; simp
 | succ n ih =>
   intro l hl
   match l with
   | [] => rw [rdSyms]; simp
   | w :: l =>
     simp only [List.length_cons] at hl
     rw [rdSyms]
     split
     · split
       · simp; omega
       · split
         · have := ih l.tail (by rw [List.length_tail]; omega)
           rw [List.length_tail] at this
           simp; omega
         · have := ih l (by omega)
           simp; omega
     · simp
theorem decl_len {k : Int} {w : Wd} {l r : Wds} {d : Dc} (h : declS k w l = .ok d r) : d.syms.length ≤ l.length := by
 unfold declS at h
 split at h
 · cases h
 · split at h
   · cases h
   · cases h
     have h1 := syms_len k _ (tagS k l).2 (Nat.le_refl _)
     have h2 := tagS_le k l
     simp only; omega
theorem decls_len : ∀ n (l : Wds), l.length ≤ n → ∀ (P : ByteArray) (b : Bool) (ds : List Dc) x r, declsS P b ds l = .ok x r → x.2.length ≤ ds.length + l.length ∧ (∀ d ∈ x.2, d ∈ ds ∨ d.syms.length ≤ l.length) ∧ r.length ≤ l.length := by
 intro n
 induction n with
 | zero =>
   intro l hl P b ds x r h
   obtain rfl := List.eq_nil_of_length_eq_zero (Nat.le_zero.1 hl)
   rw [declsS] at h; cases h
 | succ n ih =>
   intro l hl P b ds x r h
   match l with
   | [] => rw [declsS] at h; cases h
   | w :: l =>
     simp only [List.length_cons] at hl
     rw [declsS] at h
     split at h
     · cases h; exact ⟨by simp, fun d hd => .inl hd, by simp⟩
     · split at h
       · obtain ⟨h1, h2, h3⟩ := ih l (by omega) _ _ _ _ _ h
         refine ⟨by simp; omega, fun d hd => ?_, by simp; omega⟩
         rcases h2 d hd with h4 | h4
         · exact .inl h4
         · exact .inr (by simp; omega)
       · split at h
         · split at h
           · rename_i d r' he
             have h5 := declS_le he
             have h6 := decl_len he
             obtain ⟨h1, h2, h3⟩ := ih r' (by omega) _ _ _ _ _ h
             simp only [List.length_append, List.length_singleton] at h1
             refine ⟨by simp; omega, fun c hc => ?_, by simp; omega⟩
             rcases h2 c hc with h4 | h4
             · rcases List.mem_append.1 h4 with h4 | h4
               · exact .inl h4
               · rw [List.mem_singleton.1 h4]; exact .inr (by simp; omega)
             · exact .inr (by simp; omega)
           · cases h
         · cases h
theorem parts_len : ∀ l : Wds, (rdParts l).1.length + (rdParts l).2.length ≤ l.length
 | [] => by rw [rdParts]; simp
 | w :: l => by
   have := parts_len l
   rw [rdParts]
   split
   · simp; omega
   · simp
theorem alt_len {l r : Wds} {a : Al} (h : altS l = .ok a r) : a.parts.length ≤ l.length := by
 have h0 := parts_len l
 unfold altS altEnd at h
 split at h
 · rename_i hp
   split at h
   · split at h
     · rename_i h8
       cases h
       have := hdW_nil (l := (rdParts l).2.tail.tail) (by omega)
       simp at this ⊢; omega
     · cases h; simp only; omega
   · cases h
 · cases h; simp only; omega
theorem alts_len : ∀ n (l : Wds), l.length ≤ n → ∀ zs x r, altsS zs l = .ok x r → x.length ≤ zs.length + l.length + 1 ∧ ∀ a ∈ x, a ∈ zs ∨ a.parts.length ≤ l.length := by
 intro n
 induction n with
 | zero =>
   intro l hl zs x r h
   rw [altsS] at h
   split at h
   · cases h
   · rename_i a r' he
     have h0 := altS_le he
     have h9 := alt_len he
     split at h
     · rename_i h2
       have := List.length_pos_iff.2 h2.1
       omega
     · cases h
       refine ⟨by simp only [List.length_append, List.length_singleton]; omega, fun c hc => ?_⟩
       rcases List.mem_append.1 hc with hc | hc
       · exact .inl hc
       · rw [List.mem_singleton.1 hc]; exact .inr h9
 | succ n ih =>
   intro l hl zs x r h
   rw [altsS] at h
   split at h
   · cases h
   · rename_i a r' he
     have h0 := altS_le he
     have h9 := alt_len he
     split at h
     · rename_i h2
       have h3 := List.length_pos_iff.2 h2.1
       obtain ⟨i1, i2⟩ := ih r'.tail (by rw [List.length_tail]; omega) _ _ _ h
       simp only [List.length_append, List.length_singleton, List.length_tail] at i1 i2
       refine ⟨by omega, fun c hc => ?_⟩
       rcases i2 c hc with h4 | h4
       · rcases List.mem_append.1 h4 with h4 | h4
         · exact .inl h4
         · rw [List.mem_singleton.1 h4]; exact .inr h9
       · exact .inr (by omega)
     · cases h
       refine ⟨by simp only [List.length_append, List.length_singleton]; omega, fun c hc => ?_⟩
       rcases List.mem_append.1 hc with hc | hc
       · exact .inl hc
       · rw [List.mem_singleton.1 hc]; exact .inr h9
theorem rule_len {l r : Wds} {x : Rl} (h : ruleS l = .ok x r) : x.alts.length ≤ l.length ∧ ∀ a ∈ x.alts, a.parts.length ≤ l.length := by
 unfold ruleS at h
 split at h
 · cases h
 · rename_i h1
   split at h
   · cases h
   · rename_i h2
     split at h
     · cases h
     · rename_i zs r' he
       cases h
       obtain ⟨i1, i2⟩ := alts_len _ _ (Nat.le_refl _) _ _ _ he
       have h3 := tail_len (l := l) (by omega)
       have h5 : signB 58 (hdW l.tail) = true := by cases hb : signB 58 (hdW l.tail) with
        | true => rfl
        | false => exact absurd hb h2
       unfold signB at h5
       have h6 := tail_len (l := l.tail) (by have := (of_decide_eq_true h5).1; omega)
       simp only [List.length_nil] at i1
       refine ⟨by simp only; omega, fun a ha => ?_⟩
       rcases i2 a ha with h7 | h7
       · cases h7
       · omega
theorem rules_len : ∀ n (l : Wds), l.length ≤ n → ∀ rs x r, rulesS rs l = .ok x r → x.length ≤ rs.length + l.length ∧ ∀ a ∈ x, a ∈ rs ∨ (a.alts.length ≤ l.length ∧ ∀ c ∈ a.alts, c.parts.length ≤ l.length) := by
 intro n
 induction n with
 | zero =>
   intro l hl rs x r h
   rw [rulesS] at h
   split at h
   · cases h
   · rename_i y r' he
     have := ruleS_lt he
     omega
 | succ n ih =>
   intro l hl rs x r h
   rw [rulesS] at h
   split at h
   · cases h
   · rename_i y r' he
     have hlt := ruleS_lt he
     have h9 := rule_len he
     split at h
     · cases h
       refine ⟨by simp only [List.length_append, List.length_singleton]; omega, fun c hc => ?_⟩
       rcases List.mem_append.1 hc with hc | hc
       · exact .inl hc
       · rw [List.mem_singleton.1 hc]; exact .inr h9
     · obtain ⟨i1, i2⟩ := ih r' (by omega) _ _ _ h
       simp only [List.length_append, List.length_singleton] at i1
       refine ⟨by omega, fun c hc => ?_⟩
       rcases i2 c hc with h4 | h4
       · rcases List.mem_append.1 h4 with h4 | h4
         · exact .inl h4
         · rw [List.mem_singleton.1 h4]; exact .inr h9
       · exact .inr ⟨by omega, fun e he2 => by have := h4.2 e he2; omega⟩
/-- how many parts a source has that was read of so many words -/
theorem so_few {l r : Wds} {x : So} (h : soS l = .ok x r) : x.decls.length ≤ l.length ∧ x.rules.length ≤ l.length ∧ (∀ d ∈ x.decls, d.syms.length ≤ l.length) ∧ ∀ r ∈ x.rules, r.alts.length ≤ l.length ∧ ∀ a ∈ r.alts, a.parts.length ≤ l.length := by
 unfold soS at h
 split at h
 · cases h
 · rename_i y r1 he
   obtain ⟨d1, d2, d3⟩ := decls_len _ _ (Nat.le_refl _) _ _ _ _ _ he
   split at h
   · cases h
   · rename_i rs r2 he2
     obtain ⟨g1, g2⟩ := rules_len _ _ (Nat.le_refl _) _ _ _ he2
     cases h
     simp only [List.length_nil] at d1 g1
     refine ⟨by simp only; omega, by simp only; omega, fun d hd => ?_, fun a ha => ?_⟩
     · rcases d2 d hd with h4 | h4
       · cases h4
       · exact h4
     · rcases g2 a ha with h4 | h4
       · cases h4
       · exact ⟨by omega, fun c hc => by have := h4.2 c hc; omega⟩
theorem wordsF_many (s : ByteArray) : ∀ (i m : Nat) (L : List Wd), i ≤ s.size → (wordsF s i m L).1.length ≤ L.length + (s.size - i) + 1 := by
 intro i m L
 fun_induction wordsF s i m L with
 | case1 i m L h ih =>
   intro hi
   have h1 := betF_bd s.size (gAt s) _ i rfl hi
   have h2 := wordWd_bd s _ h.2.2.1 h.2.2.2.1
   refine Nat.le_trans (ih (by omega)) ?_
   simp only [List.length_append, List.length_singleton]
   omega
 | case2 i m L h =>
   intro hi
   unfold stopF
   split
   · simp
   · split
     · split
       · simp
       · simp only [List.length_append, List.length_singleton]; omega
     · simp only [List.length_append, List.length_singleton]; omega
theorem wordsS_many (s : ByteArray) : (wordsS s).1.length ≤ s.size + 1 := by
 unfold wordsS
 split
 · simp
 · have := wordsF_many s 0 0 [] (Nat.zero_le _)
   simpa using this
end
section
set_option linter.unusedVariables false
set_option linter.unusedSimpArgs false
abbrev AllSz (B : Nat) (l : Wds) : Prop := ∀ w ∈ l, w.text.size ≤ B
theorem AllSz.tail {B : Nat} {l : Wds} (h : AllSz B l) : AllSz B l.tail := fun w hw => h w (List.mem_of_mem_tail hw)
theorem AllSz.hd {B : Nat} {l : Wds} (h : AllSz B l) : (hdW l).text.size ≤ B := by
 cases l with
 | nil => exact Nat.zero_le _
 | cons w l => exact h w (by simp)
theorem syms_sz (B : Nat) (k : Int) : ∀ n (l : Wds), l.length ≤ n → AllSz B l → AllSz B (rdSyms k l).2 := by
 intro n
 induction n with
 | zero =>
   intro l hl h
   obtain rfl := List.eq_nil_of_length_eq_zero (Nat.le_zero.1 hl)
   rw [rdSyms]; exact h
 | succ n ih =>
   intro l hl h
   match l with
   | [] => rw [rdSyms]; exact h
   | w :: l =>
     simp only [List.length_cons] at hl
     have hl' : AllSz B l := fun v hv => h v (by simp [hv])
     rw [rdSyms]
     split
     · split
       · exact hl'
       · split
         · exact ih l.tail (by rw [List.length_tail]; omega) hl'.tail
         · exact ih l (by omega) hl'
     · exact h
theorem decl_sz {B : Nat} {k : Int} {w : Wd} {l r : Wds} {d : Dc} (hl : AllSz B l) (h : declS k w l = .ok d r) : AllSz B r := by
 have h1 : AllSz B (tagS k l).2 := by
  unfold tagS
  split
  · exact hl.tail
  · exact hl
 unfold declS at h
 split at h
 · cases h
 · split at h
   · cases h
   · cases h; exact syms_sz B k _ _ (Nat.le_refl _) h1
theorem decls_sz (B : Nat) : ∀ n (l : Wds), l.length ≤ n → ∀ (P : ByteArray) (b : Bool) (ds : List Dc), AllSz B l → P.size ≤ B → ∀ x r, declsS P b ds l = .ok x r → x.1.size ≤ B ∧ AllSz B r := by
 intro n
 induction n with
 | zero =>
   intro l hl P b ds hm hp x r h
   obtain rfl := List.eq_nil_of_length_eq_zero (Nat.le_zero.1 hl)
   rw [declsS] at h; cases h
 | succ n ih =>
   intro l hl P b ds hm hp x r h
   match l with
   | [] => rw [declsS] at h; cases h
   | w :: l =>
     simp only [List.length_cons] at hl
     have hl' : AllSz B l := fun v hv => hm v (by simp [hv])
     rw [declsS] at h
     split at h
     · cases h; exact ⟨hp, hl'⟩
     · split at h
       · exact ih l (by omega) _ _ _ hl' (hm w (by simp)) _ _ h
       · split at h
         · split at h
           · rename_i d r' he
             have := declS_le he
             exact ih r' (by omega) _ _ _ (decl_sz hl' he) hp _ _ h
           · cases h
         · cases h
theorem pt_sz {B : Nat} {w : Wd} (hw : w.text.size ≤ B) : (ptOf w).code.size ≤ B := by
 unfold ptOf
 split
 · exact hw
 · exact Nat.zero_le _
theorem parts_sz {B : Nat} : ∀ l : Wds, AllSz B l → (∀ p ∈ (rdParts l).1, p.code.size ≤ B) ∧ AllSz B (rdParts l).2
 | [], h => by rw [rdParts]; exact ⟨(fun x hx => by cases hx), h⟩
 | w :: l, h => by
   have hl' : AllSz B l := fun v hv => h v (by simp [hv])
   obtain ⟨h1, h2⟩ := parts_sz l hl'
   rw [rdParts]
   split
   · refine ⟨fun p hp => ?_, h2⟩
     rcases List.mem_cons.1 hp with rfl | hp
     · exact pt_sz (h w (by simp))
     · exact h1 p hp
   · exact ⟨(fun x hx => by cases hx), h⟩
theorem alt_sz {B : Nat} {l r : Wds} {a : Al} (hl : AllSz B l) (h : altS l = .ok a r) : (∀ p ∈ a.parts, p.code.size ≤ B) ∧ AllSz B r := by
 obtain ⟨h1, h2⟩ := parts_sz l hl
 unfold altS altEnd at h
 split at h
 · split at h
   · split at h
     · cases h
       refine ⟨fun p hp => ?_, h2.tail.tail.tail⟩
       rcases List.mem_append.1 hp with hp | hp
       · exact h1 p hp
       · rw [List.mem_singleton.1 hp]; exact pt_sz h2.tail.tail.hd
     · cases h; exact ⟨h1, h2.tail.tail⟩
   · cases h
 · cases h; exact ⟨h1, h2⟩
theorem alts_sz {B : Nat} : ∀ n (l : Wds), l.length ≤ n → ∀ zs x r, AllSz B l → (∀ a ∈ zs, ∀ p ∈ a.parts, p.code.size ≤ B) → altsS zs l = .ok x r → (∀ a ∈ x, ∀ p ∈ a.parts, p.code.size ≤ B) ∧ AllSz B r := by
 intro n
 induction n with
 | zero =>
   intro l hl zs x r hm ha h
   rw [altsS] at h
   split at h
   · cases h
   · rename_i a r' he
     have h0 := altS_le he
     obtain ⟨a1, a2⟩ := alt_sz hm he
     split at h
     · rename_i h2
       have := List.length_pos_iff.2 h2.1
       omega
     · cases h
       refine ⟨fun c hc => ?_, a2⟩
       rcases List.mem_append.1 hc with hc | hc
       · exact ha c hc
       · rw [List.mem_singleton.1 hc]; exact a1
 | succ n ih =>
   intro l hl zs x r hm ha h
   rw [altsS] at h
   split at h
   · cases h
   · rename_i a r' he
     have h0 := altS_le he
     obtain ⟨a1, a2⟩ := alt_sz hm he
     have ha' : ∀ c ∈ zs ++ [a], ∀ p ∈ c.parts, p.code.size ≤ B := fun c hc => by
      rcases List.mem_append.1 hc with hc | hc
      · exact ha c hc
      · rw [List.mem_singleton.1 hc]; exact a1
     split at h
     · rename_i h2
       have h3 := List.length_pos_iff.2 h2.1
       exact ih r'.tail (by rw [List.length_tail]; omega) _ _ _ a2.tail ha' h
     · cases h
       exact ⟨ha', a2⟩
theorem rule_sz {B : Nat} {l r : Wds} {x : Rl} (hl : AllSz B l) (h : ruleS l = .ok x r) : (∀ a ∈ x.alts, ∀ p ∈ a.parts, p.code.size ≤ B) ∧ AllSz B r := by
 unfold ruleS at h
 split at h
 · cases h
 · split at h
   · cases h
   · split at h
     · cases h
     · rename_i zs r' he
       cases h
       obtain ⟨a2, a3⟩ := alts_sz _ _ (Nat.le_refl _) _ _ _ hl.tail.tail (fun c hc => by cases hc) he
       refine ⟨a2, ?_⟩
       unfold semiS
       split
       · exact a3.tail
       · exact a3
theorem rules_sz {B : Nat} : ∀ n (l : Wds), l.length ≤ n → ∀ rs x r, AllSz B l → (∀ a ∈ rs, ∀ c ∈ a.alts, ∀ p ∈ c.parts, p.code.size ≤ B) → rulesS rs l = .ok x r → (∀ a ∈ x, ∀ c ∈ a.alts, ∀ p ∈ c.parts, p.code.size ≤ B) ∧ AllSz B r := by
 intro n
 induction n with
 | zero =>
   intro l hl rs x r hm ha h
   rw [rulesS] at h
   split at h
   · cases h
   · rename_i y r' he
     have := ruleS_lt he
     omega
 | succ n ih =>
   intro l hl rs x r hm ha h
   rw [rulesS] at h
   split at h
   · cases h
   · rename_i y r' he
     have hlt := ruleS_lt he
     obtain ⟨a1, a2⟩ := rule_sz hm he
     have ha' : ∀ c ∈ rs ++ [y], ∀ e ∈ c.alts, ∀ p ∈ e.parts, p.code.size ≤ B := fun c hc => by
      rcases List.mem_append.1 hc with hc | hc
      · exact ha c hc
      · rw [List.mem_singleton.1 hc]; exact a1
     split at h
     · cases h
       exact ⟨ha', a2⟩
     · exact ih r' (by omega) _ _ _ a2 ha' h
/-- how long the texts of a source are that was read of such words -/
theorem so_sz {B : Nat} {l r : Wds} {x : So} (hl : AllSz B l) (h : soS l = .ok x r) : x.pro.size ≤ B ∧ x.tail.size ≤ B ∧ ∀ a ∈ x.rules, ∀ c ∈ a.alts, ∀ p ∈ c.parts, p.code.size ≤ B := by
 unfold soS at h
 split at h
 · cases h
 · rename_i y r1 he
   obtain ⟨d1, d3⟩ := decls_sz B _ _ (Nat.le_refl _) _ _ _ hl (Nat.zero_le _) _ _ he
   split at h
   · cases h
   · rename_i rs r2 he2
     obtain ⟨g2, g3⟩ := rules_sz _ _ (Nat.le_refl _) _ _ _ d3 (fun c hc => by cases hc) he2
     cases h
     exact ⟨d1, g3.hd, g2⟩
/-- names and texts of a source that may be, of texts so long -/
theorem sym_sz {num lit : Bool} {x : Sm} (h : symB num lit x = true) : x.name.size ≤ 20 := by
 unfold symB isNameB at h
 split at h
 · have := of_decide_eq_true h; omega
 · have h1 := (of_decide_eq_true h).1
   have := of_decide_eq_true h1
   omega
theorem none_sz {x : Sm} (h : noneB x = true) : x.name.size ≤ 20 := by
 unfold noneB at h
 have := of_decide_eq_true h
 omega

theorem so_small {x : So} (hm : maySo x = true) (h1 : x.pro.size ≤ 1000000) (h2 : x.tail.size ≤ 1000000) (h3 : ∀ a ∈ x.rules, ∀ c ∈ a.alts, ∀ p ∈ c.parts, p.code.size ≤ 1000000) : SoSmall x := by
 unfold maySo at hm
 rw [Bool.and_eq_true, Bool.and_eq_true, Bool.and_eq_true, List.all_eq_true, List.all_eq_true] at hm
 obtain ⟨_, hd, hr, _⟩ := hm
 refine ⟨h1, h2, fun d hdm => ?_, fun r hrm => ?_⟩
 · have := hd d hdm
   unfold mayDc dcB at this
   rw [Bool.and_eq_true, List.all_eq_true, decide_eq_true_iff] at this
   obtain ⟨⟨_, _, _, _, _, h4⟩, h5⟩ := this
   refine ⟨?_, fun y hy => Nat.le_trans (sym_sz (h5 y hy)) (by decide)⟩
   rcases h4 with h4 | h4
   · omega
   · unfold isNameB at h4
     have := of_decide_eq_true h4
     omega
 · have := hr r hrm
   unfold mayRl at this
   rw [Bool.and_eq_true, Bool.and_eq_true, List.all_eq_true] at this
   obtain ⟨h4, _, h5⟩ := this
   unfold isNameB at h4
   have h6 := of_decide_eq_true h4
   refine ⟨by omega, fun a ha => ?_⟩
   have h7 := h5 a ha
   unfold mayAl at h7
   rw [Bool.and_eq_true, List.all_eq_true, Bool.or_eq_true] at h7
   refine ⟨fun p hp => ⟨?_, h3 r hrm a ha p hp⟩, ?_⟩
   · have h8 := h7.1 p hp
     unfold mayPt at h8
     split at h8
     · exact Nat.le_trans (sym_sz h8) (by decide)
     · rw [Bool.and_eq_true] at h8
       exact Nat.le_trans (none_sz h8.1) (by decide)
   · rcases h7.2 with h8 | h8
     · exact Nat.le_trans (none_sz h8) (by decide)
     · exact Nat.le_trans (sym_sz h8) (by decide)
end
end
end Go.Proofs.YtnoppoifepbchaaGreatDoor
