/- What is printed and read is the same. -/
import Derived.Test.YtnoppoifepbchaaDoorPlA
import Derived.Test.YtnoppoifepbchaaDoorPlC
import Derived.Test.YtnoppoifepbchaaDoorTxt1
namespace Go.Proofs.YtnoppoifepbchaaDoor
section
open Go.RowKit
section
set_option linter.unusedVariables false
set_option linter.unusedSimpArgs false

theorem num_back (n : Int) (h1 : 1 ≤ n) (h2 : n ≤ 50000) : ((rdNum (numT n) : Nat) : Int) = n := by
 obtain ⟨k, rfl⟩ := Int.eq_ofNat_of_zero_le (show 0 ≤ n by omega)
 have hd : (numT (k : Int)).data.toList = Lib.decDigits k := by unfold numT Lib.itoa; simp
 have e : rdNum (numT (k : Int)) = horA 0 (numT (k : Int)).data.toList := rfl
 rw [e, hd, horA_dec]
theorem may_sm (num lit : Bool) (x : Sm) : symB num lit x.bare = symB num lit x := rfl
theorem may_pt (p : Pt) : mayPt p.bare = mayPt p := rfl
theorem all_bare {α β : Type} (f : α → β) (p : β → Bool) (q : α → Bool) (h : ∀ x, p (f x) = q x) (l : List α) : (l.map f).all p = l.all q := by
 rw [List.all_map]; congr 1; funext x; exact h x
theorem map_bare {α β γ : Type} (f : α → β) (p : β → γ) (q : α → γ) (h : ∀ x, p (f x) = q x) (l : List α) : (l.map f).map p = l.map q := by
 rw [List.map_map]; congr 1; funext x; exact h x
theorem flat_bare {α β γ : Type} (f : α → β) (p : β → List γ) (q : α → List γ) (h : ∀ x, p (f x) = q x) (l : List α) : (l.map f).flatMap p = l.flatMap q := by
 rw [List.flatMap_map]; congr 1; funext x; exact h x
theorem may_al (a : Al) : mayAl a.bare = mayAl a := by
 unfold mayAl
 show ((a.parts.map Pt.bare).all mayPt && (noneB a.prec.bare || symB false true a.prec.bare)) = _
 rw [all_bare Pt.bare mayPt mayPt may_pt]; rfl
theorem may_rl (r : Rl) : mayRl r.bare = mayRl r := by
 unfold mayRl
 show (isNameB r.left && (decide ((r.alts.map Al.bare).length ≠ 0) && (r.alts.map Al.bare).all mayAl)) = _
 rw [all_bare Al.bare mayAl mayAl may_al, List.length_map]
theorem may_dc (d : Dc) : mayDc d.bare = mayDc d := by
 unfold mayDc dcB
 show (decide (1 ≤ d.kind ∧ d.kind ≤ 6 ∧ (d.syms.map Sm.bare).length ≠ 0 ∧ (d.kind = 6 → (d.syms.map Sm.bare).length = 1 ∧ d.tag.size = 0) ∧ (d.kind = 5 → d.tag.size ≠ 0) ∧ (d.tag.size = 0 ∨ isNameB d.tag = true)) && (d.syms.map Sm.bare).all (symB (d.kind == 1) (decide (d.kind < 5)))) = _
 rw [all_bare Sm.bare _ _ (may_sm _ _)]
 simp only [List.length_map]
theorem may_so (s : So) : maySo s.bare = maySo s := by
 unfold maySo
 show (!pctB s.pro && ((s.decls.map Dc.bare).all mayDc && ((s.rules.map Rl.bare).all mayRl && decide ((s.rules.map Rl.bare).length ≠ 0)))) = _
 rw [all_bare Dc.bare mayDc mayDc may_dc, all_bare Rl.bare mayRl mayRl may_rl, List.length_map]
theorem alt_bare (a : Al) : altL a.bare = altL a := by
 unfold altL
 show (a.parts.map Pt.bare).map partT ++ (if noneB a.prec.bare = true then [] else [⟨#[37, 112, 114, 101, 99]⟩, symT a.prec.bare]) = _
 rw [map_bare Pt.bare partT partT (fun _ => rfl)]; rfl
theorem bar_bare (l : List Al) : barL (l.map Al.bare) = barL l := by
 cases l with
 | nil => rfl
 | cons a l =>
   show altL a.bare ++ (l.map Al.bare).flatMap (fun b => ⟨#[124]⟩ :: altL b) = altL a ++ l.flatMap (fun b => ⟨#[124]⟩ :: altL b)
   rw [alt_bare, flat_bare Al.bare _ (fun b => ⟨#[124]⟩ :: altL b) (fun x => by simp only [alt_bare])]
theorem rule_bare (r : Rl) : ruleT r.bare = ruleT r := by
 unfold ruleT ruleTl
 show r.left.data.toList ++ tailSp ([⟨#[58]⟩] ++ barL (r.alts.map Al.bare) ++ [⟨#[59]⟩]) = _
 rw [bar_bare]
theorem decl_bare (d : Dc) : declT d.bare = declT d := by
 unfold declT declTl
 show (keyS d.kind).data.toList ++ tailSp ((if d.tag.size = 0 then [] else [⟨#[60]⟩ ++ d.tag ++ ⟨#[62]⟩]) ++ (d.syms.map Sm.bare).flatMap declSm) = _
 rw [flat_bare Sm.bare declSm declSm (fun _ => rfl)]
theorem text_bare (s : So) : soT s.bare = soT s := by
 unfold soT
 rw [may_so]
 show (if maySo s = true then proT s.pro ++ (s.decls.map Dc.bare).flatMap (fun d => declT d ++ [10]) ++ [37, 37, 10] ++ (s.rules.map Rl.bare).flatMap (fun r => ruleT r ++ [10]) ++ tailT s.tail else []) = _
 rw [flat_bare Dc.bare _ (fun d => declT d ++ [10]) (fun x => by simp only [decl_bare]), flat_bare Rl.bare _ (fun r => ruleT r ++ [10]) (fun x => by simp only [rule_bare])]
theorem eqL_bare {α β : Type} (f : α → β) (p : β → β → Bool) (q : α → α → Bool) (h : ∀ x y, p (f x) (f y) = q x y) (a b : List α) : eqL p (a.map f) (b.map f) = eqL q a b := by
 unfold eqL
 rw [List.length_map, List.length_map, List.zip_map, List.all_map]
 congr 1
 congr 1
 funext x
 exact h _ _
theorem eqL_self {α : Type} {p : α → α → Bool} (h : ∀ x, p x x = true) (l : List α) : eqL p l l = true := by
 unfold eqL
 rw [beq_self_eq_true, Bool.true_and, List.all_eq_true]
 intro x hx
 obtain ⟨i, hi⟩ := List.getElem?_of_mem hx
 rw [List.getElem?_zip_eq_some] at hi
 have : x.1 = x.2 := Option.some.inj (hi.1.symm.trans hi.2)
 rw [this]; exact h _
theorem same_al (a b : Al) : a.bare.same b.bare = a.same b := by
 unfold Al.same
 show (a.prec.bare.same b.prec.bare && eqL Pt.same (a.parts.map Pt.bare) (b.parts.map Pt.bare)) = _
 rw [eqL_bare Pt.bare Pt.same Pt.same (fun _ _ => rfl)]; rfl
theorem same_so (a b : So) : a.bare.same b.bare = a.same b := by
 unfold So.same
 show ((a.pro.toList == b.pro.toList) && ((a.tail.toList == b.tail.toList) && (eqL Dc.same (a.decls.map Dc.bare) (b.decls.map Dc.bare) && eqL Rl.same (a.rules.map Rl.bare) (b.rules.map Rl.bare)))) = _
 rw [eqL_bare Dc.bare Dc.same Dc.same (fun x y => by
   unfold Dc.same
   show ((x.kind == y.kind) && ((x.tag.toList == y.tag.toList) && eqL Sm.same (x.syms.map Sm.bare) (y.syms.map Sm.bare))) = _
   rw [eqL_bare Sm.bare Sm.same Sm.same (fun _ _ => rfl)]),
  eqL_bare Rl.bare Rl.same Rl.same (fun x y => by
   unfold Rl.same
   show ((x.left.toList == y.left.toList) && eqL Al.same (x.alts.map Al.bare) (y.alts.map Al.bare)) = _
   rw [eqL_bare Al.bare Al.same Al.same same_al])]
theorem same_self (s : So) : s.same s = true := by
 have hs : ∀ x : Sm, x.same x = true := fun x => by unfold Sm.same; simp
 have hp : ∀ x : Pt, x.same x = true := fun x => by unfold Pt.same; simp [hs]
 have ha : ∀ x : Al, x.same x = true := fun x => by unfold Al.same; rw [hs, eqL_self hp]; rfl
 have hr : ∀ x : Rl, x.same x = true := fun x => by unfold Rl.same; rw [eqL_self ha]; simp
 have hd : ∀ x : Dc, x.same x = true := fun x => by unfold Dc.same; rw [eqL_self hs]; simp
 unfold So.same; rw [eqL_self hd, eqL_self hr]; simp
theorem same_bare {a b : So} (h : a.bare = b.bare) : a.same b = true := by rw [← same_so, h]; exact same_self _
theorem eqL_map {α β : Type} (f : α → β) {p : α → α → Bool} (h : ∀ x y, p x y = true → f x = f y) : ∀ {a b : List α}, eqL p a b = true → a.map f = b.map f
 | [], [], _ => rfl
 | [], _ :: _, h2 => by simp [eqL] at h2
 | _ :: _, [], h2 => by simp [eqL] at h2
 | x :: a, y :: b, h2 => by
   unfold eqL at h2
   simp only [List.length_cons, List.zip_cons_cons, List.all_cons, Bool.and_eq_true, beq_iff_eq, Nat.add_right_cancel_iff] at h2
   rw [List.map_cons, List.map_cons, h x y h2.2.1, eqL_map f h (a := a) (b := b) (by unfold eqL; rw [Bool.and_eq_true, beq_iff_eq]; exact ⟨h2.1, h2.2.2⟩)]
theorem ba_toList {a b : ByteArray} (h : (a.toList == b.toList) = true) : a = b := by
 rw [Lib.toList_data, Lib.toList_data] at h
 exact ByteArray.ext (Array.toList_inj.1 (by simpa using h))
theorem bare_sm (x y : Sm) (h : x.same y = true) : x.bare = y.bare := by
 unfold Sm.same at h
 simp only [Bool.and_eq_true, beq_iff_eq] at h
 have h1 := ba_toList (a := x.name) (b := y.name) (by simpa using h.1)
 unfold Sm.bare
 rw [h1, h.2.1, h.2.2]
theorem bare_pt (x y : Pt) (h : x.same y = true) : x.bare = y.bare := by
 unfold Pt.same at h
 rw [Bool.and_eq_true] at h
 unfold Pt.bare
 rw [bare_sm _ _ h.2, ba_toList h.1]
theorem bare_al (x y : Al) (h : x.same y = true) : x.bare = y.bare := by
 unfold Al.same at h
 rw [Bool.and_eq_true] at h
 unfold Al.bare
 rw [bare_sm _ _ h.1, eqL_map Pt.bare bare_pt h.2]
theorem bare_rl (x y : Rl) (h : x.same y = true) : x.bare = y.bare := by
 unfold Rl.same at h
 rw [Bool.and_eq_true] at h
 unfold Rl.bare
 rw [ba_toList h.1, eqL_map Al.bare bare_al h.2]
theorem bare_dc (x y : Dc) (h : x.same y = true) : x.bare = y.bare := by
 unfold Dc.same at h
 rw [Bool.and_eq_true, Bool.and_eq_true, beq_iff_eq] at h
 unfold Dc.bare
 rw [h.1, ba_toList h.2.1, eqL_map Sm.bare bare_sm h.2.2]
theorem bare_of_same {x y : So} (h : x.same y = true) : x.bare = y.bare := by
 unfold So.same at h
 rw [Bool.and_eq_true, Bool.and_eq_true, Bool.and_eq_true] at h
 unfold So.bare
 rw [ba_toList h.1, ba_toList h.2.1, eqL_map Dc.bare bare_dc h.2.2.1, eqL_map Rl.bare bare_rl h.2.2.2]
/-- a source that may be: its text is read as it was -/
theorem text_back {s : So} (hm : maySo s = true) (hs : (⟨(soT s).toArray⟩ : ByteArray).size ≤ 4000) : ∃ y, readT ⟨(soT s).toArray⟩ = (y, 0, 0) ∧ y.bare = s.bare ∧ s.same y = true ∧ y.same s = true ∧ soT y = soT s := by
 obtain ⟨L, e, hL⟩ := words_back hm hs
 obtain ⟨x, r, h1, h2⟩ := so_back num_back s L hm hL
 refine ⟨x, ?_, h2, same_bare h2.symm, same_bare h2, by rw [← text_bare, h2, text_bare]⟩
 unfold readT readS
 rw [e]
 simp only [h1]
 rfl
/-- what was read of a text may be, and has a text -/
theorem read_may {t : ByteArray} {x : So} {p : Int} (h : readT t = (x, 0, p)) : maySo x = true ∧ soT x ≠ [] := by
 have hm : maySo x = true := by
  unfold readT readS at h
  split at h
  · rename_i he
    simp only [Prod.mk.injEq] at h
    exact absurd h.2.1 he
  · split at h
    · rename_i y r hy
      simp only [Prod.mk.injEq] at h
      rw [← h.1]
      exact so_may (wordsS_may t) hy
    · simp only [Prod.mk.injEq] at h
      exact absurd h.2.1 (by decide)
 refine ⟨hm, fun e => ?_⟩
 unfold soT at e
 rw [if_pos hm] at e
 simp at e
/-- two sources that may be have one text just if they are the same -/
theorem text_one {a b : So} (ha : maySo a = true) (hb : maySo b = true) : (soT a = soT b) ↔ a.same b = true := by
 constructor
 · intro h
   obtain ⟨L, e, hL⟩ := words_back0 ha
   obtain ⟨M, e2, hM⟩ := words_back0 hb
   rw [← h, e] at e2
   simp only [Prod.mk.injEq, and_true] at e2
   subst e2
   obtain ⟨x, r, h1, h2⟩ := so_back num_back a L ha hL
   obtain ⟨y, r2, h3, h4⟩ := so_back num_back b L hb hM
   rw [h1] at h3
   simp only [Rd.ok.injEq] at h3
   exact same_bare (by rw [← h2, ← h4, h3.1])
 · intro h
   have := bare_of_same h
   rw [← text_bare, this, text_bare]
end
end
section
open Go.RowKit
set_option linter.unusedVariables false
set_option linter.unusedSimpArgs false

theorem Tryd.infoStr : (Tryd.prog.info? 9).map (fun i => (i.zero, i.size, i.bytes)) = some (some (.string ByteArray.empty), 1, 16) := by kernel_rfl
/-- texts that a call puts together in a row of its own -/
def OwnS (base : Nat) (w : World) (v : Value) (l : List ByteArray) : Prop := w.ownsRow base 9 1 v l.length (l.map .string)
theorem strs_one (l : List ByteArray) : ∀ u ∈ l.map Value.string, u.oneCell' = true := by
 intro u hu
 obtain ⟨s, _, rfl⟩ := List.mem_map.1 hu
 rfl
theorem OwnS.nil (base : Nat) (w : World) : OwnS base w (.slice none 0 0) [] := World.ownsRow_nil _ _ _ _
theorem OwnS.below {base : Nat} {w w' : World} {v : Value} {l : List ByteArray} (h : OwnS base w v l) (hb : Below w.heap.size w w') : OwnS base w' v l := own_below h hb
theorem OwnS.new1 {base : Nat} {w : World} (y : ByteArray) (hb : base ≤ w.heap.size) : OwnS base (w.alloc (.cells #[.string y] 9)) (.slice (some ⟨w.heap.size, 0, none⟩) 1 1) [y] :=
 ⟨rfl, .inr ⟨w.heap.size, 1, _, rfl, hb, heap_alloc_new _ _, Nat.le_refl _, by unfold maxLen; omega, rfl, rfl⟩⟩
theorem OwnS.new2 {base : Nat} {w : World} (x y : ByteArray) (hb : base ≤ w.heap.size) : OwnS base (w.alloc (.cells #[.string x, .string y] 9)) (.slice (some ⟨w.heap.size, 0, none⟩) 2 2) [x, y] :=
 ⟨rfl, .inr ⟨w.heap.size, 2, _, rfl, hb, heap_alloc_new _ _, Nat.le_refl _, by unfold maxLen; omega, rfl, rfl⟩⟩
theorem OwnS.src {base : Nat} {w : World} {v : Value} {l : List ByteArray} (h : OwnS base w v l) : SrcV w v l.length (l.map .string) := by
 obtain ⟨h1, h2⟩ := h
 rcases h2 with ⟨rfl, h0⟩ | ⟨g, cap, cur, rfl, hg, hh, hn, hc, hs, ht⟩
 · exact .inl ⟨rfl, h0, by simp [List.eq_nil_of_length_eq_zero h0]⟩
 · refine .inr ⟨_, cap, rfl, fun j u hj => ?_⟩
   have hj' : j < l.length := by have := (List.getElem?_eq_some_iff.1 hj).1; simpa using this
   rw [addr_add, Nat.zero_add, cell_of_row w g j cur _ (0, 0) hh, ← hj, ← ht, List.getElem?_take, if_pos (by omega)]
   simp
theorem SrcV.below {w w' : World} {v : Value} {m : Nat} {news : List Value} (h : SrcV w v m news) (hb : Below w.heap.size w w') : SrcV w' v m news := by
 rcases h with h | ⟨ad, c, hv, hc⟩
 · exact .inl h
 · exact .inr ⟨ad, c, hv, fun j u hj => (hb.cell (World.block_lt_of_cell? _ _ (hc j u hj))).trans (hc j u hj)⟩
theorem OwnS.alloc {base : Nat} {w : World} {v : Value} {l : List ByteArray} (h : OwnS base w v l) (o : Obj) : OwnS base (w.alloc o) v l := h.below ((Below.refl _ _).alloc (Nat.le_refl _) o)
theorem src_at (w : World) (x : Value) (E : TypeId) (B : Nat) (hB : B = w.heap.size) : SrcV (w.alloc (.cells #[x] E)) (.slice (some ⟨B, 0, none⟩) 1 1) 1 [x] := by
 subst hB; exact SrcV.new w x E
theorem src_two (w : World) (x y : Value) (E : TypeId) : SrcV (w.alloc (.cells #[x, y] E)) (.slice (some ⟨w.heap.size, 0, none⟩) 2 2) 2 [x, y] := by
 refine .inr ⟨_, _, rfl, fun j u hj => ?_⟩
 match j, hj with
 | 0, hj => simp at hj; subst hj; exact cell_top w _ _ _ 0 rfl
 | 1, hj => simp at hj; subst hj; exact cell_top w _ _ _ 1 rfl
theorem OwnS.one {base : Nat} {w : World} {v : Value} {l : List ByteArray} {y : ByteArray} (h : w.ownsRow base 9 1 v (l.length + 1) (l.map Value.string ++ [.string y])) : OwnS base w v (l ++ [y]) := by
 unfold OwnS; simpa using h
theorem OwnS.two {base : Nat} {w : World} {v : Value} {l : List ByteArray} {x y : ByteArray} (h : w.ownsRow base 9 1 v (l.length + 2) (l.map Value.string ++ [.string x, .string y])) : OwnS base w v (l ++ [x, y]) := by
 unfold OwnS; simpa using h

set_option maxRecDepth 100000 in
set_option maxHeartbeats 4000000 in
theorem altWords_any (v : Value) (a : Al) (w : World) (h : AlV w v a) (hs : AlSmall a) (ht : AlTx a) (hf : a.parts.length ≤ 401) :
  Calls Tryd.prog 73 #[v] w fun e w' => (∃ v, e = .returned v ∧ OwnS w.heap.size w' v (altL a)) ∧ Below w.heap.size w w' := by
 obtain ⟨pv, rfl, h⟩ := h
 obtain ⟨a1, n, c, rfl, hn, hc, hm, hx⟩ := h.open
 have HR : Hid (altL a = a.parts.map partT ++ (if noneB a.prec = true then [] else [⟨#[37, 112, 114, 101, 99]⟩, symT a.prec])) := Lib.hid rfl
 have HN := Lib.hid (fun W => isZero_any a.prec W)
 have HT := Lib.hid (fun W (hn : noneB a.prec = false) => psymText_any a.prec W (ht.2 hn))
 have HP := Lib.hid (fun p hp => And.intro (hs.1 p hp) (ht.1 p hp))
 have hn100 : n ≤ 401 := by rw [hn.out]; exact hf
 generalize altL a = R at HR ⊢
 generalize noneB a.prec = nb at HN HR HT
 generalize symT a.prec = sT at HT HR
 obtain ⟨la, ⟨an, al, am, ap⟩, ka⟩ := a
 simp only [Sm.agg] at *
 clear h hs ht hf hc hm
 obtain ⟨i0, hi, hz0, hz1, hz2⟩ := info_parts Tryd.infoStr
 have hba := (Below.refl w.heap.size w).alloc (Nat.le_refl _) (.cells #[.slice a1 n c, .string an, .bool al, .int .i64 am, .int .i64 ap, .int .i64 ka] 42)
 have HC := Lib.hid (fun W hW => box1 (w := w) (A := #[.slice a1 n c, .string an, .bool al, .int .i64 am, .int .i64 ap, .int .i64 ka]) (T := 42) (W := W) hW)
 go_enter Tryd.func73, Tryd.ntmps73
 go_wp2_with fail
 go_loopw [9, 3] (fun i s wr => ∃ (k : Nat) (l : List ByteArray), k ≤ n ∧ i = .int .i64 k ∧ l.length ≤ k ∧ OwnS (w.heap.size + 1) wr s l ∧ Below (w.alloc (.cells #[.slice a1 n c, .string an, .bool al, .int .i64 am, .int .i64 ap, .int .i64 ka] 42)).heap.size (w.alloc (.cells #[.slice a1 n c, .string an, .bool al, .int .i64 am, .int .i64 ap, .int .i64 ka] 42)) wr ∧ Hid (l = (la.take k).map partT)) (fun i _ _ => n - (intOf i).toNat)
 case atStart => exact ⟨0, [], Nat.zero_le _, rfl, Nat.zero_le _, OwnS.nil _ _, Below.refl _ _, Lib.hid rfl⟩
 case round =>
  obtain ⟨k, l, hk, rfl, hlk, hown, hbr, hp⟩ := hrel
  have q1 := HC.out wr hbr 1 _ rfl
  have q2 := HC.out wr hbr 2 _ rfl
  have q3 := HC.out wr hbr 3 _ rfl
  have q4 := HC.out wr hbr 4 _ rfl
  have hbw := hba.trans (hbr.mono hba.size)
  have hbs := hbr.size
  rw [World.size_alloc] at hbs
  by_cases hlt : k < n
  · obtain ⟨b, o, x, rfl, ex, x0, x1, x2, x3, x4, x5⟩ := hx.out k hlt
    have hb1 := World.block_lt_of_cell? _ _ x0
    replace x0 := (hbw.cell (p := ⟨b, o + k * 6, none⟩) hb1).trans x0
    replace x1 := (hbw.cell (p := ⟨b, o + k * 6 + 1, none⟩) hb1).trans x1
    replace x2 := (hbw.cell (p := ⟨b, o + k * 6 + 2, none⟩) hb1).trans x2
    replace x3 := (hbw.cell (p := ⟨b, o + k * 6 + 3, none⟩) hb1).trans x3
    replace x4 := (hbw.cell (p := ⟨b, o + k * 6 + 4, none⟩) hb1).trans x4
    replace x5 := (hbw.cell (p := ⟨b, o + k * 6 + 5, none⟩) hb1).trans x5
    have HPx := HP.out x (mem_at ex)
    have HX : Hid (partT x = if x.code.size = 0 then symT x.sym else x.code) := Lib.hid rfl
    have HQ := Lib.hid (fun W (h : x.code.size = 0) => psymText_any x.sym W (HPx.2 h))
    have HM : Hid (l ++ [partT x] = (la.take (k + 1)).map partT) := Lib.hid (by
     obtain ⟨hk', e⟩ := List.getElem?_eq_some_iff.1 ex
     rw [List.take_succ_eq_append_getElem hk', List.map_append, ← hp.out, e]; rfl)
    generalize partT x = T at HX HM
    generalize symT x.sym = sy at HX HQ
    obtain ⟨⟨xn, xl, xm, xp⟩, xc, xk⟩ := x
    simp only [Sm.agg] at x0 x1 x2 x3 x4 x5 HX HQ
    have i1 : (k : Int) < (n : Int) := by omega
    have HBX := Lib.hid (heap_alloc_new wr (.cells #[.string xn, .bool xl, .int .i64 xm, .int .i64 xp, .string xc, .int .i64 xk] 44))
    have hbx := (Below.refl wr.heap.size wr).alloc (Nat.le_refl _) (.cells #[.string xn, .bool xl, .int .i64 xm, .int .i64 xp, .string xc, .int .i64 xk] 44)
    have hown2 := hown.below hbx
    have hrx := hbr.trans (hbx.mono hbr.size)
    clear ex hx HPx HP HN HT q1 q2 q3 q4 hbw hown hp
    by_cases hcz : xc.size = 0
    · have d1 : (!xc.toList.isEmpty) = false := by rw [str_empty hcz]; rfl
      obtain rfl : T = sy := by rw [HX.out, if_pos hcz]
      have HQ2 := Lib.hid (fun W => HQ.out W hcz)
      have d1' := str_empty hcz
      clear HX hcz HQ
      go_wp2_with (first | (go_at_call 71; refine (HQ2.out _).mono ?_; rintro e w9 ⟨rfl, hb9⟩; have hown9 := hown2.below hb9) | (at_builtin; refine wpList_append_src rfl _ _ 47 rfl (w.heap.size + 1) 9 i0 (.string ByteArray.empty) 1 16 Tryd.underlying47 hi hz0 hz1 hz2 rfl (by decide) _ _ _ rfl (hown9.alloc _) _ 1 _ rfl (SrcV.new _ (.string T) _) rfl (strs_one [T]) ?c3 ?c4 ?c5 ?_))
      case c3 => unfold maxLen; omega
      case c4 => omega
      case c5 => have hs9 := hb9.size; rw [World.size_alloc] at hs9 ⊢; omega
      have hs9 := hb9.size
      rw [World.size_alloc] at hs9
      intro v' w4 hown' hgrow
      have hz4 := ((hrx.trans (hb9.mono hrx.size)).alloc (by simp; omega) _).grown hgrow (by simp; omega) (own_base hown9 (by simp))
      go_wp2_with fail
      go_roundw
      case rel => exact ⟨k + 1, l ++ [T], by omega, by go_num, by simp; omega, OwnS.one hown', hz4, HM⟩
      case measure => simp [intOf]; omega
    · have d1 : (!xc.toList.isEmpty) = true := by rw [str_some hcz]; rfl
      have d1' := str_some hcz
      obtain rfl : T = xc := by rw [HX.out, if_neg hcz]
      clear HX hcz HQ
      go_wp2_with (first | (at_builtin; refine wpList_append_src rfl _ _ 47 rfl (w.heap.size + 1) 9 i0 (.string ByteArray.empty) 1 16 Tryd.underlying47 hi hz0 hz1 hz2 rfl (by decide) _ _ _ rfl (hown2.alloc _) _ 1 _ rfl (src_at _ (.string T) _ _ (by simp)) rfl (strs_one [T]) ?c3 ?c4 ?c5 ?_))
      case c3 => unfold maxLen; omega
      case c4 => omega
      case c5 => first | (simp; omega) | omega
      intro v' w4 hown' hgrow
      have hz4 := (hrx.alloc (by simp; omega) _).grown hgrow (by simp; omega) (own_base hown2 (by simp))
      go_wp2_with fail
      go_roundw
      case rel => exact ⟨k + 1, l ++ [T], by omega, by go_num, by simp; omega, OwnS.one hown', hz4, HM⟩
      case measure => simp [intOf]; omega
  · have e1 : la.take k = la := List.take_of_length_le (by have := hn.out; omega)
    rw [e1] at hp
    clear hx HP
    cases nb with
    | true =>
      go_wp2_with (first | (go_at_call 63; refine (HN.out _).mono ?_; rintro e w9 ⟨rfl, hb9⟩))
      go_ret
      have hR : R = l := by rw [HR.out, hp.out]; simp
      exact ⟨⟨_, rfl, by rw [hR]; exact own_weaken (OwnS.below hown hb9) (by omega)⟩, hbw.trans (hb9.mono hbw.size)⟩
    | false =>
      have HT2 := Lib.hid (fun W => HT.out W rfl)
      have hlk' : l.length ≤ 401 := by omega
      go_wp2_with (first | (go_at_call 63; refine (HN.out _).mono ?_; rintro e w9 ⟨rfl, hb9⟩; have p1 := (hb9.cell (World.block_lt_of_cell? _ _ q1)).trans q1; have p2 := (hb9.cell (World.block_lt_of_cell? _ _ q2)).trans q2; have p3 := (hb9.cell (World.block_lt_of_cell? _ _ q3)).trans q3; have p4 := (hb9.cell (World.block_lt_of_cell? _ _ q4)).trans q4) | (go_at_call 71; refine (HT2.out _).mono ?_; rintro e w8 ⟨rfl, hb8⟩; have hown8 := (hown.below hb9).below hb8) | (at_builtin; refine wpList_append_src rfl _ _ 47 rfl (w.heap.size + 1) 9 i0 (.string ByteArray.empty) 1 16 Tryd.underlying47 hi hz0 hz1 hz2 rfl (by decide) _ _ _ rfl (hown8.alloc _) _ 2 _ rfl (src_two _ (.string ⟨#[37, 112, 114, 101, 99]⟩) (.string sT) _) rfl (strs_one [⟨#[37, 112, 114, 101, 99]⟩, sT]) ?c3 ?c4 ?c5 ?_))
      case c3 => unfold maxLen; omega
      case c4 => omega
      case c5 => have hs9 := hb9.size; have hs8 := hb8.size; rw [World.size_alloc]; omega
      have hs9 := hb9.size
      have hs8 := hb8.size
      intro v' w4 hown' hgrow
      have hz4 := (((hbr.trans (hb9.mono hbr.size)).trans (hb8.mono (hbr.trans (hb9.mono hbr.size)).size)).alloc (by simp; omega) _).grown hgrow (by simp; omega) (own_base hown8 (by simp))
      go_wp2_with fail
      go_ret
      have hR : R = l ++ [⟨#[37, 112, 114, 101, 99]⟩, sT] := by rw [HR.out, hp.out]; simp
      exact ⟨⟨_, rfl, by rw [hR]; exact own_weaken (OwnS.two hown') (by omega)⟩, hba.trans (hz4.mono hba.size)⟩
end
end Go.Proofs.YtnoppoifepbchaaDoor
