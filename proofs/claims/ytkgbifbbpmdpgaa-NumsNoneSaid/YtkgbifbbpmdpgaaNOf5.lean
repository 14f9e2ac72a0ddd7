/- The maker's symbol. -/
import Derived.Test.YtkgbifbbpmdpgaaNOf4
set_option linter.unusedVariables false
set_option linter.unusedSimpArgs false
namespace Go.Proofs.Ytkgbifbbpmdpgaa
section
open Go.RowKit
variable {w W : World} {B M : Nat} {F S : Nat → Prop} {m : Mk}
theorem Mk.left_ge (m : Mk) (n : ByteArray) : m.left n = -1 ∨ ∃ k : Nat, m.left n = k ∧ k < m.lefts.length := by
 unfold Mk.left
 rcases firstN_lt (lftP m.lefts n) m.lefts.length 0 with e | ⟨k, e, _, h, _⟩
 · exact .inl e
 · exact .inr ⟨k, e, h⟩
theorem Goes.from {w w1 : World} {m' : Mk} {r : Value} {e : Ending} {w' : World} (hb : Below w.heap.size w w1) (h : Goes w1 B M F S m' r e w') : Goes w B M F S m' r e w' := by
 obtain ⟨F', a, b, c, d⟩ := h
 exact ⟨F', a, b, fun x hx => (c x hx).imp id (fun h => Nat.le_trans hb.size h), (Fr.of_below hb).trans d (fun x hx => .inl hx)⟩
set_option maxRecDepth 100000 in
set_option maxHeartbeats 4000000 in
theorem symbol_any (h : MkV w B M F S m) (x : Sm) (hx : x.lit = true → 1 ≤ x.name.size) (hn : m.toks.length ≤ 900000) (hl : m.given.length = m.toks.length) (hlf : m.lefts.length ≤ 1000000) :
  Calls Try.prog 59 #[.pointer (some ⟨M, 0, none⟩), x.agg] w (Goes w B M F S (m.symbol x).1 (.int .i64 (m.symbol x).2)) := by
 obtain ⟨xn, xl, xm, xp⟩ := x
 unfold Sm.agg
 simp only at hx ⊢
 have hb1 := (Below.refl w.heap.size w).alloc (Nat.le_refl _) (.cells #[.string xn, .bool xl, .int .i64 xm, .int .i64 xp] 68)
 have hX1 := heap_alloc_new w (.cells #[.string xn, .bool xl, .int .i64 xm, .int .i64 xp] 68)
 have H1 := Lib.hid (h.below hb1)
 have hS1 : m.symbol ⟨xn, xl, xm, xp⟩ = (if xl = true then m.put ⟨xn, xl, xm, xp⟩ else if 0 ≤ m.left xn then (m, 1001 + m.left xn) else if m.tok ⟨xn, xl, xm, xp⟩ < 0 then (m.fail xp xn, 0) else (m, m.tok ⟨xn, xl, xm, xp⟩)) := rfl
 generalize hSS : m.symbol ⟨xn, xl, xm, xp⟩ = SS at hS1
 have HSS := Lib.hid hSS
 clear hSS
 have x0 := cell_of_row _ _ 0 _ _ _ hX1
 have x1 := cell_of_row _ _ 1 _ _ _ hX1
 have x2 := cell_of_row _ _ 2 _ _ _ hX1
 have x3 := cell_of_row _ _ 3 _ _ _ hX1
 cases xl with
 | true =>
   have HP := Lib.hid (put_any H1.out ⟨xn, true, xm, xp⟩ hx (by omega) (by omega))
   unfold Sm.agg at HP
   simp only at HP
   rw [if_pos rfl] at hS1
   rw [← hS1] at HP
   clear h hX1 hS1 hn hl hlf
   go_enter Try.func59, Try.ntmps59
   go_wp2_with (first | (go_at_call 57; refine HP.out.mono ?_; rintro e w2 ⟨F2, rfl, hM2, hd2, hf2⟩))
   go_ret
   exact Goes.from hb1 ⟨F2, rfl, hM2, hd2, hf2⟩
 | false =>
   have HL := Lib.hid (left_any H1.out xn)
   have hlg := m.left_ge xn
   have htg := m.tok_ge ⟨xn, false, xm, xp⟩
   rw [if_neg (by decide)] at hS1
   generalize m.left xn = L at hS1 HL hlg
   have HX := Lib.hid (fun V (hV : Below _ _ V) => (Below.block hV w.heap.size (show w.heap.size < (w.alloc (.cells #[.string xn, .bool false, .int .i64 xm, .int .i64 xp] 68)).heap.size by simp)).trans hX1)
   clear h hX1 hn hl
   have hz : (w.alloc (.cells #[.string xn, .bool false, .int .i64 xm, .int .i64 xp] 68)).heap.size = w.heap.size + 1 := World.size_alloc _ _
   go_enter Try.func59, Try.ntmps59
   go_upto_region 4 with (first | (go_at_call 47; refine HL.out.mono ?_; rintro e w2 ⟨rfl, hb2⟩))
   have H2 := Lib.hid (H1.out.below hb2)
   have hX2 := HX.out _ hb2
   have hb02 := hb1.trans (hb2.mono hb1.size)
   clear x0 x1 x2 x3 HL H1 HX
   rcases hlg with rfl | ⟨k, rfl, hk⟩
   · rw [if_neg (by omega)] at hS1
     have HT := Lib.hid (tok_any H2.out ⟨xn, false, xm, xp⟩)
     unfold Sm.agg at HT
     simp only at HT
     generalize m.tok ⟨xn, false, xm, xp⟩ = T at hS1 HT htg
     have x0 := cell_of_row _ _ 0 _ _ _ hX2
     have x1 := cell_of_row _ _ 1 _ _ _ hX2
     have x2 := cell_of_row _ _ 2 _ _ _ hX2
     have x3 := cell_of_row _ _ 3 _ _ _ hX2
     go_upto_region 7 with (first | (go_at_call 46; refine HT.out.mono ?_; rintro e w3 ⟨rfl, hb3⟩))
     have H3 := Lib.hid (H2.out.below hb3)
     have hX3 := (hb3.block w.heap.size (Array.getElem?_eq_some_iff.1 hX2).1).trans hX2
     have hb03 := hb02.trans (hb3.mono hb02.size)
     clear x0 x1 x2 x3 HT H2
     have x0 := cell_of_row _ _ 0 _ _ _ hX3
     have x3 := cell_of_row _ _ 3 _ _ _ hX3
     by_cases ht : T < 0
     · rw [if_pos ht] at hS1
       subst hS1
       have HFl := Lib.hid (fail_any H3.out xp xn)
       go_wp2_with (first | (go_at_call 45; refine HFl.out.mono ?_; rintro e w4 ⟨F4, rfl, hM4, hd4, hf4⟩))
       go_ret
       exact Goes.from hb03 ⟨F4, rfl, hM4, hd4, hf4⟩
     · rw [if_neg ht] at hS1
       subst hS1
       go_wp2_with fail
       go_ret
       exact Goes.same' H3.out hb03
   · rw [if_pos (by omega)] at hS1
     subst hS1
     go_wp2_with fail
     go_ret
     exact Goes.same' H2.out hb02
end
section
open Go.RowKit
def inC (x : Int) : List Value := [.int .i64 x]
theorem inC_flat (l : List Int) : l.flatMap inC = l.map (Value.int .i64) := by
 induction l with
 | nil => rfl
 | cons x l ih => simp only [List.flatMap_cons, List.map_cons, ih]; rfl
def pdCells (left : Int) (rv : Value) (prec : Int) (code : ByteArray) (av : Value) (pos : Int) : List Value := [.int .i64 left, rv, .int .i64 prec, .string code, av, .int .i64 pos]
def pdRows (rv : Value) (right : List Int) : List Rw := [⟨3, 1, rv, right.length, right.flatMap inC⟩]
def PV (w : World) (B P : Nat) (left : Int) (rv : Value) (right : List Int) (prec : Int) (code : ByteArray) (av : Value) (pos : Int) : Prop :=
 StW w B P 87 (pdCells left rv prec code av pos) (pdRows rv right) (fun _ => False)
def pFoot (P : Nat) (rv : Value) (b : Nat) : Prop := b = P ∨ rv.ownBlock = some b
section
variable {w W w5 w' : World} {B P : Nat} {left prec pos : Int} {rv av y : Value} {right : List Int} {code : ByteArray}
theorem pfoot_iff (P : Nat) (rv : Value) (right : List Int) (b : Nat) : footS P (pdRows rv right) b ↔ pFoot P rv b := by
 unfold footS pdRows pFoot; simp
theorem PV.lt (h : PV w B P left rv right prec code av pos) : ∀ b, pFoot P rv b → B ≤ b ∧ b < w.heap.size := fun b hb => StW.lt h b ((pfoot_iff ..).2 hb)
theorem PV.below (h : PV w B P left rv right prec code av pos) (hb : Below w.heap.size w w') : PV w' B P left rv right prec code av pos := StW.below h hb
theorem PV.frame {D : Nat → Prop} (h : PV w B P left rv right prec code av pos) (hf : Fr D w w') (hd : ∀ b, D b → ¬ pFoot P rv b) : PV w' B P left rv right prec code av pos := StW.frame h hf (fun b hb hF => hd b hb ((pfoot_iff ..).1 hF))
theorem PV.own (h : PV w B P left rv right prec code av pos) : w.ownsRow B 3 1 rv right.length (right.map (Value.int .i64)) := by
 have := StW.own h ⟨3, 1, rv, right.length, right.flatMap inC⟩ (by simp [pdRows])
 rw [← inC_flat]; exact this
theorem PV.ints (h : PV w B P left rv right prec code av pos) : IntsV w rv right := by
 have := StW.own h ⟨3, 1, rv, right.length, right.flatMap inC⟩ (by simp [pdRows])
 exact ListV.ints (own_list (f := inC) (fun _ => rfl) (by omega) this)
theorem PV.push {x : Int} (h : PV W B P left rv right prec code av pos) (hg : W.grownBy w5 rv.ownBlock) (ho : w5.ownsRow B 3 1 y (right.length + 1) (right.map (Value.int .i64) ++ [.int .i64 x])) (hl : y.ownBlock = rv.ownBlock ∨ y.ownBlock = some W.heap.size) :
  PV (w5.setCell ⟨P, 1, none⟩ y) B P left y (right ++ [x]) prec code av pos ∧ (∀ b, pFoot P y b → pFoot P rv b ∨ b = W.heap.size) ∧ Fr (pFoot P rv) W (w5.setCell ⟨P, 1, none⟩ y) := by
 have ho2 : w5.ownsRow B 3 1 y (right.length + 1) (right.flatMap inC ++ [.int .i64 x]) := by rw [inC_flat]; exact ho
 have hG := StW.grow (i := 0) (r := ⟨3, 1, rv, right.length, right.flatMap inC⟩) h rfl hg ho2 hl
 have hP := hG.put 1 y
 have eR : (pdRows rv right).set 0 ⟨3, 1, y, right.length + 1, right.flatMap inC ++ [.int .i64 x]⟩ = pdRows y (right ++ [x]) := by
  unfold pdRows
  rw [List.length_append, List.flatMap_append]; rfl
 rw [eR] at hP
 refine ⟨hP, fun b hb => ?_, ?_⟩
 · rcases hb with rfl | hb
   · exact .inl (.inl rfl)
   · rcases hl with e | e
     · exact .inl (.inr (by rw [← e]; exact hb))
     · rw [e] at hb; cases hb; exact .inr rfl
 · exact ((Fr.grown (D := pFoot P rv) hg (fun b e => .inr e)).trans (Fr.set (D := fun b => b = P) w5 ⟨P, 1, none⟩ y rfl) (fun b hb => .inl (.inl hb)))
theorem PV.setPrec (h : PV w B P left rv right prec code av pos) (q : Int) : PV (w.setCell ⟨P, 2, none⟩ (.int .i64 q)) B P left rv right q code av pos ∧ Fr (pFoot P rv) w (w.setCell ⟨P, 2, none⟩ (.int .i64 q)) := ⟨StW.put h 2 _, Fr.set w _ _ (.inl rfl)⟩
theorem PV.setArgs (h : PV w B P left rv right prec code av pos) (u : Value) : PV (w.setCell ⟨P, 4, none⟩ u) B P left rv right prec code u pos ∧ Fr (pFoot P rv) w (w.setCell ⟨P, 4, none⟩ u) := ⟨StW.put h 4 _, Fr.set w _ _ (.inl rfl)⟩
theorem PV.setCode (h : PV w B P left rv right prec code av pos) (c : ByteArray) (q : Int) : PV ((w.setCell ⟨P, 3, none⟩ (.string c)).setCell ⟨P, 5, none⟩ (.int .i64 q)) B P left rv right prec c av q ∧ Fr (pFoot P rv) w ((w.setCell ⟨P, 3, none⟩ (.string c)).setCell ⟨P, 5, none⟩ (.int .i64 q)) :=
 ⟨StW.put (StW.put h 3 (.string c)) 5 (.int .i64 q), (Fr.set (D := pFoot P rv) w ⟨P, 3, none⟩ _ (.inl rfl)).trans (Fr.set (D := fun b => b = P) _ ⟨P, 5, none⟩ _ rfl) (fun b hb => .inl (.inl hb))⟩
theorem PV.new (w : World) (hB : B ≤ w.heap.size) : PV (w.alloc (.cells #[.int .i64 left, .slice none 0 0, .int .i64 prec, .string code, av, .int .i64 pos] 87)) B w.heap.size left (.slice none 0 0) [] prec code av pos := by
 refine ⟨heap_alloc_new w _, hB, fun r hr => ?_, fun r hr => ?_, fun i j r r' hij h1 h2 b e => ?_, fun b h => h.elim, fun b h => h.elim⟩
 · simp [pdRows] at hr; subst hr; exact World.ownsRow_nil _ _ _ _
 · simp [pdRows] at hr; subst hr; exact fun e => by cases e
 · match i, h1 with
   | 0, h1 => simp [pdRows] at h1; subst h1; cases e
   | i + 1, h1 => simp [pdRows] at h1
end
theorem set6 {w : World} {b : Nat} {T : TypeId} {c0 c1 c2 c3 c4 c5 : Value} (h : w.heap[b]? = some (.cells #[c0, c1, c2, c3, c4, c5] T (0, 0))) (u0 u1 u2 u3 u4 u5 : Value) :
  ((((((w.setCell ⟨b, 0, none⟩ u0).setCell ⟨b, 1, none⟩ u1).setCell ⟨b, 2, none⟩ u2).setCell ⟨b, 3, none⟩ u3).setCell ⟨b, 4, none⟩ u4).setCell ⟨b, 5, none⟩ u5).heap[b]? = some (.cells #[u0, u1, u2, u3, u4, u5] T (0, 0)) ∧
  Fr (fun x => x = b) w ((((((w.setCell ⟨b, 0, none⟩ u0).setCell ⟨b, 1, none⟩ u1).setCell ⟨b, 2, none⟩ u2).setCell ⟨b, 3, none⟩ u3).setCell ⟨b, 4, none⟩ u4).setCell ⟨b, 5, none⟩ u5) := by
 have s := fun (X : World) (j : Nat) (u : Value) => Fr.set (D := fun x => x = b) X ⟨b, j, none⟩ u rfl
 exact ⟨block_setCell (j := 5) (u := u5) (block_setCell (j := 4) (u := u4) (block_setCell (j := 3) (u := u3) (block_setCell (j := 2) (u := u2) (block_setCell (j := 1) (u := u1) (block_setCell (j := 0) (u := u0) h))))),
  (((((s _ 0 u0).trans (s _ 1 u1) (fun _ h => .inl h)).trans (s _ 2 u2) (fun _ h => .inl h)).trans (s _ 3 u3) (fun _ h => .inl h)).trans (s _ 4 u4) (fun _ h => .inl h)).trans (s _ 5 u5) (fun _ h => .inl h)⟩
theorem PV.of_box {w : World} {B P : Nat} {left prec pos : Int} {code : ByteArray} {av : Value} (h : w.heap[P]? = some (.cells #[.int .i64 left, .slice none 0 0, .int .i64 prec, .string code, av, .int .i64 pos] 87 (0, 0))) (hB : B ≤ P) : PV w B P left (.slice none 0 0) [] prec code av pos := by
 refine ⟨h, hB, fun r hr => ?_, fun r hr => ?_, fun i j r r' hij h1 h2 b e => ?_, fun b h => h.elim, fun b h => h.elim⟩
 · simp [pdRows] at hr; subst hr; exact World.ownsRow_nil _ _ _ _
 · simp [pdRows] at hr; subst hr; exact fun e => by cases e
 · match i, h1 with
   | 0, h1 => simp [pdRows] at h1; subst h1; cases e
   | i + 1, h1 => simp [pdRows] at h1
structure AltM (w0 w : World) (B M P : Nat) (F S F1 S1 : Nat → Prop) (s : Au) (left prec : Int) (rv : Value) (oA : Obj) : Prop where
 mak : MkV w B M F1 S1 s.m
 pd : PV w B P left rv s.right prec s.code (.slice none 0 0) s.pos
 dis : ∀ b, pFoot P rv b → ¬ F1 b ∧ ¬ S1 b ∧ w0.heap.size < b
 flt : ∀ b, F b ∨ S b → b < w0.heap.size
 fnew : ∀ b, F1 b → F b ∨ w0.heap.size < b
 snew : ∀ b, S1 b → S b ∨ w0.heap.size < b
 fr : Fr F w0 w
 row : w.heap[w0.heap.size]? = some oA
section
variable {w0 w w1 w5 : World} {B M P : Nat} {F S F1 S1 F9 : Nat → Prop} {s : Au} {left prec : Int} {rv y : Value} {oA : Obj} {m' : Mk}
theorem AltM.lt0 (h : AltM w0 w B M P F S F1 S1 s left prec rv oA) : w0.heap.size < w.heap.size := (Array.getElem?_eq_some_iff.1 h.row).1
theorem AltM.below (h : AltM w0 w B M P F S F1 S1 s left prec rv oA) (hb : Below w.heap.size w w1) : AltM w0 w1 B M P F S F1 S1 s left prec rv oA :=
 ⟨h.mak.below hb, h.pd.below hb, h.dis, h.flt, h.fnew, h.snew, h.fr.trans (Fr.of_below (D := F) hb) (fun b hb => .inl hb), (hb.block _ h.lt0).trans h.row⟩
theorem AltM.goes (h : AltM w0 w B M P F S F1 S1 s left prec rv oA) (hm : MkV w1 B M F9 S1 m') (hd : ∀ b, F9 b → F1 b ∨ w.heap.size ≤ b) (hf : Fr F1 w w1) : AltM w0 w1 B M P F S F9 S1 { s with m := m' } left prec rv oA := by
 have h0 := h.lt0
 refine ⟨hm, h.pd.frame hf (fun b hb hp => (h.dis b hp).1 hb), fun b hb => ⟨fun hF => ?_, (h.dis b hb).2.1, (h.dis b hb).2.2⟩, h.flt, fun b hb => (hd b hb).elim (h.fnew b) (fun h => .inr (by omega)), h.snew, h.fr.trans hf (fun b hb => (h.fnew b hb).imp id (fun h => by omega)), (hf.block _ h0 (fun hF => (h.fnew _ hF).elim (fun h2 => by have := h.flt _ (.inl h2); omega) (fun h2 => by omega))).trans h.row⟩
 rcases hd b hF with h1 | h1
 · exact (h.dis b hb).1 h1
 · have := (h.pd.lt b hb).2; omega
theorem AltM.push {x : Int} (h : AltM w0 w B M P F S F1 S1 s left prec rv oA) (hg : w.grownBy w5 rv.ownBlock) (ho : w5.ownsRow B 3 1 y (s.right.length + 1) (s.right.map (Value.int .i64) ++ [.int .i64 x])) (hl : y.ownBlock = rv.ownBlock ∨ y.ownBlock = some w.heap.size) :
  AltM w0 (w5.setCell ⟨P, 1, none⟩ y) B M P F S F1 S1 { s with right := s.right ++ [x] } left prec y oA := by
 have h0 := h.lt0
 obtain ⟨hp, hd, hf⟩ := h.pd.push hg ho hl
 have hF := h.mak.lt
 refine ⟨h.mak.frame hf (fun b hb => ⟨(h.dis b hb).1, (h.dis b hb).2.1⟩), hp, fun b hb => ?_, h.flt, h.fnew, h.snew, h.fr.trans hf (fun b hb => .inr (Nat.le_of_lt (h.dis b hb).2.2)), (hf.block _ h0 (fun hb => Nat.lt_irrefl _ (h.dis _ hb).2.2)).trans h.row⟩
 rcases hd b hb with h1 | rfl
 · exact h.dis b h1
 · exact ⟨fun h2 => by have := (hF _ (.inl h2)).2; omega, fun h2 => by have := (hF _ (.inr h2)).2; omega, h0⟩
theorem AltM.act (h : AltM w0 w B M P F S F1 S1 s left prec rv oA) (c : ByteArray) (q : Int) : AltM w0 ((w.setCell ⟨P, 3, none⟩ (.string c)).setCell ⟨P, 5, none⟩ (.int .i64 q)) B M P F S F1 S1 { s with code := c, pos := q } left prec rv oA := by
 have h0 := h.lt0
 obtain ⟨hp, hf⟩ := h.pd.setCode c q
 exact ⟨h.mak.frame hf (fun b hb => ⟨(h.dis b hb).1, (h.dis b hb).2.1⟩), hp, h.dis, h.flt, h.fnew, h.snew, h.fr.trans hf (fun b hb => .inr (Nat.le_of_lt (h.dis b hb).2.2)), (hf.block _ h0 (fun hb => Nat.lt_irrefl _ (h.dis _ hb).2.2)).trans h.row⟩
end
end
end Go.Proofs.Ytkgbifbbpmdpgaa
