/- The maker's fail and put. -/
import Derived.Test.YtkgbifbbpmdpgaaNOf1
import Derived.Outline
import Derived.Deep.DeepCutAuto
import Derived.Deep.Cut
import Derived.Deep.AppendLies
set_option linter.unusedVariables false
set_option linter.unusedSimpArgs false
namespace Go.Proofs.Ytkgbifbbpmdpgaa
section
open Go.RowKit
variable {w : World} {B M : Nat} {F S : Nat → Prop} {m : Mk}
def Goes (w : World) (B M : Nat) (F S : Nat → Prop) (m' : Mk) (r : Value) (e : Ending) (w' : World) : Prop :=
 ∃ F', e = .returned r ∧ MkV w' B M F' S m' ∧ (∀ b, F' b → F b ∨ w.heap.size ≤ b) ∧ Fr F w w'
theorem Goes.same {w' : World} {r : Value} (h : MkV w B M F S m) (hb : Below w.heap.size w w') : Goes w B M F S m r (.returned r) w' := ⟨F, rfl, h.below hb, fun b hb => .inl hb, Fr.of_below hb⟩
theorem Firm.frame {Q : World → Prop} {w w' : World} {D S : Nat → Prop} (h : Firm S w Q) (hf : Fr D w w') (hd : ∀ b, S b → ¬ D b) : Firm S w' Q := h.keep (fun b hb => hf.block b (h.1 b hb) (hd b hb))
set_option maxRecDepth 100000 in
theorem fail_any (h : MkV w B M F S m) (p : Int) (n : ByteArray) : Calls Try.prog 45 #[.pointer (some ⟨M, 0, none⟩), .int .i64 p, .string n] w (Goes w B M F S (m.fail p n) (.tuple #[])) := by
 obtain ⟨tv, pv, gv, yv, lv, ys, h1, h2, h3⟩ := h.is
 have x8 := h2.cell 8
 simp only [mkCells, List.getElem?_cons_succ, List.getElem?_cons_zero] at x8
 by_cases he : m.e = 0
 · have HK := Lib.hid h2
   have HF := Lib.hid h3
   have HE : Hid (m.fail p n = { m with e := 3, pos := p, name := n }) := Lib.hid (if_pos he)
   rw [he] at x8
   have f8 := h2.free 8
   have f9 := h2.free 9
   have f10 := h2.free 10
   have x9 := h2.cell 9
   simp only [mkCells, List.getElem?_cons_succ, List.getElem?_cons_zero] at x9
   have x10 := h2.cell 10
   simp only [mkCells, List.getElem?_cons_succ, List.getElem?_cons_zero] at x10
   clear h h2 h3
   go_enter Try.func45, Try.ntmps45
   go_wp2_with fail
   go_end0
   have hF : Fr (footS M (mkRows tv pv gv yv lv ys m)) w (((w.setCell ⟨M, 8, none⟩ (.int .i64 3)).setCell ⟨M, 9, none⟩ (.int .i64 p)).setCell ⟨M, 10, none⟩ (.string n)) := (((StW.fr_put w 8 _).trans (StW.fr_put _ 9 _) (fun b hb => .inl hb)).trans (StW.fr_put _ 10 _) (fun b hb => .inl hb))
   refine ⟨F, rfl, ?_, fun b hb => .inl hb, ⟨hF.os, hF.tape, hF.output, hF.size, fun b hb hn => hF.block b hb (fun hD => hn ((h1 b).2 hD))⟩⟩
   rw [HE.out]
   exact ⟨⟨tv, pv, gv, yv, lv, ys, h1, ((HK.out.put 8 _).put 9 _).put 10 _, HF.out.frame hF HK.out.sapart⟩⟩
 · have HE : m.fail p n = m := if_neg he
   rw [HE]
   have HH := Lib.hid h
   have hb : (m.e == 0) = false := by simpa using he
   clear h h2 h3 HE
   go_enter Try.func45, Try.ntmps45
   go_wp2_with fail
   go_end0
   exact Goes.same HH.out (Below.refl _ _)
end
section
open Go.RowKit
variable {w W w5 : World} {B M : Nat} {F S : Nat → Prop} {m : Mk} {tv pv gv yv lv y : Value} {ys : List Value}
def MkO (w : World) (B M : Nat) (S : Nat → Prop) (m : Mk) (tv pv gv yv lv : Value) (ys : List Value) : Prop :=
 StW w B M 99 (mkCells tv pv gv yv lv m) (mkRows tv pv gv yv lv ys m) S ∧ Firm S w (fun W => ∀ i p, m.prods[i]? = some p → pdR W ((ys.drop (i * 6)).take 6) p)
theorem MkO.shut (h : MkO w B M S m tv pv gv yv lv ys) : MkV w B M (footS M (mkRows tv pv gv yv lv ys m)) S m := ⟨⟨tv, pv, gv, yv, lv, ys, fun _ => Iff.rfl, h.1, h.2⟩⟩
theorem MkO.below {w' : World} (h : MkO w B M S m tv pv gv yv lv ys) (hb : Below w.heap.size w w') : MkO w' B M S m tv pv gv yv lv ys := ⟨h.1.below hb, h.2.below hb⟩
def Step (w : World) (B M : Nat) (F S : Nat → Prop) (m' : Mk) (w' : World) : Prop := ∃ F', MkV w' B M F' S m' ∧ (∀ b, F' b → F b ∨ w.heap.size ≤ b) ∧ Fr F w w'
theorem Step.refl (h : MkV w B M F S m) : Step w B M F S m w := ⟨F, h, fun _ h => .inl h, Fr.refl _ _⟩
theorem Step.below {w' : World} (h : MkV w B M F S m) (hb : Below w.heap.size w w') : Step w B M F S m w' := ⟨F, h.below hb, fun _ h => .inl h, Fr.of_below hb⟩
theorem Step.trans {F1 : Nat → Prop} {m2 : Mk} {w1 w2 : World} (h1 : ∀ b, F1 b → F b ∨ w.heap.size ≤ b) (hf : Fr F w w1) (h : Step w1 B M F1 S m2 w2) : Step w B M F S m2 w2 := by
 obtain ⟨F', a, b, c⟩ := h
 exact ⟨F', a, fun x hx => (b x hx).elim (h1 x) (fun h => .inr (Nat.le_trans hf.size h)), hf.trans c h1⟩
theorem Step.goes {r : Value} {w' : World} (h : Step w B M F S m w') : Goes w B M F S m r (.returned r) w' := by
 obtain ⟨F', a, b, c⟩ := h
 exact ⟨F', rfl, a, b, c⟩
theorem Fr.iff {D D' : Nat → Prop} {w w' : World} (h : Fr D w w') (hd : ∀ b, D' b ↔ D b) : Fr D' w w' := ⟨h.os, h.tape, h.output, h.size, fun b hb hn => h.block b hb (fun hD => hn ((hd b).2 hD))⟩
def Mk.addTok (m : Mk) (k : Tk) : Mk := { m with toks := m.toks ++ [k] }
theorem MkO.addTok {k : Tk} (h : MkO W B M S m tv pv gv yv lv ys) (hg : W.grownBy w5 tv.ownBlock) (ho : w5.ownsRow B 52 6 y (m.toks.length + 1) (m.toks.flatMap tkC ++ tkC k)) (hl : y.ownBlock = tv.ownBlock ∨ y.ownBlock = some W.heap.size) :
  Step W B M (footS M (mkRows tv pv gv yv lv ys m)) S (m.addTok k) (w5.setCell ⟨M, 0, none⟩ y) := by
 obtain ⟨h2, h3⟩ := h
 have hG := h2.grow (i := 0) (r := ⟨52, 6, tv, m.toks.length, m.toks.flatMap tkC⟩) rfl hg ho hl
 have hP := hG.put 0 y
 have hF : Fr (footS M (mkRows tv pv gv yv lv ys m)) W (w5.setCell ⟨M, 0, none⟩ y) := (StW.fr_grow (i := 0) (r := ⟨52, 6, tv, m.toks.length, m.toks.flatMap tkC⟩) rfl hg).trans (Fr.set (D := fun b => b = M) w5 ⟨M, 0, none⟩ y rfl) (fun b hb => .inl (.inl hb))
 have e1 : (m.addTok k).toks.length = m.toks.length + 1 := by simp [Mk.addTok]
 have e2 : (m.addTok k).toks.flatMap tkC = m.toks.flatMap tkC ++ tkC k := by simp [Mk.addTok]
 have eR : (mkRows tv pv gv yv lv ys m).set 0 ⟨52, 6, y, m.toks.length + 1, m.toks.flatMap tkC ++ tkC k⟩ = mkRows y pv gv yv lv ys (m.addTok k) := by
  unfold mkRows; rw [e1, e2]; rfl
 have hfo := StW.foot_grow (M := M) (w := W) (rows := mkRows tv pv gv yv lv ys m) (i := 0) (r := ⟨52, 6, tv, m.toks.length, m.toks.flatMap tkC⟩) (v' := y) (n' := m.toks.length + 1) (xs' := m.toks.flatMap tkC ++ tkC k) rfl hl
 rw [eR] at hP hfo
 exact ⟨_, MkO.shut ⟨hP, h3.frame hF h2.sapart⟩, hfo, hF⟩
def Mk.addGiven (m : Mk) (k : Bool) : Mk := { m with given := m.given ++ [k] }
theorem MkO.addGiven {k : Bool} (h : MkO W B M S m tv pv gv yv lv ys) (hg : W.grownBy w5 gv.ownBlock) (ho : w5.ownsRow B 4 1 y (m.given.length + 1) (m.given.flatMap blC ++ blC k)) (hl : y.ownBlock = gv.ownBlock ∨ y.ownBlock = some W.heap.size) :
  Step W B M (footS M (mkRows tv pv gv yv lv ys m)) S (m.addGiven k) (w5.setCell ⟨M, 5, none⟩ y) := by
 obtain ⟨h2, h3⟩ := h
 have hG := h2.grow (i := 2) (r := ⟨4, 1, gv, m.given.length, m.given.flatMap blC⟩) rfl hg ho hl
 have hP := hG.put 5 y
 have hF : Fr (footS M (mkRows tv pv gv yv lv ys m)) W (w5.setCell ⟨M, 5, none⟩ y) := (StW.fr_grow (i := 2) (r := ⟨4, 1, gv, m.given.length, m.given.flatMap blC⟩) rfl hg).trans (Fr.set (D := fun b => b = M) w5 ⟨M, 5, none⟩ y rfl) (fun b hb => .inl (.inl hb))
 have e1 : (m.addGiven k).given.length = m.given.length + 1 := by simp [Mk.addGiven]
 have e2 : (m.addGiven k).given.flatMap blC = m.given.flatMap blC ++ blC k := by simp [Mk.addGiven]
 have eR : (mkRows tv pv gv yv lv ys m).set 2 ⟨4, 1, y, m.given.length + 1, m.given.flatMap blC ++ blC k⟩ = mkRows tv pv y yv lv ys (m.addGiven k) := by
  unfold mkRows; rw [e1, e2]; rfl
 have hfo := StW.foot_grow (M := M) (w := W) (rows := mkRows tv pv gv yv lv ys m) (i := 2) (r := ⟨4, 1, gv, m.given.length, m.given.flatMap blC⟩) (v' := y) (n' := m.given.length + 1) (xs' := m.given.flatMap blC ++ blC k) rfl hl
 rw [eR] at hP hfo
 exact ⟨_, MkO.shut ⟨hP, h3.frame hF h2.sapart⟩, hfo, hF⟩
def Mk.addType (m : Mk) (k : Nn) : Mk := { m with types := m.types ++ [k] }
theorem MkO.addType {k : Nn} (h : MkO W B M S m tv pv gv yv lv ys) (hg : W.grownBy w5 yv.ownBlock) (ho : w5.ownsRow B 106 2 y (m.types.length + 1) (m.types.flatMap nnC ++ nnC k)) (hl : y.ownBlock = yv.ownBlock ∨ y.ownBlock = some W.heap.size) :
  Step W B M (footS M (mkRows tv pv gv yv lv ys m)) S (m.addType k) (w5.setCell ⟨M, 6, none⟩ y) := by
 obtain ⟨h2, h3⟩ := h
 have hG := h2.grow (i := 3) (r := ⟨106, 2, yv, m.types.length, m.types.flatMap nnC⟩) rfl hg ho hl
 have hP := hG.put 6 y
 have hF : Fr (footS M (mkRows tv pv gv yv lv ys m)) W (w5.setCell ⟨M, 6, none⟩ y) := (StW.fr_grow (i := 3) (r := ⟨106, 2, yv, m.types.length, m.types.flatMap nnC⟩) rfl hg).trans (Fr.set (D := fun b => b = M) w5 ⟨M, 6, none⟩ y rfl) (fun b hb => .inl (.inl hb))
 have e1 : (m.addType k).types.length = m.types.length + 1 := by simp [Mk.addType]
 have e2 : (m.addType k).types.flatMap nnC = m.types.flatMap nnC ++ nnC k := by simp [Mk.addType]
 have eR : (mkRows tv pv gv yv lv ys m).set 3 ⟨106, 2, y, m.types.length + 1, m.types.flatMap nnC ++ nnC k⟩ = mkRows tv pv gv y lv ys (m.addType k) := by
  unfold mkRows; rw [e1, e2]; rfl
 have hfo := StW.foot_grow (M := M) (w := W) (rows := mkRows tv pv gv yv lv ys m) (i := 3) (r := ⟨106, 2, yv, m.types.length, m.types.flatMap nnC⟩) (v' := y) (n' := m.types.length + 1) (xs' := m.types.flatMap nnC ++ nnC k) rfl hl
 rw [eR] at hP hfo
 exact ⟨_, MkO.shut ⟨hP, h3.frame hF h2.sapart⟩, hfo, hF⟩
def Mk.addLeft (m : Mk) (k : ByteArray) : Mk := { m with lefts := m.lefts ++ [k] }
theorem MkO.addLeft {k : ByteArray} (h : MkO W B M S m tv pv gv yv lv ys) (hg : W.grownBy w5 lv.ownBlock) (ho : w5.ownsRow B 9 1 y (m.lefts.length + 1) (m.lefts.flatMap stC ++ stC k)) (hl : y.ownBlock = lv.ownBlock ∨ y.ownBlock = some W.heap.size) :
  Step W B M (footS M (mkRows tv pv gv yv lv ys m)) S (m.addLeft k) (w5.setCell ⟨M, 7, none⟩ y) := by
 obtain ⟨h2, h3⟩ := h
 have hG := h2.grow (i := 4) (r := ⟨9, 1, lv, m.lefts.length, m.lefts.flatMap stC⟩) rfl hg ho hl
 have hP := hG.put 7 y
 have hF : Fr (footS M (mkRows tv pv gv yv lv ys m)) W (w5.setCell ⟨M, 7, none⟩ y) := (StW.fr_grow (i := 4) (r := ⟨9, 1, lv, m.lefts.length, m.lefts.flatMap stC⟩) rfl hg).trans (Fr.set (D := fun b => b = M) w5 ⟨M, 7, none⟩ y rfl) (fun b hb => .inl (.inl hb))
 have e1 : (m.addLeft k).lefts.length = m.lefts.length + 1 := by simp [Mk.addLeft]
 have e2 : (m.addLeft k).lefts.flatMap stC = m.lefts.flatMap stC ++ stC k := by simp [Mk.addLeft]
 have eR : (mkRows tv pv gv yv lv ys m).set 4 ⟨9, 1, y, m.lefts.length + 1, m.lefts.flatMap stC ++ stC k⟩ = mkRows tv pv gv yv y ys (m.addLeft k) := by
  unfold mkRows; rw [e1, e2]; rfl
 have hfo := StW.foot_grow (M := M) (w := W) (rows := mkRows tv pv gv yv lv ys m) (i := 4) (r := ⟨9, 1, lv, m.lefts.length, m.lefts.flatMap stC⟩) (v' := y) (n' := m.lefts.length + 1) (xs' := m.lefts.flatMap stC ++ stC k) rfl hl
 rw [eR] at hP hfo
 exact ⟨_, MkO.shut ⟨hP, h3.frame hF h2.sapart⟩, hfo, hF⟩
def Mk.addPd (m : Mk) (k : Pd) : Mk := { m with prods := m.prods ++ [k] }
theorem MkO.addPd {k : Pd} {cs : List Value} {S' : Nat → Prop} (h : MkO W B M S m tv pv gv yv lv ys) (hg : W.grownBy w5 pv.ownBlock) (ho : w5.ownsRow B 87 6 y (m.prods.length + 1) (ys ++ cs)) (hl : y.ownBlock = pv.ownBlock ∨ y.ownBlock = some W.heap.size)
  (hc : cs.length = 6) (hx : Firm S' W (fun V => pdR V cs k)) (hS : ∀ b, S' b → B ≤ b ∧ ¬ footS M (mkRows tv pv gv yv lv ys m) b) :
  ∃ F', MkV (w5.setCell ⟨M, 2, none⟩ y) B M F' (fun b => S b ∨ S' b) (m.addPd k) ∧ (∀ b, F' b → footS M (mkRows tv pv gv yv lv ys m) b ∨ W.heap.size ≤ b) ∧ Fr (footS M (mkRows tv pv gv yv lv ys m)) W (w5.setCell ⟨M, 2, none⟩ y) := by
 obtain ⟨h2, h3⟩ := h
 have hW : StW W B M 99 (mkCells tv pv gv yv lv m) (mkRows tv pv gv yv lv ys m) (fun b => S b ∨ S' b) := h2.widen (fun b hb => hb.elim (fun hb => ⟨(h2.low b hb).1, (h2.low b hb).2.1, h2.sapart b hb⟩) (fun hb => ⟨(hS b hb).1, hx.1 b hb, (hS b hb).2⟩))
 have hG := hW.grow (i := 1) (r := ⟨87, 6, pv, m.prods.length, ys⟩) rfl hg ho hl
 have hP := hG.put 2 y
 have hF : Fr (footS M (mkRows tv pv gv yv lv ys m)) W (w5.setCell ⟨M, 2, none⟩ y) := (StW.fr_grow (i := 1) (r := ⟨87, 6, pv, m.prods.length, ys⟩) rfl hg).trans (Fr.set (D := fun b => b = M) w5 ⟨M, 2, none⟩ y rfl) (fun b hb => .inl (.inl hb))
 have e1 : (m.addPd k).prods.length = m.prods.length + 1 := by simp [Mk.addPd]
 have eR : (mkRows tv pv gv yv lv ys m).set 1 ⟨87, 6, y, m.prods.length + 1, ys ++ cs⟩ = mkRows tv y gv yv lv (ys ++ cs) (m.addPd k) := by
  unfold mkRows; rw [e1]; rfl
 have hfo := StW.foot_grow (M := M) (w := W) (rows := mkRows tv pv gv yv lv ys m) (i := 1) (r := ⟨87, 6, pv, m.prods.length, ys⟩) (v' := y) (n' := m.prods.length + 1) (xs' := ys ++ cs) rfl hl
 rw [eR] at hP hfo
 have hlen : ys.length = m.prods.length * 6 := (h2.own ⟨87, 6, pv, m.prods.length, ys⟩ (by simp [mkRows])).1
 have hfirm : Firm (fun b => S b ∨ S' b) W (fun V => ∀ i p, (m.addPd k).prods[i]? = some p → pdR V (((ys ++ cs).drop (i * 6)).take 6) p) := by
  refine Firm.imp (h3.and hx) ?_
  rintro w2 ⟨q1, q2⟩ i p hp
  rcases flat_push hlen hc i p hp with ⟨a, b⟩ | ⟨rfl, b⟩
  · rw [b]; exact q1 i p a
  · rw [b]; exact q2
 exact ⟨_, MkO.shut ⟨hP, hfirm.frame hF hW.sapart⟩, hfo, hF⟩
end
end Go.Proofs.Ytkgbifbbpmdpgaa
