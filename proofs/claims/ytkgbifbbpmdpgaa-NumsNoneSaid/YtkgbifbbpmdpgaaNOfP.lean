/- What the document's Of makes of a source, in plain words. Of no program. -/
import Derived.Test.YtkgbifbbpmdpgaaNBox
import Derived.Test.YtkgbifbbpmdpgaaNStW
set_option linter.unusedVariables false
set_option linter.unusedSimpArgs false
namespace Go.Proofs.Ytkgbifbbpmdpgaa
section
structure Tk where
 name : ByteArray
 lit : Bool
 num : Int
 level : Int
 assoc : Int
 tag : ByteArray
structure Nn where
 name : ByteArray
 tag : ByteArray
structure Pd where
 left : Int
 right : List Int
 prec : Int
 code : ByteArray
 args : List Int
 pos : Int
structure Gm where
 toks : List Tk
 nons : List Nn
 prods : List Pd
 pro : ByteArray
 tail : ByteArray
structure Mk where
 toks : List Tk
 prods : List Pd
 given : List Bool
 types : List Nn
 lefts : List ByteArray
 e : Int
 pos : Int
 name : ByteArray
 level : Int
 inner : Int
def noTk : Tk := ⟨⟨#[]⟩, false, 0, 0, 0, ⟨#[]⟩⟩
def noNn : Nn := ⟨⟨#[]⟩, ⟨#[]⟩⟩
def noPd : Pd := ⟨0, [], 0, ⟨#[]⟩, [], 0⟩
def eqB (a b : ByteArray) : Bool := a.toList == b.toList
def firstF (p : Nat → Bool) : Nat → Nat → Int
 | 0, _ => -1
 | f + 1, i => if p i then i else firstF p f (i + 1)
def firstN (p : Nat → Bool) (n i : Nat) : Int := firstF p (n - i) i
theorem firstN_out (p : Nat → Bool) {n i : Nat} (h : n ≤ i) : firstN p n i = -1 := by unfold firstN; rw [show n - i = 0 by omega]; rfl
theorem firstN_hit (p : Nat → Bool) {n i : Nat} (h : i < n) (hp : p i = true) : firstN p n i = i := by unfold firstN; rw [show n - i = (n - i - 1) + 1 by omega]; simp [firstF, hp]
theorem firstN_miss (p : Nat → Bool) {n i : Nat} (h : i < n) (hp : p i = false) : firstN p n i = firstN p n (i + 1) := by
 unfold firstN; rw [show n - i = (n - (i + 1)) + 1 by omega]; simp [firstF, hp]
theorem firstF_lt (p : Nat → Bool) : ∀ f i, firstF p f i = -1 ∨ ∃ k : Nat, firstF p f i = k ∧ i ≤ k ∧ k < i + f ∧ p k = true
 | 0, i => .inl rfl
 | f + 1, i => by
   unfold firstF
   split
   · rename_i h; exact .inr ⟨i, rfl, Nat.le_refl _, by omega, h⟩
   · rcases firstF_lt p f (i + 1) with h | ⟨k, h1, h2, h3, h4⟩
     · exact .inl h
     · exact .inr ⟨k, h1, by omega, by omega, h4⟩
theorem firstN_lt (p : Nat → Bool) (n i : Nat) : firstN p n i = -1 ∨ ∃ k : Nat, firstN p n i = k ∧ i ≤ k ∧ k < n ∧ p k = true := by
 unfold firstN
 rcases firstF_lt p (n - i) i with h | ⟨k, h1, h2, h3, h4⟩
 · exact .inl h
 · exact .inr ⟨k, h1, h2, by omega, h4⟩
def tokP (ts : List Tk) (x : Sm) (i : Nat) : Bool := eqB (ts.getD i noTk).name x.name && ((ts.getD i noTk).lit == x.lit && !(i == 2))
def Mk.tok (m : Mk) (x : Sm) : Int := firstN (tokP m.toks x) m.toks.length 1
def ownP (ts : List Tk) (n : Int) (i : Nat) : Bool := (ts.getD i noTk).num == n
def Mk.owner (m : Mk) (n : Int) : Int := firstN (ownP m.toks n) m.toks.length 3
def typP (ts : List Nn) (n : ByteArray) (i : Nat) : Bool := eqB (ts.getD i noNn).name n
def Mk.typeOf (m : Mk) (n : ByteArray) : Int := firstN (typP m.types n) m.types.length 0
def lftP (ts : List ByteArray) (n : ByteArray) (i : Nat) : Bool := eqB (ts.getD i ⟨#[]⟩) n
def Mk.left (m : Mk) (n : ByteArray) : Int := firstN (lftP m.lefts n) m.lefts.length 0
def Mk.fail (m : Mk) (pos : Int) (name : ByteArray) : Mk := if m.e = 0 then { m with e := 3, pos := pos, name := name } else m
def Mk.failIf (m : Mk) (b : Bool) (pos : Int) (name : ByteArray) : Mk := if b then m.fail pos name else m
def byte0 (s : ByteArray) : Int := ((s.data.toList.getD 0 0).toNat : Int)
def Mk.push (m : Mk) (k : Tk) (g : Bool) : Mk := { m with toks := m.toks ++ [k], given := m.given ++ [g] }
def Mk.put (m : Mk) (x : Sm) : Mk × Int :=
 if 0 ≤ m.tok x then (m, m.tok x)
 else if x.lit then (((m.failIf (decide (0 ≤ m.owner (byte0 x.name))) x.pos x.name).push ⟨x.name, true, byte0 x.name, 0, 0, ⟨#[]⟩⟩ true), m.toks.length)
 else (m.push ⟨x.name, false, 0, 0, 0, ⟨#[]⟩⟩ false, m.toks.length)
theorem Mk.put_old {m : Mk} {x : Sm} (h : 0 ≤ m.tok x) : m.put x = (m, m.tok x) := if_pos h
theorem Mk.put_new {m : Mk} {x : Sm} (h : ¬ 0 ≤ m.tok x) : m.put x = ((m.failIf (x.lit && decide (0 ≤ m.owner (byte0 x.name))) x.pos x.name).push ⟨x.name, x.lit, if x.lit then byte0 x.name else 0, 0, 0, ⟨#[]⟩⟩ x.lit, (m.toks.length : Int)) := by
 unfold Mk.put
 rw [if_neg h]
 cases x.lit <;> rfl
theorem Mk.put_lit {m : Mk} {x : Sm} (h : ¬ 0 ≤ m.tok x) (hl : x.lit = true) : m.put x = ((m.failIf (decide (0 ≤ m.owner (byte0 x.name))) x.pos x.name).push ⟨x.name, true, byte0 x.name, 0, 0, ⟨#[]⟩⟩ true, (m.toks.length : Int)) := by
 unfold Mk.put; rw [if_neg h, if_pos hl]
theorem Mk.tok_ge (m : Mk) (x : Sm) : -1 ≤ m.tok x := by
 unfold Mk.tok
 rcases firstN_lt (tokP m.toks x) m.toks.length 1 with e | ⟨k, e, _⟩ <;> omega
theorem Mk.fail_same (m : Mk) (p : Int) (n : ByteArray) : (m.fail p n).toks = m.toks ∧ (m.fail p n).prods = m.prods ∧ (m.fail p n).given = m.given ∧ (m.fail p n).types = m.types ∧ (m.fail p n).lefts = m.lefts ∧ (m.fail p n).level = m.level ∧ (m.fail p n).inner = m.inner := by
 unfold Mk.fail; split <;> exact ⟨rfl, rfl, rfl, rfl, rfl, rfl, rfl⟩
theorem Mk.failIf_same (m : Mk) (b : Bool) (p : Int) (n : ByteArray) : (m.failIf b p n).toks = m.toks ∧ (m.failIf b p n).prods = m.prods ∧ (m.failIf b p n).given = m.given ∧ (m.failIf b p n).types = m.types ∧ (m.failIf b p n).lefts = m.lefts ∧ (m.failIf b p n).level = m.level ∧ (m.failIf b p n).inner = m.inner := by
 unfold Mk.failIf; split
 · exact m.fail_same p n
 · exact ⟨rfl, rfl, rfl, rfl, rfl, rfl, rfl⟩
def Mk.setTok (m : Mk) (t : Nat) (f : Tk → Tk) : Mk := { m with toks := m.toks.set t (f (m.toks.getD t noTk)) }
def Mk.setGiven (m : Mk) (t : Nat) : Mk := { m with given := m.given.set t true }
def Mk.dLevel (m : Mk) (k : Int) (x : Sm) (t : Nat) : Mk :=
 if k = 1 then m else (m.failIf (decide (0 < (m.toks.getD t noTk).level)) x.pos x.name).setTok t (fun q => { q with level := m.level, assoc := k - 1 })
def Mk.dNum (m : Mk) (x : Sm) (t : Nat) : Mk :=
 if 0 < x.num then ((m.failIf ((t == 1) || (m.given.getD t false || decide (0 ≤ m.owner x.num))) x.pos x.name).setTok t (fun q => { q with num := x.num })).setGiven t else m
def Mk.dTag (m : Mk) (tag : ByteArray) (x : Sm) (t : Nat) : Mk :=
 if tag.size = 0 then m else (m.failIf (!((m.toks.getD t noTk).tag.toList.isEmpty) && !(eqB (m.toks.getD t noTk).tag tag)) x.pos x.name).setTok t (fun q => { q with tag := tag })
def Mk.dType (m : Mk) (tag : ByteArray) (x : Sm) : Mk :=
 if m.typeOf x.name < 0 then { m with types := m.types ++ [⟨x.name, tag⟩] }
 else m.failIf (!(eqB (m.types.getD (m.typeOf x.name).toNat noNn).tag tag)) x.pos x.name
def Mk.declare (m : Mk) (d : Dc) (x : Sm) : Mk :=
 if d.kind = 5 then m.dType d.tag x
 else ((((m.put x).1.dLevel d.kind x (m.put x).2.toNat).dNum x (m.put x).2.toNat).dTag d.tag x (m.put x).2.toNat)
def Mk.symbol (m : Mk) (x : Sm) : Mk × Int :=
 if x.lit then m.put x
 else if 0 ≤ m.left x.name then (m, 1001 + m.left x.name)
 else if m.tok x < 0 then (m.fail x.pos x.name, 0)
 else (m, m.tok x)
structure Au where
 m : Mk
 right : List Int
 code : ByteArray
 pos : Int
def Mk.addProd (m : Mk) (p : Pd) : Mk := { m with prods := m.prods ++ [p] }
def auStep (n : Nat) (i : Nat) (w : Pt) (s : Au) : Au :=
 if w.code.size = 0 then { s with m := (s.m.symbol w.sym).1, right := s.right ++ [(s.m.symbol w.sym).2] }
 else if i + 1 = n then { s with code := w.code, pos := w.pos }
 else { s with m := ({ s.m with inner := s.m.inner + 1 } : Mk).addProd ⟨s.m.lefts.length + (s.m.inner + 1), [], -1, w.code, s.right, w.pos⟩, right := s.right ++ [1000 + s.m.lefts.length + (s.m.inner + 1)] }
def auTo (m : Mk) (a : Al) : Nat → Au
 | 0 => ⟨m, [], ⟨#[]⟩, a.pos⟩
 | i + 1 => auStep a.parts.length i (a.parts.getD i ⟨noSm, ⟨#[]⟩, 0⟩) (auTo m a i)
theorem Mk.put_more (m : Mk) (x : Sm) : (m.put x).1.toks.length ≤ m.toks.length + 1 ∧ (m.put x).1.lefts = m.lefts ∧ (m.put x).1.prods = m.prods ∧ (m.put x).1.inner = m.inner ∧ (m.given.length = m.toks.length → (m.put x).1.given.length = (m.put x).1.toks.length) := by
 by_cases h : 0 ≤ m.tok x
 · rw [Mk.put_old h]; exact ⟨by simp, rfl, rfl, rfl, id⟩
 · rw [Mk.put_new h]
   obtain ⟨s1, s2, s3, s4, s5, s6, s7⟩ := m.failIf_same (x.lit && decide (0 ≤ m.owner (byte0 x.name))) x.pos x.name
   refine ⟨by simp [Mk.push, s1], by simp [Mk.push, s5], by simp [Mk.push, s2], by simp [Mk.push, s7], fun e => by simp [Mk.push, s1, s3, e]⟩
theorem Mk.symbol_more (m : Mk) (x : Sm) : (m.symbol x).1.toks.length ≤ m.toks.length + 1 ∧ (m.symbol x).1.lefts = m.lefts ∧ (m.symbol x).1.prods = m.prods ∧ (m.symbol x).1.inner = m.inner ∧ (m.given.length = m.toks.length → (m.symbol x).1.given.length = (m.symbol x).1.toks.length) := by
 unfold Mk.symbol
 split
 · exact m.put_more x
 · split
   · exact ⟨by simp, rfl, rfl, rfl, id⟩
   · split
     · obtain ⟨s1, s2, s3, s4, s5, s6, s7⟩ := m.fail_same x.pos x.name
       exact ⟨by rw [s1]; omega, s5, s2, s7, fun e => by rw [s1, s3]; exact e⟩
     · exact ⟨by simp, rfl, rfl, rfl, id⟩
theorem au_bounds (m : Mk) (a : Al) (hl : m.given.length = m.toks.length) (hi : 0 ≤ m.inner) : ∀ i, (auTo m a i).m.toks.length ≤ m.toks.length + i ∧ (auTo m a i).m.lefts = m.lefts ∧ (auTo m a i).m.prods.length ≤ m.prods.length + i ∧ (0 ≤ (auTo m a i).m.inner ∧ (auTo m a i).m.inner ≤ m.inner + i) ∧ (auTo m a i).m.given.length = (auTo m a i).m.toks.length ∧ (auTo m a i).right.length ≤ i
 | 0 => ⟨Nat.le_refl _, rfl, Nat.le_refl _, ⟨hi, by simp [auTo]⟩, hl, Nat.le_refl _⟩
 | i + 1 => by
   obtain ⟨h1, h2, h3, h4, h5, h6⟩ := au_bounds m a hl hi i
   show (auStep _ i _ (auTo m a i)).m.toks.length ≤ _ ∧ (auStep _ i _ (auTo m a i)).m.lefts = _ ∧ (auStep _ i _ (auTo m a i)).m.prods.length ≤ _ ∧ (0 ≤ (auStep _ i _ (auTo m a i)).m.inner ∧ (auStep _ i _ (auTo m a i)).m.inner ≤ _) ∧ (auStep _ i _ (auTo m a i)).m.given.length = (auStep _ i _ (auTo m a i)).m.toks.length ∧ (auStep _ i _ (auTo m a i)).right.length ≤ _
   unfold auStep
   split
   · obtain ⟨s1, s2, s3, s4, s5⟩ := (auTo m a i).m.symbol_more (a.parts.getD i ⟨noSm, ⟨#[]⟩, 0⟩).sym
     refine ⟨by simp only; omega, by simp only; rw [s2, h2], by simp only; rw [s3]; omega, by simp only; rw [s4]; omega, s5 h5, by simp only [List.length_append, List.length_singleton]; omega⟩
   · split
     · exact ⟨by simp only; omega, h2, by simp only; omega, by simp only; omega, h5, by simp only; omega⟩
     · refine ⟨by simp only [Mk.addProd]; omega, h2, by simp only [Mk.addProd, List.length_append, List.length_singleton]; omega, by simp only [Mk.addProd]; omega, h5, by simp only [List.length_append, List.length_singleton]; omega⟩
def precTo (l : List Int) : Nat → Int
 | 0 => -1
 | i + 1 => if l.getD i 0 < 1000 then l.getD i 0 else precTo l i
def Mk.altPrec (m : Mk) (x : Sm) (r : List Int) : Mk × Int :=
 if x.name.size = 0 then (m, precTo r r.length)
 else if x.lit then m.symbol x
 else if m.left x.name < 0 then m.symbol x
 else (m.fail x.pos x.name, -1)
def Mk.alt (m : Mk) (left : ByteArray) (a : Al) : Mk :=
 let s := auTo m a a.parts.length
 let q := s.m.altPrec a.prec s.right
 q.1.addProd ⟨1 + m.left left, s.right, q.2, s.code, s.right, s.pos⟩
end
section
open Go.RowKit
def tkC (k : Tk) : List Value := [.string k.name, .bool k.lit, .int .i64 k.num, .int .i64 k.level, .int .i64 k.assoc, .string k.tag]
def nnC (k : Nn) : List Value := [.string k.name, .string k.tag]
def blC (b : Bool) : List Value := [.bool b]
def stC (s : ByteArray) : List Value := [.string s]
def pdR (w : World) (cs : List Value) (p : Pd) : Prop := ∃ rv av, cs = [.int .i64 p.left, rv, .int .i64 p.prec, .string p.code, av, .int .i64 p.pos] ∧ IntsV w rv p.right ∧ IntsV w av p.args
def mkCells (tv pv gv yv lv : Value) (m : Mk) : List Value := [tv, .slice none 0 0, pv, .string ⟨#[]⟩, .string ⟨#[]⟩, gv, yv, lv, .int .i64 m.e, .int .i64 m.pos, .string m.name, .int .i64 m.level, .int .i64 m.inner]
def mkRows (tv pv gv yv lv : Value) (ys : List Value) (m : Mk) : List Rw :=
 [⟨52, 6, tv, m.toks.length, m.toks.flatMap tkC⟩, ⟨87, 6, pv, m.prods.length, ys⟩, ⟨4, 1, gv, m.given.length, m.given.flatMap blC⟩, ⟨106, 2, yv, m.types.length, m.types.flatMap nnC⟩, ⟨9, 1, lv, m.lefts.length, m.lefts.flatMap stC⟩]
structure MkV (w : World) (B M : Nat) (F S : Nat → Prop) (m : Mk) : Prop where
 is : ∃ tv pv gv yv lv ys, (∀ b, F b ↔ footS M (mkRows tv pv gv yv lv ys m) b) ∧ StW w B M 99 (mkCells tv pv gv yv lv m) (mkRows tv pv gv yv lv ys m) S ∧
  Firm S w (fun W => ∀ i p, m.prods[i]? = some p → pdR W ((ys.drop (i * 6)).take 6) p)
theorem own_list {α : Type} {f : α → List Value} {w : World} {B size : Nat} {E : TypeId} {v : Value} {l : List α} (hf : ∀ x, (f x).length = size) (hs : 0 < size) (h : w.ownsRow B E size v l.length (l.flatMap f)) : ListV size (fun _ cs x => cs = f x) w v l := by
 have hfl : ∀ (l : List α) (i : Nat) (x : α), l[i]? = some x → ((l.flatMap f).drop (i * size)).take size = f x := by
  intro l
  induction l with
  | nil => intro i x h; simp at h
  | cons y l ih =>
    intro i x h
    cases i with
    | zero =>
      simp at h; subst h
      simp only [List.flatMap_cons, Nat.zero_mul, List.drop_zero]
      rw [List.take_append_of_le_length (by rw [hf]; exact Nat.le_refl _), List.take_of_length_le (by rw [hf]; exact Nat.le_refl _)]
    | succ i =>
      have e : (i + 1) * size = (f y).length + i * size := by rw [hf, Nat.succ_mul]; omega
      simp only [List.flatMap_cons]
      rw [e, ← List.drop_drop, List.drop_left]
      exact ih i x (by simpa using h)
 exact GrowL.list (S := fun _ => False) (R := fun _ cs x => cs = f x) ⟨h, Firm.pure (fun w' i x hx => hfl l i x hx), fun _ _ h => h⟩ hs
def TksV (w : World) (v : Value) (l : List Tk) : Prop := ListV 6 (fun _ cs x => cs = tkC x) w v l
def NnsV (w : World) (v : Value) (l : List Nn) : Prop := ListV 2 (fun _ cs x => cs = nnC x) w v l
def BlsV (w : World) (v : Value) (l : List Bool) : Prop := ListV 1 (fun _ cs x => cs = blC x) w v l
def StsV (w : World) (v : Value) (l : List ByteArray) : Prop := ListV 1 (fun _ cs x => cs = stC x) w v l
section
variable {w w' : World} {v : Value}
theorem TksV.below {l : List Tk} (h : TksV w v l) (hb : Below w.heap.size w w') : TksV w' v l := ListV.below h (fun _ _ h => h) hb
theorem NnsV.below {l : List Nn} (h : NnsV w v l) (hb : Below w.heap.size w w') : NnsV w' v l := ListV.below h (fun _ _ h => h) hb
theorem BlsV.below {l : List Bool} (h : BlsV w v l) (hb : Below w.heap.size w w') : BlsV w' v l := ListV.below h (fun _ _ h => h) hb
theorem StsV.below {l : List ByteArray} (h : StsV w v l) (hb : Below w.heap.size w w') : StsV w' v l := ListV.below h (fun _ _ h => h) hb
theorem TksV.open {l : List Tk} (h : TksV w v l) : ∃ a n c, v = .slice a n c ∧ Hid (n = l.length) ∧ n ≤ c ∧ c ≤ 9223372036854775807 ∧
  Hid (∀ i, i < n → ∃ b o, a = some ⟨b, o, none⟩ ∧ w.cell? ⟨b, o + i * 6, none⟩ = some (.string (l.getD i noTk).name) ∧ w.cell? ⟨b, o + i * 6 + 1, none⟩ = some (.bool (l.getD i noTk).lit) ∧ w.cell? ⟨b, o + i * 6 + 2, none⟩ = some (.int .i64 (l.getD i noTk).num) ∧
   w.cell? ⟨b, o + i * 6 + 3, none⟩ = some (.int .i64 (l.getD i noTk).level) ∧ w.cell? ⟨b, o + i * 6 + 4, none⟩ = some (.int .i64 (l.getD i noTk).assoc) ∧ w.cell? ⟨b, o + i * 6 + 5, none⟩ = some (.string (l.getD i noTk).tag)) := by
 obtain ⟨a, n, c, h1, h2, h3, h4, h5⟩ := ListV.open h
 refine ⟨a, n, c, h1, h2, h3, h4, Lib.hid (fun i hi => ?_)⟩
 obtain ⟨b, o, cs, x, e1, e2, e3, e4, e5⟩ := h5.out i hi
 cases e4
 have ex : l.getD i noTk = x := by rw [List.getD_eq_getElem?_getD, e2]; rfl
 rw [ex]
 exact ⟨b, o, e1, e5 0 (by omega), e5 1 (by omega), e5 2 (by omega), e5 3 (by omega), e5 4 (by omega), e5 5 (by omega)⟩
theorem NnsV.open {l : List Nn} (h : NnsV w v l) : ∃ a n c, v = .slice a n c ∧ Hid (n = l.length) ∧ n ≤ c ∧ c ≤ 9223372036854775807 ∧
  Hid (∀ i, i < n → ∃ b o, a = some ⟨b, o, none⟩ ∧ w.cell? ⟨b, o + i * 2, none⟩ = some (.string (l.getD i noNn).name) ∧ w.cell? ⟨b, o + i * 2 + 1, none⟩ = some (.string (l.getD i noNn).tag)) := by
 obtain ⟨a, n, c, h1, h2, h3, h4, h5⟩ := ListV.open h
 refine ⟨a, n, c, h1, h2, h3, h4, Lib.hid (fun i hi => ?_)⟩
 obtain ⟨b, o, cs, x, e1, e2, e3, e4, e5⟩ := h5.out i hi
 cases e4
 have ex : l.getD i noNn = x := by rw [List.getD_eq_getElem?_getD, e2]; rfl
 rw [ex]
 exact ⟨b, o, e1, e5 0 (by omega), e5 1 (by omega)⟩
theorem BlsV.open {l : List Bool} (h : BlsV w v l) : ∃ a n c, v = .slice a n c ∧ Hid (n = l.length) ∧ n ≤ c ∧ c ≤ 9223372036854775807 ∧
  Hid (∀ i, i < n → ∃ b o, a = some ⟨b, o, none⟩ ∧ w.cell? ⟨b, o + i, none⟩ = some (.bool (l.getD i false))) := by
 obtain ⟨a, n, c, h1, h2, h3, h4, h5⟩ := ListV.open h
 refine ⟨a, n, c, h1, h2, h3, h4, Lib.hid (fun i hi => ?_)⟩
 obtain ⟨b, o, cs, x, e1, e2, e3, e4, e5⟩ := h5.out i hi
 cases e4
 have ex : l.getD i false = x := by rw [List.getD_eq_getElem?_getD, e2]; rfl
 rw [ex]
 refine ⟨b, o, e1, ?_⟩
 have := e5 0 (by omega)
 rw [Nat.mul_one] at this
 exact this
theorem StsV.open {l : List ByteArray} (h : StsV w v l) : ∃ a n c, v = .slice a n c ∧ Hid (n = l.length) ∧ n ≤ c ∧ c ≤ 9223372036854775807 ∧
  Hid (∀ i, i < n → ∃ b o, a = some ⟨b, o, none⟩ ∧ w.cell? ⟨b, o + i, none⟩ = some (.string (l.getD i ⟨#[]⟩))) := by
 obtain ⟨a, n, c, h1, h2, h3, h4, h5⟩ := ListV.open h
 refine ⟨a, n, c, h1, h2, h3, h4, Lib.hid (fun i hi => ?_)⟩
 obtain ⟨b, o, cs, x, e1, e2, e3, e4, e5⟩ := h5.out i hi
 cases e4
 have ex : l.getD i ⟨#[]⟩ = x := by rw [List.getD_eq_getElem?_getD, e2]; rfl
 rw [ex]
 refine ⟨b, o, e1, ?_⟩
 have := e5 0 (by omega)
 rw [Nat.mul_one] at this
 exact this
end
section
variable {w w' : World} {B M : Nat} {F S : Nat → Prop} {m : Mk}
theorem MkV.below (h : MkV w B M F S m) (hb : Below w.heap.size w w') : MkV w' B M F S m := by
 obtain ⟨tv, pv, gv, yv, lv, ys, h1, h2, h3⟩ := h.is
 exact ⟨⟨tv, pv, gv, yv, lv, ys, h1, h2.below hb, h3.below hb⟩⟩
theorem MkV.read (h : MkV w B M F S m) : ∃ tv pv gv yv lv, TksV w tv m.toks ∧ BlsV w gv m.given ∧ NnsV w yv m.types ∧ StsV w lv m.lefts ∧ (∀ j, w.cell? ⟨M, j, none⟩ = (mkCells tv pv gv yv lv m)[j]?) := by
 obtain ⟨tv, pv, gv, yv, lv, ys, h1, h2, h3⟩ := h.is
 exact ⟨tv, pv, gv, yv, lv, own_list (fun _ => rfl) (by omega) (h2.own ⟨52, 6, tv, m.toks.length, m.toks.flatMap tkC⟩ (by simp [mkRows])), own_list (fun _ => rfl) (by omega) (h2.own ⟨4, 1, gv, m.given.length, m.given.flatMap blC⟩ (by simp [mkRows])), own_list (fun _ => rfl) (by omega) (h2.own ⟨106, 2, yv, m.types.length, m.types.flatMap nnC⟩ (by simp [mkRows])), own_list (fun _ => rfl) (by omega) (h2.own ⟨9, 1, lv, m.lefts.length, m.lefts.flatMap stC⟩ (by simp [mkRows])), h2.cell⟩
end
end
end Go.Proofs.Ytkgbifbbpmdpgaa
