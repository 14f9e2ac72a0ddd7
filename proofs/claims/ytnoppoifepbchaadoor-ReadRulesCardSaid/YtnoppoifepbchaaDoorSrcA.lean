/- Sources: what they hold, and how they lie in memory. -/
import Derived.Test.YtnoppoifepbchaaDoorBaseA
namespace Go.Proofs.YtnoppoifepbchaaDoor
section
open Go.RowKit
set_option linter.unusedVariables false

structure Sm where
 name : ByteArray
 lit : Bool
 num : Int
 pos : Int
structure Pt where
 sym : Sm
 code : ByteArray
 pos : Int
structure Al where
 parts : List Pt
 prec : Sm
 pos : Int
structure Rl where
 left : ByteArray
 alts : List Al
 pos : Int
structure Dc where
 kind : Int
 tag : ByteArray
 syms : List Sm
 pos : Int
structure So where
 pro : ByteArray
 decls : List Dc
 rules : List Rl
 tail : ByteArray
def noSm : Sm := ⟨ByteArray.empty, false, 0, 0⟩
instance : Inhabited Sm := ⟨noSm⟩
instance : Inhabited Pt := ⟨⟨noSm, ByteArray.empty, 0⟩⟩
instance : Inhabited Al := ⟨⟨[], noSm, 0⟩⟩
instance : Inhabited Rl := ⟨⟨ByteArray.empty, [], 0⟩⟩
instance : Inhabited Dc := ⟨⟨0, ByteArray.empty, [], 0⟩⟩
def noSo : So := ⟨ByteArray.empty, [], [], ByteArray.empty⟩

def Sm.agg (x : Sm) : Value := .agg #[.string x.name, .bool x.lit, .int .i64 x.num, .int .i64 x.pos]
def Pt.agg (x : Pt) : Value := .agg #[.string x.sym.name, .bool x.sym.lit, .int .i64 x.sym.num, .int .i64 x.sym.pos, .string x.code, .int .i64 x.pos]

def smR (w : World) (cs : List Value) (x : Sm) : Prop := cs = [.string x.name, .bool x.lit, .int .i64 x.num, .int .i64 x.pos]
def ptR (w : World) (cs : List Value) (p : Pt) : Prop := cs = [.string p.sym.name, .bool p.sym.lit, .int .i64 p.sym.num, .int .i64 p.sym.pos, .string p.code, .int .i64 p.pos]
def alR (w : World) (cs : List Value) (a : Al) : Prop := ∃ v, cs = [v, .string a.prec.name, .bool a.prec.lit, .int .i64 a.prec.num, .int .i64 a.prec.pos, .int .i64 a.pos] ∧ ListV 6 ptR w v a.parts
def rlR (w : World) (cs : List Value) (r : Rl) : Prop := ∃ v, cs = [.string r.left, v, .int .i64 r.pos] ∧ ListV 6 alR w v r.alts
def dcR (w : World) (cs : List Value) (d : Dc) : Prop := ∃ v, cs = [.int .i64 d.kind, .string d.tag, v, .int .i64 d.pos] ∧ ListV 4 smR w v d.syms
def SmsV (w : World) (v : Value) (l : List Sm) : Prop := ListV 4 smR w v l
def PtsV (w : World) (v : Value) (l : List Pt) : Prop := ListV 6 ptR w v l
def AlsV (w : World) (v : Value) (l : List Al) : Prop := ListV 6 alR w v l
def RlsV (w : World) (v : Value) (l : List Rl) : Prop := ListV 3 rlR w v l
def DcsV (w : World) (v : Value) (l : List Dc) : Prop := ListV 4 dcR w v l
def SoV (w : World) (v : Value) (s : So) : Prop := ∃ dv rv, v = .agg #[.string s.pro, dv, rv, .string s.tail] ∧ DcsV w dv s.decls ∧ RlsV w rv s.rules
def DcV (w : World) (v : Value) (d : Dc) : Prop := ∃ sv, v = .agg #[.int .i64 d.kind, .string d.tag, sv, .int .i64 d.pos] ∧ SmsV w sv d.syms
def AlV (w : World) (v : Value) (a : Al) : Prop := ∃ pv, v = .agg #[pv, .string a.prec.name, .bool a.prec.lit, .int .i64 a.prec.num, .int .i64 a.prec.pos, .int .i64 a.pos] ∧ PtsV w pv a.parts
def RlV (w : World) (v : Value) (r : Rl) : Prop := ∃ av, v = .agg #[.string r.left, av, .int .i64 r.pos] ∧ AlsV w av r.alts

/-! what comes in is of its types -/
def SmIn (x : Sm) : Prop := x.name.size ≤ maxLen ∧ (Lit.int .i64 x.num).wf = true ∧ (Lit.int .i64 x.pos).wf = true
def PtIn (x : Pt) : Prop := SmIn x.sym ∧ x.code.size ≤ maxLen ∧ (Lit.int .i64 x.pos).wf = true
def AlIn (x : Al) : Prop := (∀ y ∈ x.parts, PtIn y) ∧ SmIn x.prec ∧ (Lit.int .i64 x.pos).wf = true
def RlIn (x : Rl) : Prop := x.left.size ≤ maxLen ∧ (∀ y ∈ x.alts, AlIn y) ∧ (Lit.int .i64 x.pos).wf = true
def DcIn (x : Dc) : Prop := (Lit.int .i64 x.kind).wf = true ∧ x.tag.size ≤ maxLen ∧ (∀ y ∈ x.syms, SmIn y) ∧ (Lit.int .i64 x.pos).wf = true
def SoIn (x : So) : Prop := x.pro.size ≤ maxLen ∧ (∀ y ∈ x.decls, DcIn y) ∧ (∀ y ∈ x.rules, RlIn y) ∧ x.tail.size ≤ maxLen

section
variable {w w' : World}
theorem SmsV.below {v : Value} {l : List Sm} (h : SmsV w v l) (hb : Below w.heap.size w w') : SmsV w' v l := ListV.below h (fun _ _ h => h) hb
theorem PtsV.below {v : Value} {l : List Pt} (h : PtsV w v l) (hb : Below w.heap.size w w') : PtsV w' v l := ListV.below h (fun _ _ h => h) hb
theorem alR.below {cs : List Value} {a : Al} (h : alR w cs a) (hb : Below w.heap.size w w') : alR w' cs a := by
 obtain ⟨v, h1, h2⟩ := h
 exact ⟨v, h1, PtsV.below h2 hb⟩
theorem AlsV.below {v : Value} {l : List Al} (h : AlsV w v l) (hb : Below w.heap.size w w') : AlsV w' v l := ListV.below h (fun _ _ h => alR.below h hb) hb
theorem rlR.below {cs : List Value} {r : Rl} (h : rlR w cs r) (hb : Below w.heap.size w w') : rlR w' cs r := by
 obtain ⟨v, h1, h2⟩ := h
 exact ⟨v, h1, AlsV.below h2 hb⟩
theorem RlsV.below {v : Value} {l : List Rl} (h : RlsV w v l) (hb : Below w.heap.size w w') : RlsV w' v l := ListV.below h (fun _ _ h => rlR.below h hb) hb
theorem dcR.below {cs : List Value} {d : Dc} (h : dcR w cs d) (hb : Below w.heap.size w w') : dcR w' cs d := by
 obtain ⟨v, h1, h2⟩ := h
 exact ⟨v, h1, SmsV.below h2 hb⟩
theorem DcsV.below {v : Value} {l : List Dc} (h : DcsV w v l) (hb : Below w.heap.size w w') : DcsV w' v l := ListV.below h (fun _ _ h => dcR.below h hb) hb
theorem SoV.below {v : Value} {s : So} (h : SoV w v s) (hb : Below w.heap.size w w') : SoV w' v s := by
 obtain ⟨dv, rv, h1, h2, h3⟩ := h
 exact ⟨dv, rv, h1, h2.below hb, h3.below hb⟩
theorem DcV.below {v : Value} {d : Dc} (h : DcV w v d) (hb : Below w.heap.size w w') : DcV w' v d := by
 obtain ⟨sv, h1, h2⟩ := h
 exact ⟨sv, h1, h2.below hb⟩
theorem AlV.below {v : Value} {a : Al} (h : AlV w v a) (hb : Below w.heap.size w w') : AlV w' v a := by
 obtain ⟨pv, h1, h2⟩ := h
 exact ⟨pv, h1, h2.below hb⟩
theorem RlV.below {v : Value} {r : Rl} (h : RlV w v r) (hb : Below w.heap.size w w') : RlV w' v r := by
 obtain ⟨av, h1, h2⟩ := h
 exact ⟨av, h1, h2.below hb⟩

/-! opened: an element's cells -/
theorem SmsV.open {v : Value} {l : List Sm} (h : SmsV w v l) : ∃ a n c, v = .slice a n c ∧ Hid (n = l.length) ∧ n ≤ c ∧ c ≤ 9223372036854775807 ∧
  Hid (∀ i, i < n → ∃ b o x, a = some ⟨b, o, none⟩ ∧ l[i]? = some x ∧ w.cell? ⟨b, o + i * 4, none⟩ = some (.string x.name) ∧ w.cell? ⟨b, o + i * 4 + 1, none⟩ = some (.bool x.lit) ∧
   w.cell? ⟨b, o + i * 4 + 2, none⟩ = some (.int .i64 x.num) ∧ w.cell? ⟨b, o + i * 4 + 3, none⟩ = some (.int .i64 x.pos)) := by
 obtain ⟨a, n, c, h1, h2, h3, h4, h5⟩ := ListV.open h
 refine ⟨a, n, c, h1, h2, h3, h4, Lib.hid (fun i hi => ?_)⟩
 obtain ⟨b, o, cs, x, e1, e2, e3, e4, e5⟩ := h5.out i hi
 cases e4
 exact ⟨b, o, x, e1, e2, e5 0 (by omega), e5 1 (by omega), e5 2 (by omega), e5 3 (by omega)⟩
theorem PtsV.open {v : Value} {l : List Pt} (h : PtsV w v l) : ∃ a n c, v = .slice a n c ∧ Hid (n = l.length) ∧ n ≤ c ∧ c ≤ 9223372036854775807 ∧
  Hid (∀ i, i < n → ∃ b o x, a = some ⟨b, o, none⟩ ∧ l[i]? = some x ∧ w.cell? ⟨b, o + i * 6, none⟩ = some (.string x.sym.name) ∧ w.cell? ⟨b, o + i * 6 + 1, none⟩ = some (.bool x.sym.lit) ∧
   w.cell? ⟨b, o + i * 6 + 2, none⟩ = some (.int .i64 x.sym.num) ∧ w.cell? ⟨b, o + i * 6 + 3, none⟩ = some (.int .i64 x.sym.pos) ∧ w.cell? ⟨b, o + i * 6 + 4, none⟩ = some (.string x.code) ∧ w.cell? ⟨b, o + i * 6 + 5, none⟩ = some (.int .i64 x.pos)) := by
 obtain ⟨a, n, c, h1, h2, h3, h4, h5⟩ := ListV.open h
 refine ⟨a, n, c, h1, h2, h3, h4, Lib.hid (fun i hi => ?_)⟩
 obtain ⟨b, o, cs, x, e1, e2, e3, e4, e5⟩ := h5.out i hi
 cases e4
 exact ⟨b, o, x, e1, e2, e5 0 (by omega), e5 1 (by omega), e5 2 (by omega), e5 3 (by omega), e5 4 (by omega), e5 5 (by omega)⟩
theorem AlsV.open {v : Value} {l : List Al} (h : AlsV w v l) : ∃ a n c, v = .slice a n c ∧ Hid (n = l.length) ∧ n ≤ c ∧ c ≤ 9223372036854775807 ∧
  Hid (∀ i, i < n → ∃ b o x pv, a = some ⟨b, o, none⟩ ∧ l[i]? = some x ∧ PtsV w pv x.parts ∧ w.cell? ⟨b, o + i * 6, none⟩ = some pv ∧ w.cell? ⟨b, o + i * 6 + 1, none⟩ = some (.string x.prec.name) ∧
   w.cell? ⟨b, o + i * 6 + 2, none⟩ = some (.bool x.prec.lit) ∧ w.cell? ⟨b, o + i * 6 + 3, none⟩ = some (.int .i64 x.prec.num) ∧ w.cell? ⟨b, o + i * 6 + 4, none⟩ = some (.int .i64 x.prec.pos) ∧ w.cell? ⟨b, o + i * 6 + 5, none⟩ = some (.int .i64 x.pos)) := by
 obtain ⟨a, n, c, h1, h2, h3, h4, h5⟩ := ListV.open h
 refine ⟨a, n, c, h1, h2, h3, h4, Lib.hid (fun i hi => ?_)⟩
 obtain ⟨b, o, cs, x, e1, e2, e3, e4, e5⟩ := h5.out i hi
 obtain ⟨pv, rfl, e6⟩ := e4
 exact ⟨b, o, x, pv, e1, e2, e6, e5 0 (by omega), e5 1 (by omega), e5 2 (by omega), e5 3 (by omega), e5 4 (by omega), e5 5 (by omega)⟩
theorem RlsV.open {v : Value} {l : List Rl} (h : RlsV w v l) : ∃ a n c, v = .slice a n c ∧ Hid (n = l.length) ∧ n ≤ c ∧ c ≤ 9223372036854775807 ∧
  Hid (∀ i, i < n → ∃ b o x av, a = some ⟨b, o, none⟩ ∧ l[i]? = some x ∧ AlsV w av x.alts ∧ w.cell? ⟨b, o + i * 3, none⟩ = some (.string x.left) ∧ w.cell? ⟨b, o + i * 3 + 1, none⟩ = some av ∧ w.cell? ⟨b, o + i * 3 + 2, none⟩ = some (.int .i64 x.pos)) := by
 obtain ⟨a, n, c, h1, h2, h3, h4, h5⟩ := ListV.open h
 refine ⟨a, n, c, h1, h2, h3, h4, Lib.hid (fun i hi => ?_)⟩
 obtain ⟨b, o, cs, x, e1, e2, e3, e4, e5⟩ := h5.out i hi
 obtain ⟨av, rfl, e6⟩ := e4
 exact ⟨b, o, x, av, e1, e2, e6, e5 0 (by omega), e5 1 (by omega), e5 2 (by omega)⟩
theorem DcsV.open {v : Value} {l : List Dc} (h : DcsV w v l) : ∃ a n c, v = .slice a n c ∧ Hid (n = l.length) ∧ n ≤ c ∧ c ≤ 9223372036854775807 ∧
  Hid (∀ i, i < n → ∃ b o x sv, a = some ⟨b, o, none⟩ ∧ l[i]? = some x ∧ SmsV w sv x.syms ∧ w.cell? ⟨b, o + i * 4, none⟩ = some (.int .i64 x.kind) ∧ w.cell? ⟨b, o + i * 4 + 1, none⟩ = some (.string x.tag) ∧
   w.cell? ⟨b, o + i * 4 + 2, none⟩ = some sv ∧ w.cell? ⟨b, o + i * 4 + 3, none⟩ = some (.int .i64 x.pos)) := by
 obtain ⟨a, n, c, h1, h2, h3, h4, h5⟩ := ListV.open h
 refine ⟨a, n, c, h1, h2, h3, h4, Lib.hid (fun i hi => ?_)⟩
 obtain ⟨b, o, cs, x, e1, e2, e3, e4, e5⟩ := h5.out i hi
 obtain ⟨sv, rfl, e6⟩ := e4
 exact ⟨b, o, x, sv, e1, e2, e6, e5 0 (by omega), e5 1 (by omega), e5 2 (by omega), e5 3 (by omega)⟩
end

/-! lists, as a loop goes through them -/
section
variable {α β : Type}
theorem all_next {l : List α} {p : α → Bool} {k : Nat} {x : α} (hx : l[k]? = some x) (h : (l.take k).all p = true) (hp : p x = true) : (l.take (k + 1)).all p = true := by
 obtain ⟨hk, rfl⟩ := List.getElem?_eq_some_iff.1 hx
 rw [List.take_succ_eq_append_getElem hk, List.all_append, h]
 simpa using hp
theorem all_fails {l : List α} {p : α → Bool} {k : Nat} {x : α} (hx : l[k]? = some x) (hp : p x = false) : l.all p = false := by
 rw [List.all_eq_false]
 exact ⟨x, List.mem_of_getElem? hx, by rw [hp]; decide⟩
theorem all_done {l : List α} {p : α → Bool} {k : Nat} (h : (l.take k).all p = true) (hk : l.length ≤ k) : l.all p = true := by
 rwa [List.take_of_length_le hk] at h
/-- the same length, and one by one -/
def eqL (p : α → β → Bool) (a : List α) (b : List β) : Bool := (a.length == b.length) && (a.zip b).all (fun x => p x.1 x.2)
theorem eqL_len {p : α → β → Bool} {a : List α} {b : List β} (h : (a.length == b.length) = false) : eqL p a b = false := by unfold eqL; rw [h]; rfl
theorem zip_at {a : List α} {b : List β} {k : Nat} {x : α} {y : β} (hx : a[k]? = some x) (hy : b[k]? = some y) : (a.zip b)[k]? = some (x, y) := by
 rw [List.getElem?_zip_eq_some]; exact ⟨hx, hy⟩
theorem eqL_fails {p : α → β → Bool} {a : List α} {b : List β} {k : Nat} {x : α} {y : β} (hx : a[k]? = some x) (hy : b[k]? = some y) (hp : p x y = false) : eqL p a b = false := by
 unfold eqL
 rw [all_fails (zip_at hx hy) hp, Bool.and_false]
def eqTo (p : α → β → Bool) (a : List α) (b : List β) (k : Nat) : Prop := ((a.zip b).take k).all (fun x => p x.1 x.2) = true
theorem eqTo_none (p : α → β → Bool) (a : List α) (b : List β) : eqTo p a b 0 := by unfold eqTo; rfl
theorem eqTo_next {p : α → β → Bool} {a : List α} {b : List β} {k : Nat} {x : α} {y : β} (h : eqTo p a b k) (hx : a[k]? = some x) (hy : b[k]? = some y) (hp : p x y = true) : eqTo p a b (k + 1) :=
 all_next (zip_at hx hy) h hp
theorem eqL_done {p : α → β → Bool} {a : List α} {b : List β} {k : Nat} (h : eqTo p a b k) (hl : a.length = b.length) (hk : a.length ≤ k) : eqL p a b = true := by
 unfold eqL
 rw [all_done h (by rw [List.length_zip]; omega), hl]
 simp
end
end
section
set_option linter.unusedVariables false

abbrev Wds := List Wd
def hdW (l : Wds) : Wd := l.headD ⟨0, ByteArray.empty, 0⟩
/-- digits, as a number -/
def rdNum (t : ByteArray) : Nat := t.data.toList.foldl (fun a c => a * 10 + (c.toNat - 48)) 0
def declaresB (k : Int) (w : Wd) : Bool := decide (w.kind = 1 ∨ (w.kind = 2 ∧ k ≠ 5 ∧ k ≠ 6))
/-- a name of %token with a number behind it -/
def numbered (k : Int) (w : Wd) (l : Wds) : Bool := decide (k = 1 ∧ w.kind = 1 ∧ (hdW l).kind = 3)
def smOf (w : Wd) (n : Int) : Sm := ⟨w.text, decide (w.kind = 2), n, w.place⟩
def rdSyms (k : Int) : Wds → List Sm × Wds
 | [] => ([], [])
 | w :: l =>
   if declaresB k w = true then
    if k = 6 then ([smOf w 0], l)
    else if numbered k w l = true then (smOf w (rdNum (hdW l).text : Nat) :: (rdSyms k l.tail).1, (rdSyms k l.tail).2)
    else (smOf w 0 :: (rdSyms k l).1, (rdSyms k l).2)
   else ([], w :: l)
 termination_by l => l.length
 decreasing_by all_goals (simp [List.length_tail]; try omega)

/-- a part of the source and what stands behind it; or the words with which none goes on -/
inductive Rd (α : Type)
 | ok (x : α) (l : Wds)
 | bad (l : Wds)

def tagS (k : Int) (l : Wds) : ByteArray × Wds := if k ≠ 6 ∧ (hdW l).kind = 4 then ((hdW l).text, l.tail) else (ByteArray.empty, l)
/-- behind its key word w -/
def declS (k : Int) (w : Wd) (l : Wds) : Rd Dc :=
 if k = 5 ∧ (hdW l).kind ≠ 4 then .bad l
 else if (rdSyms k (tagS k l).2).1 = [] then .bad (rdSyms k (tagS k l).2).2
 else .ok ⟨k, (tagS k l).1, (rdSyms k (tagS k l).2).1, w.place⟩ (rdSyms k (tagS k l).2).2

def keyN (t : ByteArray) : Int :=
 if t.toList = [37, 116, 111, 107, 101, 110] then 1 else if t.toList = [37, 108, 101, 102, 116] then 2 else if t.toList = [37, 114, 105, 103, 104, 116] then 3
 else if t.toList = [37, 110, 111, 110, 97, 115, 115, 111, 99] then 4 else if t.toList = [37, 116, 121, 112, 101] then 5 else if t.toList = [37, 115, 116, 97, 114, 116] then 6 else 0

theorem symsS_le (k : Int) : ∀ n (l : Wds), l.length ≤ n → (rdSyms k l).2.length ≤ l.length := by
 intro n
 induction n with
 | zero =>
   intro l hl
   obtain rfl := List.eq_nil_of_length_eq_zero (Nat.le_zero.1 hl)
   rw [rdSyms]; simp
 | succ n ih =>
   intro l hl
   match l with
   | [] => rw [rdSyms]; simp
   | w :: l =>
     simp only [List.length_cons] at hl
     rw [rdSyms]
     split
     · split
       · simp
       · split
         · have := ih l.tail (by rw [List.length_tail]; omega)
           rw [List.length_tail] at this
           simp; omega
         · have := ih l (by omega)
           simp; omega
     · simp
theorem tagS_le (k : Int) (l : Wds) : (tagS k l).2.length ≤ l.length := by
 unfold tagS
 split
 · simp
 · simp
theorem declS_le {k : Int} {w : Wd} {l r : Wds} {d : Dc} (h : declS k w l = .ok d r) : r.length ≤ l.length := by
 unfold declS at h
 split at h
 · cases h
 · split at h
   · cases h
   · cases h
     exact Nat.le_trans (symsS_le k _ _ (Nat.le_refl _)) (tagS_le k l)

/-- declarations, up to the mark: what stands ahead of them, whether that was there, the declarations -/
def declsS (P : ByteArray) (b : Bool) (ds : List Dc) : Wds → Rd (ByteArray × List Dc)
 | [] => .bad []
 | w :: l =>
   if w.kind = 7 then .ok (P, ds) l
   else if w.kind = 9 ∧ b = false then declsS w.text true ds l
   else if w.kind = 5 ∧ keyN w.text ≠ 0 then
    match h : declS (keyN w.text) w l with
    | .ok d r => declsS P b (ds ++ [d]) r
    | .bad r => .bad r
   else .bad (w :: l)
 termination_by l => l.length
 decreasing_by
  · simp
  · have := declS_le h; simp; omega

/-- does a rule begin there? -/
def beginsB (l : Wds) : Bool := decide ((hdW l).kind = 1 ∧ (hdW l.tail).kind = 6 ∧ (hdW l.tail).text.toList = [58])
def signB (c : UInt8) (w : Wd) : Bool := decide (w.kind = 6 ∧ w.text.toList = [c])
def symB2 (w : Wd) : Bool := decide (w.kind = 1 ∨ w.kind = 2)
def ptOf (w : Wd) : Pt := if w.kind = 8 then ⟨noSm, w.text, w.place⟩ else ⟨smOf w 0, ByteArray.empty, w.place⟩
def rdParts : Wds → List Pt × Wds
 | [] => ([], [])
 | w :: l => if (symB2 w && !beginsB (w :: l)) || decide (w.kind = 8) then (ptOf w :: (rdParts l).1, (rdParts l).2) else ([], w :: l)
theorem partsS_le : ∀ l : Wds, (rdParts l).2.length ≤ l.length
 | [] => by rw [rdParts]; simp
 | w :: l => by
   rw [rdParts]
   split
   · have := partsS_le l
     simp; omega
   · simp
def precB (w : Wd) : Bool := decide (w.kind = 5 ∧ w.text.toList = [37, 112, 114, 101, 99])
/-- behind the parts -/
def altEnd (ps : List Pt) (pos : Int) (l : Wds) : Rd Al :=
 if precB (hdW l) = true then
  if symB2 (hdW l.tail) = true then
   if (hdW l.tail.tail).kind = 8 then .ok ⟨ps ++ [ptOf (hdW l.tail.tail)], smOf (hdW l.tail) 0, pos⟩ l.tail.tail.tail
   else .ok ⟨ps, smOf (hdW l.tail) 0, pos⟩ l.tail.tail
  else .bad l.tail
 else .ok ⟨ps, noSm, pos⟩ l
def altS (l : Wds) : Rd Al := altEnd (rdParts l).1 (hdW l).place (rdParts l).2
theorem altS_le {l r : Wds} {a : Al} (h : altS l = .ok a r) : r.length ≤ l.length := by
 have h0 := partsS_le l
 unfold altS altEnd at h
 split at h
 · split at h
   · split at h <;> cases h <;> simp <;> omega
   · cases h
 · cases h; exact h0
def altsS (as : List Al) (l : Wds) : Rd (List Al) :=
 match h : altS l with
 | .bad r => .bad r
 | .ok a r => if h2 : r ≠ [] ∧ signB 124 (hdW r) = true then altsS (as ++ [a]) r.tail else .ok (as ++ [a]) r
 termination_by l.length
 decreasing_by
  have := altS_le h
  have := List.length_pos_iff.2 h2.1
  rw [List.length_tail]; omega
theorem altsS_le : ∀ n (l : Wds), l.length ≤ n → ∀ as x r, altsS as l = .ok x r → r.length ≤ l.length := by
 intro n
 induction n with
 | zero =>
   intro l hl as x r h
   rw [altsS] at h
   split at h
   · cases h
   · rename_i a r' he
     have h0 := altS_le he
     split at h
     · rename_i h2
       have := List.length_pos_iff.2 h2.1
       omega
     · cases h; exact h0
 | succ n ih =>
   intro l hl as x r h
   rw [altsS] at h
   split at h
   · cases h
   · rename_i a r' he
     have h0 := altS_le he
     split at h
     · rename_i h2
       have h3 := List.length_pos_iff.2 h2.1
       have := ih r'.tail (by rw [List.length_tail]; omega) _ _ _ h
       rw [List.length_tail] at this
       omega
     · cases h; exact h0
def semiS (l : Wds) : Wds := if signB 59 (hdW l) = true then l.tail else l
theorem semiS_le (l : Wds) : (semiS l).length ≤ l.length := by unfold semiS; split <;> simp
def ruleS (l : Wds) : Rd Rl :=
 if (hdW l).kind ≠ 1 then .bad l
 else if signB 58 (hdW l.tail) = false then .bad l.tail
 else match altsS [] l.tail.tail with
  | .bad r => .bad r
  | .ok as r => .ok ⟨(hdW l).text, as, (hdW l).place⟩ (semiS r)
theorem hdW_nil {l : Wds} (h : (hdW l).kind ≠ 0) : 0 < l.length := by
 match l, h with
 | [], h => exact absurd rfl h
 | _ :: _, _ => simp
theorem ruleS_lt {l r : Wds} {x : Rl} (h : ruleS l = .ok x r) : r.length < l.length := by
 unfold ruleS at h
 split at h
 · cases h
 · rename_i h1
   split at h
   · cases h
   · split at h
     · cases h
     · rename_i as r' he
       cases h
       have h2 := altsS_le _ _ (Nat.le_refl _) _ _ _ he
       have h3 := semiS_le r'
       have h4 := hdW_nil (l := l) (by omega)
       simp at h2
       omega
def rulesS (rs : List Rl) (l : Wds) : Rd (List Rl) :=
 match h : ruleS l with
 | .bad r => .bad r
 | .ok x r => if (hdW r).kind = 10 then .ok (rs ++ [x]) r else rulesS (rs ++ [x]) r
 termination_by l.length
 decreasing_by exact ruleS_lt h
/-- the words' source -/
def soS (l : Wds) : Rd So :=
 match declsS ByteArray.empty false [] l with
 | .bad r => .bad r
 | .ok x r => match rulesS [] r with
   | .bad r => .bad r
   | .ok rs r => .ok ⟨x.1, x.2, rs, (hdW r).text⟩ r
end
section
set_option linter.unusedVariables false

/-- words that end with the end, and have it nowhere else; what numbers are -/
structure LexOk (L : Wds) : Prop where
 ends : ∃ M t, L = M ++ [t] ∧ t.kind = 10 ∧ ∀ x ∈ M, x.kind ≠ 10
 num : ∀ x ∈ L, x.kind = 3 → x.text.size ≤ 5 ∧ 0 < x.text.size ∧ (∀ c ∈ x.text.data.toList, 48 ≤ c.toNat ∧ c.toNat ≤ 57) ∧ rdNum x.text ≤ 50000
 len : L.length ≤ 100000
 text : ∀ x ∈ L, x.text.size ≤ 100000
 place : ∀ x ∈ L, 0 ≤ x.place ∧ x.place ≤ 100000
 kinds : ∀ x ∈ L, 0 ≤ x.kind ∧ x.kind ≤ 10

def wAt (L : Wds) (n : Nat) : Wd := hdW (L.drop n)
theorem wAt_some {L : Wds} {n : Nat} (h : n < L.length) : L[n]? = some (wAt L n) := by
 unfold wAt hdW
 rw [List.headD_eq_head?_getD, List.head?_drop, List.getElem?_eq_getElem h]; rfl
theorem wAt_mem {L : Wds} {n : Nat} (h : n < L.length) : wAt L n ∈ L := List.mem_of_getElem? (wAt_some h)
theorem drop_eq {L : Wds} {n : Nat} (h : n < L.length) : L.drop n = wAt L n :: L.drop (n + 1) := by
 have h1 := wAt_some h
 rw [List.drop_eq_getElem_cons h]
 rw [List.getElem?_eq_getElem h] at h1
 rw [Option.some.inj h1]
theorem drop_tail (L : Wds) (n : Nat) : (L.drop n).tail = L.drop (n + 1) := List.tail_drop
theorem drop_ne {L : Wds} {n : Nat} (h : n < L.length) : L.drop n ≠ [] := by
 intro e
 have := List.length_drop (i := n) (l := L)
 rw [e] at this
 simp at this; omega
theorem LexOk.next {L : Wds} (h : LexOk L) {n : Nat} (hn : n < L.length) (hk : (wAt L n).kind ≠ 10) : n + 1 < L.length := by
 obtain ⟨M, t, rfl, ht, hM⟩ := h.ends
 have h1 := wAt_some hn
 rw [List.length_append, List.length_singleton] at hn ⊢
 rcases Nat.lt_or_ge n M.length with h2 | h2
 · omega
 · have : n = M.length := by omega
   subst this
   rw [List.getElem?_append_right (Nat.le_refl _)] at h1
   simp at h1
   rw [← h1] at hk
   exact absurd ht hk
theorem LexOk.pos {L : Wds} (h : LexOk L) : 0 < L.length := by
 obtain ⟨M, t, rfl, ht, hM⟩ := h.ends
 simp

section
variable {L : Wds} {n : Nat} {k : Int}
/-! the symbols of a declaration -/
theorem syms_stop (hn : n < L.length) (h : declaresB k (wAt L n) = false) : rdSyms k (L.drop n) = ([], L.drop n) := by
 rw [drop_eq hn, rdSyms, if_neg (by rw [h]; decide)]
theorem syms_start (hn : n < L.length) (h : declaresB 6 (wAt L n) = true) : rdSyms 6 (L.drop n) = ([smOf (wAt L n) 0], L.drop (n + 1)) := by
 rw [drop_eq hn, rdSyms, if_pos h, if_pos rfl]
theorem syms_num (hn : n < L.length) (hk : k ≠ 6) (h : declaresB k (wAt L n) = true) (h2 : numbered k (wAt L n) (L.drop (n + 1)) = true) :
  rdSyms k (L.drop n) = (smOf (wAt L n) (rdNum (wAt L (n + 1)).text : Nat) :: (rdSyms k (L.drop (n + 2))).1, (rdSyms k (L.drop (n + 2))).2) := by
 rw [drop_eq hn, rdSyms, if_pos h, if_neg hk, if_pos h2, drop_tail]; rfl
theorem syms_plain (hn : n < L.length) (hk : k ≠ 6) (h : declaresB k (wAt L n) = true) (h2 : numbered k (wAt L n) (L.drop (n + 1)) = false) :
  rdSyms k (L.drop n) = (smOf (wAt L n) 0 :: (rdSyms k (L.drop (n + 1))).1, (rdSyms k (L.drop (n + 1))).2) := by
 rw [drop_eq hn, rdSyms, if_pos h, if_neg hk, if_neg (by rw [h2]; decide)]
/-- so far these symbols; the rest from place n on -/
def SymsTo (k : Int) (L : Wds) (n0 : Nat) (xs : List Sm) (n : Nat) : Prop := rdSyms k (L.drop n0) = (xs ++ (rdSyms k (L.drop n)).1, (rdSyms k (L.drop n)).2)
theorem SymsTo.none (k : Int) (L : Wds) (n : Nat) : SymsTo k L n [] n := rfl
theorem SymsTo.step {n0 m : Nat} {xs : List Sm} {x : Sm} (h : SymsTo k L n0 xs n) (e : rdSyms k (L.drop n) = (x :: (rdSyms k (L.drop m)).1, (rdSyms k (L.drop m)).2)) : SymsTo k L n0 (xs ++ [x]) m := by
 unfold SymsTo at *
 rw [h, e]; simp
theorem SymsTo.stop {n0 : Nat} {xs : List Sm} (h : SymsTo k L n0 xs n) (e : rdSyms k (L.drop n) = ([], L.drop n)) : rdSyms k (L.drop n0) = (xs, L.drop n) := by
 unfold SymsTo at h
 rw [h, e]; simp
/-- one symbol of %start -/
theorem SymsTo.start {n0 : Nat} {xs : List Sm} (h : SymsTo 6 L n0 xs n) (hn : n < L.length) (e : declaresB 6 (wAt L n) = true) : rdSyms 6 (L.drop n0) = (xs ++ [smOf (wAt L n) 0], L.drop (n + 1)) := by
 unfold SymsTo at h
 rw [h, syms_start hn e]

/-! the parts of an alternative -/
def goesB2 (L : Wds) (n : Nat) : Bool := (symB2 (wAt L n) && !beginsB (L.drop n)) || decide ((wAt L n).kind = 8)
theorem parts_stop (hn : n < L.length) (h : goesB2 L n = false) : rdParts (L.drop n) = ([], L.drop n) := by
 unfold goesB2 at h
 rw [drop_eq hn] at h ⊢
 rw [rdParts, if_neg (by rw [h]; decide)]
theorem parts_next (hn : n < L.length) (h : goesB2 L n = true) : rdParts (L.drop n) = (ptOf (wAt L n) :: (rdParts (L.drop (n + 1))).1, (rdParts (L.drop (n + 1))).2) := by
 unfold goesB2 at h
 rw [drop_eq hn] at h ⊢
 rw [rdParts, if_pos h]
def PartsTo (L : Wds) (n0 : Nat) (xs : List Pt) (n : Nat) : Prop := rdParts (L.drop n0) = (xs ++ (rdParts (L.drop n)).1, (rdParts (L.drop n)).2)
theorem PartsTo.none (L : Wds) (n : Nat) : PartsTo L n [] n := rfl
theorem PartsTo.next {n0 : Nat} {xs : List Pt} (h : PartsTo L n0 xs n) (hn : n < L.length) (e : goesB2 L n = true) : PartsTo L n0 (xs ++ [ptOf (wAt L n)]) (n + 1) := by
 unfold PartsTo at *
 rw [h, parts_next hn e]; simp
theorem PartsTo.stop {n0 : Nat} {xs : List Pt} (h : PartsTo L n0 xs n) (hn : n < L.length) (e : goesB2 L n = false) : rdParts (L.drop n0) = (xs, L.drop n) := by
 unfold PartsTo at h
 rw [h, parts_stop hn e]; simp
end
end
end Go.Proofs.YtnoppoifepbchaaDoor
