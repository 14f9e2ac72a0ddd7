/- Sources: what they hold, and how they lie in memory. -/
import Derived.Test.YtnoppoifepbchaaDoorQuote
namespace Go.Proofs.YtnoppoifepbchaaDoor

open Go.RowKit
set_option linter.unusedVariables false

structure Sm where
 name : ByteArray
 lit : Bool
 num : Int
 pos : Int
structure Pt where
 sym : Sm
 code : ByteArray
 pos : Int
structure Al where
 parts : List Pt
 prec : Sm
 pos : Int
structure Rl where
 left : ByteArray
 alts : List Al
 pos : Int
structure Dc where
 kind : Int
 tag : ByteArray
 syms : List Sm
 pos : Int
structure So where
 pro : ByteArray
 decls : List Dc
 rules : List Rl
 tail : ByteArray
def noSm : Sm := ⟨ByteArray.empty, false, 0, 0⟩
instance : Inhabited Sm := ⟨noSm⟩
instance : Inhabited Pt := ⟨⟨noSm, ByteArray.empty, 0⟩⟩
instance : Inhabited Al := ⟨⟨[], noSm, 0⟩⟩
instance : Inhabited Rl := ⟨⟨ByteArray.empty, [], 0⟩⟩
instance : Inhabited Dc := ⟨⟨0, ByteArray.empty, [], 0⟩⟩
def noSo : So := ⟨ByteArray.empty, [], [], ByteArray.empty⟩

def Sm.agg (x : Sm) : Value := .agg #[.string x.name, .bool x.lit, .int .i64 x.num, .int .i64 x.pos]
def Pt.agg (x : Pt) : Value := .agg #[.string x.sym.name, .bool x.sym.lit, .int .i64 x.sym.num, .int .i64 x.sym.pos, .string x.code, .int .i64 x.pos]

def smR (w : World) (cs : List Value) (x : Sm) : Prop := cs = [.string x.name, .bool x.lit, .int .i64 x.num, .int .i64 x.pos]
def ptR (w : World) (cs : List Value) (p : Pt) : Prop := cs = [.string p.sym.name, .bool p.sym.lit, .int .i64 p.sym.num, .int .i64 p.sym.pos, .string p.code, .int .i64 p.pos]
def alR (w : World) (cs : List Value) (a : Al) : Prop := ∃ v, cs = [v, .string a.prec.name, .bool a.prec.lit, .int .i64 a.prec.num, .int .i64 a.prec.pos, .int .i64 a.pos] ∧ ListV 6 ptR w v a.parts
def rlR (w : World) (cs : List Value) (r : Rl) : Prop := ∃ v, cs = [.string r.left, v, .int .i64 r.pos] ∧ ListV 6 alR w v r.alts
def dcR (w : World) (cs : List Value) (d : Dc) : Prop := ∃ v, cs = [.int .i64 d.kind, .string d.tag, v, .int .i64 d.pos] ∧ ListV 4 smR w v d.syms
def SmsV (w : World) (v : Value) (l : List Sm) : Prop := ListV 4 smR w v l
def PtsV (w : World) (v : Value) (l : List Pt) : Prop := ListV 6 ptR w v l
def AlsV (w : World) (v : Value) (l : List Al) : Prop := ListV 6 alR w v l
def RlsV (w : World) (v : Value) (l : List Rl) : Prop := ListV 3 rlR w v l
def DcsV (w : World) (v : Value) (l : List Dc) : Prop := ListV 4 dcR w v l
def SoV (w : World) (v : Value) (s : So) : Prop := ∃ dv rv, v = .agg #[.string s.pro, dv, rv, .string s.tail] ∧ DcsV w dv s.decls ∧ RlsV w rv s.rules
def DcV (w : World) (v : Value) (d : Dc) : Prop := ∃ sv, v = .agg #[.int .i64 d.kind, .string d.tag, sv, .int .i64 d.pos] ∧ SmsV w sv d.syms
def AlV (w : World) (v : Value) (a : Al) : Prop := ∃ pv, v = .agg #[pv, .string a.prec.name, .bool a.prec.lit, .int .i64 a.prec.num, .int .i64 a.prec.pos, .int .i64 a.pos] ∧ PtsV w pv a.parts
def RlV (w : World) (v : Value) (r : Rl) : Prop := ∃ av, v = .agg #[.string r.left, av, .int .i64 r.pos] ∧ AlsV w av r.alts

/-! what comes in is of its types -/
def SmIn (x : Sm) : Prop := x.name.size ≤ maxLen ∧ (Lit.int .i64 x.num).wf = true ∧ (Lit.int .i64 x.pos).wf = true
def PtIn (x : Pt) : Prop := SmIn x.sym ∧ x.code.size ≤ maxLen ∧ (Lit.int .i64 x.pos).wf = true
def AlIn (x : Al) : Prop := (∀ y ∈ x.parts, PtIn y) ∧ SmIn x.prec ∧ (Lit.int .i64 x.pos).wf = true
def RlIn (x : Rl) : Prop := x.left.size ≤ maxLen ∧ (∀ y ∈ x.alts, AlIn y) ∧ (Lit.int .i64 x.pos).wf = true
def DcIn (x : Dc) : Prop := (Lit.int .i64 x.kind).wf = true ∧ x.tag.size ≤ maxLen ∧ (∀ y ∈ x.syms, SmIn y) ∧ (Lit.int .i64 x.pos).wf = true
def SoIn (x : So) : Prop := x.pro.size ≤ maxLen ∧ (∀ y ∈ x.decls, DcIn y) ∧ (∀ y ∈ x.rules, RlIn y) ∧ x.tail.size ≤ maxLen

section
variable {w w' : World}
theorem SmsV.below {v : Value} {l : List Sm} (h : SmsV w v l) (hb : Below w.heap.size w w') : SmsV w' v l := ListV.below h (fun _ _ h => h) hb
theorem PtsV.below {v : Value} {l : List Pt} (h : PtsV w v l) (hb : Below w.heap.size w w') : PtsV w' v l := ListV.below h (fun _ _ h => h) hb
theorem alR.below {cs : List Value} {a : Al} (h : alR w cs a) (hb : Below w.heap.size w w') : alR w' cs a := by
 obtain ⟨v, h1, h2⟩ := h
 exact ⟨v, h1, PtsV.below h2 hb⟩
theorem AlsV.below {v : Value} {l : List Al} (h : AlsV w v l) (hb : Below w.heap.size w w') : AlsV w' v l := ListV.below h (fun _ _ h => alR.below h hb) hb
theorem rlR.below {cs : List Value} {r : Rl} (h : rlR w cs r) (hb : Below w.heap.size w w') : rlR w' cs r := by
 obtain ⟨v, h1, h2⟩ := h
 exact ⟨v, h1, AlsV.below h2 hb⟩
theorem RlsV.below {v : Value} {l : List Rl} (h : RlsV w v l) (hb : Below w.heap.size w w') : RlsV w' v l := ListV.below h (fun _ _ h => rlR.below h hb) hb
theorem dcR.below {cs : List Value} {d : Dc} (h : dcR w cs d) (hb : Below w.heap.size w w') : dcR w' cs d := by
 obtain ⟨v, h1, h2⟩ := h
 exact ⟨v, h1, SmsV.below h2 hb⟩
theorem DcsV.below {v : Value} {l : List Dc} (h : DcsV w v l) (hb : Below w.heap.size w w') : DcsV w' v l := ListV.below h (fun _ _ h => dcR.below h hb) hb
theorem SoV.below {v : Value} {s : So} (h : SoV w v s) (hb : Below w.heap.size w w') : SoV w' v s := by
 obtain ⟨dv, rv, h1, h2, h3⟩ := h
 exact ⟨dv, rv, h1, h2.below hb, h3.below hb⟩
theorem DcV.below {v : Value} {d : Dc} (h : DcV w v d) (hb : Below w.heap.size w w') : DcV w' v d := by
 obtain ⟨sv, h1, h2⟩ := h
 exact ⟨sv, h1, h2.below hb⟩
theorem AlV.below {v : Value} {a : Al} (h : AlV w v a) (hb : Below w.heap.size w w') : AlV w' v a := by
 obtain ⟨pv, h1, h2⟩ := h
 exact ⟨pv, h1, h2.below hb⟩
theorem RlV.below {v : Value} {r : Rl} (h : RlV w v r) (hb : Below w.heap.size w w') : RlV w' v r := by
 obtain ⟨av, h1, h2⟩ := h
 exact ⟨av, h1, h2.below hb⟩

/-! opened: an element's cells -/
theorem SmsV.open {v : Value} {l : List Sm} (h : SmsV w v l) : ∃ a n c, v = .slice a n c ∧ Hid (n = l.length) ∧ n ≤ c ∧ c ≤ 9223372036854775807 ∧
  Hid (∀ i, i < n → ∃ b o x, a = some ⟨b, o, none⟩ ∧ l[i]? = some x ∧ w.cell? ⟨b, o + i * 4, none⟩ = some (.string x.name) ∧ w.cell? ⟨b, o + i * 4 + 1, none⟩ = some (.bool x.lit) ∧
   w.cell? ⟨b, o + i * 4 + 2, none⟩ = some (.int .i64 x.num) ∧ w.cell? ⟨b, o + i * 4 + 3, none⟩ = some (.int .i64 x.pos)) := by
 obtain ⟨a, n, c, h1, h2, h3, h4, h5⟩ := ListV.open h
 refine ⟨a, n, c, h1, h2, h3, h4, Lib.hid (fun i hi => ?_)⟩
 obtain ⟨b, o, cs, x, e1, e2, e3, e4, e5⟩ := h5.out i hi
 cases e4
 exact ⟨b, o, x, e1, e2, e5 0 (by omega), e5 1 (by omega), e5 2 (by omega), e5 3 (by omega)⟩
theorem PtsV.open {v : Value} {l : List Pt} (h : PtsV w v l) : ∃ a n c, v = .slice a n c ∧ Hid (n = l.length) ∧ n ≤ c ∧ c ≤ 9223372036854775807 ∧
  Hid (∀ i, i < n → ∃ b o x, a = some ⟨b, o, none⟩ ∧ l[i]? = some x ∧ w.cell? ⟨b, o + i * 6, none⟩ = some (.string x.sym.name) ∧ w.cell? ⟨b, o + i * 6 + 1, none⟩ = some (.bool x.sym.lit) ∧
   w.cell? ⟨b, o + i * 6 + 2, none⟩ = some (.int .i64 x.sym.num) ∧ w.cell? ⟨b, o + i * 6 + 3, none⟩ = some (.int .i64 x.sym.pos) ∧ w.cell? ⟨b, o + i * 6 + 4, none⟩ = some (.string x.code) ∧ w.cell? ⟨b, o + i * 6 + 5, none⟩ = some (.int .i64 x.pos)) := by
 obtain ⟨a, n, c, h1, h2, h3, h4, h5⟩ := ListV.open h
 refine ⟨a, n, c, h1, h2, h3, h4, Lib.hid (fun i hi => ?_)⟩
 obtain ⟨b, o, cs, x, e1, e2, e3, e4, e5⟩ := h5.out i hi
 cases e4
 exact ⟨b, o, x, e1, e2, e5 0 (by omega), e5 1 (by omega), e5 2 (by omega), e5 3 (by omega), e5 4 (by omega), e5 5 (by omega)⟩
theorem AlsV.open {v : Value} {l : List Al} (h : AlsV w v l) : ∃ a n c, v = .slice a n c ∧ Hid (n = l.length) ∧ n ≤ c ∧ c ≤ 9223372036854775807 ∧
  Hid (∀ i, i < n → ∃ b o x pv, a = some ⟨b, o, none⟩ ∧ l[i]? = some x ∧ PtsV w pv x.parts ∧ w.cell? ⟨b, o + i * 6, none⟩ = some pv ∧ w.cell? ⟨b, o + i * 6 + 1, none⟩ = some (.string x.prec.name) ∧
   w.cell? ⟨b, o + i * 6 + 2, none⟩ = some (.bool x.prec.lit) ∧ w.cell? ⟨b, o + i * 6 + 3, none⟩ = some (.int .i64 x.prec.num) ∧ w.cell? ⟨b, o + i * 6 + 4, none⟩ = some (.int .i64 x.prec.pos) ∧ w.cell? ⟨b, o + i * 6 + 5, none⟩ = some (.int .i64 x.pos)) := by
 obtain ⟨a, n, c, h1, h2, h3, h4, h5⟩ := ListV.open h
 refine ⟨a, n, c, h1, h2, h3, h4, Lib.hid (fun i hi => ?_)⟩
 obtain ⟨b, o, cs, x, e1, e2, e3, e4, e5⟩ := h5.out i hi
 obtain ⟨pv, rfl, e6⟩ := e4
 exact ⟨b, o, x, pv, e1, e2, e6, e5 0 (by omega), e5 1 (by omega), e5 2 (by omega), e5 3 (by omega), e5 4 (by omega), e5 5 (by omega)⟩
theorem RlsV.open {v : Value} {l : List Rl} (h : RlsV w v l) : ∃ a n c, v = .slice a n c ∧ Hid (n = l.length) ∧ n ≤ c ∧ c ≤ 9223372036854775807 ∧
  Hid (∀ i, i < n → ∃ b o x av, a = some ⟨b, o, none⟩ ∧ l[i]? = some x ∧ AlsV w av x.alts ∧ w.cell? ⟨b, o + i * 3, none⟩ = some (.string x.left) ∧ w.cell? ⟨b, o + i * 3 + 1, none⟩ = some av ∧ w.cell? ⟨b, o + i * 3 + 2, none⟩ = some (.int .i64 x.pos)) := by
 obtain ⟨a, n, c, h1, h2, h3, h4, h5⟩ := ListV.open h
 refine ⟨a, n, c, h1, h2, h3, h4, Lib.hid (fun i hi => ?_)⟩
 obtain ⟨b, o, cs, x, e1, e2, e3, e4, e5⟩ := h5.out i hi
 obtain ⟨av, rfl, e6⟩ := e4
 exact ⟨b, o, x, av, e1, e2, e6, e5 0 (by omega), e5 1 (by omega), e5 2 (by omega)⟩
theorem DcsV.open {v : Value} {l : List Dc} (h : DcsV w v l) : ∃ a n c, v = .slice a n c ∧ Hid (n = l.length) ∧ n ≤ c ∧ c ≤ 9223372036854775807 ∧
  Hid (∀ i, i < n → ∃ b o x sv, a = some ⟨b, o, none⟩ ∧ l[i]? = some x ∧ SmsV w sv x.syms ∧ w.cell? ⟨b, o + i * 4, none⟩ = some (.int .i64 x.kind) ∧ w.cell? ⟨b, o + i * 4 + 1, none⟩ = some (.string x.tag) ∧
   w.cell? ⟨b, o + i * 4 + 2, none⟩ = some sv ∧ w.cell? ⟨b, o + i * 4 + 3, none⟩ = some (.int .i64 x.pos)) := by
 obtain ⟨a, n, c, h1, h2, h3, h4, h5⟩ := ListV.open h
 refine ⟨a, n, c, h1, h2, h3, h4, Lib.hid (fun i hi => ?_)⟩
 obtain ⟨b, o, cs, x, e1, e2, e3, e4, e5⟩ := h5.out i hi
 obtain ⟨sv, rfl, e6⟩ := e4
 exact ⟨b, o, x, sv, e1, e2, e6, e5 0 (by omega), e5 1 (by omega), e5 2 (by omega), e5 3 (by omega)⟩
end

/-! lists, as a loop goes through them -/
section
variable {α β : Type}
theorem all_next {l : List α} {p : α → Bool} {k : Nat} {x : α} (hx : l[k]? = some x) (h : (l.take k).all p = true) (hp : p x = true) : (l.take (k + 1)).all p = true := by
 obtain ⟨hk, rfl⟩ := List.getElem?_eq_some_iff.1 hx
 rw [List.take_succ_eq_append_getElem hk, List.all_append, h]
 simpa using hp
theorem all_fails {l : List α} {p : α → Bool} {k : Nat} {x : α} (hx : l[k]? = some x) (hp : p x = false) : l.all p = false := by
 rw [List.all_eq_false]
 exact ⟨x, List.mem_of_getElem? hx, by rw [hp]; decide⟩
theorem all_done {l : List α} {p : α → Bool} {k : Nat} (h : (l.take k).all p = true) (hk : l.length ≤ k) : l.all p = true := by
 rwa [List.take_of_length_le hk] at h
/-- the same length, and one by one -/
def eqL (p : α → β → Bool) (a : List α) (b : List β) : Bool := (a.length == b.length) && (a.zip b).all (fun x => p x.1 x.2)
theorem eqL_len {p : α → β → Bool} {a : List α} {b : List β} (h : (a.length == b.length) = false) : eqL p a b = false := by unfold eqL; rw [h]; rfl
theorem zip_at {a : List α} {b : List β} {k : Nat} {x : α} {y : β} (hx : a[k]? = some x) (hy : b[k]? = some y) : (a.zip b)[k]? = some (x, y) := by
 rw [List.getElem?_zip_eq_some]; exact ⟨hx, hy⟩
theorem eqL_fails {p : α → β → Bool} {a : List α} {b : List β} {k : Nat} {x : α} {y : β} (hx : a[k]? = some x) (hy : b[k]? = some y) (hp : p x y = false) : eqL p a b = false := by
 unfold eqL
 rw [all_fails (zip_at hx hy) hp, Bool.and_false]
def eqTo (p : α → β → Bool) (a : List α) (b : List β) (k : Nat) : Prop := ((a.zip b).take k).all (fun x => p x.1 x.2) = true
theorem eqTo_none (p : α → β → Bool) (a : List α) (b : List β) : eqTo p a b 0 := by unfold eqTo; rfl
theorem eqTo_next {p : α → β → Bool} {a : List α} {b : List β} {k : Nat} {x : α} {y : β} (h : eqTo p a b k) (hx : a[k]? = some x) (hy : b[k]? = some y) (hp : p x y = true) : eqTo p a b (k + 1) :=
 all_next (zip_at hx hy) h hp
theorem eqL_done {p : α → β → Bool} {a : List α} {b : List β} {k : Nat} (h : eqTo p a b k) (hl : a.length = b.length) (hk : a.length ≤ k) : eqL p a b = true := by
 unfold eqL
 rw [all_done h (by rw [List.length_zip]; omega), hl]
 simp
end
end Go.Proofs.YtnoppoifepbchaaDoor
