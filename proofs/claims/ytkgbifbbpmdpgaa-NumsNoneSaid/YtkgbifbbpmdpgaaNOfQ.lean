/- What the document's Of makes of the declarations, in plain words; how long its lists are. Of no program. -/
import Derived.Test.YtkgbifbbpmdpgaaNOfP
import Derived.Test.YtkgbifbbpmdpgaaNOf7
set_option linter.unusedVariables false
set_option linter.unusedSimpArgs false
namespace Go.Proofs.Ytkgbifbbpmdpgaa
section
def noDc : Dc := ⟨0, ⟨#[]⟩, [], 0⟩
def symStep (d : Dc) (x : Sm) (s : Mk × ByteArray) : Mk × ByteArray :=
 if d.kind = 6 then (s.1.failIf (!(s.2.toList.isEmpty)) x.pos x.name, x.name) else (s.1.declare d x, s.2)
def symTo (d : Dc) (s : Mk × ByteArray) : Nat → Mk × ByteArray
 | 0 => s
 | k + 1 => symStep d (d.syms.getD k noSm) (symTo d s k)
def levUp (d : Dc) (m : Mk) : Mk := if 2 ≤ d.kind ∧ d.kind ≤ 4 then { m with level := m.level + 1 } else m
def dclTo (ds : List Dc) (s : Mk × ByteArray) : Nat → Mk × ByteArray
 | 0 => s
 | i + 1 => symTo (ds.getD i noDc) (levUp (ds.getD i noDc) (dclTo ds s i).1, (dclTo ds s i).2) (ds.getD i noDc).syms.length
structure MkN (m : Mk) (t y l v : Nat) : Prop where
 tk : m.toks.length ≤ t
 gv : m.given.length = m.toks.length
 ty : m.types.length ≤ y
 lf : m.lefts.length ≤ l
 lv : 0 ≤ m.level ∧ m.level ≤ v
theorem MkN.same {m m' : Mk} {t y l v : Nat} (h : MkN m t y l v) (h1 : m'.toks.length = m.toks.length) (h2 : m'.given.length = m.given.length) (h3 : m'.types = m.types) (h4 : m'.lefts = m.lefts) (h5 : m'.level = m.level) : MkN m' t y l v :=
 ⟨by rw [h1]; exact h.tk, by rw [h1, h2]; exact h.gv, by rw [h3]; exact h.ty, by rw [h4]; exact h.lf, by rw [h5]; exact h.lv⟩
theorem MkN.wide {m : Mk} {t y l v t' y' l' v' : Nat} (h : MkN m t y l v) (h1 : t ≤ t') (h2 : y ≤ y') (h3 : l ≤ l') (h4 : v ≤ v') : MkN m t' y' l' v' :=
 ⟨Nat.le_trans h.tk h1, h.gv, Nat.le_trans h.ty h2, Nat.le_trans h.lf h3, ⟨h.lv.1, by have := h.lv.2; omega⟩⟩
theorem MkN.failIf {m : Mk} {t y l v : Nat} (h : MkN m t y l v) (b : Bool) (p : Int) (n : ByteArray) : MkN (m.failIf b p n) t y l v := by
 obtain ⟨s1, s2, s3, s4, s5, s6, s7⟩ := m.failIf_same b p n
 exact h.same (by rw [s1]) (by rw [s3]) s4 s5 s6
theorem MkN.setTok {m : Mk} {t y l v : Nat} (h : MkN m t y l v) (i : Nat) (f : Tk → Tk) : MkN (m.setTok i f) t y l v := h.same (by simp [Mk.setTok]) rfl rfl rfl rfl
theorem MkN.setGiven {m : Mk} {t y l v : Nat} (h : MkN m t y l v) (i : Nat) : MkN (m.setGiven i) t y l v := h.same rfl (by simp [Mk.setGiven]) rfl rfl rfl
theorem MkN.put {m : Mk} {t y l v : Nat} (h : MkN m t y l v) (x : Sm) : MkN (m.put x).1 (t + 1) y l v := by
 by_cases ho : 0 ≤ m.tok x
 · rw [Mk.put_old ho]; exact h.wide (by omega) (Nat.le_refl _) (Nat.le_refl _) (Nat.le_refl _)
 · rw [Mk.put_new ho]
   have hf := h.failIf (x.lit && decide (0 ≤ m.owner (byte0 x.name))) x.pos x.name
   have := hf.tk
   exact ⟨by simp [Mk.push]; omega, by simp [Mk.push, hf.gv], hf.ty, hf.lf, hf.lv⟩
theorem MkN.declare {m : Mk} {t y l v : Nat} (h : MkN m t y l v) (d : Dc) (x : Sm) : MkN (m.declare d x) (t + 1) (y + 1) l v := by
 unfold Mk.declare
 split
 · unfold Mk.dType
   split
   · exact ⟨by have := h.tk; simp only; omega, h.gv, by have := h.ty; simp; omega, h.lf, h.lv⟩
   · exact (h.failIf _ _ _).wide (by omega) (by omega) (Nat.le_refl _) (Nat.le_refl _)
 · have h1 := h.put x
   have h2 : MkN ((m.put x).1.dLevel d.kind x (m.put x).2.toNat) (t + 1) y l v := by
    unfold Mk.dLevel; split
    · exact h1
    · exact (h1.failIf _ _ _).setTok _ _
   have h3 : MkN (((m.put x).1.dLevel d.kind x (m.put x).2.toNat).dNum x (m.put x).2.toNat) (t + 1) y l v := by
    unfold Mk.dNum; split
    · exact ((h2.failIf _ _ _).setTok _ _).setGiven _
    · exact h2
   have h4 : MkN ((((m.put x).1.dLevel d.kind x (m.put x).2.toNat).dNum x (m.put x).2.toNat).dTag d.tag x (m.put x).2.toNat) (t + 1) y l v := by
    unfold Mk.dTag; split
    · exact h3
    · exact (h3.failIf _ _ _).setTok _ _
   exact h4.wide (Nat.le_refl _) (by omega) (Nat.le_refl _) (Nat.le_refl _)
theorem MkN.symStep {d : Dc} {x : Sm} {s : Mk × ByteArray} {t y l v : Nat} (h : MkN s.1 t y l v) : MkN (symStep d x s).1 (t + 1) (y + 1) l v := by
 unfold Go.Proofs.Ytkgbifbbpmdpgaa.symStep
 split
 · exact (h.failIf _ _ _).wide (by omega) (by omega) (Nat.le_refl _) (Nat.le_refl _)
 · exact h.declare d x
theorem MkN.symTo {d : Dc} {s : Mk × ByteArray} {t y l v : Nat} (h : MkN s.1 t y l v) : ∀ k, MkN (symTo d s k).1 (t + k) (y + k) l v
 | 0 => h
 | k + 1 => MkN.symStep (MkN.symTo h k)
theorem MkN.levUp {d : Dc} {m : Mk} {t y l v : Nat} (h : MkN m t y l v) : MkN (levUp d m) t y l (v + 1) := by
 unfold Go.Proofs.Ytkgbifbbpmdpgaa.levUp
 have := h.lv
 split
 · exact ⟨h.tk, h.gv, h.ty, h.lf, by simp only; omega⟩
 · exact h.wide (Nat.le_refl _) (Nat.le_refl _) (Nat.le_refl _) (by omega)
theorem MkN.dclTo {ds : List Dc} {s : Mk × ByteArray} {t y l v : Nat} (h : MkN s.1 t y l v) (hs : ∀ d ∈ ds, d.syms.length ≤ 300) : ∀ i, MkN (dclTo ds s i).1 (t + 300 * i) (y + 300 * i) l (v + i)
 | 0 => h
 | i + 1 => by
   have h1 := MkN.dclTo h hs i
   have hk : (ds.getD i noDc).syms.length ≤ 300 := by
    rw [List.getD_eq_getElem?_getD]
    cases e : ds[i]? with
    | none => exact Nat.zero_le _
    | some d => exact hs d (List.mem_of_getElem? e)
   have h2 := MkN.symTo (d := ds.getD i noDc) (s := (Go.Proofs.Ytkgbifbbpmdpgaa.levUp (ds.getD i noDc) (Go.Proofs.Ytkgbifbbpmdpgaa.dclTo ds s i).1, (Go.Proofs.Ytkgbifbbpmdpgaa.dclTo ds s i).2)) h1.levUp (ds.getD i noDc).syms.length
   exact h2.wide (by omega) (by omega) (Nat.le_refl _) (by omega)
end
section
open Go.RowKit
def OfI (w0 w : World) (M : Nat) (m : Mk) : Prop := ∃ F S, MkV w w0.heap.size M F S m ∧ Below w0.heap.size w0 w
section
variable {w0 w w' : World} {M : Nat} {m m' : Mk}
theorem OfI.below (h : OfI w0 w M m) (hb : Below w.heap.size w w') : OfI w0 w' M m := by
 obtain ⟨F, S, h1, h2⟩ := h
 exact ⟨F, S, h1.below hb, h2.trans (hb.mono h2.size)⟩
theorem OfI.low (h : OfI w0 w M m) : Below w0.heap.size w0 w := by obtain ⟨F, S, h1, h2⟩ := h; exact h2
theorem OfI.goes {F S : Nat → Prop} {r : Value} {e : Ending} (h1 : MkV w w0.heap.size M F S m) (h2 : Below w0.heap.size w0 w) (h : Goes w w0.heap.size M F S m' r e w') : e = .returned r ∧ OfI w0 w' M m' := by
 obtain ⟨F', e, a, b, c⟩ := h
 exact ⟨e, F', S, a, h2.trans (c.below (fun b hb => (h1.lt b (.inl hb)).1) h2.size)⟩
theorem OfI.declare (h : OfI w0 w M m) (dv : Value) (d : Dc) (hdv : DcV w dv d) (x : Sm) (hk : 1 ≤ d.kind ∧ d.kind ≤ 5) (hx : x.lit = true → 1 ≤ x.name.size) (hn : m.toks.length ≤ 900000) (hl : m.given.length = m.toks.length) (hty : m.types.length ≤ 1000000) :
  Calls Try.prog 44 #[.pointer (some ⟨M, 0, none⟩), dv, x.agg] w (fun e w' => e = .returned (.tuple #[]) ∧ OfI w0 w' M (m.declare d x)) := by
 obtain ⟨F, S, h1, h2⟩ := h
 exact (declare_any h1 dv d hdv x hk hx hn hl hty).mono (fun e w' hg => OfI.goes h1 h2 hg)
theorem OfI.fail (h : OfI w0 w M m) (p : Int) (n : ByteArray) : Calls Try.prog 45 #[.pointer (some ⟨M, 0, none⟩), .int .i64 p, .string n] w (fun e w' => e = .returned (.tuple #[]) ∧ OfI w0 w' M (m.fail p n)) := by
 obtain ⟨F, S, h1, h2⟩ := h
 exact (fail_any h1 p n).mono (fun e w' hg => OfI.goes h1 h2 hg)
theorem OfI.tok (h : OfI w0 w M m) (x : Sm) : Calls Try.prog 46 #[.pointer (some ⟨M, 0, none⟩), x.agg] w (fun e w' => e = .returned (.int .i64 (m.tok x)) ∧ Below w.heap.size w w') := by
 obtain ⟨F, S, h1, h2⟩ := h
 exact tok_any h1 x
theorem OfI.left (h : OfI w0 w M m) (n : ByteArray) : Calls Try.prog 47 #[.pointer (some ⟨M, 0, none⟩), .string n] w (fun e w' => e = .returned (.int .i64 (m.left n)) ∧ Below w.heap.size w w') := by
 obtain ⟨F, S, h1, h2⟩ := h
 exact left_any h1 n
theorem OfI.typeOf (h : OfI w0 w M m) (n : ByteArray) : Calls Try.prog 49 #[.pointer (some ⟨M, 0, none⟩), .string n] w (fun e w' => e = .returned (.int .i64 (m.typeOf n)) ∧ Below w.heap.size w w') := by
 obtain ⟨F, S, h1, h2⟩ := h
 exact typeOf_any h1 n
theorem OfI.alt (h : OfI w0 w M m) (ln : ByteArray) (pv : Value) (a : Al) (hpv : ∀ V, Below w0.heap.size w0 V → PtsV V pv a.parts) (hok : ∀ p ∈ a.parts, p.code.size = 0 → p.sym.lit = true → 1 ≤ p.sym.name.size) (hpr : a.prec.name.size ≠ 0 → a.prec.lit = true → 1 ≤ a.prec.name.size)
  (hpl : a.parts.length ≤ 1000) (hn : m.toks.length ≤ 800000) (hl : m.given.length = m.toks.length) (hlf : m.lefts.length ≤ 1000000) (hp : m.prods.length ≤ 1000000) (hin : 0 ≤ m.inner ∧ m.inner ≤ 1000000) :
  Calls Try.prog 48 #[.pointer (some ⟨M, 0, none⟩), .string ln, .agg #[pv, .string a.prec.name, .bool a.prec.lit, .int .i64 a.prec.num, .int .i64 a.prec.pos, .int .i64 a.pos]] w (fun e w' => e = .returned (.tuple #[]) ∧ OfI w0 w' M (m.alt ln a)) := by
 obtain ⟨F, S, h1, h2⟩ := h
 refine (alt_any h1 ln pv a (fun V hV => hpv V (h2.trans hV)) hok hpr hpl hn hl hlf hp hin).mono ?_
 rintro e w' ⟨F', S', q1, q2, q3, q4, q5⟩
 exact ⟨q1, F', S', q2, h2.trans (q5.below (fun b hb => (h1.lt b (.inl hb)).1) h2.size)⟩
theorem OfI.level (h : OfI w0 w M m) : w.cell? ⟨M, 11, none⟩ = some (.int .i64 m.level) ∧ w.frozen? ⟨M, 11, none⟩ = false ∧ ∀ q : Int, OfI w0 (w.setCell ⟨M, 11, none⟩ (.int .i64 q)) M { m with level := q } := by
 obtain ⟨F, S, h1, h2⟩ := h
 obtain ⟨tv, pv, gv, yv, lv, ys, hFi, hO⟩ := h1.opened
 refine ⟨hO.1.cell 11, hO.1.free 11, fun q => ⟨F, S, ⟨⟨tv, pv, gv, yv, lv, ys, hFi, StW.put hO.1 11 (.int .i64 q), hO.2.frame (D := fun b => b = M) (Fr.set w _ _ rfl) (fun b hS e => (hO.1.low b hS).2.2 e)⟩⟩, h2.trans ((Fr.set (D := fun b => b = M) w ⟨M, 11, none⟩ _ rfl).below (fun b hb => by rw [hb]; exact hO.1.mB) h2.size)⟩⟩
end
end
end Go.Proofs.Ytkgbifbbpmdpgaa
