/- A grammar as it lies in memory; what Of leaves. -/
import Derived.Test.YtkgbifbbpmdpgaaNOf18
set_option linter.unusedVariables false
set_option linter.unusedSimpArgs false
namespace Go.Proofs.Ytkgbifbbpmdpgaa

open Go.RowKit
def PdsV (w : World) (v : Value) (l : List Pd) : Prop := ListV 6 pdR w v l
def GmV (w : World) (v : Value) (g : Gm) : Prop := ∃ tv nv pv, v = .agg #[tv, nv, pv, .string g.pro, .string g.tail] ∧ TksV w tv g.toks ∧ NnsV w nv g.nons ∧ PdsV w pv g.prods
def GmGo (r : Gm × Int × Int × ByteArray) (w : World) (E : Ending) (w' : World) : Prop := ∃ (t n p : Option Addr) (n1 c1 n2 c2 n3 c3 : Nat) (S : Nat → Prop),
 E = .returned (.tuple #[.agg #[.slice t n1 c1, .slice n n2 c2, .slice p n3 c3, .string r.1.pro, .string r.1.tail], .int .i64 r.2.1, .int .i64 r.2.2.1, .string r.2.2.2]) ∧
 Firm S w' (fun X => GmV X (.agg #[.slice t n1 c1, .slice n n2 c2, .slice p n3 c3, .string r.1.pro, .string r.1.tail]) r.1) ∧ (∀ b, S b → w.heap.size ≤ b) ∧ Below w.heap.size w w'
theorem own_firm {α : Type} {f : α → List Value} {w : World} {B size : Nat} {E : TypeId} {v : Value} {l : List α} (hf : ∀ x, (f x).length = size) (hs : 0 < size) (h : w.ownsRow B E size v l.length (l.flatMap f)) :
  Firm (fun b => v.ownBlock = some b) w (fun X => ListV size (fun _ cs x => cs = f x) X v l) :=
 ⟨fun b e => (h.lt b e).2, fun X hX => own_list hf hs (row_kept h (fun k e => hX k e))⟩
def OfZ (w0 w : World) (M : Nat) (g : Gm) : Prop := ∃ (t n p : Option Addr) (n1 c1 n2 c2 n3 c3 : Nat) (rest : List Value) (S : Nat → Prop),
 w.heap[M]? = some (.cells (List.toArray (.slice t n1 c1 :: .slice n n2 c2 :: .slice p n3 c3 :: .string g.pro :: .string g.tail :: rest)) 99 (0, 0)) ∧ w0.heap.size ≤ M ∧
 Firm S w (fun X => TksV X (.slice t n1 c1) g.toks ∧ NnsV X (.slice n n2 c2) g.nons ∧ PdsV X (.slice p n3 c3) g.prods) ∧ (∀ b, S b → w0.heap.size ≤ b) ∧ Below w0.heap.size w0 w
section
variable {w0 w W : World} {M : Nat} {m : Mk} {ns : List Nn}
theorem OfZ.of {S : Nat → Prop} {tv nv pv gv yv lv : Value} {ys rest : List Value} {a b : ByteArray} (h : StW W w0.heap.size M 99 (tv :: nv :: pv :: .string a :: .string b :: rest) (gRows tv nv pv gv yv lv ys m ns) S)
  (hf : Firm S W (fun W => ∀ i p, m.prods[i]? = some p → pdR W ((ys.drop (i * 6)).take 6) p)) (hb : Below w0.heap.size w0 W) : OfZ w0 W M ⟨m.toks, ns, m.prods, a, b⟩ := by
 have o1 := h.own ⟨52, 6, tv, m.toks.length, m.toks.flatMap tkC⟩ (by simp [gRows, mkRows])
 have o2 := h.own ⟨106, 2, nv, ns.length, ns.flatMap nnC⟩ (by simp [gRows, mkRows])
 have o3 := h.own ⟨87, 6, pv, m.prods.length, ys⟩ (by simp [gRows, mkRows])
 have a3 : ∀ b, S b → pv.ownBlock ≠ some b := fun b hb => h.apart b hb ⟨87, 6, pv, m.prods.length, ys⟩ (by simp [gRows, mkRows])
 have f1 : Firm (fun b => tv.ownBlock = some b) W (fun X => TksV X tv m.toks) := own_firm (fun _ => rfl) (by omega) o1
 have f2 : Firm (fun b => nv.ownBlock = some b) W (fun X => NnsV X nv ns) := own_firm (fun _ => rfl) (by omega) o2
 have g3 : GrowL w0.heap.size 87 6 pdR S W pv ys m.prods := ⟨o3, hf, fun k e hS => a3 k hS e⟩
 have f3 : Firm (fun b => S b ∨ pv.ownBlock = some b) W (fun X => PdsV X pv m.prods) := ⟨fun b hb => g3.lt b hb, fun X hX => (g3.keep hX).list (by omega)⟩
 obtain ⟨t, c1, rfl, _⟩ := f1.self
 obtain ⟨n, c2, rfl, _⟩ := f2.self
 obtain ⟨p, c3, rfl, _⟩ := f3.self
 refine ⟨t, n, p, _, c1, _, c2, _, c3, rest, _, h.box, h.mB, f1.and (f2.and f3), fun b hb => ?_, hb⟩
 rcases hb with hb | hb | hb | hb
 · exact (o1.lt b hb).1
 · exact (o2.lt b hb).1
 · exact (h.low b hb).1
 · exact (o3.lt b hb).1
theorem OfG.last (h : OfG w0 w M m ns) (a b : ByteArray) : (w.frozen? ⟨M, 3, none⟩ = false ∧ w.frozen? ⟨M, 4, none⟩ = false) ∧
  OfZ w0 ((w.setCell ⟨M, 3, none⟩ (.string a)).setCell ⟨M, 4, none⟩ (.string b)) M ⟨m.toks, ns, m.prods, a, b⟩ ∧ OfZ w0 ((w.setCell ⟨M, 4, none⟩ (.string b)).setCell ⟨M, 3, none⟩ (.string a)) M ⟨m.toks, ns, m.prods, a, b⟩ := by
 obtain ⟨F, S, h1, h2⟩ := h
 obtain ⟨tv, nv, pv, gv, yv, lv, ys, hFi, hO, hP⟩ := h1.is
 have key : ∀ (j k : Nat) (u v : Value), Firm S ((w.setCell ⟨M, j, none⟩ u).setCell ⟨M, k, none⟩ v) (fun W => ∀ i p, m.prods[i]? = some p → pdR W ((ys.drop (i * 6)).take 6) p) ∧ Below w0.heap.size w0 ((w.setCell ⟨M, j, none⟩ u).setCell ⟨M, k, none⟩ v) := fun j k u v => by
  refine ⟨hP.keep (fun b hb => ?_), ?_⟩
  · have hne := (hO.low b hb).2.2
    exact (Below.heap_setCell _ _ _ b (show b ≠ M from hne)).trans (Below.heap_setCell _ _ _ b (show b ≠ M from hne))
  · exact (h2.setCell (p := ⟨M, j, none⟩) hO.mB u).setCell (p := ⟨M, k, none⟩) hO.mB v
 refine ⟨⟨hO.free 3, hO.free 4⟩, ?_, ?_⟩
 · exact OfZ.of ((hO.put 3 (.string a)).put 4 (.string b)) (key 3 4 _ _).1 (key 3 4 _ _).2
 · exact OfZ.of ((hO.put 4 (.string b)).put 3 (.string a)) (key 4 3 _ _).1 (key 4 3 _ _).2
theorem OfG.lens (h : OfG w0 w M m ns) : ∃ t c1 n c2 p c3, w.cell? ⟨M, 0, none⟩ = some (.slice t m.toks.length c1) ∧ w.cell? ⟨M, 1, none⟩ = some (.slice n ns.length c2) ∧ w.cell? ⟨M, 2, none⟩ = some (.slice p m.prods.length c3) := by
 have hl := (h.last ⟨#[]⟩ ⟨#[]⟩).2.1
 obtain ⟨F, S, h1, h2⟩ := h
 obtain ⟨tv, nv, pv, gv, yv, lv, ys, hFi, hO, hP⟩ := h1.is
 obtain ⟨t, c1, e1, _⟩ := (own_list (fun _ => rfl) (by omega) (hO.own ⟨52, 6, tv, m.toks.length, m.toks.flatMap tkC⟩ (by simp [gRows, mkRows])) : TksV w tv m.toks)
 obtain ⟨n, c2, e2, _⟩ := (own_list (fun _ => rfl) (by omega) (hO.own ⟨106, 2, nv, ns.length, ns.flatMap nnC⟩ (by simp [gRows, mkRows])) : NnsV w nv ns)
 obtain ⟨p, c3, e3, _⟩ := (GrowL.list (S := S) (R := pdR) ⟨hO.own ⟨87, 6, pv, m.prods.length, ys⟩ (by simp [gRows, mkRows]), hP, fun k e hS => hO.apart k hS ⟨87, 6, pv, m.prods.length, ys⟩ (by simp [gRows, mkRows]) e⟩ (by omega) : PdsV w pv m.prods)
 subst e1 e2 e3
 exact ⟨t, c1, n, c2, p, c3, hO.cell 0, hO.cell 1, hO.cell 2⟩
theorem OfI.errs (h : OfI w0 w M m) : w.cell? ⟨M, 8, none⟩ = some (.int .i64 m.e) ∧ w.cell? ⟨M, 9, none⟩ = some (.int .i64 m.pos) ∧ w.cell? ⟨M, 10, none⟩ = some (.string m.name) ∧ w.frozen? ⟨M, 1, none⟩ = false ∧ w.frozen? ⟨M, 2, none⟩ = false ∧ w.cell? ⟨M, 1, none⟩ = some (.slice none 0 0) ∧ (∃ pv, w.cell? ⟨M, 2, none⟩ = some pv) ∧ M < w.heap.size := by
 obtain ⟨F, S, h1, h2⟩ := h
 obtain ⟨tv, pv, gv, yv, lv, ys, hFi, hO⟩ := h1.opened
 exact ⟨hO.1.cell 8, hO.1.cell 9, hO.1.cell 10, hO.1.free 1, hO.1.free 2, hO.1.cell 1, ⟨_, hO.1.cell 2⟩, hO.1.mlt⟩
theorem OfI.nons (h : OfI w0 w M m) (k : Nn) : OfG w0 ((w.alloc (.cells (nnC k).toArray 106)).setCell ⟨M, 1, none⟩ (.slice (some ⟨w.heap.size, 0, none⟩) 1 1)) M m [k] := by
 obtain ⟨F, S, h1, h2⟩ := h
 obtain ⟨tv, pv, gv, yv, lv, ys, hFi, hO⟩ := h1.opened
 obtain ⟨g1, g2⟩ := hO.nons (k := k)
 exact ⟨_, S, ⟨⟨tv, _, pv, gv, yv, lv, ys, fun _ => Iff.rfl, g1⟩⟩, h2.trans (g2.below (fun b hb => by rw [hb]; exact hO.1.mB) h2.size)⟩
end
end Go.Proofs.Ytkgbifbbpmdpgaa
