/- A list that grows in a box: one more element, and the box holds the new slice. Of no program. -/
import Derived.Test.YtkgbifbbpmdpgaaNShape
import Derived.Deep.AppendLies
import Derived.Test.YtkgbifbbpmdpgaaNBase
import Derived.Test.YtkgbifbbpmdpgaaProg
import Derived.Test.YtkgbifbbpmdpgaaNStW
import Derived.Deep.OwnRows
import Derived.Deep.RegionLaw
import Derived.Deep.CutBlock
import Derived.Deep.CutRange
import Derived.Deep.LoopGhost
import Derived.IntWalk
import Derived.Lib.AppendIntMem
set_option linter.unusedVariables false
set_option linter.unusedSimpArgs false
namespace Go.Proofs.Ytkgbifbbpmdpgaa
section
open Go.RowKit
section
variable {α : Type} {base : Nat} {E : TypeId} {size : Nat} {R : World → List Value → α → Prop} {S S' : Nat → Prop} {V w w5 : World} {v new : Value} {xs cs : List Value} {l : List α} {x : α} {B j : Nat} {cells : Array Value} {T : TypeId}
theorem GrowL.firm (h : GrowL base E size R S w v xs l) (hs : 0 < size) :
  Firm (fun b => S b ∨ v.ownBlock = some b) w (fun w' => ListV size R w' v l) := ⟨h.lt, fun w' hw => (h.keep hw).list hs⟩
theorem GrowL.box (h : GrowL base E size R S V v xs l) (hb : Below V.heap.size V w) (ho : w5.ownsRow base E size new (l.length + 1) (xs ++ cs)) (hg : w.grownBy w5 v.ownBlock)
  (hl : new.ownBlock = v.ownBlock ∨ new.ownBlock = some w.heap.size) (hc : cs.length = size) (hx : Firm S' w (fun w' => R w' cs x)) (hn : ∀ k, v.ownBlock = some k → ¬ S' k)
  (hB : B < base) (hbox : V.heap[B]? = some (.cells cells T (0, 0))) (hS : ∀ b, S b ∨ S' b → b ≠ B) :
  GrowL base E size R (fun b => S b ∨ S' b) (w5.setCell ⟨B, j, none⟩ new) new (xs ++ cs) (l ++ [x]) ∧
  (w5.setCell ⟨B, j, none⟩ new).heap[B]? = some (.cells (cells.setIfInBounds j new) T (0, 0)) ∧
  (∀ D, D ≤ B → Below D w (w5.setCell ⟨B, j, none⟩ new)) ∧ (∀ b, b < w.heap.size → b ≠ B → b < base → (w5.setCell ⟨B, j, none⟩ new).heap[b]? = w.heap[b]?) := by
 have hlt : B < V.heap.size := (Array.getElem?_eq_some_iff.1 hbox).1
 have hne : ∀ k, v.ownBlock = some k → B < k := fun k hk => Nat.lt_of_lt_of_le hB (own_base h.own (Nat.le_refl _) k hk)
 have p := (h.below hb).push ho hg hl hc hx hn
 refine ⟨p.keep (fun b hb' => Below.heap_setCell _ _ _ _ ?_), block_setCell ?_, fun D hD => ?_, fun b hb1 hb2 hb3 => (Below.heap_setCell _ _ _ _ hb2).trans (hg.block b hb1 (fun e => by have := own_base h.own (Nat.le_refl _) b e.symm; omega))⟩
 · show b ≠ B
   rcases hb' with hb' | hb'
   · exact hS b hb'
   · have := own_base ho (Nat.le_refl _) b hb'
     omega
 · exact (hg.block B (Nat.lt_of_lt_of_le hlt hb.size) (fun e => Nat.lt_irrefl _ (hne B e.symm))).trans ((hb.block B hlt).trans hbox)
 · have h1 := hb.size
   exact ((Below.refl D w).grown hg (by omega) (fun k hk => by have := hne k hk; omega)).setCell hD new
theorem GrowL.box0 (h : GrowL base E size R (fun _ => False) V v xs l) (hb : Below V.heap.size V w) (ho : w5.ownsRow base E size new (l.length + 1) (xs ++ cs)) (hg : w.grownBy w5 v.ownBlock)
  (hl : new.ownBlock = v.ownBlock ∨ new.ownBlock = some w.heap.size) (hc : cs.length = size) (hx : ∀ w', R w' cs x)
  (hB : B < base) (hbox : V.heap[B]? = some (.cells cells T (0, 0))) :
  GrowL base E size R (fun _ => False) (w5.setCell ⟨B, j, none⟩ new) new (xs ++ cs) (l ++ [x]) ∧
  (w5.setCell ⟨B, j, none⟩ new).heap[B]? = some (.cells (cells.setIfInBounds j new) T (0, 0)) ∧
  (∀ D, D ≤ B → Below D w (w5.setCell ⟨B, j, none⟩ new)) ∧ (∀ b, b < w.heap.size → b ≠ B → b < base → (w5.setCell ⟨B, j, none⟩ new).heap[b]? = w.heap[b]?) := by
 have p := h.box (j := j) hb ho hg hl hc (Firm.pure hx) (fun _ _ h => h) hB hbox (fun b hb => (hb.elim id id).elim)
 rw [show (fun b : Nat => (fun _ => False) b ∨ (fun _ => False) b) = fun _ => False from funext (fun b => by simp)] at p
 exact p
theorem own_new {gg n cap H : Nat} (h : v.ownBlock = some gg ∨ gg = H) (hH : H = w.heap.size) : (Value.slice (some ⟨gg, 0, none⟩) n cap).ownBlock = v.ownBlock ∨ (Value.slice (some ⟨gg, 0, none⟩) n cap).ownBlock = some w.heap.size := by
 subst hH
 rcases h with h | h
 · exact .inl (by rw [h]; rfl)
 · exact .inr (by rw [h]; rfl)
end
end
section
section
open Go.RowKit
theorem own_below {w w' : World} {base : Nat} {e : TypeId} {size n : Nat} {v : Value} {xs : List Value} (h : w.ownsRow base e size v n xs) (hb : Below w.heap.size w w') : w'.ownsRow base e size v n xs := by
 obtain ⟨h1, h2⟩ := h
 refine ⟨h1, ?_⟩
 rcases h2 with h2 | ⟨g, cap, cur, hv, hg, hh, r⟩
 · exact .inl h2
 · exact .inr ⟨g, cap, cur, hv, hg, block_below hh hb (lt_of_block hh), r⟩
def cutT (s : ByteArray) (m : Nat) : ByteArray := if m < s.size then s.extract 0 m else s
theorem cutT_size (s : ByteArray) (m : Nat) : (cutT s m).size ≤ m := by
 unfold cutT; split
 · simp; omega
 · omega
theorem text_any (s : ByteArray) (m : Nat) (w : World) (hs : s.size ≤ maxLen) (hm : m ≤ 1000000) :
  Calls Try.prog 29 #[.string s, .int .i64 m] w fun e w' => e = .returned (.string (cutT s m)) ∧ w = w' := by
 unfold maxLen at hs
 by_cases h : m < s.size
 · have hc := Lib.hid (show cutT s m = s.extract 0 m from if_pos h)
   have hm' : m ≤ s.size := Nat.le_of_lt h
   have d1 : decide ((m : Int) < (s.size : Int)) = true := by simp; omega
   go_enter Try.func29, Try.ntmps29
   go_wp2
   go_ret
   exact ⟨ret_str hc.out.symm, rfl⟩
 · have hc := Lib.hid (show cutT s m = s from if_neg h)
   have d1 : decide ((m : Int) < (s.size : Int)) = false := by simp; omega
   go_enter Try.func29, Try.ntmps29
   go_wp2
   go_ret
   exact ⟨ret_str hc.out.symm, rfl⟩
end
section
open Go.RowKit
theorem tmod_emod (i : Int) (n : Nat) (hn : 0 < n) : (if Int.tmod i n < 0 then Int.tmod i n + n else Int.tmod i n) = i % n := by
 have h := Int.emod_nonneg i (show (n : Int) ≠ 0 by omega)
 by_cases h0 : 0 ≤ i
 · rw [Int.tmod_eq_emod_of_nonneg h0, if_neg (by omega)]
 · rw [Int.tmod_eq_emod]
   split <;> rename_i h1
   · rcases h1 with h1 | h1
     · omega
     · have : i % n = 0 := Int.emod_eq_zero_of_dvd h1
       rw [this]
       simp
   · have h2 := Int.emod_lt_of_pos i (show (0 : Int) < n by omega)
     have e : ((n : Int).natAbs : Int) = n := by omega
     rw [e, if_pos (by omega)]; omega
set_option maxRecDepth 100000 in
theorem within_any (i : Int) (n : Nat) (w : World) (hi : (Lit.int .i64 i).wf = true) (hn : 0 < n) (hn2 : n ≤ 1000000) :
  Calls Try.prog 20 #[.int .i64 i, .int .i64 n] w fun e w' => e = .returned (.int .i64 (i % n)) ∧ w = w' := by
 have hw : -9223372036854775808 ≤ i ∧ i ≤ 9223372036854775807 := by simpa [Lit.wf, IntKind.min, IntKind.max, IntKind.signed, IntKind.bits] using hi
 have HM := Lib.hid (tmod_emod i n hn)
 have hl : -1000000 ≤ Int.tmod i n ∧ Int.tmod i n ≤ 1000000 := by
  have h := tmod_emod i n hn
  have h1 := Int.emod_nonneg i (show (n : Int) ≠ 0 by omega)
  have h2 := Int.emod_lt_of_pos i (show (0 : Int) < n by omega)
  split at h <;> omega
 obtain ⟨l1, l2⟩ := hl
 go_enter Try.func20, Try.ntmps20
 go_wp2
 all_goals
  go_ret
  exact ⟨ret_int (by have e := HM.out; grind), rfl⟩
end
section
open Go.RowKit
end
open Go.RowKit
theorem cell_alloc {w : World} {p : Addr} {u : Value} (h : w.cell? p = some u) (o : Obj) : (w.alloc o).cell? p = some u :=
 (((Below.refl w.heap.size w).alloc (Nat.le_refl _) o).cell (World.block_lt_of_cell? _ _ h)).trans h
open Go.RowKit
theorem heap_put (w : World) (o : Obj) {b : Nat} {x : Obj} (h : w.heap[b]? = some x) : (w.alloc o).heap[b]? = some x := by
 rw [Below.heap_alloc w o b (by rcases Nat.lt_or_ge b w.heap.size with h' | h'; exact h'; rw [Array.getElem?_eq_none h'] at h; cases h)]; exact h
theorem heap_new (w : World) (cs : Array Value) (T : TypeId) (b : Nat) (hb : b = w.heap.size) : (w.alloc (.cells cs T)).heap[b]? = some (.cells cs T (0, 0)) := by subst hb; exact heap_alloc_new w _
open Go.RowKit
theorem rdCell_alloc {w : World} {p : Addr} {u : Value} (h : w.cell? p = some u) (o : Obj) : (w.alloc o).cell? p = some u :=
 (((Below.refl w.heap.size w).alloc (Nat.le_refl _) o).cell (World.block_lt_of_cell? _ _ h)).trans h
theorem heap_keep (w : World) (o : Obj) {b : Nat} {x : Obj} (h : w.heap[b]? = some x) : (w.alloc o).heap[b]? = some x := by
 rw [Below.heap_alloc w o b (by rcases Nat.lt_or_ge b w.heap.size with h' | h'; exact h'; rw [Array.getElem?_eq_none h'] at h; cases h)]; exact h
theorem heap_made (w : World) (cs : Array Value) (T : TypeId) (b : Nat) (hb : b = w.heap.size) : (w.alloc (.cells cs T)).heap[b]? = some (.cells cs T (0, 0)) := by subst hb; exact heap_alloc_new w _
def only (a b : Nat) : Prop := b = a
section
variable {w0 w : World} {a : Nat} {wv : Value} {n : Nat} {hp : Bool} {pro : ByteArray} {dv rv : Value}
theorem Turns.heap {S : Nat → Prop} {a b : World} (h : Turns S a b) {k : Nat} {o : Obj} (hk : a.heap[k]? = some o) (hS : ¬ S k) : b.heap[k]? = some o := (h.block k (Array.getElem?_eq_some_iff.1 hk).1 hS).trans hk
end
open Go.RowKit
theorem rd_info {i : Option TypeInfo} {z : Option Value} {a b : Nat} (h : i.map (fun i => (i.zero, i.size, i.bytes)) = some (z, a, b)) : ∃ x, i = some x ∧ x.zero = z ∧ x.size = a ∧ x.bytes = b := by
 match i, h with
 | some x, h =>
   simp only [Option.map_some, Option.some.injEq, Prod.mk.injEq] at h
   exact ⟨x, rfl, h.1, h.2.1, h.2.2⟩
theorem rd_news (w : World) (l : List Value) (t : TypeId) : ∀ j u, l[j]? = some u → (w.alloc (.cells l.toArray t)).cell? ((⟨w.heap.size, 0, none⟩ : Addr).add j) = some u := by
 intro j u hj
 rw [show ((⟨w.heap.size, 0, none⟩ : Addr).add j) = ⟨w.heap.size, j, none⟩ from by simp [Addr.add]; intro h; exact h.symm]
 exact (cell_top w l.toArray t _ j rfl).trans (by rw [List.getElem?_toArray]; exact hj)
theorem rd_slice {w : World} {base : Nat} {e : TypeId} {size n : Nat} {v : Value} {xs : List Value} (h : w.ownsRow base e size v n xs) : ∃ a c, v = .slice a n c := by
 rcases h.2 with ⟨rfl, h0⟩ | ⟨g, cap, cur, rfl, _⟩
 · exact ⟨none, 0, by rw [h0]⟩
 · exact ⟨_, cap, rfl⟩
section
variable {n : Nat} {k : Int}
end
end
section
open Go.RowKit
structure Sm where
 name : ByteArray
 lit : Bool
 num : Int
 pos : Int
structure Pt where
 sym : Sm
 code : ByteArray
 pos : Int
structure Al where
 parts : List Pt
 prec : Sm
 pos : Int
structure Rl where
 left : ByteArray
 alts : List Al
 pos : Int
structure Dc where
 kind : Int
 tag : ByteArray
 syms : List Sm
 pos : Int
structure So where
 pro : ByteArray
 decls : List Dc
 rules : List Rl
 tail : ByteArray
def noSm : Sm := ⟨ByteArray.empty, false, 0, 0⟩
instance : Inhabited Sm := ⟨noSm⟩
instance : Inhabited Pt := ⟨⟨noSm, ByteArray.empty, 0⟩⟩
instance : Inhabited Al := ⟨⟨[], noSm, 0⟩⟩
instance : Inhabited Rl := ⟨⟨ByteArray.empty, [], 0⟩⟩
instance : Inhabited Dc := ⟨⟨0, ByteArray.empty, [], 0⟩⟩
def Sm.agg (x : Sm) : Value := .agg #[.string x.name, .bool x.lit, .int .i64 x.num, .int .i64 x.pos]
def Pt.agg (x : Pt) : Value := .agg #[.string x.sym.name, .bool x.sym.lit, .int .i64 x.sym.num, .int .i64 x.sym.pos, .string x.code, .int .i64 x.pos]
def smR (w : World) (cs : List Value) (x : Sm) : Prop := cs = [.string x.name, .bool x.lit, .int .i64 x.num, .int .i64 x.pos]
def ptR (w : World) (cs : List Value) (p : Pt) : Prop := cs = [.string p.sym.name, .bool p.sym.lit, .int .i64 p.sym.num, .int .i64 p.sym.pos, .string p.code, .int .i64 p.pos]
def alR (w : World) (cs : List Value) (a : Al) : Prop := ∃ v, cs = [v, .string a.prec.name, .bool a.prec.lit, .int .i64 a.prec.num, .int .i64 a.prec.pos, .int .i64 a.pos] ∧ ListV 6 ptR w v a.parts
def rlR (w : World) (cs : List Value) (r : Rl) : Prop := ∃ v, cs = [.string r.left, v, .int .i64 r.pos] ∧ ListV 6 alR w v r.alts
def dcR (w : World) (cs : List Value) (d : Dc) : Prop := ∃ v, cs = [.int .i64 d.kind, .string d.tag, v, .int .i64 d.pos] ∧ ListV 4 smR w v d.syms
def SmsV (w : World) (v : Value) (l : List Sm) : Prop := ListV 4 smR w v l
def PtsV (w : World) (v : Value) (l : List Pt) : Prop := ListV 6 ptR w v l
def AlsV (w : World) (v : Value) (l : List Al) : Prop := ListV 6 alR w v l
def RlsV (w : World) (v : Value) (l : List Rl) : Prop := ListV 3 rlR w v l
def DcsV (w : World) (v : Value) (l : List Dc) : Prop := ListV 4 dcR w v l
def SoV (w : World) (v : Value) (s : So) : Prop := ∃ dv rv, v = .agg #[.string s.pro, dv, rv, .string s.tail] ∧ DcsV w dv s.decls ∧ RlsV w rv s.rules
def DcV (w : World) (v : Value) (d : Dc) : Prop := ∃ sv, v = .agg #[.int .i64 d.kind, .string d.tag, sv, .int .i64 d.pos] ∧ SmsV w sv d.syms
def AlV (w : World) (v : Value) (a : Al) : Prop := ∃ pv, v = .agg #[pv, .string a.prec.name, .bool a.prec.lit, .int .i64 a.prec.num, .int .i64 a.prec.pos, .int .i64 a.pos] ∧ PtsV w pv a.parts
def RlV (w : World) (v : Value) (r : Rl) : Prop := ∃ av, v = .agg #[.string r.left, av, .int .i64 r.pos] ∧ AlsV w av r.alts
def SmIn (x : Sm) : Prop := x.name.size ≤ maxLen ∧ (Lit.int .i64 x.num).wf = true ∧ (Lit.int .i64 x.pos).wf = true
def PtIn (x : Pt) : Prop := SmIn x.sym ∧ x.code.size ≤ maxLen ∧ (Lit.int .i64 x.pos).wf = true
def AlIn (x : Al) : Prop := (∀ y ∈ x.parts, PtIn y) ∧ SmIn x.prec ∧ (Lit.int .i64 x.pos).wf = true
def RlIn (x : Rl) : Prop := x.left.size ≤ maxLen ∧ (∀ y ∈ x.alts, AlIn y) ∧ (Lit.int .i64 x.pos).wf = true
def DcIn (x : Dc) : Prop := (Lit.int .i64 x.kind).wf = true ∧ x.tag.size ≤ maxLen ∧ (∀ y ∈ x.syms, SmIn y) ∧ (Lit.int .i64 x.pos).wf = true
def SoIn (x : So) : Prop := x.pro.size ≤ maxLen ∧ (∀ y ∈ x.decls, DcIn y) ∧ (∀ y ∈ x.rules, RlIn y) ∧ x.tail.size ≤ maxLen
section
variable {w w' : World}
theorem SmsV.below {v : Value} {l : List Sm} (h : SmsV w v l) (hb : Below w.heap.size w w') : SmsV w' v l := ListV.below h (fun _ _ h => h) hb
theorem PtsV.below {v : Value} {l : List Pt} (h : PtsV w v l) (hb : Below w.heap.size w w') : PtsV w' v l := ListV.below h (fun _ _ h => h) hb
theorem alR.below {cs : List Value} {a : Al} (h : alR w cs a) (hb : Below w.heap.size w w') : alR w' cs a := by
 obtain ⟨v, h1, h2⟩ := h
 exact ⟨v, h1, PtsV.below h2 hb⟩
theorem AlsV.below {v : Value} {l : List Al} (h : AlsV w v l) (hb : Below w.heap.size w w') : AlsV w' v l := ListV.below h (fun _ _ h => alR.below h hb) hb
theorem rlR.below {cs : List Value} {r : Rl} (h : rlR w cs r) (hb : Below w.heap.size w w') : rlR w' cs r := by
 obtain ⟨v, h1, h2⟩ := h
 exact ⟨v, h1, AlsV.below h2 hb⟩
theorem RlsV.below {v : Value} {l : List Rl} (h : RlsV w v l) (hb : Below w.heap.size w w') : RlsV w' v l := ListV.below h (fun _ _ h => rlR.below h hb) hb
theorem dcR.below {cs : List Value} {d : Dc} (h : dcR w cs d) (hb : Below w.heap.size w w') : dcR w' cs d := by
 obtain ⟨v, h1, h2⟩ := h
 exact ⟨v, h1, SmsV.below h2 hb⟩
theorem DcsV.below {v : Value} {l : List Dc} (h : DcsV w v l) (hb : Below w.heap.size w w') : DcsV w' v l := ListV.below h (fun _ _ h => dcR.below h hb) hb
theorem SoV.below {v : Value} {s : So} (h : SoV w v s) (hb : Below w.heap.size w w') : SoV w' v s := by
 obtain ⟨dv, rv, h1, h2, h3⟩ := h
 exact ⟨dv, rv, h1, h2.below hb, h3.below hb⟩
theorem DcV.below {v : Value} {d : Dc} (h : DcV w v d) (hb : Below w.heap.size w w') : DcV w' v d := by
 obtain ⟨sv, h1, h2⟩ := h
 exact ⟨sv, h1, h2.below hb⟩
theorem AlV.below {v : Value} {a : Al} (h : AlV w v a) (hb : Below w.heap.size w w') : AlV w' v a := by
 obtain ⟨pv, h1, h2⟩ := h
 exact ⟨pv, h1, h2.below hb⟩
theorem RlV.below {v : Value} {r : Rl} (h : RlV w v r) (hb : Below w.heap.size w w') : RlV w' v r := by
 obtain ⟨av, h1, h2⟩ := h
 exact ⟨av, h1, h2.below hb⟩
theorem SmsV.open {v : Value} {l : List Sm} (h : SmsV w v l) : ∃ a n c, v = .slice a n c ∧ Hid (n = l.length) ∧ n ≤ c ∧ c ≤ 9223372036854775807 ∧
  Hid (∀ i, i < n → ∃ b o x, a = some ⟨b, o, none⟩ ∧ l[i]? = some x ∧ w.cell? ⟨b, o + i * 4, none⟩ = some (.string x.name) ∧ w.cell? ⟨b, o + i * 4 + 1, none⟩ = some (.bool x.lit) ∧
   w.cell? ⟨b, o + i * 4 + 2, none⟩ = some (.int .i64 x.num) ∧ w.cell? ⟨b, o + i * 4 + 3, none⟩ = some (.int .i64 x.pos)) := by
 obtain ⟨a, n, c, h1, h2, h3, h4, h5⟩ := ListV.open h
 refine ⟨a, n, c, h1, h2, h3, h4, Lib.hid (fun i hi => ?_)⟩
 obtain ⟨b, o, cs, x, e1, e2, e3, e4, e5⟩ := h5.out i hi
 cases e4
 exact ⟨b, o, x, e1, e2, e5 0 (by omega), e5 1 (by omega), e5 2 (by omega), e5 3 (by omega)⟩
theorem PtsV.open {v : Value} {l : List Pt} (h : PtsV w v l) : ∃ a n c, v = .slice a n c ∧ Hid (n = l.length) ∧ n ≤ c ∧ c ≤ 9223372036854775807 ∧
  Hid (∀ i, i < n → ∃ b o x, a = some ⟨b, o, none⟩ ∧ l[i]? = some x ∧ w.cell? ⟨b, o + i * 6, none⟩ = some (.string x.sym.name) ∧ w.cell? ⟨b, o + i * 6 + 1, none⟩ = some (.bool x.sym.lit) ∧
   w.cell? ⟨b, o + i * 6 + 2, none⟩ = some (.int .i64 x.sym.num) ∧ w.cell? ⟨b, o + i * 6 + 3, none⟩ = some (.int .i64 x.sym.pos) ∧ w.cell? ⟨b, o + i * 6 + 4, none⟩ = some (.string x.code) ∧ w.cell? ⟨b, o + i * 6 + 5, none⟩ = some (.int .i64 x.pos)) := by
 obtain ⟨a, n, c, h1, h2, h3, h4, h5⟩ := ListV.open h
 refine ⟨a, n, c, h1, h2, h3, h4, Lib.hid (fun i hi => ?_)⟩
 obtain ⟨b, o, cs, x, e1, e2, e3, e4, e5⟩ := h5.out i hi
 cases e4
 exact ⟨b, o, x, e1, e2, e5 0 (by omega), e5 1 (by omega), e5 2 (by omega), e5 3 (by omega), e5 4 (by omega), e5 5 (by omega)⟩
theorem AlsV.open {v : Value} {l : List Al} (h : AlsV w v l) : ∃ a n c, v = .slice a n c ∧ Hid (n = l.length) ∧ n ≤ c ∧ c ≤ 9223372036854775807 ∧
  Hid (∀ i, i < n → ∃ b o x pv, a = some ⟨b, o, none⟩ ∧ l[i]? = some x ∧ PtsV w pv x.parts ∧ w.cell? ⟨b, o + i * 6, none⟩ = some pv ∧ w.cell? ⟨b, o + i * 6 + 1, none⟩ = some (.string x.prec.name) ∧
   w.cell? ⟨b, o + i * 6 + 2, none⟩ = some (.bool x.prec.lit) ∧ w.cell? ⟨b, o + i * 6 + 3, none⟩ = some (.int .i64 x.prec.num) ∧ w.cell? ⟨b, o + i * 6 + 4, none⟩ = some (.int .i64 x.prec.pos) ∧ w.cell? ⟨b, o + i * 6 + 5, none⟩ = some (.int .i64 x.pos)) := by
 obtain ⟨a, n, c, h1, h2, h3, h4, h5⟩ := ListV.open h
 refine ⟨a, n, c, h1, h2, h3, h4, Lib.hid (fun i hi => ?_)⟩
 obtain ⟨b, o, cs, x, e1, e2, e3, e4, e5⟩ := h5.out i hi
 obtain ⟨pv, rfl, e6⟩ := e4
 exact ⟨b, o, x, pv, e1, e2, e6, e5 0 (by omega), e5 1 (by omega), e5 2 (by omega), e5 3 (by omega), e5 4 (by omega), e5 5 (by omega)⟩
theorem RlsV.open {v : Value} {l : List Rl} (h : RlsV w v l) : ∃ a n c, v = .slice a n c ∧ Hid (n = l.length) ∧ n ≤ c ∧ c ≤ 9223372036854775807 ∧
  Hid (∀ i, i < n → ∃ b o x av, a = some ⟨b, o, none⟩ ∧ l[i]? = some x ∧ AlsV w av x.alts ∧ w.cell? ⟨b, o + i * 3, none⟩ = some (.string x.left) ∧ w.cell? ⟨b, o + i * 3 + 1, none⟩ = some av ∧ w.cell? ⟨b, o + i * 3 + 2, none⟩ = some (.int .i64 x.pos)) := by
 obtain ⟨a, n, c, h1, h2, h3, h4, h5⟩ := ListV.open h
 refine ⟨a, n, c, h1, h2, h3, h4, Lib.hid (fun i hi => ?_)⟩
 obtain ⟨b, o, cs, x, e1, e2, e3, e4, e5⟩ := h5.out i hi
 obtain ⟨av, rfl, e6⟩ := e4
 exact ⟨b, o, x, av, e1, e2, e6, e5 0 (by omega), e5 1 (by omega), e5 2 (by omega)⟩
theorem DcsV.open {v : Value} {l : List Dc} (h : DcsV w v l) : ∃ a n c, v = .slice a n c ∧ Hid (n = l.length) ∧ n ≤ c ∧ c ≤ 9223372036854775807 ∧
  Hid (∀ i, i < n → ∃ b o x sv, a = some ⟨b, o, none⟩ ∧ l[i]? = some x ∧ SmsV w sv x.syms ∧ w.cell? ⟨b, o + i * 4, none⟩ = some (.int .i64 x.kind) ∧ w.cell? ⟨b, o + i * 4 + 1, none⟩ = some (.string x.tag) ∧
   w.cell? ⟨b, o + i * 4 + 2, none⟩ = some sv ∧ w.cell? ⟨b, o + i * 4 + 3, none⟩ = some (.int .i64 x.pos)) := by
 obtain ⟨a, n, c, h1, h2, h3, h4, h5⟩ := ListV.open h
 refine ⟨a, n, c, h1, h2, h3, h4, Lib.hid (fun i hi => ?_)⟩
 obtain ⟨b, o, cs, x, e1, e2, e3, e4, e5⟩ := h5.out i hi
 obtain ⟨sv, rfl, e6⟩ := e4
 exact ⟨b, o, x, sv, e1, e2, e6, e5 0 (by omega), e5 1 (by omega), e5 2 (by omega), e5 3 (by omega)⟩
end
section
variable {α β : Type}
theorem all_next {l : List α} {p : α → Bool} {k : Nat} {x : α} (hx : l[k]? = some x) (h : (l.take k).all p = true) (hp : p x = true) : (l.take (k + 1)).all p = true := by
 obtain ⟨hk, rfl⟩ := List.getElem?_eq_some_iff.1 hx
 rw [List.take_succ_eq_append_getElem hk, List.all_append, h]
 simpa using hp
theorem all_fails {l : List α} {p : α → Bool} {k : Nat} {x : α} (hx : l[k]? = some x) (hp : p x = false) : l.all p = false := by
 rw [List.all_eq_false]
 exact ⟨x, List.mem_of_getElem? hx, by rw [hp]; decide⟩
theorem all_done {l : List α} {p : α → Bool} {k : Nat} (h : (l.take k).all p = true) (hk : l.length ≤ k) : l.all p = true := by
 rwa [List.take_of_length_le hk] at h
end
end
end Go.Proofs.Ytkgbifbbpmdpgaa
