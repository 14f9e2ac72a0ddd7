/- Small lemmas on strings, slices and worlds, of no program. -/
import Derived.WalkKit
import Derived.WalkSpells
import Derived.WalkLawsBesides
import Derived.Deep.QuietTactic
import Derived.BigQuiet
import Derived.Lib.Hide
import Derived.Laws.BytesString
import Derived.OneCell
import Derived.Laws.Rows
import Derived.Laws.OwnMore
import Derived.Deep.RegionLaw
import Derived.Maps.AppendAt
import Derived.Deep.AppendLies
namespace Go.Proofs.YtnoppoifepbchaaDoor
section
open Go.RowKit
set_option linter.unusedVariables false

theorem ret_bool {a b : Bool} (h : a = b) : Ending.returned (.bool a) = .returned (.bool b) := by rw [h]
theorem ret_str {a b : ByteArray} (h : a = b) : Ending.returned (.string a) = .returned (.string b) := by rw [h]
theorem ret_int {k : IntKind} {a b : Int} (h : a = b) : Ending.returned (.int k a) = .returned (.int k b) := by rw [h]

/-- bytes of numbers -/
def bytesOf (ns : List Int) : ByteArray := ⟨(ns.map (fun n => UInt8.ofNat n.toNat)).toArray⟩

theorem foldl_push (ns : List Int) : ∀ (s : ByteArray), ns.foldl (fun r n => r.push (UInt8.ofNat n.toNat)) s = ⟨s.data ++ (ns.map (fun n => UInt8.ofNat n.toNat)).toArray⟩ := by
 induction ns with
 | nil => intro s; simp
 | cons n ns ih =>
   intro s
   rw [List.foldl_cons, ih]
   congr 1
   show (s.data.push _) ++ _ = _
   simp

theorem run_conv_cells {P : Program} (w : World) (src dst e : TypeId) (a : Addr) (ns : List Int) (c : Nat)
  (hs : P.underlying src = some (.slice e)) (he : P.underlying e = some (.int .u8)) (hd : P.underlying dst = some .string)
  (h : ∀ j v, (ns.map (Value.int .u8))[j]? = some v → w.cell? (a.add j) = some v) :
  (convert src dst (.slice (some a) ns.length c)).run P w = .ok (.string (bytesOf ns)) w := by
 rw [run_convert_bytes_string w src dst e _ _ _ hs he hd]
 have hl := run_loadCells_list (P := P) w a (ns.map (Value.int .u8)) h
 rw [List.length_map] at hl
 rw [run_bytesToString w a ns.length c ns hl, foldl_push]
 unfold bytesOf
 simp [ByteArray.empty, ByteArray.emptyWithCapacity]
 rfl

theorem run_conv_new {P : Program} (w : World) (src dst e : TypeId) (ns : List Int) (c : Nat)
  (hs : P.underlying src = some (.slice e)) (he : P.underlying e = some (.int .u8)) (hd : P.underlying dst = some .string) :
  (convert src dst (.slice (some ⟨w.heap.size, 0, none⟩) ns.length c)).run P (w.alloc (.cells (ns.map (Value.int .u8)).toArray e)) = .ok (.string (bytesOf ns)) (w.alloc (.cells (ns.map (Value.int .u8)).toArray e)) := by
 refine run_conv_cells _ src dst e _ ns c hs he hd ?_
 intro j v hv
 have hj : j < ns.length := by
  have := (List.getElem?_eq_some_iff.1 hv).1; simpa using this
 have e1 : (⟨w.heap.size, 0, none⟩ : Addr).add j = ⟨w.heap.size, j, none⟩ := by simp [Addr.add]; omega
 rw [e1, World.cell?_alloc_at _ _ _ _ (by first | (simp; done) | (simp; omega))]
 simpa using hv

/-- a cell of the block that was laid last -/
theorem cell_top (W : World) (cs : Array Value) (t : TypeId) (B k : Nat) (hB : B = W.heap.size) : (W.alloc (.cells cs t)).cell? ⟨B, k, none⟩ = cs[k]? := by
 subst hB; exact World.cell?_alloc_at _ _ _ _ rfl

theorem ba_append (a b : Array UInt8) : (⟨a⟩ ++ ⟨b⟩ : ByteArray) = ⟨a ++ b⟩ := by
 apply ByteArray.ext
 exact ByteArray.data_append

theorem bytesOf_append (a b : List Int) : bytesOf a ++ bytesOf b = bytesOf (a ++ b) := by
 unfold bytesOf
 rw [ba_append]; simp
end
section
section
open Go.RowKit
set_option linter.unusedVariables false

theorem free_of_block {w : World} {b j : Nat} {cs : Array Value} {t : TypeId} (h : w.heap[b]? = some (.cells cs t (0, 0))) : w.frozen? ⟨b, j, none⟩ = false := by simp [World.frozen?, h]

theorem block_setCell {w : World} {b j : Nat} {cs : Array Value} {t : TypeId} {u : Value} (h : w.heap[b]? = some (.cells cs t (0, 0))) : (w.setCell ⟨b, j, none⟩ u).heap[b]? = some (.cells (cs.setIfInBounds j u) t (0, 0)) := by
 have hlt := lt_of_block h
 have h' : w.heap[b] = .cells cs t (0, 0) := by simpa [Array.getElem?_eq_getElem hlt] using h
 show (w.heap.modify b _)[b]? = _
 rw [Array.getElem?_eq_getElem (by simpa using hlt), Array.getElem_modify_self, h']
 rfl

theorem block_below {w w' : World} {b B : Nat} {o : Obj} (h : w.heap[b]? = some o) (hb : Below B w w') (hB : b < B) : w'.heap[b]? = some o := by
 rw [hb.block b hB]; exact h

/-- the cells of a slice -/
def CellsV (w : World) (v : Value) (n : Nat) (xs : List Value) : Prop :=
 ∃ a c, v = .slice a n c ∧ n ≤ c ∧ c ≤ 9223372036854775807 ∧ (a = none → c = 0) ∧ ∀ i, i < xs.length → ∃ b off, a = some ⟨b, off, none⟩ ∧ w.cell? ⟨b, off + i, none⟩ = some (xs.getD i undef)

/-- a slice of ints -/
def IntsV (w : World) (v : Value) (l : List Int) : Prop := CellsV w v l.length (l.map (Value.int .i64))

theorem CellsV.below {w w' : World} {v : Value} {n : Nat} {xs : List Value} (h : CellsV w v n xs) (hb : Below w.heap.size w w') : CellsV w' v n xs := by
 obtain ⟨a, c, hv, hn, hc, hnone, hx⟩ := h
 refine ⟨a, c, hv, hn, hc, hnone, fun i hi => ?_⟩
 obtain ⟨b, off, ha, hcell⟩ := hx i hi
 exact ⟨b, off, ha, (hb.cell (World.block_lt_of_cell? _ _ hcell)).trans hcell⟩

theorem IntsV.below {w w' : World} {v : Value} {l : List Int} (h : IntsV w v l) (hb : Below w.heap.size w w') : IntsV w' v l := CellsV.below h hb

theorem CellsV.of_cells {w w' : World} {v : Value} {n : Nat} {xs : List Value} (h : CellsV w v n xs) (hb : ∀ a x, w.cell? a = some x → w'.cell? a = some x) : CellsV w' v n xs := by
 obtain ⟨a, c, hv, hn, hc, hnone, hx⟩ := h
 refine ⟨a, c, hv, hn, hc, hnone, fun i hi => ?_⟩
 obtain ⟨b, off, ha, hcell⟩ := hx i hi
 exact ⟨b, off, ha, hb _ _ hcell⟩

/-- opened: an index's cell -/
theorem IntsV.open {w : World} {v : Value} {l : List Int} (h : IntsV w v l) : ∃ a n c, v = .slice a n c ∧ Hid (n = l.length) ∧ n ≤ c ∧ c ≤ 9223372036854775807 ∧
  Hid (∀ i, i < n → ∃ b off, a = some ⟨b, off, none⟩ ∧ w.cell? ⟨b, off + i, none⟩ = some (.int .i64 (l.getD i 0))) := by
 obtain ⟨a, c, hv, hn, hc, _, hx⟩ := h
 refine ⟨a, _, c, hv, Lib.hid rfl, hn, hc, Lib.hid (fun i hi => ?_)⟩
 obtain ⟨b, off, ha, hcell⟩ := hx i (by simpa using hi)
 refine ⟨b, off, ha, hcell.trans ?_⟩
 rw [List.getD_eq_getElem?_getD, List.getD_eq_getElem?_getD, List.getElem?_map, List.getElem?_eq_getElem hi]
 rfl

theorem IntsV.mk {w : World} {a : Option Addr} {n c : Nat} {l : List Int} (hn : n = l.length) (hc : n ≤ c) (hm : c ≤ 9223372036854775807)
  (h : ∀ i, i < n → ∃ b off, a = some ⟨b, off, none⟩ ∧ w.cell? ⟨b, off + i, none⟩ = some (.int .i64 (l.getD i 0))) (h0 : a = none → c = 0 := by intro h; first | (cases h; done) | omega) : IntsV w (.slice a n c) l := by
 refine ⟨a, c, by rw [hn], by omega, hm, h0, fun i hi => ?_⟩
 have hi' : i < l.length := by simpa using hi
 obtain ⟨b, off, ha, hcell⟩ := h i (by omega)
 refine ⟨b, off, ha, hcell.trans ?_⟩
 rw [List.getD_eq_getElem?_getD, List.getD_eq_getElem?_getD, List.getElem?_map, List.getElem?_eq_getElem hi']
 rfl

/-- what the call owns reads as ints -/
theorem IntsV.of_owns {w : World} {base : Nat} {e : TypeId} {v : Value} {l : List Int} (h : w.ownsRow base e 1 v l.length (l.map (Value.int .i64))) : IntsV w v l := by
 obtain ⟨h1, h2⟩ := h
 rcases h2 with ⟨rfl, h0⟩ | ⟨g, cap, cur, rfl, hg, hh, hn, hc, hs, ht⟩
 · refine ⟨none, 0, by rw [h0], by omega, by omega, fun _ => rfl, fun i hi => ?_⟩
   simp [h0] at hi
 · refine ⟨_, cap, rfl, hn, by unfold maxLen at hc; omega, (fun h => by cases h), fun i hi => ?_⟩
   refine ⟨g, 0, rfl, ?_⟩
   have hi' : i < l.length := by simpa using hi
   rw [cell_of_row w g _ cur e (0, 0) hh]
   have hcs : i < cur.size := by omega
   rw [List.getD_eq_getElem?_getD, ← ht, List.getElem?_take, if_pos (by omega)]
   simp [hcs]

theorem IntsV.none_cap {w : World} {a : Option Addr} {n c : Nat} {l : List Int} (h : IntsV w (.slice a n c) l) : a = none → c = 0 := by
 obtain ⟨a', c', hv, _, _, h0, _⟩ := h
 cases hv
 exact h0

/-- the empty slice that is none -/
theorem IntsV.nil (w : World) : IntsV w (.slice none 0 0) [] := IntsV.mk rfl (by omega) (by omega) (fun i hi => absurd hi (Nat.not_lt_zero _))

/-- the first k of a slice, the rest behind the first k -/
theorem IntsV.take {w : World} {a : Option Addr} {n c k : Nat} {l : List Int} (h : IntsV w (.slice a n c) l) (hk : k ≤ n) : IntsV w (.slice a k c) (l.take k) := by
 have h0 := h.none_cap
 obtain ⟨a', n', c', hv, hn, hnc, hc, hx⟩ := h.open
 cases hv
 refine IntsV.mk (by have := hn.out; simp; omega) (by omega) hc (fun i hi => ?_) h0
 obtain ⟨b, off, ha, hcell⟩ := hx.out i (by omega)
 refine ⟨b, off, ha, hcell.trans ?_⟩
 rw [List.getD_eq_getElem?_getD, List.getD_eq_getElem?_getD, List.getElem?_take, if_pos hi]

theorem IntsV.drop {w : World} {b off n c k : Nat} {l : List Int} (h : IntsV w (.slice (some ⟨b, off, none⟩) n c) l) (hk : k ≤ n) : IntsV w (.slice (some ⟨b, off + k, none⟩) (n - k) (c - k)) (l.drop k) := by
 obtain ⟨a', n', c', hv, hn, hnc, hc, hx⟩ := h.open
 cases hv
 refine IntsV.mk (by have := hn.out; simp; omega) (by omega) (by omega) (fun i hi => ?_)
 obtain ⟨b', off', ha, hcell⟩ := hx.out (k + i) (by omega)
 cases ha
 refine ⟨b, off + k, rfl, ?_⟩
 rw [show off + k + i = off + (k + i) by omega, hcell, List.getD_eq_getElem?_getD, List.getD_eq_getElem?_getD, List.getElem?_drop]

/-- what is left behind the last one is empty, wherever it lies -/
theorem IntsV.empty {w : World} {a : Addr} {c : Nat} (hc : c ≤ 9223372036854775807) : IntsV w (.slice (some a) 0 c) [] :=
 IntsV.mk rfl (by omega) hc (fun i hi => absurd hi (Nat.not_lt_zero _))

theorem ret_val {a b : Value} (h : a = b) : Ending.returned a = .returned b := by rw [h]
end

section
open Go.RowKit
set_option linter.unusedVariables false

/-- the cells that a source brings -/
def SrcV (w : World) (v : Value) (m : Nat) (news : List Value) : Prop :=
 (v = .slice none 0 0 ∧ m = 0 ∧ news = []) ∨ ∃ ad c, v = .slice (some ad) m c ∧ ∀ j u, news[j]? = some u → w.cell? (ad.add j) = some u

theorem addr_add (b off j : Nat) : (⟨b, off, none⟩ : Addr).add j = ⟨b, off + j, none⟩ := by
 unfold Addr.add; split <;> simp_all

theorem SrcV.of_cells {w : World} {v : Value} {n : Nat} {xs : List Value} (h : CellsV w v n xs) (hl : n = 0 → xs = []) : SrcV w v n xs := by
 obtain ⟨a, c, rfl, hn, hc, hnone, hx⟩ := h
 cases a with
 | none =>
   have h0 := hnone rfl
   have hn0 : n = 0 := by omega
   subst hn0; subst h0
   exact .inl ⟨rfl, rfl, hl rfl⟩
 | some ad =>
   refine .inr ⟨ad, c, rfl, fun j u hj => ?_⟩
   have hlt : j < xs.length := (List.getElem?_eq_some_iff.1 hj).1
   obtain ⟨b, off, ha, hcell⟩ := hx j hlt
   cases ha
   rw [addr_add, hcell, List.getD_eq_getElem?_getD, hj]; rfl

theorem SrcV.of_ints {w : World} {v : Value} {l : List Int} (h : IntsV w v l) : SrcV w v l.length (l.map (Value.int .i64)) :=
 SrcV.of_cells h (fun h0 => by simp [List.eq_nil_of_length_eq_zero h0])

theorem SrcV.new (w : World) (x : Value) (E : TypeId) : SrcV (w.alloc (.cells #[x] E)) (.slice (some ⟨w.heap.size, 0, none⟩) 1 1) 1 [x] := by
 refine .inr ⟨_, _, rfl, fun j u hj => ?_⟩
 match j, hj with
 | 0, hj => simp at hj; subst hj; simp [Addr.add]

theorem SrcV.drew {w : World} {v : Value} {m : Nat} {news : List Value} (h : SrcV w v m news) : SrcV w.drew v m news := h

theorem own_weaken {w : World} {base base' : Nat} {e : TypeId} {size n : Nat} {v : Value} {xs : List Value} (h : w.ownsRow base e size v n xs) (hb : base' ≤ base) : w.ownsRow base' e size v n xs := by
 obtain ⟨h1, h2⟩ := h
 refine ⟨h1, ?_⟩
 rcases h2 with h2 | ⟨g, cap, cur, hv, hg, r⟩
 · exact .inl h2
 · exact .inr ⟨g, cap, cur, hv, Nat.le_trans hb hg, r⟩

theorem own_base {w : World} {base B : Nat} {e : TypeId} {size n : Nat} {v : Value} {xs : List Value} (h : w.ownsRow base e size v n xs) (hB : B ≤ base) : ∀ k, v.ownBlock = some k → B ≤ k := by
 obtain ⟨h1, h2⟩ := h
 rcases h2 with ⟨rfl, _⟩ | ⟨g, cap, cur, rfl, hg, r⟩
 · intro k hk; cases hk
 · intro k hk
   simp [Value.ownBlock] at hk
   omega

theorem grown_size {w w' : World} {r : Option Nat} (h : w.grownBy w' r) : w.heap.size ≤ w'.heap.size :=
 (Below.grown (Below.refl 0 w) h (Nat.zero_le _) (fun k _ => Nat.zero_le _)).size

section
variable {P : Program} {w : World}
theorem wp_append_src {o : Oper} {a : Act} {K : Act → World → Prop} {Q : Exit → Act → World → Prop} (s x : Operand) (t : TypeId)
  (ho : o.op = .call { callee := .builtin .append, args := #[s, x], argTypes := #[t, t] })
  (base : Nat) (e : TypeId) (i : TypeInfo) (z : Value) (size bytes : Nat) (ht : P.underlying t = some (.slice e)) (hi : P.info? e = some i) (hz : i.zero = some z)
  (hsize : i.size = size) (hby : i.bytes = bytes) (hzs : z.cells.size = size) (hsz : 0 < size)
  (v : Value) (n : Nat) (xs : List Value) (hs : a.eval s = v) (hown : w.ownsRow base e size v n xs)
  (xv : Value) (m : Nat) (news : List Value) (hx : a.eval x = xv) (hsrc : SrcV w xv m news) (hl : news.length = m * size) (h1 : ∀ u ∈ news, u.oneCell' = true)
  (h63 : n + m ≤ maxLen) (hbytes : (n + m) * bytes ≤ 140737488355328) (hbase : base ≤ w.heap.size)
  (h : ∀ v' w', w'.ownsRow base e size v' (n + m) (xs ++ news) → w.grownBy w' v.ownBlock → K (a.put o.dst v') w') : o.wp P a w K Q := by
 rcases hsrc with ⟨rfl, rfl, rfl⟩ | ⟨ad, c, rfl, hnews⟩
 · have hrun := run_append_owned_none (P := P) (w := w) base t o.type e i size ht hi v n xs hown
   unfold Oper.wp
   simp [execOp, ho, resolve, invoke, builtin, hs, hx, hrun, Result.andThen]
   have hh := h v w
   simp only [Nat.add_zero, List.append_nil] at hh
   exact hh hown ⟨rfl, rfl, rfl, Nat.le_refl _, fun _ _ _ => rfl⟩
 · exact wp_append_own w s x t ho base e i z size bytes ht hi hz hsize hby hzs hsz v n xs hs hown ad m c news hx hl hnews h1 h63 hbytes hbase (fun v' w' h2 h3 _ => h v' w' h2 h3)

theorem wpList_append_src {ops : Array Oper} {rest : List Oper} {o : Oper} {a : Act} {Q : Exit → Act → World → Prop} (hgd : o.guard = none) (s x : Operand) (t : TypeId)
  (ho : o.op = .call { callee := .builtin .append, args := #[s, x], argTypes := #[t, t] })
  (base : Nat) (e : TypeId) (i : TypeInfo) (z : Value) (size bytes : Nat) (ht : P.underlying t = some (.slice e)) (hi : P.info? e = some i) (hz : i.zero = some z)
  (hsize : i.size = size) (hby : i.bytes = bytes) (hzs : z.cells.size = size) (hsz : 0 < size)
  (v : Value) (n : Nat) (xs : List Value) (hs : a.eval s = v) (hown : w.ownsRow base e size v n xs)
  (xv : Value) (m : Nat) (news : List Value) (hx : a.eval x = xv) (hsrc : SrcV w xv m news) (hl : news.length = m * size) (h1 : ∀ u ∈ news, u.oneCell' = true)
  (h63 : n + m ≤ maxLen) (hbytes : (n + m) * bytes ≤ 140737488355328) (hbase : base ≤ w.heap.size)
  (h : ∀ v' w', w'.ownsRow base e size v' (n + m) (xs ++ news) → w.grownBy w' v.ownBlock → wpList P ops Q rest (a.put o.dst v') w') : wpList P ops Q (o :: rest) a w :=
 wpList_plain hgd fun _ hK => wp_append_src s x t ho base e i z size bytes ht hi hz hsize hby hzs hsz v n xs hs hown xv m news hx hsrc hl h1 h63 hbytes hbase fun v' w' h2 h3 => hK _ _ (h v' w' h2 h3)

theorem step_append_src {ops : Array Oper} {o : Oper} {a : Act} {K : Act → World → Prop} {Q : Exit → Act → World → Prop} {E : Prop} (hgd : o.guard = none) (s x : Operand) (t : TypeId)
  (ho : o.op = .call { callee := .builtin .append, args := #[s, x], argTypes := #[t, t] })
  (base : Nat) (e : TypeId) (i : TypeInfo) (z : Value) (size bytes : Nat) (ht : P.underlying t = some (.slice e)) (hi : P.info? e = some i) (hz : i.zero = some z)
  (hsize : i.size = size) (hby : i.bytes = bytes) (hzs : z.cells.size = size) (hsz : 0 < size)
  (v : Value) (n : Nat) (xs : List Value) (hs : a.eval s = v) (hown : w.ownsRow base e size v n xs)
  (xv : Value) (m : Nat) (news : List Value) (hx : a.eval x = xv) (hsrc : SrcV w xv m news) (hl : news.length = m * size) (h1 : ∀ u ∈ news, u.oneCell' = true)
  (h63 : n + m ≤ maxLen) (hbytes : (n + m) * bytes ≤ 140737488355328) (hbase : base ≤ w.heap.size)
  (h : ∀ v' w', w'.ownsRow base e size v' (n + m) (xs ++ news) → w.grownBy w' v.ownBlock → K (a.put o.dst v') w') :
  if Region.wanted o (yielded ops a.tmps) = true then Oper.wp P o a w K Q else E := by
 have hw : Region.wanted o (yielded ops a.tmps) = true := by simp [Region.wanted, hgd]
 rw [if_pos hw]
 exact wp_append_src s x t ho base e i z size bytes ht hi hz hsize hby hzs hsz v n xs hs hown xv m news hx hsrc hl h1 h63 hbytes hbase h
end
end
end
section
open Go.RowKit
set_option linter.unusedVariables false

/-- what holds in a world because of some blocks alone -/
def Firm (S : Nat → Prop) (w : World) (Q : World → Prop) : Prop := (∀ b, S b → b < w.heap.size) ∧ ∀ w' : World, (∀ b, S b → w'.heap[b]? = w.heap[b]?) → Q w'
theorem Firm.self {S : Nat → Prop} {w : World} {Q : World → Prop} (h : Firm S w Q) : Q w := h.2 w (fun _ _ => rfl)
theorem Firm.keep {S : Nat → Prop} {w w' : World} {Q : World → Prop} (h : Firm S w Q) (hk : ∀ b, S b → w'.heap[b]? = w.heap[b]?) : Firm S w' Q := by
 refine ⟨fun b hb => ?_, fun w2 h2 => h.2 w2 (fun b hb => (h2 b hb).trans (hk b hb))⟩
 have h1 := h.1 b hb
 have h2 := hk b hb
 rw [Array.getElem?_eq_getElem h1] at h2
 exact (Array.getElem?_eq_some_iff.1 h2).1
theorem Firm.below {S : Nat → Prop} {w w' : World} {Q : World → Prop} (h : Firm S w Q) (hb : Below w.heap.size w w') : Firm S w' Q := h.keep (fun b hS => hb.block b (h.1 b hS))
theorem Firm.grown {S : Nat → Prop} {w w' : World} {Q : World → Prop} {row : Option Nat} (h : Firm S w Q) (hg : w.grownBy w' row) (hn : ∀ b, row = some b → ¬ S b) : Firm S w' Q :=
 h.keep (fun b hS => hg.block b (h.1 b hS) (fun e => hn b e.symm hS))
theorem Firm.imp {S : Nat → Prop} {w : World} {Q Q' : World → Prop} (h : Firm S w Q) (hi : ∀ w', Q w' → Q' w') : Firm S w Q' := ⟨h.1, fun w' hw => hi w' (h.2 w' hw)⟩
theorem Firm.and {S S' : Nat → Prop} {w : World} {Q Q' : World → Prop} (h : Firm S w Q) (h' : Firm S' w Q') : Firm (fun b => S b ∨ S' b) w (fun w' => Q w' ∧ Q' w') :=
 ⟨fun b hb => hb.elim (h.1 b) (h'.1 b), fun w' hw => ⟨h.2 w' (fun b hb => hw b (.inl hb)), h'.2 w' (fun b hb => hw b (.inr hb))⟩⟩
theorem Firm.wide {S S' : Nat → Prop} {w : World} {Q : World → Prop} (h : Firm S w Q) (hs : ∀ b, S b → S' b) (hl : ∀ b, S' b → b < w.heap.size) : Firm S' w Q := ⟨hl, fun w' hw => h.2 w' (fun b hb => hw b (hs b hb))⟩
theorem Firm.pure {w : World} {Q : World → Prop} (h : ∀ w', Q w') : Firm (fun _ => False) w Q := ⟨fun _ h => h.elim, fun w' _ => h w'⟩

/-- a slice whose elements, of so many cells each, read as a list's -/
def ListV {α : Type} (size : Nat) (R : World → List Value → α → Prop) (w : World) (v : Value) (l : List α) : Prop :=
 ∃ a c, v = .slice a l.length c ∧ l.length ≤ c ∧ c ≤ 9223372036854775807 ∧ (a = none → c = 0) ∧
  ∀ i x, l[i]? = some x → ∃ b off cs, a = some ⟨b, off, none⟩ ∧ cs.length = size ∧ R w cs x ∧ ∀ j, j < size → w.cell? ⟨b, off + i * size + j, none⟩ = some (cs.getD j undef)

theorem ListV.map {α : Type} {size : Nat} {R R' : World → List Value → α → Prop} {w w' : World} {v : Value} {l : List α} (h : ListV size R w v l) (hR : ∀ cs x, R w cs x → R' w' cs x) (hc : ∀ a x, w.cell? a = some x → w'.cell? a = some x) : ListV size R' w' v l := by
 obtain ⟨a, c, h1, h2, h3, h4, h5⟩ := h
 refine ⟨a, c, h1, h2, h3, h4, fun i x hx => ?_⟩
 obtain ⟨b, off, cs, e1, e2, e3, e4⟩ := h5 i x hx
 exact ⟨b, off, cs, e1, e2, hR _ _ e3, fun j hj => hc _ _ (e4 j hj)⟩
theorem ListV.below {α : Type} {size : Nat} {R : World → List Value → α → Prop} {w w' : World} {v : Value} {l : List α} (h : ListV size R w v l) (hR : ∀ cs x, R w cs x → R w' cs x) (hb : Below w.heap.size w w') : ListV size R w' v l :=
 h.map hR (fun a x hx => (hb.cell (World.block_lt_of_cell? _ _ hx)).trans hx)
/-- opened: an element's cells -/
theorem ListV.open {α : Type} {size : Nat} {R : World → List Value → α → Prop} {w : World} {v : Value} {l : List α} (h : ListV size R w v l) : ∃ a n c, v = .slice a n c ∧ Hid (n = l.length) ∧ n ≤ c ∧ c ≤ 9223372036854775807 ∧
  Hid (∀ i, i < n → ∃ b off cs x, a = some ⟨b, off, none⟩ ∧ l[i]? = some x ∧ cs.length = size ∧ R w cs x ∧ ∀ j, j < size → w.cell? ⟨b, off + i * size + j, none⟩ = some (cs.getD j undef)) := by
 obtain ⟨a, c, h1, h2, h3, h4, h5⟩ := h
 refine ⟨a, _, c, h1, Lib.hid rfl, h2, h3, Lib.hid (fun i hi => ?_)⟩
 obtain ⟨b, off, cs, e1, e2, e3, e4⟩ := h5 i _ (List.getElem?_eq_getElem hi)
 exact ⟨b, off, cs, _, e1, List.getElem?_eq_getElem hi, e2, e3, e4⟩
theorem ListV.nil {α : Type} (size : Nat) (R : World → List Value → α → Prop) (w : World) : ListV size R w (.slice none 0 0) [] :=
 ⟨none, 0, rfl, Nat.le_refl _, by omega, fun _ => rfl, fun i x hx => by simp at hx⟩
/-- the first k -/
theorem ListV.take {α : Type} {size : Nat} {R : World → List Value → α → Prop} {w : World} {a : Option Addr} {n c k : Nat} {l : List α} (h : ListV size R w (.slice a n c) l) (hk : k ≤ n) : ListV size R w (.slice a k c) (l.take k) := by
 obtain ⟨a', c', h1, h2, h3, h4, h5⟩ := h
 cases h1
 refine ⟨a, c, by simp; omega, by simp; omega, h3, h4, fun i x hx => ?_⟩
 rw [List.getElem?_take] at hx
 split at hx
 · exact h5 i x hx
 · cases hx

/-- a list that the call builds by appends: its elements' cells lie in the row, what they lead to elsewhere -/
structure GrowL {α : Type} (base : Nat) (E : TypeId) (size : Nat) (R : World → List Value → α → Prop) (S : Nat → Prop) (w : World) (v : Value) (xs : List Value) (l : List α) : Prop where
 own : w.ownsRow base E size v l.length xs
 rows : Firm S w (fun w' => ∀ i x, l[i]? = some x → R w' ((xs.drop (i * size)).take size) x)
 apart : ∀ k, v.ownBlock = some k → ¬ S k

section
variable {α : Type} {base : Nat} {E : TypeId} {size : Nat} {R : World → List Value → α → Prop} {S : Nat → Prop} {w w' : World} {v : Value} {xs : List Value} {l : List α}
theorem GrowL.nil (base : Nat) (E : TypeId) (size : Nat) (R : World → List Value → α → Prop) (w : World) : GrowL base E size R (fun _ => False) w (.slice none 0 0) [] [] :=
 ⟨World.ownsRow_nil _ _ _ _, Firm.pure (fun w' i x hx => by simp at hx), fun k hk => by cases hk⟩
theorem GrowL.len (h : GrowL base E size R S w v xs l) : xs.length = l.length * size := h.own.1
theorem row_kept {n : Nat} (h : w.ownsRow base E size v n xs) (hk : ∀ k, v.ownBlock = some k → w'.heap[k]? = w.heap[k]?) : w'.ownsRow base E size v n xs := by
 obtain ⟨h1, h2⟩ := h
 refine ⟨h1, ?_⟩
 rcases h2 with h2 | ⟨g, cap, cur, rfl, hg, hh, r⟩
 · exact .inl h2
 · exact .inr ⟨g, cap, cur, rfl, hg, (hk g rfl).trans hh, r⟩
theorem GrowL.keep (h : GrowL base E size R S w v xs l) (hk : ∀ b, (S b ∨ v.ownBlock = some b) → w'.heap[b]? = w.heap[b]?) : GrowL base E size R S w' v xs l :=
 ⟨row_kept h.own (fun k hk' => hk k (.inr hk')), h.rows.keep (fun b hb => hk b (.inl hb)), h.apart⟩
theorem GrowL.lt (h : GrowL base E size R S w v xs l) : ∀ b, (S b ∨ v.ownBlock = some b) → b < w.heap.size := fun b hb => hb.elim (h.rows.1 b) (fun e => (h.own.lt b e).2)
theorem GrowL.below (h : GrowL base E size R S w v xs l) (hb : Below w.heap.size w w') : GrowL base E size R S w' v xs l := h.keep (fun b hS => hb.block b (h.lt b hS))
theorem getElem?_flat (i j : Nat) (hj : j < size) : ((xs.drop (i * size)).take size)[j]? = xs[i * size + j]? := by
 rw [List.getElem?_take, if_pos hj, List.getElem?_drop]
theorem GrowL.list (h : GrowL base E size R S w v xs l) (hs : 0 < size) : ListV size R w v l := by
 obtain ⟨h1, h2⟩ := h.own
 rcases h2 with ⟨rfl, h0⟩ | ⟨g, cap, cur, rfl, hg, hh, hn, hc, hsz, ht⟩
 · obtain rfl := List.eq_nil_of_length_eq_zero h0
   exact ListV.nil _ _ _
 · refine ⟨_, cap, rfl, hn, by unfold maxLen at hc; omega, fun e => (by cases e), fun i x hx => ?_⟩
   have hi : i < l.length := (List.getElem?_eq_some_iff.1 hx).1
   have hm : i * size + size ≤ l.length * size := by
    have := Nat.mul_le_mul_right size (show i + 1 ≤ l.length by omega)
    rw [Nat.succ_mul] at this; exact this
   refine ⟨g, 0, _, rfl, ?_, h.rows.self i x hx, fun j hj => ?_⟩
   · rw [List.length_take, List.length_drop]; omega
   · have hlt : i * size + j < xs.length := by omega
     rw [Nat.zero_add, h.own.cellAt _ (by omega), List.getD_eq_getElem?_getD, getElem?_flat i j hj, List.getElem?_eq_getElem hlt]; rfl
theorem flat_push {cs : List Value} (hl : xs.length = l.length * size) (hc : cs.length = size) {x : α} (i : Nat) (y : α) (hy : (l ++ [x])[i]? = some y) :
  (l[i]? = some y ∧ ((xs ++ cs).drop (i * size)).take size = (xs.drop (i * size)).take size) ∨ (y = x ∧ ((xs ++ cs).drop (i * size)).take size = cs) := by
 by_cases hi : i < l.length
 · left
   rw [List.getElem?_append_left hi] at hy
   refine ⟨hy, ?_⟩
   have hm : i * size + size ≤ l.length * size := by
    have := Nat.mul_le_mul_right size (show i + 1 ≤ l.length by omega)
    rw [Nat.succ_mul] at this; exact this
   rw [List.drop_append_of_le_length (by omega), List.take_append_of_le_length (by rw [List.length_drop]; omega)]
 · right
   rw [List.getElem?_append_right (by omega)] at hy
   have h0 : i = l.length := by
    have := (List.getElem?_eq_some_iff.1 hy).1
    simp at this; omega
   subst h0
   simp at hy
   refine ⟨hy.symm, ?_⟩
   rw [← hl, List.drop_left, ← hc, List.take_length]
/-- one more -/
theorem GrowL.push {v' : Value} {cs : List Value} {x : α} {S' : Nat → Prop} (h : GrowL base E size R S w v xs l) (ho : w'.ownsRow base E size v' (l.length + 1) (xs ++ cs)) (hg : w.grownBy w' v.ownBlock)
  (hl : v'.ownBlock = v.ownBlock ∨ v'.ownBlock = some w.heap.size) (hc : cs.length = size) (hx : Firm S' w (fun w' => R w' cs x)) (hn : ∀ k, v.ownBlock = some k → ¬ S' k) :
  GrowL base E size R (fun b => S b ∨ S' b) w' v' (xs ++ cs) (l ++ [x]) := by
 refine ⟨by rw [List.length_append]; exact ho, ?_, ?_⟩
 · refine Firm.imp ((h.rows.grown hg h.apart).and (hx.grown hg hn)) ?_
   rintro w2 ⟨h1, h2⟩ i y hy
   rcases flat_push h.len hc i y hy with ⟨a, b⟩ | ⟨rfl, b⟩
   · rw [b]; exact h1 i y a
   · rw [b]; exact h2
 · intro k hk hS
   rcases hl with e | e
   · rw [e] at hk
     exact hS.elim (h.apart k hk) (hn k hk)
   · rw [e] at hk
     cases hk
     exact hS.elim (fun hS => Nat.lt_irrefl _ (h.rows.1 _ hS)) (fun hS => Nat.lt_irrefl _ (hx.1 _ hS))
end

/-- elements that lead nowhere -/
def intR (w : World) (cs : List Value) (x : Int) : Prop := cs = [.int .i64 x]
theorem ListV.ints {w : World} {v : Value} {l : List Int} (h : ListV 1 intR w v l) : IntsV w v l := by
 obtain ⟨a, c, h1, h2, h3, h4, h5⟩ := h
 subst h1
 refine IntsV.mk rfl h2 h3 (fun i hi => ?_) h4
 obtain ⟨b, off, cs, e1, e2, e3, e4⟩ := h5 i _ (List.getElem?_eq_getElem hi)
 refine ⟨b, off, e1, ?_⟩
 have := e4 0 (by omega)
 rw [Nat.mul_one, Nat.add_zero] at this
 rw [this, e3, List.getD_eq_getElem?_getD, List.getD_eq_getElem?_getD, List.getElem?_eq_getElem hi]; rfl
theorem IntsV.list {w : World} {v : Value} {l : List Int} (h : IntsV w v l) : ListV 1 intR w v l := by
 obtain ⟨a, n, c, rfl, hn, hnc, hc, hx⟩ := h.open
 obtain rfl := hn.out
 refine ⟨a, c, rfl, hnc, hc, h.none_cap, fun i x hx' => ?_⟩
 have hi := (List.getElem?_eq_some_iff.1 hx').1
 obtain ⟨b, off, ha, hcell⟩ := hx.out i hi
 refine ⟨b, off, [.int .i64 x], ha, rfl, rfl, fun j hj => ?_⟩
 obtain rfl : j = 0 := by omega
 rw [Nat.mul_one, Nat.add_zero, hcell, List.getD_eq_getElem?_getD, hx']; rfl
/-- an element of one cell that is a slice -/
def rowR {α : Type} (R : World → Value → List α → Prop) (w : World) (cs : List Value) (l : List α) : Prop := ∃ v, cs = [v] ∧ R w v l

/-! ### what has turned -/
/-- blocks of S alone, and new ones -/
structure Turns (S : Nat → Prop) (w w' : World) : Prop where
 os : w'.os = w.os
 tape : w'.tape = w.tape
 output : w'.output = w.output
 size : w.heap.size ≤ w'.heap.size
 block : ∀ b, b < w.heap.size → ¬ S b → w'.heap[b]? = w.heap[b]?
section
variable {S S' : Nat → Prop} {w w1 w2 : World}
theorem Turns.refl (S : Nat → Prop) (w : World) : Turns S w w := ⟨rfl, rfl, rfl, Nat.le_refl _, fun _ _ _ => rfl⟩
theorem Turns.trans (h : Turns S w w1) (h' : Turns S' w1 w2) (hs : ∀ b, b < w.heap.size → S' b → S b) : Turns S w w2 :=
 ⟨h'.os.trans h.os, h'.tape.trans h.tape, h'.output.trans h.output, Nat.le_trans h.size h'.size, fun b hb hn => (h'.block b (Nat.lt_of_lt_of_le hb h.size) (fun e => hn (hs b hb e))).trans (h.block b hb hn)⟩
theorem Turns.of_below (h : Below w.heap.size w w1) : Turns S w w1 := ⟨h.os, h.tape, h.output, h.size, fun b hb _ => h.block b hb⟩
theorem Turns.of_grown {row : Option Nat} (h : w.grownBy w1 row) (hr : ∀ k, row = some k → k < w.heap.size → S k) : Turns S w w1 :=
 ⟨h.os, h.tape, h.output, h.size, fun b hb hn => h.block b hb (fun e => hn (hr b e.symm hb))⟩
theorem Turns.below (h : Turns S w w1) {B : Nat} (hB : B ≤ w.heap.size) (hS : ∀ b, S b → B ≤ b) : Below B w w1 :=
 ⟨h.os, h.tape, h.output, h.size, fun b hb => h.block b (Nat.lt_of_lt_of_le hb hB) (fun e => by have := hS b e; omega)⟩
theorem Turns.to_below (h : Turns S w w1) {B : Nat} {a : World} (ha : Below B a w) (hB : B ≤ w.heap.size) (hS : ∀ b, S b → B ≤ b) : Below B a w1 := ha.trans (h.below hB hS)
theorem Turns.drew (h : Turns S w w1) : Turns S w w1.drew := ⟨h.os, h.tape, h.output, h.size, h.block⟩
theorem Turns.alloc (h : Turns S w w1) (o : Obj) : Turns S w (w1.alloc o) :=
 ⟨h.os, h.tape, h.output, Nat.le_trans h.size (by simp), fun b hb hn => (Below.heap_alloc w1 o b (Nat.lt_of_lt_of_le hb h.size)).trans (h.block b hb hn)⟩
theorem Turns.setCell (h : Turns S w w1) {p : Addr} (hp : S p.block ∨ w.heap.size ≤ p.block) (u : Value) : Turns S w (w1.setCell p u) :=
 ⟨h.os, h.tape, h.output, by simpa [World.setCell] using h.size, fun b hb hn => (Below.heap_setCell w1 p u b (by
  rintro rfl
  rcases hp with hp | hp
  · exact hn hp
  · omega)).trans (h.block b hb hn)⟩
theorem Turns.cell (h : Turns S w w1) {p : Addr} (hb : p.block < w.heap.size) (hn : ¬ S p.block) : w1.cell? p = w.cell? p := World.cell?_of_block (h.block p.block hb hn)
theorem Turns.frozen (h : Turns S w w1) {p : Addr} (hb : p.block < w.heap.size) (hn : ¬ S p.block) : w1.frozen? p = w.frozen? p := World.frozen?_of_block (h.block p.block hb hn)
theorem Turns.mono (h : Turns S w w1) (hs : ∀ b, b < w.heap.size → S b → S' b) : Turns S' w w1 := ⟨h.os, h.tape, h.output, h.size, fun b hb hn => h.block b hb (fun e => hn (hs b hb e))⟩
end
end
section
open Go.RowKit
set_option linter.unusedVariables false

section
variable {α : Type} {base : Nat} {E : TypeId} {size : Nat} {R : World → List Value → α → Prop} {S S' : Nat → Prop} {V w w5 : World} {v new : Value} {xs cs : List Value} {l : List α} {x : α} {B j : Nat} {cells : Array Value} {T : TypeId}
theorem GrowL.firm (h : GrowL base E size R S w v xs l) (hs : 0 < size) :
  Firm (fun b => S b ∨ v.ownBlock = some b) w (fun w' => ListV size R w' v l) := ⟨h.lt, fun w' hw => (h.keep hw).list hs⟩
theorem GrowL.box (h : GrowL base E size R S V v xs l) (hb : Below V.heap.size V w) (ho : w5.ownsRow base E size new (l.length + 1) (xs ++ cs)) (hg : w.grownBy w5 v.ownBlock)
  (hl : new.ownBlock = v.ownBlock ∨ new.ownBlock = some w.heap.size) (hc : cs.length = size) (hx : Firm S' w (fun w' => R w' cs x)) (hn : ∀ k, v.ownBlock = some k → ¬ S' k)
  (hB : B < base) (hbox : V.heap[B]? = some (.cells cells T (0, 0))) (hS : ∀ b, S b ∨ S' b → b ≠ B) :
  GrowL base E size R (fun b => S b ∨ S' b) (w5.setCell ⟨B, j, none⟩ new) new (xs ++ cs) (l ++ [x]) ∧
  (w5.setCell ⟨B, j, none⟩ new).heap[B]? = some (.cells (cells.setIfInBounds j new) T (0, 0)) ∧
  (∀ D, D ≤ B → Below D w (w5.setCell ⟨B, j, none⟩ new)) ∧ (∀ b, b < w.heap.size → b ≠ B → b < base → (w5.setCell ⟨B, j, none⟩ new).heap[b]? = w.heap[b]?) := by
 have hlt : B < V.heap.size := (Array.getElem?_eq_some_iff.1 hbox).1
 have hne : ∀ k, v.ownBlock = some k → B < k := fun k hk => Nat.lt_of_lt_of_le hB (own_base h.own (Nat.le_refl _) k hk)
 have p := (h.below hb).push ho hg hl hc hx hn
 refine ⟨p.keep (fun b hb' => Below.heap_setCell _ _ _ _ ?_), block_setCell ?_, fun D hD => ?_, fun b hb1 hb2 hb3 => (Below.heap_setCell _ _ _ _ hb2).trans (hg.block b hb1 (fun e => by have := own_base h.own (Nat.le_refl _) b e.symm; omega))⟩
 · show b ≠ B
   rcases hb' with hb' | hb'
   · exact hS b hb'
   · have := own_base ho (Nat.le_refl _) b hb'
     omega
 · exact (hg.block B (Nat.lt_of_lt_of_le hlt hb.size) (fun e => Nat.lt_irrefl _ (hne B e.symm))).trans ((hb.block B hlt).trans hbox)
 · have h1 := hb.size
   exact ((Below.refl D w).grown hg (by omega) (fun k hk => by have := hne k hk; omega)).setCell hD new
/-- elements that lead nowhere -/
theorem GrowL.box0 (h : GrowL base E size R (fun _ => False) V v xs l) (hb : Below V.heap.size V w) (ho : w5.ownsRow base E size new (l.length + 1) (xs ++ cs)) (hg : w.grownBy w5 v.ownBlock)
  (hl : new.ownBlock = v.ownBlock ∨ new.ownBlock = some w.heap.size) (hc : cs.length = size) (hx : ∀ w', R w' cs x)
  (hB : B < base) (hbox : V.heap[B]? = some (.cells cells T (0, 0))) :
  GrowL base E size R (fun _ => False) (w5.setCell ⟨B, j, none⟩ new) new (xs ++ cs) (l ++ [x]) ∧
  (w5.setCell ⟨B, j, none⟩ new).heap[B]? = some (.cells (cells.setIfInBounds j new) T (0, 0)) ∧
  (∀ D, D ≤ B → Below D w (w5.setCell ⟨B, j, none⟩ new)) ∧ (∀ b, b < w.heap.size → b ≠ B → b < base → (w5.setCell ⟨B, j, none⟩ new).heap[b]? = w.heap[b]?) := by
 have p := h.box (j := j) hb ho hg hl hc (Firm.pure hx) (fun _ _ h => h) hB hbox (fun b hb => (hb.elim id id).elim)
 rw [show (fun b : Nat => (fun _ => False) b ∨ (fun _ => False) b) = fun _ => False from funext (fun b => by simp)] at p
 exact p
/-- what the append's law tells of the new slice's block -/
theorem own_new {gg n cap H : Nat} (h : v.ownBlock = some gg ∨ gg = H) (hH : H = w.heap.size) : (Value.slice (some ⟨gg, 0, none⟩) n cap).ownBlock = v.ownBlock ∨ (Value.slice (some ⟨gg, 0, none⟩) n cap).ownBlock = some w.heap.size := by
 subst hH
 rcases h with h | h
 · exact .inl (by rw [h]; rfl)
 · exact .inr (by rw [h]; rfl)
end
end
section
structure Wd where
 kind : Int
 text : ByteArray
 place : Int
end
end Go.Proofs.YtnoppoifepbchaaDoor
