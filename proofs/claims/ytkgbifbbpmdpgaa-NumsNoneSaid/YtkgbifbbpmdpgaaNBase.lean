/- Small lemmas on strings, slices and worlds, of no program. -/
import Derived.WalkKit
import Derived.WalkSpells
import Derived.WalkLawsBesides
import Derived.Deep.QuietTactic
import Derived.BigQuiet
import Derived.Lib.Hide
import Derived.Laws.BytesString
import Derived.OneCell
import Derived.Laws.Rows
import Derived.Laws.OwnMore
import Derived.Deep.RegionLaw
set_option linter.unusedVariables false
set_option linter.unusedSimpArgs false
namespace Go.Proofs.Ytkgbifbbpmdpgaa
section
open Go.RowKit
theorem ret_bool {a b : Bool} (h : a = b) : Ending.returned (.bool a) = .returned (.bool b) := by rw [h]
theorem ret_str {a b : ByteArray} (h : a = b) : Ending.returned (.string a) = .returned (.string b) := by rw [h]
theorem ret_int {k : IntKind} {a b : Int} (h : a = b) : Ending.returned (.int k a) = .returned (.int k b) := by rw [h]
def bytesOf (ns : List Int) : ByteArray := ⟨(ns.map (fun n => UInt8.ofNat n.toNat)).toArray⟩
theorem foldl_push (ns : List Int) : ∀ (s : ByteArray), ns.foldl (fun r n => r.push (UInt8.ofNat n.toNat)) s = ⟨s.data ++ (ns.map (fun n => UInt8.ofNat n.toNat)).toArray⟩ := by
 induction ns with
 | nil => intro s; simp
 | cons n ns ih =>
   intro s
   rw [List.foldl_cons, ih]
   congr 1
   show (s.data.push _) ++ _ = _
   simp
theorem run_conv_cells {P : Program} (w : World) (src dst e : TypeId) (a : Addr) (ns : List Int) (c : Nat)
  (hs : P.underlying src = some (.slice e)) (he : P.underlying e = some (.int .u8)) (hd : P.underlying dst = some .string)
  (h : ∀ j v, (ns.map (Value.int .u8))[j]? = some v → w.cell? (a.add j) = some v) :
  (convert src dst (.slice (some a) ns.length c)).run P w = .ok (.string (bytesOf ns)) w := by
 rw [run_convert_bytes_string w src dst e _ _ _ hs he hd]
 have hl := run_loadCells_list (P := P) w a (ns.map (Value.int .u8)) h
 rw [List.length_map] at hl
 rw [run_bytesToString w a ns.length c ns hl, foldl_push]
 unfold bytesOf
 simp [ByteArray.empty, ByteArray.emptyWithCapacity]
 rfl
theorem run_conv_new {P : Program} (w : World) (src dst e : TypeId) (ns : List Int) (c : Nat)
  (hs : P.underlying src = some (.slice e)) (he : P.underlying e = some (.int .u8)) (hd : P.underlying dst = some .string) :
  (convert src dst (.slice (some ⟨w.heap.size, 0, none⟩) ns.length c)).run P (w.alloc (.cells (ns.map (Value.int .u8)).toArray e)) = .ok (.string (bytesOf ns)) (w.alloc (.cells (ns.map (Value.int .u8)).toArray e)) := by
 refine run_conv_cells _ src dst e _ ns c hs he hd ?_
 intro j v hv
 have hj : j < ns.length := by
  have := (List.getElem?_eq_some_iff.1 hv).1; simpa using this
 have e1 : (⟨w.heap.size, 0, none⟩ : Addr).add j = ⟨w.heap.size, j, none⟩ := by simp [Addr.add]; omega
 rw [e1, World.cell?_alloc_at _ _ _ _ (by first | (simp; done) | (simp; omega))]
 simpa using hv
theorem cell_top (W : World) (cs : Array Value) (t : TypeId) (B k : Nat) (hB : B = W.heap.size) : (W.alloc (.cells cs t)).cell? ⟨B, k, none⟩ = cs[k]? := by
 subst hB; exact World.cell?_alloc_at _ _ _ _ rfl
end
section
section
open Go.RowKit
theorem free_of_block {w : World} {b j : Nat} {cs : Array Value} {t : TypeId} (h : w.heap[b]? = some (.cells cs t (0, 0))) : w.frozen? ⟨b, j, none⟩ = false := by simp [World.frozen?, h]
theorem block_setCell {w : World} {b j : Nat} {cs : Array Value} {t : TypeId} {u : Value} (h : w.heap[b]? = some (.cells cs t (0, 0))) : (w.setCell ⟨b, j, none⟩ u).heap[b]? = some (.cells (cs.setIfInBounds j u) t (0, 0)) := by
 have hlt := lt_of_block h
 have h' : w.heap[b] = .cells cs t (0, 0) := by simpa [Array.getElem?_eq_getElem hlt] using h
 show (w.heap.modify b _)[b]? = _
 rw [Array.getElem?_eq_getElem (by simpa using hlt), Array.getElem_modify_self, h']
 rfl
theorem block_below {w w' : World} {b B : Nat} {o : Obj} (h : w.heap[b]? = some o) (hb : Below B w w') (hB : b < B) : w'.heap[b]? = some o := by
 rw [hb.block b hB]; exact h
def CellsV (w : World) (v : Value) (n : Nat) (xs : List Value) : Prop :=
 ∃ a c, v = .slice a n c ∧ n ≤ c ∧ c ≤ 9223372036854775807 ∧ (a = none → c = 0) ∧ ∀ i, i < xs.length → ∃ b off, a = some ⟨b, off, none⟩ ∧ w.cell? ⟨b, off + i, none⟩ = some (xs.getD i undef)
def IntsV (w : World) (v : Value) (l : List Int) : Prop := CellsV w v l.length (l.map (Value.int .i64))
theorem CellsV.below {w w' : World} {v : Value} {n : Nat} {xs : List Value} (h : CellsV w v n xs) (hb : Below w.heap.size w w') : CellsV w' v n xs := by
 obtain ⟨a, c, hv, hn, hc, hnone, hx⟩ := h
 refine ⟨a, c, hv, hn, hc, hnone, fun i hi => ?_⟩
 obtain ⟨b, off, ha, hcell⟩ := hx i hi
 exact ⟨b, off, ha, (hb.cell (World.block_lt_of_cell? _ _ hcell)).trans hcell⟩
theorem IntsV.below {w w' : World} {v : Value} {l : List Int} (h : IntsV w v l) (hb : Below w.heap.size w w') : IntsV w' v l := CellsV.below h hb
theorem CellsV.of_cells {w w' : World} {v : Value} {n : Nat} {xs : List Value} (h : CellsV w v n xs) (hb : ∀ a x, w.cell? a = some x → w'.cell? a = some x) : CellsV w' v n xs := by
 obtain ⟨a, c, hv, hn, hc, hnone, hx⟩ := h
 refine ⟨a, c, hv, hn, hc, hnone, fun i hi => ?_⟩
 obtain ⟨b, off, ha, hcell⟩ := hx i hi
 exact ⟨b, off, ha, hb _ _ hcell⟩
theorem IntsV.open {w : World} {v : Value} {l : List Int} (h : IntsV w v l) : ∃ a n c, v = .slice a n c ∧ Hid (n = l.length) ∧ n ≤ c ∧ c ≤ 9223372036854775807 ∧
  Hid (∀ i, i < n → ∃ b off, a = some ⟨b, off, none⟩ ∧ w.cell? ⟨b, off + i, none⟩ = some (.int .i64 (l.getD i 0))) := by
 obtain ⟨a, c, hv, hn, hc, _, hx⟩ := h
 refine ⟨a, _, c, hv, Lib.hid rfl, hn, hc, Lib.hid (fun i hi => ?_)⟩
 obtain ⟨b, off, ha, hcell⟩ := hx i (by simpa using hi)
 refine ⟨b, off, ha, hcell.trans ?_⟩
 rw [List.getD_eq_getElem?_getD, List.getD_eq_getElem?_getD, List.getElem?_map, List.getElem?_eq_getElem hi]
 rfl
theorem IntsV.mk {w : World} {a : Option Addr} {n c : Nat} {l : List Int} (hn : n = l.length) (hc : n ≤ c) (hm : c ≤ 9223372036854775807)
  (h : ∀ i, i < n → ∃ b off, a = some ⟨b, off, none⟩ ∧ w.cell? ⟨b, off + i, none⟩ = some (.int .i64 (l.getD i 0))) (h0 : a = none → c = 0 := by intro h; first | (cases h; done) | omega) : IntsV w (.slice a n c) l := by
 refine ⟨a, c, by rw [hn], by omega, hm, h0, fun i hi => ?_⟩
 have hi' : i < l.length := by simpa using hi
 obtain ⟨b, off, ha, hcell⟩ := h i (by omega)
 refine ⟨b, off, ha, hcell.trans ?_⟩
 rw [List.getD_eq_getElem?_getD, List.getD_eq_getElem?_getD, List.getElem?_map, List.getElem?_eq_getElem hi']
 rfl
theorem IntsV.of_owns {w : World} {base : Nat} {e : TypeId} {v : Value} {l : List Int} (h : w.ownsRow base e 1 v l.length (l.map (Value.int .i64))) : IntsV w v l := by
 obtain ⟨h1, h2⟩ := h
 rcases h2 with ⟨rfl, h0⟩ | ⟨g, cap, cur, rfl, hg, hh, hn, hc, hs, ht⟩
 · refine ⟨none, 0, by rw [h0], by omega, by omega, fun _ => rfl, fun i hi => ?_⟩
   simp [h0] at hi
 · refine ⟨_, cap, rfl, hn, by unfold maxLen at hc; omega, (fun h => by cases h), fun i hi => ?_⟩
   refine ⟨g, 0, rfl, ?_⟩
   have hi' : i < l.length := by simpa using hi
   rw [cell_of_row w g _ cur e (0, 0) hh]
   have hcs : i < cur.size := by omega
   rw [List.getD_eq_getElem?_getD, ← ht, List.getElem?_take, if_pos (by omega)]
   simp [hcs]
theorem IntsV.none_cap {w : World} {a : Option Addr} {n c : Nat} {l : List Int} (h : IntsV w (.slice a n c) l) : a = none → c = 0 := by
 obtain ⟨a', c', hv, _, _, h0, _⟩ := h
 cases hv
 exact h0
theorem IntsV.nil (w : World) : IntsV w (.slice none 0 0) [] := IntsV.mk rfl (by omega) (by omega) (fun i hi => absurd hi (Nat.not_lt_zero _))
theorem IntsV.take {w : World} {a : Option Addr} {n c k : Nat} {l : List Int} (h : IntsV w (.slice a n c) l) (hk : k ≤ n) : IntsV w (.slice a k c) (l.take k) := by
 have h0 := h.none_cap
 obtain ⟨a', n', c', hv, hn, hnc, hc, hx⟩ := h.open
 cases hv
 refine IntsV.mk (by have := hn.out; simp; omega) (by omega) hc (fun i hi => ?_) h0
 obtain ⟨b, off, ha, hcell⟩ := hx.out i (by omega)
 refine ⟨b, off, ha, hcell.trans ?_⟩
 rw [List.getD_eq_getElem?_getD, List.getD_eq_getElem?_getD, List.getElem?_take, if_pos hi]
theorem IntsV.drop {w : World} {b off n c k : Nat} {l : List Int} (h : IntsV w (.slice (some ⟨b, off, none⟩) n c) l) (hk : k ≤ n) : IntsV w (.slice (some ⟨b, off + k, none⟩) (n - k) (c - k)) (l.drop k) := by
 obtain ⟨a', n', c', hv, hn, hnc, hc, hx⟩ := h.open
 cases hv
 refine IntsV.mk (by have := hn.out; simp; omega) (by omega) (by omega) (fun i hi => ?_)
 obtain ⟨b', off', ha, hcell⟩ := hx.out (k + i) (by omega)
 cases ha
 refine ⟨b, off + k, rfl, ?_⟩
 rw [show off + k + i = off + (k + i) by omega, hcell, List.getD_eq_getElem?_getD, List.getD_eq_getElem?_getD, List.getElem?_drop]
theorem IntsV.empty {w : World} {a : Addr} {c : Nat} (hc : c ≤ 9223372036854775807) : IntsV w (.slice (some a) 0 c) [] :=
 IntsV.mk rfl (by omega) hc (fun i hi => absurd hi (Nat.not_lt_zero _))
end
section
open Go.RowKit
def SrcV (w : World) (v : Value) (m : Nat) (news : List Value) : Prop :=
 (v = .slice none 0 0 ∧ m = 0 ∧ news = []) ∨ ∃ ad c, v = .slice (some ad) m c ∧ ∀ j u, news[j]? = some u → w.cell? (ad.add j) = some u
theorem addr_add (b off j : Nat) : (⟨b, off, none⟩ : Addr).add j = ⟨b, off + j, none⟩ := by
 unfold Addr.add; split <;> simp_all
theorem SrcV.of_cells {w : World} {v : Value} {n : Nat} {xs : List Value} (h : CellsV w v n xs) (hl : n = 0 → xs = []) : SrcV w v n xs := by
 obtain ⟨a, c, rfl, hn, hc, hnone, hx⟩ := h
 cases a with
 | none =>
   have h0 := hnone rfl
   have hn0 : n = 0 := by omega
   subst hn0; subst h0
   exact .inl ⟨rfl, rfl, hl rfl⟩
 | some ad =>
   refine .inr ⟨ad, c, rfl, fun j u hj => ?_⟩
   have hlt : j < xs.length := (List.getElem?_eq_some_iff.1 hj).1
   obtain ⟨b, off, ha, hcell⟩ := hx j hlt
   cases ha
   rw [addr_add, hcell, List.getD_eq_getElem?_getD, hj]; rfl
theorem SrcV.of_ints {w : World} {v : Value} {l : List Int} (h : IntsV w v l) : SrcV w v l.length (l.map (Value.int .i64)) :=
 SrcV.of_cells h (fun h0 => by simp [List.eq_nil_of_length_eq_zero h0])
theorem SrcV.new (w : World) (x : Value) (E : TypeId) : SrcV (w.alloc (.cells #[x] E)) (.slice (some ⟨w.heap.size, 0, none⟩) 1 1) 1 [x] := by
 refine .inr ⟨_, _, rfl, fun j u hj => ?_⟩
 match j, hj with
 | 0, hj => simp at hj; subst hj; simp [Addr.add]
theorem SrcV.drew {w : World} {v : Value} {m : Nat} {news : List Value} (h : SrcV w v m news) : SrcV w.drew v m news := h
theorem own_base {w : World} {base B : Nat} {e : TypeId} {size n : Nat} {v : Value} {xs : List Value} (h : w.ownsRow base e size v n xs) (hB : B ≤ base) : ∀ k, v.ownBlock = some k → B ≤ k := by
 obtain ⟨h1, h2⟩ := h
 rcases h2 with ⟨rfl, _⟩ | ⟨g, cap, cur, rfl, hg, r⟩
 · intro k hk; cases hk
 · intro k hk
   simp [Value.ownBlock] at hk
   omega
theorem grown_size {w w' : World} {r : Option Nat} (h : w.grownBy w' r) : w.heap.size ≤ w'.heap.size :=
 (Below.grown (Below.refl 0 w) h (Nat.zero_le _) (fun k _ => Nat.zero_le _)).size
section
variable {P : Program} {w : World}
theorem wp_append_src {o : Oper} {a : Act} {K : Act → World → Prop} {Q : Exit → Act → World → Prop} (s x : Operand) (t : TypeId)
  (ho : o.op = .call { callee := .builtin .append, args := #[s, x], argTypes := #[t, t] })
  (base : Nat) (e : TypeId) (i : TypeInfo) (z : Value) (size bytes : Nat) (ht : P.underlying t = some (.slice e)) (hi : P.info? e = some i) (hz : i.zero = some z)
  (hsize : i.size = size) (hby : i.bytes = bytes) (hzs : z.cells.size = size) (hsz : 0 < size)
  (v : Value) (n : Nat) (xs : List Value) (hs : a.eval s = v) (hown : w.ownsRow base e size v n xs)
  (xv : Value) (m : Nat) (news : List Value) (hx : a.eval x = xv) (hsrc : SrcV w xv m news) (hl : news.length = m * size) (h1 : ∀ u ∈ news, u.oneCell' = true)
  (h63 : n + m ≤ maxLen) (hbytes : (n + m) * bytes ≤ 140737488355328) (hbase : base ≤ w.heap.size)
  (h : ∀ v' w', w'.ownsRow base e size v' (n + m) (xs ++ news) → w.grownBy w' v.ownBlock → K (a.put o.dst v') w') : o.wp P a w K Q := by
 rcases hsrc with ⟨rfl, rfl, rfl⟩ | ⟨ad, c, rfl, hnews⟩
 · have hrun := run_append_owned_none (P := P) (w := w) base t o.type e i size ht hi v n xs hown
   unfold Oper.wp
   simp [execOp, ho, resolve, invoke, builtin, hs, hx, hrun, Result.andThen]
   have hh := h v w
   simp only [Nat.add_zero, List.append_nil] at hh
   exact hh hown ⟨rfl, rfl, rfl, Nat.le_refl _, fun _ _ _ => rfl⟩
 · exact wp_append_own w s x t ho base e i z size bytes ht hi hz hsize hby hzs hsz v n xs hs hown ad m c news hx hl hnews h1 h63 hbytes hbase (fun v' w' h2 h3 _ => h v' w' h2 h3)
theorem wpList_append_src {ops : Array Oper} {rest : List Oper} {o : Oper} {a : Act} {Q : Exit → Act → World → Prop} (hgd : o.guard = none) (s x : Operand) (t : TypeId)
  (ho : o.op = .call { callee := .builtin .append, args := #[s, x], argTypes := #[t, t] })
  (base : Nat) (e : TypeId) (i : TypeInfo) (z : Value) (size bytes : Nat) (ht : P.underlying t = some (.slice e)) (hi : P.info? e = some i) (hz : i.zero = some z)
  (hsize : i.size = size) (hby : i.bytes = bytes) (hzs : z.cells.size = size) (hsz : 0 < size)
  (v : Value) (n : Nat) (xs : List Value) (hs : a.eval s = v) (hown : w.ownsRow base e size v n xs)
  (xv : Value) (m : Nat) (news : List Value) (hx : a.eval x = xv) (hsrc : SrcV w xv m news) (hl : news.length = m * size) (h1 : ∀ u ∈ news, u.oneCell' = true)
  (h63 : n + m ≤ maxLen) (hbytes : (n + m) * bytes ≤ 140737488355328) (hbase : base ≤ w.heap.size)
  (h : ∀ v' w', w'.ownsRow base e size v' (n + m) (xs ++ news) → w.grownBy w' v.ownBlock → wpList P ops Q rest (a.put o.dst v') w') : wpList P ops Q (o :: rest) a w :=
 wpList_plain hgd fun _ hK => wp_append_src s x t ho base e i z size bytes ht hi hz hsize hby hzs hsz v n xs hs hown xv m news hx hsrc hl h1 h63 hbytes hbase fun v' w' h2 h3 => hK _ _ (h v' w' h2 h3)
theorem step_append_src {ops : Array Oper} {o : Oper} {a : Act} {K : Act → World → Prop} {Q : Exit → Act → World → Prop} {E : Prop} (hgd : o.guard = none) (s x : Operand) (t : TypeId)
  (ho : o.op = .call { callee := .builtin .append, args := #[s, x], argTypes := #[t, t] })
  (base : Nat) (e : TypeId) (i : TypeInfo) (z : Value) (size bytes : Nat) (ht : P.underlying t = some (.slice e)) (hi : P.info? e = some i) (hz : i.zero = some z)
  (hsize : i.size = size) (hby : i.bytes = bytes) (hzs : z.cells.size = size) (hsz : 0 < size)
  (v : Value) (n : Nat) (xs : List Value) (hs : a.eval s = v) (hown : w.ownsRow base e size v n xs)
  (xv : Value) (m : Nat) (news : List Value) (hx : a.eval x = xv) (hsrc : SrcV w xv m news) (hl : news.length = m * size) (h1 : ∀ u ∈ news, u.oneCell' = true)
  (h63 : n + m ≤ maxLen) (hbytes : (n + m) * bytes ≤ 140737488355328) (hbase : base ≤ w.heap.size)
  (h : ∀ v' w', w'.ownsRow base e size v' (n + m) (xs ++ news) → w.grownBy w' v.ownBlock → K (a.put o.dst v') w') :
  if Region.wanted o (yielded ops a.tmps) = true then Oper.wp P o a w K Q else E := by
 have hw : Region.wanted o (yielded ops a.tmps) = true := by simp [Region.wanted, hgd]
 rw [if_pos hw]
 exact wp_append_src s x t ho base e i z size bytes ht hi hz hsize hby hzs hsz v n xs hs hown xv m news hx hsrc hl h1 h63 hbytes hbase h
end
end
end
end Go.Proofs.Ytkgbifbbpmdpgaa
