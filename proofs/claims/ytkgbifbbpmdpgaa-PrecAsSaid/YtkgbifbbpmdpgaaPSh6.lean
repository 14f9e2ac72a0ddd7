/- The small machine's operations on memory. Of no program. -/
import Derived.Test.YtkgbifbbpmdpgaaPSh5
import Derived.Laws.MakeOwn
set_option linter.unusedVariables false
set_option linter.unusedSimpArgs false
namespace Go.Proofs.Ytkgbifbbpmdpgaa.Sh

open Go.RowKit
variable {bs : Inhabited Base}
def Bij.put (β : Bij) (b : Nat) (k : Bk) : Bij := fun i => if i = b then some k else β i
theorem Bij.put_ext {A : Nat → Prop} {β : Bij} {H : Hp} {w : World} (h : HR A β H w) (k : Bk) : Ext β (β.put H.next k) := by
 intro b k' hb
 have := (h.dom b k' hb).1
 unfold Bij.put
 rw [if_neg (by omega)]; exact hb
theorem make_get {H : Hp} (hw : WF H) (cells : List Value) (e : TypeId) (size b : Nat) : (H.make cells e size).tr.get b = if b = H.next then some ⟨cells, e, size, H.next⟩ else H.tr.get b := by
 show (H.tr.set ⟨cells, e, size, H.next⟩ H.next).get b = _
 rw [Tr.get_set _ _ _ _ ((hw.inb H.next hw.nx.1 (by have := hw.nx.2; omega)).1)]
theorem grp_none {H : Hp} (hw : WF H) : H.grp.get H.next = none := by
 cases h : H.grp.get H.next with
 | none => rfl
 | some p => have := (hw.new _ _ h).2; omega
def Pre (β : Bij) (l : List Value) (cs : Array Value) : Prop := ∀ (i : Nat) (x : Value), l[i]? = some x → ∃ y, cs[i]? = some y ∧ VR β x y
theorem VL.pre {β : Bij} {l : List Value} {cs : Array Value} (h : VL β l cs.toList) : Pre β l cs := by
 intro i x hx
 obtain ⟨y, hy, hr⟩ := h.get hx
 exact ⟨y, by simpa using hy, hr⟩
theorem RowV.mono {β β' : Bij} (h : Ext β β') {q : Blk} {k : Bk} {w w' : World} (hr : RowV β q k w) (hk : w'.heap[k.blk]? = w.heap[k.blk]?) : RowV β' q k w' := by
 obtain ⟨cs, h1, h2, h3⟩ := hr
 refine ⟨cs, h1.world hk, h2, fun i x hx => ?_⟩
 obtain ⟨y, hy, hv⟩ := h3 i x hx
 exact ⟨y, hy, hv.mono h⟩
structure Grew (w w' : World) (cs : Array Value) (e : TypeId) : Prop where
 os : w'.os = w.os
 tape : w'.tape = w.tape
 output : w'.output = w.output
 size : w'.heap.size = w.heap.size + 1
 new : w'.heap[w.heap.size]? = some (.cells cs e (0, 0))
 old : ∀ r, r < w.heap.size → w'.heap[r]? = w.heap[r]?
structure Grew0 (w w' : World) : Prop where
 os : w'.os = w.os
 tape : w'.tape = w.tape
 output : w'.output = w.output
 size : w'.heap.size = w.heap.size + 1
 old : ∀ r, r < w.heap.size → w'.heap[r]? = w.heap[r]?
theorem Grew.base {w w' : World} {cs : Array Value} {e : TypeId} (h : Grew w w' cs e) : Grew0 w w' := ⟨h.os, h.tape, h.output, h.size, h.old⟩
theorem Grew.alloc (w : World) (cs : Array Value) (e : TypeId) : Grew w (w.alloc (.cells cs e)) cs e :=
 ⟨rfl, rfl, rfl, World.size_alloc _ _, heap_alloc_new w _, fun r hr => heap_alloc_old w _ r hr⟩
theorem Grew.drew_alloc (w : World) (cs : Array Value) (e : TypeId) : Grew w (w.drew.alloc (.cells cs e)) cs e :=
 ⟨rfl, rfl, rfl, World.size_alloc _ _, heap_alloc_new w.drew _, fun r hr => heap_alloc_old w.drew _ r hr⟩
section
variable {A : Nat → Prop} {β : Bij} {H : Hp} {w w' : World}
theorem made0 (hw : WF H) (hr : HR A β H w) (hm : H.next ≤ 131000) (cells : List Value) (e : TypeId) (size cap : Nat) (hg : Grew0 w w') (hrow : RowV (β.put H.next ⟨w.heap.size, cap, size⟩) ⟨cells, e, size, H.next⟩ ⟨w.heap.size, cap, size⟩ w') :
  St β H w (β.put H.next ⟨w.heap.size, cap, size⟩) (H.make cells e size) w' ∧ HR A (β.put H.next ⟨w.heap.size, cap, size⟩) (H.make cells e size) w' ∧ WF (H.make cells e size) := by
 have hx := Bij.put_ext hr ⟨w.heap.size, cap, size⟩
 have hget := make_get hw cells e size
 have hpb : ∀ b k, (β.put H.next ⟨w.heap.size, cap, size⟩) b = some k → (b = H.next ∧ k = ⟨w.heap.size, cap, size⟩) ∨ (b ≠ H.next ∧ β b = some k) := by
  intro b k hb
  unfold Bij.put at hb
  split at hb
  · rename_i h; cases hb; exact .inl ⟨h, rfl⟩
  · rename_i h; exact .inr ⟨h, hb⟩
 refine ⟨⟨hg.os, hg.tape, hg.output, by have := hg.size; omega, hx, Nat.le_succ _, rfl, rfl, fun b h => h, fun r h _ => hg.old r h, ?_, ?_, ?_, fun g h => .inl h, fun b h1 h2 => ⟨⟨w.heap.size, cap, size⟩, by have h3 : b < H.next + 1 := h2; unfold Bij.put; rw [if_pos (by omega)]⟩⟩, ⟨?_, ?_, ?_, hr.base.trans hx, fun r o e => (hg.old r (lt_of_row (hr.fix r o e))).trans (hr.fix r o e), fun i k hk => by
  unfold Bij.put at hk
  split at hk
  · cases hk; exact hr.fix_none (Nat.le_refl _)
  · exact hr.apart i k hk⟩, ⟨?_, ?_, ?_, ?_, ?_, ?_, ?_, ?_⟩⟩
 · intro b k hb
   rcases hpb b k hb with ⟨h1, h2⟩ | ⟨_, h1⟩
   · subst h1
     exact .inr ⟨Nat.le_refl _, Nat.lt_succ_self _, _, by rw [hget, if_pos rfl], .inl ⟨Nat.le_refl _, by rw [h2]; exact Nat.le_refl _⟩⟩
   · exact .inl h1
 · intro b q hq
   exact ⟨q, by rw [hget, if_neg (by have := (hw.pos hq).2; omega)]; exact hq, rfl, rfl⟩
 · intro b q hq _ _
   exact ⟨by rw [hget, if_neg (by have := (hw.pos hq).2; omega)]; exact hq, rfl⟩
 · intro b k hb
   rcases hpb b k hb with ⟨h1, h2⟩ | ⟨_, h1⟩
   · subst h1; subst h2
     exact ⟨Nat.lt_succ_self _, by have := hg.size; simp only; omega, _, by rw [hget, if_pos rfl], rfl⟩
   · obtain ⟨h2, h3, q, h4, h5⟩ := hr.dom b k h1
     exact ⟨Nat.lt_succ_of_lt h2, by have := hg.size; omega, q, by rw [hget, if_neg (by omega)]; exact h4, h5⟩
 · intro b k q hb hq hl ha
   rcases hpb b k hb with ⟨h1, h2⟩ | ⟨h0, h1⟩
   · subst h1; subst h2
     rw [hget, if_pos rfl] at hq
     cases hq
     exact hrow
   · rw [hget, if_neg h0] at hq
     exact (hr.row b k q h1 hq hl ha).mono hx (hg.old _ (hr.dom b k h1).2.1)
 · intro b b' k k' q q' hb hb' hq hq' hk
   rw [hget] at hq hq'
   rcases hpb b k hb with ⟨h1, h2⟩ | ⟨h0, h1⟩ <;> rcases hpb b' k' hb' with ⟨h1', h2'⟩ | ⟨h0', h1'⟩
   · rw [if_pos h1] at hq; rw [if_pos h1'] at hq'; cases hq; cases hq'; rfl
   · have := (hr.dom b' k' h1').2.1; rw [h2] at hk; simp only at hk; omega
   · have := (hr.dom b k h1).2.1; rw [h2'] at hk; simp only at hk; omega
   · rw [if_neg h0] at hq; rw [if_neg h0'] at hq'; exact hr.share b b' k k' q q' h1 h1' hq hq' hk
 · exact Nat.le_succ_of_le hw.od
 · have := hw.nx; exact ⟨Nat.le_succ_of_le this.1, by show H.next + 1 ≤ _; omega⟩
 · intro k h1 h2
   have := hw.inb k h1 h2
   exact ⟨by show (H.tr.set _ _).inb k = true; rw [Tr.inb_set]; exact this.1, this.2⟩
 · intro b hb
   have hb' : H.next + 1 ≤ b := hb
   rw [hget, if_neg (by omega)]; exact hw.none b (by omega)
 · intro b q hq
   rw [hget] at hq
   split at hq
   · rename_i h1
     cases hq
     refine ⟨hw.nx.1, by simp only; omega, ?_⟩
     show b ≤ Hp.newest _ _
     unfold Hp.newest
     have : (H.make cells e size).grp.get H.next = none := grp_none hw
     simp only [this]; omega
   · exact hw.grp b q hq
 · intro g p hp'
   have := hw.new g p hp'
   exact ⟨Nat.lt_succ_of_lt this.1, Nat.lt_succ_of_lt this.2⟩
 · intro b b' q q' hq hq' hgq hbb hl
   rw [hget] at hq hq'
   by_cases h1 : b = H.next <;> by_cases h2 : b' = H.next
   · rw [if_pos h1] at hq; rw [if_pos h2] at hq'; cases hq; cases hq'; exact Nat.le_refl _
   · rw [if_neg h2] at hq'
     have := (hw.pos hq').2; omega
   · rw [if_neg h1] at hq; rw [if_pos h2] at hq'
     cases hq'
     have h3 := (hw.grp b q hq).2.1
     have h4 := (hw.pos hq).2
     simp only at hgq
     omega
   · rw [if_neg h1] at hq; rw [if_neg h2] at hq'
     exact hw.mono b b' q q' hq hq' hgq hbb hl
 · intro b h1 h2
   have h2' : b < H.next + 1 := h2
   rw [hget]
   by_cases e : b = H.next
   · exact ⟨_, if_pos e⟩
   · rw [if_neg e]; exact hw.all b h1 (by omega)
theorem made (hw : WF H) (hr : HR A β H w) (hm : H.next ≤ 131000) (cells : List Value) (e : TypeId) (he : e < mapE) (size : Nat) (cs : Array Value) (hp : Pre β cells cs) (hg : Grew w w' cs e) :
  St β H w (β.put H.next ⟨w.heap.size, cs.size, size⟩) (H.make cells e size) w' ∧ HR A (β.put H.next ⟨w.heap.size, cs.size, size⟩) (H.make cells e size) w' ∧ WF (H.make cells e size) := by
 refine made0 hw hr hm cells e size cs.size hg.base (RowV.of he hg.new rfl (fun i x hx' => ?_))
 obtain ⟨y, hy, hv⟩ := hp i x hx'
 exact ⟨y, hy, hv.mono (Bij.put_ext hr _)⟩
theorem one_one {x y : Value} (h : VR β x y) (ho : oneB x = true) : y.oneCell' = true := by
 cases h with
 | any v => cases ho
 | atom h => cases x <;> first | rfl | cases ho
 | agg hl h => cases ho
 | tuple hl h => cases ho
 | _ => rfl
theorem oneL_mem : ∀ (l : List Value), oneL l = true → ∀ x ∈ l, oneB x = true
 | [], _, x, hx => by cases hx
 | a :: r, h, x, hx => by
   have h' : cond (oneB a) (oneL r) false = true := h
   cases ha : oneB a with
   | false => rw [ha] at h'; cases h'
   | true =>
     rw [ha] at h'
     rcases List.mem_cons.1 hx with rfl | hx
     · exact ha
     · exact oneL_mem r h' x hx
theorem VL.ones {l m : List Value} (h : VL β l m) (ho : oneL l = true) : ∀ y ∈ m, y.oneCell' = true := by
 intro y hy
 obtain ⟨i, hi, rfl⟩ := List.getElem_of_mem hy
 have hi' : i < l.length := by rw [h.1]; exact hi
 exact one_one (h.2 i _ _ (List.getElem?_eq_getElem hi') (List.getElem?_eq_getElem hi)) (oneL_mem l ho _ (List.getElem_mem hi'))
theorem cells_VL {x y : Value} (h : VR β x y) (ho : oneL (cellsL x) = true) : VL β (cellsL x) y.cells.toList := by
 have one : ∀ x y : Value, oneB x = true → y.oneCell' = true → VR β x y → cellsL x = [x] ∧ y.cells = #[y] := by
  intro x y h1 h2 _
  constructor
  · cases x <;> first | rfl | cases h1
  · cases y <;> first | rfl | cases h2
 by_cases ha : ∃ xs, x = .agg xs
 · obtain ⟨xs, rfl⟩ := ha
   obtain ⟨ys, rfl, hl⟩ := h.agg_inv
   exact hl
 · have h1 : cellsL x = [x] := by
    unfold cellsL
    split
    · exact absurd ⟨_, rfl⟩ ha
    · rfl
   rw [h1] at ho ⊢
   have h2 := oneL_mem _ ho x (by simp)
   have h3 := one x y h2 (one_one h h2) h
   rw [h3.2]
   exact VL.cons h (VL.nil β)
theorem row_cell {q : Blk} {k : Bk} {i : Nat} {x : Value} (h : RowV β q k w) (he : q.elem < mapE) (hx : q.cells[i]? = some x) : ∃ y, w.cell? ⟨k.blk, i, none⟩ = some y ∧ VR β x y := by
 obtain ⟨cs, h1, h2, h3⟩ := h.cells he
 obtain ⟨y, hy, hv⟩ := h3 i x hx
 exact ⟨y, by rw [cell_of_row w _ i cs _ _ h1]; exact hy, hv⟩
theorem row_part {q : Blk} {k : Bk} {off n : Nat} (h : RowV β q k w) (he : q.elem < mapE) (hl : off + n ≤ q.cells.length) : ∃ ys : List Value, VL β ((q.cells.drop off).take n) ys ∧ ys.length = n ∧ ∀ (j : Nat) (y : Value), ys[j]? = some y → w.cell? ((⟨k.blk, off, none⟩ : Addr).add j) = some y := by
 obtain ⟨cs, h1, h2, h3⟩ := h.cells he
 have hcs : q.cells.length ≤ cs.size := by
  rcases Nat.eq_zero_or_pos q.cells.length with e | e
  · omega
  · obtain ⟨y, hy, _⟩ := h3 (q.cells.length - 1) _ (List.getElem?_eq_getElem (by omega))
    have := (Array.getElem?_eq_some_iff.1 hy).1; omega
 have hlen : ((cs.toList.drop off).take n).length = n := by simp; omega
 refine ⟨(cs.toList.drop off).take n, ⟨by simp; omega, fun i x y hx hy => ?_⟩, hlen, fun j y hy => ?_⟩
 · rw [List.getElem?_take] at hx hy
   split at hx
   · rename_i hi
     rw [if_pos hi] at hy
     rw [List.getElem?_drop] at hx hy
     obtain ⟨y', hy', hv⟩ := h3 _ x hx
     rw [Array.getElem?_toList] at hy
     rw [hy'] at hy; cases hy; exact hv
   · cases hx
 · rw [List.getElem?_take] at hy
   split at hy
   · rw [List.getElem?_drop, Array.getElem?_toList] at hy
     rw [add_addr, cell_of_row w _ _ cs _ _ h1]; exact hy
   · cases hy
theorem cellsAt_eq {q : Blk} {off n : Nat} {l : List Value} (h : cellsAt q off n = some l) : off + n ≤ q.cells.length + (if n = 0 then off else 0) ∧ l = (q.cells.drop off).take n ∧ l.length = n := by
 unfold cellsAt at h
 rcases cond_split h with ⟨h1, h2⟩ | ⟨_, h2⟩
 · have h1 := of_beq h1
   rw [lenL_eq, takeN_eq, dropN_eq] at h1
   cases h2
   rw [takeN_eq, dropN_eq]
   refine ⟨?_, rfl, h1⟩
   simp at h1
   split <;> omega
 · cases h2
def Loads (P : Program) (β : Bij) (H : Hp) (w : World) (s : Sem Value) : Nx → Prop
 | .val v H' => H' = H ∧ ∃ v', VR β v v' ∧ s.run P w = .ok v' w
 | .bad _ => True
 | _ => False
theorem load_run {P : Program} (hr : HR A β H w) {t : TypeId} {x y : Value} (h : VR β x y) (hA : ∀ b q, placeOf x = some b → H.tr.get b = some q → memN H.ban q.grp = false → A q.grp) : Loads P β H w (Instr.loadAt t y) (loadS P H t x) := by
 unfold loadS
 split
 · rename_i b off
   obtain ⟨k, hk, rfl⟩ := h.ptr_inv (sp := none)
   unfold loadB
   split
   · rename_i q hq
     obtain ⟨h1, h2, h3⟩ := read_inv hq
     have hrow := hr.row b k q hk h1 h2 (hA b q rfl h1 h3)
     split
     · rename_i n hn
       split
       · rename_i l hl
         obtain ⟨h4, rfl, h5⟩ := cellsAt_eq hl
         obtain ⟨ha, hz⟩ := agg_run hn w
         rcases Nat.eq_zero_or_pos n with rfl | hpos
         · refine ⟨rfl, .agg #[], ?_, ?_⟩
           · simp; exact .agg rfl (fun i x y h => by simp at h)
           · simp [Instr.loadAt, Instr.sureAddr, loadVar, ha, hz, loadCells, loadCellsFrom]
         · rw [if_neg (by omega)] at h4
           obtain ⟨ys, h6, h7, h8⟩ := row_part hrow (read_elem hq) (off := off) (n := n) (by omega)
           refine ⟨rfl, .agg ys.toArray, .agg (by simpa using h6.1) (by simpa using h6.2), ?_⟩
           have h9 := run_loadCells_list (P := P) w ⟨k.blk, off, none⟩ ys h8
           rw [h7] at h9
           simp [Instr.loadAt, Instr.sureAddr, loadVar, ha, hz, h9]
       · trivial
     · rename_i hn
       split
       · rename_i v hv
         rw [nth_eq] at hv
         obtain ⟨y, hy, hv'⟩ := row_cell hrow (read_elem hq) hv
         have ha := notAgg_run (P := P) hn w
         refine ⟨rfl, y, hv', ?_⟩
         simp [Instr.loadAt, Instr.sureAddr, loadVar, ha, hy]
       · trivial
     · trivial
   · trivial
 · trivial
theorem write_get (hw : WF H) {b : Nat} {q : Blk} (hq : H.tr.get b = some q) (cells : List Value) (j : Nat) : (H.write b q cells).tr.get j = if j = b then some ⟨cells, q.elem, q.size, q.grp⟩ else H.tr.get j := by
 have hp := hw.pos hq
 show (H.tr.set ⟨cells, q.elem, q.size, q.grp⟩ b).get j = _
 rw [Tr.get_set _ _ _ _ ((hw.inb b hp.1 (by have := hw.nx; omega)).1)]
theorem write_grp (hw : WF H) {b : Nat} {q : Blk} (hq : H.tr.get b = some q) (cells : List Value) (g : Nat) :
  (H.write b q cells).grp.get g = match H.grp.get q.grp with | some p => if g = q.grp then some (p.1, b) else H.grp.get g | none => H.grp.get g := by
 have hp := hw.pos hq
 have hg := hw.grp b q hq
 show (match H.grp.get q.grp with | some p => H.grp.set (p.1, b) q.grp | none => H.grp).get g = _
 split
 · rename_i p h
   rw [Tr.get_set _ _ _ _ ((hw.inb q.grp hg.1 (by have := hw.nx; omega)).2)]
 · rfl
theorem write_newest (hw : WF H) {b : Nat} {q : Blk} (hq : H.tr.get b = some q) (cells : List Value) (q' : Blk) : (H.write b q cells).newest q' = H.newest q' := by
 unfold Hp.newest
 rw [write_grp hw hq]
 cases h : H.grp.get q.grp with
 | none => rfl
 | some p =>
   by_cases e : q'.grp = q.grp
   · simp only [e, if_true, h]
   · simp only [e, if_false]
theorem write_since (hw : WF H) {b : Nat} {q : Blk} (hq : H.tr.get b = some q) (cells : List Value) (q' : Blk) : (H.write b q cells).since q' = if q'.grp = q.grp ∧ (H.grp.get q.grp).isSome = true then b else H.since q' := by
 unfold Hp.since
 rw [write_grp hw hq]
 cases h : H.grp.get q.grp with
 | none => simp
 | some p =>
   by_cases e : q'.grp = q.grp
   · simp [e]
   · simp [e]
theorem mem_wrote {H : Hp} {i b : Nat} : b ∈ wroteS H i ↔ b ∈ H.wrote ∨ (b = i ∧ i < H.old) := by
 unfold wroteS
 cases h : (Nat.blt i H.old && !(memN H.wrote i)) with
 | true =>
   obtain ⟨h1, h2⟩ := and_split h
   have h1 : i < H.old := Nat.le_of_ble_eq_true h1
   show b ∈ i :: H.wrote ↔ _
   simp only [List.mem_cons]
   constructor
   · rintro (h | h)
     · exact .inr ⟨h, h1⟩
     · exact .inl h
   · rintro (h | h)
     · exact .inr h
     · exact .inl h.1
 | false =>
   show b ∈ H.wrote ↔ _
   constructor
   · exact .inl
   · rintro (h' | ⟨rfl, h'⟩)
     · exact h'
     · have h3 : Nat.blt b H.old = true := Nat.ble_eq_true_of_le h'
       rw [h3] at h
       exact (memN_eq _ _).1 (by simpa using h)
structure Over (w w' : World) (r : Nat) (cs : Array Value) (e : TypeId) : Prop where
 os : w'.os = w.os
 tape : w'.tape = w.tape
 output : w'.output = w.output
 size : w'.heap.size = w.heap.size
 new : w'.heap[r]? = some (.cells cs e (0, 0))
 old : ∀ i, i ≠ r → w'.heap[i]? = w.heap[i]?
structure Over0 (w w' : World) (r : Nat) : Prop where
 os : w'.os = w.os
 tape : w'.tape = w.tape
 output : w'.output = w.output
 size : w'.heap.size = w.heap.size
 old : ∀ i, i ≠ r → w'.heap[i]? = w.heap[i]?
theorem Over.base {w w' : World} {r : Nat} {cs : Array Value} {e : TypeId} (h : Over w w' r cs e) : Over0 w w' r := ⟨h.os, h.tape, h.output, h.size, h.old⟩
theorem Over.setRow (w : World) (r : Nat) (cs cs' : Array Value) (e : TypeId) (h : w.heap[r]? = some (.cells cs e (0, 0))) : Over w (w.setRow r cs') r cs' e :=
 ⟨rfl, rfl, rfl, by simp, setRow_heap w r cs cs' e _ h, fun i hi => setRow_other w r i cs' hi⟩
theorem alone (hw : WF H) {b b2 : Nat} {q q2 : Blk} (hq : H.tr.get b = some q) (hn : H.newest q = b) (hq2 : H.tr.get b2 = some q2) (hg : q2.grp = q.grp) : b2 ≤ b ∧ ((H.grp.get q.grp).isSome = false → b2 = b) := by
 have h1 := (hw.grp b2 q2 hq2).2.2
 have h2 : H.newest q2 = H.newest q := by unfold Hp.newest; rw [hg]
 rw [h2, hn] at h1
 refine ⟨h1, fun h3 => ?_⟩
 have h4 : H.newest q = q.grp := by
  unfold Hp.newest
  cases e : H.grp.get q.grp with
  | none => rfl
  | some p => rw [e] at h3; cases h3
 have h5 := (hw.grp b2 q2 hq2).2.1
 omega
theorem stored0 (hw : WF H) (hr : HR A β H w) {b : Nat} {k : Bk} {q : Blk} (hb : β b = some k) (hq : H.tr.get b = some q) (hn : H.newest q = b) (hban : memN H.ban q.grp = false) (cells : List Value)
  (ho : Over0 w w' k.blk) (hrow : RowV β ⟨cells, q.elem, q.size, q.grp⟩ k w') :
  St β H w β (H.write b q cells) w' ∧ HR A β (H.write b q cells) w' ∧ WF (H.write b q cells) := by
 have hget := write_get hw hq cells
 have hsin := write_since hw hq cells
 have hdom := hr.dom b k hb
 have hmine : q.grp ∈ (H.write b q cells).wrote ∨ H.old ≤ q.grp := by
  rcases Nat.lt_or_ge q.grp H.old with h | h
  · exact .inl (mem_wrote.2 (.inr ⟨rfl, h⟩))
  · exact .inr h
 refine ⟨⟨ho.os, ho.tape, ho.output, by rw [ho.size]; exact Nat.le_refl _, Ext.refl _, Nat.le_refl _, rfl, rfl, fun i hi => mem_wrote.2 (.inl hi), ?_, fun i k' hi => .inl hi, ?_, ?_, ?_, fun i h1 h2 => absurd (show i < H.next from h2) (by omega)⟩, ⟨?_, ?_, ?_, hr.base, fun r o e => (ho.old r (fun e2 => by rw [e2, hr.apart b k hb] at e; cases e)).trans (hr.fix r o e), hr.apart⟩, ⟨hw.od, hw.nx, ?_, ?_, ?_, ?_, ?_, ?_⟩⟩
 · intro r hrs hk
   refine ho.old r (fun e => ?_)
   obtain ⟨h1, h2⟩ := hk b k q hb hq e.symm
   rcases hmine with h | h
   · exact h2 h
   · omega
 · intro i q' hq'
   rw [hget]
   by_cases e : i = b
   · subst e; rw [hq] at hq'; cases hq'; exact ⟨_, if_pos rfl, rfl, rfl⟩
   · exact ⟨q', by rw [if_neg e]; exact hq', rfl, rfl⟩
 · intro i q' hq' h1 h2
   have hne : q'.grp ≠ q.grp := fun e => by
    rw [e] at h1 h2
    rcases hmine with h | h
    · exact h2 h
    · omega
   have hib : i ≠ b := fun e => by subst e; rw [hq] at hq'; cases hq'; exact hne rfl
   exact ⟨by rw [hget, if_neg hib]; exact hq', by rw [hsin, if_neg (fun h => hne h.1)]⟩
 · intro g hg
   rcases mem_wrote.1 hg with h | ⟨rfl, h⟩
   · exact .inl h
   · exact .inr ⟨h, hban, b, k, q, hb, hq, rfl⟩
 · intro i k' hi
   obtain ⟨h1, h2, q', h3, h4⟩ := hr.dom i k' hi
   refine ⟨h1, by rw [ho.size]; exact h2, ?_⟩
   rw [hget]
   by_cases e : i = b
   · subst e; rw [hq] at h3; cases h3; exact ⟨_, if_pos rfl, h4⟩
   · exact ⟨q', by rw [if_neg e]; exact h3, h4⟩
 · intro i k' q' hi hq' hl ha
   rw [hget] at hq'
   by_cases e : i = b
   · subst e
     rw [if_pos rfl] at hq'
     cases hq'
     rw [hb] at hi; cases hi
     exact hrow
   · rw [if_neg e] at hq'
     rw [hsin] at hl
     have hne : q'.grp ≠ q.grp := by
      intro hg
      obtain ⟨h1, h2⟩ := alone hw hq hn hq' hg
      cases hs : (H.grp.get q.grp).isSome with
      | true => rw [if_pos ⟨hg, hs⟩] at hl; omega
      | false => exact e (h2 hs)
     rw [if_neg (fun h => hne h.1)] at hl
     exact (hr.row i k' q' hi hq' hl ha).mono (Ext.refl _) (ho.old _ (fun e' => hne (hr.share i b k' k q' q hi hb hq' hq e')))
 · intro i i' k1 k2 q1 q2 hi hi' hq1 hq2 hk
   have back : ∀ i q1, (H.write b q cells).tr.get i = some q1 → ∃ q0, H.tr.get i = some q0 ∧ q0.grp = q1.grp := by
    intro i q1 h
    rw [hget] at h
    by_cases e : i = b
    · rw [if_pos e] at h; cases h; exact ⟨q, by rw [e]; exact hq, rfl⟩
    · rw [if_neg e] at h; exact ⟨q1, h, rfl⟩
   obtain ⟨q3, h3, e3⟩ := back i q1 hq1
   obtain ⟨q4, h4, e4⟩ := back i' q2 hq2
   rw [← e3, ← e4]
   exact hr.share i i' k1 k2 q3 q4 hi hi' h3 h4 hk
 · intro i h1 h2
   have := hw.inb i h1 h2
   refine ⟨by show (H.tr.set _ _).inb i = true; rw [Tr.inb_set]; exact this.1, ?_⟩
   show (match H.grp.get q.grp with | some p => H.grp.set (p.1, b) q.grp | none => H.grp).inb i = true
   split
   · rw [Tr.inb_set]; exact this.2
   · exact this.2
 · intro i hi
   rw [hget, if_neg (fun e => by subst e; have : H.next ≤ i := hi; omega)]; exact hw.none i hi
 · intro i q1 hq1
   rw [write_newest hw hq]
   rw [hget] at hq1
   by_cases e : i = b
   · rw [if_pos e] at hq1; cases hq1; subst e
     exact hw.grp i q hq
   · rw [if_neg e] at hq1; exact hw.grp i q1 hq1
 · intro g p hp'
   rw [write_grp hw hq] at hp'
   cases h : H.grp.get q.grp with
   | none => rw [h] at hp'; exact hw.new g p hp'
   | some p0 =>
     rw [h] at hp'
     simp only at hp'
     by_cases e : g = q.grp
     · rw [if_pos e] at hp'; cases hp'; subst e; exact hw.new _ p0 h
     · rw [if_neg e] at hp'; exact hw.new g p hp'
 · intro i i' q1 q2 hq1 hq2 hg hii hl
   rw [hget] at hq1 hq2
   rw [hsin] at hl
   by_cases e1 : i = b <;> by_cases e2 : i' = b
   · rw [if_pos e1] at hq1; rw [if_pos e2] at hq2; cases hq1; cases hq2; exact Nat.le_refl _
   · rw [if_pos e1] at hq1; rw [if_neg e2] at hq2; cases hq1
     have := (alone hw hq hn hq2 hg.symm).1
     omega
   · rw [if_neg e1] at hq1; rw [if_pos e2] at hq2; cases hq2
     obtain ⟨h1, h2⟩ := alone hw hq hn hq1 hg
     cases hs : (H.grp.get q.grp).isSome with
     | true => rw [if_pos ⟨hg, hs⟩] at hl; omega
     | false => exact absurd (h2 hs) e1
   · rw [if_neg e1] at hq1; rw [if_neg e2] at hq2
     by_cases hg1 : q1.grp = q.grp
     · obtain ⟨h1, h2⟩ := alone hw hq hn hq1 hg1
       cases hs : (H.grp.get q.grp).isSome with
       | true => rw [if_pos ⟨hg1, hs⟩] at hl; omega
       | false => exact absurd (h2 hs) e1
     · rw [if_neg (fun h => hg1 h.1)] at hl
       exact hw.mono i i' q1 q2 hq1 hq2 hg hii hl
 · intro i h1 h2
   rw [hget]
   by_cases e : i = b
   · exact ⟨_, if_pos e⟩
   · rw [if_neg e]; exact hw.all i h1 h2
theorem stored (hw : WF H) (hr : HR A β H w) {b : Nat} {k : Bk} {q : Blk} (hb : β b = some k) (hq : H.tr.get b = some q) (hn : H.newest q = b) (hban : memN H.ban q.grp = false) (he : q.elem < mapE) (cells : List Value)
  (cs' : Array Value) (hcap : cs'.size = k.cap) (hp : Pre β cells cs') (ho : Over w w' k.blk cs' q.elem) :
  St β H w β (H.write b q cells) w' ∧ HR A β (H.write b q cells) w' ∧ WF (H.write b q cells) :=
 stored0 hw hr hb hq hn hban cells ho.base (RowV.of he ho.new hcap hp)
end
end Go.Proofs.Ytkgbifbbpmdpgaa.Sh
