/- A queue: a row of the call's own whose beginning moves. -/
import Derived.Test.YtijnekbhpdcemaaDoorGrLists
import Derived.ArgAppend
import Derived.Deep.Heap
namespace Go.Proofs.YtijnekbhpdcemaaDoor
open Go.RowKit
set_option linter.unusedVariables false
set_option linter.unusedSimpArgs false

def QRow (w : World) (base : Nat) (v : Value) (xs : List Value) : Prop :=
  ∃ g off cap, v = .slice (some ⟨g, off, none⟩) xs.length cap ∧ base ≤ g ∧ xs.length ≤ cap ∧ cap ≤ maxLen ∧ g < w.heap.size ∧
    (∀ j, j < cap → (w.cell? ⟨g, off + j, none⟩).isSome = true ∧ w.frozen? ⟨g, off + j, none⟩ = false) ∧ ∀ j u, xs[j]? = some u → w.cell? ⟨g, off + j, none⟩ = some u

theorem QRow.tail {w : World} {base : Nat} {g off n cap : Nat} {x : Value} {xs : List Value} (h : QRow w base (.slice (some ⟨g, off, none⟩) n cap) (x :: xs)) :
    n = xs.length + 1 ∧ w.cell? ⟨g, off, none⟩ = some x ∧ QRow w base (.slice (some ⟨g, off + 1, none⟩) (n - 1) (cap - 1)) xs := by
  obtain ⟨g', off', cap', hv, hb, hl, hm, hg, hc, hx⟩ := h
  cases hv
  simp at hl
  refine ⟨rfl, by have := hx 0 x rfl; rwa [Nat.add_zero] at this, g, off + 1, cap - 1, by simp, hb, by omega, by omega, hg, fun j hj => ?_, fun j u hu => ?_⟩
  · have := hc (j + 1) (by omega)
    rw [show off + 1 + j = off + (j + 1) by omega]; exact this
  · have := hx (j + 1) u (by simpa using hu)
    rw [show off + 1 + j = off + (j + 1) by omega]; exact this

theorem QRow.of_owns {w : World} {base n : Nat} {e : TypeId} {v : Value} {xs : List Value} (h : w.ownsRow base e 1 v n xs) (hn : 0 < n) : QRow w base v xs := by
  obtain ⟨h1, h2⟩ := h
  rcases h2 with ⟨_, h0⟩ | ⟨g, cap, cur, rfl, hg, hh, hnc, hc, hs, ht⟩
  · omega
  · have hxl : xs.length = n := by omega
    refine ⟨g, 0, cap, by rw [hxl], hg, by omega, hc, lt_of_block hh, fun j hj => ⟨?_, free_of_block hh⟩, fun j u hu => ?_⟩
    · rw [Nat.zero_add, cell_of_row w g j cur e (0, 0) hh, Array.getElem?_eq_getElem (by omega)]; rfl
    · rw [Nat.zero_add, cell_of_row w g j cur e (0, 0) hh]
      rw [← ht, List.getElem?_take] at hu
      split at hu
      · simpa using hu
      · cases hu

theorem setCells_one (w : World) (g o : Nat) (x : Value) : w.setCells g o [x] = w.setCell ⟨g, o, none⟩ x := rfl

theorem grown_any {w w' : World} {row : Option Nat} (h : w.grownBy w' none) : w.grownBy w' row := ⟨h.os, h.tape, h.output, h.size, fun k hk _ => h.block k hk (by simp)⟩

section
variable {P : Program}
theorem run_append_q {w : World} (base : Nat) (t ty e : TypeId) (i : TypeInfo) (z : Value) (bytes : Nat) (ht : P.underlying t = some (.slice e)) (hi : P.info? e = some i) (hz : i.zero = some z)
    (hsize : i.size = 1) (hby : i.bytes = bytes) (hzs : z.cells.size = 1) (v : Value) (xs : List Value) (hq : QRow w base v xs) (a : Addr) (c : Nat) (x : Value) (hx : w.cell? a = some x) (h1 : x.oneCell' = true)
    (h63 : xs.length + 1 ≤ maxLen) (hbytes : (xs.length + 1) * bytes ≤ 140737488355328) (hbase : base ≤ w.heap.size) :
    ∃ v' w', (Builtin.append_ #[t, t] ty #[v, .slice (some a) 1 c]).run P w = .ok v' w' ∧ QRow w' base v' (xs ++ [x]) ∧ w.grownBy w' v.ownBlock ∧ (v'.ownBlock = v.ownBlock ∨ ∃ k, v'.ownBlock = some k ∧ w.heap.size ≤ k) := by
  obtain ⟨g, off, cap, rfl, hb, hl, hm, hg, hc, hxs⟩ := hq
  have hnews : ∀ j u, [x][j]? = some u → w.cell? (a.add j) = some u := fun j u hj => by
    match j, hj with
    | 0, hj => simp at hj; subst hj; rw [show a.add 0 = a by unfold Addr.add; split <;> simp_all]; exact hx
  by_cases hroom : xs.length + 1 ≤ cap
  · have hr := run_append_room_cells (P := P) w t ty e i ht hi g off xs.length cap a 1 c [x] (by simp [hsize]) hnews (by simpa using h1) hroom
      (fun j hj => by simp at hj; subst hj; rw [hsize]; simpa using (hc xs.length (by omega)).1) (fun j hj => by simp at hj; subst hj; rw [hsize]; simpa using (hc xs.length (by omega)).2)
    rw [setCells_one, hsize, Nat.mul_one] at hr
    obtain ⟨cc, hcc⟩ := Option.isSome_iff_exists.1 (hc xs.length (by omega)).1
    refine ⟨_, _, hr, ⟨g, off, cap, by simp, hb, by simp; omega, hm, by simpa using hg, fun j hj => ⟨?_, ?_⟩, fun j u hu => ?_⟩, ⟨rfl, rfl, rfl, by simp, fun k hk hne => ?_⟩, .inl rfl⟩
    · by_cases e : j = xs.length
      · subst e; simp [World.cell?_setCell_same, hcc]
      · have hne : (⟨g, off + xs.length, none⟩ : Addr) ≠ ⟨g, off + j, none⟩ := fun h => by
          have h2 := congrArg Addr.off h
          simp at h2; omega
        simp [World.cell?_setCell_other, hne]
        exact (hc j hj).1
    · rw [World.frozen?_setCell]; exact (hc j hj).2
    · by_cases e : j = xs.length
      · subst e; simp at hu; subst hu; simp [World.cell?_setCell_same, hcc]
      · have hne : (⟨g, off + xs.length, none⟩ : Addr) ≠ ⟨g, off + j, none⟩ := fun h => by
          have h2 := congrArg Addr.off h
          simp at h2; omega
        have hj : j < xs.length := by
          have := (List.getElem?_eq_some_iff.1 hu).1; simp at this; omega
        rw [List.getElem?_append_left hj] at hu
        simp [World.cell?_setCell_other, hne]
        exact hxs j u hu
    · have hkg : k ≠ g := fun h => hne (by simp [Value.ownBlock, h])
      exact Go.Deep.blk_setCell_other _ _ _ _ hkg
  · obtain ⟨v', w', hr, h2, h3⟩ := run_append_arg_grows (P := P) w t ty e i z 1 bytes ht hi hz hsize hby hzs (by decide) ⟨g, off, none⟩ xs.length cap xs (by omega) (fun j u hu => by rw [addr_add]; exact hxs j u hu) a 1 c [x] (by simp) hnews (by omega) h63 hbytes
    refine ⟨v', w', hr, QRow.of_owns (own_weaken h2 hbase) (by omega), grown_any h3, .inr ?_⟩
    rcases h2.2 with ⟨_, h0⟩ | ⟨k, cap', cur, rfl, hk, _⟩
    · omega
    · exact ⟨k, rfl, hk⟩

/-- .. for the walk -/
theorem wpList_append_q (w : World) {ops : Array Oper} {rest : List Oper} {o : Oper} {a : Act} {Q : Exit → Act → World → Prop} (hgd : o.guard = none) (s x : Operand) (t : TypeId)
    (ho : o.op = .call { callee := .builtin .append, args := #[s, x], argTypes := #[t, t] })
    (base : Nat) (e : TypeId) (i : TypeInfo) (z : Value) (bytes : Nat) (ht : P.underlying t = some (.slice e)) (hi : P.info? e = some i) (hz : i.zero = some z) (hsize : i.size = 1) (hby : i.bytes = bytes) (hzs : z.cells.size = 1)
    (v : Value) (xs : List Value) (hs : a.eval s = v) (hq : QRow w base v xs) (ad : Addr) (c : Nat) (u : Value) (hx : a.eval x = .slice (some ad) 1 c) (hu : w.cell? ad = some u) (h1 : u.oneCell' = true)
    (h63 : xs.length + 1 ≤ maxLen) (hbytes : (xs.length + 1) * bytes ≤ 140737488355328) (hbase : base ≤ w.heap.size)
    (hK : ∀ v' w', QRow w' base v' (xs ++ [u]) → w.grownBy w' v.ownBlock → (v'.ownBlock = v.ownBlock ∨ ∃ k, v'.ownBlock = some k ∧ w.heap.size ≤ k) → wpList P ops Q rest (a.put o.dst v') w') : wpList P ops Q (o :: rest) a w := by
  refine wpList_plain hgd fun K hK' => ?_
  obtain ⟨v', w', hrun, r1, r2, r3⟩ := run_append_q (P := P) base t o.type e i z bytes ht hi hz hsize hby hzs v xs hq ad c u hu h1 h63 hbytes hbase
  unfold Oper.wp
  simp [execOp, ho, resolve, invoke, builtin, hs, hx, hrun, Result.andThen]
  exact hK' _ _ (hK v' w' r1 r2 r3)
end

/-- the queue, as it is laid -/
theorem QRow.new (w : World) (base : Nat) (x : Value) (t : TypeId) (hb : base ≤ w.heap.size) : QRow (w.alloc (.cells #[x] t)) base (.slice (some ⟨w.heap.size, 0, none⟩) 1 1) [x] := by
  have hh := heap_alloc_new w (.cells #[x] t)
  refine ⟨w.heap.size, 0, 1, rfl, hb, Nat.le_refl _, by unfold maxLen; omega, by simp, fun j hj => ⟨?_, free_of_block hh⟩, fun j u hu => ?_⟩
  · obtain rfl : j = 0 := by omega
    rw [Nat.zero_add, cell_of_row _ _ 0 _ _ (0, 0) hh]; rfl
  · match j, hu with
    | 0, hu => simp at hu; subst hu; rw [Nat.zero_add, cell_of_row _ _ 0 _ _ (0, 0) hh]; rfl
theorem QRow.grown {w w' : World} {base : Nat} {v : Value} {xs : List Value} {row : Option Nat} (h : QRow w base v xs) (hg : w.grownBy w' row) (hne : v.ownBlock ≠ row) : QRow w' base v xs := by
  obtain ⟨g, off, cap, rfl, hb, hl, hm, hlt, hc, hx⟩ := h
  have hbk : w'.heap[g]? = w.heap[g]? := hg.block g hlt (by simpa [Value.ownBlock] using hne)
  have hcell : ∀ j, w'.cell? ⟨g, j, none⟩ = w.cell? ⟨g, j, none⟩ := fun j => by simp [World.cell?, hbk]
  have hfr : ∀ j, w'.frozen? ⟨g, j, none⟩ = w.frozen? ⟨g, j, none⟩ := fun j => by simp [World.frozen?, hbk]
  exact ⟨g, off, cap, rfl, hb, hl, hm, Nat.lt_of_lt_of_le hlt hg.size, fun j hj => by rw [hcell, hfr]; exact hc j hj, fun j u hu => by rw [hcell]; exact hx j u hu⟩

end Go.Proofs.YtijnekbhpdcemaaDoor
