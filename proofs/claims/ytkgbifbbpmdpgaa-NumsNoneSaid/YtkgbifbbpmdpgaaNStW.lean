/- A struct behind a pointer, some of whose fields are slices of its own that grow: what it holds, what a step leaves. Of no program. -/
import Derived.Test.YtkgbifbbpmdpgaaNShape
import Derived.Deep.RegionHeld3
import Derived.KernelRfl
set_option linter.unusedVariables false
set_option linter.unusedSimpArgs false
namespace Go.Proofs.Ytkgbifbbpmdpgaa

open Go.RowKit
theorem tk (i : Nat) {P : Program} {ops : Array Oper} {Q : Exit → Act → World → Prop} {md : Region.Mode} {S : World → Prop} {oi : Oper} {v : Value} {fuel : Nat} {listed : Array Bool} {a : Act} {w : World}
  (h : wpAnyH P md ops Q S fuel (listed.setIfInBounds i true) (a.put oi.dst v) w) (hi : ops[i]? = some oi := by rfl) (hs : Region.noSelect ops = true := by kernel_rfl) (hf : Region.free md ops listed i = true := by kernel_rfl)
  (hr : (Region.ready md ops listed).contains i = true := by kernel_rfl) (hQ : ∀ c a w, Q (.panic c) (a.put oi.dst v) w → Q (.panic c) a w := by exact fun _ _ _ h => h)
  (hy : YieldsIf P ops S oi v a := by exact Or.inl ⟨by rfl, by (intro w' hSw; (try dsimp only at hSw); go_simp; all_goals (with_reducible rfl))⟩) (hS : S w := by assumption) : wpAnyH P md ops Q S (fuel + 1) listed a w :=
 wpAnyH_take hi hs hf hr hQ hy hS h
structure Fr (D : Nat → Prop) (w w' : World) : Prop where
 os : w'.os = w.os
 tape : w'.tape = w.tape
 output : w'.output = w.output
 size : w.heap.size ≤ w'.heap.size
 block : ∀ b, b < w.heap.size → ¬ D b → w'.heap[b]? = w.heap[b]?
section
variable {D D1 : Nat → Prop} {w w1 w2 w' : World} {B : Nat}
theorem Fr.refl (D : Nat → Prop) (w : World) : Fr D w w := ⟨rfl, rfl, rfl, Nat.le_refl _, fun _ _ _ => rfl⟩
theorem Fr.trans (h : Fr D w w1) (h1 : Fr D1 w1 w2) (hd : ∀ b, D1 b → D b ∨ w.heap.size ≤ b) : Fr D w w2 :=
 ⟨h1.os.trans h.os, h1.tape.trans h.tape, h1.output.trans h.output, Nat.le_trans h.size h1.size, fun b hb hn => (h1.block b (Nat.lt_of_lt_of_le hb h.size) (fun hD => (hd b hD).elim hn (fun h2 => by omega))).trans (h.block b hb hn)⟩
theorem Fr.of_below (h : Below w.heap.size w w') : Fr D w w' := ⟨h.os, h.tape, h.output, h.size, fun b hb _ => h.block b hb⟩
theorem Fr.below (h : Fr D w w') (hD : ∀ b, D b → B ≤ b) (hB : B ≤ w.heap.size) : Below B w w' := ⟨h.os, h.tape, h.output, h.size, fun b hb => h.block b (by omega) (fun hd => by have := hD b hd; omega)⟩
theorem Fr.grown {row : Option Nat} (h : w.grownBy w' row) (hD : ∀ b, row = some b → D b) : Fr D w w' := ⟨h.os, h.tape, h.output, h.size, fun b hb hn => h.block b hb (fun e => hn (hD b e.symm))⟩
theorem Fr.set (w : World) (p : Addr) (u : Value) (hD : D p.block) : Fr D w (w.setCell p u) := ⟨rfl, rfl, rfl, by simp, fun b hb hn => Below.heap_setCell _ _ _ _ (fun e => hn (e ▸ hD))⟩
theorem Fr.alloc (w : World) (o : Obj) : Fr D w (w.alloc o) := Fr.of_below ((Below.refl _ _).alloc (Nat.le_refl _) o)
theorem Fr.drew (w : World) : Fr D w w.drew := Fr.of_below (Below.refl _ _).drew
theorem Fr.cell {p : Addr} {u : Value} (h : Fr D w w') (hu : w.cell? p = some u) (hn : ¬ D p.block) : w'.cell? p = some u :=
 (World.cell?_of_block (h.block p.block (World.block_lt_of_cell? _ _ hu) hn)).trans hu
end
structure Rw where
 E : TypeId
 size : Nat
 v : Value
 n : Nat
 xs : List Value
structure StW (w : World) (B M : Nat) (T : TypeId) (cs : List Value) (rows : List Rw) (S : Nat → Prop) : Prop where
 box : w.heap[M]? = some (.cells cs.toArray T (0, 0))
 mB : B ≤ M
 own : ∀ r ∈ rows, w.ownsRow B r.E r.size r.v r.n r.xs
 notM : ∀ r ∈ rows, r.v.ownBlock ≠ some M
 two : ∀ (i j : Nat) (r r' : Rw), i ≠ j → rows[i]? = some r → rows[j]? = some r' → ∀ b, r.v.ownBlock = some b → r'.v.ownBlock ≠ some b
 low : ∀ b, S b → B ≤ b ∧ b < w.heap.size ∧ b ≠ M
 apart : ∀ b, S b → ∀ r ∈ rows, r.v.ownBlock ≠ some b
def footS (M : Nat) (rows : List Rw) (b : Nat) : Prop := b = M ∨ ∃ r ∈ rows, r.v.ownBlock = some b
section
variable {w w' w2 : World} {B M : Nat} {T : TypeId} {cs : List Value} {rows : List Rw} {S S' : Nat → Prop}
theorem StW.mlt (h : StW w B M T cs rows S) : M < w.heap.size := lt_of_block h.box
theorem StW.lt (h : StW w B M T cs rows S) : ∀ b, footS M rows b → B ≤ b ∧ b < w.heap.size := by
 rintro b (rfl | ⟨r, hr, e⟩)
 · exact ⟨h.mB, h.mlt⟩
 · exact (h.own r hr).lt b e
theorem StW.sapart (h : StW w B M T cs rows S) : ∀ b, S b → ¬ footS M rows b := by
 rintro b hb (rfl | ⟨r, hr, e⟩)
 · exact (h.low _ hb).2.2 rfl
 · exact h.apart b hb r hr e
theorem StW.keep (h : StW w B M T cs rows S) (hs : w.heap.size ≤ w'.heap.size) (hk : ∀ b, footS M rows b → w'.heap[b]? = w.heap[b]?) : StW w' B M T cs rows S :=
 ⟨(hk M (.inl rfl)).trans h.box, h.mB, fun r hr => row_kept (h.own r hr) (fun k e => hk k (.inr ⟨r, hr, e⟩)), h.notM, h.two, fun b hb => ⟨(h.low b hb).1, Nat.lt_of_lt_of_le (h.low b hb).2.1 hs, (h.low b hb).2.2⟩, h.apart⟩
theorem StW.below (h : StW w B M T cs rows S) (hb : Below w.heap.size w w') : StW w' B M T cs rows S := h.keep hb.size (fun b hf => hb.block b (h.lt b hf).2)
theorem StW.frame {D : Nat → Prop} (h : StW w B M T cs rows S) (hf : Fr D w w') (hd : ∀ b, D b → ¬ footS M rows b) : StW w' B M T cs rows S := h.keep hf.size (fun b hb => hf.block b (h.lt b hb).2 (fun hD => hd b hD hb))
theorem StW.widen (h : StW w B M T cs rows S) (hl : ∀ b, S' b → B ≤ b ∧ b < w.heap.size ∧ ¬ footS M rows b) : StW w B M T cs rows S' :=
 ⟨h.box, h.mB, h.own, h.notM, h.two, fun b hb => ⟨(hl b hb).1, (hl b hb).2.1, fun e => (hl b hb).2.2 (.inl e)⟩, fun b hb r hr e => (hl b hb).2.2 (.inr ⟨r, hr, e⟩)⟩
theorem StW.cell (h : StW w B M T cs rows S) (j : Nat) : w.cell? ⟨M, j, none⟩ = cs[j]? := by rw [cell_of_row w M j _ _ _ h.box]; simp
theorem StW.free (h : StW w B M T cs rows S) (j : Nat) : w.frozen? ⟨M, j, none⟩ = false := free_of_block h.box
theorem StW.put (h : StW w B M T cs rows S) (j : Nat) (u : Value) : StW (w.setCell ⟨M, j, none⟩ u) B M T (cs.set j u) rows S := by
 have hb := block_setCell (j := j) (u := u) h.box
 refine ⟨by rw [hb]; simp, h.mB, fun r hr => row_kept (h.own r hr) (fun k e => Below.heap_setCell _ _ _ _ (fun e2 => h.notM r hr (by rw [e, e2]))), h.notM, h.two, fun b hS => ⟨(h.low b hS).1, by simpa using (h.low b hS).2.1, (h.low b hS).2.2⟩, h.apart⟩
theorem rows_set {i : Nat} {r0 : Rw} {r : Rw} (hr : r ∈ rows.set i r0) : (∃ j, j ≠ i ∧ rows[j]? = some r) ∨ r = r0 := by
 obtain ⟨j, hj⟩ := List.getElem?_of_mem hr
 rw [List.getElem?_set] at hj
 by_cases e : i = j
 · rw [if_pos e] at hj
   split at hj
   · exact .inr (Option.some.inj hj).symm
   · cases hj
 · rw [if_neg e] at hj
   exact .inl ⟨j, fun e2 => e e2.symm, hj⟩
theorem StW.grow {i : Nat} {r : Rw} {v' : Value} {n' : Nat} {xs' : List Value} (h : StW w B M T cs rows S) (hr : rows[i]? = some r) (hg : w.grownBy w2 r.v.ownBlock) (ho : w2.ownsRow B r.E r.size v' n' xs') (hl : v'.ownBlock = r.v.ownBlock ∨ v'.ownBlock = some w.heap.size) :
  StW w2 B M T cs (rows.set i ⟨r.E, r.size, v', n', xs'⟩) S := by
 have hm := List.mem_of_getElem? hr
 have hkeep : ∀ b, b < w.heap.size → r.v.ownBlock ≠ some b → w2.heap[b]? = w.heap[b]? := fun b hb hn => hg.block b hb (fun e => hn e.symm)
 have hnew : ∀ b, v'.ownBlock = some b → r.v.ownBlock = some b ∨ b = w.heap.size := fun b hb => by
  rcases hl with e | e
  · exact .inl (by rw [← e]; exact hb)
  · rw [e] at hb; exact .inr (by cases hb; rfl)
 refine ⟨(hkeep M h.mlt (h.notM r hm)).trans h.box, h.mB, fun r1 hr1 => ?_, fun r1 hr1 => ?_, fun j k r1 r2 hjk h1 h2 b hb1 hb2 => ?_, fun b hS => ⟨(h.low b hS).1, Nat.lt_of_lt_of_le (h.low b hS).2.1 hg.size, (h.low b hS).2.2⟩, fun b hS r1 hr1 e => ?_⟩
 · rcases rows_set hr1 with ⟨j, hj, hr2⟩ | rfl
   · exact row_kept (h.own r1 (List.mem_of_getElem? hr2)) (fun k e => hkeep k ((h.own r1 (List.mem_of_getElem? hr2)).lt k e).2 (fun e2 => h.two j i r1 r hj hr2 hr k e e2))
   · exact ho
 · rcases rows_set hr1 with ⟨j, hj, hr2⟩ | rfl
   · exact h.notM r1 (List.mem_of_getElem? hr2)
   · intro e
     rcases hnew M e with e | e
     · exact h.notM r hm e
     · have := h.mlt; omega
 · have old : ∀ j r1, (rows.set i ⟨r.E, r.size, v', n', xs'⟩)[j]? = some r1 → (j ≠ i ∧ rows[j]? = some r1) ∨ (j = i ∧ r1 = ⟨r.E, r.size, v', n', xs'⟩) := fun j r1 e => by
    rw [List.getElem?_set] at e
    by_cases e2 : i = j
    · rw [if_pos e2] at e
      split at e
      · exact .inr ⟨e2.symm, (Option.some.inj e).symm⟩
      · cases e
    · rw [if_neg e2] at e; exact .inl ⟨fun e3 => e2 e3.symm, e⟩
   rcases old j r1 h1 with ⟨q1, q2⟩ | ⟨q1, q2⟩ <;> rcases old k r2 h2 with ⟨q3, q4⟩ | ⟨q3, q4⟩
   · exact h.two j k r1 r2 hjk q2 q4 b hb1 hb2
   · subst q4
     rcases hnew b hb2 with e | e
     · exact h.two j i r1 r q1 q2 hr b hb1 e
     · have := ((h.own r1 (List.mem_of_getElem? q2)).lt b hb1).2; omega
   · subst q2
     rcases hnew b hb1 with e | e
     · exact h.two i k r r2 (fun e3 => q3 e3.symm) hr q4 b e hb2
     · have := ((h.own r2 (List.mem_of_getElem? q4)).lt b hb2).2; omega
   · omega
 · rcases rows_set hr1 with ⟨j, hj, hr2⟩ | rfl
   · exact h.apart b hS r1 (List.mem_of_getElem? hr2) e
   · rcases hnew b e with e | e
     · exact h.apart b hS r hm e
     · have := (h.low b hS).2.1; omega
theorem StW.store {i : Nat} {r : Rw} {g n cap : Nat} (h : StW w B M T cs rows S) (hr : rows[i]? = some r) (hv : r.v = .slice (some ⟨g, 0, none⟩) n cap) (j : Nat) (u : Value) :
  StW (w.setCell ⟨g, j, none⟩ u) B M T cs (rows.set i ⟨r.E, r.size, r.v, r.n, r.xs.set j u⟩) S := by
 have hm := List.mem_of_getElem? hr
 have ho := h.own r hm
 have hn : r.n = n := by
  rcases ho.2 with ⟨e, _⟩ | ⟨g', cap', cur, e, _⟩
  · rw [hv] at e; cases e
  · rw [hv] at e; cases e; rfl
 have ho2 := ho
 rw [hv, hn] at ho2
 obtain ⟨h1, h2⟩ := ho2.stored j u
 have hb : r.v.ownBlock = some g := by rw [hv]; rfl
 refine h.grow hr (by rw [hb]; exact h2) ?_ (.inl rfl)
 rw [hv, hn]; exact h1
theorem StW.foot_grow {i : Nat} {r : Rw} {v' : Value} {n' : Nat} {xs' : List Value} (hr : rows[i]? = some r) (hl : v'.ownBlock = r.v.ownBlock ∨ v'.ownBlock = some w.heap.size) : ∀ b, footS M (rows.set i ⟨r.E, r.size, v', n', xs'⟩) b → footS M rows b ∨ w.heap.size ≤ b := by
 rintro b (rfl | ⟨r1, hr1, e⟩)
 · exact .inl (.inl rfl)
 · rcases rows_set hr1 with ⟨j, hj, hr2⟩ | rfl
   · exact .inl (.inr ⟨r1, List.mem_of_getElem? hr2, e⟩)
   · rcases hl with e2 | e2
     · exact .inl (.inr ⟨r, List.mem_of_getElem? hr, by rw [← e2]; exact e⟩)
     · exact .inr (by rw [show v'.ownBlock = some b from e] at e2; cases e2; exact Nat.le_refl _)
theorem StW.fr_grow {i : Nat} {r : Rw} (hr : rows[i]? = some r) (hg : w.grownBy w2 r.v.ownBlock) : Fr (footS M rows) w w2 := Fr.grown hg (fun b e => .inr ⟨r, List.mem_of_getElem? hr, e⟩)
theorem StW.fr_put (w : World) (j : Nat) (u : Value) : Fr (footS M rows) w (w.setCell ⟨M, j, none⟩ u) := Fr.set w _ u (.inl rfl)
end
end Go.Proofs.Ytkgbifbbpmdpgaa
