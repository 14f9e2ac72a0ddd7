/- Slices of whatever: what a slice's elements read as; lists that a call builds by appends; what has turned. Of no program. -/
import Derived.Test.YtkgbifbbpmdpgaaNBase
import Derived.Maps.AppendAt
set_option linter.unusedVariables false
set_option linter.unusedSimpArgs false
namespace Go.Proofs.Ytkgbifbbpmdpgaa

open Go.RowKit
def Firm (S : Nat → Prop) (w : World) (Q : World → Prop) : Prop := (∀ b, S b → b < w.heap.size) ∧ ∀ w' : World, (∀ b, S b → w'.heap[b]? = w.heap[b]?) → Q w'
theorem Firm.self {S : Nat → Prop} {w : World} {Q : World → Prop} (h : Firm S w Q) : Q w := h.2 w (fun _ _ => rfl)
theorem Firm.keep {S : Nat → Prop} {w w' : World} {Q : World → Prop} (h : Firm S w Q) (hk : ∀ b, S b → w'.heap[b]? = w.heap[b]?) : Firm S w' Q := by
 refine ⟨fun b hb => ?_, fun w2 h2 => h.2 w2 (fun b hb => (h2 b hb).trans (hk b hb))⟩
 have h1 := h.1 b hb
 have h2 := hk b hb
 rw [Array.getElem?_eq_getElem h1] at h2
 exact (Array.getElem?_eq_some_iff.1 h2).1
theorem Firm.below {S : Nat → Prop} {w w' : World} {Q : World → Prop} (h : Firm S w Q) (hb : Below w.heap.size w w') : Firm S w' Q := h.keep (fun b hS => hb.block b (h.1 b hS))
theorem Firm.grown {S : Nat → Prop} {w w' : World} {Q : World → Prop} {row : Option Nat} (h : Firm S w Q) (hg : w.grownBy w' row) (hn : ∀ b, row = some b → ¬ S b) : Firm S w' Q :=
 h.keep (fun b hS => hg.block b (h.1 b hS) (fun e => hn b e.symm hS))
theorem Firm.imp {S : Nat → Prop} {w : World} {Q Q' : World → Prop} (h : Firm S w Q) (hi : ∀ w', Q w' → Q' w') : Firm S w Q' := ⟨h.1, fun w' hw => hi w' (h.2 w' hw)⟩
theorem Firm.and {S S' : Nat → Prop} {w : World} {Q Q' : World → Prop} (h : Firm S w Q) (h' : Firm S' w Q') : Firm (fun b => S b ∨ S' b) w (fun w' => Q w' ∧ Q' w') :=
 ⟨fun b hb => hb.elim (h.1 b) (h'.1 b), fun w' hw => ⟨h.2 w' (fun b hb => hw b (.inl hb)), h'.2 w' (fun b hb => hw b (.inr hb))⟩⟩
theorem Firm.wide {S S' : Nat → Prop} {w : World} {Q : World → Prop} (h : Firm S w Q) (hs : ∀ b, S b → S' b) (hl : ∀ b, S' b → b < w.heap.size) : Firm S' w Q := ⟨hl, fun w' hw => h.2 w' (fun b hb => hw b (hs b hb))⟩
theorem Firm.pure {w : World} {Q : World → Prop} (h : ∀ w', Q w') : Firm (fun _ => False) w Q := ⟨fun _ h => h.elim, fun w' _ => h w'⟩
def ListV {α : Type} (size : Nat) (R : World → List Value → α → Prop) (w : World) (v : Value) (l : List α) : Prop :=
 ∃ a c, v = .slice a l.length c ∧ l.length ≤ c ∧ c ≤ 9223372036854775807 ∧ (a = none → c = 0) ∧
  ∀ i x, l[i]? = some x → ∃ b off cs, a = some ⟨b, off, none⟩ ∧ cs.length = size ∧ R w cs x ∧ ∀ j, j < size → w.cell? ⟨b, off + i * size + j, none⟩ = some (cs.getD j undef)
theorem ListV.map {α : Type} {size : Nat} {R R' : World → List Value → α → Prop} {w w' : World} {v : Value} {l : List α} (h : ListV size R w v l) (hR : ∀ cs x, R w cs x → R' w' cs x) (hc : ∀ a x, w.cell? a = some x → w'.cell? a = some x) : ListV size R' w' v l := by
 obtain ⟨a, c, h1, h2, h3, h4, h5⟩ := h
 refine ⟨a, c, h1, h2, h3, h4, fun i x hx => ?_⟩
 obtain ⟨b, off, cs, e1, e2, e3, e4⟩ := h5 i x hx
 exact ⟨b, off, cs, e1, e2, hR _ _ e3, fun j hj => hc _ _ (e4 j hj)⟩
theorem ListV.below {α : Type} {size : Nat} {R : World → List Value → α → Prop} {w w' : World} {v : Value} {l : List α} (h : ListV size R w v l) (hR : ∀ cs x, R w cs x → R w' cs x) (hb : Below w.heap.size w w') : ListV size R w' v l :=
 h.map hR (fun a x hx => (hb.cell (World.block_lt_of_cell? _ _ hx)).trans hx)
theorem ListV.open {α : Type} {size : Nat} {R : World → List Value → α → Prop} {w : World} {v : Value} {l : List α} (h : ListV size R w v l) : ∃ a n c, v = .slice a n c ∧ Hid (n = l.length) ∧ n ≤ c ∧ c ≤ 9223372036854775807 ∧
  Hid (∀ i, i < n → ∃ b off cs x, a = some ⟨b, off, none⟩ ∧ l[i]? = some x ∧ cs.length = size ∧ R w cs x ∧ ∀ j, j < size → w.cell? ⟨b, off + i * size + j, none⟩ = some (cs.getD j undef)) := by
 obtain ⟨a, c, h1, h2, h3, h4, h5⟩ := h
 refine ⟨a, _, c, h1, Lib.hid rfl, h2, h3, Lib.hid (fun i hi => ?_)⟩
 obtain ⟨b, off, cs, e1, e2, e3, e4⟩ := h5 i _ (List.getElem?_eq_getElem hi)
 exact ⟨b, off, cs, _, e1, List.getElem?_eq_getElem hi, e2, e3, e4⟩
theorem ListV.nil {α : Type} (size : Nat) (R : World → List Value → α → Prop) (w : World) : ListV size R w (.slice none 0 0) [] :=
 ⟨none, 0, rfl, Nat.le_refl _, by omega, fun _ => rfl, fun i x hx => by simp at hx⟩
theorem ListV.take {α : Type} {size : Nat} {R : World → List Value → α → Prop} {w : World} {a : Option Addr} {n c k : Nat} {l : List α} (h : ListV size R w (.slice a n c) l) (hk : k ≤ n) : ListV size R w (.slice a k c) (l.take k) := by
 obtain ⟨a', c', h1, h2, h3, h4, h5⟩ := h
 cases h1
 refine ⟨a, c, by simp; omega, by simp; omega, h3, h4, fun i x hx => ?_⟩
 rw [List.getElem?_take] at hx
 split at hx
 · exact h5 i x hx
 · cases hx
structure GrowL {α : Type} (base : Nat) (E : TypeId) (size : Nat) (R : World → List Value → α → Prop) (S : Nat → Prop) (w : World) (v : Value) (xs : List Value) (l : List α) : Prop where
 own : w.ownsRow base E size v l.length xs
 rows : Firm S w (fun w' => ∀ i x, l[i]? = some x → R w' ((xs.drop (i * size)).take size) x)
 apart : ∀ k, v.ownBlock = some k → ¬ S k
section
variable {α : Type} {base : Nat} {E : TypeId} {size : Nat} {R : World → List Value → α → Prop} {S : Nat → Prop} {w w' : World} {v : Value} {xs : List Value} {l : List α}
theorem GrowL.nil (base : Nat) (E : TypeId) (size : Nat) (R : World → List Value → α → Prop) (w : World) : GrowL base E size R (fun _ => False) w (.slice none 0 0) [] [] :=
 ⟨World.ownsRow_nil _ _ _ _, Firm.pure (fun w' i x hx => by simp at hx), fun k hk => by cases hk⟩
theorem GrowL.len (h : GrowL base E size R S w v xs l) : xs.length = l.length * size := h.own.1
theorem row_kept {n : Nat} (h : w.ownsRow base E size v n xs) (hk : ∀ k, v.ownBlock = some k → w'.heap[k]? = w.heap[k]?) : w'.ownsRow base E size v n xs := by
 obtain ⟨h1, h2⟩ := h
 refine ⟨h1, ?_⟩
 rcases h2 with h2 | ⟨g, cap, cur, rfl, hg, hh, r⟩
 · exact .inl h2
 · exact .inr ⟨g, cap, cur, rfl, hg, (hk g rfl).trans hh, r⟩
theorem GrowL.keep (h : GrowL base E size R S w v xs l) (hk : ∀ b, (S b ∨ v.ownBlock = some b) → w'.heap[b]? = w.heap[b]?) : GrowL base E size R S w' v xs l :=
 ⟨row_kept h.own (fun k hk' => hk k (.inr hk')), h.rows.keep (fun b hb => hk b (.inl hb)), h.apart⟩
theorem GrowL.lt (h : GrowL base E size R S w v xs l) : ∀ b, (S b ∨ v.ownBlock = some b) → b < w.heap.size := fun b hb => hb.elim (h.rows.1 b) (fun e => (h.own.lt b e).2)
theorem GrowL.below (h : GrowL base E size R S w v xs l) (hb : Below w.heap.size w w') : GrowL base E size R S w' v xs l := h.keep (fun b hS => hb.block b (h.lt b hS))
theorem getElem?_flat (i j : Nat) (hj : j < size) : ((xs.drop (i * size)).take size)[j]? = xs[i * size + j]? := by
 rw [List.getElem?_take, if_pos hj, List.getElem?_drop]
theorem GrowL.list (h : GrowL base E size R S w v xs l) (hs : 0 < size) : ListV size R w v l := by
 obtain ⟨h1, h2⟩ := h.own
 rcases h2 with ⟨rfl, h0⟩ | ⟨g, cap, cur, rfl, hg, hh, hn, hc, hsz, ht⟩
 · obtain rfl := List.eq_nil_of_length_eq_zero h0
   exact ListV.nil _ _ _
 · refine ⟨_, cap, rfl, hn, by unfold maxLen at hc; omega, fun e => (by cases e), fun i x hx => ?_⟩
   have hi : i < l.length := (List.getElem?_eq_some_iff.1 hx).1
   have hm : i * size + size ≤ l.length * size := by
    have := Nat.mul_le_mul_right size (show i + 1 ≤ l.length by omega)
    rw [Nat.succ_mul] at this; exact this
   refine ⟨g, 0, _, rfl, ?_, h.rows.self i x hx, fun j hj => ?_⟩
   · rw [List.length_take, List.length_drop]; omega
   · have hlt : i * size + j < xs.length := by omega
     rw [Nat.zero_add, h.own.cellAt _ (by omega), List.getD_eq_getElem?_getD, getElem?_flat i j hj, List.getElem?_eq_getElem hlt]; rfl
theorem flat_push {cs : List Value} (hl : xs.length = l.length * size) (hc : cs.length = size) {x : α} (i : Nat) (y : α) (hy : (l ++ [x])[i]? = some y) :
  (l[i]? = some y ∧ ((xs ++ cs).drop (i * size)).take size = (xs.drop (i * size)).take size) ∨ (y = x ∧ ((xs ++ cs).drop (i * size)).take size = cs) := by
 by_cases hi : i < l.length
 · left
   rw [List.getElem?_append_left hi] at hy
   refine ⟨hy, ?_⟩
   have hm : i * size + size ≤ l.length * size := by
    have := Nat.mul_le_mul_right size (show i + 1 ≤ l.length by omega)
    rw [Nat.succ_mul] at this; exact this
   rw [List.drop_append_of_le_length (by omega), List.take_append_of_le_length (by rw [List.length_drop]; omega)]
 · right
   rw [List.getElem?_append_right (by omega)] at hy
   have h0 : i = l.length := by
    have := (List.getElem?_eq_some_iff.1 hy).1
    simp at this; omega
   subst h0
   simp at hy
   refine ⟨hy.symm, ?_⟩
   rw [← hl, List.drop_left, ← hc, List.take_length]
theorem GrowL.push {v' : Value} {cs : List Value} {x : α} {S' : Nat → Prop} (h : GrowL base E size R S w v xs l) (ho : w'.ownsRow base E size v' (l.length + 1) (xs ++ cs)) (hg : w.grownBy w' v.ownBlock)
  (hl : v'.ownBlock = v.ownBlock ∨ v'.ownBlock = some w.heap.size) (hc : cs.length = size) (hx : Firm S' w (fun w' => R w' cs x)) (hn : ∀ k, v.ownBlock = some k → ¬ S' k) :
  GrowL base E size R (fun b => S b ∨ S' b) w' v' (xs ++ cs) (l ++ [x]) := by
 refine ⟨by rw [List.length_append]; exact ho, ?_, ?_⟩
 · refine Firm.imp ((h.rows.grown hg h.apart).and (hx.grown hg hn)) ?_
   rintro w2 ⟨h1, h2⟩ i y hy
   rcases flat_push h.len hc i y hy with ⟨a, b⟩ | ⟨rfl, b⟩
   · rw [b]; exact h1 i y a
   · rw [b]; exact h2
 · intro k hk hS
   rcases hl with e | e
   · rw [e] at hk
     exact hS.elim (h.apart k hk) (hn k hk)
   · rw [e] at hk
     cases hk
     exact hS.elim (fun hS => Nat.lt_irrefl _ (h.rows.1 _ hS)) (fun hS => Nat.lt_irrefl _ (hx.1 _ hS))
end
def intR (w : World) (cs : List Value) (x : Int) : Prop := cs = [.int .i64 x]
theorem ListV.ints {w : World} {v : Value} {l : List Int} (h : ListV 1 intR w v l) : IntsV w v l := by
 obtain ⟨a, c, h1, h2, h3, h4, h5⟩ := h
 subst h1
 refine IntsV.mk rfl h2 h3 (fun i hi => ?_) h4
 obtain ⟨b, off, cs, e1, e2, e3, e4⟩ := h5 i _ (List.getElem?_eq_getElem hi)
 refine ⟨b, off, e1, ?_⟩
 have := e4 0 (by omega)
 rw [Nat.mul_one, Nat.add_zero] at this
 rw [this, e3, List.getD_eq_getElem?_getD, List.getD_eq_getElem?_getD, List.getElem?_eq_getElem hi]; rfl
theorem IntsV.list {w : World} {v : Value} {l : List Int} (h : IntsV w v l) : ListV 1 intR w v l := by
 obtain ⟨a, n, c, rfl, hn, hnc, hc, hx⟩ := h.open
 obtain rfl := hn.out
 refine ⟨a, c, rfl, hnc, hc, h.none_cap, fun i x hx' => ?_⟩
 have hi := (List.getElem?_eq_some_iff.1 hx').1
 obtain ⟨b, off, ha, hcell⟩ := hx.out i hi
 refine ⟨b, off, [.int .i64 x], ha, rfl, rfl, fun j hj => ?_⟩
 obtain rfl : j = 0 := by omega
 rw [Nat.mul_one, Nat.add_zero, hcell, List.getD_eq_getElem?_getD, hx']; rfl
structure Turns (S : Nat → Prop) (w w' : World) : Prop where
 os : w'.os = w.os
 tape : w'.tape = w.tape
 output : w'.output = w.output
 size : w.heap.size ≤ w'.heap.size
 block : ∀ b, b < w.heap.size → ¬ S b → w'.heap[b]? = w.heap[b]?
section
variable {S S' : Nat → Prop} {w w1 w2 : World}
theorem Turns.refl (S : Nat → Prop) (w : World) : Turns S w w := ⟨rfl, rfl, rfl, Nat.le_refl _, fun _ _ _ => rfl⟩
theorem Turns.trans (h : Turns S w w1) (h' : Turns S' w1 w2) (hs : ∀ b, b < w.heap.size → S' b → S b) : Turns S w w2 :=
 ⟨h'.os.trans h.os, h'.tape.trans h.tape, h'.output.trans h.output, Nat.le_trans h.size h'.size, fun b hb hn => (h'.block b (Nat.lt_of_lt_of_le hb h.size) (fun e => hn (hs b hb e))).trans (h.block b hb hn)⟩
theorem Turns.of_below (h : Below w.heap.size w w1) : Turns S w w1 := ⟨h.os, h.tape, h.output, h.size, fun b hb _ => h.block b hb⟩
theorem Turns.of_grown {row : Option Nat} (h : w.grownBy w1 row) (hr : ∀ k, row = some k → k < w.heap.size → S k) : Turns S w w1 :=
 ⟨h.os, h.tape, h.output, h.size, fun b hb hn => h.block b hb (fun e => hn (hr b e.symm hb))⟩
theorem Turns.below (h : Turns S w w1) {B : Nat} (hB : B ≤ w.heap.size) (hS : ∀ b, S b → B ≤ b) : Below B w w1 :=
 ⟨h.os, h.tape, h.output, h.size, fun b hb => h.block b (Nat.lt_of_lt_of_le hb hB) (fun e => by have := hS b e; omega)⟩
theorem Turns.to_below (h : Turns S w w1) {B : Nat} {a : World} (ha : Below B a w) (hB : B ≤ w.heap.size) (hS : ∀ b, S b → B ≤ b) : Below B a w1 := ha.trans (h.below hB hS)
theorem Turns.drew (h : Turns S w w1) : Turns S w w1.drew := ⟨h.os, h.tape, h.output, h.size, h.block⟩
theorem Turns.alloc (h : Turns S w w1) (o : Obj) : Turns S w (w1.alloc o) :=
 ⟨h.os, h.tape, h.output, Nat.le_trans h.size (by simp), fun b hb hn => (Below.heap_alloc w1 o b (Nat.lt_of_lt_of_le hb h.size)).trans (h.block b hb hn)⟩
theorem Turns.setCell (h : Turns S w w1) {p : Addr} (hp : S p.block ∨ w.heap.size ≤ p.block) (u : Value) : Turns S w (w1.setCell p u) :=
 ⟨h.os, h.tape, h.output, by simpa [World.setCell] using h.size, fun b hb hn => (Below.heap_setCell w1 p u b (by
  rintro rfl
  rcases hp with hp | hp
  · exact hn hp
  · omega)).trans (h.block b hb hn)⟩
theorem Turns.cell (h : Turns S w w1) {p : Addr} (hb : p.block < w.heap.size) (hn : ¬ S p.block) : w1.cell? p = w.cell? p := World.cell?_of_block (h.block p.block hb hn)
theorem Turns.frozen (h : Turns S w w1) {p : Addr} (hb : p.block < w.heap.size) (hn : ¬ S p.block) : w1.frozen? p = w.frozen? p := World.frozen?_of_block (h.block p.block hb hn)
theorem Turns.mono (h : Turns S w w1) (hs : ∀ b, b < w.heap.size → S b → S' b) : Turns S' w w1 := ⟨h.os, h.tape, h.output, h.size, fun b hb hn => h.block b hb (fun e => hn (hs b hb e))⟩
end
end Go.Proofs.Ytkgbifbbpmdpgaa
