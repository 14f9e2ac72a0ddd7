/- The reader's memory; what its small methods tell. -/
import Derived.Test.YtnoppoifepbchaaDoorReadS
import Derived.Test.YtnoppoifepbchaaDoorTxt1
import Derived.Test.YtnoppoifepbchaaDoorProg
import Derived.Deep.CutRange
import Derived.Deep.CutBlock
import Derived.IntWalk
namespace Go.Proofs.YtnoppoifepbchaaDoor

open Go.RowKit
set_option linter.unusedVariables false
set_option linter.unusedSimpArgs false

theorem rdCell_alloc {w : World} {p : Addr} {u : Value} (h : w.cell? p = some u) (o : Obj) : (w.alloc o).cell? p = some u :=
 (((Below.refl w.heap.size w).alloc (Nat.le_refl _) o).cell (World.block_lt_of_cell? _ _ h)).trans h
theorem heap_keep (w : World) (o : Obj) {b : Nat} {x : Obj} (h : w.heap[b]? = some x) : (w.alloc o).heap[b]? = some x := by
 rw [Below.heap_alloc w o b (by rcases Nat.lt_or_ge b w.heap.size with h' | h'; exact h'; rw [Array.getElem?_eq_none h'] at h; cases h)]; exact h
theorem heap_made (w : World) (cs : Array Value) (T : TypeId) (b : Nat) (hb : b = w.heap.size) : (w.alloc (.cells cs T)).heap[b]? = some (.cells cs T (0, 0)) := by subst hb; exact heap_alloc_new w _
def Wd.agg8 (p : Wd) : Value := .agg #[.int .i64 p.kind, .string p.text, .int .i64 p.place]
def wdR (w : World) (cs : List Value) (p : Wd) : Prop := cs = [.int .i64 p.kind, .string p.text, .int .i64 p.place]
def WdL (w : World) (v : Value) (l : Wds) : Prop := ListV 3 wdR w v l
theorem WdL.below {w w' : World} {v : Value} {l : Wds} (h : WdL w v l) (hb : Below w.heap.size w w') : WdL w' v l := ListV.below h (fun _ _ h => h) hb
/-- a word's cells -/
theorem WdL.at {w : World} {v : Value} {l : Wds} {n : Nat} (h : WdL w v l) (hn : n < l.length) : ∃ b o m c, v = .slice (some ⟨b, o, none⟩) m c ∧ Hid (m = l.length) ∧ n < m ∧ m ≤ c ∧ c ≤ 9223372036854775807 ∧
  w.cell? ⟨b, o + n * 3, none⟩ = some (.int .i64 (wAt l n).kind) ∧ w.cell? ⟨b, o + n * 3 + 1, none⟩ = some (.string (wAt l n).text) ∧ w.cell? ⟨b, o + n * 3 + 2, none⟩ = some (.int .i64 (wAt l n).place) := by
 obtain ⟨a, m, c, h1, h2, h3, h4, h5⟩ := ListV.open h
 have hm := h2.out
 obtain ⟨b, o, cs, x, e1, e2, e3, e4, e5⟩ := h5.out n (by omega)
 subst e1
 rw [wAt_some hn] at e2
 cases e2
 cases e4
 exact ⟨b, o, m, c, h1, h2, by omega, h3, h4, e5 0 (by omega), e5 1 (by omega), e5 2 (by omega)⟩

/-- the words, and where the reader lies -/
structure RdIn (w0 : World) (wv : Value) (L : Wds) (a : Nat) : Prop where
 ws : WdL w0 wv L
 lt : w0.heap.size ≤ a
 ok : LexOk L
def rdO (wv : Value) (n : Nat) (hp : Bool) (pro : ByteArray) (dv rv : Value) : Obj := .cells #[wv, .int .i64 n, .bool hp, .string pro, dv, rv, .string ByteArray.empty] 74 (0, 0)
structure RdAt (w0 w : World) (a : Nat) (wv : Value) (n : Nat) (hp : Bool) (pro : ByteArray) (dv rv : Value) : Prop where
 below : Below w0.heap.size w0 w
 row : w.heap[a]? = some (rdO wv n hp pro dv rv)
def only (a b : Nat) : Prop := b = a
/-- a step of the reader: it stands elsewhere, all else is as it was -/
def RdGo (w0 : World) (a : Nat) (wv : Value) (n : Nat) (hp : Bool) (pro : ByteArray) (dv rv : Value) (w : World) (v : Value) (e : Ending) (w' : World) : Prop := e = .returned v ∧ RdAt w0 w' a wv n hp pro dv rv ∧ Turns (only a) w w'

section
variable {w0 w : World} {a : Nat} {wv : Value} {n : Nat} {hp : Bool} {pro : ByteArray} {dv rv : Value} {L : Wds}
theorem RdAt.lt (h : RdAt w0 w a wv n hp pro dv rv) : a < w.heap.size := (Array.getElem?_eq_some_iff.1 h.row).1
theorem RdAt.ahead (h : RdAt w0 w a wv n hp pro dv rv) {w' : World} (hb : Below w.heap.size w w') : RdAt w0 w' a wv n hp pro dv rv :=
 ⟨h.below.trans (hb.mono h.below.size), (hb.block a h.lt).trans h.row⟩
theorem RdAt.cells (h : RdAt w0 w a wv n hp pro dv rv) : w.cell? ⟨a, 0, none⟩ = some wv ∧ w.cell? ⟨a, 1, none⟩ = some (.int .i64 n) ∧ w.cell? ⟨a, 2, none⟩ = some (.bool hp) ∧ w.cell? ⟨a, 3, none⟩ = some (.string pro) ∧
  w.cell? ⟨a, 4, none⟩ = some dv ∧ w.cell? ⟨a, 5, none⟩ = some rv ∧ w.cell? ⟨a, 6, none⟩ = some (.string ByteArray.empty) :=
 ⟨cell_of_row _ _ 0 _ _ _ h.row, cell_of_row _ _ 1 _ _ _ h.row, cell_of_row _ _ 2 _ _ _ h.row, cell_of_row _ _ 3 _ _ _ h.row, cell_of_row _ _ 4 _ _ _ h.row, cell_of_row _ _ 5 _ _ _ h.row, cell_of_row _ _ 6 _ _ _ h.row⟩
theorem RdAt.free (h : RdAt w0 w a wv n hp pro dv rv) (j : Nat) : w.frozen? ⟨a, j, none⟩ = false := free_of_block h.row
/-- a store into the reader's place -/
theorem RdAt.move (h : RdAt w0 w a wv n hp pro dv rv) (hI : RdIn w0 wv L a) (m : Nat) : RdAt w0 (w.setCell ⟨a, 1, none⟩ (.int .i64 m)) a wv m hp pro dv rv ∧ Turns (only a) w (w.setCell ⟨a, 1, none⟩ (.int .i64 m)) :=
 ⟨⟨h.below.setCell (p := ⟨a, 1, none⟩) hI.lt _, block_setCell h.row⟩, (Turns.refl (only a) w).setCell (p := ⟨a, 1, none⟩) (.inl rfl) _⟩

theorem wordInfo8 : (Tryd.prog.info? 76).map (·.size) = some 3 := by kernel_rfl
set_option maxRecDepth 100000 in
theorem word_any (hI : RdIn w0 wv L a) (h : RdAt w0 w a wv n hp pro dv rv) (hn : n < L.length) :
  Calls Tryd.prog 28 #[.pointer (some ⟨a, 0, none⟩)] w fun e w' => e = .returned (wAt L n).agg8 ∧ Below w.heap.size w w' := by
 obtain ⟨c0, c1, _⟩ := h.cells
 obtain ⟨b, o, m, c, rfl, hm, hnm, hmc, hc, x0, x1, x2⟩ := (hI.ws.below h.below).at hn
 unfold Wd.agg8
 generalize wAt L n = x at x0 x1 x2 ⊢
 obtain ⟨xk, xt, xp⟩ := x
 simp only at x0 x1 x2 ⊢
 clear hI h
 have i1 : (n : Int) < (m : Int) := by omega
 replace c0 := rdCell_alloc c0 (.cells #[.int .i64 0, .string ⟨#[]⟩, .int .i64 0] 76)
 replace c1 := rdCell_alloc c1 (.cells #[.int .i64 0, .string ⟨#[]⟩, .int .i64 0] 76)
 replace x0 := rdCell_alloc x0 (.cells #[.int .i64 0, .string ⟨#[]⟩, .int .i64 0] 76)
 replace x1 := rdCell_alloc x1 (.cells #[.int .i64 0, .string ⟨#[]⟩, .int .i64 0] 76)
 replace x2 := rdCell_alloc x2 (.cells #[.int .i64 0, .string ⟨#[]⟩, .int .i64 0] 76)
 go_enter Tryd.func28, Tryd.ntmps28
 go_wp2_with fail
 go_region
 go_wp2_with fail
 have hh : ((w.alloc (.cells #[.int .i64 xk, .string xt, .int .i64 xp] 76)).drew).heap[w.heap.size]? = some (.cells #[.int .i64 xk, .string xt, .int .i64 xp] 76 (0, 0)) := heap_alloc_new w _
 exact bodyPost_ret (v := .agg #[.int .i64 xk, .string xt, .int .i64 xp]) (results_cell_row rfl _ _ w.heap.size 76 #[.int .i64 xk, .string xt, .int .i64 xp] (0, 0) _ rfl hh Tryd.underlying76 rfl wordInfo8) rfl ⟨rfl, ((Below.refl _ _).alloc (Nat.le_refl _) _).drew⟩

theorem RdAt.aside (h : RdAt w0 w a wv n hp pro dv rv) {b j : Nat} (hb : b ≠ a) (hb0 : w0.heap.size ≤ b) (u : Value) : RdAt w0 (w.setCell ⟨b, j, none⟩ u) a wv n hp pro dv rv :=
 ⟨h.below.setCell (p := ⟨b, j, none⟩) hb0 u, (Below.heap_setCell _ _ _ _ (Ne.symm hb)).trans h.row⟩
/-- a box of three cells, written over -/
theorem set3_row {w : World} {q : Nat} {a0 a1 a2 : Value} {t : TypeId} (h : w.heap[q]? = some (.cells #[a0, a1, a2] t (0, 0))) (v0 v1 v2 : Value) :
  (((w.setCell ⟨q, 0, none⟩ v0).setCell ⟨q, 1, none⟩ v1).setCell ⟨q, 2, none⟩ v2).heap[q]? = some (.cells #[v0, v1, v2] t (0, 0)) :=
 block_setCell (j := 2) (block_setCell (j := 1) (block_setCell (j := 0) h))
theorem RdAt.aside3 (h : RdAt w0 w a wv n hp pro dv rv) {b : Nat} (hb : b ≠ a) (hb0 : w0.heap.size ≤ b) (v0 v1 v2 : Value) : RdAt w0 (((w.setCell ⟨b, 0, none⟩ v0).setCell ⟨b, 1, none⟩ v1).setCell ⟨b, 2, none⟩ v2) a wv n hp pro dv rv :=
 ((h.aside hb hb0 v0).aside hb hb0 v1).aside hb hb0 v2
/-- a box of three cells in a world behind it -/
theorem box3 {w : World} {b : Nat} {c0 c1 c2 : Value} {T : TypeId} (h : w.heap[b]? = some (.cells #[c0, c1, c2] T (0, 0))) : w.cell? ⟨b, 0, none⟩ = some c0 ∧ w.cell? ⟨b, 1, none⟩ = some c1 ∧ w.cell? ⟨b, 2, none⟩ = some c2 ∧
  w.frozen? ⟨b, 0, none⟩ = false ∧ w.frozen? ⟨b, 1, none⟩ = false ∧ w.frozen? ⟨b, 2, none⟩ = false :=
 ⟨cell_of_row _ _ 0 _ _ _ h, cell_of_row _ _ 1 _ _ _ h, cell_of_row _ _ 2 _ _ _ h, free_of_block h, free_of_block h, free_of_block h⟩

set_option maxRecDepth 100000 in
theorem rdTake_any (hI : RdIn w0 wv L a) (h : RdAt w0 w a wv n hp pro dv rv) (hn : n < L.length) :
  Calls Tryd.prog 92 #[.pointer (some ⟨a, 0, none⟩)] w (RdGo w0 a wv (n + 1) hp pro dv rv w (wAt L n).agg8) := by
 have hnb : n < 100000 := Nat.lt_of_lt_of_le hn hI.ok.len
 have ha := h.lt
 have h1 := h.ahead ((Below.refl w.heap.size w).alloc (Nat.le_refl _) (.cells #[.int .i64 0, .string ⟨#[]⟩, .int .i64 0] 76))
 have hW := Lib.hid (word_any hI h1 hn)
 unfold Wd.agg8 at hW ⊢
 generalize wAt L n = x at hW ⊢
 obtain ⟨xk, xt, xp⟩ := x
 simp only at hW ⊢
 have HI := Lib.hid hI
 clear hI hn
 go_enter Tryd.func92, Tryd.ntmps92
 go_upto_region 2 with (first | (go_at_call 28; (with_reducible refine hW.out.mono ?_); rintro e w1 ⟨rfl, hb1⟩))
 have h2 := h1.ahead hb1
 have hr := (hb1.block w.heap.size (by simp)).trans (heap_made w _ _ _ rfl)
 have hs1 : w.heap.size < w1.heap.size := by have := hb1.size; simp at this; omega
 have h3 := h2.ahead ((Below.refl w1.heap.size w1).alloc (Nat.le_refl _) (.cells #[.int .i64 xk, .string xt, .int .i64 xp] 76))
 have r1 := heap_keep w1 (.cells #[.int .i64 xk, .string xt, .int .i64 xp] 76) hr
 have r2 := heap_made w1 #[.int .i64 xk, .string xt, .int .i64 xp] 76 _ rfl
 have hb2 := (((Below.refl w.heap.size w).alloc (Nat.le_refl _) (.cells #[.int .i64 0, .string ⟨#[]⟩, .int .i64 0] 76)).trans (hb1.mono (by simp))).alloc (by omega) (.cells #[.int .i64 xk, .string xt, .int .i64 xp] 76)
 generalize w1.alloc (.cells #[.int .i64 xk, .string xt, .int .i64 xp] 76) = w2 at h3 r1 r2 hb2 ⊢
 obtain ⟨p0, p1, p2, q0, q1, q2⟩ := box3 r1
 obtain ⟨u0, u1, u2, v0, v1, v2⟩ := box3 r2
 obtain ⟨_, c1, _⟩ := h3.cells
 have f1 := h3.free 1
 go_wp2_with fail
 obtain ⟨hm, ht⟩ := h3.move HI.out (n + 1)
 have hne : w.heap.size ≠ a := Nat.ne_of_gt ha
 have hlt := h.below.size
 have hR := set3_row ((Below.heap_setCell w2 ⟨a, 1, none⟩ (.int .i64 ((n + 1 : Nat) : Int)) _ hne).trans r1) (.int .i64 xk) (.string xt) (.int .i64 xp)
 have hM := hm.aside3 hne hlt (.int .i64 xk) (.string xt) (.int .i64 xp)
 have hT := (((((Turns.of_below hb2).trans ht (fun _ _ h => h)).setCell (p := ⟨w.heap.size, 0, none⟩) (.inr (Nat.le_refl _)) (.int .i64 xk)).setCell (p := ⟨w.heap.size, 1, none⟩) (.inr (Nat.le_refl _)) (.string xt)).setCell (p := ⟨w.heap.size, 2, none⟩) (.inr (Nat.le_refl _)) (.int .i64 xp))
 exact bodyPost_ret (v := .agg #[.int .i64 xk, .string xt, .int .i64 xp]) (results_cell_row rfl _ _ w.heap.size 76 #[.int .i64 xk, .string xt, .int .i64 xp] (0, 0) _ rfl hR Tryd.underlying76 rfl wordInfo8) rfl ⟨rfl, hM, hT⟩

def signT (t : ByteArray) (x : Wd) : Bool := decide (x.kind = 6) && (x.text.toList == t.toList)
set_option maxRecDepth 100000 in
theorem isSign_any (hI : RdIn w0 wv L a) (h : RdAt w0 w a wv n hp pro dv rv) (hn : n < L.length) (t : ByteArray) :
  Calls Tryd.prog 118 #[.pointer (some ⟨a, 0, none⟩), .string t] w fun e w' => e = .returned (.bool (signT t (wAt L n))) ∧ Below w.heap.size w w' := by
 have hW := Lib.hid (word_any hI h hn)
 unfold Wd.agg8 at hW
 generalize wAt L n = x at hW ⊢
 obtain ⟨xk, xt, xp⟩ := x
 unfold signT
 simp only at hW ⊢
 clear hI h hn
 by_cases hk : xk = 6
 · have hb : (xk == 6) = true := by simp [hk]
   have hd : decide (xk = 6) = true := by simp [hk]
   rw [hd]
   clear hk
   go_enter Tryd.func118, Tryd.ntmps118
   go_upto_region 2 with (first | (go_at_call 28; (with_reducible refine hW.out.mono ?_); rintro e w1 ⟨rfl, hb1⟩))
   go_wp2_with fail
   go_ret
   exact ⟨by rfl, hb1.alloc hb1.size _⟩
 · have hb : (xk == 6) = false := by simp [hk]
   have hd : decide (xk = 6) = false := by simp [hk]
   rw [hd]
   clear hk
   go_enter Tryd.func118, Tryd.ntmps118
   go_upto_region 2 with (first | (go_at_call 28; (with_reducible refine hW.out.mono ?_); rintro e w1 ⟨rfl, hb1⟩))
   go_wp2_with fail
   go_ret
   exact ⟨by rfl, hb1.alloc hb1.size _⟩

set_option maxRecDepth 100000 in
theorem takeSign_no (hI : RdIn w0 wv L a) (h : RdAt w0 w a wv n hp pro dv rv) (hn : n < L.length) (t : ByteArray) (hs : signT t (wAt L n) = false) :
  Calls Tryd.prog 95 #[.pointer (some ⟨a, 0, none⟩), .string t] w fun e w' => e = .returned (.bool false) ∧ Below w.heap.size w w' := by
 have hW := Lib.hid (isSign_any hI h hn t)
 rw [hs] at hW
 clear hI h hn hs
 go_enter Tryd.func95, Tryd.ntmps95
 go_wp2_with (first | (go_at_call 118; (with_reducible refine hW.out.mono ?_); rintro e w1 ⟨rfl, hb1⟩))
 go_ret
 exact ⟨by rfl, hb1⟩
set_option maxRecDepth 100000 in
theorem takeSign_yes (hI : RdIn w0 wv L a) (h : RdAt w0 w a wv n hp pro dv rv) (hn : n < L.length) (t : ByteArray) (hs : signT t (wAt L n) = true) :
  Calls Tryd.prog 95 #[.pointer (some ⟨a, 0, none⟩), .string t] w (RdGo w0 a wv (n + 1) hp pro dv rv w (.bool true)) := by
 have hnb : n < 100000 := Nat.lt_of_lt_of_le hn hI.ok.len
 have hW := Lib.hid (isSign_any hI h hn t)
 rw [hs] at hW
 have HI := Lib.hid hI
 clear hI hn hs
 go_enter Tryd.func95, Tryd.ntmps95
 go_upto_region 3 with (first | (go_at_call 118; (with_reducible refine hW.out.mono ?_); rintro e w1 ⟨rfl, hb1⟩))
 have h2 := h.ahead hb1
 obtain ⟨_, c1, _⟩ := h2.cells
 have f1 := h2.free 1
 go_wp2_with fail
 obtain ⟨hm, ht⟩ := h2.move HI.out (n + 1)
 go_ret
 exact ⟨by rfl, hm, (Turns.of_below hb1).trans ht (fun _ _ h => h)⟩

theorem symInfo8 : (Tryd.prog.info? 40).map (·.size) = some 4 := by kernel_rfl
/-- a box of four cells, written over -/
theorem set4_row8 {w : World} {q : Nat} {a0 a1 a2 a3 : Value} {t : TypeId} (h : w.heap[q]? = some (.cells #[a0, a1, a2, a3] t (0, 0))) (v0 v1 v2 v3 : Value) :
  ((((w.setCell ⟨q, 0, none⟩ v0).setCell ⟨q, 1, none⟩ v1).setCell ⟨q, 2, none⟩ v2).setCell ⟨q, 3, none⟩ v3).heap[q]? = some (.cells #[v0, v1, v2, v3] t (0, 0)) :=
 block_setCell (j := 3) (block_setCell (j := 2) (block_setCell (j := 1) (block_setCell (j := 0) h)))
theorem RdAt.aside4 (h : RdAt w0 w a wv n hp pro dv rv) {b : Nat} (hb : b ≠ a) (hb0 : w0.heap.size ≤ b) (v0 v1 v2 v3 : Value) : RdAt w0 ((((w.setCell ⟨b, 0, none⟩ v0).setCell ⟨b, 1, none⟩ v1).setCell ⟨b, 2, none⟩ v2).setCell ⟨b, 3, none⟩ v3) a wv n hp pro dv rv :=
 (((h.aside hb hb0 v0).aside hb hb0 v1).aside hb hb0 v2).aside hb hb0 v3
theorem Turns.set4 {S : Nat → Prop} {a b : World} (h : Turns S a b) {q : Nat} (hq : S q ∨ a.heap.size ≤ q) (v0 v1 v2 v3 : Value) : Turns S a ((((b.setCell ⟨q, 0, none⟩ v0).setCell ⟨q, 1, none⟩ v1).setCell ⟨q, 2, none⟩ v2).setCell ⟨q, 3, none⟩ v3) :=
 (((h.setCell (p := ⟨q, 0, none⟩) hq v0).setCell (p := ⟨q, 1, none⟩) hq v1).setCell (p := ⟨q, 2, none⟩) hq v2).setCell (p := ⟨q, 3, none⟩) hq v3
theorem box4 {w : World} {b : Nat} {c0 c1 c2 c3 : Value} {T : TypeId} (h : w.heap[b]? = some (.cells #[c0, c1, c2, c3] T (0, 0))) : w.cell? ⟨b, 0, none⟩ = some c0 ∧ w.cell? ⟨b, 1, none⟩ = some c1 ∧ w.cell? ⟨b, 2, none⟩ = some c2 ∧ w.cell? ⟨b, 3, none⟩ = some c3 ∧
  w.frozen? ⟨b, 0, none⟩ = false ∧ w.frozen? ⟨b, 1, none⟩ = false ∧ w.frozen? ⟨b, 2, none⟩ = false ∧ w.frozen? ⟨b, 3, none⟩ = false :=
 ⟨cell_of_row _ _ 0 _ _ _ h, cell_of_row _ _ 1 _ _ _ h, cell_of_row _ _ 2 _ _ _ h, cell_of_row _ _ 3 _ _ _ h, free_of_block h, free_of_block h, free_of_block h, free_of_block h⟩
theorem Turns.heap {S : Nat → Prop} {a b : World} (h : Turns S a b) {k : Nat} {o : Obj} (hk : a.heap[k]? = some o) (hS : ¬ S k) : b.heap[k]? = some o := (h.block k (Array.getElem?_eq_some_iff.1 hk).1 hS).trans hk

set_option maxRecDepth 100000 in
theorem sym_any (hI : RdIn w0 wv L a) (h : RdAt w0 w a wv n hp pro dv rv) (hn : n < L.length) :
  Calls Tryd.prog 122 #[.pointer (some ⟨a, 0, none⟩)] w (RdGo w0 a wv (n + 1) hp pro dv rv w (smOf (wAt L n) 0).agg) := by
 have ha := h.lt
 have h1 := h.ahead ((Below.refl w.heap.size w).alloc (Nat.le_refl _) (.cells #[.string ⟨#[]⟩, .bool false, .int .i64 0, .int .i64 0] 40))
 have hW := Lib.hid (rdTake_any hI h1 hn)
 unfold Wd.agg8 at hW
 unfold smOf Sm.agg
 generalize wAt L n = x at hW ⊢
 obtain ⟨xk, xt, xp⟩ := x
 simp only at hW ⊢
 have hb : (xk == 2) = decide (xk = 2) := by rw [Bool.eq_iff_iff]; simp
 generalize decide (xk = 2) = B at hb ⊢
 clear hI hn
 go_enter Tryd.func122, Tryd.ntmps122
 go_upto_region 2 with (first | (go_at_call 92; (with_reducible refine hW.out.mono ?_); rintro e w1 ⟨rfl, h2, ht2⟩))
 have hr := ht2.heap (heap_made w #[.string ⟨#[]⟩, .bool false, .int .i64 0, .int .i64 0] 40 _ rfl) (show ¬ only a w.heap.size from Nat.ne_of_gt ha)
 have hs1 : w.heap.size < w1.heap.size := by have := ht2.size; simp at this; omega
 have h3 := h2.ahead ((Below.refl w1.heap.size w1).alloc (Nat.le_refl _) (.cells #[.int .i64 xk, .string xt, .int .i64 xp] 76))
 have r1 := heap_keep w1 (.cells #[.int .i64 xk, .string xt, .int .i64 xp] 76) hr
 have r2 := heap_made w1 #[.int .i64 xk, .string xt, .int .i64 xp] 76 _ rfl
 have ht3 := (((Turns.refl (only a) w).alloc (.cells #[.string ⟨#[]⟩, .bool false, .int .i64 0, .int .i64 0] 40)).trans ht2 (fun _ _ h => h)).alloc (.cells #[.int .i64 xk, .string xt, .int .i64 xp] 76)
 generalize w1.alloc (.cells #[.int .i64 xk, .string xt, .int .i64 xp] 76) = w2 at h3 r1 r2 ht3 ⊢
 obtain ⟨p0, p1, p2, p3, q0, q1, q2, q3⟩ := box4 r1
 obtain ⟨u0, u1, u2, v0, v1, v2⟩ := box3 r2
 go_wp2_with fail
 have hne : w.heap.size ≠ a := Nat.ne_of_gt ha
 have hR := set4_row8 r1 (.string xt) (.bool B) (.int .i64 0) (.int .i64 xp)
 exact bodyPost_ret (v := .agg #[.string xt, .bool B, .int .i64 0, .int .i64 xp]) (results_cell_row rfl _ _ w.heap.size 40 #[.string xt, .bool B, .int .i64 0, .int .i64 xp] (0, 0) _ rfl hR Tryd.underlying40 rfl symInfo8) rfl ⟨rfl, h3.aside4 hne h.below.size _ _ _ _, ht3.set4 (.inr (Nat.le_refl _)) _ _ _ _⟩


theorem wfld0 (k : Int) (t : ByteArray) (p : Int) : ∀ w : World, (Instr.field 76 (.agg #[.int .i64 k, .string t, .int .i64 p]) 0).run Tryd.prog w = .ok (.int .i64 k) w := fun _ => by kernel_rfl
theorem wfld1 (k : Int) (t : ByteArray) (p : Int) : ∀ w : World, (Instr.field 76 (.agg #[.int .i64 k, .string t, .int .i64 p]) 1).run Tryd.prog w = .ok (.string t) w := fun _ => by kernel_rfl
theorem wfld2 (k : Int) (t : ByteArray) (p : Int) : ∀ w : World, (Instr.field 76 (.agg #[.int .i64 k, .string t, .int .i64 p]) 2).run Tryd.prog w = .ok (.int .i64 p) w := fun _ => by kernel_rfl
set_option maxRecDepth 100000 in
theorem isSymbol_any (hI : RdIn w0 wv L a) (h : RdAt w0 w a wv n hp pro dv rv) (hn : n < L.length) :
  Calls Tryd.prog 119 #[.pointer (some ⟨a, 0, none⟩)] w fun e w' => e = .returned (.bool (symB2 (wAt L n))) ∧ Below w.heap.size w w' := by
 have hW := Lib.hid (word_any hI h hn)
 unfold Wd.agg8 at hW
 unfold symB2
 generalize wAt L n = x at hW ⊢
 obtain ⟨xk, xt, xp⟩ := x
 simp only at hW ⊢
 clear hI h hn
 have hfd := wfld0 xk xt xp
 by_cases h1 : xk = 1
 · have hb : (xk == 1) = true := by simp [h1]
   have hd : decide (xk = 1 ∨ xk = 2) = true := by simp [h1]
   rw [hd]
   clear h1
   go_enter Tryd.func119, Tryd.ntmps119
   go_wp2_with (first | (go_at_call 28; (with_reducible refine hW.out.mono ?_); rintro e w1 ⟨rfl, hb1⟩))
   go_ret
   exact ⟨by rfl, hb1⟩
 · have hb : (xk == 1) = false := by simp [h1]
   have hd : (xk == 2) = decide (xk = 1 ∨ xk = 2) := by rw [Bool.eq_iff_iff]; simp [h1]
   generalize decide (xk = 1 ∨ xk = 2) = B at hd ⊢
   clear h1
   go_enter Tryd.func119, Tryd.ntmps119
   go_wp2_with (first | (go_at_call 28; (with_reducible refine hW.out.mono ?_); rintro e w1 ⟨rfl, hb1⟩))
   go_ret
   exact ⟨by rfl, hb1⟩

set_option maxRecDepth 100000 in
theorem declares_any (hI : RdIn w0 wv L a) (h : RdAt w0 w a wv n hp pro dv rv) (hn : n < L.length) (k : Int) :
  Calls Tryd.prog 116 #[.pointer (some ⟨a, 0, none⟩), .int .i64 k] w fun e w' => e = .returned (.bool (declaresB k (wAt L n))) ∧ Below w.heap.size w w' := by
 have hW := Lib.hid (word_any hI h hn)
 unfold Wd.agg8 at hW
 unfold declaresB
 generalize wAt L n = x at hW ⊢
 obtain ⟨xk, xt, xp⟩ := x
 simp only at hW ⊢
 clear hI h hn
 have hfd := wfld0 xk xt xp
 have hB : Hid (decide (xk = 1 ∨ xk = 2 ∧ k ≠ 5 ∧ k ≠ 6) = if xk = 1 then true else if xk = 2 then (!decide (k = 5) && !decide (k = 6)) else false) := Lib.hid (by
  by_cases h1 : xk = 1
  · simp [h1]
  · by_cases h2 : xk = 2
    · simp [h2]
    · simp [h1, h2])
 generalize decide (xk = 1 ∨ xk = 2 ∧ k ≠ 5 ∧ k ≠ 6) = B at hB ⊢
 go_enter Tryd.func116, Tryd.ntmps116
 go_wp2_with (first | (go_at_call 28; (with_reducible refine hW.out.mono ?_); rintro e w1 ⟨rfl, hb1⟩))
 all_goals
  go_ret
  refine ⟨ret_bool ?_, hb1⟩
  rw [hB.out]
  grind

set_option maxRecDepth 100000 in
theorem beginsRule_any (hI : RdIn w0 wv L a) (h : RdAt w0 w a wv n hp pro dv rv) (hn : n < L.length) :
  Calls Tryd.prog 120 #[.pointer (some ⟨a, 0, none⟩)] w fun e w' => e = .returned (.bool (beginsB (L.drop n))) ∧ Below w.heap.size w w' := by
 have hW := Lib.hid (word_any hI h hn)
 have hB : beginsB (L.drop n) = decide ((wAt L n).kind = 1 ∧ (wAt L (n + 1)).kind = 6 ∧ (wAt L (n + 1)).text.toList = [58]) := by unfold beginsB; rw [drop_tail]; rfl
 by_cases h1 : (wAt L n).kind = 1
 · have hn1 := hI.ok.next hn (by omega)
   have hb1 : ((wAt L n).kind == 1) = true := by rw [h1]; rfl
   have hB2 : beginsB (L.drop n) = (decide ((wAt L (n + 1)).kind = 6) && ((wAt L (n + 1)).text.toList == [58])) := by rw [hB, Bool.eq_iff_iff]; simp [h1]
   rw [hB2]
   clear hB hB2 h1
   unfold Wd.agg8 at hW
   have hnb : n < 100000 := Nat.lt_of_lt_of_le hn hI.ok.len
   generalize wAt L n = x at hW hb1
   obtain ⟨xk, xt, xp⟩ := x
   simp only at hW hb1
   have hfd := wfld0 xk xt xp
   have HY := Lib.hid (fun (V : World) (hV : Below w.heap.size w V) => (hI.ws.below (h.ahead hV).below).at hn1)
   generalize wAt L (n + 1) = y at HY ⊢
   obtain ⟨yk, yt, yp⟩ := y
   simp only at HY ⊢
   go_enter Tryd.func120, Tryd.ntmps120
   go_upto_region 3 with (first | (go_at_call 28; (with_reducible refine hW.out.mono ?_); rintro e w1 ⟨rfl, hw1⟩))
   have h2 := h.ahead hw1
   obtain ⟨c0, c1, _⟩ := h2.cells
   obtain ⟨b, o, m, c, rfl, hm, hnm, hmc, hc, x0, x1, x2⟩ := HY.out _ hw1
   clear hI h h2 hn hn1 hW hfd hb1 HY
   have i1 : (n : Int) + 1 < (m : Int) := by omega
   have hw : IntKind.i64.wrap ((n : Int) + 1) = (n : Int) + 1 := IntWalk.i64_in _ (by omega)
   have i0 : 0 ≤ (n : Int) + 1 := by omega
   have i2 : ((n : Int) + 1).toNat = n + 1 := by omega
   have d0 := rdCell_alloc c0 (.cells #[.int .i64 0, .string ⟨#[]⟩, .int .i64 0] 76)
   have d1 := rdCell_alloc c1 (.cells #[.int .i64 0, .string ⟨#[]⟩, .int .i64 0] 76)
   have y0 := rdCell_alloc x0 (.cells #[.int .i64 0, .string ⟨#[]⟩, .int .i64 0] 76)
   have y1 := rdCell_alloc x1 (.cells #[.int .i64 0, .string ⟨#[]⟩, .int .i64 0] 76)
   have y2 := rdCell_alloc x2 (.cells #[.int .i64 0, .string ⟨#[]⟩, .int .i64 0] 76)
   go_region
   clear hw i0 i2
   go_wp2_with fail
   all_goals
    go_ret
    refine ⟨ret_bool ?_, (hw1.alloc hw1.size _).drew⟩
    simp [*]
 · have hb1 : ((wAt L n).kind == 1) = false := by simp [h1]
   have hB2 : beginsB (L.drop n) = false := by rw [hB]; simp [h1]
   rw [hB2]
   clear hB hB2 h1
   unfold Wd.agg8 at hW
   generalize wAt L n = x at hW hb1
   obtain ⟨xk, xt, xp⟩ := x
   simp only at hW hb1
   have hfd := wfld0 xk xt xp
   go_enter Tryd.func120, Tryd.ntmps120
   go_wp2_with (first | (go_at_call 28; (with_reducible refine hW.out.mono ?_); rintro e w1 ⟨rfl, hw1⟩))
   go_ret
   exact ⟨by rfl, hw1⟩

theorem partInfo8 : (Tryd.prog.info? 44).map (·.size) = some 6 := by kernel_rfl
theorem set6_row8 {w : World} {q : Nat} {a0 a1 a2 a3 a4 a5 : Value} {t : TypeId} (h : w.heap[q]? = some (.cells #[a0, a1, a2, a3, a4, a5] t (0, 0))) (v0 v1 v2 v3 v4 v5 : Value) :
  ((((((w.setCell ⟨q, 0, none⟩ v0).setCell ⟨q, 1, none⟩ v1).setCell ⟨q, 2, none⟩ v2).setCell ⟨q, 3, none⟩ v3).setCell ⟨q, 4, none⟩ v4).setCell ⟨q, 5, none⟩ v5).heap[q]? = some (.cells #[v0, v1, v2, v3, v4, v5] t (0, 0)) :=
 block_setCell (j := 5) (block_setCell (j := 4) (block_setCell (j := 3) (block_setCell (j := 2) (block_setCell (j := 1) (block_setCell (j := 0) h)))))
theorem RdAt.aside6 (h : RdAt w0 w a wv n hp pro dv rv) {b : Nat} (hb : b ≠ a) (hb0 : w0.heap.size ≤ b) (v0 v1 v2 v3 v4 v5 : Value) : RdAt w0 ((((((w.setCell ⟨b, 0, none⟩ v0).setCell ⟨b, 1, none⟩ v1).setCell ⟨b, 2, none⟩ v2).setCell ⟨b, 3, none⟩ v3).setCell ⟨b, 4, none⟩ v4).setCell ⟨b, 5, none⟩ v5) a wv n hp pro dv rv :=
 (((((h.aside hb hb0 v0).aside hb hb0 v1).aside hb hb0 v2).aside hb hb0 v3).aside hb hb0 v4).aside hb hb0 v5
theorem Turns.set6 {S : Nat → Prop} {a b : World} (h : Turns S a b) {q : Nat} (hq : S q ∨ a.heap.size ≤ q) (v0 v1 v2 v3 v4 v5 : Value) : Turns S a ((((((b.setCell ⟨q, 0, none⟩ v0).setCell ⟨q, 1, none⟩ v1).setCell ⟨q, 2, none⟩ v2).setCell ⟨q, 3, none⟩ v3).setCell ⟨q, 4, none⟩ v4).setCell ⟨q, 5, none⟩ v5) :=
 (((((h.setCell (p := ⟨q, 0, none⟩) hq v0).setCell (p := ⟨q, 1, none⟩) hq v1).setCell (p := ⟨q, 2, none⟩) hq v2).setCell (p := ⟨q, 3, none⟩) hq v3).setCell (p := ⟨q, 4, none⟩) hq v4).setCell (p := ⟨q, 5, none⟩) hq v5
theorem box6 {w : World} {b : Nat} {c0 c1 c2 c3 c4 c5 : Value} {T : TypeId} (h : w.heap[b]? = some (.cells #[c0, c1, c2, c3, c4, c5] T (0, 0))) : w.cell? ⟨b, 0, none⟩ = some c0 ∧ w.cell? ⟨b, 1, none⟩ = some c1 ∧ w.cell? ⟨b, 2, none⟩ = some c2 ∧ w.cell? ⟨b, 3, none⟩ = some c3 ∧ w.cell? ⟨b, 4, none⟩ = some c4 ∧ w.cell? ⟨b, 5, none⟩ = some c5 ∧
  w.frozen? ⟨b, 0, none⟩ = false ∧ w.frozen? ⟨b, 1, none⟩ = false ∧ w.frozen? ⟨b, 2, none⟩ = false ∧ w.frozen? ⟨b, 3, none⟩ = false ∧ w.frozen? ⟨b, 4, none⟩ = false ∧ w.frozen? ⟨b, 5, none⟩ = false :=
 ⟨cell_of_row _ _ 0 _ _ _ h, cell_of_row _ _ 1 _ _ _ h, cell_of_row _ _ 2 _ _ _ h, cell_of_row _ _ 3 _ _ _ h, cell_of_row _ _ 4 _ _ _ h, cell_of_row _ _ 5 _ _ _ h, free_of_block h, free_of_block h, free_of_block h, free_of_block h, free_of_block h, free_of_block h⟩

set_option maxRecDepth 100000 in
theorem part_any (hI : RdIn w0 wv L a) (h : RdAt w0 w a wv n hp pro dv rv) (hn : n < L.length) :
  Calls Tryd.prog 121 #[.pointer (some ⟨a, 0, none⟩)] w (RdGo w0 a wv (n + 1) hp pro dv rv w (ptOf (wAt L n)).agg) := by
 have hnb : n < 100000 := Nat.lt_of_lt_of_le hn hI.ok.len
 have ha := h.lt
 have hlt := h.below.size
 have h1 := h.ahead ((Below.refl w.heap.size w).alloc (Nat.le_refl _) (.cells #[.string ⟨#[]⟩, .bool false, .int .i64 0, .int .i64 0, .string ⟨#[]⟩, .int .i64 0] 44))
 have hW := Lib.hid (word_any hI h1 hn)
 have hS := Lib.hid (fun (V : World) (hV : RdAt w0 V a wv n hp pro dv rv) => sym_any hI hV hn)
 have HI := Lib.hid hI
 unfold Wd.agg8 at hW
 unfold smOf Sm.agg at hS
 unfold ptOf Pt.agg smOf
 generalize wAt L n = x at hW hS ⊢
 obtain ⟨xk, xt, xp⟩ := x
 simp only at hW hS ⊢
 clear hI hn
 have hne : w.heap.size ≠ a := Nat.ne_of_gt ha
 by_cases h8 : xk = 8
 · have hb : (xk == 8) = true := by simp [h8]
   rw [if_pos h8]
   unfold noSm
   simp only
   clear h8 hS
   go_enter Tryd.func121, Tryd.ntmps121
   go_upto_region 2 with (first | (go_at_call 28; (with_reducible refine hW.out.mono ?_); rintro e w1 ⟨rfl, hw1⟩))
   have h2 := h1.ahead hw1
   have hr := (hw1.block w.heap.size (by simp)).trans (heap_made w _ _ _ rfl)
   have hs1 : w.heap.size < w1.heap.size := by have := hw1.size; simp at this; omega
   have h3 := h2.ahead ((Below.refl w1.heap.size w1).alloc (Nat.le_refl _) (.cells #[.int .i64 xk, .string xt, .int .i64 xp] 76))
   have r1 := heap_keep w1 (.cells #[.int .i64 xk, .string xt, .int .i64 xp] 76) hr
   have r2 := heap_made w1 #[.int .i64 xk, .string xt, .int .i64 xp] 76 _ rfl
   have hb2 := (((Below.refl w.heap.size w).alloc (Nat.le_refl _) (.cells #[.string ⟨#[]⟩, .bool false, .int .i64 0, .int .i64 0, .string ⟨#[]⟩, .int .i64 0] 44)).trans (hw1.mono (by simp))).alloc (by omega) (.cells #[.int .i64 xk, .string xt, .int .i64 xp] 76)
   have na : w1.heap.size ≠ a := by omega
   generalize w1.alloc (.cells #[.int .i64 xk, .string xt, .int .i64 xp] 76) = w2 at h3 r1 r2 hb2 ⊢
   obtain ⟨p0, p1, p2, p3, p4, p5, q0, q1, q2, q3, q4, q5⟩ := box6 r1
   obtain ⟨u0, u1, u2, v0, v1, v2⟩ := box3 r2
   obtain ⟨_, c1, _⟩ := h3.cells
   have f1 := h3.free 1
   go_wp2_with fail
   obtain ⟨hm, ht⟩ := h3.move HI.out (n + 1)
   have hR := set6_row8 ((Below.heap_setCell w2 ⟨a, 1, none⟩ (.int .i64 ((n + 1 : Nat) : Int)) _ hne).trans r1) (.string ⟨#[]⟩) (.bool false) (.int .i64 0) (.int .i64 0) (.string xt) (.int .i64 xp)
   exact bodyPost_ret (v := .agg #[.string ⟨#[]⟩, .bool false, .int .i64 0, .int .i64 0, .string xt, .int .i64 xp]) (results_cell_row rfl _ _ w.heap.size 44 #[.string ⟨#[]⟩, .bool false, .int .i64 0, .int .i64 0, .string xt, .int .i64 xp] (0, 0) _ rfl hR Tryd.underlying44 rfl partInfo8) rfl ⟨rfl, hm.aside6 hne hlt _ _ _ _ _ _, ((Turns.of_below hb2).trans ht (fun _ _ h => h)).set6 (.inr (Nat.le_refl _)) _ _ _ _ _ _⟩
 · have hb : (xk == 8) = false := by simp [h8]
   rw [if_neg h8]
   simp only
   generalize decide (xk = 2) = B at hS ⊢
   clear h8
   go_enter Tryd.func121, Tryd.ntmps121
   go_upto_region 2 with (first | (go_at_call 28; (with_reducible refine hW.out.mono ?_); rintro e w1 ⟨rfl, hw1⟩))
   have h2 := h1.ahead hw1
   have hr := (hw1.block w.heap.size (by simp)).trans (heap_made w _ _ _ rfl)
   have hs1 : w.heap.size < w1.heap.size := by have := hw1.size; simp at this; omega
   have h3 := h2.ahead ((Below.refl w1.heap.size w1).alloc (Nat.le_refl _) (.cells #[.int .i64 xk, .string xt, .int .i64 xp] 76))
   have r1 := heap_keep w1 (.cells #[.int .i64 xk, .string xt, .int .i64 xp] 76) hr
   have r2 := heap_made w1 #[.int .i64 xk, .string xt, .int .i64 xp] 76 _ rfl
   have hb2 := (((Below.refl w.heap.size w).alloc (Nat.le_refl _) (.cells #[.string ⟨#[]⟩, .bool false, .int .i64 0, .int .i64 0, .string ⟨#[]⟩, .int .i64 0] 44)).trans (hw1.mono (by simp))).alloc (by omega) (.cells #[.int .i64 xk, .string xt, .int .i64 xp] 76)
   have na : w1.heap.size ≠ a := by omega
   have hs2 : w1.heap.size < (w1.alloc (.cells #[.int .i64 xk, .string xt, .int .i64 xp] 76)).heap.size := by simp
   generalize w1.alloc (.cells #[.int .i64 xk, .string xt, .int .i64 xp] 76) = w2 at h3 r1 r2 hb2 hs2 ⊢
   obtain ⟨u0, u1, u2, v0, v1, v2⟩ := box3 r2
   have hS2 := Lib.hid (hS.out w2.drew (h3.ahead (Below.refl _ _).drew))
   go_upto_region 5 with fail
   go_region_with (first | (go_at_call 122; (with_reducible refine hS2.out.mono ?_); rintro e w4 ⟨rfl, h4, ht4⟩; have r4 := ht4.heap r1 (show ¬ only a w.heap.size from hne); have s4 := ht4.heap r2 (show ¬ only a w1.heap.size from na); obtain ⟨p0, p1, p2, p3, p4, p5, q0, q1, q2, q3, q4, q5⟩ := box6 r4; obtain ⟨y0, y1, y2, z0, z1, z2⟩ := box3 s4))
   all_goals
    go_wp2_with fail
    have hR := set6_row8 r4 (.string xt) (.bool B) (.int .i64 0) (.int .i64 xp) (.string ⟨#[]⟩) (.int .i64 xp)
    exact bodyPost_ret (v := .agg #[.string xt, .bool B, .int .i64 0, .int .i64 xp, .string ⟨#[]⟩, .int .i64 xp]) (results_cell_row rfl _ _ w.heap.size 44 #[.string xt, .bool B, .int .i64 0, .int .i64 xp, .string ⟨#[]⟩, .int .i64 xp] (0, 0) _ rfl hR Tryd.underlying44 rfl partInfo8) rfl ⟨rfl, h4.aside6 hne hlt _ _ _ _ _ _, ((Turns.of_below hb2.drew).trans ht4 (fun _ _ h => h)).set6 (.inr (Nat.le_refl _)) _ _ _ _ _ _⟩
end
end Go.Proofs.YtnoppoifepbchaaDoor
