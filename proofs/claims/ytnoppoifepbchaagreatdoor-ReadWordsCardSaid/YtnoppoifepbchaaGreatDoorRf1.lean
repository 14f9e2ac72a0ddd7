/- The document's reader: its memory; what its small methods tell. -/
import Derived.Test.YtnoppoifepbchaaGreatDoorRd2
import Derived.Test.YtnoppoifepbchaaGreatDoorRd6
namespace Go.Proofs.YtnoppoifepbchaaGreatDoor
open Go.RowKit
set_option linter.unusedVariables false
set_option linter.unusedSimpArgs false

def rfO (wv : Value) (n : Nat) (bad : Int) : Obj := .cells #[wv, .int .i64 n, .int .i64 bad] 111 (0, 0)
structure RfAt (w0 w : World) (a : Nat) (wv : Value) (n : Nat) (bad : Int) : Prop where
 below : Below w0.heap.size w0 w
 row : w.heap[a]? = some (rfO wv n bad)
def RfGo (w0 : World) (a : Nat) (wv : Value) (n : Nat) (bad : Int) (w : World) (v : Value) (e : Ending) (w' : World) : Prop := e = .returned v ∧ RfAt w0 w' a wv n bad ∧ Turns (only a) w w'

section
variable {w0 w : World} {a : Nat} {wv : Value} {n : Nat} {bad : Int} {L : Wds}
theorem RfAt.lt (h : RfAt w0 w a wv n bad) : a < w.heap.size := (Array.getElem?_eq_some_iff.1 h.row).1
theorem RfAt.ahead (h : RfAt w0 w a wv n bad) {w' : World} (hb : Below w.heap.size w w') : RfAt w0 w' a wv n bad :=
 ⟨h.below.trans (hb.mono h.below.size), (hb.block a h.lt).trans h.row⟩
theorem RfAt.cells (h : RfAt w0 w a wv n bad) : w.cell? ⟨a, 0, none⟩ = some wv ∧ w.cell? ⟨a, 1, none⟩ = some (.int .i64 n) ∧ w.cell? ⟨a, 2, none⟩ = some (.int .i64 bad) :=
 ⟨cell_of_row _ _ 0 _ _ _ h.row, cell_of_row _ _ 1 _ _ _ h.row, cell_of_row _ _ 2 _ _ _ h.row⟩
theorem RfAt.free (h : RfAt w0 w a wv n bad) (j : Nat) : w.frozen? ⟨a, j, none⟩ = false := free_of_block h.row
theorem RfAt.move (h : RfAt w0 w a wv n bad) (hI : RdIn w0 wv L a) (m : Nat) : RfAt w0 (w.setCell ⟨a, 1, none⟩ (.int .i64 m)) a wv m bad ∧ Turns (only a) w (w.setCell ⟨a, 1, none⟩ (.int .i64 m)) :=
 ⟨⟨h.below.setCell (p := ⟨a, 1, none⟩) hI.lt _, block_setCell h.row⟩, (Turns.refl (only a) w).setCell (p := ⟨a, 1, none⟩) (.inl rfl) _⟩
theorem RfAt.mark (h : RfAt w0 w a wv n bad) (hI : RdIn w0 wv L a) (b : Int) : RfAt w0 (w.setCell ⟨a, 2, none⟩ (.int .i64 b)) a wv n b ∧ Turns (only a) w (w.setCell ⟨a, 2, none⟩ (.int .i64 b)) :=
 ⟨⟨h.below.setCell (p := ⟨a, 2, none⟩) hI.lt _, block_setCell h.row⟩, (Turns.refl (only a) w).setCell (p := ⟨a, 2, none⟩) (.inl rfl) _⟩
theorem RfAt.aside (h : RfAt w0 w a wv n bad) {b j : Nat} (hb : b ≠ a) (hb0 : w0.heap.size ≤ b) (u : Value) : RfAt w0 (w.setCell ⟨b, j, none⟩ u) a wv n bad :=
 ⟨h.below.setCell (p := ⟨b, j, none⟩) hb0 u, (Below.heap_setCell _ _ _ _ (Ne.symm hb)).trans h.row⟩
theorem RfAt.aside4 (h : RfAt w0 w a wv n bad) {b : Nat} (hb : b ≠ a) (hb0 : w0.heap.size ≤ b) (v0 v1 v2 v3 : Value) : RfAt w0 ((((w.setCell ⟨b, 0, none⟩ v0).setCell ⟨b, 1, none⟩ v1).setCell ⟨b, 2, none⟩ v2).setCell ⟨b, 3, none⟩ v3) a wv n bad :=
 (((h.aside hb hb0 v0).aside hb hb0 v1).aside hb hb0 v2).aside hb hb0 v3
theorem RfAt.aside6 (h : RfAt w0 w a wv n bad) {b : Nat} (hb : b ≠ a) (hb0 : w0.heap.size ≤ b) (v0 v1 v2 v3 v4 v5 : Value) : RfAt w0 ((((((w.setCell ⟨b, 0, none⟩ v0).setCell ⟨b, 1, none⟩ v1).setCell ⟨b, 2, none⟩ v2).setCell ⟨b, 3, none⟩ v3).setCell ⟨b, 4, none⟩ v4).setCell ⟨b, 5, none⟩ v5) a wv n bad :=
 (((((h.aside hb hb0 v0).aside hb hb0 v1).aside hb hb0 v2).aside hb hb0 v3).aside hb hb0 v4).aside hb hb0 v5
theorem RfAt.far {w1 w2 : World} (h : RfAt w0 w1 a wv n bad) {B : Nat} (hb : Below B w1 w2) (ha : a < B) (h0 : w0.heap.size ≤ B) : RfAt w0 w2 a wv n bad :=
 ⟨h.below.trans (hb.mono h0), (hb.block a ha).trans h.row⟩

set_option maxRecDepth 100000 in
theorem now_any (hI : RdIn w0 wv L a) (h : RfAt w0 w a wv n bad) (hn : n < L.length) :
  Calls Tryz.prog 56 #[.pointer (some ⟨a, 0, none⟩)] w fun e w' => e = .returned (wAt L n).agg8 ∧ Below w.heap.size w w' := by
 obtain ⟨c0, c1, _⟩ := h.cells
 obtain ⟨b, o, m, c, rfl, hm, hnm, hmc, hc, x0, x1, x2⟩ := (hI.ws.below h.below).at hn
 unfold Wd.agg8
 generalize wAt L n = x at x0 x1 x2 ⊢
 obtain ⟨xk, xt, xp⟩ := x
 simp only at x0 x1 x2 ⊢
 clear hI h
 have i1 : (n : Int) < (m : Int) := by omega
 replace c0 := rdCell_alloc c0 (.cells #[.int .i64 0, .string ⟨#[]⟩, .int .i64 0] 42)
 replace c1 := rdCell_alloc c1 (.cells #[.int .i64 0, .string ⟨#[]⟩, .int .i64 0] 42)
 replace x0 := rdCell_alloc x0 (.cells #[.int .i64 0, .string ⟨#[]⟩, .int .i64 0] 42)
 replace x1 := rdCell_alloc x1 (.cells #[.int .i64 0, .string ⟨#[]⟩, .int .i64 0] 42)
 replace x2 := rdCell_alloc x2 (.cells #[.int .i64 0, .string ⟨#[]⟩, .int .i64 0] 42)
 go_enter Tryz.func56, Tryz.ntmps56
 go_wp2_with fail
 go_region
 go_wp2_with fail
 have hh : ((w.alloc (.cells #[.int .i64 xk, .string xt, .int .i64 xp] 42)).drew).heap[w.heap.size]? = some (.cells #[.int .i64 xk, .string xt, .int .i64 xp] 42 (0, 0)) := heap_alloc_new w _
 exact bodyPost_ret (v := .agg #[.int .i64 xk, .string xt, .int .i64 xp]) (results_cell_row rfl _ _ w.heap.size 42 #[.int .i64 xk, .string xt, .int .i64 xp] (0, 0) _ rfl hh Tryz.underlying42 rfl wordInfo8) rfl ⟨rfl, ((Below.refl _ _).alloc (Nat.le_refl _) _).drew⟩

def badOr (bad p : Int) : Int := if bad < 0 then p else bad
set_option maxRecDepth 100000 in
theorem fail_any (hI : RdIn w0 wv L a) (h : RfAt w0 w a wv n bad) (hn : n < L.length) (hbd : bad = -1 ∨ 0 ≤ bad ∧ bad ≤ 100000) :
  Calls Tryz.prog 59 #[.pointer (some ⟨a, 0, none⟩)] w (fun e w' => e = .returned (.tuple #[]) ∧ RfAt w0 w' a wv n (badOr bad (wAt L n).place) ∧ Turns (only a) w w') := by
 obtain ⟨c0, c1, c2⟩ := h.cells
 have f2 := h.free 2
 unfold badOr
 by_cases hb : bad < 0
 · have h1 : bad = -1 := by omega
   subst h1
   rw [if_pos hb]
   obtain ⟨b, o, m, c, rfl, hm, hnm, hmc, hc, x0, x1, x2⟩ := (hI.ws.below h.below).at hn
   have HM := Lib.hid (fun p => h.move hI p)
   have HK := Lib.hid (fun V (hV : RfAt w0 V a _ n (-1)) p => hV.mark hI p)
   have HH := Lib.hid h
   generalize wAt L n = x at x0 x1 x2 ⊢
   obtain ⟨xk, xt, xp⟩ := x
   simp only at x0 x1 x2 ⊢
   clear h hI hn hbd HM
   have i1 : (n : Int) < (m : Int) := by omega
   go_enter Tryz.func59, Tryz.ntmps59
   go_wp2_with fail
   go_region
   go_wp2_with fail
   go_end0
   obtain ⟨h1, h2⟩ := HK.out w HH.out xp
   exact ⟨rfl, h1.ahead (Below.refl _ _).drew, h2.drew⟩
 · rw [if_neg hb]
   have hlt : decide (bad < 0) = false := by simp [hb]
   clear hb
   go_enter Tryz.func59, Tryz.ntmps59
   go_wp2_with fail
   go_end0
   exact ⟨rfl, h, Turns.refl _ _⟩

theorem below_drewN (w : World) (n : Nat) : Below w.heap.size w (w.drewN n) := ⟨rfl, rfl, rfl, Nat.le_refl _, fun _ _ => rfl⟩
def QuietB (b : Bool) (w : World) (e : Ending) (w' : World) : Prop := ∃ n, e = .returned (.bool b) ∧ w' = w.drewN n
def isB (bad k : Int) (t : ByteArray) (x : Wd) : Bool := decide (bad < 0) && (decide (x.kind = k) && (t.toList == [] || x.text.toList == t.toList))
set_option maxRecDepth 100000 in
set_option maxHeartbeats 4000000 in
theorem is_quiet (hI : RdIn w0 wv L a) (h : RfAt w0 w a wv n bad) (hn : n < L.length) (k : Int) (t : ByteArray) :
  Calls Tryz.prog 55 #[.pointer (some ⟨a, 0, none⟩), .int .i64 k, .string t] w (QuietB (isB bad k t (wAt L n)) w) := by
 obtain ⟨c0, c1, c2⟩ := h.cells
 obtain ⟨b, o, m, c, rfl, hm, hnm, hmc, hc, x0, x1, x2⟩ := (hI.ws.below h.below).at hn
 unfold isB
 generalize wAt L n = x at x0 x1 x2 ⊢
 obtain ⟨xk, xt, xp⟩ := x
 simp only at x0 x1 x2 ⊢
 have i1 : (n : Int) < (m : Int) := by omega
 clear h hI hn
 cases hb : decide (bad < 0) with
 | false =>
   go_enter Tryz.func55, Tryz.ntmps55
   go_wp2_with fail
   go_quiet (fail)
   go_wp2_with fail
   go_ret
   exact ⟨_, by rfl, rfl⟩
 | true =>
   have hd : (xk == k) = decide (xk = k) := by rw [Bool.eq_iff_iff]; simp
   cases hk : decide (xk = k) with
   | false =>
     rw [hk] at hd
     go_enter Tryz.func55, Tryz.ntmps55
     go_wp2_with fail
     go_quiet (fail)
     go_wp2_with fail
     go_ret
     exact ⟨_, by rfl, rfl⟩
   | true =>
     rw [hk] at hd
     cases ht : (t.toList == []) with
     | true =>
       go_enter Tryz.func55, Tryz.ntmps55
       go_wp2_with fail
       go_quiet (fail)
       go_wp2_with fail
       go_ret
       exact ⟨_, by rfl, rfl⟩
     | false =>
       go_enter Tryz.func55, Tryz.ntmps55
       go_wp2_with fail
       go_quiet (fail)
       go_wp2_with fail
       go_ret
       exact ⟨_, by rfl, rfl⟩
theorem is_any (hI : RdIn w0 wv L a) (h : RfAt w0 w a wv n bad) (hn : n < L.length) (k : Int) (t : ByteArray) :
  Calls Tryz.prog 55 #[.pointer (some ⟨a, 0, none⟩), .int .i64 k, .string t] w fun e w' => e = .returned (.bool (isB bad k t (wAt L n))) ∧ Below w.heap.size w w' :=
 (is_quiet hI h hn k t).mono fun e w' ⟨m, h1, h2⟩ => ⟨h1, by rw [h2]; exact below_drewN _ _⟩

set_option maxRecDepth 100000 in
theorem rtake_any (hI : RdIn w0 wv L a) (h : RfAt w0 w a wv n bad) (hn : n < L.length) (k : Int) (t : ByteArray) :
  Calls Tryz.prog 57 #[.pointer (some ⟨a, 0, none⟩), .int .i64 k, .string t] w (RfGo w0 a wv (if isB bad k t (wAt L n) = true then n + 1 else n) bad w (.bool (isB bad k t (wAt L n)))) := by
 have hnb : n < 100000 := Nat.lt_of_lt_of_le hn hI.ok.len
 have hW := Lib.hid (is_any hI h hn k t)
 have HI := Lib.hid hI
 cases hs : isB bad k t (wAt L n) with
 | false =>
   rw [hs] at hW
   rw [if_neg (by decide)]
   clear hI hn hs
   go_enter Tryz.func57, Tryz.ntmps57
   go_wp2_with (first | (go_at_call 55; (with_reducible refine hW.out.mono ?_); rintro e w1 ⟨rfl, hb1⟩))
   go_ret
   exact ⟨by rfl, h.ahead hb1, Turns.of_below hb1⟩
 | true =>
   rw [hs] at hW
   rw [if_pos rfl]
   clear hI hn hs
   go_enter Tryz.func57, Tryz.ntmps57
   go_upto_region 3 with (first | (go_at_call 55; (with_reducible refine hW.out.mono ?_); rintro e w1 ⟨rfl, hb1⟩))
   have h2 := h.ahead hb1
   obtain ⟨_, c1, _⟩ := h2.cells
   have f1 := h2.free 1
   go_wp2_with fail
   obtain ⟨hm, ht⟩ := h2.move HI.out (n + 1)
   go_ret
   exact ⟨by rfl, hm, (Turns.of_below hb1).trans ht (fun _ _ h => h)⟩

/-- a name, or a byte in quotes, stands there -/
def symB3 (bad : Int) (x : Wd) : Bool := decide (bad < 0) && symB2 x
theorem isB_sym (bad : Int) (x : Wd) : symB3 bad x = (isB bad 1 ⟨#[]⟩ x || isB bad 2 ⟨#[]⟩ x) := by
 unfold symB3 symB2 isB
 rw [Bool.eq_iff_iff]
 have h : (⟨#[]⟩ : ByteArray).toList = [] := by decide +kernel
 rw [h]
 simp only [Bool.and_eq_true, Bool.or_eq_true, decide_eq_true_eq, beq_self_eq_true, true_or, and_true]
 constructor
 · rintro ⟨a, b | b⟩ <;> simp [a, b]
 · rintro (⟨a, b⟩ | ⟨a, b⟩) <;> simp [a, b]

def SymGo (w0 : World) (a : Nat) (wv : Value) (n : Nat) (bad : Int) (x : Wd) (w : World) (e : Ending) (w' : World) : Prop :=
 (symB3 bad x = true ∧ e = .returned (.tuple #[(smOf x 0).agg, .bool true]) ∧ RfAt w0 w' a wv (n + 1) bad ∧ Turns (only a) w w') ∨
 (symB3 bad x = false ∧ e = .returned (.tuple #[.agg #[.string ⟨#[]⟩, .bool false, .int .i64 0, .int .i64 0], .bool false]) ∧ RfAt w0 w' a wv n bad ∧ Turns (only a) w w')
set_option maxRecDepth 100000 in
set_option maxHeartbeats 4000000 in
theorem symbol_any (hI : RdIn w0 wv L a) (h : RfAt w0 w a wv n bad) (hn : n < L.length) :
  Calls Tryz.prog 90 #[.pointer (some ⟨a, 0, none⟩)] w (SymGo w0 a wv n bad (wAt L n) w) := by
 have ha := h.lt
 have hlt := h.below.size
 have hne : w.heap.size ≠ a := Nat.ne_of_gt ha
 have h1 := h.ahead ((Below.refl w.heap.size w).alloc (Nat.le_refl _) (.cells #[.string ⟨#[]⟩, .bool false, .int .i64 0, .int .i64 0] 60))
 have hW := Lib.hid (now_any hI h1 hn)
 have hT := Lib.hid (fun (V : World) (hV : RfAt w0 V a wv n bad) => rtake_any hI hV hn 1 ⟨#[]⟩)
 have hT2 := Lib.hid (fun (V : World) (hV : RfAt w0 V a wv n bad) => rtake_any hI hV hn 2 ⟨#[]⟩)
 have hB := isB_sym bad (wAt L n)
 unfold SymGo smOf Sm.agg
 unfold Wd.agg8 at hW
 generalize symB3 bad (wAt L n) = sb at hB ⊢
 generalize isB bad 1 ⟨#[]⟩ (wAt L n) = b1 at hB hT
 generalize isB bad 2 ⟨#[]⟩ (wAt L n) = b2 at hB hT2
 generalize wAt L n = x at hW ⊢
 obtain ⟨xk, xt, xp⟩ := x
 simp only at hW ⊢
 have hb : (xk == 2) = decide (xk = 2) := by rw [Bool.eq_iff_iff]; simp
 generalize decide (xk = 2) = B at hb ⊢
 clear hI hn
 cases b1 with
 | true =>
   obtain rfl : sb = true := by simpa using hB
   clear hB
   go_enter Tryz.func90, Tryz.ntmps90
   go_upto_region 2 with (first | (go_at_call 56; (with_reducible refine hW.out.mono ?_); rintro e w1 ⟨rfl, hw1⟩))
   have h2 := h1.ahead hw1
   have hr := (hw1.block w.heap.size (by simp)).trans (heap_made w #[.string ⟨#[]⟩, .bool false, .int .i64 0, .int .i64 0] 60 _ rfl)
   have hs1 : w.heap.size < w1.heap.size := by have := hw1.size; simp at this; omega
   have h3 := h2.ahead ((Below.refl w1.heap.size w1).alloc (Nat.le_refl _) (.cells #[.int .i64 xk, .string xt, .int .i64 xp] 42))
   have r1 := heap_keep w1 (.cells #[.int .i64 xk, .string xt, .int .i64 xp] 42) hr
   have r2 := heap_made w1 #[.int .i64 xk, .string xt, .int .i64 xp] 42 _ rfl
   have hb2 := (((Below.refl w.heap.size w).alloc (Nat.le_refl _) (.cells #[.string ⟨#[]⟩, .bool false, .int .i64 0, .int .i64 0] 60)).trans (hw1.mono (by simp))).alloc (by omega) (.cells #[.int .i64 xk, .string xt, .int .i64 xp] 42)
   have na : w1.heap.size ≠ a := by omega
   generalize w1.alloc (.cells #[.int .i64 xk, .string xt, .int .i64 xp] 42) = w2 at h3 r1 r2 hb2 ⊢
   go_upto_region 4 with (first | (go_at_call 57; (with_reducible refine (hT.out _ h3).mono ?_); rintro e w4 ⟨rfl, h4, ht4⟩))
   have r4 := ht4.heap r1 (show ¬ only a w.heap.size from hne)
   have s4 := ht4.heap r2 (show ¬ only a w1.heap.size from na)
   obtain ⟨p0, p1, p2, p3, q0, q1, q2, q3⟩ := box4 r4
   obtain ⟨u0, u1, u2, v0, v1, v2⟩ := box3 s4
   go_wp2_with fail
   have hR := set4_row8 r4 (.string xt) (.bool B) (.int .i64 0) (.int .i64 xp)
   exact bodyPost_ret (v := .tuple #[.agg #[.string xt, .bool B, .int .i64 0, .int .i64 xp], .bool true]) (results_cell_slot rfl _ _ w.heap.size 60 #[.string xt, .bool B, .int .i64 0, .int .i64 xp] (0, 0) rfl rfl hR Tryz.underlying60 symInfo8) rfl (Or.inl ⟨by simp, rfl, h4.aside4 hne hlt _ _ _ _, ((Turns.of_below hb2).trans ht4 (fun _ _ h => h)).set4 (.inr (Nat.le_refl _)) _ _ _ _⟩)
 | false =>
   cases b2 with
   | true =>
     obtain rfl : sb = true := by simpa using hB
     clear hB
     go_enter Tryz.func90, Tryz.ntmps90
     go_upto_region 2 with (first | (go_at_call 56; (with_reducible refine hW.out.mono ?_); rintro e w1 ⟨rfl, hw1⟩))
     have h2 := h1.ahead hw1
     have hr := (hw1.block w.heap.size (by simp)).trans (heap_made w #[.string ⟨#[]⟩, .bool false, .int .i64 0, .int .i64 0] 60 _ rfl)
     have hs1 : w.heap.size < w1.heap.size := by have := hw1.size; simp at this; omega
     have h3 := h2.ahead ((Below.refl w1.heap.size w1).alloc (Nat.le_refl _) (.cells #[.int .i64 xk, .string xt, .int .i64 xp] 42))
     have r1 := heap_keep w1 (.cells #[.int .i64 xk, .string xt, .int .i64 xp] 42) hr
     have r2 := heap_made w1 #[.int .i64 xk, .string xt, .int .i64 xp] 42 _ rfl
     have hb2 := (((Below.refl w.heap.size w).alloc (Nat.le_refl _) (.cells #[.string ⟨#[]⟩, .bool false, .int .i64 0, .int .i64 0] 60)).trans (hw1.mono (by simp))).alloc (by omega) (.cells #[.int .i64 xk, .string xt, .int .i64 xp] 42)
     have na : w1.heap.size ≠ a := by omega
     generalize w1.alloc (.cells #[.int .i64 xk, .string xt, .int .i64 xp] 42) = w2 at h3 r1 r2 hb2 ⊢
     go_upto_region 4 with (first | (go_at_call 57; (with_reducible refine (hT.out _ h3).mono ?_); rintro e w3 ⟨rfl, h3', ht3⟩) | (go_at_call 57; (with_reducible refine (hT2.out _ h3').mono ?_); rintro e w4 ⟨rfl, h4, ht4'⟩))
     have ht4 := ht3.trans ht4' (fun _ _ h => h)
     have r4 := ht4.heap r1 (show ¬ only a w.heap.size from hne)
     have s4 := ht4.heap r2 (show ¬ only a w1.heap.size from na)
     obtain ⟨p0, p1, p2, p3, q0, q1, q2, q3⟩ := box4 r4
     obtain ⟨u0, u1, u2, v0, v1, v2⟩ := box3 s4
     go_wp2_with fail
     have hR := set4_row8 r4 (.string xt) (.bool B) (.int .i64 0) (.int .i64 xp)
     exact bodyPost_ret (v := .tuple #[.agg #[.string xt, .bool B, .int .i64 0, .int .i64 xp], .bool true]) (results_cell_slot rfl _ _ w.heap.size 60 #[.string xt, .bool B, .int .i64 0, .int .i64 xp] (0, 0) rfl rfl hR Tryz.underlying60 symInfo8) rfl (Or.inl ⟨by simp, rfl, h4.aside4 hne hlt _ _ _ _, ((Turns.of_below hb2).trans ht4 (fun _ _ h => h)).set4 (.inr (Nat.le_refl _)) _ _ _ _⟩)
   | false =>
     obtain rfl : sb = false := by simpa using hB
     clear hB
     go_enter Tryz.func90, Tryz.ntmps90
     go_upto_region 2 with (first | (go_at_call 56; (with_reducible refine hW.out.mono ?_); rintro e w1 ⟨rfl, hw1⟩))
     have h2 := h1.ahead hw1
     have hr := (hw1.block w.heap.size (by simp)).trans (heap_made w #[.string ⟨#[]⟩, .bool false, .int .i64 0, .int .i64 0] 60 _ rfl)
     have hs1 : w.heap.size < w1.heap.size := by have := hw1.size; simp at this; omega
     have h3 := h2.ahead ((Below.refl w1.heap.size w1).alloc (Nat.le_refl _) (.cells #[.int .i64 xk, .string xt, .int .i64 xp] 42))
     have r1 := heap_keep w1 (.cells #[.int .i64 xk, .string xt, .int .i64 xp] 42) hr
     have r2 := heap_made w1 #[.int .i64 xk, .string xt, .int .i64 xp] 42 _ rfl
     have hb2 := (((Below.refl w.heap.size w).alloc (Nat.le_refl _) (.cells #[.string ⟨#[]⟩, .bool false, .int .i64 0, .int .i64 0] 60)).trans (hw1.mono (by simp))).alloc (by omega) (.cells #[.int .i64 xk, .string xt, .int .i64 xp] 42)
     have na : w1.heap.size ≠ a := by omega
     generalize w1.alloc (.cells #[.int .i64 xk, .string xt, .int .i64 xp] 42) = w2 at h3 r1 r2 hb2 ⊢
     obtain ⟨p0, p1, p2, p3, q0, q1, q2, q3⟩ := box4 r1
     go_upto_region 3 with (first | (go_at_call 57; (with_reducible refine (hT.out _ h3).mono ?_); rintro e w3 ⟨rfl, h3', ht3⟩) | (go_at_call 57; (with_reducible refine (hT2.out _ h3').mono ?_); rintro e w4 ⟨rfl, h4, ht4'⟩))
     have ht4 := ht3.trans ht4' (fun _ _ h => h)
     have r4 := ht4.heap r1 (show ¬ only a w.heap.size from hne)
     clear p0 p1 p2 p3 q0 q1 q2 q3
     obtain ⟨p0, p1, p2, p3, q0, q1, q2, q3⟩ := box4 r4
     go_wp2_with fail
     have hR := set4_row8 r4 (.string ⟨#[]⟩) (.bool false) (.int .i64 0) (.int .i64 0)
     exact bodyPost_ret (v := .tuple #[.agg #[.string ⟨#[]⟩, .bool false, .int .i64 0, .int .i64 0], .bool false]) (results_cell_slot rfl _ _ w.heap.size 60 #[.string ⟨#[]⟩, .bool false, .int .i64 0, .int .i64 0] (0, 0) rfl rfl hR Tryz.underlying60 symInfo8) rfl (Or.inr ⟨by simp, rfl, h4.aside4 hne hlt _ _ _ _, ((Turns.of_below hb2).trans ht4 (fun _ _ h => h)).set4 (.inr (Nat.le_refl _)) _ _ _ _⟩)
end
end Go.Proofs.YtnoppoifepbchaaGreatDoor
