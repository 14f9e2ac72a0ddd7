/- The reader: a declared symbol, a declaration's kind. -/
import Derived.Test.YtnoppoifepbchaaDoorRd2
import Derived.Deep.LoopGhost
import Derived.Deep.AppendLies
namespace Go.Proofs.YtnoppoifepbchaaDoor
section
open Go.RowKit
set_option linter.unusedVariables false
set_option linter.unusedSimpArgs false

/-- digits that make a small number are read as it -/
def AtoiOk : Prop := ∀ (t : ByteArray) (W : World), t.size ≤ 5 → 0 < t.size → (∀ c ∈ t.data.toList, 48 ≤ c.toNat ∧ c.toNat ≤ 57) → rdNum t ≤ 50000 →
 Calls Tryd.prog 111 #[.string t] W fun e w' => e = .returned (.tuple #[.int .i64 (rdNum t : Nat), .nilIface]) ∧ Below W.heap.size W w'

def declN (k : Int) (L : Wds) (n : Nat) : Nat := if numbered k (wAt L n) (L.drop (n + 1)) = true then n + 2 else n + 1
def declX (k : Int) (L : Wds) (n : Nat) : Sm := if numbered k (wAt L n) (L.drop (n + 1)) = true then smOf (wAt L n) (rdNum (wAt L (n + 1)).text : Nat) else smOf (wAt L n) 0

section
variable {w0 w : World} {a : Nat} {wv : Value} {n : Nat} {hp : Bool} {pro : ByteArray} {dv rv : Value} {L : Wds}

set_option maxRecDepth 100000 in
theorem declared_far (hI : RdIn w0 wv L a) (h : RdAt w0 w a wv n hp pro dv rv) (hn : n < L.length) (k : Int) (hk : k ≠ 1) :
  Calls Tryd.prog 117 #[.pointer (some ⟨a, 0, none⟩), .int .i64 k] w (RdGo w0 a wv (n + 1) hp pro dv rv w (smOf (wAt L n) 0).agg) := by
 have ha := h.lt
 have hlt := h.below.size
 have hne : w.heap.size ≠ a := Nat.ne_of_gt ha
 have h1 := h.ahead ((Below.refl w.heap.size w).alloc (Nat.le_refl _) (.cells #[.string ⟨#[]⟩, .bool false, .int .i64 0, .int .i64 0] 40))
 have hS := Lib.hid (sym_any hI h1 hn)
 unfold smOf Sm.agg at hS ⊢
 have HI := Lib.hid hI
 generalize wAt L n = x at hS ⊢
 obtain ⟨xk, xt, xp⟩ := x
 simp only at hS ⊢
 generalize decide (xk = 2) = B at hS ⊢
 have hb : (k == 1) = false := by simp [hk]
 clear hI hn hk
 go_enter Tryd.func117, Tryd.ntmps117
 go_upto_region 2 with (first | (go_at_call 122; (with_reducible refine hS.out.mono ?_); rintro e w1 ⟨rfl, h2, ht2⟩))
 have hr := ht2.heap (heap_made w #[.string ⟨#[]⟩, .bool false, .int .i64 0, .int .i64 0] 40 _ rfl) (show ¬ only a w.heap.size from hne)
 have hs1 : w.heap.size < w1.heap.size := by have := ht2.size; simp at this; omega
 have h3 := h2.ahead ((Below.refl w1.heap.size w1).alloc (Nat.le_refl _) (.cells #[.string xt, .bool B, .int .i64 0, .int .i64 xp] 40))
 have r1 := heap_keep w1 (.cells #[.string xt, .bool B, .int .i64 0, .int .i64 xp] 40) hr
 have r2 := heap_made w1 #[.string xt, .bool B, .int .i64 0, .int .i64 xp] 40 _ rfl
 have ht3 := (((Turns.refl (only a) w).alloc (.cells #[.string ⟨#[]⟩, .bool false, .int .i64 0, .int .i64 0] 40)).trans ht2 (fun _ _ h => h)).alloc (.cells #[.string xt, .bool B, .int .i64 0, .int .i64 xp] 40)
 have hs2 : w1.heap.size < (w1.alloc (.cells #[.string xt, .bool B, .int .i64 0, .int .i64 xp] 40)).heap.size := by simp
 have na : w1.heap.size ≠ a := by omega
 have nw : w1.heap.size ≠ w.heap.size := by omega
 generalize w1.alloc (.cells #[.string xt, .bool B, .int .i64 0, .int .i64 xp] 40) = w2 at h3 r1 r2 ht3 hs2 ⊢
 obtain ⟨p0, p1, p2, p3, q0, q1, q2, q3⟩ := box4 r1
 obtain ⟨u0, u1, u2, u3, v0, v1, v2, v3⟩ := box4 r2
 go_wp2_with fail
 have hR := set4_row8 r1 (.string xt) (.bool B) (.int .i64 0) (.int .i64 xp)
 exact bodyPost_ret (v := .agg #[.string xt, .bool B, .int .i64 0, .int .i64 xp]) (results_cell_row rfl _ _ w.heap.size 40 #[.string xt, .bool B, .int .i64 0, .int .i64 xp] (0, 0) _ rfl hR Tryd.underlying40 rfl symInfo8) rfl ⟨rfl, h3.aside4 hne hlt _ _ _ _, ht3.set4 (.inr (Nat.le_refl _)) _ _ _ _⟩

set_option maxRecDepth 100000 in
theorem declared_lit (hI : RdIn w0 wv L a) (h : RdAt w0 w a wv n hp pro dv rv) (hn : n < L.length) (hB : (wAt L n).kind = 2) :
  Calls Tryd.prog 117 #[.pointer (some ⟨a, 0, none⟩), .int .i64 1] w (RdGo w0 a wv (n + 1) hp pro dv rv w (smOf (wAt L n) 0).agg) := by
 have ha := h.lt
 have hlt := h.below.size
 have hne : w.heap.size ≠ a := Nat.ne_of_gt ha
 have h1 := h.ahead ((Below.refl w.heap.size w).alloc (Nat.le_refl _) (.cells #[.string ⟨#[]⟩, .bool false, .int .i64 0, .int .i64 0] 40))
 have hS := Lib.hid (sym_any hI h1 hn)
 unfold smOf Sm.agg at hS ⊢
 have HI := Lib.hid hI
 generalize wAt L n = x at hS hB ⊢
 obtain ⟨xk, xt, xp⟩ := x
 simp only at hS hB ⊢
 have hd : decide (xk = 2) = true := by simp [hB]
 rw [hd] at hS ⊢
 clear hI hn hB hd
 go_enter Tryd.func117, Tryd.ntmps117
 go_upto_region 2 with (first | (go_at_call 122; (with_reducible refine hS.out.mono ?_); rintro e w1 ⟨rfl, h2, ht2⟩))
 have hr := ht2.heap (heap_made w #[.string ⟨#[]⟩, .bool false, .int .i64 0, .int .i64 0] 40 _ rfl) (show ¬ only a w.heap.size from hne)
 have hs1 : w.heap.size < w1.heap.size := by have := ht2.size; simp at this; omega
 have h3 := h2.ahead ((Below.refl w1.heap.size w1).alloc (Nat.le_refl _) (.cells #[.string xt, .bool true, .int .i64 0, .int .i64 xp] 40))
 have r1 := heap_keep w1 (.cells #[.string xt, .bool true, .int .i64 0, .int .i64 xp] 40) hr
 have r2 := heap_made w1 #[.string xt, .bool true, .int .i64 0, .int .i64 xp] 40 _ rfl
 have ht3 := (((Turns.refl (only a) w).alloc (.cells #[.string ⟨#[]⟩, .bool false, .int .i64 0, .int .i64 0] 40)).trans ht2 (fun _ _ h => h)).alloc (.cells #[.string xt, .bool true, .int .i64 0, .int .i64 xp] 40)
 have hs2 : w1.heap.size < (w1.alloc (.cells #[.string xt, .bool true, .int .i64 0, .int .i64 xp] 40)).heap.size := by simp
 have na : w1.heap.size ≠ a := by omega
 have nw : w1.heap.size ≠ w.heap.size := by omega
 generalize w1.alloc (.cells #[.string xt, .bool true, .int .i64 0, .int .i64 xp] 40) = w2 at h3 r1 r2 ht3 hs2 ⊢
 obtain ⟨p0, p1, p2, p3, q0, q1, q2, q3⟩ := box4 r1
 obtain ⟨u0, u1, u2, u3, v0, v1, v2, v3⟩ := box4 r2
 go_wp2_with fail
 have hR := set4_row8 r1 (.string xt) (.bool true) (.int .i64 0) (.int .i64 xp)
 exact bodyPost_ret (v := .agg #[.string xt, .bool true, .int .i64 0, .int .i64 xp]) (results_cell_row rfl _ _ w.heap.size 40 #[.string xt, .bool true, .int .i64 0, .int .i64 xp] (0, 0) _ rfl hR Tryd.underlying40 rfl symInfo8) rfl ⟨rfl, h3.aside4 hne hlt _ _ _ _, ht3.set4 (.inr (Nat.le_refl _)) _ _ _ _⟩

set_option maxRecDepth 100000 in
theorem declared_none (hI : RdIn w0 wv L a) (h : RdAt w0 w a wv n hp pro dv rv) (hn : n < L.length) (hB : (wAt L n).kind = 1) (h3k : (wAt L (n + 1)).kind ≠ 3) :
  Calls Tryd.prog 117 #[.pointer (some ⟨a, 0, none⟩), .int .i64 1] w (RdGo w0 a wv (n + 1) hp pro dv rv w (smOf (wAt L n) 0).agg) := by
 have hn1 := hI.ok.next hn (by omega)
 have ha := h.lt
 have hlt := h.below.size
 have hne : w.heap.size ≠ a := Nat.ne_of_gt ha
 have h1 := h.ahead ((Below.refl w.heap.size w).alloc (Nat.le_refl _) (.cells #[.string ⟨#[]⟩, .bool false, .int .i64 0, .int .i64 0] 40))
 have hS := Lib.hid (sym_any hI h1 hn)
 unfold smOf Sm.agg at hS ⊢
 have HI := Lib.hid hI
 have hW := Lib.hid (fun (V : World) (hV : RdAt w0 V a wv (n + 1) hp pro dv rv) => word_any hI hV hn1)
 unfold Wd.agg8 at hW
 generalize wAt L (n + 1) = y at hW h3k
 obtain ⟨yk, yt, yp⟩ := y
 generalize wAt L n = x at hS hB ⊢
 obtain ⟨xk, xt, xp⟩ := x
 simp only at hS hB hW h3k ⊢
 have hd : decide (xk = 2) = false := by simp [hB]
 rw [hd] at hS ⊢
 have hb3 : (yk == 3) = false := by simp [h3k]
 have hfd := wfld0 yk yt yp
 clear hI hn hB hd h3k hn1
 go_enter Tryd.func117, Tryd.ntmps117
 go_upto_region 2 with (first | (go_at_call 122; (with_reducible refine hS.out.mono ?_); rintro e w1 ⟨rfl, h2, ht2⟩))
 have hr := ht2.heap (heap_made w #[.string ⟨#[]⟩, .bool false, .int .i64 0, .int .i64 0] 40 _ rfl) (show ¬ only a w.heap.size from hne)
 have hs1 : w.heap.size < w1.heap.size := by have := ht2.size; simp at this; omega
 have h3 := h2.ahead ((Below.refl w1.heap.size w1).alloc (Nat.le_refl _) (.cells #[.string xt, .bool false, .int .i64 0, .int .i64 xp] 40))
 have r1 := heap_keep w1 (.cells #[.string xt, .bool false, .int .i64 0, .int .i64 xp] 40) hr
 have r2 := heap_made w1 #[.string xt, .bool false, .int .i64 0, .int .i64 xp] 40 _ rfl
 have ht3 := (((Turns.refl (only a) w).alloc (.cells #[.string ⟨#[]⟩, .bool false, .int .i64 0, .int .i64 0] 40)).trans ht2 (fun _ _ h => h)).alloc (.cells #[.string xt, .bool false, .int .i64 0, .int .i64 xp] 40)
 have hs2 : w1.heap.size < (w1.alloc (.cells #[.string xt, .bool false, .int .i64 0, .int .i64 xp] 40)).heap.size := by simp
 have na : w1.heap.size ≠ a := by omega
 have nw : w1.heap.size ≠ w.heap.size := by omega
 generalize w1.alloc (.cells #[.string xt, .bool false, .int .i64 0, .int .i64 xp] 40) = w2 at h3 r1 r2 ht3 hs2 ⊢
 have hW2 := Lib.hid (hW.out w2 h3)
 obtain ⟨p0, p1, p2, p3, q0, q1, q2, q3⟩ := box4 r1
 obtain ⟨u0, u1, u2, u3, v0, v1, v2, v3⟩ := box4 r2
 go_upto_region 4 with (first | (go_at_call 28; (with_reducible refine hW2.out.mono ?_); rintro e w4 ⟨rfl, hw4⟩))
 have h4 := h3.ahead hw4
 have r14 := block_below r1 hw4 (by omega)
 have r24 := block_below r2 hw4 (by omega)
 have ht4 := ht3.trans (Turns.of_below hw4) (S' := only a) (fun _ _ h => h)
 clear p0 p1 p2 p3 q0 q1 q2 q3 u0 u1 u2 u3 v0 v1 v2 v3
 obtain ⟨p0, p1, p2, p3, q0, q1, q2, q3⟩ := box4 r14
 obtain ⟨u0, u1, u2, u3, v0, v1, v2, v3⟩ := box4 r24
 go_wp2_with fail
 have hR := set4_row8 r14 (.string xt) (.bool false) (.int .i64 0) (.int .i64 xp)
 exact bodyPost_ret (v := .agg #[.string xt, .bool false, .int .i64 0, .int .i64 xp]) (results_cell_row rfl _ _ w.heap.size 40 #[.string xt, .bool false, .int .i64 0, .int .i64 xp] (0, 0) _ rfl hR Tryd.underlying40 rfl symInfo8) rfl ⟨rfl, h4.aside4 hne hlt _ _ _ _, ht4.set4 (.inr (Nat.le_refl _)) _ _ _ _⟩

set_option maxRecDepth 100000 in
theorem declared_num (HA : Hid AtoiOk) (hI : RdIn w0 wv L a) (h : RdAt w0 w a wv n hp pro dv rv) (hn : n < L.length) (hB : (wAt L n).kind = 1) (h3k : (wAt L (n + 1)).kind = 3) :
  Calls Tryd.prog 117 #[.pointer (some ⟨a, 0, none⟩), .int .i64 1] w (RdGo w0 a wv (n + 2) hp pro dv rv w (smOf (wAt L n) (rdNum (wAt L (n + 1)).text : Nat)).agg) := by
 have hn1 := hI.ok.next hn (by omega)
 have ha := h.lt
 have hlt := h.below.size
 have hne : w.heap.size ≠ a := Nat.ne_of_gt ha
 have h1 := h.ahead ((Below.refl w.heap.size w).alloc (Nat.le_refl _) (.cells #[.string ⟨#[]⟩, .bool false, .int .i64 0, .int .i64 0] 40))
 have hS := Lib.hid (sym_any hI h1 hn)
 unfold smOf Sm.agg at hS ⊢
 have HI := Lib.hid hI
 have hW := Lib.hid (fun (V : World) (hV : RdAt w0 V a wv (n + 1) hp pro dv rv) => word_any hI hV hn1)
 have hT := Lib.hid (fun (V : World) (hV : RdAt w0 V a wv (n + 1) hp pro dv rv) => rdTake_any hI hV hn1)
 have hN := hI.ok.num _ (wAt_mem hn1) h3k
 unfold Wd.agg8 at hW hT
 generalize wAt L (n + 1) = y at hW h3k hN hT ⊢
 obtain ⟨yk, yt, yp⟩ := y
 generalize wAt L n = x at hS hB ⊢
 obtain ⟨xk, xt, xp⟩ := x
 simp only at hS hB hW h3k hN hT ⊢
 have hA := Lib.hid (fun W => HA.out yt W hN.1 hN.2.1 hN.2.2.1 hN.2.2.2)
 generalize rdNum yt = m at hA ⊢
 have hd : decide (xk = 2) = false := by simp [hB]
 rw [hd] at hS ⊢
 have hb3 : (yk == 3) = true := by simp [h3k]
 have hfd := wfld0 yk yt yp
 have hfd1 := wfld1 yk yt yp
 clear hI hn hB hd h3k hn1 hN HA
 go_enter Tryd.func117, Tryd.ntmps117
 go_upto_region 2 with (first | (go_at_call 122; (with_reducible refine hS.out.mono ?_); rintro e w1 ⟨rfl, h2, ht2⟩))
 have hr := ht2.heap (heap_made w #[.string ⟨#[]⟩, .bool false, .int .i64 0, .int .i64 0] 40 _ rfl) (show ¬ only a w.heap.size from hne)
 have hs1 : w.heap.size < w1.heap.size := by have := ht2.size; simp at this; omega
 have h3 := h2.ahead ((Below.refl w1.heap.size w1).alloc (Nat.le_refl _) (.cells #[.string xt, .bool false, .int .i64 0, .int .i64 xp] 40))
 have r1 := heap_keep w1 (.cells #[.string xt, .bool false, .int .i64 0, .int .i64 xp] 40) hr
 have r2 := heap_made w1 #[.string xt, .bool false, .int .i64 0, .int .i64 xp] 40 _ rfl
 have ht3 := (((Turns.refl (only a) w).alloc (.cells #[.string ⟨#[]⟩, .bool false, .int .i64 0, .int .i64 0] 40)).trans ht2 (fun _ _ h => h)).alloc (.cells #[.string xt, .bool false, .int .i64 0, .int .i64 xp] 40)
 have hs2 : w1.heap.size < (w1.alloc (.cells #[.string xt, .bool false, .int .i64 0, .int .i64 xp] 40)).heap.size := by simp
 have na : w1.heap.size ≠ a := by omega
 have nw : w1.heap.size ≠ w.heap.size := by omega
 generalize w1.alloc (.cells #[.string xt, .bool false, .int .i64 0, .int .i64 xp] 40) = w2 at h3 r1 r2 ht3 hs2 ⊢
 have hW2 := Lib.hid (hW.out w2 h3)
 obtain ⟨p0, p1, p2, p3, q0, q1, q2, q3⟩ := box4 r1
 obtain ⟨u0, u1, u2, u3, v0, v1, v2, v3⟩ := box4 r2
 go_upto_region 3 with (first | (go_at_call 28; (with_reducible refine hW2.out.mono ?_); rintro e w4 ⟨rfl, hw4⟩))
 have h4 := h3.ahead hw4
 have r14 := block_below r1 hw4 (by omega)
 have r24 := block_below r2 hw4 (by omega)
 have ht4 := ht3.trans (Turns.of_below hw4) (S' := only a) (fun _ _ h => h)
 have hz4 := hw4.size
 have hT4 := Lib.hid (hT.out w4 h4)
 clear p0 p1 p2 p3 q0 q1 q2 q3 u0 u1 u2 u3 v0 v1 v2 v3
 go_wp2_with (first
  | (go_at_call 92; (with_reducible refine hT4.out.mono ?_); rintro e w5 ⟨rfl, h5, ht5⟩)
  | (go_at_call 111; (with_reducible refine (hA.out _).mono ?_); rintro e w6 ⟨rfl, hw6⟩;
      have h6 := h5.ahead hw6;
      have r16 := block_below (ht5.heap r14 (show ¬ only a w.heap.size from hne)) hw6 (by have := ht5.size; omega);
      have r26 := block_below (ht5.heap r24 (show ¬ only a w1.heap.size from na)) hw6 (by have := ht5.size; omega);
      have ht6 := (ht4.trans ht5 (fun _ _ h => h)).trans (Turns.of_below hw6) (S' := only a) (fun _ _ h => h);
      obtain ⟨p0, p1, p2, p3, q0, q1, q2, q3⟩ := box4 r16;
      obtain ⟨u0, u1, u2, u3, v0, v1, v2, v3⟩ := box4 r26))
 have h7 := h6.aside (j := 2) na (by omega) (.int .i64 (m : Int))
 have r17 := (Below.heap_setCell w6 ⟨w1.heap.size, 2, none⟩ (.int .i64 (m : Int)) _ (Ne.symm nw)).trans r16
 have ht7 := ht6.setCell (p := ⟨w1.heap.size, 2, none⟩) (.inr (show w.heap.size ≤ w1.heap.size by omega)) (.int .i64 (m : Int))
 have hR := set4_row8 r17 (.string xt) (.bool false) (.int .i64 (m : Int)) (.int .i64 xp)
 exact bodyPost_ret (v := .agg #[.string xt, .bool false, .int .i64 (m : Int), .int .i64 xp]) (results_cell_row rfl _ _ w.heap.size 40 #[.string xt, .bool false, .int .i64 (m : Int), .int .i64 xp] (0, 0) _ rfl hR Tryd.underlying40 rfl symInfo8) rfl ⟨rfl, h7.aside4 hne hlt _ _ _ _, ht7.set4 (.inr (Nat.le_refl _)) _ _ _ _⟩

theorem declared_any (HA : Hid AtoiOk) (hI : RdIn w0 wv L a) (h : RdAt w0 w a wv n hp pro dv rv) (hn : n < L.length) (k : Int) (hd : declaresB k (wAt L n) = true) :
  Calls Tryd.prog 117 #[.pointer (some ⟨a, 0, none⟩), .int .i64 k] w (RdGo w0 a wv (declN k L n) hp pro dv rv w (declX k L n).agg) := by
 have hN : numbered k (wAt L n) (L.drop (n + 1)) = decide (k = 1 ∧ (wAt L n).kind = 1 ∧ (wAt L (n + 1)).kind = 3) := rfl
 unfold declN declX
 unfold declaresB at hd
 rw [decide_eq_true_iff] at hd
 by_cases hk : k = 1
 · subst hk
   by_cases h1 : (wAt L n).kind = 1
   · by_cases h3 : (wAt L (n + 1)).kind = 3
     · rw [hN, if_pos (by simp [h1, h3]), if_pos (by simp [h1, h3])]
       exact declared_num HA hI h hn h1 h3
     · rw [hN, if_neg (by simp [h3]), if_neg (by simp [h3])]
       exact declared_none hI h hn h1 h3
   · rw [hN, if_neg (by simp [h1]), if_neg (by simp [h1])]
     exact declared_lit hI h hn (by omega)
 · rw [hN, if_neg (by simp [hk]), if_neg (by simp [hk])]
   exact declared_far hI h hn k hk

set_option maxRecDepth 100000 in
theorem declKind_any (t : ByteArray) (w : World) : Calls Tryd.prog 93 #[.string t] w fun e w' => e = .returned (.int .i64 (keyN t)) ∧ w = w' := by
 have hK : Hid (keyN t = if (t.toList == [37, 116, 111, 107, 101, 110]) = true then 1 else if (t.toList == [37, 108, 101, 102, 116]) = true then 2 else if (t.toList == [37, 114, 105, 103, 104, 116]) = true then 3
  else if (t.toList == [37, 110, 111, 110, 97, 115, 115, 111, 99]) = true then 4 else if (t.toList == [37, 116, 121, 112, 101]) = true then 5 else if (t.toList == [37, 115, 116, 97, 114, 116]) = true then 6 else 0) := Lib.hid (by unfold keyN; simp only [beq_iff_eq])
 generalize keyN t = K at hK ⊢
 go_enter Tryd.func93, Tryd.ntmps93
 go_wp2_with fail
 all_goals
  have e := hK.out
  simp [*] at e
  subst e
  go_ret
  exact ⟨rfl, rfl⟩
end
end
section
open Go.RowKit
set_option linter.unusedVariables false
set_option linter.unusedSimpArgs false

theorem rdInfoSym : (Tryd.prog.info? 40).map (fun i => (i.zero, i.size, i.bytes)) = some (some (.agg #[.string ByteArray.empty, .bool false, .int .i64 0, .int .i64 0]), 4, 40) := by kernel_rfl
theorem rdInfoDecl : (Tryd.prog.info? 51).map (fun i => (i.zero, i.size, i.bytes)) = some (some (.agg #[.int .i64 0, .string ByteArray.empty, .slice none 0 0, .int .i64 0]), 4, 56) := by kernel_rfl
theorem rd_info {i : Option TypeInfo} {z : Option Value} {a b : Nat} (h : i.map (fun i => (i.zero, i.size, i.bytes)) = some (z, a, b)) : ∃ x, i = some x ∧ x.zero = z ∧ x.size = a ∧ x.bytes = b := by
 match i, h with
 | some x, h =>
   simp only [Option.map_some, Option.some.injEq, Prod.mk.injEq] at h
   exact ⟨x, rfl, h.1, h.2.1, h.2.2⟩
/-- the cells of a block that was just made -/
theorem rd_news (w : World) (l : List Value) (t : TypeId) : ∀ j u, l[j]? = some u → (w.alloc (.cells l.toArray t)).cell? ((⟨w.heap.size, 0, none⟩ : Addr).add j) = some u := by
 intro j u hj
 rw [show ((⟨w.heap.size, 0, none⟩ : Addr).add j) = ⟨w.heap.size, j, none⟩ from by simp [Addr.add]; intro h; exact h.symm]
 exact (cell_top w l.toArray t _ j rfl).trans (by rw [List.getElem?_toArray]; exact hj)
theorem rd_one {w : World} {base : Nat} {e : TypeId} {size n : Nat} {v : Value} {xs : List Value} (h : w.ownsRow base e size v n xs) : v.oneCell' = true := by
 rcases h.2 with ⟨rfl, _⟩ | ⟨g, cap, cur, rfl, _⟩ <;> rfl
theorem rd_slice {w : World} {base : Nat} {e : TypeId} {size n : Nat} {v : Value} {xs : List Value} (h : w.ownsRow base e size v n xs) : ∃ a c, v = .slice a n c := by
 rcases h.2 with ⟨rfl, h0⟩ | ⟨g, cap, cur, rfl, _⟩
 · exact ⟨none, 0, by rw [h0]⟩
 · exact ⟨_, cap, rfl⟩

theorem Turns.far {S : Nat → Prop} {w w1 w2 : World} (h : Turns S w w1) (hb : Below w.heap.size w1 w2) : Turns S w w2 :=
 ⟨hb.os.trans h.os, hb.tape.trans h.tape, hb.output.trans h.output, Nat.le_trans h.size hb.size, fun b hb' hn => (hb.block b hb').trans (h.block b hb' hn)⟩
theorem RdAt.far {w0 w1 w2 : World} {a n : Nat} {wv dv rv : Value} {hp : Bool} {pro : ByteArray} (h : RdAt w0 w1 a wv n hp pro dv rv) {B : Nat} (hb : Below B w1 w2) (ha : a < B) (h0 : w0.heap.size ≤ B) : RdAt w0 w2 a wv n hp pro dv rv :=
 ⟨h.below.trans (hb.mono h0), (hb.block a ha).trans h.row⟩

section
variable {L : Wds} {n : Nat} {k : Int}
theorem syms_one (hn : n < L.length) (hk : k ≠ 6) (h : declaresB k (wAt L n) = true) : rdSyms k (L.drop n) = (declX k L n :: (rdSyms k (L.drop (declN k L n))).1, (rdSyms k (L.drop (declN k L n))).2) := by
 unfold declX declN
 cases h2 : numbered k (wAt L n) (L.drop (n + 1)) with
 | true => rw [if_pos rfl, if_pos rfl]; exact syms_num hn hk h h2
 | false => rw [if_neg (by decide), if_neg (by decide)]; exact syms_plain hn hk h h2
theorem declN_bd (hL : LexOk L) (hn : n < L.length) (h : declaresB k (wAt L n) = true) : n < declN k L n ∧ declN k L n < L.length := by
 unfold declaresB at h
 rw [decide_eq_true_iff] at h
 have h1 := hL.next hn (by omega)
 unfold declN
 split
 · rename_i h2
   unfold numbered at h2
   rw [decide_eq_true_iff] at h2
   have h3 : (wAt L (n + 1)).kind = 3 := h2.2.2
   have := hL.next h1 (by omega)
   omega
 · omega
theorem numbered_six (x : Wd) (l : Wds) : numbered 6 x l = false := by unfold numbered; simp
theorem declN_six : declN 6 L n = n + 1 := by unfold declN; rw [numbered_six]; rfl
theorem declX_six : declX 6 L n = smOf (wAt L n) 0 := by unfold declX; rw [numbered_six]; rfl
end
end
end Go.Proofs.YtnoppoifepbchaaDoor
