/- The document's word: bytes in quotes, numbers. -/
import Derived.Test.YtnoppoifepbchaaGreatDoorZA
import Derived.Test.YtnoppoifepbchaaGreatDoorZLex8
import Derived.Test.YtnoppoifepbchaaGreatDoorZLex11
import Derived.Test.YtnoppoifepbchaaGreatDoorZLex13
namespace Go.Proofs.YtnoppoifepbchaaGreatDoor
open Go.RowKit
set_option linter.unusedVariables false
set_option linter.unusedSimpArgs false
theorem cell_old' {w : World} {p : Addr} (v : Value) (o : Obj) (h : w.cell? p = some v) : (w.alloc o).cell? p = some v :=
 (World.cell?_alloc_lt w o p (World.block_lt_of_cell? _ _ h)).trans h
theorem past_facts {w1 : World} {B : Nat} {a b c : Value} {o : Obj} (c0 : w1.cell? ⟨B, 0, none⟩ = some a) (c1 : w1.cell? ⟨B, 1, none⟩ = some b) (c2 : w1.cell? ⟨B, 2, none⟩ = some c)
  (f0 : w1.frozen? ⟨B, 0, none⟩ = false) (f1 : w1.frozen? ⟨B, 1, none⟩ = false) (f2 : w1.frozen? ⟨B, 2, none⟩ = false) (hlt : B < w1.heap.size) :
  (w1.alloc o).drew.cell? ⟨B, 0, none⟩ = some a ∧ (w1.alloc o).drew.cell? ⟨B, 1, none⟩ = some b ∧ (w1.alloc o).drew.cell? ⟨B, 2, none⟩ = some c ∧ (w1.alloc o).drew.frozen? ⟨B, 0, none⟩ = false ∧ (w1.alloc o).drew.frozen? ⟨B, 1, none⟩ = false ∧ (w1.alloc o).drew.frozen? ⟨B, 2, none⟩ = false :=
 ⟨cell_old' _ o c0, cell_old' _ o c1, cell_old' _ o c2, by rw [World.frozen?_drew, World.frozen?_alloc_past _ _ _ hlt]; exact f0, by rw [World.frozen?_drew, World.frozen?_alloc_past _ _ _ hlt]; exact f1, by rw [World.frozen?_drew, World.frozen?_alloc_past _ _ _ hlt]; exact f2⟩

set_option maxRecDepth 100000 in
set_option maxHeartbeats 4000000 in
theorem rword_lit (s : ByteArray) (i : Nat) (w : World) (h : gAt s i = 39) (hi : i < s.size) (hs : s.size ≤ 1000000) :
  Calls Tryz.prog 34 #[.string s, .int .i64 i] w fun r w' => WdTells r (rwd i (if (takeS s i).2.2 = true then (⟨2, bytesOf [(takeS s i).1], i⟩, (takeS s i).2.1.toNat) else (noWd, i))) ∧ Below w.heap.size w w' := by
 have hc1 : ∀ (x : Int) (w : World), (convert 86 9 (.slice (some ⟨w.heap.size,0,none⟩) 1 1)).run Tryz.prog (w.alloc (.cells #[.int .u8 x] 5)) = .ok (.string (bytesOf [x])) (w.alloc (.cells #[.int .u8 x] 5)) :=
  fun x w => run_conv_new w _ _ _ [x] 1 Tryz.underlying86 Tryz.underlying5 Tryz.underlying9
 have hg := gAt_get s i hi
 have HL := Lib.hid (fun W => rletter_any 39 W)
 rw [show begB 39 = false by decide] at HL
 have HT := fun W => lexTake_any s i W (by omega)
 unfold TakeTells at HT
 have hte := takeS_end s i
 rw [h] at hg
 generalize takeS s i = T at *
 obtain ⟨c, e, ok⟩ := T
 simp only at HT hte ⊢
 have HT := Lib.hid HT
 cases ok with
 | true =>
   obtain ⟨h1, h2⟩ := hte rfl
   obtain ⟨q, rfl⟩ := Int.eq_ofNat_of_zero_le (show 0 ≤ e by omega)
   have e1 : (q : Int) - (i : Int) = ((q - i : Nat) : Int) := by omega
   clear hte
   rw [if_pos rfl, rwd_some (by decide)]
   go_enter Tryz.func34, Tryz.ntmps34
   go_wp2_with (first
    | (go_at_call 66; refine (HL.out _).mono ?_; rintro e w1 ⟨rfl, rfl⟩))
   refine (HT.out _).mono ?_
   rintro e w1 ⟨rfl, hb1⟩
   obtain ⟨hx0, hx1, hbw⟩ := two_blocks w i (hb1.mono (by simp))
   obtain ⟨c0, c1, c2, f0, f1, f2⟩ := wd_facts3 hx0
   obtain ⟨l0, l1, l2, g0, g1, g2⟩ := wd_facts3 hx1
   have hlt := lt_of_block hx1
   have hlt0 := lt_of_block hx0
   have hcv : ∀ W : World, W.cell? ⟨w1.heap.size, 0, none⟩ = some (.int .u8 c) → (convert 86 9 (.slice (some ⟨w1.heap.size,0,none⟩) 1 1)).run Tryz.prog W = .ok (.string (bytesOf [c])) W := fun W hW =>
    run_conv_cells W _ _ _ _ [c] 1 Tryz.underlying86 Tryz.underlying5 Tryz.underlying9 (fun j v hj => by
     match j, hj with
     | 0, hj => simp at hj; subst hj; simpa [Addr.add] using hW)
   obtain ⟨wS, hwS⟩ : ∃ wS, wS = w1.setCell ⟨w.heap.size + 1, 0, none⟩ (.int .i64 2) := ⟨_, rfl⟩
   have hsz : wS.heap.size = w1.heap.size := by rw [hwS]; simp
   have hbS : Below w.heap.size w wS := by rw [hwS]; exact hbw.setCell (Nat.le_succ _) _
   have hcA := hcv ((w1.alloc (.cells #[.int .u8 c] 5)).drew) (cell_top w1 _ _ _ 0 rfl)
   have hcB := hcv ((wS.alloc (.cells #[.int .u8 c] 5)).drew) (cell_top wS _ _ _ 0 hsz.symm)
   obtain ⟨p0, p1, p2, p3, p4, p5⟩ := past_facts (o := .cells #[.int .u8 c] 5) c0 c1 c2 f0 f1 f2 (by omega)
   obtain ⟨q0, q1, q2, q3, q4, q5⟩ := past_facts (o := .cells #[.int .u8 c] 5) l0 l1 l2 g0 g1 g2 hlt
   have P := past_facts (w1 := wS) (B := w.heap.size) (a := .int .i64 0) (b := .string ⟨#[]⟩) (c := .int .i64 0) (o := .cells #[.int .u8 c] 5) (by rw [hwS]; simp [World.cell?_setCell_other, c0]) (by rw [hwS]; simp [World.cell?_setCell_other, c1]) (by rw [hwS]; simp [World.cell?_setCell_other, c2]) (by rw [hwS, World.frozen?_setCell]; exact f0) (by rw [hwS, World.frozen?_setCell]; exact f1) (by rw [hwS, World.frozen?_setCell]; exact f2) (by rw [hsz]; omega)
   have Q := past_facts (w1 := wS) (B := w.heap.size + 1) (a := .int .i64 2) (b := .string ⟨#[]⟩) (c := .int .i64 i) (o := .cells #[.int .u8 c] 5) (by rw [hwS]; simp [World.cell?_setCell_same, l0]) (by rw [hwS]; simp [World.cell?_setCell_other, l1]) (by rw [hwS]; simp [World.cell?_setCell_other, l2]) (by rw [hwS, World.frozen?_setCell]; exact g0) (by rw [hwS, World.frozen?_setCell]; exact g1) (by rw [hwS, World.frozen?_setCell]; exact g2) (by rw [hsz]; omega)
   rw [hwS] at hcB P Q hbS
   obtain ⟨r0, r1, r2, r3, r4, r5⟩ := P
   obtain ⟨t0, t1, t2, t3, t4, t5⟩ := Q
   clear hwS hsz
   clear hcv hc1
   go_wp2_with fail
   go_region
   all_goals
    go_wp2_with fail
    exact bodyPost_ret (v := .tuple #[.agg #[.int .i64 2, .string (bytesOf [c]), .int .i64 (i : Int)], .int .i64 ((q - i : Nat) : Int)]) (by simp [results, Tryz.results34, go_sem, c0, c1, c2, l0, l1, l2, p0, p1, p2, q0, q1, q2, World.cell?_alloc_past, hlt0, hlt, World.cell?_setCell_same, World.cell?_setCell_other, e1]) rfl ⟨rfl, by
     repeat' first | exact Below.refl _ _ | assumption | refine Below.drew ?_ | refine Below.setCell ?_ ?_ _ | refine Below.alloc ?_ ?_ _ | (simp; omega) | simp⟩
 | false =>
   rw [if_neg (by simp), rwd_none rfl]
   clear hte
   go_enter Tryz.func34, Tryz.ntmps34
   go_wp2_with (first
    | (go_at_call 66; refine (HL.out _).mono ?_; rintro e w1 ⟨rfl, rfl⟩))
   refine (HT.out _).mono ?_
   rintro e w1 ⟨rfl, hb1⟩
   obtain ⟨hx0, hx1, hbw⟩ := two_blocks w i (hb1.mono (by simp))
   obtain ⟨c0, c1, c2, f0, f1, f2⟩ := wd_facts3 hx0
   obtain ⟨l0, l1, l2, g0, g1, g2⟩ := wd_facts3 hx1
   go_wp2_with fail
   exact bodyPost_ret (v := .tuple #[.agg #[.int .i64 0, .string ByteArray.empty, .int .i64 (i : Int)], .int .i64 0]) (by simp [results, Tryz.results34, go_sem, c0, c1, c2, l0, l1, l2, World.cell?_setCell_same, World.cell?_setCell_other]; rfl) rfl ⟨rfl, by
    repeat' first | exact Below.refl _ _ | assumption | refine Below.drew ?_ | refine Below.setCell ?_ ?_ _ | refine Below.alloc ?_ ?_ _ | (simp; omega) | simp⟩

end Go.Proofs.YtnoppoifepbchaaGreatDoor
