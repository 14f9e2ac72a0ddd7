/- The maker's put. -/
import Derived.Test.YtkgbifbbpmdpgaaNOf2
import Derived.Deep.RegionHeld3
import Derived.Deep.RegionHeld
set_option linter.unusedVariables false
set_option linter.unusedSimpArgs false
namespace Go.Proofs.Ytkgbifbbpmdpgaa

open List renaming getElem_toArray → gA, getElem_cons_succ → gB, getElem_cons_zero → gC, setIfInBounds_toArray → gD, set_cons_zero → gE, set_cons_succ → gF
open Go.RowKit
variable {w W : World} {B M : Nat} {F S : Nat → Prop} {m : Mk}
theorem MkV.frame {w' : World} {D : Nat → Prop} (h : MkV w B M F S m) (hf : Fr D w w') (hd : ∀ b, D b → ¬ F b ∧ ¬ S b) : MkV w' B M F S m := by
 obtain ⟨tv, pv, gv, yv, lv, ys, h1, h2, h3⟩ := h.is
 exact ⟨⟨tv, pv, gv, yv, lv, ys, h1, h2.frame hf (fun b hb hF => (hd b hb).1 ((h1 b).2 hF)), h3.frame hf (fun b hS hb => (hd b hb).2 hS)⟩⟩
theorem MkV.lt (h : MkV w B M F S m) : ∀ b, F b ∨ S b → B ≤ b ∧ b < w.heap.size := by
 obtain ⟨tv, pv, gv, yv, lv, ys, h1, h2, h3⟩ := h.is
 rintro b (hb | hb)
 · exact h2.lt b ((h1 b).1 hb)
 · exact ⟨(h2.low b hb).1, (h2.low b hb).2.1⟩
theorem MkV.opened (h : MkV w B M F S m) : ∃ tv pv gv yv lv ys, (∀ b, F b ↔ footS M (mkRows tv pv gv yv lv ys m) b) ∧ MkO w B M S m tv pv gv yv lv ys := by
 obtain ⟨tv, pv, gv, yv, lv, ys, h1, h2, h3⟩ := h.is
 exact ⟨tv, pv, gv, yv, lv, ys, h1, h2, h3⟩
theorem own_slice {w : World} {base : Nat} {e : TypeId} {size n : Nat} {v : Value} {xs : List Value} (h : w.ownsRow base e size v n xs) : ∃ a c, v = .slice a n c := by
 obtain ⟨h1, h2⟩ := h
 rcases h2 with ⟨rfl, rfl⟩ | ⟨g, cap, cur, rfl, r⟩
 · exact ⟨_, _, rfl⟩
 · exact ⟨_, _, rfl⟩
theorem byte0_at {s : ByteArray} (h : 0 < s.size) : ((s[0]'h).toNat : Int) = byte0 s := by
 unfold byte0
 have h2 : 0 < s.data.toList.length := h
 rw [List.getD_eq_getElem?_getD, List.getElem?_eq_getElem h2]; rfl
theorem byte0_bound (s : ByteArray) : 0 ≤ byte0 s ∧ byte0 s ≤ 255 := by
 unfold byte0
 generalize s.data.toList.getD 0 0 = b
 have := b.toNat_lt
 omega
theorem Mk.owner_ge (m : Mk) (n : Int) : -1 ≤ m.owner n := by
 unfold Mk.owner
 rcases firstN_lt (ownP m.toks n) m.toks.length 3 with e | ⟨k, e, _⟩ <;> omega
theorem lit_cells (W : World) (cs : Array Value) (T : TypeId) (j : Nat) (u : Value) (h : cs.toList[j]? = some u) : (W.alloc (.cells cs T)).cell? ((⟨W.heap.size, 0, none⟩ : Addr).add j) = some u := by
 have e : (⟨W.heap.size, 0, none⟩ : Addr).add j = ⟨W.heap.size, j, none⟩ := by unfold Addr.add; split <;> simp_all
 rw [e, cell_of_row _ _ j _ _ _ (heap_alloc_new W (.cells cs T))]
 simpa using h
theorem Step.via {F1 : Nat → Prop} {m2 : Mk} {w w1 w2 : World} (hi : ∀ b, F b ↔ F1 b) (hf : Fr F w w1) (h : Step w1 B M F1 S m2 w2) : Step w B M F S m2 w2 :=
 Step.trans (fun b hb => .inl ((hi b).2 hb)) hf h
theorem Try.infoTok' : (Try.prog.info? 52).map (fun i => (i.zero, i.size, i.bytes)) = some (some (.agg #[.string ByteArray.empty, .bool false, .int .i64 0, .int .i64 0, .int .i64 0, .string ByteArray.empty]), 6, 64) := by kernel_rfl
theorem Try.infoBool' : (Try.prog.info? 4).map (fun i => (i.zero, i.size, i.bytes)) = some (some (.bool false), 1, 1) := by kernel_rfl
def PutMid (w3 : World) (B M K X : Nat) (F S : Nat → Prop) (m1 : Mk) (xn : ByteArray) (xl : Bool) (xm xp q : Int) (wx : World) : Prop :=
 ∃ F1, MkV wx B M F1 S m1 ∧ (∀ b, F1 b → F b ∨ w3.heap.size ≤ b) ∧ Fr (fun b => F b ∨ b = K) w3 wx ∧ wx.heap[K]? = some (.cells #[.string xn, .bool xl, .int .i64 q, .int .i64 0, .int .i64 0, .string ⟨#[]⟩] 52 (0, 0)) ∧
  wx.heap[X]? = some (.cells #[.string xn, .bool xl, .int .i64 xm, .int .i64 xp] 68 (0, 0))
set_option maxRecDepth 100000 in
set_option maxHeartbeats 4000000 in
theorem put_any (h : MkV w B M F S m) (x : Sm) (hx : x.lit = true → 1 ≤ x.name.size) (hn : m.toks.length ≤ 1000000) (hg : m.given.length ≤ 1000000) : Calls Try.prog 57 #[.pointer (some ⟨M, 0, none⟩), x.agg] w (Goes w B M F S (m.put x).1 (.int .i64 (m.put x).2)) := by
 obtain ⟨xn, xl, xm, xp⟩ := x
 have hbX := (Below.refl w.heap.size w).alloc (Nat.le_refl _) (.cells #[.string xn, .bool xl, .int .i64 xm, .int .i64 xp] 68)
 have hX := heap_alloc_new w (.cells #[.string xn, .bool xl, .int .i64 xm, .int .i64 xp] 68)
 have H1 := Lib.hid (h.below hbX)
 have HT := Lib.hid (tok_any H1.out ⟨xn, xl, xm, xp⟩)
 have hO := fun h => m.put_old (x := ⟨xn, xl, xm, xp⟩) h
 have hN := fun h => m.put_new (x := ⟨xn, xl, xm, xp⟩) h
 have hbd := m.tok_ge ⟨xn, xl, xm, xp⟩
 unfold Sm.agg at HT ⊢
 simp only at HT hO ⊢
 dsimp only at hN
 generalize m.put ⟨xn, xl, xm, xp⟩ = RR at hO hN ⊢
 generalize m.tok ⟨xn, xl, xm, xp⟩ = T at hO hN HT hbd
 have b0 := cell_of_row _ _ 0 _ _ _ hX
 have b1 := cell_of_row _ _ 1 _ _ _ hX
 have b2 := cell_of_row _ _ 2 _ _ _ hX
 have b3 := cell_of_row _ _ 3 _ _ _ hX
 go_enter Try.func57, Try.ntmps57
 go_upto_region 2 with (first | (go_at_call 46; refine HT.out.mono ?_; rintro e w2 ⟨rfl, hb2⟩))
 have HY := Lib.hid ((hb2.block w.heap.size (by simp)).trans hX)
 have H2 := Lib.hid (H1.out.below hb2)
 have hb3 := hbX.trans (hb2.mono hbX.size)
 have hXF : ∀ b, F b ∨ S b → b < w.heap.size := fun b hb => (h.lt b hb).2
 have hX2 : w.heap.size < w2.heap.size := (Array.getElem?_eq_some_iff.1 HY.out).1
 clear h hX b0 b1 b2 b3 HT H1 hb2 hbX
 by_cases ht : 0 ≤ T
 · obtain rfl := hO ht
   clear hO hN
   go_wp2_with fail
   go_ret
   exact ⟨F, rfl, H2.out, fun b hb => .inl hb, Fr.of_below hb3⟩
 · obtain rfl := hN (by omega)
   have c0 := cell_of_row _ _ 0 _ _ _ HY.out
   have c1 := cell_of_row _ _ 1 _ _ _ HY.out
   have c2 := cell_of_row _ _ 2 _ _ _ HY.out
   have c3 := cell_of_row _ _ 3 _ _ _ HY.out
   clear hO
   go_upto_if 19 with fail
   have hb4 := hb3.alloc hb3.size (.cells #[.string xn, .bool xl, .int .i64 0, .int .i64 0, .int .i64 0, .string ⟨#[]⟩] 52)
   have HX4 := Lib.hid ((((Below.refl w2.heap.size w2).alloc (Nat.le_refl _) (.cells #[.string xn, .bool xl, .int .i64 0, .int .i64 0, .int .i64 0, .string ⟨#[]⟩] 52)).block w.heap.size hX2).trans HY.out)
   have HK4 := Lib.hid (heap_alloc_new w2 (.cells #[.string xn, .bool xl, .int .i64 0, .int .i64 0, .int .i64 0, .string ⟨#[]⟩] 52))
   have H4 := Lib.hid (H2.out.below ((Below.refl w2.heap.size w2).alloc (Nat.le_refl _) (.cells #[.string xn, .bool xl, .int .i64 0, .int .i64 0, .int .i64 0, .string ⟨#[]⟩] 52)))
   have hKF : ∀ b, F b ∨ S b → b ≠ w2.heap.size := fun b hb e => by have := hXF b hb; omega
   clear c0 c1 c2 c3 HY H2 hb3
   have hz4 : (w2.alloc (.cells #[.string xn, .bool xl, .int .i64 0, .int .i64 0, .int .i64 0, .string ⟨#[]⟩] 52)).heap.size = w2.heap.size + 1 := World.size_alloc _ _
   generalize w2.alloc (.cells #[.string xn, .bool xl, .int .i64 0, .int .i64 0, .int .i64 0, .string ⟨#[]⟩] 52) = w4 at *
   generalize w2.heap.size = K at *
   generalize hXe : w.heap.size = X at *
   go_cut [] from 20 to 35 (fun wx => PutMid w4 B M K X F S (m.failIf (xl && decide (0 ≤ m.owner (byte0 xn))) xp xn) xn xl xm xp (if xl then byte0 xn else 0) wx)
   case first =>
    cases xl with
    | false =>
      go_wp2_with fail
      go_meet
      case rel => exact ⟨F, H4.out, fun b hb => .inl hb, Fr.refl _ _, HK4.out, HX4.out⟩
    | true =>
      have hxs : 0 < xn.size := hx rfl
      have hq := byte0_at hxs
      have hqb := byte0_bound xn
      have hob := m.owner_ge (byte0 xn)
      have hFK : Fr (fun b => b = K) w4 (w4.setCell ⟨K, 2, none⟩ (.int .i64 (byte0 xn))) := Fr.set w4 _ _ rfl
      have H5 := Lib.hid (H4.out.frame hFK (fun b hb => ⟨fun hF => hKF b (.inl hF) hb, fun hS => hKF b (.inr hS) hb⟩))
      have HO := Lib.hid (owner_any H5.out (byte0 xn))
      have HK5 := Lib.hid (block_setCell (j := 2) (u := .int .i64 (byte0 xn)) HK4.out)
      have HX5 := Lib.hid ((Below.heap_setCell w4 ⟨K, 2, none⟩ (.int .i64 (byte0 xn)) X (by simp only; omega)).trans HX4.out)
      have hz5 : (w4.setCell ⟨K, 2, none⟩ (.int .i64 (byte0 xn))).heap.size = w4.heap.size := by simp
      have x0 := cell_of_row _ _ 0 _ _ _ HX4.out
      have k2 := cell_of_row _ _ 2 _ _ _ HK4.out
      have f2 : w4.frozen? ⟨K, 2, none⟩ = false := free_of_block HK4.out
      have k5 := cell_of_row _ _ 2 _ _ _ HK5.out
      generalize byte0 xn = q at *
      clear hN
      go_upto_region 7 with fail
      generalize w4.setCell ⟨K, 2, none⟩ (.int .i64 q) = w5 at *
      clear x0 k2 f2
      generalize m.owner q = O at *
      go_upto_if 29 with (first | (go_at_call 58; refine HO.out.mono ?_; rintro e w6 ⟨rfl, hb6⟩))
      have H6 := Lib.hid (H5.out.below hb6)
      have HX6 := (hb6.block X (Array.getElem?_eq_some_iff.1 HX5.out).1).trans HX5.out
      have HK6 := (hb6.block K (Array.getElem?_eq_some_iff.1 HK5.out).1).trans HK5.out
      have hF6 : Fr (fun b => F b ∨ b = K) w4 w6 := (⟨hFK.os, hFK.tape, hFK.output, hFK.size, fun b hb hn => hFK.block b hb (fun e => hn (.inr e))⟩ : Fr (fun b => F b ∨ b = K) w4 w5).trans (Fr.of_below hb6) (fun b hb => .inl hb)
      have x0 := cell_of_row _ _ 0 _ _ _ HX6
      have x3 := cell_of_row _ _ 3 _ _ _ HX6
      have HX6 := Lib.hid HX6
      have HK6 := Lib.hid HK6
      clear HO k5 HX5 HK5 H5 hFK
      by_cases ho : 0 ≤ O
      · have HFl := Lib.hid (fail_any H6.out xp xn)
        have i1 : O ≥ 0 := ho
        go_wp2_with (first | (go_at_call 45; refine HFl.out.mono ?_; rintro e w7 ⟨F7, rfl, hM7, hd7, hf7⟩))
        go_meet
        case rel =>
         have e1 : (true && decide (0 ≤ O)) = true := by simp [ho]
         rw [e1]
         refine ⟨F7, hM7, fun b hb => (hd7 b hb).imp id (fun h2 => Nat.le_trans hF6.size h2), hF6.trans hf7 (fun b hb => .inl (.inl hb)), (hf7.block K (Array.getElem?_eq_some_iff.1 HK6.out).1 (fun hF => hKF K (.inl hF) rfl)).trans HK6.out, (hf7.block X (Array.getElem?_eq_some_iff.1 HX6.out).1 (fun hF => by have := hXF X (.inl hF); omega)).trans HX6.out⟩
      · have i1 : ¬ O ≥ 0 := ho
        go_wp2_with fail
        go_meet
        case rel =>
         have e1 : (true && decide (0 ≤ O)) = false := by simp; omega
         rw [e1]
         exact ⟨F, H6.out, fun b hb => .inl hb, hF6, HK6.out, HX6.out⟩
   case rest =>
    obtain ⟨F1, hM1, hd1, hf1, hK1, hX1⟩ := hcut
    obtain ⟨s1, s2, s3, s4, s5, s6, s7⟩ := m.failIf_same (xl && decide (0 ≤ m.owner (byte0 xn))) xp xn
    generalize (m.failIf (xl && decide (0 ≤ m.owner (byte0 xn))) xp xn) = m1 at *
    generalize (if xl then byte0 xn else 0) = q at *
    rename World => W
    have hFn_K : ¬ F1 K := fun hF => (hd1 K hF).elim (fun h => hKF K (.inl h) rfl) (fun h => by omega)
    have hFn_X : ¬ F1 X := fun hF => (hd1 X hF).elim (fun h => by have := hXF X (.inl h); omega) (fun h => by omega)
    have hn1 : m1.toks.length ≤ 1000000 := by rw [s1]; exact hn
    have hg1 : m1.given.length ≤ 1000000 := by rw [s3]; exact hg
    have k0 : W.cell? ⟨K, 0, none⟩ = some (.string xn) := cell_of_row _ _ 0 _ _ _ hK1
    have k1 : W.cell? ⟨K, 1, none⟩ = some (.bool xl) := cell_of_row _ _ 1 _ _ _ hK1
    have k2 : W.cell? ⟨K, 2, none⟩ = some (.int .i64 q) := cell_of_row _ _ 2 _ _ _ hK1
    have k3 : W.cell? ⟨K, 3, none⟩ = some (.int .i64 0) := cell_of_row _ _ 3 _ _ _ hK1
    have k4 : W.cell? ⟨K, 4, none⟩ = some (.int .i64 0) := cell_of_row _ _ 4 _ _ _ hK1
    have k5 : W.cell? ⟨K, 5, none⟩ = some (.string ⟨#[]⟩) := cell_of_row _ _ 5 _ _ _ hK1
    clear HX4 HK4 H4 hN
    go_upto_region 9 with fail
    go_cut [] from 36 to 47 (fun wx => Step W B M F1 S (m1.addTok ⟨xn, xl, q, 0, 0, ⟨#[]⟩⟩) wx)
    case first =>
     obtain ⟨tv, pv, gv, yv, lv, ys, hFi, hO⟩ := hM1.opened
     have hOw := hO.1.own ⟨52, 6, tv, m1.toks.length, m1.toks.flatMap tkC⟩ (by simp [mkRows])
     have hbL : Below W.heap.size W (W.drew.alloc (.cells #[.string xn, .bool xl, .int .i64 q, .int .i64 0, .int .i64 0, .string ⟨#[]⟩] 52)) := (Below.refl W.heap.size W).drew.alloc (Nat.le_refl _) _
     have hOL := hO.below hbL
     have hOwL := hOL.1.own ⟨52, 6, tv, m1.toks.length, m1.toks.flatMap tkC⟩ (by simp [mkRows])
     have xM := hO.1.cell 0
     have eL := hOL.1.cell 0
     simp only [mkCells, List.getElem?_cons_succ, List.getElem?_cons_zero] at xM eL
     have frL := hOL.1.free 0
     have hMl := hOL.1.mlt
     have hMn : some M ≠ tv.ownBlock := fun e => hO.1.notM ⟨52, 6, tv, m1.toks.length, m1.toks.flatMap tkC⟩ (by simp [mkRows]) e.symm
     have hft : ∀ b, tv.ownBlock = some b → F1 b := fun b hb => (hFi b).2 (.inr ⟨⟨52, 6, tv, m1.toks.length, m1.toks.flatMap tkC⟩, by simp [mkRows], hb⟩)
     have HO := Lib.hid hO
     have HOL := Lib.hid hOL
     have hBL : B ≤ (W.drew.alloc (.cells #[.string xn, .bool xl, .int .i64 q, .int .i64 0, .int .i64 0, .string ⟨#[]⟩] 52)).heap.size := Nat.le_trans hO.1.mB (by have := hOL.1.mlt; omega)
     have hzL : (W.drew.alloc (.cells #[.string xn, .bool xl, .int .i64 q, .int .i64 0, .int .i64 0, .string ⟨#[]⟩] 52)).heap.size = W.heap.size + 1 := World.size_alloc _ _
     have hnw : ∀ j u, ([.string xn, .bool xl, .int .i64 q, .int .i64 0, .int .i64 0, .string ⟨#[]⟩] : List Value)[j]? = some u → (W.drew.alloc (.cells #[.string xn, .bool xl, .int .i64 q, .int .i64 0, .int .i64 0, .string ⟨#[]⟩] 52)).cell? ((⟨W.heap.size, 0, none⟩ : Addr).add j) = some u := fun j u h => lit_cells W.drew #[.string xn, .bool xl, .int .i64 q, .int .i64 0, .int .i64 0, .string ⟨#[]⟩] 52 j u h
     obtain ⟨i0, hi, iz0, iz1, iz2⟩ := info_parts Try.infoTok'
     obtain ⟨ta, tc, e0⟩ := own_slice hOw
     simp only at e0
     subst e0
     have hSW : W.cell? ⟨K, 0, none⟩ = some (.string xn) ∧ W.cell? ⟨K, 1, none⟩ = some (.bool xl) ∧ W.cell? ⟨K, 2, none⟩ = some (.int .i64 q) ∧ W.cell? ⟨K, 3, none⟩ = some (.int .i64 0) ∧ W.cell? ⟨K, 4, none⟩ = some (.int .i64 0) ∧ W.cell? ⟨K, 5, none⟩ = some (.string ⟨#[]⟩) := ⟨k0, k1, k2, k3, k4, k5⟩
     have hSD : W.drew.cell? ⟨K, 0, none⟩ = some (.string xn) ∧ W.drew.cell? ⟨K, 1, none⟩ = some (.bool xl) ∧ W.drew.cell? ⟨K, 2, none⟩ = some (.int .i64 q) ∧ W.drew.cell? ⟨K, 3, none⟩ = some (.int .i64 0) ∧ W.drew.cell? ⟨K, 4, none⟩ = some (.int .i64 0) ∧ W.drew.cell? ⟨K, 5, none⟩ = some (.string ⟨#[]⟩) := hSW
     have hSL : (W.drew.alloc (.cells #[.string xn, .bool xl, .int .i64 q, .int .i64 0, .int .i64 0, .string ⟨#[]⟩] 52)).cell? ⟨K, 0, none⟩ = some (.string xn) ∧ (W.drew.alloc (.cells #[.string xn, .bool xl, .int .i64 q, .int .i64 0, .int .i64 0, .string ⟨#[]⟩] 52)).cell? ⟨K, 1, none⟩ = some (.bool xl) ∧ (W.drew.alloc (.cells #[.string xn, .bool xl, .int .i64 q, .int .i64 0, .int .i64 0, .string ⟨#[]⟩] 52)).cell? ⟨K, 2, none⟩ = some (.int .i64 q) ∧ (W.drew.alloc (.cells #[.string xn, .bool xl, .int .i64 q, .int .i64 0, .int .i64 0, .string ⟨#[]⟩] 52)).cell? ⟨K, 3, none⟩ = some (.int .i64 0) ∧ (W.drew.alloc (.cells #[.string xn, .bool xl, .int .i64 q, .int .i64 0, .int .i64 0, .string ⟨#[]⟩] 52)).cell? ⟨K, 4, none⟩ = some (.int .i64 0) ∧ (W.drew.alloc (.cells #[.string xn, .bool xl, .int .i64 q, .int .i64 0, .int .i64 0, .string ⟨#[]⟩] 52)).cell? ⟨K, 5, none⟩ = some (.string ⟨#[]⟩) := ⟨cell_up hbL hSW.1, cell_up hbL hSW.2.1, cell_up hbL hSW.2.2.1, cell_up hbL hSW.2.2.2.1, cell_up hbL hSW.2.2.2.2.1, cell_up hbL hSW.2.2.2.2.2⟩
     have hne_K : some K ≠ (Value.slice ta m1.toks.length tc).ownBlock := fun e => hFn_K (hft K e.symm)
     have hnM_K : M ≠ K := fun e => hFn_K ((hFi K).2 (.inl e.symm))
     have hS5 : Hid (∀ w5, (W.drew.alloc (.cells #[.string xn, .bool xl, .int .i64 q, .int .i64 0, .int .i64 0, .string ⟨#[]⟩] 52)).grownBy w5 (Value.slice ta m1.toks.length tc).ownBlock → w5.cell? ⟨K, 0, none⟩ = some (.string xn) ∧ w5.cell? ⟨K, 1, none⟩ = some (.bool xl) ∧ w5.cell? ⟨K, 2, none⟩ = some (.int .i64 q) ∧ w5.cell? ⟨K, 3, none⟩ = some (.int .i64 0) ∧ w5.cell? ⟨K, 4, none⟩ = some (.int .i64 0) ∧ w5.cell? ⟨K, 5, none⟩ = some (.string ⟨#[]⟩)) := Lib.hid (fun w5 hg => ⟨hg.cell hSL.1 hne_K, hg.cell hSL.2.1 hne_K, hg.cell hSL.2.2.1 hne_K, hg.cell hSL.2.2.2.1 hne_K, hg.cell hSL.2.2.2.2.1 hne_K, hg.cell hSL.2.2.2.2.2 hne_K⟩)
     have hS6 : Hid (∀ (w5 : World) (u : Value), (w5.cell? ⟨K, 0, none⟩ = some (.string xn) ∧ w5.cell? ⟨K, 1, none⟩ = some (.bool xl) ∧ w5.cell? ⟨K, 2, none⟩ = some (.int .i64 q) ∧ w5.cell? ⟨K, 3, none⟩ = some (.int .i64 0) ∧ w5.cell? ⟨K, 4, none⟩ = some (.int .i64 0) ∧ w5.cell? ⟨K, 5, none⟩ = some (.string ⟨#[]⟩)) → (w5.setCell ⟨M, 0, none⟩ u).cell? ⟨K, 0, none⟩ = some (.string xn) ∧ (w5.setCell ⟨M, 0, none⟩ u).cell? ⟨K, 1, none⟩ = some (.bool xl) ∧ (w5.setCell ⟨M, 0, none⟩ u).cell? ⟨K, 2, none⟩ = some (.int .i64 q) ∧ (w5.setCell ⟨M, 0, none⟩ u).cell? ⟨K, 3, none⟩ = some (.int .i64 0) ∧ (w5.setCell ⟨M, 0, none⟩ u).cell? ⟨K, 4, none⟩ = some (.int .i64 0) ∧ (w5.setCell ⟨M, 0, none⟩ u).cell? ⟨K, 5, none⟩ = some (.string ⟨#[]⟩)) := Lib.hid (fun w5 u h => ⟨(World.cell?_setCell_far _ _ _ _ hnM_K).trans h.1, (World.cell?_setCell_far _ _ _ _ hnM_K).trans h.2.1, (World.cell?_setCell_far _ _ _ _ hnM_K).trans h.2.2.1, (World.cell?_setCell_far _ _ _ _ hnM_K).trans h.2.2.2.1, (World.cell?_setCell_far _ _ _ _ hnM_K).trans h.2.2.2.2.1, (World.cell?_setCell_far _ _ _ _ hnM_K).trans h.2.2.2.2.2⟩)
     have hbn1 : m1.toks.length + 1 ≤ maxLen := by unfold maxLen; omega
     have hbn2 : (m1.toks.length + 1) * 64 ≤ 140737488355328 := by omega
     have hOwX : (W.drew.alloc (.cells #[.string xn, .bool xl, .int .i64 q, .int .i64 0, .int .i64 0, .string ⟨#[]⟩] 52)).ownsRow B 52 6 (.slice ta m1.toks.length tc) m1.toks.length (m1.toks.flatMap tkC) := hOwL
     have xD : W.drew.cell? ⟨M, 0, none⟩ = some (.slice ta m1.toks.length tc) := xM
     have eA : (W.alloc (.cells #[.string xn, .bool xl, .int .i64 q, .int .i64 0, .int .i64 0, .string ⟨#[]⟩] 52)).cell? ⟨M, 0, none⟩ = some (.slice ta m1.toks.length tc) := eL
     generalize hXS : m1.toks.flatMap tkC = xs at hOwX
     generalize hNL : m1.toks.length = nl at *
     have hFi2 := Lib.hid hFi
     clear hO hOL hOw hOwL hFi hft
     refine wp_region_held_drew (S := (fun Xw => Xw.cell? ⟨K, 0, none⟩ = some (.string xn) ∧ Xw.cell? ⟨K, 1, none⟩ = some (.bool xl) ∧ Xw.cell? ⟨K, 2, none⟩ = some (.int .i64 q) ∧ Xw.cell? ⟨K, 3, none⟩ = some (.int .i64 0) ∧ Xw.cell? ⟨K, 4, none⟩ = some (.int .i64 0) ∧ Xw.cell? ⟨K, 5, none⟩ = some (.string ⟨#[]⟩))) (by kernel_rfl) ?hS0 (fun hHeld => ?hR0)
     case hS0 => exact hSW
     case hR0 =>
      refine tk 0 ?_
      try simp only [Act.put, gA, gB, gC, gD, gE, gF]
      refine tk 1 ?_
      try simp only [Act.put, gA, gB, gC, gD, gE, gF]
      refine tk 2 ?_
      try simp only [Act.put, gA, gB, gC, gD, gE, gF]
      refine tk 3 ?_
      try simp only [Act.put, gA, gB, gC, gD, gE, gF]
      refine tk 4 ?_
      try simp only [Act.put, gA, gB, gC, gD, gE, gF]
      refine tk 6 ?_
      try simp only [Act.put, gA, gB, gC, gD, gE, gF]
      refine wpAnyH_ready (rs := [5, 7]) (by kernel_rfl) (by simp) ?_
      refine AllReadyH.cons rfl (fun K hK => ?_) ?_
      · try simp only [gA, gB, gC]
        go_simp
        refine hK.out _ _ hSD (fun hHeld => ?_)
        clear hK K
        try simp only [Act.put, gA, gB, gC, gD, gE, gF]
        refine wpAnyH_ready (rs := [7]) (by kernel_rfl) (by simp) ?_
        refine AllReadyH.cons rfl (fun K hK => ?_) .nil
        try simp only [gA, gB, gC]
        go_simp
        refine hK.out _ _ hSL (fun hHeld => ?_)
        clear hK K
        try simp only [Act.put, gA, gB, gC, gD, gE, gF]
        refine wpAnyH_ready (rs := [8]) (by kernel_rfl) (by simp) ?_
        refine AllReadyH.cons rfl (fun K hK => ?_) .nil
        refine step_append_lies _ (by rfl) _ _ _ (by rfl) B 52 i0 (.agg #[.string ByteArray.empty, .bool false, .int .i64 0, .int .i64 0, .int .i64 0, .string ByteArray.empty]) 6 64 Try.underlying34 hi iz0 iz1 iz2 rfl (by omega) (.slice ta nl tc) nl xs (by rfl) hOwX ⟨W.heap.size, 0, none⟩ 1 1 [.string xn, .bool xl, .int .i64 q, .int .i64 0, .int .i64 0, .string ⟨#[]⟩] (by rfl) (by rfl) hnw (by simp [Value.oneCell']) (by omega) hbn1 hbn2 hBL (W.heap.size + 1) hzL ?_
        intro gg cap2 w5 hown5 hgrow5 hat hlt5
        have k5 := hS5.out w5 hgrow5
        have f5 : w5.cell? ⟨M, 0, none⟩ = _ := (hgrow5.cell eL hMn)
        have r5 : w5.frozen? ⟨M, 0, none⟩ = false := (hgrow5.frozen_far ⟨M, 0, none⟩ hMl hMn).trans frL
        refine hK.out _ _ k5 (fun hHeld => ?_)
        clear hK K
        try simp only [Act.put, gA, gB, gC, gD, gE, gF]
        refine tk 9 ?_
        try simp only [Act.put, gA, gB, gC, gD, gE, gF]
        refine tk 10 ?_
        try simp only [Act.put, gA, gB, gC, gD, gE, gF]
        refine tk 11 ?_
        try simp only [Act.put, gA, gB, gC, gD, gE, gF]
        refine wpAnyH_ready (rs := [12]) (by kernel_rfl) (by simp) ?_
        refine AllReadyH.cons rfl (fun K hK => ?_) .nil
        try simp only [gA, gB, gC]
        go_simp
        refine hK.out _ _ (hS6.out w5 _ k5) (fun hHeld => ?_)
        clear hK K
        try simp only [Act.put, gA, gB, gC, gD, gE, gF]
        refine wpAnyH_done (by kernel_rfl) ?_ _
        go_wp2_with fail
        go_meet
        case rel =>
         rw [← hXS] at hown5
         have hst := HOL.out.addTok (k := ⟨xn, xl, q, 0, 0, ⟨#[]⟩⟩) (y := .slice (some ⟨gg, 0, none⟩) (nl + 1) cap2) hgrow5 (by rw [hNL]; exact hown5) (hat.imp (fun e => e.symm) (fun e => by rw [e, hzL]; rfl))
         exact Step.via hFi2.out (Fr.of_below hbL) hst
      refine AllReadyH.cons rfl (fun K hK => ?_) .nil
      try simp only [gA, gB, gC]
      go_simp
      refine hK.out _ _ hSL (fun hHeld => ?_)
      clear hK K
      try simp only [Act.put, gA, gB, gC, gD, gE, gF]
      refine wpAnyH_ready (rs := [5]) (by kernel_rfl) (by simp) ?_
      refine AllReadyH.cons rfl (fun K hK => ?_) .nil
      try simp only [gA, gB, gC]
      go_simp
      refine hK.out _ _ hSL (fun hHeld => ?_)
      clear hK K
      try simp only [Act.put, gA, gB, gC, gD, gE, gF]
      refine wpAnyH_ready (rs := [8]) (by kernel_rfl) (by simp) ?_
      refine AllReadyH.cons rfl (fun K hK => ?_) .nil
      refine step_append_lies _ (by rfl) _ _ _ (by rfl) B 52 i0 (.agg #[.string ByteArray.empty, .bool false, .int .i64 0, .int .i64 0, .int .i64 0, .string ByteArray.empty]) 6 64 Try.underlying34 hi iz0 iz1 iz2 rfl (by omega) (.slice ta nl tc) nl xs (by rfl) hOwX ⟨W.heap.size, 0, none⟩ 1 1 [.string xn, .bool xl, .int .i64 q, .int .i64 0, .int .i64 0, .string ⟨#[]⟩] (by rfl) (by rfl) hnw (by simp [Value.oneCell']) (by omega) hbn1 hbn2 hBL (W.heap.size + 1) hzL ?_
      intro gg cap2 w5 hown5 hgrow5 hat hlt5
      have k5 := hS5.out w5 hgrow5
      have f5 : w5.cell? ⟨M, 0, none⟩ = _ := (hgrow5.cell eL hMn)
      have r5 : w5.frozen? ⟨M, 0, none⟩ = false := (hgrow5.frozen_far ⟨M, 0, none⟩ hMl hMn).trans frL
      refine hK.out _ _ k5 (fun hHeld => ?_)
      clear hK K
      try simp only [Act.put, gA, gB, gC, gD, gE, gF]
      refine tk 9 ?_
      try simp only [Act.put, gA, gB, gC, gD, gE, gF]
      refine tk 10 ?_
      try simp only [Act.put, gA, gB, gC, gD, gE, gF]
      refine tk 11 ?_
      try simp only [Act.put, gA, gB, gC, gD, gE, gF]
      refine wpAnyH_ready (rs := [12]) (by kernel_rfl) (by simp) ?_
      refine AllReadyH.cons rfl (fun K hK => ?_) .nil
      try simp only [gA, gB, gC]
      go_simp
      refine hK.out _ _ (hS6.out w5 _ k5) (fun hHeld => ?_)
      clear hK K
      try simp only [Act.put, gA, gB, gC, gD, gE, gF]
      refine wpAnyH_done (by kernel_rfl) ?_ _
      go_wp2_with fail
      go_meet
      case rel =>
       rw [← hXS] at hown5
       have hst := HOL.out.addTok (k := ⟨xn, xl, q, 0, 0, ⟨#[]⟩⟩) (y := .slice (some ⟨gg, 0, none⟩) (nl + 1) cap2) hgrow5 (by rw [hNL]; exact hown5) (hat.imp (fun e => e.symm) (fun e => by rw [e, hzL]; rfl))
       exact Step.via hFi2.out (Fr.of_below hbL) hst
    case rest =>
     obtain ⟨F2, hM2, hd2, hf2⟩ := hcut
     rename World => W2
     have hX3 := (hf2.block X (Array.getElem?_eq_some_iff.1 hX1).1 hFn_X).trans hX1
     have hXlt := (Array.getElem?_eq_some_iff.1 hX1).1
     have hFn2_X : ¬ F2 X := fun hF => (hd2 X hF).elim hFn_X (fun h => by omega)
     have hg2 : (m1.addTok ⟨xn, xl, q, 0, 0, ⟨#[]⟩⟩).given.length ≤ 1000000 := hg1
     have x1 : W2.cell? ⟨X, 1, none⟩ = some (.bool xl) := cell_of_row _ _ 1 _ _ _ hX3
     have htl : (m1.addTok ⟨xn, xl, q, 0, 0, ⟨#[]⟩⟩).toks.length = m1.toks.length + 1 := by simp [Mk.addTok]
     have hpush : m1.push ⟨xn, xl, q, 0, 0, ⟨#[]⟩⟩ xl = (m1.addTok ⟨xn, xl, q, 0, 0, ⟨#[]⟩⟩).addGiven xl := rfl
     generalize m1.addTok ⟨xn, xl, q, 0, 0, ⟨#[]⟩⟩ = m2 at *
     clear k0 k1 k2 k3 k4 k5 hK1
     go_upto_region 10 with fail
     go_cut [] from 48 to 58 (fun wx => Step W2 B M F2 S (m2.addGiven xl) wx)
     case first =>
      have hFn_X := hFn2_X
      obtain ⟨tv, pv, gv, yv, lv, ys, hFi, hO⟩ := hM2.opened
      have hOw := hO.1.own ⟨4, 1, gv, m2.given.length, m2.given.flatMap blC⟩ (by simp [mkRows])
      have hbL : Below W2.heap.size W2 (W2.drew.alloc (.cells #[.bool xl] 4)) := (Below.refl W2.heap.size W2).drew.alloc (Nat.le_refl _) _
      have hOL := hO.below hbL
      have hOwL := hOL.1.own ⟨4, 1, gv, m2.given.length, m2.given.flatMap blC⟩ (by simp [mkRows])
      have xM := hO.1.cell 5
      have eL := hOL.1.cell 5
      simp only [mkCells, List.getElem?_cons_succ, List.getElem?_cons_zero] at xM eL
      have frL := hOL.1.free 5
      have hMl := hOL.1.mlt
      have hMn : some M ≠ gv.ownBlock := fun e => hO.1.notM ⟨4, 1, gv, m2.given.length, m2.given.flatMap blC⟩ (by simp [mkRows]) e.symm
      have hft : ∀ b, gv.ownBlock = some b → F2 b := fun b hb => (hFi b).2 (.inr ⟨⟨4, 1, gv, m2.given.length, m2.given.flatMap blC⟩, by simp [mkRows], hb⟩)
      have HO := Lib.hid hO
      have HOL := Lib.hid hOL
      have hBL : B ≤ (W2.drew.alloc (.cells #[.bool xl] 4)).heap.size := Nat.le_trans hO.1.mB (by have := hOL.1.mlt; omega)
      have hzL : (W2.drew.alloc (.cells #[.bool xl] 4)).heap.size = W2.heap.size + 1 := World.size_alloc _ _
      have hnw : ∀ j u, ([.bool xl] : List Value)[j]? = some u → (W2.drew.alloc (.cells #[.bool xl] 4)).cell? ((⟨W2.heap.size, 0, none⟩ : Addr).add j) = some u := fun j u h => lit_cells W2.drew #[.bool xl] 4 j u h
      obtain ⟨i0, hi, iz0, iz1, iz2⟩ := info_parts Try.infoBool'
      obtain ⟨ta, tc, e0⟩ := own_slice hOw
      simp only at e0
      subst e0
      have hSW : W2.cell? ⟨X, 1, none⟩ = some (.bool xl) := x1
      have hSD : W2.drew.cell? ⟨X, 1, none⟩ = some (.bool xl) := hSW
      have hSL : (W2.drew.alloc (.cells #[.bool xl] 4)).cell? ⟨X, 1, none⟩ = some (.bool xl) := cell_up hbL hSW
      have hne_X : some X ≠ (Value.slice ta m2.given.length tc).ownBlock := fun e => hFn_X (hft X e.symm)
      have hnM_X : M ≠ X := fun e => hFn_X ((hFi X).2 (.inl e.symm))
      have hS5 : Hid (∀ w5, (W2.drew.alloc (.cells #[.bool xl] 4)).grownBy w5 (Value.slice ta m2.given.length tc).ownBlock → w5.cell? ⟨X, 1, none⟩ = some (.bool xl)) := Lib.hid (fun w5 hg => hg.cell hSL hne_X)
      have hS6 : Hid (∀ (w5 : World) (u : Value), (w5.cell? ⟨X, 1, none⟩ = some (.bool xl)) → (w5.setCell ⟨M, 5, none⟩ u).cell? ⟨X, 1, none⟩ = some (.bool xl)) := Lib.hid (fun w5 u h => (World.cell?_setCell_far _ _ _ _ hnM_X).trans h)
      have hbn1 : m2.given.length + 1 ≤ maxLen := by unfold maxLen; omega
      have hbn2 : (m2.given.length + 1) * 1 ≤ 140737488355328 := by omega
      have hOwX : (W2.drew.alloc (.cells #[.bool xl] 4)).ownsRow B 4 1 (.slice ta m2.given.length tc) m2.given.length (m2.given.flatMap blC) := hOwL
      have xD : W2.drew.cell? ⟨M, 5, none⟩ = some (.slice ta m2.given.length tc) := xM
      have eA : (W2.alloc (.cells #[.bool xl] 4)).cell? ⟨M, 5, none⟩ = some (.slice ta m2.given.length tc) := eL
      generalize hXS : m2.given.flatMap blC = xs at hOwX
      generalize hNL : m2.given.length = nl at *
      have hFi2 := Lib.hid hFi
      clear hO hOL hOw hOwL hFi hft
      refine wp_region_held_drew (S := (fun Xw => Xw.cell? ⟨X, 1, none⟩ = some (.bool xl))) (by kernel_rfl) ?hS0 (fun hHeld => ?hR0)
      case hS0 => exact hSW
      case hR0 =>
       refine tk 0 ?_
       try simp only [Act.put, gA, gB, gC, gD, gE, gF]
       refine tk 1 ?_
       try simp only [Act.put, gA, gB, gC, gD, gE, gF]
       refine tk 2 ?_
       try simp only [Act.put, gA, gB, gC, gD, gE, gF]
       refine tk 3 ?_
       try simp only [Act.put, gA, gB, gC, gD, gE, gF]
       refine tk 5 ?_
       try simp only [Act.put, gA, gB, gC, gD, gE, gF]
       refine tk 6 ?_
       try simp only [Act.put, gA, gB, gC, gD, gE, gF]
       refine wpAnyH_ready (rs := [4, 7]) (by kernel_rfl) (by simp) ?_
       refine AllReadyH.cons rfl (fun K hK => ?_) ?_
       · try simp only [gA, gB, gC]
         go_simp
         refine hK.out _ _ hSD (fun hHeld => ?_)
         clear hK K
         try simp only [Act.put, gA, gB, gC, gD, gE, gF]
         refine wpAnyH_ready (rs := [7]) (by kernel_rfl) (by simp) ?_
         refine AllReadyH.cons rfl (fun K hK => ?_) .nil
         try simp only [gA, gB, gC]
         go_simp
         refine hK.out _ _ hSL (fun hHeld => ?_)
         clear hK K
         try simp only [Act.put, gA, gB, gC, gD, gE, gF]
         refine wpAnyH_ready (rs := [8]) (by kernel_rfl) (by simp) ?_
         refine AllReadyH.cons rfl (fun K hK => ?_) .nil
         refine step_append_lies _ (by rfl) _ _ _ (by rfl) B 4 i0 (.bool false) 1 1 Try.underlying80 hi iz0 iz1 iz2 rfl (by omega) (.slice ta nl tc) nl xs (by rfl) hOwX ⟨W2.heap.size, 0, none⟩ 1 1 [.bool xl] (by rfl) (by rfl) hnw (by simp [Value.oneCell']) (by omega) hbn1 hbn2 hBL (W2.heap.size + 1) hzL ?_
         intro gg cap2 w5 hown5 hgrow5 hat hlt5
         have k5 := hS5.out w5 hgrow5
         have f5 : w5.cell? ⟨M, 5, none⟩ = _ := (hgrow5.cell eL hMn)
         have r5 : w5.frozen? ⟨M, 5, none⟩ = false := (hgrow5.frozen_far ⟨M, 5, none⟩ hMl hMn).trans frL
         refine hK.out _ _ k5 (fun hHeld => ?_)
         clear hK K
         try simp only [Act.put, gA, gB, gC, gD, gE, gF]
         refine tk 9 ?_
         try simp only [Act.put, gA, gB, gC, gD, gE, gF]
         refine tk 10 ?_
         try simp only [Act.put, gA, gB, gC, gD, gE, gF]
         refine wpAnyH_ready (rs := [11]) (by kernel_rfl) (by simp) ?_
         refine AllReadyH.cons rfl (fun K hK => ?_) .nil
         try simp only [gA, gB, gC]
         go_simp
         refine hK.out _ _ (hS6.out w5 _ k5) (fun hHeld => ?_)
         clear hK K
         try simp only [Act.put, gA, gB, gC, gD, gE, gF]
         refine wpAnyH_done (by kernel_rfl) ?_ _
         go_wp2_with fail
         go_meet
         case rel =>
          rw [← hXS] at hown5
          have hst := HOL.out.addGiven (k := xl) (y := .slice (some ⟨gg, 0, none⟩) (nl + 1) cap2) hgrow5 (by rw [hNL]; exact hown5) (hat.imp (fun e => e.symm) (fun e => by rw [e, hzL]; rfl))
          exact Step.via hFi2.out (Fr.of_below hbL) hst
       refine AllReadyH.cons rfl (fun K hK => ?_) .nil
       try simp only [gA, gB, gC]
       go_simp
       refine hK.out _ _ hSL (fun hHeld => ?_)
       clear hK K
       try simp only [Act.put, gA, gB, gC, gD, gE, gF]
       refine wpAnyH_ready (rs := [4]) (by kernel_rfl) (by simp) ?_
       refine AllReadyH.cons rfl (fun K hK => ?_) .nil
       try simp only [gA, gB, gC]
       go_simp
       refine hK.out _ _ hSL (fun hHeld => ?_)
       clear hK K
       try simp only [Act.put, gA, gB, gC, gD, gE, gF]
       refine wpAnyH_ready (rs := [8]) (by kernel_rfl) (by simp) ?_
       refine AllReadyH.cons rfl (fun K hK => ?_) .nil
       refine step_append_lies _ (by rfl) _ _ _ (by rfl) B 4 i0 (.bool false) 1 1 Try.underlying80 hi iz0 iz1 iz2 rfl (by omega) (.slice ta nl tc) nl xs (by rfl) hOwX ⟨W2.heap.size, 0, none⟩ 1 1 [.bool xl] (by rfl) (by rfl) hnw (by simp [Value.oneCell']) (by omega) hbn1 hbn2 hBL (W2.heap.size + 1) hzL ?_
       intro gg cap2 w5 hown5 hgrow5 hat hlt5
       have k5 := hS5.out w5 hgrow5
       have f5 : w5.cell? ⟨M, 5, none⟩ = _ := (hgrow5.cell eL hMn)
       have r5 : w5.frozen? ⟨M, 5, none⟩ = false := (hgrow5.frozen_far ⟨M, 5, none⟩ hMl hMn).trans frL
       refine hK.out _ _ k5 (fun hHeld => ?_)
       clear hK K
       try simp only [Act.put, gA, gB, gC, gD, gE, gF]
       refine tk 9 ?_
       try simp only [Act.put, gA, gB, gC, gD, gE, gF]
       refine tk 10 ?_
       try simp only [Act.put, gA, gB, gC, gD, gE, gF]
       refine wpAnyH_ready (rs := [11]) (by kernel_rfl) (by simp) ?_
       refine AllReadyH.cons rfl (fun K hK => ?_) .nil
       try simp only [gA, gB, gC]
       go_simp
       refine hK.out _ _ (hS6.out w5 _ k5) (fun hHeld => ?_)
       clear hK K
       try simp only [Act.put, gA, gB, gC, gD, gE, gF]
       refine wpAnyH_done (by kernel_rfl) ?_ _
       go_wp2_with fail
       go_meet
       case rel =>
        rw [← hXS] at hown5
        have hst := HOL.out.addGiven (k := xl) (y := .slice (some ⟨gg, 0, none⟩) (nl + 1) cap2) hgrow5 (by rw [hNL]; exact hown5) (hat.imp (fun e => e.symm) (fun e => by rw [e, hzL]; rfl))
        exact Step.via hFi2.out (Fr.of_below hbL) hst
     case rest =>
      obtain ⟨F3, hM3, hd3, hf3⟩ := hcut
      rename World => W3
      have hF13 : ∀ b, F3 b → F b ∨ w.heap.size ≤ b := fun b hb => (hd3 b hb).elim (fun h => (hd2 b h).elim (fun h => (hd1 b h).imp id (fun h => by have := hb4.size; omega)) (fun h => .inr (by have := hf1.size; have := hb4.size; omega))) (fun h => .inr (by have := hf2.size; have := hf1.size; have := hb4.size; omega))
      have hFr : Fr F w W3 := (((Fr.of_below (D := F) (by rw [hXe]; exact hb4)).trans hf1 (fun b hb => hb.elim .inl (fun e => .inr (by omega)))).trans hf2 (fun b hb => (hd1 b hb).elim .inl (fun h => .inr (by have := hb4.size; omega)))).trans hf3 (fun b hb => (hd2 b hb).elim (fun h => (hd1 b h).elim .inl (fun h => .inr (by have := hb4.size; omega))) (fun h => .inr (by have := hf1.size; have := hb4.size; omega)))
      have hlen : (m2.addGiven xl).toks.length = m.toks.length + 1 := by show m2.toks.length = _; rw [htl, s1]
      obtain ⟨tv, pv, gv, yv, lv, h1, _, _, _, h5⟩ := hM3.read
      obtain ⟨a, len, c, rfl, hl, hlc, hc, _⟩ := h1.open
      have x0 := h5 0
      simp only [mkCells, List.getElem?_cons_succ, List.getElem?_cons_zero] at x0
      have hle : len = m.toks.length + 1 := hl.out.trans hlen
      have HM3 := Lib.hid hM3
      clear hM3 h1 h5 hl
      generalize m.toks.length = tl at *
      subst hle
      go_wp2_with fail
      go_ret
      exact ⟨F3, by simp, HM3.out, hF13, hFr⟩
end Go.Proofs.Ytkgbifbbpmdpgaa
