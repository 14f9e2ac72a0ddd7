/- The maker's declare. -/
import Derived.Test.YtkgbifbbpmdpgaaNMkB
import Derived.IntWalk
import Derived.Lib.Strings
set_option linter.unusedVariables false
set_option linter.unusedSimpArgs false
namespace Go.Proofs.Ytkgbifbbpmdpgaa

open List renaming getElem_toArray → gA, getElem_cons_succ → gB, getElem_cons_zero → gC, setIfInBounds_toArray → gD, set_cons_zero → gE, set_cons_succ → gF
open Go.RowKit
variable {w W : World} {B M : Nat} {F S : Nat → Prop} {m : Mk}
theorem Try.infoNon' : (Try.prog.info? 106).map (fun i => (i.zero, i.size, i.bytes)) = some (some (.agg #[.string ByteArray.empty, .string ByteArray.empty]), 2, 32) := by kernel_rfl
theorem Mk.put_lens (m : Mk) (x : Sm) (hl : m.given.length = m.toks.length) : (∃ t : Nat, (m.put x).2 = t ∧ 1 ≤ t ∧ t < (m.put x).1.toks.length ∨ (m.put x).2 = t ∧ m.toks.length = 0 ∧ t = 0 ∧ t < (m.put x).1.toks.length) ∧ (m.put x).1.given.length = (m.put x).1.toks.length ∧ (m.put x).1.toks.length ≤ m.toks.length + 1 := by
 by_cases h : 0 ≤ m.tok x
 · rw [Mk.put_old h]
   unfold Mk.tok at h ⊢
   rcases firstN_lt (tokP m.toks x) m.toks.length 1 with e | ⟨k, e, h1, h2, _⟩
   · omega
   · exact ⟨⟨k, .inl ⟨e, h1, h2⟩⟩, hl, by simp⟩
 · rw [Mk.put_new h]
   obtain ⟨s1, s2, s3, _⟩ := m.failIf_same (x.lit && decide (0 ≤ m.owner (byte0 x.name))) x.pos x.name
   refine ⟨⟨m.toks.length, ?_⟩, ?_, ?_⟩
   · simp only [Mk.push, s1, List.length_append, List.length_singleton]
     rcases Nat.eq_zero_or_pos m.toks.length with e | e
     · exact .inr ⟨by simp, e, e, by omega⟩
     · exact .inl ⟨by simp, e, by omega⟩
   · simp only [Mk.push, s1, s3, List.length_append, List.length_singleton, hl]
   · simp only [Mk.push, s1, List.length_append, List.length_singleton]; omega
theorem Mk.typeOf_ge (m : Mk) (n : ByteArray) : m.typeOf n = -1 ∨ ∃ k : Nat, m.typeOf n = k ∧ k < m.types.length := by
 unfold Mk.typeOf
 rcases firstN_lt (typP m.types n) m.types.length 0 with e | ⟨k, e, _, h, _⟩
 · exact .inl e
 · exact .inr ⟨k, e, h⟩
theorem own_cons {w : World} {base : Nat} {e : TypeId} {size n : Nat} {v : Value} {xs : List Value} (h : w.ownsRow base e size v n xs) (hn : 0 < n) : ∃ g c, v = .slice (some ⟨g, 0, none⟩) n c := by
 obtain ⟨h1, h2⟩ := h
 rcases h2 with ⟨rfl, rfl⟩ | ⟨g, cap, cur, rfl, r⟩
 · omega
 · exact ⟨_, _, rfl⟩
def AtO (w0 : World) (B M : Nat) (F1 S : Nat → Prop) (m : Mk) (tv pv gv yv lv : Value) (ys : List Value) (wx : World) : Prop := MkO wx B M S m tv pv gv yv lv ys ∧ Fr F1 w0 wx
set_option maxRecDepth 100000 in
set_option maxHeartbeats 8000000 in
theorem declare_any (h : MkV w B M F S m) (dv : Value) (d : Dc) (hdv : DcV w dv d) (x : Sm) (hk : 1 ≤ d.kind ∧ d.kind ≤ 5) (hx : x.lit = true → 1 ≤ x.name.size) (hn : m.toks.length ≤ 900000) (hl : m.given.length = m.toks.length) (hty : m.types.length ≤ 1000000) :
  Calls Try.prog 44 #[.pointer (some ⟨M, 0, none⟩), dv, x.agg] w (Goes w B M F S (m.declare d x) (.tuple #[])) := by
 obtain ⟨sv, rfl, hsv⟩ := hdv
 obtain ⟨sa, sn, sc, rfl, _, _, _, _⟩ := hsv.open
 obtain ⟨xn, xl, xm, xp⟩ := x
 obtain ⟨dk, dt, ds, dp⟩ := d
 unfold Sm.agg
 simp only at hk hx ⊢
 have hb1 := ((Below.refl w.heap.size w).alloc (Nat.le_refl _) (.cells #[.int .i64 dk, .string dt, .slice sa sn sc, .int .i64 dp] 64)).alloc (by simp) (.cells #[.string xn, .bool xl, .int .i64 xm, .int .i64 xp] 68)
 have hD0 := heap_alloc_new w (.cells #[.int .i64 dk, .string dt, .slice sa sn sc, .int .i64 dp] 64)
 have hz0 : (w.alloc (.cells #[.int .i64 dk, .string dt, .slice sa sn sc, .int .i64 dp] 64)).heap.size = w.heap.size + 1 := World.size_alloc _ _
 have hX0 := heap_alloc_new (w.alloc (.cells #[.int .i64 dk, .string dt, .slice sa sn sc, .int .i64 dp] 64)) (.cells #[.string xn, .bool xl, .int .i64 xm, .int .i64 xp] 68)
 have hD1 := (Below.heap_alloc (w.alloc (.cells #[.int .i64 dk, .string dt, .slice sa sn sc, .int .i64 dp] 64)) (.cells #[.string xn, .bool xl, .int .i64 xm, .int .i64 xp] 68) w.heap.size (by rw [hz0]; omega)).trans hD0
 rw [hz0] at hX0
 have hz1 : ((w.alloc (.cells #[.int .i64 dk, .string dt, .slice sa sn sc, .int .i64 dp] 64)).alloc (.cells #[.string xn, .bool xl, .int .i64 xm, .int .i64 xp] 68)).heap.size = w.heap.size + 2 := by rw [World.size_alloc, hz0]
 have H1 := Lib.hid (h.below hb1)
 have hXF : ∀ b, F b ∨ S b → b < w.heap.size := fun b hb => (h.lt b hb).2
 have d0 := cell_of_row _ _ 0 _ _ _ hD1
 have x0 := cell_of_row _ _ 0 _ _ _ hX0
 have xw := cell_of_row _ _ 3 _ _ _ hX0
 go_enter Try.func44, Try.ntmps44
 go_upto_region 1 with fail
 have HD1 := Lib.hid hD1
 have HX1 := Lib.hid hX0
 clear h hD0 hX0 hD1 hz0
 generalize ((w.alloc (.cells #[.int .i64 dk, .string dt, .slice sa sn sc, .int .i64 dp] 64)).alloc (.cells #[.string xn, .bool xl, .int .i64 xm, .int .i64 xp] 68)) = w1 at *
 by_cases h5 : dk = 5
 · have HE : Hid (m.declare ⟨dk, dt, ds, dp⟩ ⟨xn, xl, xm, xp⟩ = m.dType dt ⟨xn, xl, xm, xp⟩) := Lib.hid (if_pos h5)
   have HT := Lib.hid (typeOf_any H1.out xn)
   subst h5
   have hg := m.typeOf_ge xn
   unfold Mk.dType at HE
   simp only at HE
   generalize hRM : m.declare ⟨5, dt, ds, dp⟩ ⟨xn, xl, xm, xp⟩ = RM at HE
   have HRM := Lib.hid hRM
   clear hRM
   generalize hTT : m.typeOf xn = T at HE HT hg
   go_upto_region 3 with (first | (go_at_call 49; refine HT.out.mono ?_; rintro e w2 ⟨rfl, hb2⟩))
   have H2 := H1.out.below hb2
   have hD2 := (hb2.block w.heap.size (Array.getElem?_eq_some_iff.1 HD1.out).1).trans HD1.out
   have hX2 := (hb2.block (w.heap.size + 1) (Array.getElem?_eq_some_iff.1 HX1.out).1).trans HX1.out
   have hb02 := hb1.trans (hb2.mono hb1.size)
   have hFn_D : ¬ F w.heap.size := fun hF => by have := hXF _ (.inl hF); omega
   have hFn_X : ¬ F (w.heap.size + 1) := fun hF => by have := hXF _ (.inl hF); omega
   clear H1 HD1 HX1 HT d0 x0 xw
   generalize hDD : w.heap.size = D at *
   generalize hXX : D + 1 = X at *
   have x0 : w2.cell? ⟨X, 0, none⟩ = some (.string xn) := cell_of_row _ _ 0 _ _ _ hX2
   have d1 : w2.cell? ⟨D, 1, none⟩ = some (.string dt) := cell_of_row _ _ 1 _ _ _ hD2
   rcases hg with hg | ⟨k, hg, hkl⟩
   · subst hg
     have hR := HE.out
     rw [if_pos (by decide)] at hR
     have hR2 : RM = m.addType ⟨xn, dt⟩ := hR
     subst hR2
     clear HE hR
     go_upto_region 4 with fail
     go_cut [] from 18 to 31 (fun wx => Step w2 B M F S (m.addType ⟨xn, dt⟩) wx)
     case first =>
      obtain ⟨tv, pv, gv, yv, lv, ys, hFi, hO⟩ := H2.opened
      have hOw := hO.1.own ⟨106, 2, yv, m.types.length, m.types.flatMap nnC⟩ (by simp [mkRows])
      have hbL : Below w2.heap.size w2 (w2.drew.alloc (.cells #[.string xn, .string dt] 106)) := (Below.refl w2.heap.size w2).drew.alloc (Nat.le_refl _) _
      have hOL := hO.below hbL
      have hOwL := hOL.1.own ⟨106, 2, yv, m.types.length, m.types.flatMap nnC⟩ (by simp [mkRows])
      have xM := hO.1.cell 6
      have eL := hOL.1.cell 6
      simp only [mkCells, List.getElem?_cons_succ, List.getElem?_cons_zero] at xM eL
      have frL := hOL.1.free 6
      have hMl := hOL.1.mlt
      have hMn : some M ≠ yv.ownBlock := fun e => hO.1.notM ⟨106, 2, yv, m.types.length, m.types.flatMap nnC⟩ (by simp [mkRows]) e.symm
      have hft : ∀ b, yv.ownBlock = some b → F b := fun b hb => (hFi b).2 (.inr ⟨⟨106, 2, yv, m.types.length, m.types.flatMap nnC⟩, by simp [mkRows], hb⟩)
      have HO := Lib.hid hO
      have HOL := Lib.hid hOL
      have hBL : B ≤ (w2.drew.alloc (.cells #[.string xn, .string dt] 106)).heap.size := Nat.le_trans hO.1.mB (by have := hOL.1.mlt; omega)
      have hzL : (w2.drew.alloc (.cells #[.string xn, .string dt] 106)).heap.size = w2.heap.size + 1 := World.size_alloc _ _
      have hnw : ∀ j u, ([.string xn, .string dt] : List Value)[j]? = some u → (w2.drew.alloc (.cells #[.string xn, .string dt] 106)).cell? ((⟨w2.heap.size, 0, none⟩ : Addr).add j) = some u := fun j u h => lit_cells w2.drew #[.string xn, .string dt] 106 j u h
      obtain ⟨i0, hi, iz0, iz1, iz2⟩ := info_parts Try.infoNon'
      obtain ⟨ta, tc, e0⟩ := own_slice hOw
      simp only at e0
      subst e0
      have hSW : w2.cell? ⟨X, 0, none⟩ = some (.string xn) ∧ w2.cell? ⟨D, 1, none⟩ = some (.string dt) := ⟨x0, d1⟩
      have hSD : w2.drew.cell? ⟨X, 0, none⟩ = some (.string xn) ∧ w2.drew.cell? ⟨D, 1, none⟩ = some (.string dt) := hSW
      have hSL : (w2.drew.alloc (.cells #[.string xn, .string dt] 106)).cell? ⟨X, 0, none⟩ = some (.string xn) ∧ (w2.drew.alloc (.cells #[.string xn, .string dt] 106)).cell? ⟨D, 1, none⟩ = some (.string dt) := ⟨cell_up hbL hSW.1, cell_up hbL hSW.2⟩
      have hne_D : some D ≠ (Value.slice ta m.types.length tc).ownBlock := fun e => hFn_D (hft D e.symm)
      have hne_X : some X ≠ (Value.slice ta m.types.length tc).ownBlock := fun e => hFn_X (hft X e.symm)
      have hnM_D : M ≠ D := fun e => hFn_D ((hFi D).2 (.inl e.symm))
      have hnM_X : M ≠ X := fun e => hFn_X ((hFi X).2 (.inl e.symm))
      have hS5 : Hid (∀ w5, (w2.drew.alloc (.cells #[.string xn, .string dt] 106)).grownBy w5 (Value.slice ta m.types.length tc).ownBlock → w5.cell? ⟨X, 0, none⟩ = some (.string xn) ∧ w5.cell? ⟨D, 1, none⟩ = some (.string dt)) := Lib.hid (fun w5 hg => ⟨hg.cell hSL.1 hne_X, hg.cell hSL.2 hne_D⟩)
      have hS6 : Hid (∀ (w5 : World) (u : Value), (w5.cell? ⟨X, 0, none⟩ = some (.string xn) ∧ w5.cell? ⟨D, 1, none⟩ = some (.string dt)) → (w5.setCell ⟨M, 6, none⟩ u).cell? ⟨X, 0, none⟩ = some (.string xn) ∧ (w5.setCell ⟨M, 6, none⟩ u).cell? ⟨D, 1, none⟩ = some (.string dt)) := Lib.hid (fun w5 u h => ⟨(World.cell?_setCell_far _ _ _ _ hnM_X).trans h.1, (World.cell?_setCell_far _ _ _ _ hnM_D).trans h.2⟩)
      have hbn1 : m.types.length + 1 ≤ maxLen := by unfold maxLen; omega
      have hbn2 : (m.types.length + 1) * 32 ≤ 140737488355328 := by omega
      have hOwX : (w2.drew.alloc (.cells #[.string xn, .string dt] 106)).ownsRow B 106 2 (.slice ta m.types.length tc) m.types.length (m.types.flatMap nnC) := hOwL
      have xD : w2.drew.cell? ⟨M, 6, none⟩ = some (.slice ta m.types.length tc) := xM
      have eA : (w2.alloc (.cells #[.string xn, .string dt] 106)).cell? ⟨M, 6, none⟩ = some (.slice ta m.types.length tc) := eL
      generalize hXS : m.types.flatMap nnC = xs at hOwX
      generalize hNL : m.types.length = nl at *
      have hFi2 := Lib.hid hFi
      clear hO hOL hOw hOwL hFi hft
      refine wp_region_held_drew (S := (fun Xw => Xw.cell? ⟨X, 0, none⟩ = some (.string xn) ∧ Xw.cell? ⟨D, 1, none⟩ = some (.string dt))) (by kernel_rfl) ?hS0 (fun hHeld => ?hR0)
      case hS0 => exact hSW
      case hR0 =>
       refine tk 0 ?_
       try simp only [Act.put, gA, gB, gC, gD, gE, gF]
       refine tk 1 ?_
       try simp only [Act.put, gA, gB, gC, gD, gE, gF]
       refine tk 2 ?_
       try simp only [Act.put, gA, gB, gC, gD, gE, gF]
       refine tk 3 ?_
       try simp only [Act.put, gA, gB, gC, gD, gE, gF]
       refine tk 5 ?_
       try simp only [Act.put, gA, gB, gC, gD, gE, gF]
       refine tk 6 ?_
       try simp only [Act.put, gA, gB, gC, gD, gE, gF]
       refine tk 7 ?_
       try simp only [Act.put, gA, gB, gC, gD, gE, gF]
       refine tk 8 ?_
       try simp only [Act.put, gA, gB, gC, gD, gE, gF]
       refine tk 9 ?_
       try simp only [Act.put, gA, gB, gC, gD, gE, gF]
       refine wpAnyH_ready (rs := [4, 10]) (by kernel_rfl) (by simp) ?_
       refine AllReadyH.cons rfl (fun K hK => ?_) ?_
       · try simp only [gA, gB, gC]
         go_simp
         refine hK.out _ _ hSD (fun hHeld => ?_)
         clear hK K
         try simp only [Act.put, gA, gB, gC, gD, gE, gF]
         refine wpAnyH_ready (rs := [10]) (by kernel_rfl) (by simp) ?_
         refine AllReadyH.cons rfl (fun K hK => ?_) .nil
         try simp only [gA, gB, gC]
         go_simp
         refine hK.out _ _ hSL (fun hHeld => ?_)
         clear hK K
         try simp only [Act.put, gA, gB, gC, gD, gE, gF]
         refine wpAnyH_ready (rs := [11]) (by kernel_rfl) (by simp) ?_
         refine AllReadyH.cons rfl (fun K hK => ?_) .nil
         refine step_append_lies _ (by rfl) _ _ _ (by rfl) B 106 i0 (.agg #[.string ByteArray.empty, .string ByteArray.empty]) 2 32 Try.underlying35 hi iz0 iz1 iz2 rfl (by omega) (.slice ta nl tc) nl xs (by rfl) hOwX ⟨w2.heap.size, 0, none⟩ 1 1 [.string xn, .string dt] (by rfl) (by rfl) hnw (by simp [Value.oneCell']) (by omega) hbn1 hbn2 hBL (w2.heap.size + 1) hzL ?_
         intro gg cap2 w5 hown5 hgrow5 hat hlt5
         have k5 := hS5.out w5 hgrow5
         have f5 : w5.cell? ⟨M, 6, none⟩ = _ := (hgrow5.cell eL hMn)
         have r5 : w5.frozen? ⟨M, 6, none⟩ = false := (hgrow5.frozen_far ⟨M, 6, none⟩ hMl hMn).trans frL
         refine hK.out _ _ k5 (fun hHeld => ?_)
         clear hK K
         try simp only [Act.put, gA, gB, gC, gD, gE, gF]
         refine tk 12 ?_
         try simp only [Act.put, gA, gB, gC, gD, gE, gF]
         refine tk 13 ?_
         try simp only [Act.put, gA, gB, gC, gD, gE, gF]
         refine wpAnyH_ready (rs := [14]) (by kernel_rfl) (by simp) ?_
         refine AllReadyH.cons rfl (fun K hK => ?_) .nil
         try simp only [gA, gB, gC]
         go_simp
         refine hK.out _ _ (hS6.out w5 _ k5) (fun hHeld => ?_)
         clear hK K
         try simp only [Act.put, gA, gB, gC, gD, gE, gF]
         refine wpAnyH_done (by kernel_rfl) ?_ _
         go_wp2_with fail
         go_meet
         case rel =>
          rw [← hXS] at hown5
          have hst := HOL.out.addType (k := ⟨xn, dt⟩) (y := .slice (some ⟨gg, 0, none⟩) (nl + 1) cap2) hgrow5 (by rw [hNL]; exact hown5) (hat.imp (fun e => e.symm) (fun e => by rw [e, hzL]; rfl))
          exact Step.via hFi2.out (Fr.of_below hbL) hst
       refine AllReadyH.cons rfl (fun K hK => ?_) .nil
       try simp only [gA, gB, gC]
       go_simp
       refine hK.out _ _ hSL (fun hHeld => ?_)
       clear hK K
       try simp only [Act.put, gA, gB, gC, gD, gE, gF]
       refine wpAnyH_ready (rs := [4]) (by kernel_rfl) (by simp) ?_
       refine AllReadyH.cons rfl (fun K hK => ?_) .nil
       try simp only [gA, gB, gC]
       go_simp
       refine hK.out _ _ hSL (fun hHeld => ?_)
       clear hK K
       try simp only [Act.put, gA, gB, gC, gD, gE, gF]
       refine wpAnyH_ready (rs := [11]) (by kernel_rfl) (by simp) ?_
       refine AllReadyH.cons rfl (fun K hK => ?_) .nil
       refine step_append_lies _ (by rfl) _ _ _ (by rfl) B 106 i0 (.agg #[.string ByteArray.empty, .string ByteArray.empty]) 2 32 Try.underlying35 hi iz0 iz1 iz2 rfl (by omega) (.slice ta nl tc) nl xs (by rfl) hOwX ⟨w2.heap.size, 0, none⟩ 1 1 [.string xn, .string dt] (by rfl) (by rfl) hnw (by simp [Value.oneCell']) (by omega) hbn1 hbn2 hBL (w2.heap.size + 1) hzL ?_
       intro gg cap2 w5 hown5 hgrow5 hat hlt5
       have k5 := hS5.out w5 hgrow5
       have f5 : w5.cell? ⟨M, 6, none⟩ = _ := (hgrow5.cell eL hMn)
       have r5 : w5.frozen? ⟨M, 6, none⟩ = false := (hgrow5.frozen_far ⟨M, 6, none⟩ hMl hMn).trans frL
       refine hK.out _ _ k5 (fun hHeld => ?_)
       clear hK K
       try simp only [Act.put, gA, gB, gC, gD, gE, gF]
       refine tk 12 ?_
       try simp only [Act.put, gA, gB, gC, gD, gE, gF]
       refine tk 13 ?_
       try simp only [Act.put, gA, gB, gC, gD, gE, gF]
       refine wpAnyH_ready (rs := [14]) (by kernel_rfl) (by simp) ?_
       refine AllReadyH.cons rfl (fun K hK => ?_) .nil
       try simp only [gA, gB, gC]
       go_simp
       refine hK.out _ _ (hS6.out w5 _ k5) (fun hHeld => ?_)
       clear hK K
       try simp only [Act.put, gA, gB, gC, gD, gE, gF]
       refine wpAnyH_done (by kernel_rfl) ?_ _
       go_wp2_with fail
       go_meet
       case rel =>
        rw [← hXS] at hown5
        have hst := HOL.out.addType (k := ⟨xn, dt⟩) (y := .slice (some ⟨gg, 0, none⟩) (nl + 1) cap2) hgrow5 (by rw [hNL]; exact hown5) (hat.imp (fun e => e.symm) (fun e => by rw [e, hzL]; rfl))
        exact Step.via hFi2.out (Fr.of_below hbL) hst
     case rest =>
      obtain ⟨F2, hM2, hd2, hf2⟩ := hcut
      go_wp2_with fail
      (try simp only [Exit.inBlock, Exit.then])
      refine bodyPost_ret (results_none rfl _ _ _) rfl ?_
      rw [HRM.out]
      exact ⟨F2, rfl, hM2, fun b hb => (hd2 b hb).imp id (fun h => by have := hb02.size; omega), (Fr.of_below (by rw [hDD]; exact hb02)).trans hf2 (fun b hb => .inl hb)⟩
   · subst hg
     have hR := HE.out
     rw [if_neg (by omega), Int.toNat_natCast] at hR
     have x3 : w2.cell? ⟨X, 3, none⟩ = some (.int .i64 xp) := cell_of_row _ _ 3 _ _ _ hX2
     obtain ⟨tv, pv, gv, yv, lv, h1, _, h3, _, h5⟩ := H2.read
     obtain ⟨a, len, c, rfl, hln, hlc, hc, hxs⟩ := h3.open
     obtain ⟨b, o, rfl, _, y1⟩ := hxs.out k (by rw [hln.out]; exact hkl)
     have m6 := h5 6
     simp only [mkCells, List.getElem?_cons_succ, List.getElem?_cons_zero] at m6
     have i1 : (k : Int) < (len : Int) := by rw [hln.out]; omega
     have i2 : ¬ (k : Int) < 0 := by omega
     generalize (m.types.getD k noNn).tag = tg at y1 hR
     have HFl := Lib.hid (fun V (hV : Below w2.heap.size w2 V) => fail_any (H2.below hV) xp xn)
     have HH2 := Lib.hid H2
     have HX2 := Lib.hid hX2
     clear H2 h1 h3 h5 hxs hD2 hX2 HE hn hl hty hk hsv hx hb1 hz1 hXF hFn_D hFn_X hb2 hkl
     cases hq : eqB tg dt with
     | true =>
       have q0 : (tg.toList == dt.toList) = true := hq
       have q1 : (tg.toList != dt.toList) = false := by show (!(tg.toList == dt.toList)) = false; rw [show (tg.toList == dt.toList) = true from hq]; rfl
       rw [hq] at hR
       have hR2 : RM = m := hR
       clear hR
       subst hR2
       go_wp2_with fail
       go_quiet (fail)
       go_wp2_with fail
       (try simp only [Exit.inBlock, Exit.then])
       refine bodyPost_ret (results_none rfl _ _ _) rfl ?_
       rw [HRM.out]
       exact Goes.same' (HH2.out.below (Go.below_drewN (Below.refl _ _) _)) (Go.below_drewN (by rw [hDD]; exact hb02) _)
     | false =>
       have q0 : (tg.toList == dt.toList) = false := hq
       have q1 : (tg.toList != dt.toList) = true := by show (!(tg.toList == dt.toList)) = true; rw [show (tg.toList == dt.toList) = false from hq]; rfl
       rw [hq] at hR
       have hR2 : RM = m.fail xp xn := hR
       clear hR
       subst hR2
       have x0' := x0
       go_upto_region 5 with fail
       go_quiet (fail)
       go_wp2_with (first | (go_at_call 45; refine (HFl.out _ (Go.below_drewN (Below.refl _ _) _)).mono ?_; rintro e w7 ⟨F7, rfl, hM7, hd7, hf7⟩))
       (try simp only [Exit.inBlock, Exit.then])
       refine bodyPost_ret (results_none rfl _ _ _) rfl ?_
       rw [HRM.out]
       exact ⟨F7, rfl, hM7, fun b hb => (hd7 b hb).imp id (fun h => by have := hb02.size; exact Nat.le_trans this h), (Fr.of_below (Go.below_drewN (by rw [hDD]; exact hb02) _)).trans hf7 (fun b hb => .inl hb)⟩
 · have HE : Hid (m.declare ⟨dk, dt, ds, dp⟩ ⟨xn, xl, xm, xp⟩ = ((((m.put ⟨xn, xl, xm, xp⟩).1.dLevel dk ⟨xn, xl, xm, xp⟩ (m.put ⟨xn, xl, xm, xp⟩).2.toNat).dNum ⟨xn, xl, xm, xp⟩ (m.put ⟨xn, xl, xm, xp⟩).2.toNat).dTag dt ⟨xn, xl, xm, xp⟩ (m.put ⟨xn, xl, xm, xp⟩).2.toNat)) := Lib.hid (if_neg h5)
   have HP := Lib.hid (put_any H1.out ⟨xn, xl, xm, xp⟩ hx (by omega) (by omega))
   obtain ⟨ht, hgl, htl⟩ := m.put_lens ⟨xn, xl, xm, xp⟩ hl
   generalize hRM : m.declare ⟨dk, dt, ds, dp⟩ ⟨xn, xl, xm, xp⟩ = RM at HE
   have HRM := Lib.hid hRM
   clear hRM
   generalize (m.put ⟨xn, xl, xm, xp⟩).1 = m1 at HE HP ht hgl htl
   generalize (m.put ⟨xn, xl, xm, xp⟩).2 = T at HE HP ht
   have ht2 : ∃ t : Nat, T = t ∧ t < m1.toks.length := by
    obtain ⟨t, h | h⟩ := ht
    · exact ⟨t, h.1, h.2.2⟩
    · exact ⟨t, h.1, h.2.2.2⟩
   obtain ⟨t, rfl, htn⟩ := ht2
   rw [Int.toNat_natCast] at HE
   unfold Sm.agg at HP
   simp only at HP
   have x1 := cell_of_row _ _ 1 _ _ _ HX1.out
   have x2 := cell_of_row _ _ 2 _ _ _ HX1.out
   have h5b : (dk == 5) = false := by simpa using h5
   clear ht hn hty
   go_upto_region 8 with (first | (go_at_call 57; refine HP.out.mono ?_; rintro e w2 ⟨F1, rfl, hM, hdF, hfr⟩))
   have hFDX : ∀ b, F1 b → b ≠ w.heap.size ∧ b ≠ w.heap.size + 1 := fun b hb => (hdF b hb).elim (fun h => by have := hXF b (.inl h); omega) (fun h => by omega)
   have hD2 := (hfr.block w.heap.size (by omega) (fun hF => by have := hXF _ (.inl hF); omega)).trans HD1.out
   have hX2 := (hfr.block (w.heap.size + 1) (by omega) (fun hF => by have := hXF _ (.inl hF); omega)).trans HX1.out
   clear d0 x0 xw x1 x2 HP H1 HD1 HX1
   obtain ⟨tv, pv, gv, yv, lv, ys, hFi, hO⟩ := hM.opened
   obtain ⟨g, c, e0⟩ := own_cons (hO.1.own ⟨52, 6, tv, m1.toks.length, m1.toks.flatMap tkC⟩ (by simp [mkRows])) (by simp only; omega)
   obtain ⟨h, c2, e1⟩ := own_cons (hO.1.own ⟨4, 1, gv, m1.given.length, m1.given.flatMap blC⟩ (by simp [mkRows])) (by simp only; omega)
   simp only at e0 e1
   rw [hgl] at e1
   subst e0 e1
   generalize hNL : m1.toks.length = n at *
   have t0 := hO.1.cell 0
   simp only [mkCells, List.getElem?_cons_succ, List.getElem?_cons_zero] at t0
   have i1 : (t : Int) < (n : Int) := by omega
   have HFt : Hid (∀ b, (b = M ∨ b = g ∨ b = h) → F1 b) := Lib.hid (fun b hb => (hFi b).2 (hb.elim .inl (fun hb => .inr (hb.elim (fun e => ⟨⟨52, 6, (.slice (some ⟨g, 0, none⟩) n c), m1.toks.length, m1.toks.flatMap tkC⟩, by simp [mkRows], by rw [e]; rfl⟩) (fun e => ⟨⟨4, 1, (.slice (some ⟨h, 0, none⟩) n c2), m1.given.length, m1.given.flatMap blC⟩, by simp [mkRows], by rw [e]; rfl⟩)))))
   have HO := Lib.hid hO
   have HFi := Lib.hid hFi
   have HD := Lib.hid (fun V (hV : Fr F1 w2 V) => (hV.block w.heap.size (Array.getElem?_eq_some_iff.1 hD2).1 (fun hF => (hFDX _ hF).1 rfl)).trans hD2)
   have HX := Lib.hid (fun V (hV : Fr F1 w2 V) => (hV.block (w.heap.size + 1) (Array.getElem?_eq_some_iff.1 hX2).1 (fun hF => (hFDX _ hF).2 rfl)).trans hX2)
   have HGo := Lib.hid (fun (m' : Mk) V (hV : Fr F1 w2 V) (ha : MkO V B M S m' (.slice (some ⟨g, 0, none⟩) n c) pv (.slice (some ⟨h, 0, none⟩) n c2) yv lv ys) => (⟨_, rfl, ha.shut, fun b hb => (hdF b ((hFi b).2 ((foot_same ..).1 hb))).imp id (fun h => by have := hb1.size; omega), ((Fr.of_below (D := F) hb1).trans hfr (fun b hb => .inl hb)).trans hV (fun b hb => (hdF b hb).imp id (fun h => by have := hb1.size; omega))⟩ : Goes w B M F S m' (.tuple #[]) (.returned (.tuple #[])) V))
   clear hO hFi hM hFDX hXF hdF hfr hb1 hz1 hsv hx hgl htl
   have d0 : w2.cell? ⟨w.heap.size, 0, none⟩ = some (.int .i64 dk) := cell_of_row _ _ 0 _ _ _ hD2
   go_upto_if 61 with fail
   go_cut [] from 61 to 85 (fun wx => AtO w2 B M F1 S (m1.dLevel dk ⟨xn, xl, xm, xp⟩ t) (.slice (some ⟨g, 0, none⟩) n c) pv (.slice (some ⟨h, 0, none⟩) n c2) yv lv ys wx)
   case first =>
    by_cases h1 : dk = 1
    · have HE1 : Hid (m1.dLevel dk ⟨xn, xl, xm, xp⟩ t = m1) := Lib.hid (if_pos h1)
      subst h1
      go_wp2_with fail
      go_meet
      case rel => exact ⟨by rw [HE1.out]; exact HO.out, Fr.refl _ _⟩
    · have hq1 : (dk == 1) = false := by simpa using h1
      have hq2 : (dk != 1) = true := by simp [bne, hq1]
      have HE0 : m1.dLevel dk ⟨xn, xl, xm, xp⟩ t = (m1.failIf (decide (0 < (m1.toks.getD t noTk).level)) xp xn).setTok t (fun q => { q with level := m1.level, assoc := dk - 1 }) := if_neg h1
      have l3 : w2.cell? ⟨g, t * 6 + 3, none⟩ = some (.int .i64 (m1.toks.getD t noTk).level) := HO.out.tokAt (j := 3) htn (by omega)
      have x0 : w2.cell? ⟨w.heap.size + 1, 0, none⟩ = some (.string xn) := cell_of_row _ _ 0 _ _ _ hX2
      have x3 : w2.cell? ⟨w.heap.size + 1, 3, none⟩ = some (.int .i64 xp) := cell_of_row _ _ 3 _ _ _ hX2
      have HFl := Lib.hid (fail_open HO.out xp xn)
      generalize hlvl : (m1.toks.getD t noTk).level = L at *
      by_cases hlv : 0 < L
      · have HE1 := HE0
        rw [show decide (0 < L) = true by simpa using hlv] at HE1
        have HE1 := Lib.hid HE1
        have i5 : L > 0 := hlv
        go_upto_region 12 with (first | (go_at_call 45; refine HFl.out.mono ?_; rintro e w7 ⟨rfl, hO7, hf7⟩))
        have hF7 : Fr F1 w2 w7 := (Fr.refl F1 w2).trans hf7 (fun b hb => .inl (HFt.out b (.inl hb)))
        have hlev : (m1.fail xp xn).level = m1.level := (m1.fail_same xp xn).2.2.2.2.2.1
        have HE1 : Hid (m1.dLevel dk ⟨xn, xl, xm, xp⟩ t = (m1.fail xp xn).setTok t (fun q => { q with level := (m1.fail xp xn).level, assoc := dk - 1 })) := Lib.hid (by rw [HE1.out, hlev]; rfl)
        clear hlev HE0
        have q11 : w7.cell? ⟨M, 11, none⟩ = some (.int .i64 (m1.fail xp xn).level) := by have := hO7.1.cell 11; simpa [mkCells] using this
        have q3 : w7.cell? ⟨g, t * 6 + 3, none⟩ = some (.int .i64 ((m1.fail xp xn).toks.getD t noTk).level) := hO7.tokAt (j := 3) htn (by omega)
        have q4 : w7.cell? ⟨g, t * 6 + 4, none⟩ = some (.int .i64 ((m1.fail xp xn).toks.getD t noTk).assoc) := hO7.tokAt (j := 4) htn (by omega)
        have hwr : IntKind.i64.wrap (dk - 1) = dk - 1 := IntWalk.i64_in _ ⟨by omega, by omega⟩
        generalize ((m1.fail xp xn).toks.getD t noTk).level = z3 at q3
        generalize ((m1.fail xp xn).toks.getD t noTk).assoc = z4 at q4
        have r3 := hO7.tokFree (t * 6 + 3)
        have r4 := hO7.tokFree (t * 6 + 4)
        have qd : w7.cell? ⟨w.heap.size, 0, none⟩ = some (.int .i64 dk) := cell_of_row _ _ 0 _ _ _ (HD.out _ hF7)
        go_upto_region 12 with fail
        go_region
        go_wp2_with fail
        go_meet
        case rel =>
         have hs := (hO7.below (Below.refl _ _).drew).setLevel htn (m1.fail xp xn).level (dk - 1)
         exact ⟨by rw [HE1.out]; exact hs.1, hF7.trans ((Fr.drew _).trans hs.2 (fun b hb => .inl hb)) (fun b hb => .inl (HFt.out b (.inr (.inl hb))))⟩
      · have HE1 : Hid (m1.dLevel dk ⟨xn, xl, xm, xp⟩ t = m1.setTok t (fun q => { q with level := m1.level, assoc := dk - 1 })) := Lib.hid (by rw [HE0, show decide (0 < L) = false by simpa using hlv]; rfl)
        have i5 : ¬ L > 0 := hlv
        clear HE0
        have hO7 := HO.out
        have hF7 := Fr.refl F1 w2
        have q11 : w2.cell? ⟨M, 11, none⟩ = some (.int .i64 (m1).level) := by have := hO7.1.cell 11; simpa [mkCells] using this
        have q3 : w2.cell? ⟨g, t * 6 + 3, none⟩ = some (.int .i64 ((m1).toks.getD t noTk).level) := hO7.tokAt (j := 3) htn (by omega)
        have q4 : w2.cell? ⟨g, t * 6 + 4, none⟩ = some (.int .i64 ((m1).toks.getD t noTk).assoc) := hO7.tokAt (j := 4) htn (by omega)
        have hwr : IntKind.i64.wrap (dk - 1) = dk - 1 := IntWalk.i64_in _ ⟨by omega, by omega⟩
        generalize ((m1).toks.getD t noTk).level = z3 at q3
        generalize ((m1).toks.getD t noTk).assoc = z4 at q4
        have r3 := hO7.tokFree (t * 6 + 3)
        have r4 := hO7.tokFree (t * 6 + 4)
        have qd : w2.cell? ⟨w.heap.size, 0, none⟩ = some (.int .i64 dk) := cell_of_row _ _ 0 _ _ _ (HD.out _ hF7)
        go_upto_region 12 with fail
        go_region
        go_wp2_with fail
        go_meet
        case rel =>
         have hs := (hO7.below (Below.refl _ _).drew).setLevel htn (m1).level (dk - 1)
         exact ⟨by rw [HE1.out]; exact hs.1, hF7.trans ((Fr.drew _).trans hs.2 (fun b hb => .inl hb)) (fun b hb => .inl (HFt.out b (.inr (.inl hb))))⟩
   case rest =>
    obtain ⟨hO3, hF3⟩ := hcut
    rename World => W3
    clear hD2 hX2 d0 t0
    generalize m1.dLevel dk ⟨xn, xl, xm, xp⟩ t = m2 at HE hO3
    have x2 : W3.cell? ⟨w.heap.size + 1, 2, none⟩ = some (.int .i64 xm) := cell_of_row _ _ 2 _ _ _ (HX.out _ hF3)
    clear HO
    go_upto_if 88 with fail
    go_cut [] from 88 to 123 (fun wx => AtO w2 B M F1 S (m2.dNum ⟨xn, xl, xm, xp⟩ t) (.slice (some ⟨g, 0, none⟩) n c) pv (.slice (some ⟨h, 0, none⟩) n c2) yv lv ys wx)
    case first =>
     by_cases hm : 0 < xm
     · have i7 : xm > 0 := hm
       have HE0 : m2.dNum ⟨xn, xl, xm, xp⟩ t = ((m2.failIf ((t == 1) || (m2.given.getD t false || decide (0 ≤ m2.owner xm))) xp xn).setTok t (fun q => { q with num := xm })).setGiven t := if_pos hm
       have x0 : W3.cell? ⟨w.heap.size + 1, 0, none⟩ = some (.string xn) := cell_of_row _ _ 0 _ _ _ (HX.out _ hF3)
       have x3 : W3.cell? ⟨w.heap.size + 1, 3, none⟩ = some (.int .i64 xp) := cell_of_row _ _ 3 _ _ _ (HX.out _ hF3)
       have m5 : W3.cell? ⟨M, 5, none⟩ = some (.slice (some ⟨h, 0, none⟩) n c2) := by have := hO3.1.cell 5; simpa [mkCells] using this
       have g0 := (hO3.givenAt htn).1
       have HFl := Lib.hid (fun V (hV : Below W3.heap.size W3 V) => fail_open (hO3.below hV) xp xn)
       have HOw := Lib.hid (owner_any hO3.shut xm)
       have HO3 := Lib.hid hO3
       clear hO3
       by_cases ht1 : t = 1
       · have hbq : ((t : Int) == 1) = true := by simp; omega
         have EB : ((t == 1) || (m2.given.getD t false || decide (0 ≤ m2.owner xm))) = true := by rw [show (t == 1) = true by simpa using ht1]; rfl
         clear ht1
         have HE1 : Hid (m2.dNum ⟨xn, xl, xm, xp⟩ t = ((m2.fail xp xn).setTok t (fun k => { k with num := xm })).setGiven t) := Lib.hid (by rw [HE0, EB]; rfl)
         clear HE0
         go_upto_region 16 with (first | (go_at_call 45; refine (HFl.out _ (Below.refl _ _)).mono ?_; rintro e w7 ⟨rfl, hO7, hf7⟩))
         have hF7 : Fr F1 w2 w7 := hF3.trans hf7 (fun b hb => .inl (HFt.out b (.inl hb)))
         have q2 : w7.cell? ⟨g, t * 6 + 2, none⟩ = some (.int .i64 ((m2.fail xp xn).toks.getD t noTk).num) := hO7.tokAt (j := 2) htn (by omega)
         have r2 := hO7.tokFree (t * 6 + 2)
         have qx : w7.cell? ⟨w.heap.size + 1, 2, none⟩ = some (.int .i64 xm) := cell_of_row _ _ 2 _ _ _ (HX.out _ hF7)
         have hs := hO7.setNum htn xm
         have hFs := hF7.trans hs.2 (fun b hb => .inl (HFt.out b (.inr (.inl hb))))
         have HS := Lib.hid hs.1
         have q5 : (w7.setCell ⟨g, t * 6 + 2, none⟩ (.int .i64 xm)).cell? ⟨M, 5, none⟩ = some (.slice (some ⟨h, 0, none⟩) n c2) := by have := hs.1.1.cell 5; simpa [mkCells] using this
         obtain ⟨g1, g2⟩ := hs.1.givenAt htn
         generalize ((m2.fail xp xn).setTok t (fun k => { k with num := xm })).given.getD t false = z7 at g1
         generalize ((m2.fail xp xn).toks.getD t noTk).num = z2 at q2
         clear hs
         go_upto_region 17 with fail
         generalize (w7.setCell ⟨g, t * 6 + 2, none⟩ (.int .i64 xm)) = ws at *
         go_wp2_with fail
         go_meet
         case rel =>
          have hs2 := HS.out.setGiven htn
          exact ⟨by rw [HE1.out]; exact hs2.1, hFs.trans hs2.2 (fun b hb => .inl (HFt.out b (.inr (.inr hb))))⟩
       · have hbq : ((t : Int) == 1) = false := by simp; omega
         have ebt : (t == 1) = false := by simpa using ht1
         have i8 : ¬ (t : Int) = 1 := by omega
         clear ht1
         cases hgv : m2.given.getD t false with
         | true =>
           rw [hgv] at g0
           have EB : ((t == 1) || (m2.given.getD t false || decide (0 ≤ m2.owner xm))) = true := by rw [ebt, hgv]; rfl
           clear hgv
           have HE1 : Hid (m2.dNum ⟨xn, xl, xm, xp⟩ t = ((m2.fail xp xn).setTok t (fun k => { k with num := xm })).setGiven t) := Lib.hid (by rw [HE0, EB]; rfl)
           clear HE0
           go_upto_region 16 with (first | (go_at_call 45; refine (HFl.out _ (Below.refl _ _)).mono ?_; rintro e w7 ⟨rfl, hO7, hf7⟩))
           have hF7 : Fr F1 w2 w7 := hF3.trans hf7 (fun b hb => .inl (HFt.out b (.inl hb)))
           have q2 : w7.cell? ⟨g, t * 6 + 2, none⟩ = some (.int .i64 ((m2.fail xp xn).toks.getD t noTk).num) := hO7.tokAt (j := 2) htn (by omega)
           have r2 := hO7.tokFree (t * 6 + 2)
           have qx : w7.cell? ⟨w.heap.size + 1, 2, none⟩ = some (.int .i64 xm) := cell_of_row _ _ 2 _ _ _ (HX.out _ hF7)
           have hs := hO7.setNum htn xm
           have hFs := hF7.trans hs.2 (fun b hb => .inl (HFt.out b (.inr (.inl hb))))
           have HS := Lib.hid hs.1
           have q5 : (w7.setCell ⟨g, t * 6 + 2, none⟩ (.int .i64 xm)).cell? ⟨M, 5, none⟩ = some (.slice (some ⟨h, 0, none⟩) n c2) := by have := hs.1.1.cell 5; simpa [mkCells] using this
           obtain ⟨g1, g2⟩ := hs.1.givenAt htn
           generalize ((m2.fail xp xn).setTok t (fun k => { k with num := xm })).given.getD t false = z7 at g1
           generalize ((m2.fail xp xn).toks.getD t noTk).num = z2 at q2
           clear hs
           go_upto_region 17 with fail
           generalize (w7.setCell ⟨g, t * 6 + 2, none⟩ (.int .i64 xm)) = ws at *
           go_wp2_with fail
           go_meet
           case rel =>
            have hs2 := HS.out.setGiven htn
            exact ⟨by rw [HE1.out]; exact hs2.1, hFs.trans hs2.2 (fun b hb => .inl (HFt.out b (.inr (.inr hb))))⟩
         | false =>
           rw [hgv] at g0
           have hob := m2.owner_ge xm
           have EB0 : ((t == 1) || (m2.given.getD t false || decide (0 ≤ m2.owner xm))) = decide (0 ≤ m2.owner xm) := by rw [ebt, hgv]; rfl
           generalize m2.owner xm = O at *
           clear hgv
           by_cases ho : 0 ≤ O
           · have EB : ((t == 1) || (m2.given.getD t false || decide (0 ≤ O))) = true := by rw [EB0]; simpa using ho
             have i9 : O ≥ 0 := ho
             clear EB0
             go_upto_if 106 with (first | (go_at_call 58; refine HOw.out.mono ?_; rintro e w6 ⟨rfl, hb6⟩))
             have hF6 := hF3.trans (Fr.of_below (D := F1) hb6) (fun b hb => .inl hb)
             have x0 : w6.cell? ⟨w.heap.size + 1, 0, none⟩ = some (.string xn) := cell_of_row _ _ 0 _ _ _ (HX.out _ hF6)
             have x3 : w6.cell? ⟨w.heap.size + 1, 3, none⟩ = some (.int .i64 xp) := cell_of_row _ _ 3 _ _ _ (HX.out _ hF6)
             have HE1 : Hid (m2.dNum ⟨xn, xl, xm, xp⟩ t = ((m2.fail xp xn).setTok t (fun k => { k with num := xm })).setGiven t) := Lib.hid (by rw [HE0, EB]; rfl)
             clear HE0
             go_upto_region 16 with (first | (go_at_call 45; refine (HFl.out _ hb6).mono ?_; rintro e w7 ⟨rfl, hO7, hf7⟩))
             have hF7 : Fr F1 w2 w7 := hF6.trans hf7 (fun b hb => .inl (HFt.out b (.inl hb)))
             have q2 : w7.cell? ⟨g, t * 6 + 2, none⟩ = some (.int .i64 ((m2.fail xp xn).toks.getD t noTk).num) := hO7.tokAt (j := 2) htn (by omega)
             have r2 := hO7.tokFree (t * 6 + 2)
             have qx : w7.cell? ⟨w.heap.size + 1, 2, none⟩ = some (.int .i64 xm) := cell_of_row _ _ 2 _ _ _ (HX.out _ hF7)
             have hs := hO7.setNum htn xm
             have hFs := hF7.trans hs.2 (fun b hb => .inl (HFt.out b (.inr (.inl hb))))
             have HS := Lib.hid hs.1
             have q5 : (w7.setCell ⟨g, t * 6 + 2, none⟩ (.int .i64 xm)).cell? ⟨M, 5, none⟩ = some (.slice (some ⟨h, 0, none⟩) n c2) := by have := hs.1.1.cell 5; simpa [mkCells] using this
             obtain ⟨g1, g2⟩ := hs.1.givenAt htn
             generalize ((m2.fail xp xn).setTok t (fun k => { k with num := xm })).given.getD t false = z7 at g1
             generalize ((m2.fail xp xn).toks.getD t noTk).num = z2 at q2
             clear hs
             go_upto_region 17 with fail
             generalize (w7.setCell ⟨g, t * 6 + 2, none⟩ (.int .i64 xm)) = ws at *
             go_wp2_with fail
             go_meet
             case rel =>
              have hs2 := HS.out.setGiven htn
              exact ⟨by rw [HE1.out]; exact hs2.1, hFs.trans hs2.2 (fun b hb => .inl (HFt.out b (.inr (.inr hb))))⟩
           · have EB : ((t == 1) || (m2.given.getD t false || decide (0 ≤ O))) = false := by rw [EB0]; simpa using ho
             have i9 : ¬ O ≥ 0 := ho
             have HE1 : Hid (m2.dNum ⟨xn, xl, xm, xp⟩ t = ((m2).setTok t (fun k => { k with num := xm })).setGiven t) := Lib.hid (by rw [HE0, EB]; rfl)
             clear EB0 HE0
             go_upto_region 16 with (first | (go_at_call 58; refine HOw.out.mono ?_; rintro e w6 ⟨rfl, hb6⟩))
             have hF6 := hF3.trans (Fr.of_below (D := F1) hb6) (fun b hb => .inl hb)
             have hO6 := HO3.out.below hb6
             have q2 : w6.cell? ⟨g, t * 6 + 2, none⟩ = some (.int .i64 ((m2).toks.getD t noTk).num) := hO6.tokAt (j := 2) htn (by omega)
             have r2 := hO6.tokFree (t * 6 + 2)
             have qx : w6.cell? ⟨w.heap.size + 1, 2, none⟩ = some (.int .i64 xm) := cell_of_row _ _ 2 _ _ _ (HX.out _ hF6)
             have hs := hO6.setNum htn xm
             have hFs := hF6.trans hs.2 (fun b hb => .inl (HFt.out b (.inr (.inl hb))))
             have HS := Lib.hid hs.1
             have q5 : (w6.setCell ⟨g, t * 6 + 2, none⟩ (.int .i64 xm)).cell? ⟨M, 5, none⟩ = some (.slice (some ⟨h, 0, none⟩) n c2) := by have := hs.1.1.cell 5; simpa [mkCells] using this
             obtain ⟨g1, g2⟩ := hs.1.givenAt htn
             generalize ((m2).setTok t (fun k => { k with num := xm })).given.getD t false = z7 at g1
             generalize ((m2).toks.getD t noTk).num = z2 at q2
             clear hs
             go_upto_region 17 with fail
             generalize (w6.setCell ⟨g, t * 6 + 2, none⟩ (.int .i64 xm)) = ws at *
             go_wp2_with fail
             go_meet
             case rel =>
              have hs2 := HS.out.setGiven htn
              exact ⟨by rw [HE1.out]; exact hs2.1, hFs.trans hs2.2 (fun b hb => .inl (HFt.out b (.inr (.inr hb))))⟩
     · have i7 : ¬ xm > 0 := hm
       have HE1 : Hid (m2.dNum ⟨xn, xl, xm, xp⟩ t = m2) := Lib.hid (if_neg hm)
       go_wp2_with fail
       go_meet
       case rel => exact ⟨by rw [HE1.out]; exact hO3, hF3⟩
    case rest =>
     obtain ⟨hO4, hF4⟩ := hcut
     rename World => W4
     clear x2 hO3 hF3
     generalize m2.dNum ⟨xn, xl, xm, xp⟩ t = m3 at HE hO4
     have d1 : W4.cell? ⟨w.heap.size, 1, none⟩ = some (.string dt) := cell_of_row _ _ 1 _ _ _ (HD.out _ hF4)
     by_cases hz : dt.size = 0
     · have hz2 : dt.toList.isEmpty = true := by rw [Lib.toList_data, List.eq_nil_of_length_eq_zero (show dt.data.toList.length = 0 from hz)]; rfl
       have HE1 : Hid (m3.dTag dt ⟨xn, xl, xm, xp⟩ t = m3) := Lib.hid (if_pos hz)
       go_wp2_with fail
       go_end0
       rw [HRM.out, HE.out, HE1.out]
       obtain ⟨F', _, a1, a2, a3⟩ := HGo.out _ _ hF4 hO4
       exact ⟨F', rfl, a1, a2, a3⟩
     · have hz2 : dt.toList.isEmpty = false := by rw [Lib.toList_data]; cases h : dt.data.toList with | nil => exact absurd (show dt.size = 0 by show dt.data.size = 0; rw [← Array.length_toList, h]; rfl) hz | cons a b => rfl
       have HE0 : m3.dTag dt ⟨xn, xl, xm, xp⟩ t = (m3.failIf (!((m3.toks.getD t noTk).tag.toList.isEmpty) && !(eqB (m3.toks.getD t noTk).tag dt)) xp xn).setTok t (fun q => { q with tag := dt }) := if_neg hz
       have q5 : W4.cell? ⟨g, t * 6 + 5, none⟩ = some (.string (m3.toks.getD t noTk).tag) := hO4.tokAt (j := 5) htn (by omega)
       have HFl := Lib.hid (fun V (hV : Below W4.heap.size W4 V) => fail_open (hO4.below hV) xp xn)
       have x0 : W4.cell? ⟨w.heap.size + 1, 0, none⟩ = some (.string xn) := cell_of_row _ _ 0 _ _ _ (HX.out _ hF4)
       have x3 : W4.cell? ⟨w.heap.size + 1, 3, none⟩ = some (.int .i64 xp) := cell_of_row _ _ 3 _ _ _ (HX.out _ hF4)
       have HO4 := Lib.hid hO4
       generalize htg : (m3.toks.getD t noTk).tag = tg at q5 HE0
       clear hO4 htg
       by_cases hc : tg.toList.isEmpty = false ∧ eqB tg dt = false
       · obtain ⟨c1, c2⟩ := hc
         have c3 : (tg.toList == dt.toList) = false := c2
         have c4 : (tg.toList != dt.toList) = true := by show (!(tg.toList == dt.toList)) = true; rw [c3]; rfl
         have HE1 : Hid (m3.dTag dt ⟨xn, xl, xm, xp⟩ t = (m3.fail xp xn).setTok t (fun q => { q with tag := dt })) := Lib.hid (by rw [HE0, c1, c2]; rfl)
         clear HE0 c2
         go_upto_region 19 with fail
         go_quiet (fail)
         go_upto_region 21 with (first | (go_at_call 45; refine (HFl.out _ (Go.below_drewN (Below.refl _ _) _)).mono ?_; rintro e w7 ⟨rfl, hO7, hf7⟩))
         have hF7 : Fr F1 w2 w7 := (hF4.trans (Fr.of_below (D := F1) (Go.below_drewN (Below.refl _ _) _)) (fun b hb => .inl hb)).trans hf7 (fun b hb => .inl (HFt.out b (.inl hb)))
         have q6 : w7.cell? ⟨g, t * 6 + 5, none⟩ = some (.string ((m3.fail xp xn).toks.getD t noTk).tag) := hO7.tokAt (j := 5) htn (by omega)
         have r6 := hO7.tokFree (t * 6 + 5)
         have qd : w7.cell? ⟨w.heap.size, 1, none⟩ = some (.string dt) := cell_of_row _ _ 1 _ _ _ (HD.out _ hF7)
         have hs := hO7.setTag htn dt
         have hFs := hF7.trans hs.2 (fun b hb => .inl (HFt.out b (.inr (.inl hb))))
         have HS := Lib.hid hs.1
         generalize ((m3.fail xp xn).toks.getD t noTk).tag = z2 at q6
         clear hs
         go_wp2_with fail
         go_end0
         rw [HRM.out, HE.out, HE1.out]
         obtain ⟨F', _, a1, a2, a3⟩ := HGo.out _ _ hFs HS.out
         exact ⟨F', rfl, a1, a2, a3⟩
       · have HE1 : Hid (m3.dTag dt ⟨xn, xl, xm, xp⟩ t = m3.setTok t (fun q => { q with tag := dt })) := Lib.hid (by
          rw [HE0]
          cases c1 : tg.toList.isEmpty with
          | true => rfl
          | false =>
            cases c2 : eqB tg dt with
            | true => rfl
            | false => exact absurd ⟨c1, c2⟩ hc)
         clear HE0
         cases c1 : tg.toList.isEmpty with
         | true =>
           clear hc
           go_upto_region 19 with fail
           go_quiet (fail)
           go_upto_region 21 with fail
           have hO7 := HO4.out.below (Go.below_drewN (Below.refl W4.heap.size W4) nq)
           have hF7 := hF4.trans (Fr.of_below (D := F1) (Go.below_drewN (Below.refl W4.heap.size W4) nq)) (fun b hb => .inl hb)
           generalize W4.drewN nq = w7 at *
           have q6 : w7.cell? ⟨g, t * 6 + 5, none⟩ = some (.string ((m3).toks.getD t noTk).tag) := hO7.tokAt (j := 5) htn (by omega)
           have r6 := hO7.tokFree (t * 6 + 5)
           have qd : w7.cell? ⟨w.heap.size, 1, none⟩ = some (.string dt) := cell_of_row _ _ 1 _ _ _ (HD.out _ hF7)
           have hs := hO7.setTag htn dt
           have hFs := hF7.trans hs.2 (fun b hb => .inl (HFt.out b (.inr (.inl hb))))
           have HS := Lib.hid hs.1
           generalize ((m3).toks.getD t noTk).tag = z2 at q6
           clear hs
           go_wp2_with fail
           go_end0
           rw [HRM.out, HE.out, HE1.out]
           obtain ⟨F', _, a1, a2, a3⟩ := HGo.out _ _ hFs HS.out
           exact ⟨F', rfl, a1, a2, a3⟩
         | false =>
           have c2 : eqB tg dt = true := by
            cases c2 : eqB tg dt with
            | true => rfl
            | false => exact absurd ⟨c1, c2⟩ hc
           have c3 : (tg.toList == dt.toList) = true := c2
           have c4 : (tg.toList != dt.toList) = false := by show (!(tg.toList == dt.toList)) = false; rw [c3]; rfl
           clear hc c2
           go_upto_region 19 with fail
           go_quiet (fail)
           go_upto_region 21 with fail
           have hO7 := HO4.out.below (Go.below_drewN (Below.refl W4.heap.size W4) nq)
           have hF7 := hF4.trans (Fr.of_below (D := F1) (Go.below_drewN (Below.refl W4.heap.size W4) nq)) (fun b hb => .inl hb)
           generalize W4.drewN nq = w7 at *
           have q6 : w7.cell? ⟨g, t * 6 + 5, none⟩ = some (.string ((m3).toks.getD t noTk).tag) := hO7.tokAt (j := 5) htn (by omega)
           have r6 := hO7.tokFree (t * 6 + 5)
           have qd : w7.cell? ⟨w.heap.size, 1, none⟩ = some (.string dt) := cell_of_row _ _ 1 _ _ _ (HD.out _ hF7)
           have hs := hO7.setTag htn dt
           have hFs := hF7.trans hs.2 (fun b hb => .inl (HFt.out b (.inr (.inl hb))))
           have HS := Lib.hid hs.1
           generalize ((m3).toks.getD t noTk).tag = z2 at q6
           clear hs
           go_wp2_with fail
           go_end0
           rw [HRM.out, HE.out, HE1.out]
           obtain ⟨F', _, a1, a2, a3⟩ := HGo.out _ _ hFs HS.out
           exact ⟨F', rfl, a1, a2, a3⟩
end Go.Proofs.Ytkgbifbbpmdpgaa
