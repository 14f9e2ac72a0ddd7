/- The law CombFull. -/
import Derived.Test.YtjeebcnjdhlcfaaDoorCombL5
namespace Go.Proofs.YtjeebcnjdhlcfaaDoor
open Go.RowKit
set_option linter.unusedVariables false
set_option linter.unusedSimpArgs false

set_option maxRecDepth 100000 in
set_option maxHeartbeats 16000000 in
theorem combFull_walk (n0 wide0 bad : Int) {w : World} (w0 : (Lit.int .i64 n0).wf = true) (w1 : (Lit.int .i64 wide0).wf = true) (w2 : (Lit.int .i64 bad).wf = true) (hT : TabAt 0 Lib.deBruijn64tab w) :
    Calls Tryd.prog 8 #[.int .i64 n0, .int .i64 wide0, .int .i64 bad] w fun e w' => e = .returned (.bool true) ∧ Below w.heap.size w w' := by
  have hE := combEnv_of hT
  clear hT
  have HW := Lib.hid (wakes_any w hE)
  have hn0 := Int.emod_nonneg n0 (show (5 : Int) ≠ 0 by omega)
  have hn1 := Int.emod_lt_of_pos n0 (show (0 : Int) < 5 by omega)
  have hm0 := Int.emod_nonneg wide0 (show (30 : Int) ≠ 0 by omega)
  have hm1 := Int.emod_lt_of_pos wide0 (show (0 : Int) < 30 by omega)
  have hd0 := Int.emod_nonneg bad (show (5 : Int) ≠ 0 by omega)
  have hd1 := Int.emod_lt_of_pos bad (show (0 : Int) < 5 by omega)
  have HN0 := Lib.hid (show ∀ W : World, Calls Tryd.prog 17 #[.int .i64 n0, .int .i64 5] W fun e w' => e = .returned (.int .i64 (n0 % 5)) ∧ W = w' from fun W => within_any n0 5 W w0 (by omega) (by omega))
  have HN1 := Lib.hid (show ∀ W : World, Calls Tryd.prog 17 #[.int .i64 wide0, .int .i64 30] W fun e w' => e = .returned (.int .i64 (wide0 % 30)) ∧ W = w' from fun W => within_any wide0 30 W w1 (by omega) (by omega))
  have HN2 := Lib.hid (show ∀ W : World, Calls Tryd.prog 17 #[.int .i64 bad, .int .i64 5] W fun e w' => e = .returned (.int .i64 (bad % 5)) ∧ W = w' from fun W => within_any bad 5 W w2 (by omega) (by omega))
  generalize n0 % 5 = nm at *
  generalize wide0 % 30 = wm at *
  generalize bad % 5 = bm at *
  obtain ⟨i1, hi1, hy0, hy1, hy2⟩ := info_parts Tryd.infoPair
  obtain ⟨i2, hi2, hx0, hx1, hx2⟩ := info_parts Tryd.infoPairs
  have HE := Lib.hid hE
  have HBM := Lib.hid (And.intro hd0 hd1)
  clear hE w0 w1 w2 hd0 hd1
  go_enter Tryd.func8, Tryd.ntmps8
  go_wp2_with fail
  refine HW.out.mono ?_
  rintro e wa ⟨rfl, hba⟩
  have HBA := Lib.hid hba
  clear hba
  go_wp2_with (first
    | (go_at_call 17; (with_reducible refine (HN0.out _).mono ?_); rintro e w9 ⟨rfl, rfl⟩)
    | (go_at_call 17; (with_reducible refine (HN1.out _).mono ?_); rintro e w9 ⟨rfl, rfl⟩))
  obtain ⟨N, hN⟩ : ∃ N : Nat, 1 + nm = (N : Int) := ⟨(1 + nm).toNat, by omega⟩
  obtain ⟨D, hD⟩ : ∃ D : Nat, 1 + wm = (D : Int) := ⟨(1 + wm).toNat, by omega⟩
  rw [hN, hD]
  have hN1 : 0 < N := by omega
  have hN2 : N ≤ 5 := by omega
  have hD1 : 0 < D := by omega
  have hD2 : D ≤ 30 := by omega
  clear hN hD hn0 hn1 hm0 hm1 HN0 HN1
  go_loopw [7, 8] (fun x y W => ∃ (i : Nat) (xs : List Value) (S : Nat → Prop), i ≤ N ∧ y = .int .i64 (i : Int) ∧ GrowL w.heap.size 35 1 prowR S W x xs (flats i D) ∧ Below w.heap.size w W) (fun _ y _ => N - (intOf y).toNat)
  case atStart => exact ⟨0, [], _, Nat.zero_le _, rfl, GrowL.nil _ _ _ _ _, HBA.out⟩
  case round =>
    obtain ⟨i, xs, S, hi, rfl, hG, hb⟩ := hrel
    rename World => wb
    have hbs := hb.size
    have hfl := flats_len i D
    by_cases hlt : i < N
    · have hiI : (i : Int) < (N : Int) := by omega
      have HG := Lib.hid (And.intro hG hb)
      clear hG hb
      go_wp2_with fail
      go_loopw [9, 10] (fun x y W => ∃ (k : Nat) (ys : List Value), k ≤ D ∧ y = .int .i64 (k : Int) ∧ GrowL wb.heap.size 39 2 pairR (fun _ => False) W x ys (flatRow k (-(i : Int))) ∧ Below wb.heap.size wb W) (fun _ y _ => D - (intOf y).toNat)
      case atStart => exact ⟨0, [], Nat.zero_le _, rfl, GrowL.nil _ _ _ _ _, Below.refl _ _⟩
      case round =>
        obtain ⟨k, ys, hk, rfl, hR, hb2⟩ := hrel
        rename World => wc
        have hbs2 := hb2.size
        have hfr := flatRow_len k (-(i : Int))
        by_cases hkD : k < D
        · have hkI : (k : Int) < (D : Int) := by omega
          have hown := hR.own
          rw [hfr] at hown
          have HR := Lib.hid (And.intro hR hb2)
          clear hR hb2 hfr hfl
          go_wp2_with (first
            | (at_builtin; refine wpList_append_own_at _ rfl _ _ 35 rfl wb.heap.size 39 i1 (.agg #[.int .i64 0, .int .i64 0]) 2 16 Tryd.underlying35 hi1 hy0 hy1 hy2 rfl (by decide) _ _ _ rfl (hown.alloc _) ⟨wc.heap.size, 0, none⟩ 1 1 [.int .i64 (k : Int), .int .i64 (-(i : Int))] rfl rfl (news2 _ _ _ _) ?d2 ?d3 ?d4 ?d5 ?_))
          case d2 => first | rfl | (intro u hu; simp at hu; rcases hu with e | e <;> rw [e] <;> rfl)
          case d3 => unfold maxLen; omega
          case d4 => omega
          case d5 => simp; omega
          intro x' wd ho hg _ hl
          have hal := (Below.refl wc.heap.size wc).alloc (Nat.le_refl _) (.cells #[.int .i64 (k : Int), .int .i64 (-(i : Int))] 39)
          have hR6 := (HR.out.1.below hal).push (S' := fun _ => False) (cs := [.int .i64 (k : Int), .int .i64 (-(i : Int))]) (x := ((k : Int), -(i : Int))) (by rw [flatRow_len]; exact ho) hg (by simpa using hl) rfl (Firm.pure (fun w' => rfl)) (fun k _ h => h)
          have hb6 : Below wb.heap.size wb wd := (HR.out.2.alloc hbs2 _).grown hg (by simp; omega) (fun k hk => (HR.out.1.own.lt k hk).1)
          have hR7 := hR6.widen (S' := fun _ => False) (fun b h => h.elim id id) (fun b h => h.elim) (fun k _ h => h)
          rw [← flatRow_next] at hR7
          have H6 := Lib.hid (And.intro hR7 hb6)
          clear hal hR6 hR7 hb6 hg ho hl hown
          go_wp2_with fail
          go_roundw
          case rel => exact ⟨k + 1, _, by omega, by go_num, H6.out.1, H6.out.2⟩
          case measure => simp [intOf]; omega
        · obtain rfl : k = D := by omega
          obtain ⟨xa, xc, rfl⟩ : ∃ a1 c1, u9 = .slice a1 k c1 := by
            rcases hR.own.2 with ⟨rfl, h0⟩ | ⟨g, cap, cur, rfl, _⟩
            · exact ⟨none, 0, by rw [← h0, flatRow_len]⟩
            · exact ⟨_, cap, by rw [flatRow_len]⟩
          have hG5 := HG.out.1.below hb2
          have hownG := hG5.own
          rw [hfl] at hownG
          have HQ := Lib.hid (And.intro hR (And.intro hb2 hG5))
          clear hR hb2 hG5 hfr hfl
          go_wp2_with (first
            | (at_builtin; refine wpList_append_own_at _ rfl _ _ 23 rfl w.heap.size 35 i2 (.slice none 0 0) 1 24 Tryd.underlying23 hi2 hx0 hx1 hx2 rfl (by decide) _ _ _ rfl (hownG.alloc _) ⟨wc.heap.size, 0, none⟩ 1 1 [.slice xa k xc] rfl rfl (news1 _ _ _) ?e2 ?e3 ?e4 ?e5 ?_))
          case e2 => first | rfl | (intro u hu; simp at hu; rw [hu]; rfl)
          case e3 => unfold maxLen; omega
          case e4 => omega
          case e5 => simp; omega
          intro v5 wd ho hg _ hl
          have hal := (Below.refl wc.heap.size wc).alloc (Nat.le_refl _) (.cells #[.slice xa k xc] 35)
          have hfirm : Firm (fun b => False ∨ (Value.slice xa k xc).ownBlock = some b) (wc.alloc (.cells #[.slice xa k xc] 35)) (fun w' => prowR w' [.slice xa k xc] (flatRow k (-(i : Int)))) :=
            ((HQ.out.1.firm (by omega)).below hal).imp (fun w' h => ⟨_, rfl, h⟩)
          have hG6 := (HQ.out.2.2.below hal).push (by rw [flats_len]; exact ho) hg (by simpa using hl) rfl hfirm (fun b hb' hS => hS.elim id (fun e => by
            have h1 := (HQ.out.1.own.lt b e).1
            have h2 := (HG.out.1.own.lt b hb').2
            omega))
          have hb6 : Below w.heap.size w wd := ((HG.out.2.trans (HQ.out.2.1.mono hbs)).alloc (by omega) _).grown hg (by simp; omega) (fun k hk => (HG.out.1.own.lt k hk).1)
          rw [← flats_next] at hG6
          have H6 := Lib.hid (And.intro hG6 hb6)
          clear hal hfirm hG6 hb6 hg ho hl hownG
          go_wp2_with fail
          go_roundw
          case rel => exact ⟨i + 1, _, _, by omega, by go_num, H6.out.1, H6.out.2⟩
          case measure => simp [intOf]; omega
    · obtain rfl : i = N := by omega
      obtain ⟨f1, f2, f3⟩ := lay_flat (rows := flats i D) (wide := D) hD1 (by omega) (by rw [flats_len]; omega) (fun j hj => ⟨_, flats_at i D j (by rw [flats_len] at hj; exact hj)⟩)
      rw [flats_len] at f2 f3
      have HL := Lib.hid (layC_any (hG.list (by omega)) (by have := fullS_le (flats i D); rw [flats_len] at this; omega) (HE.out.below hb))
      have HF := Lib.hid (And.intro f2 f3)
      have HG := Lib.hid (And.intro hG hb)
      clear hG hb f1 f2 f3 hlt hi
      go_wp2_with fail
      refine HL.out.mono ?_
      rintro e wc ⟨ba, bn, bc, va, vn, vc, ka, kn, kc, rfl, hC, hb2⟩
      obtain ⟨bq, vq, kq, eq, hI1, hI2, hI3⟩ := hC
      obtain ⟨rfl, rfl, rfl⟩ : bq = .slice ba bn bc ∧ vq = .slice va vn vc ∧ kq = .slice ka kn kc := by
        injection eq with e2
        have a0 := congrArg (fun a => a[0]?) e2
        have a1 := congrArg (fun a => a[1]?) e2
        have a2 := congrArg (fun a => a[2]?) e2
        simp at a0 a1 a2
        exact ⟨a0.symm, a1.symm, a2.symm⟩
      obtain ⟨_, _, _, x1, hbn, z1, z2, hbx⟩ := hI1.open
      cases x1
      obtain ⟨_, _, _, x1, hkn, z3, z4, hkx⟩ := hI3.open
      cases x1
      have hbnI : bn = i := by rw [hbn.out]; exact HF.out.1
      have hknI : kn = i * D := by rw [hkn.out]; exact HF.out.2.len
      have hiD : i * D ≤ 150 := Nat.le_trans (Nat.mul_le_mul hN2 hD2) (by omega)
      have hbc := hb2.size
      have HBS := Lib.hid hbc
      have hb3 := HG.out.2.trans (hb2.mono hbs)
      have hG3 := HG.out.1.below hb2
      have hal := (Below.refl wc.heap.size wc).alloc (Nat.le_refl _) (.cells #[.slice ba bn bc, .slice va vn vc, .slice ka kn kc] 30)
      have hG4 := hG3.below hal
      have hb4 := hb3.trans (hal.mono (by omega))
      have hbx4 : ∀ j, j < i → ∃ b off, ba = some ⟨b, off, none⟩ ∧ (wc.alloc (.cells #[.slice ba bn bc, .slice va vn vc, .slice ka kn kc] 30)).cell? ⟨b, off + j, none⟩ = some (.int .i64 ((j * D : Nat) : Int)) := fun j hj => by
        obtain ⟨b, off, e, hc⟩ := hbx.out j (by omega)
        refine ⟨b, off, e, (hal.cell (World.block_lt_of_cell? _ _ hc)).trans ?_⟩
        rw [hc, HF.out.2.base j hj]
      have HBX := Lib.hid hbx4
      have H4 := Lib.hid (And.intro hG4 hb4)
      subst hbnI
      obtain ⟨M, hM⟩ : ∃ M, M = bn * D := ⟨_, rfl⟩
      have hMI : (bn : Int) * (D : Int) = (M : Int) := by rw [hM]; norm_cast
      rw [← hM] at hknI hiD
      subst hknI
      have HMM := Lib.hid hM
      clear hM eq hI1 hI2 hI3 hbx hkx hbn hkn z1 z2 z3 z4 hb2 hb3 hG3 hal hG4 hb4 hbx4 hbc HL
      go_wp2_with fail
      have hbox : (wc.alloc (.cells #[.slice ba bn bc, .slice va vn vc, .slice ka kn kc] 30)).heap[wc.heap.size]? = some (.cells #[.slice ba bn bc, .slice va vn vc, .slice ka kn kc] 30 (0, 0)) := heap_alloc_new _ _
      have hap : ∀ k, u7.ownBlock = some k → k ≠ wc.heap.size := fun k hk e => by
        have := (HG.out.1.own.lt k hk).2
        have := HBS.out
        omega
      generalize wc.alloc (.cells #[.slice ba bn bc, .slice va vn vc, .slice ka kn kc] 30) = we at HBX H4 hbox ⊢
      generalize hbx : wc.heap.size = bx at hbox hap ⊢
      have HBX1 := Lib.hid (show w.heap.size ≤ bx by rw [← hbx]; have := HBS.out; omega)
      have c0 : we.cell? ⟨bx, 0, none⟩ = some (.slice ba bn bc) := cell_of_row _ _ _ _ _ _ hbox
      have HBOX := Lib.hid (And.intro hbox hap)
      clear hbox hap hbx
      go_loop [12] (fun y => ∃ j : Nat, j ≤ bn ∧ y = .int .i64 (j : Int)) (fun y => bn - (intOf y).toNat)
      case atStart => exact ⟨0, Nat.zero_le _, rfl⟩
      case round =>
        obtain ⟨j, hj, rfl⟩ := hrel
        by_cases hjn : j < bn
        · have hjI : (j : Int) < (bn : Int) := by omega
          obtain ⟨b8, o8, rfl, d8⟩ := HBX.out j hjn
          have hjD : j * D ≤ 150 := Nat.le_trans (Nat.mul_le_mul (show j ≤ 5 by omega) hD2) (by omega)
          obtain ⟨P, hP⟩ : ∃ P, P = j * D := ⟨_, rfl⟩
          have hPI : (j : Int) * (D : Int) = (P : Int) := by rw [hP]; norm_cast
          rw [← hP] at d8 hjD
          clear hP
          go_wp2_with fail
          go_round
          case rel => exact ⟨j + 1, by omega, by go_num⟩
          case measure => simp [intOf]; omega
        · have h7l : GrowL w.heap.size 35 1 prowR S we u7 xs (padded bn D 0) := by
            have : padded bn D 0 = flats bn D := by simp [padded]
            rw [this]; exact H4.out.1
          have H7 := Lib.hid (And.intro h7l H4.out.2)
          have hb4s := H4.out.2.size
          clear h7l
          go_wp2_with fail
          go_loopg [7] 400 (fun gg x W => ∃ (mm : Nat) (xs : List Value) (S : Nat → Prop), bn + mm ≤ 399 ∧ 399 ≤ bn + mm + gg ∧ GrowL w.heap.size 35 1 prowR S W x xs (padded bn D mm) ∧ Below w.heap.size w W ∧ W.heap[bx]? = some (.cells #[.slice ba bn bc, .slice va vn vc, .slice ka kn kc] 30 (0, 0)) ∧ (∀ k, x.ownBlock = some k → k ≠ bx))
          case atStart => exact ⟨0, xs, S, by omega, by omega, H7.out.1, H7.out.2, HBOX.out.1, HBOX.out.2⟩
          case round =>
            clear c0
            obtain ⟨mm, xs, S, hmm, hgg, hG, hb, hbox, hap⟩ := hrel
            rename World => wf
            have hpl := padded_len bn D mm
            obtain ⟨xa, xc, rfl⟩ : ∃ a1 c1, u7 = .slice a1 (bn + mm) c1 := by
              rcases hG.own.2 with ⟨rfl, h0⟩ | ⟨g, cap, cur, rfl, _⟩
              · exact ⟨none, 0, by rw [← hpl, h0]⟩
              · exact ⟨_, cap, by rw [hpl]⟩
            have hbs5 := hb.size
            have hbxl := lt_of_block hbox
            by_cases hlt9 : bn + mm < 399
            · have hltI : ((bn + mm : Nat) : Int) < 399 := by omega
              have hown := hG.own
              rw [hpl] at hown
              generalize hLL : bn + mm = LL at *
              have HQ := Lib.hid (And.intro hG (And.intro hb (And.intro hbox (And.intro hap (And.intro hpl hLL)))))
              have hL9 : LL < 399 := by omega
              clear hG hb hbox hap hpl hLL
              go_wp2_with (first
                | (at_builtin; refine wpList_append_own_at _ rfl _ _ 23 rfl w.heap.size 35 i2 (.slice none 0 0) 1 24 Tryd.underlying23 hi2 hx0 hx1 hx2 rfl (by decide) _ _ _ rfl (hown.alloc _) ⟨wf.heap.size, 0, none⟩ 1 1 [.slice none 0 0] rfl rfl (news1 _ _ _) ?g2 ?g3 ?g4 ?g5 ?_))
              case g2 => first | rfl | (intro u hu; simp at hu; rw [hu]; rfl)
              case g3 => unfold maxLen; omega
              case g4 => omega
              case g5 => simp; omega
              intro v5 wd ho hg _ hl
              have hal := (Below.refl wf.heap.size wf).alloc (Nat.le_refl _) (.cells #[.slice none 0 0] 35)
              have hfirm : Firm (fun b => False) (wf.alloc (.cells #[.slice none 0 0] 35)) (fun w' => prowR w' [.slice none 0 0] []) := Firm.pure (fun w' => ⟨_, rfl, ListV.nil _ _ _⟩)
              have hG6 := (HQ.out.1.below hal).push (by rw [HQ.out.2.2.2.2.1]; exact ho) hg (by simpa using hl) rfl hfirm (fun b hb' hS => hS.elim)
              have hb6 : Below w.heap.size w wd := (HQ.out.2.1.alloc hbs5 _).grown hg (by simp; omega) (fun k hk => (HQ.out.1.own.lt k hk).1)
              have hbox6 : wd.heap[bx]? = some (.cells #[.slice ba bn bc, .slice va vn vc, .slice ka kn kc] 30 (0, 0)) :=
                (hg.block bx (by simp; omega) (fun e => HQ.out.2.2.2.1 bx e.symm rfl)).trans ((Below.heap_alloc wf _ bx hbxl).trans HQ.out.2.2.1)
              have hap6 : ∀ k, v5.ownBlock = some k → k ≠ bx := fun k hk e => by
                rcases hl with e2 | e2
                · exact HQ.out.2.2.2.1 k (e2.symm.trans hk) e
                · have e3 : some (wf.heap.size + 1) = some k := e2.symm.trans hk
                  injection e3; omega
              rw [← padded_next] at hG6
              have H6 := Lib.hid (And.intro hG6 (And.intro hb6 (And.intro hbox6 hap6)))
              have hLE := HQ.out.2.2.2.2.2
              clear hal hfirm hG6 hb6 hbox6 hap6 hg ho hl hown
              go_wp2_with fail
              go_roundg (gk - 1)
              case measure => omega
              case rel => exact ⟨mm + 1, _, _, by omega, by omega, H6.out.1, H6.out.2.1, H6.out.2.2.1, H6.out.2.2.2⟩
            · have hE9 : bn + mm = 399 := by omega
              rw [hE9]
              rw [hE9] at hG hap hpl
              have hmm9 := hE9
              have HQ := Lib.hid (And.intro hG (And.intro hb (And.intro hbox (And.intro hap (And.intro hpl hmm9)))))
              have hbm : bm = 0 ∨ bm = 1 ∨ bm = 2 ∨ bm = 3 ∨ bm = 4 := by have := HBM.out; omega
              have hown := hG.own
              rw [hpl] at hown
              clear hG hb hbox hap hpl hE9 hlt9 hmm9 HBX HBOX
              have hbi := (Below.refl wf.heap.size wf).alloc (Nat.le_refl _) (.cells #[.int .i64 999, .int .i64 1] 39)
              rcases hbm with rfl | rfl | rfl | rfl | rfl
              · have hblk := heap_alloc_new wf (.cells #[.int .i64 (1000), .int .i64 1] 39)
                have hbiV := (Below.refl wf.heap.size wf).alloc (Nat.le_refl _) (.cells #[.int .i64 (1000), .int .i64 1] 39)
                have hfirm := one_firm (o := wf.heap.size) (r := [((1000 : Int), (1 : Int))]) (n := 1) rfl (by omega) hblk
                have hG0 := HQ.out.1.below hbiV
                have hnS : ∀ k, (Value.slice xa 399 xc).ownBlock = some k → ¬ k = wf.heap.size := fun k hk e => by
                  have := (HQ.out.1.own.lt k hk).2
                  omega
                have hownW := hG0.own
                rw [HQ.out.2.2.2.2.1] at hownW
                have HS := Lib.hid (And.intro hG0 (And.intro hfirm (And.intro hnS hbiV)))
                clear hblk hbiV hfirm hG0 hnS hown hbi
                go_wp2_with (first
                  | (go_at_call 17; (with_reducible refine (HN2.out _).mono ?_); rintro e w9 ⟨rfl, rfl⟩)
                  | (at_builtin; refine wpList_append_own_at _ rfl _ _ 23 rfl w.heap.size 35 i2 (.slice none 0 0) 1 24 Tryd.underlying23 hi2 hx0 hx1 hx2 rfl (by decide) _ _ _ rfl (hownW.alloc _) ⟨wf.heap.size + 1, 0, none⟩ 1 1 [.slice (some ⟨wf.heap.size, 0, none⟩) 1 1] rfl rfl (newsB _ _ _ _ (by simp)) (by intro u hu; simp at hu; rw [hu]; rfl) (by unfold maxLen; omega) (by omega) (by simp; omega) ?_))
                intro v5 w5 ho5 hg5 _ hl5
                have hG5 := grow_row HS.out.1 HS.out.2.1 HS.out.2.2.1 HQ.out.2.2.2.2.1 ho5 hg5 (by simpa using hl5)
                have hb5 : Below w.heap.size w w5 := ((HQ.out.2.1.trans (HS.out.2.2.2.mono hbs5)).alloc (by simp; omega) _).grown hg5 (by simp; omega) (fun k hk => (HQ.out.1.own.lt k hk).1)
                have hlist := hG5.list (by omega)
                have hpe : padded bn D mm = padded bn D mm := rfl
                have hz : layS (padded bn D mm ++ [[((1000 : Int), (1 : Int))]]) = ([], [], []) := not_may_row _ _ (by decide)
                have HLL := Lib.hid (layC_any hlist (more_full bn D mm _ (by omega)) (HE.out.below hb5))
                rw [hz] at HLL
                have HB5 := Lib.hid hb5
                have hb5s := hb5.size
                clear hG5 hb5 hlist hpe hz hg5 ho5 hl5 hownW
                go_wp2_with fail
                refine HLL.out.mono ?_
                rintro e w6 ⟨ba', bn', bc', va', vn', vc', ka', kn', kc', rfl, hC6, hb6⟩
                have HEQ := Lib.hid (eqComb_any _ _ _ _ _ hC6 (zeroComb w6))
                rw [eqCombB_refl] at HEQ
                have hw6 := HB5.out.trans (hb6.mono hb5s)
                clear hC6 hb6
                go_wp2_with fail
                refine HEQ.out.mono ?_
                rintro e w7 ⟨rfl, hb7⟩
                have hw7 := hw6.trans (hb7.mono hw6.size)
                clear hb7 hw6
                go_wp2_with fail
                go_ret
                exact ⟨rfl, hw7⟩
              · have hblk := heap_alloc_new wf (.cells #[.int .i64 (-1), .int .i64 1] 39)
                have hbiV := (Below.refl wf.heap.size wf).alloc (Nat.le_refl _) (.cells #[.int .i64 (-1), .int .i64 1] 39)
                have hfirm := one_firm (o := wf.heap.size) (r := [((-1 : Int), (1 : Int))]) (n := 1) rfl (by omega) hblk
                have hG0 := HQ.out.1.below hbiV
                have hnS : ∀ k, (Value.slice xa 399 xc).ownBlock = some k → ¬ k = wf.heap.size := fun k hk e => by
                  have := (HQ.out.1.own.lt k hk).2
                  omega
                have hownW := hG0.own
                rw [HQ.out.2.2.2.2.1] at hownW
                have HS := Lib.hid (And.intro hG0 (And.intro hfirm (And.intro hnS hbiV)))
                clear hblk hbiV hfirm hG0 hnS hown hbi
                go_wp2_with (first
                  | (go_at_call 17; (with_reducible refine (HN2.out _).mono ?_); rintro e w9 ⟨rfl, rfl⟩)
                  | (at_builtin; refine wpList_append_own_at _ rfl _ _ 23 rfl w.heap.size 35 i2 (.slice none 0 0) 1 24 Tryd.underlying23 hi2 hx0 hx1 hx2 rfl (by decide) _ _ _ rfl (hownW.alloc _) ⟨wf.heap.size + 1, 0, none⟩ 1 1 [.slice (some ⟨wf.heap.size, 0, none⟩) 1 1] rfl rfl (newsB _ _ _ _ (by simp)) (by intro u hu; simp at hu; rw [hu]; rfl) (by unfold maxLen; omega) (by omega) (by simp; omega) ?_))
                intro v5 w5 ho5 hg5 _ hl5
                have hG5 := grow_row HS.out.1 HS.out.2.1 HS.out.2.2.1 HQ.out.2.2.2.2.1 ho5 hg5 (by simpa using hl5)
                have hb5 : Below w.heap.size w w5 := ((HQ.out.2.1.trans (HS.out.2.2.2.mono hbs5)).alloc (by simp; omega) _).grown hg5 (by simp; omega) (fun k hk => (HQ.out.1.own.lt k hk).1)
                have hlist := hG5.list (by omega)
                have hpe : padded bn D mm = padded bn D mm := rfl
                have hz : layS (padded bn D mm ++ [[((-1 : Int), (1 : Int))]]) = ([], [], []) := not_may_row _ _ (by decide)
                have HLL := Lib.hid (layC_any hlist (more_full bn D mm _ (by omega)) (HE.out.below hb5))
                rw [hz] at HLL
                have HB5 := Lib.hid hb5
                have hb5s := hb5.size
                clear hG5 hb5 hlist hpe hz hg5 ho5 hl5 hownW
                go_wp2_with fail
                refine HLL.out.mono ?_
                rintro e w6 ⟨ba', bn', bc', va', vn', vc', ka', kn', kc', rfl, hC6, hb6⟩
                have HEQ := Lib.hid (eqComb_any _ _ _ _ _ hC6 (zeroComb w6))
                rw [eqCombB_refl] at HEQ
                have hw6 := HB5.out.trans (hb6.mono hb5s)
                clear hC6 hb6
                go_wp2_with fail
                refine HEQ.out.mono ?_
                rintro e w7 ⟨rfl, hb7⟩
                have hw7 := hw6.trans (hb7.mono hw6.size)
                clear hb7 hw6
                go_wp2_with fail
                go_ret
                exact ⟨rfl, hw7⟩
              · have hblk := heap_alloc_new wf (.cells #[.int .i64 999, .int .i64 1] 39)
                have hbiV := (Below.refl wf.heap.size wf).alloc (Nat.le_refl _) (.cells #[.int .i64 999, .int .i64 1] 39)
                have hown1 : (wf.alloc (.cells #[.int .i64 999, .int .i64 1] 39)).ownsRow wf.heap.size 39 2 (.slice (some ⟨wf.heap.size, 0, none⟩) 1 1) 1 [.int .i64 999, .int .i64 1] :=
                  ⟨rfl, .inr ⟨wf.heap.size, 1, _, rfl, Nat.le_refl _, hblk, Nat.le_refl _, by decide, rfl, rfl⟩⟩
                have H1 := Lib.hid hown1
                have HV := Lib.hid hbiV
                clear hblk hbiV hbi
                go_wp2_with (first
                  | (go_at_call 17; (with_reducible refine (HN2.out _).mono ?_); rintro e w9 ⟨rfl, rfl⟩)
                  | (at_builtin; refine wpList_append_own_at _ rfl _ _ 35 rfl wf.heap.size 39 i1 (.agg #[.int .i64 0, .int .i64 0]) 2 16 Tryd.underlying35 hi1 hy0 hy1 hy2 rfl (by decide) _ _ _ rfl (hown1.alloc _) ⟨wf.heap.size + 1, 0, none⟩ 1 1 [.int .i64 999, .int .i64 2] rfl rfl (news2B _ _ _ _ _ (by simp)) ?n2 ?n3 ?n4 ?n5 ?_))
                case n2 => first | (exact ⟨rfl, rfl⟩) | (intro u hu; simp at hu; rcases hu with e | e <;> rw [e] <;> rfl)
                case n3 => first | (unfold maxLen; omega) | decide
                case n4 => first | omega | decide
                case n5 => simp; omega
                intro y' wg hog hgg2 _ hlg
                have hRg : GrowL wf.heap.size 39 2 pairR (fun _ => False) wg y' ([((999 : Int), (1 : Int)), (999, 2)].flatMap pairC) [((999 : Int), (1 : Int)), (999, 2)] := pairs_own (by simpa [pairC] using hog)
                have hbg : Below wf.heap.size wf wg := (HV.out.alloc (by simp) _).grown hgg2 (by simp; omega) (fun k hk => (H1.out.lt k hk).1)
                obtain ⟨ya, yc, rfl⟩ : ∃ a1 c1, y' = .slice a1 2 c1 := by
                  rcases hRg.own.2 with ⟨_, h0⟩ | ⟨g, cap, cur, rfl, _⟩
                  · simp at h0
                  · exact ⟨_, cap, rfl⟩
                have hfirm : Firm (fun b => False ∨ (Value.slice ya 2 yc).ownBlock = some b) wg (fun w' => PairsV w' (.slice ya 2 yc) [((999 : Int), (1 : Int)), (999, 2)]) := hRg.firm (by omega)
                have hG0 := HQ.out.1.below hbg
                have hnS : ∀ k, (Value.slice xa 399 xc).ownBlock = some k → ¬ (False ∨ (Value.slice ya 2 yc).ownBlock = some k) := fun k hk e => by
                  have h1 := (HQ.out.1.own.lt k hk).2
                  rcases e with e | e
                  · exact e
                  · have h2 := (hRg.own.lt k e).1
                    omega
                have hownW := hG0.own
                rw [HQ.out.2.2.2.2.1] at hownW
                have HS := Lib.hid (And.intro hG0 (And.intro hfirm (And.intro hnS hbg)))
                have hbgs := hbg.size
                clear hbg hfirm hG0 hnS hown hRg hog hgg2 hlg hown1
                go_wp2_with (first
                  | (at_builtin; refine wpList_append_own_at _ rfl _ _ 23 rfl w.heap.size 35 i2 (.slice none 0 0) 1 24 Tryd.underlying23 hi2 hx0 hx1 hx2 rfl (by decide) _ _ _ rfl (hownW.alloc _) ⟨wg.heap.size, 0, none⟩ 1 1 [.slice ya 2 yc] rfl rfl (news1 _ _ _) (by intro u hu; simp at hu; rw [hu]; rfl) (by unfold maxLen; omega) (by omega) (by simp; omega) ?_))
                intro v5 w5 ho5 hg5 _ hl5
                have hG5 := grow_row HS.out.1 HS.out.2.1 HS.out.2.2.1 HQ.out.2.2.2.2.1 ho5 hg5 (by simpa using hl5)
                have hb5 : Below w.heap.size w w5 := ((HQ.out.2.1.trans (HS.out.2.2.2.mono hbs5)).alloc (by omega) _).grown hg5 (by simp; omega) (fun k hk => (HQ.out.1.own.lt k hk).1)
                have hlist := hG5.list (by omega)
                have hpe : padded bn D mm = padded bn D mm := rfl
                have hz : layS (padded bn D mm ++ [[((999 : Int), (1 : Int)), (999, 2)]]) = ([], [], []) := not_may_row _ _ (by decide)
                have HLL := Lib.hid (layC_any hlist (more_full bn D mm _ (by omega)) (HE.out.below hb5))
                rw [hz] at HLL
                have HB5 := Lib.hid hb5
                have hb5s := hb5.size
                clear hG5 hb5 hlist hpe hz hg5 ho5 hl5 hownW
                go_wp2_with fail
                refine HLL.out.mono ?_
                rintro e w6 ⟨ba', bn', bc', va', vn', vc', ka', kn', kc', rfl, hC6, hb6⟩
                have HEQ := Lib.hid (eqComb_any _ _ _ _ _ hC6 (zeroComb w6))
                rw [eqCombB_refl] at HEQ
                have hw6 := HB5.out.trans (hb6.mono hb5s)
                clear hC6 hb6
                go_wp2_with fail
                refine HEQ.out.mono ?_
                rintro e w7 ⟨rfl, hb7⟩
                have hw7 := hw6.trans (hb7.mono hw6.size)
                clear hb7 hw6
                go_wp2_with fail
                go_ret
                exact ⟨rfl, hw7⟩
              · have hblk := heap_alloc_new wf (.cells #[.int .i64 999, .int .i64 1] 39)
                have hbiV := (Below.refl wf.heap.size wf).alloc (Nat.le_refl _) (.cells #[.int .i64 999, .int .i64 1] 39)
                have hG0 := HQ.out.1.below hbiV
                have hownW := hG0.own
                rw [HQ.out.2.2.2.2.1] at hownW
                have HS0 := Lib.hid (And.intro hG0 (And.intro hblk hbiV))
                clear hblk hbiV hG0 hown hbi
                go_wp2_with (first
                  | (go_at_call 17; (with_reducible refine (HN2.out _).mono ?_); rintro e w9 ⟨rfl, rfl⟩)
                  | (at_builtin; refine wpList_append_own_at _ rfl _ _ 23 rfl w.heap.size 35 i2 (.slice none 0 0) 1 24 Tryd.underlying23 hi2 hx0 hx1 hx2 rfl (by decide) _ _ _ rfl (hownW.alloc _) ⟨wf.heap.size + 1, 0, none⟩ 1 1 [.slice none 0 0] rfl rfl (newsB _ _ _ _ (by simp)) (by intro u hu; simp at hu; rw [hu]; rfl) (by unfold maxLen; omega) (by omega) (by simp; omega) ?_))
                intro v4 w4 ho4 hg4 _ hl4
                have hG4 := grow_row HS0.out.1 (S' := fun _ => False) (r := []) (Firm.pure (fun w' => ListV.nil _ _ _)) (fun k _ h => h) HQ.out.2.2.2.2.1 ho4 hg4 (by simpa using hl4)
                have hb4' : Below wf.heap.size wf (wf.alloc (.cells #[.int .i64 999, .int .i64 1] 39)) := HS0.out.2.2
                have hb4w : Below w.heap.size w w4 := ((HQ.out.2.1.trans (hb4'.mono hbs5)).alloc (by simp; omega) _).grown hg4 (by simp; omega) (fun k hk => (HQ.out.1.own.lt k hk).1)
                have hblk4 : w4.heap[wf.heap.size]? = some (.cells #[.int .i64 999, .int .i64 1] 39 (0, 0)) :=
                  (hg4.block wf.heap.size (by simp; omega) (fun e => by
                    have := (HQ.out.1.own.lt wf.heap.size e.symm).2
                    omega)).trans ((Below.heap_alloc _ _ _ (by simp)).trans HS0.out.2.1)
                have hs4 : wf.heap.size + 1 < w4.heap.size := by have := hg4.size; simp at this; omega
                have hfirm := one_firm (o := wf.heap.size) (r := [((999 : Int), (1 : Int))]) (n := 1) rfl (by omega) hblk4
                have hnS : ∀ k, v4.ownBlock = some k → ¬ k = wf.heap.size := fun k hk e => by
                  rcases hl4 with e2 | e2
                  · have := (HQ.out.1.own.lt k (e2.symm.trans hk)).2
                    omega
                  · have e3 : some (wf.heap.size + 1 + 1) = some k := e2.symm.trans hk
                    injection e3; omega
                have hlen4 : (padded bn D mm ++ [[]]).length = 400 := by rw [List.length_append, HQ.out.2.2.2.2.1]; rfl
                have hown4 := hG4.own
                rw [hlen4] at hown4
                obtain ⟨ya, yc, rfl⟩ : ∃ a1 c1, v4 = .slice a1 400 c1 := by
                  rcases hown4.2 with ⟨_, h0⟩ | ⟨g, cap, cur, rfl, _⟩
                  · simp at h0
                  · exact ⟨_, cap, rfl⟩
                have HS := Lib.hid (And.intro hG4 (And.intro hfirm (And.intro hnS (And.intro hb4w hlen4))))
                have hb4s := hb4w.size
                clear hG4 hfirm hnS hb4w hblk4 hg4 ho4 hl4 hownW hlen4 hb4'
                go_wp2_with (first
                  | (at_builtin; refine wpList_append_own_at _ rfl _ _ 23 rfl w.heap.size 35 i2 (.slice none 0 0) 1 24 Tryd.underlying23 hi2 hx0 hx1 hx2 rfl (by decide) _ _ _ rfl (hown4.alloc _) ⟨w4.heap.size, 0, none⟩ 1 1 [.slice (some ⟨wf.heap.size, 0, none⟩) 1 1] rfl rfl (news1 _ _ _) (by intro u hu; simp at hu; rw [hu]; rfl) (by unfold maxLen; omega) (by omega) (by simp; omega) ?_))
                intro v5 w5 ho5 hg5 _ hl5
                have hG5 := grow_row HS.out.1 HS.out.2.1 HS.out.2.2.1 HS.out.2.2.2.2 (by simpa using ho5) hg5 (by simpa using hl5)
                have hb5 : Below w.heap.size w w5 := (HS.out.2.2.2.1.alloc hb4s _).grown hg5 (by simp; omega) (fun k hk => (HS.out.1.own.lt k hk).1)
                have hlist := hG5.list (by omega)
                have hpe : padded bn D mm ++ [[]] = padded bn D (mm + 1) := (padded_next bn D mm).symm
                have hz : layS (padded bn D mm ++ [[]] ++ [[((999 : Int), (1 : Int))]]) = ([], [], []) := not_may_long _ (by rw [List.length_append, HS.out.2.2.2.2]; simp)
                have HLL := Lib.hid (layC_any hlist (by rw [hpe]; exact more_full bn D (mm + 1) _ (by omega)) (HE.out.below hb5))
                rw [hz] at HLL
                have HB5 := Lib.hid hb5
                have hb5s := hb5.size
                clear hown4 hG5 hb5 hlist hpe hz hg5 ho5 hl5
                go_wp2_with fail
                refine HLL.out.mono ?_
                rintro e w6 ⟨ba', bn', bc', va', vn', vc', ka', kn', kc', rfl, hC6, hb6⟩
                have HEQ := Lib.hid (eqComb_any _ _ _ _ _ hC6 (zeroComb w6))
                rw [eqCombB_refl] at HEQ
                have hw6 := HB5.out.trans (hb6.mono hb5s)
                clear hC6 hb6
                go_wp2_with fail
                refine HEQ.out.mono ?_
                rintro e w7 ⟨rfl, hb7⟩
                have hw7 := hw6.trans (hb7.mono hw6.size)
                clear hb7 hw6
                go_wp2_with fail
                go_ret
                exact ⟨rfl, hw7⟩
              · have hblk := heap_alloc_new wf (.cells #[.int .i64 (999), .int .i64 1] 39)
                have hbiV := (Below.refl wf.heap.size wf).alloc (Nat.le_refl _) (.cells #[.int .i64 (999), .int .i64 1] 39)
                have hfirm := one_firm (o := wf.heap.size) (r := [((999 : Int), (1 : Int))]) (n := 1) rfl (by omega) hblk
                have hG0 := HQ.out.1.below hbiV
                have hnS : ∀ k, (Value.slice xa 399 xc).ownBlock = some k → ¬ k = wf.heap.size := fun k hk e => by
                  have := (HQ.out.1.own.lt k hk).2
                  omega
                have hownW := hG0.own
                rw [HQ.out.2.2.2.2.1] at hownW
                have HS := Lib.hid (And.intro hG0 (And.intro hfirm (And.intro hnS hbiV)))
                clear hblk hbiV hfirm hG0 hnS hown hbi
                go_wp2_with (first
                  | (go_at_call 17; (with_reducible refine (HN2.out _).mono ?_); rintro e w9 ⟨rfl, rfl⟩)
                  | (at_builtin; refine wpList_append_own_at _ rfl _ _ 23 rfl w.heap.size 35 i2 (.slice none 0 0) 1 24 Tryd.underlying23 hi2 hx0 hx1 hx2 rfl (by decide) _ _ _ rfl (hownW.alloc _) ⟨wf.heap.size + 1, 0, none⟩ 1 1 [.slice (some ⟨wf.heap.size, 0, none⟩) 1 1] rfl rfl (newsB _ _ _ _ (by simp)) (by intro u hu; simp at hu; rw [hu]; rfl) (by unfold maxLen; omega) (by omega) (by simp; omega) ?_))
                intro v5 w5 ho5 hg5 _ hl5
                have hG5 := grow_row HS.out.1 HS.out.2.1 HS.out.2.2.1 HQ.out.2.2.2.2.1 ho5 hg5 (by simpa using hl5)
                have hb5 : Below w.heap.size w w5 := ((HQ.out.2.1.trans (HS.out.2.2.2.mono hbs5)).alloc (by simp; omega) _).grown hg5 (by simp; omega) (fun k hk => (HQ.out.1.own.lt k hk).1)
                have hlist := hG5.list (by omega)
                have hpe : padded bn D mm = padded bn D mm := rfl
                have hn2 : ∀ j, bn ≤ j → j < 399 → rowAt (padded bn D mm ++ [[((999 : Int), (1 : Int))]]) j = [] := fun j h1 h2 => by
                  rw [more_at, HQ.out.2.2.2.2.1, if_pos h2, padded_at, if_neg (by omega)]
                obtain ⟨f1, f2, f3, f4⟩ := lay_more (rows := padded bn D mm ++ [[((999 : Int), (1 : Int))]]) (n := bn) (wide := D) hD1 (by omega) (by omega) (by rw [List.length_append, HQ.out.2.2.2.2.1]; rfl)
                  (fun j hj => ⟨_, by rw [more_at, HQ.out.2.2.2.2.1, if_pos (by omega), padded_at, if_pos hj]⟩) hn2 (by rw [more_at, HQ.out.2.2.2.2.1, if_neg (by omega), if_pos rfl])
                have HB6 := Lib.hid (laid_base4 (rows := padded bn D mm ++ [[((999 : Int), (1 : Int))]]) 399 f1 (by omega))
                have HLL := Lib.hid (layC_any hlist (more_full bn D mm _ (by omega)) (HE.out.below hb5))
                have hbox5 : w5.heap[bx]? = some (.cells #[.slice ba bn bc, .slice va vn vc, .slice ka kn kc] 30 (0, 0)) :=
                  (hg5.block bx (by simp; omega) (fun e => HQ.out.2.2.2.1 bx e.symm rfl)).trans ((Below.heap_alloc _ _ bx (by simp; omega)).trans ((Below.heap_alloc wf _ bx hbxl).trans HQ.out.2.2.1))
                have HB5 := Lib.hid (And.intro hb5 (And.intro hbox5 (And.intro f3 f4)))
                have hb5s := hb5.size
                clear hG5 hb5 hlist hpe hn2 f1 f2 f3 f4 hbox5 hg5 ho5 hl5 hownW
                go_wp2_with fail
                refine HLL.out.mono ?_
                rintro e w6 ⟨ba', bn', bc', va', vn', vc', ka', kn', kc', rfl, hC6, hb6⟩
                have hw6 := HB5.out.1.trans (hb6.mono hb5s)
                have hbox6 := block_below HB5.out.2.1 hb6 (lt_of_block HB5.out.2.1)
                obtain ⟨bq, vq, kq, eq, hI1, hI2, hI3⟩ := hC6
                obtain ⟨rfl, rfl, rfl⟩ : bq = .slice ba' bn' bc' ∧ vq = .slice va' vn' vc' ∧ kq = .slice ka' kn' kc' := by
                  injection eq with e2
                  have a0 := congrArg (fun a => a[0]?) e2
                  have a1 := congrArg (fun a => a[1]?) e2
                  have a2 := congrArg (fun a => a[2]?) e2
                  simp at a0 a1 a2
                  exact ⟨a0.symm, a1.symm, a2.symm⟩
                obtain ⟨_, _, _, x1, hbn', z1, z2, hbx'⟩ := hI1.open
                cases x1
                obtain ⟨_, _, _, x1, hkn', z3, z4, hkx'⟩ := hI3.open
                cases x1
                have hbn4 : bn' = 400 := by rw [hbn'.out]; exact HB5.out.2.2.1
                obtain ⟨b8, o8, rfl, c8⟩ := hbx'.out 399 (by omega)
                have hkn4 : (kn' : Int) = max (1000 + (layS (padded bn D mm ++ [[((999 : Int), (1 : Int))]])).1.getD 399 0) (kn : Int) := by
                  rw [hkn'.out, HMM.out]
                  exact HB5.out.2.2.2
                have hbase := HB6.out
                generalize (layS (padded bn D mm ++ [[((999 : Int), (1 : Int))]])).1.getD 399 0 = B9 at c8 hkn4 hbase
                have q0 : w6.cell? ⟨bx, 0, none⟩ = some (.slice ba bn bc) := cell_of_row _ _ _ _ _ _ hbox6
                have q1 : w6.cell? ⟨bx, 1, none⟩ = some (.slice va vn vc) := cell_of_row _ _ _ _ _ _ hbox6
                have q2 : w6.cell? ⟨bx, 2, none⟩ = some (.slice ka kn kc) := cell_of_row _ _ _ _ _ _ hbox6
                have g0 : w6.frozen? ⟨bx, 0, none⟩ = false := free_of_block hbox6
                have g1 : w6.frozen? ⟨bx, 1, none⟩ = false := free_of_block hbox6
                have g2 : w6.frozen? ⟨bx, 2, none⟩ = false := free_of_block hbox6
                have hM9 : ((bn' : Int) == 400) = true := by rw [hbn4]; rfl
                have hN9 : (399 : Int) < (bn' : Int) := by omega
                have hW9 : IntKind.i64.wrap (1000 + B9) = 1000 + B9 := by rw [IntWalk.i64_in _ ⟨by omega, by omega⟩]
                have hmaxI : (if (1000 + B9) < (kn : Int) then (kn : Int) else 1000 + B9) = (kn' : Int) := by
                  rw [hkn4]; simp only [Int.max_def]; split <;> split <;> omega
                have hbl6 := lt_of_block hbox6
                have HZ := Lib.hid (And.intro hw6 (And.intro hkn4 hbn4))
                clear hw6 hkn4 hbn4 hbn' hkn' hbx' hkx' hI1 hI2 hI3 eq z1 z2 z3 z4 hb6 hbox6
                go_wp2_with fail
                go_quiet (fail)
                go_wp2_with fail
                have heq9 : ((kn' : Int) == max (1000 + B9) (kn : Int)) = true := by rw [← HZ.out.2.1]; exact beq_self_eq_true _
                rw [heq9]
                have hr := HB5.out.1.size
                have hz1 := Go.below_drewN (((HZ.out.1.setCell (show w.heap.size ≤ (⟨bx, 0, none⟩ : Addr).block from HBX1.out) (.slice (some ⟨b8, o8, none⟩) bn' bc')).setCell (show w.heap.size ≤ (⟨bx, 1, none⟩ : Addr).block from HBX1.out) (.slice va' vn' vc')).setCell (show w.heap.size ≤ (⟨bx, 2, none⟩ : Addr).block from HBX1.out) (.slice ka' kn' kc')) nq
                go_ret
                exact ⟨rfl, hz1⟩
end Go.Proofs.YtjeebcnjdhlcfaaDoor
