/- The walk of the law GraphChains. -/
import Derived.Test.YtijnekbhpdcemaaDoorGrLaws1
import Derived.Test.YtijnekbhpdcemaaDoorGrTwo
namespace Go.Proofs.YtijnekbhpdcemaaDoor
open Go.RowKit
set_option linter.unusedVariables false
set_option linter.unusedSimpArgs false

def chainK (n : Nat) (ring : Bool) (k : Nat) : List (List Int) := (chainL n ring).take k
def onesK (n k : Nat) : List (List Int) := (ones n).take k
def wantK (n : Nat) (ring : Bool) (k : Nat) : List (List Int) := (wantL n ring).take k
def rowK (n : Nat) (ring : Bool) (i k : Nat) : List Int := (upTo k).filter (fun y => ring || decide ((i : Int) ≤ y))
def headOf (n : Nat) (ring : Bool) (k : Nat) : Int := if k + 1 = n ∧ ring = true then 0 else (k : Int) + 1
theorem take_snoc {α : Type} (l : List α) (k : Nat) (x z : α) (hk : k < l.length) (hx : l.getD k z = x) : l.take (k + 1) = l.take k ++ [x] := by
  rw [List.take_add_one, List.getElem?_eq_getElem hk]
  rw [List.getD_eq_getElem?_getD, List.getElem?_eq_getElem hk] at hx
  simp at hx
  simp [hx]
theorem chainK_next {n : Nat} {ring : Bool} {k : Nat} (hk : k < n) : chainK n ring (k + 1) = chainK n ring k ++ [[headOf n ring k]] := take_snoc _ k _ [] (by rw [chain_len]; exact hk) (chain_at hk)
theorem onesK_next {n k : Nat} (hk : k < n) : onesK n (k + 1) = onesK n k ++ [[(k : Int)]] := take_snoc _ k _ [] (by rw [ones_len]; exact hk) (ones_at hk)
theorem wantK_next {n : Nat} {ring : Bool} {k : Nat} (hk : k < n) : wantK n ring (k + 1) = wantK n ring k ++ [rowK n ring k n] := take_snoc _ k _ [] (by rw [want_len]; exact hk) (want_at hk)
theorem chainK_len {n : Nat} {ring : Bool} {k : Nat} (hk : k ≤ n) : (chainK n ring k).length = k := by unfold chainK; rw [List.length_take, chain_len]; omega
theorem onesK_len {n k : Nat} (hk : k ≤ n) : (onesK n k).length = k := by unfold onesK; rw [List.length_take, ones_len]; omega
theorem wantK_len {n : Nat} {ring : Bool} {k : Nat} (hk : k ≤ n) : (wantK n ring k).length = k := by unfold wantK; rw [List.length_take, want_len]; omega
theorem chainK_all (n : Nat) (ring : Bool) : chainK n ring n = chainL n ring := by unfold chainK; rw [List.take_of_length_le (by rw [chain_len]; omega)]
theorem onesK_all (n : Nat) : onesK n n = ones n := by unfold onesK; rw [List.take_of_length_le (by rw [ones_len]; omega)]
theorem wantK_all (n : Nat) (ring : Bool) : wantK n ring n = wantL n ring := by unfold wantK; rw [List.take_of_length_le (by rw [want_len]; omega)]
theorem rowK_next (n : Nat) (ring : Bool) (i k : Nat) : rowK n ring i (k + 1) = rowK n ring i k ++ (if ring = true ∨ i ≤ k then [(k : Int)] else []) := by
  unfold rowK
  have : upTo (k + 1) = upTo k ++ [(k : Int)] := by unfold upTo; rw [List.range_succ, List.map_append]; rfl
  rw [this, List.filter_append]
  congr 1
  by_cases h : ring = true ∨ i ≤ k
  · rw [if_pos h]
    rcases h with rfl | h
    · simp
    · simp [h]
  · rw [if_neg h]
    have h1 : ring = false := by cases ring <;> simp_all
    have h2 : ¬ i ≤ k := fun e => h (.inr e)
    simp [h1, h2]
theorem rowK_len (n : Nat) (ring : Bool) (i k : Nat) : (rowK n ring i k).length ≤ k := by
  unfold rowK
  exact Nat.le_trans (List.length_filter_le _ _) (by rw [upTo_len]; exact Nat.le_refl _)
theorem newsB (w : World) (a : Value) (t : TypeId) (B : Nat) (hB : B = w.heap.size) : ∀ j u, [a][j]? = some u → (w.alloc (.cells #[a] t)).cell? ((⟨B, 0, none⟩ : Addr).add j) = some u := by
  subst hB
  exact news1 w a t

set_option maxRecDepth 100000 in
set_option maxHeartbeats 16000000 in
theorem graphChains_walk (n : Int) (ring : Bool) (w0 : (Lit.int .i64 n).wf = true) (w : World) (hT : TabAt 0 Lib.deBruijn64tab w) :
    Calls Tryd.prog 10 #[.int .i64 n, .bool ring] w fun e w' => e = .returned (.bool true) ∧ Below w.heap.size w w' := by
  have HT := Lib.hid hT
  have hm1 := Int.emod_nonneg n (show (60 : Int) ≠ 0 by omega)
  have hm2 := Int.emod_lt_of_pos n (show (0 : Int) < 60 by omega)
  obtain ⟨N, hN⟩ : ∃ N : Nat, 1 + n % 60 = N := ⟨(1 + n % 60).toNat, by omega⟩
  have hN1 : 1 ≤ N := by omega
  have hN2 : N ≤ 60 := by omega
  have hwi := Lib.hid (fun W => within_60 n W w0)
  obtain ⟨i0, hi0, hz0, hz1, hz2⟩ := info_parts Tryd.infoRow
  obtain ⟨i1, hi1, hy0, hy1, hy2⟩ := info_parts Tryd.infoInt'
  clear hT w0
  go_enter Tryd.func10, Tryd.ntmps10
  go_wp2_with fail
  refine (grWakes_any _ HT.out).mono ?_
  rintro e w2 ⟨rfl, hb2⟩
  go_wp2_with fail
  refine (hwi.out _).mono ?_
  rintro e w3 ⟨rfl, rfl⟩
  have hs2 := hb2.size
  have HB2 := Lib.hid hb2
  clear hb2
  go_wp2_with fail
  clear hm1 hm2 hN
  go_loopw [5, 6, 8] (fun x y i W => ∃ (k : Nat) (vs us : List Value), k ≤ N ∧ i = .int .i64 k ∧ Two W w2.heap.size x vs (chainK N ring k) y us (onesK N k) ∧ Below w2.heap.size w2 W) (fun _ _ i _ => N - (intOf i).toNat)
  case atStart => exact ⟨0, [], [], Nat.zero_le _, rfl, Two.nil _ _, Below.refl _ _⟩
  case round =>
    obtain ⟨k, vs, us, hk, rfl, hTw, hb⟩ := hrel
    rename World => w4
    by_cases hlt : k < N
    · have hkI : (k : Int) < (N : Int) := by omega
      have hcl := chainK_len (ring := ring) (Nat.le_of_lt hlt)
      have hol := onesK_len (Nat.le_of_lt hlt)
      obtain ⟨xa, xc, hxe⟩ := owns_slice hTw.gx.own
      obtain ⟨ya, yc, hye⟩ := owns_slice hTw.gy.own
      rw [hcl] at hxe
      rw [hol] at hye
      subst hxe hye
      by_cases hl : k + 1 = N
      · have hl1 : ((k : Int) + 1) = (N : Int) := by omega
        cases ring with
        | true =>
          have hd : headOf N true k = 0 := by unfold headOf; rw [if_pos ⟨hl, rfl⟩]
          have hr5 : IntsV ((w4.alloc (.cells #[.int .i64 (N : Int)] 3)).alloc (.cells #[.int .i64 0] 3)) (.slice (some ⟨w4.heap.size + 1, 0, none⟩) 1 1) [headOf N true k] := by rw [hd]; exact ints1 (by simp)
          have hb5 : Below w4.heap.size w4 ((w4.alloc (.cells #[.int .i64 (N : Int)] 3)).alloc (.cells #[.int .i64 0] 3)) := (((Below.refl _ _).alloc (by simp) _).alloc (by simp) _)
          have hg5 : w4.heap.size + 1 < ((w4.alloc (.cells #[.int .i64 (N : Int)] 3)).alloc (.cells #[.int .i64 0] 3)).heap.size := by simp
          have hT5 := hTw.below hb5
          have hb25 : Below w2.heap.size w2 ((w4.alloc (.cells #[.int .i64 (N : Int)] 3)).alloc (.cells #[.int .i64 0] 3)) := hb.trans (hb5.mono hb.size)
          go_upto_region 11 with fail
          generalize (w4.alloc (.cells #[.int .i64 (N : Int)] 3)).alloc (.cells #[.int .i64 0] 3) = w5 at hr5 hb5 hg5 hT5 hb25 ⊢
          obtain ⟨g5, hG⟩ : ∃ g5, g5 = w4.heap.size + 1 := ⟨_, rfl⟩
          try rw [← hG] at hr5 hg5 ⊢
          have hg4 : w4.heap.size ≤ g5 := by omega
          clear hG hl hl1
          have hs5 := hb25.size
          have hox := hT5.gx.own
          rw [hcl] at hox
          have HA := Lib.hid (And.intro hr5 (And.intro hT5 (And.intro hb25 hTw)))
          clear hr5 hT5 hb25 hTw hb5 hb
          go_wp2_with (first | (at_builtin; refine wpList_append_own_at _ rfl _ _ 45 rfl w2.heap.size 22 i0 (.slice none 0 0) 1 24 Tryd.underlying45 hi0 hz0 hz1 hz2 rfl (by decide) _ _ _ rfl (hox.alloc _) ⟨w5.heap.size, 0, none⟩ 1 1 [.slice (some ⟨g5, 0, none⟩) 1 1] rfl rfl (news1 _ _ _) ?c2 ?c3 ?c4 ?c5 ?_))
          case c2 => intro x hx; simp at hx; rw [hx]; rfl
          case c3 => unfold maxLen; omega
          case c4 => omega
          case c5 => simp; omega
          intro x' w6 hox' hgrow _ hloc
          have hba := (Below.refl w5.heap.size w5).alloc (Nat.le_refl _) (.cells #[.slice (some ⟨g5, 0, none⟩) 1 1] 22)
          have hT6 := (HA.out.2.1.below hba).push (l := [headOf N true k]) (by rw [hcl]; exact hox') hgrow (by simpa using hloc) (HA.out.1.past _) (fun j hj => by
            have hjg : j = g5 := by simpa [Value.ownBlock] using hj.symm
            subst hjg
            refine ⟨by simp; omega, fun e => ?_, fun e => ?_⟩
            · have := (HA.out.2.2.2.gx.own.lt _ e).2; omega
            · have := (HA.out.2.2.2.gy.own.lt _ e).2; omega)
          rw [← chainK_next hlt] at hT6
          have hb26 : Below w2.heap.size w2 w6 := (HA.out.2.2.1.trans (hba.mono hs5)).grown hgrow (by simp; omega) (fun j hj => (hox.lt j hj).1)
          have hs6 := hb26.size
          obtain ⟨xa', xc', hxe'⟩ := owns_slice hT6.gx.own
          rw [chainK_len (ring := true) hlt] at hxe'
          subst hxe'
          have hoy := hT6.gy.own
          rw [hol] at hoy
          have HB := Lib.hid (And.intro hT6 hb26)
          clear hT6 hb26 hox hox' hgrow hloc hba HA
          go_wp2_with (first | (at_builtin; refine wpList_append_own_at _ rfl _ _ 45 rfl w2.heap.size 22 i0 (.slice none 0 0) 1 24 Tryd.underlying45 hi0 hz0 hz1 hz2 rfl (by decide) _ _ _ rfl ((hoy.alloc _).alloc _) ⟨w6.heap.size + 1, 0, none⟩ 1 1 [.slice (some ⟨w6.heap.size, 0, none⟩) 1 1] rfl rfl (newsB _ _ _ _ (by simp)) ?c2 ?c3 ?c4 ?c5 ?_))
          case c2 => intro x hx; simp at hx; rw [hx]; rfl
          case c3 => unfold maxLen; omega
          case c4 => omega
          case c5 => simp; omega
          intro y' w7 hoy' hgrow _ hloc
          have hba := ((Below.refl w6.heap.size w6).alloc (Nat.le_refl _) (.cells #[.int .i64 (k : Int)] 3)).alloc (by simp) (.cells #[.slice (some ⟨w6.heap.size, 0, none⟩) 1 1] 22)
          have hT7 := ((HB.out.1.below hba).swap.push (l := [(k : Int)]) (by rw [hol]; exact hoy') hgrow (by simpa using hloc) ((ints1 rfl).past _) (fun j hj => by
            have hjg : w6.heap.size = j := by simpa [Value.ownBlock] using hj
            refine ⟨by simp; omega, fun e => ?_, fun e => ?_⟩
            · have := (HB.out.1.gy.own.lt _ e).2; omega
            · have := (HB.out.1.gx.own.lt _ e).2; omega)).swap
          rw [← onesK_next hlt] at hT7
          have hb27 : Below w2.heap.size w2 w7 := (HB.out.2.trans (hba.mono hs6)).grown hgrow (by simp; omega) (fun j hj => (hoy.lt j hj).1)
          have HC := Lib.hid (And.intro hT7 hb27)
          clear hT7 hb27 hoy hoy' hgrow hloc hba HB
          have hkb : (k : Int) + 1 ≤ 9223372036854775807 := by omega
          go_wp2_with fail
          go_roundw
          case rel => exact ⟨k + 1, _, _, by omega, by go_num, HC.out.1, HC.out.2⟩
          case measure => simp [intOf]; omega
        | false =>
          have hd : headOf N false k = (N : Int) := by unfold headOf; rw [if_neg (fun h => by cases h.2)]; exact hl1
          have hr5 : IntsV (w4.alloc (.cells #[.int .i64 (N : Int)] 3)) (.slice (some ⟨w4.heap.size, 0, none⟩) 1 1) [headOf N false k] := by rw [hd]; exact ints1 (by simp)
          have hb5 : Below w4.heap.size w4 (w4.alloc (.cells #[.int .i64 (N : Int)] 3)) := ((Below.refl _ _).alloc (by simp) _)
          have hg5 : w4.heap.size < (w4.alloc (.cells #[.int .i64 (N : Int)] 3)).heap.size := by simp
          have hT5 := hTw.below hb5
          have hb25 : Below w2.heap.size w2 (w4.alloc (.cells #[.int .i64 (N : Int)] 3)) := hb.trans (hb5.mono hb.size)
          go_upto_region 11 with fail
          generalize w4.alloc (.cells #[.int .i64 (N : Int)] 3) = w5 at hr5 hb5 hg5 hT5 hb25 ⊢
          obtain ⟨g5, hG⟩ : ∃ g5, g5 = w4.heap.size := ⟨_, rfl⟩
          try rw [← hG] at hr5 hg5 ⊢
          have hg4 : w4.heap.size ≤ g5 := by omega
          clear hG hl hl1
          have hs5 := hb25.size
          have hox := hT5.gx.own
          rw [hcl] at hox
          have HA := Lib.hid (And.intro hr5 (And.intro hT5 (And.intro hb25 hTw)))
          clear hr5 hT5 hb25 hTw hb5 hb
          go_wp2_with (first | (at_builtin; refine wpList_append_own_at _ rfl _ _ 45 rfl w2.heap.size 22 i0 (.slice none 0 0) 1 24 Tryd.underlying45 hi0 hz0 hz1 hz2 rfl (by decide) _ _ _ rfl (hox.alloc _) ⟨w5.heap.size, 0, none⟩ 1 1 [.slice (some ⟨g5, 0, none⟩) 1 1] rfl rfl (news1 _ _ _) ?c2 ?c3 ?c4 ?c5 ?_))
          case c2 => intro x hx; simp at hx; rw [hx]; rfl
          case c3 => unfold maxLen; omega
          case c4 => omega
          case c5 => simp; omega
          intro x' w6 hox' hgrow _ hloc
          have hba := (Below.refl w5.heap.size w5).alloc (Nat.le_refl _) (.cells #[.slice (some ⟨g5, 0, none⟩) 1 1] 22)
          have hT6 := (HA.out.2.1.below hba).push (l := [headOf N false k]) (by rw [hcl]; exact hox') hgrow (by simpa using hloc) (HA.out.1.past _) (fun j hj => by
            have hjg : j = g5 := by simpa [Value.ownBlock] using hj.symm
            subst hjg
            refine ⟨by simp; omega, fun e => ?_, fun e => ?_⟩
            · have := (HA.out.2.2.2.gx.own.lt _ e).2; omega
            · have := (HA.out.2.2.2.gy.own.lt _ e).2; omega)
          rw [← chainK_next hlt] at hT6
          have hb26 : Below w2.heap.size w2 w6 := (HA.out.2.2.1.trans (hba.mono hs5)).grown hgrow (by simp; omega) (fun j hj => (hox.lt j hj).1)
          have hs6 := hb26.size
          obtain ⟨xa', xc', hxe'⟩ := owns_slice hT6.gx.own
          rw [chainK_len (ring := false) hlt] at hxe'
          subst hxe'
          have hoy := hT6.gy.own
          rw [hol] at hoy
          have HB := Lib.hid (And.intro hT6 hb26)
          clear hT6 hb26 hox hox' hgrow hloc hba HA
          go_wp2_with (first | (at_builtin; refine wpList_append_own_at _ rfl _ _ 45 rfl w2.heap.size 22 i0 (.slice none 0 0) 1 24 Tryd.underlying45 hi0 hz0 hz1 hz2 rfl (by decide) _ _ _ rfl ((hoy.alloc _).alloc _) ⟨w6.heap.size + 1, 0, none⟩ 1 1 [.slice (some ⟨w6.heap.size, 0, none⟩) 1 1] rfl rfl (newsB _ _ _ _ (by simp)) ?c2 ?c3 ?c4 ?c5 ?_))
          case c2 => intro x hx; simp at hx; rw [hx]; rfl
          case c3 => unfold maxLen; omega
          case c4 => omega
          case c5 => simp; omega
          intro y' w7 hoy' hgrow _ hloc
          have hba := ((Below.refl w6.heap.size w6).alloc (Nat.le_refl _) (.cells #[.int .i64 (k : Int)] 3)).alloc (by simp) (.cells #[.slice (some ⟨w6.heap.size, 0, none⟩) 1 1] 22)
          have hT7 := ((HB.out.1.below hba).swap.push (l := [(k : Int)]) (by rw [hol]; exact hoy') hgrow (by simpa using hloc) ((ints1 rfl).past _) (fun j hj => by
            have hjg : w6.heap.size = j := by simpa [Value.ownBlock] using hj
            refine ⟨by simp; omega, fun e => ?_, fun e => ?_⟩
            · have := (HB.out.1.gy.own.lt _ e).2; omega
            · have := (HB.out.1.gx.own.lt _ e).2; omega)).swap
          rw [← onesK_next hlt] at hT7
          have hb27 : Below w2.heap.size w2 w7 := (HB.out.2.trans (hba.mono hs6)).grown hgrow (by simp; omega) (fun j hj => (hoy.lt j hj).1)
          have HC := Lib.hid (And.intro hT7 hb27)
          clear hT7 hb27 hoy hoy' hgrow hloc hba HB
          have hkb : (k : Int) + 1 ≤ 9223372036854775807 := by omega
          go_wp2_with fail
          go_roundw
          case rel => exact ⟨k + 1, _, _, by omega, by go_num, HC.out.1, HC.out.2⟩
          case measure => simp [intOf]; omega
      · have hl1 : ¬ ((k : Int) + 1) = (N : Int) := by omega
        have hd : headOf N ring k = (k : Int) + 1 := by unfold headOf; rw [if_neg (fun h => hl h.1)]
        have hr5 : IntsV (w4.alloc (.cells #[.int .i64 ((k : Int) + 1)] 3)) (.slice (some ⟨w4.heap.size, 0, none⟩) 1 1) [headOf N ring k] := by rw [hd]; exact ints1 (by simp)
        have hb5 : Below w4.heap.size w4 (w4.alloc (.cells #[.int .i64 ((k : Int) + 1)] 3)) := ((Below.refl _ _).alloc (by simp) _)
        have hg5 : w4.heap.size < (w4.alloc (.cells #[.int .i64 ((k : Int) + 1)] 3)).heap.size := by simp
        have hT5 := hTw.below hb5
        have hb25 : Below w2.heap.size w2 (w4.alloc (.cells #[.int .i64 ((k : Int) + 1)] 3)) := hb.trans (hb5.mono hb.size)
        go_upto_region 11 with fail
        generalize w4.alloc (.cells #[.int .i64 ((k : Int) + 1)] 3) = w5 at hr5 hb5 hg5 hT5 hb25 ⊢
        obtain ⟨g5, hG⟩ : ∃ g5, g5 = w4.heap.size := ⟨_, rfl⟩
        try rw [← hG] at hr5 hg5 ⊢
        have hg4 : w4.heap.size ≤ g5 := by omega
        clear hG hl hl1
        have hs5 := hb25.size
        have hox := hT5.gx.own
        rw [hcl] at hox
        have HA := Lib.hid (And.intro hr5 (And.intro hT5 (And.intro hb25 hTw)))
        clear hr5 hT5 hb25 hTw hb5 hb
        go_wp2_with (first | (at_builtin; refine wpList_append_own_at _ rfl _ _ 45 rfl w2.heap.size 22 i0 (.slice none 0 0) 1 24 Tryd.underlying45 hi0 hz0 hz1 hz2 rfl (by decide) _ _ _ rfl (hox.alloc _) ⟨w5.heap.size, 0, none⟩ 1 1 [.slice (some ⟨g5, 0, none⟩) 1 1] rfl rfl (news1 _ _ _) ?c2 ?c3 ?c4 ?c5 ?_))
        case c2 => intro x hx; simp at hx; rw [hx]; rfl
        case c3 => unfold maxLen; omega
        case c4 => omega
        case c5 => simp; omega
        intro x' w6 hox' hgrow _ hloc
        have hba := (Below.refl w5.heap.size w5).alloc (Nat.le_refl _) (.cells #[.slice (some ⟨g5, 0, none⟩) 1 1] 22)
        have hT6 := (HA.out.2.1.below hba).push (l := [headOf N ring k]) (by rw [hcl]; exact hox') hgrow (by simpa using hloc) (HA.out.1.past _) (fun j hj => by
          have hjg : j = g5 := by simpa [Value.ownBlock] using hj.symm
          subst hjg
          refine ⟨by simp; omega, fun e => ?_, fun e => ?_⟩
          · have := (HA.out.2.2.2.gx.own.lt _ e).2; omega
          · have := (HA.out.2.2.2.gy.own.lt _ e).2; omega)
        rw [← chainK_next hlt] at hT6
        have hb26 : Below w2.heap.size w2 w6 := (HA.out.2.2.1.trans (hba.mono hs5)).grown hgrow (by simp; omega) (fun j hj => (hox.lt j hj).1)
        have hs6 := hb26.size
        obtain ⟨xa', xc', hxe'⟩ := owns_slice hT6.gx.own
        rw [chainK_len (ring := ring) hlt] at hxe'
        subst hxe'
        have hoy := hT6.gy.own
        rw [hol] at hoy
        have HB := Lib.hid (And.intro hT6 hb26)
        clear hT6 hb26 hox hox' hgrow hloc hba HA
        go_wp2_with (first | (at_builtin; refine wpList_append_own_at _ rfl _ _ 45 rfl w2.heap.size 22 i0 (.slice none 0 0) 1 24 Tryd.underlying45 hi0 hz0 hz1 hz2 rfl (by decide) _ _ _ rfl ((hoy.alloc _).alloc _) ⟨w6.heap.size + 1, 0, none⟩ 1 1 [.slice (some ⟨w6.heap.size, 0, none⟩) 1 1] rfl rfl (newsB _ _ _ _ (by simp)) ?c2 ?c3 ?c4 ?c5 ?_))
        case c2 => intro x hx; simp at hx; rw [hx]; rfl
        case c3 => unfold maxLen; omega
        case c4 => omega
        case c5 => simp; omega
        intro y' w7 hoy' hgrow _ hloc
        have hba := ((Below.refl w6.heap.size w6).alloc (Nat.le_refl _) (.cells #[.int .i64 (k : Int)] 3)).alloc (by simp) (.cells #[.slice (some ⟨w6.heap.size, 0, none⟩) 1 1] 22)
        have hT7 := ((HB.out.1.below hba).swap.push (l := [(k : Int)]) (by rw [hol]; exact hoy') hgrow (by simpa using hloc) ((ints1 rfl).past _) (fun j hj => by
          have hjg : w6.heap.size = j := by simpa [Value.ownBlock] using hj
          refine ⟨by simp; omega, fun e => ?_, fun e => ?_⟩
          · have := (HB.out.1.gy.own.lt _ e).2; omega
          · have := (HB.out.1.gx.own.lt _ e).2; omega)).swap
        rw [← onesK_next hlt] at hT7
        have hb27 : Below w2.heap.size w2 w7 := (HB.out.2.trans (hba.mono hs6)).grown hgrow (by simp; omega) (fun j hj => (hoy.lt j hj).1)
        have HC := Lib.hid (And.intro hT7 hb27)
        clear hT7 hb27 hoy hoy' hgrow hloc hba HB
        have hkb : (k : Int) + 1 ≤ 9223372036854775807 := by omega
        go_wp2_with fail
        go_roundw
        case rel => exact ⟨k + 1, _, _, by omega, by go_num, HC.out.1, HC.out.2⟩
        case measure => simp [intOf]; omega
    · obtain rfl : k = N := by omega
      rw [chainK_all, onesK_all] at hTw
      have hrx := hTw.gx.toRows
      have hry := hTw.gy.toRows
      have hcl := chain_len k ring
      have hol := ones_len k
      obtain ⟨xa, xc, hxe⟩ := owns_slice hTw.gx.own
      obtain ⟨ya, yc, hye⟩ := owns_slice hTw.gy.own
      rw [hcl] at hxe
      rw [hol] at hye
      subst hxe hye
      have HXY := Lib.hid (And.intro hrx hry)
      have HB4 := Lib.hid (HB2.out.trans (hb.mono hs2))
      have hs4 := hb.size
      clear hrx hry hcl hol hTw hb
      go_wp2_with fail
      go_loopw [7, 10] (fun z i W => ∃ (c : Nat) (ts : List Value), c ≤ k ∧ i = .int .i64 c ∧ GrowV W w4.heap.size z ts (wantK k ring c) ∧ Below w4.heap.size w4 W) (fun _ i _ => k - (intOf i).toNat)
      case atStart => exact ⟨0, [], Nat.zero_le _, rfl, GrowV.nil _ _, Below.refl _ _⟩
      case round =>
        obtain ⟨c, ts, hc, rfl, hG, hb⟩ := hrel
        rename World => w8
        by_cases hclt : c < k
        · have hcI : (c : Int) < (k : Int) := by omega
          have hwl := wantK_len (ring := ring) (Nat.le_of_lt hclt)
          obtain ⟨za, zc, hze⟩ := owns_slice hG.own
          rw [hwl] at hze
          subst hze
          have hs8 := hb.size
          have HG := Lib.hid (And.intro hG hb)
          clear hG hb
          go_wp2_with fail
          go_loopw [11, 12] (fun l j W => ∃ (m : Nat), m ≤ k ∧ j = .int .i64 m ∧ W.ownsRow w8.heap.size 3 1 l (rowK k ring c m).length ((rowK k ring c m).map (.int .i64)) ∧ Below w8.heap.size w8 W) (fun _ j _ => k - (intOf j).toNat)
          case atStart => exact ⟨0, Nat.zero_le _, rfl, World.ownsRow_nil _ _ _ _, Below.refl _ _⟩
          case round =>
            obtain ⟨m, hm, rfl, hl, hb⟩ := hrel
            rename World => w9
            by_cases hmk : m < k
            · have hmI : (m : Int) < (k : Int) := by omega
              have hlen := rowK_len k ring c m
              have hnx := rowK_next k ring c m
              obtain ⟨la, lc, hle⟩ := owns_slice hl
              subst hle
              have hsb := hb.size
              have HBL := Lib.hid (And.intro hb hl)
              have hkb : (m : Int) + 1 ≤ 9223372036854775807 := by omega
              by_cases hp : ring = true ∨ c ≤ m
              · rw [if_pos hp] at hnx
                have HNX := Lib.hid hnx
                have hl2 := hl.alloc (.cells #[.int .i64 (m : Int)] 3)
                generalize hrl : (rowK k ring c m).length = rl at hl2 hlen ⊢
                have HRL := Lib.hid hrl
                have HL2 := Lib.hid hl2
                clear hb hnx hl hrl hl2
                have go_on : ∀ (z' : Value) (w10 : World), w10.ownsRow w8.heap.size 3 1 z' (rl + 1) ((rowK k ring c m).map (.int .i64) ++ [.int .i64 (m : Int)]) → Below w8.heap.size w8 w10 →
                    w10.ownsRow w8.heap.size 3 1 z' (rowK k ring c (m + 1)).length ((rowK k ring c (m + 1)).map (.int .i64)) := fun z' w10 h1 h2 => by
                  rw [HNX.out, List.length_append, List.map_append, HRL.out]
                  exact h1
                have HGO := Lib.hid go_on
                clear go_on
                cases ring with
                | true =>
                  go_wp2_with (first | (at_builtin; refine wpList_append_own_at _ rfl _ _ 22 rfl w8.heap.size 3 i1 (.int .i64 0) 1 8 Tryd.underlying22 hi1 hy0 hy1 hy2 rfl (by decide) _ _ _ rfl HL2.out ⟨w9.heap.size, 0, none⟩ 1 1 [.int .i64 (m : Int)] rfl rfl (news1 _ _ _) ?f21 ?f31 ?f41 ?f51 ?_))
                  case f21 => first | rfl | (intro x hx; simp at hx; rw [hx]; rfl)
                  case f31 => unfold maxLen; omega
                  case f41 => omega
                  case f51 => first | omega | (simp; omega)
                  intro z' w10 hz' hgrow _ hloc
                  have hb10 : Below w8.heap.size w8 w10 := (HBL.out.1.alloc hsb (.cells #[.int .i64 (m : Int)] 3)).grown hgrow (by simp; omega) (fun j hj => (HBL.out.2.lt j (by rw [HRL.out]; exact hj)).1)
                  have HZ := Lib.hid (And.intro (HGO.out z' w10 hz' hb10) hb10)
                  clear hz' hgrow hloc hb10
                  go_wp2_with fail
                  go_roundw
                  case rel => exact ⟨m + 1, by omega, by go_num, HZ.out.1, HZ.out.2⟩
                  case measure => simp [intOf]; omega
                | false =>
                  have hcm : c ≤ m := by rcases hp with h | h; exact absurd h (by decide); exact h
                  have hcmI : (c : Int) ≤ (m : Int) := by omega
                  go_wp2_with (first | (at_builtin; refine wpList_append_own_at _ rfl _ _ 22 rfl w8.heap.size 3 i1 (.int .i64 0) 1 8 Tryd.underlying22 hi1 hy0 hy1 hy2 rfl (by decide) _ _ _ rfl HL2.out ⟨w9.heap.size, 0, none⟩ 1 1 [.int .i64 (m : Int)] rfl rfl (news1 _ _ _) ?f22 ?f32 ?f42 ?f52 ?_))
                  case f22 => first | rfl | (intro x hx; simp at hx; rw [hx]; rfl)
                  case f32 => unfold maxLen; omega
                  case f42 => omega
                  case f52 => first | omega | (simp; omega)
                  intro z' w10 hz' hgrow _ hloc
                  have hb10 : Below w8.heap.size w8 w10 := (HBL.out.1.alloc hsb (.cells #[.int .i64 (m : Int)] 3)).grown hgrow (by simp; omega) (fun j hj => (HBL.out.2.lt j (by rw [HRL.out]; exact hj)).1)
                  have HZ := Lib.hid (And.intro (HGO.out z' w10 hz' hb10) hb10)
                  clear hz' hgrow hloc hb10
                  go_wp2_with fail
                  go_roundw
                  case rel => exact ⟨m + 1, by omega, by go_num, HZ.out.1, HZ.out.2⟩
                  case measure => simp [intOf]; omega
              · rw [if_neg hp, List.append_nil] at hnx
                have hr : ring = false := by cases ring <;> simp_all
                have hcm : ¬ c ≤ m := fun e => hp (.inr e)
                have hcmI : ¬ (c : Int) ≤ (m : Int) := by omega
                subst hr
                clear hb hl hp
                go_wp2_with fail
                go_roundw
                case rel => exact ⟨m + 1, by omega, by go_num, by rw [hnx]; exact HBL.out.2, HBL.out.1⟩
                case measure => simp [intOf]; omega
            · obtain rfl : m = k := by omega
              have hwn := wantK_next (ring := ring) hclt
              have hrl := rowK_len m ring c m
              obtain ⟨la, lc, hle⟩ := owns_slice hl
              subst hle
              generalize hrr : (rowK m ring c m).length = rl at hrl ⊢
              have HR9 := Lib.hid (IntsV.of_owns hl)
              have HO9 := Lib.hid hl
              have hG9 := HG.out.1.below hb
              have hoz := hG9.own
              rw [hwl] at hoz
              have hb89 := hb
              have hs9 : w4.heap.size ≤ w9.heap.size := Nat.le_trans hs8 hb.size
              have HA := Lib.hid (And.intro hG9 (And.intro hb89 (And.intro hrr hwn)))
              have hoz2 := hoz.alloc (.cells #[.slice la rl lc] 22)
              clear hl hb hb89 hG9 hwn
              go_wp2_with (first | (at_builtin; refine wpList_append_own_at _ rfl _ _ 45 rfl w4.heap.size 22 i0 (.slice none 0 0) 1 24 Tryd.underlying45 hi0 hz0 hz1 hz2 rfl (by decide) _ _ _ rfl hoz2 ⟨w9.heap.size, 0, none⟩ 1 1 [.slice la rl lc] rfl rfl (news1 _ _ _) ?g2 ?g3 ?g4 ?g5 ?_))
              case g2 => first | rfl | (intro x hx; simp at hx; rw [hx]; rfl)
              case g3 => unfold maxLen; omega
              case g4 => omega
              case g5 => first | omega | (simp; omega)
              intro z' w11 hoz' hgrow _ hloc
              have hba := (Below.refl w9.heap.size w9).alloc (Nat.le_refl _) (.cells #[.slice la rl lc] 22)
              have hG11 := (HA.out.1.below hba).push (l := rowK m ring c m) (by rw [hwl]; exact hoz') hgrow (by simpa using hloc) (by rw [← HA.out.2.2.1]; exact HR9.out.past _) (fun j hj => by
                have h1 := HO9.out.lt j (by rw [HA.out.2.2.1]; exact hj)
                refine ⟨by simp; omega, fun e => ?_⟩
                have := (HG.out.1.own.lt _ e).2; omega)
              rw [← HA.out.2.2.2] at hG11
              have hb11 : Below w4.heap.size w4 w11 := ((HG.out.2.trans (HA.out.2.1.mono hs8)).alloc hs9 (.cells #[.slice la rl lc] 22)).grown hgrow (by simp; omega) (fun j hj => (hoz.lt j hj).1)
              have HZ := Lib.hid (And.intro hG11 hb11)
              clear hG11 hb11 hba hoz' hgrow hloc hoz hoz2 HA HO9 HR9
              have hkb : (c : Int) + 1 ≤ 9223372036854775807 := by omega
              go_wp2_with fail
              go_roundw
              case rel => exact ⟨c + 1, _, by omega, by go_num, HZ.out.1, HZ.out.2⟩
              case measure => simp [intOf]; omega
        · obtain rfl : c = k := by omega
          rw [wantK_all] at hG
          have hrz := hG.toRows
          obtain ⟨za, zc, hze⟩ := owns_slice hG.own
          rw [want_len] at hze
          subst hze
          have HZ := Lib.hid hrz
          have HB8 := Lib.hid hb
          have HX8 := Lib.hid (HXY.out.1.below hb)
          have HY8 := Lib.hid (HXY.out.2.below hb)
          have HW8 := Lib.hid (HB4.out.trans (hb.mono HB4.out.size))
          clear hG hrz hb HXY HB4
          go_wp2_with fail
          refine (comps_all (chainL c ring) _ _ HX8.out (by rw [chain_len]; omega)).mono ?_
          rintro e w9 ⟨⟨gv, G, rfl, hgv, hG, _⟩, hb9⟩
          have hGi := hG (by rw [chain_len]; omega)
          have hcl : ∀ W, Below w8.heap.size w8 W → Calls Tryd.prog 33 #[.slice xa c xc, .slice ya c yc] W (ClosePostG (chainL c ring) (ones c) W) := fun W hW =>
            closeG_any (chainL c ring) (ones c) _ _ W (HX8.out.below hW) (HY8.out.below hW) (by rw [chain_len]; omega) (tab_past HT.out (HW8.out.trans (hW.mono HW8.out.size)))
          have HCL := Lib.hid hcl
          have HB9 := Lib.hid hb9
          have HZ9 := Lib.hid (HZ.out.below hb9)
          have hcc : ((c : Int) == (c : Int)) = true := by simp
          clear hG hcl hb9
          obtain ⟨ga, gn, gc, rfl, hgn, hgc, hgm, hgx⟩ := hgv.open
          cases ring with
          | true =>
            obtain rfl := isComps_one hGi (ring_comps (by omega))
            obtain rfl : gn = 1 := hgn.out
            obtain ⟨gb, go, gu, rfl, hg1, hg2⟩ := hgx.out 0 (by omega)
            obtain ⟨ua, un, uc, rfl, hun, _, _, _⟩ := hg2.open
            obtain rfl : un = c := by have e := hun.out; rw [show ([upTo c] : List (List Int)).getD 0 [] = upTo c from rfl, upTo_len] at e; exact e
            rw [Nat.add_zero] at hg1
            clear hgv hGi hgx hg2 hgn hun
            go_wp2_with fail
            refine (HCL.out _ HB9.out).mono ?_
            rintro e w10 ⟨⟨dv, D, rfl, hdv, hD, _⟩, hb10⟩
            obtain rfl := isClose_one (hD (by rw [chain_len]; omega)) (want_close (by omega))
            have HDV := Lib.hid hdv
            have HZ10 := Lib.hid (HZ9.out.below hb10)
            have HW10 := Lib.hid (HW8.out.trans ((HB9.out.trans (hb10.mono HB9.out.size)).mono HW8.out.size))
            clear hdv hD hb10
            go_wp2_with fail
            refine (eqLists_any _ _ (wantL un true) (wantL un true) _ HDV.out HZ10.out).mono ?_
            rintro e w11 ⟨rfl, hb11⟩
            rw [show (wantL un true == wantL un true) = true from beq_self_eq_true _]
            have hbe := HW10.out.trans (hb11.mono HW10.out.size)
            clear hb11
            go_wp2_with fail
            go_ret
            exact ⟨rfl, hbe⟩
          | false =>
            obtain rfl := isComps_one hGi (chain_comps c)
            obtain rfl : gn = c := by have e := hgn.out; rw [ones_len] at e; exact e
            clear hgv hGi hgx hgn
            go_wp2_with fail
            refine (HCL.out _ HB9.out).mono ?_
            rintro e w10 ⟨⟨dv, D, rfl, hdv, hD, _⟩, hb10⟩
            obtain rfl := isClose_one (hD (by rw [chain_len]; omega)) (want_close (by omega))
            have HDV := Lib.hid hdv
            have HZ10 := Lib.hid (HZ9.out.below hb10)
            have HW10 := Lib.hid (HW8.out.trans ((HB9.out.trans (hb10.mono HB9.out.size)).mono HW8.out.size))
            clear hdv hD hb10
            go_wp2_with fail
            refine (eqLists_any _ _ (wantL gn false) (wantL gn false) _ HDV.out HZ10.out).mono ?_
            rintro e w11 ⟨rfl, hb11⟩
            rw [show (wantL gn false == wantL gn false) = true from beq_self_eq_true _]
            have hbe := HW10.out.trans (hb11.mono HW10.out.size)
            clear hb11
            go_wp2_with fail
            go_ret
            exact ⟨rfl, hbe⟩

end Go.Proofs.YtijnekbhpdcemaaDoor
