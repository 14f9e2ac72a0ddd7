/- The document's Set once more: what it tells is new. -/
import Derived.Test.YtijnekbhpdcemaaDoorSetRef
import Derived.Test.YtijnekbhpdcemaaDoorGrPut
import Derived.Test.YtijnekbhpdcemaaDoorGrReachW
import Derived.Test.YtijnekbhpdcemaaDoorGrGrow
import Derived.Test.YtijnekbhpdcemaaDoorGrComps3
namespace Go.Proofs.YtijnekbhpdcemaaDoor
section
open Go.RowKit
set_option linter.unusedVariables false
set_option linter.unusedSimpArgs false

def TellsNew (l : List Int) (w : World) (e : Ending) (w' : World) : Prop := (∃ v, e = .returned v ∧ IntsV w' v l ∧ ∀ k, v.ownBlock = some k → w.heap.size ≤ k ∧ k < w'.heap.size) ∧ Below w.heap.size w w'

set_option maxRecDepth 100000 in
theorem set2_any (v : Value) (l : List Int) (w : World) (h : IntsV w v l) (hl : l.length ≤ 1000000) :
    Calls Tryd.prog 15 #[v] w (TellsNew (membersS (ofS l)) w) := by
  obtain ⟨a, n, c, rfl, hn, hnc, hc, hx⟩ := h.open
  have h' := Lib.hid h
  clear h
  have hn6 : n ≤ 1000000 := by rw [hn.out]; exact hl
  clear hl
  go_enter Tryd.func15, Tryd.ntmps15
  go_wp2_with (fail)
  go_loopw [3, 4] (fun x i wr => ∃ (k : Nat) (r : List Int), k ≤ n ∧ i = .int .i64 k ∧ Hid (SetTo l r k) ∧ Hid (IntsV wr x r) ∧ Hid (∀ kk, x.ownBlock = some kk → w.heap.size ≤ kk ∧ kk < wr.heap.size) ∧ Below w.heap.size w wr) (fun _ i _ => n - (intOf i).toNat)
  case atStart => exact ⟨0, [], Nat.zero_le _, rfl, Lib.hid ⟨List.Pairwise.nil, fun y => by simp, Nat.zero_le _⟩, Lib.hid (IntsV.nil _), Lib.hid (fun kk hkk => by cases hkk), Below.refl _ _⟩
  case round =>
    obtain ⟨k, r, hk, rfl, hs, hr, hfx, hb⟩ := hrel
    by_cases hlt : k < n
    · obtain ⟨b, o, rfl, c1⟩ := hx.out k hlt
      have c2 : wr.cell? ⟨b, o + k, none⟩ = some (.int .i64 (l.getD k 0)) := by rw [hb.cell (World.block_lt_of_cell? _ _ c1)]; exact c1
      clear c1
      by_cases hy : 0 ≤ l.getD k 0 ∧ l.getD k 0 < 1024
      · have hst := Lib.hid (fun r' hp => setTo_step (r' := r') hs.out (by have := hn.out; omega) hy hp)
        have hy0 := hy.1
        have hy1 := hy.2
        clear hy
        generalize l.getD k 0 = y at c2 hst hy0 hy1
        go_wp2_with (fail)
        refine (zput2_any _ r y _ hr.out (by have := hs.out.2.2; omega)).mono ?_
        rintro e w2 ⟨⟨v', r', rfl, hp, hv', ho'⟩, hb2⟩
        have HF : Hid (∀ kk, v'.ownBlock = some kk → w.heap.size ≤ kk ∧ kk < w2.heap.size) := Lib.hid (fun kk hkk => by
          rcases ho' with e | ⟨n9, xs9, e⟩
          · have h2 := hfx.out kk (by rw [← e]; exact hkk)
            exact ⟨h2.1, Nat.lt_of_lt_of_le h2.2 hb2.size⟩
          · have h2 := e.lt kk hkk
            exact ⟨Nat.le_trans hb.size h2.1, h2.2⟩)
        clear ho'
        have HV := Lib.hid hv'
        have HP := Lib.hid hp
        clear hv' hp
        go_wp2_with (fail)
        go_roundw
        case rel => exact ⟨k + 1, r', by omega, by go_num, Lib.hid (hst.out r' HP.out), HV, HF, hb.trans (hb2.mono hb.size)⟩
        case measure => simp [intOf]; omega
      · have hst := Lib.hid (setTo_skip hs.out (by have := hn.out; omega) hy)
        by_cases hy0 : 0 ≤ l.getD k 0
        · have hy1 : ¬ l.getD k 0 < 1024 := fun h => hy ⟨hy0, h⟩
          clear hy
          generalize l.getD k 0 = y at c2 hy0 hy1
          go_wp2_with (fail)
          go_roundw
          case rel => exact ⟨k + 1, r, by omega, by go_num, hst, hr, hfx, hb⟩
          case measure => simp [intOf]; omega
        · clear hy
          generalize l.getD k 0 = y at c2 hy0
          go_wp2_with (fail)
          go_roundw
          case rel => exact ⟨k + 1, r, by omega, by go_num, hst, hr, hfx, hb⟩
          case measure => simp [intOf]; omega
    · go_wp2_with (fail)
      go_ret
      exact ⟨⟨_, rfl, by rw [← setTo_end hs.out (by have := hn.out; omega)]; exact hr.out, hfx.out⟩, hb⟩
end

section
open Go.RowKit
set_option linter.unusedVariables false
set_option linter.unusedSimpArgs false

structure IsClose (L S C : List (List Int)) : Prop where
  len : C.length = L.length
  row : ∀ i : Nat, i < L.length → Rising (C.getD i []) ∧ ∀ y, y ∈ C.getD i [] ↔ 0 ≤ y ∧ y < 1024 ∧ ∃ r, Reaches L i r ∧ y ∈ S.getD r.toNat []
theorem isClose_one {L S C D : List (List Int)} (hC : IsClose L S C) (hD : IsClose L S D) : C = D := by
  apply List.ext_getElem (by rw [hC.len, hD.len])
  intro i h1 h2
  have hi : i < L.length := by rw [← hC.len]; exact h1
  obtain ⟨a1, a2⟩ := hC.row i hi
  obtain ⟨b1, b2⟩ := hD.row i hi
  have := rising_ext a1 b1 (fun y => by rw [a2, b2])
  rw [List.getD_eq_getElem?_getD, List.getD_eq_getElem?_getD, List.getElem?_eq_getElem h1, List.getElem?_eq_getElem h2] at this
  simpa using this
def ClosePostG (L S : List (List Int)) (w : World) (e : Ending) (w' : World) : Prop :=
  (∃ v C, e = .returned v ∧ RowsV w' v C ∧ (L.length ≤ 4000 → IsClose L S C) ∧ (4000 < L.length → C = [])) ∧ Below w.heap.size w w'

def acc (S : List (List Int)) (rl : List Int) (k : Nat) : List Int := (rl.take k).flatMap (fun r => S.getD r.toNat [])
theorem acc_next (S : List (List Int)) (rl : List Int) (k : Nat) (hk : k < rl.length) : acc S rl (k + 1) = acc S rl k ++ S.getD (rl.getD k 0).toNat [] := by
  unfold acc
  rw [List.take_add_one, List.getElem?_eq_getElem hk, List.flatMap_append, List.getD_eq_getElem?_getD (l := rl), List.getElem?_eq_getElem hk]
  simp
theorem acc_len {S : List (List Int)} {rl : List Int} (hS : ∀ i, (S.getD i []).length ≤ 1000) : ∀ k, (acc S rl k).length ≤ k * 1000
  | 0 => by simp [acc]
  | k + 1 => by
    by_cases h : k < rl.length
    · rw [acc_next S rl k h, List.length_append]
      exact Nat.le_trans (Nat.add_le_add (acc_len (rl := rl) hS k) (hS (rl.getD k 0).toNat)) (by rw [Nat.add_mul, Nat.one_mul]; exact Nat.le_refl _)
    · have : acc S rl (k + 1) = acc S rl k := by unfold acc; rw [List.take_of_length_le (by omega), List.take_of_length_le (by omega)]
      rw [this]
      exact Nat.le_trans (acc_len (rl := rl) hS k) (Nat.mul_le_mul_right _ (Nat.le_succ k))
theorem mem_acc (S : List (List Int)) (rl : List Int) (y : Int) : y ∈ acc S rl rl.length ↔ ∃ r, r ∈ rl ∧ y ∈ S.getD r.toNat [] := by
  unfold acc
  rw [List.take_length, List.mem_flatMap]
theorem close_row {L S : List (List Int)} {i : Nat} {rl : List Int} (h : ∀ j, j ∈ rl ↔ Reaches L i j) : Rising (membersS (ofS (acc S rl rl.length))) ∧ ∀ y, y ∈ membersS (ofS (acc S rl rl.length)) ↔ 0 ≤ y ∧ y < 1024 ∧ ∃ r, Reaches L i r ∧ y ∈ S.getD r.toNat [] :=
  ⟨members_rising _, fun y => by
    rw [mem_members, memS_ofS, mem_acc]
    exact ⟨fun ⟨a, b, r, c, d⟩ => ⟨a, b, r, (h r).1 c, d⟩, fun ⟨a, b, r, c, d⟩ => ⟨a, b, r, (h r).2 c, d⟩⟩⟩
theorem close_next {L S C : List (List Int)} {k : Nat} {l : List Int} (hl : C.length = k) (h : ∀ i : Nat, i < k → Rising (C.getD i []) ∧ ∀ y, y ∈ C.getD i [] ↔ 0 ≤ y ∧ y < 1024 ∧ ∃ r, Reaches L i r ∧ y ∈ S.getD r.toNat [])
    (hk : Rising l ∧ ∀ y, y ∈ l ↔ 0 ≤ y ∧ y < 1024 ∧ ∃ r, Reaches L k r ∧ y ∈ S.getD r.toNat []) : ∀ i : Nat, i < k + 1 → Rising ((C ++ [l]).getD i []) ∧ ∀ y, y ∈ (C ++ [l]).getD i [] ↔ 0 ≤ y ∧ y < 1024 ∧ ∃ r, Reaches L i r ∧ y ∈ S.getD r.toNat [] := fun i hi => by
  rw [getD_snoc C l [] i (by omega), hl]
  by_cases e : i < k
  · rw [if_pos e]; exact h i e
  · rw [if_neg e]
    obtain rfl : i = k := by omega
    exact hk

set_option maxHeartbeats 8000000 in
set_option maxRecDepth 100000 in
theorem refClose_any (L S : List (List Int)) (rv sv : Value) (w : World) (h : RowsV w rv L) (hs : RowsV w sv S) (hn : L.length ≤ 1000) (hsl : S.length ≤ 1000) (hS : ∀ i, (S.getD i []).length ≤ 1000) :
    Calls Tryd.prog 34 #[rv, sv] w (ClosePostG L S w) := by
  obtain ⟨ra, rn, rc, rfl, hrn, hrc, hrm, hrx⟩ := h.open
  obtain rfl : rn = L.length := hrn.out
  obtain ⟨sa, sn, sc, rfl, hsn, hsc, hsm, hsx⟩ := hs.open
  obtain rfl : sn = S.length := hsn.out
  have hbI : ¬ (4000 : Int) < (L.length : Int) := by omega
  have HRV := Lib.hid h
  have HSV := Lib.hid hs
  have HSL := Lib.hid hS
  obtain ⟨i0, hi0, hz0, hz1, hz2⟩ := info_parts Tryd.infoRow
  obtain ⟨i1, hi1, hy0, hy1, hy2⟩ := info_parts Tryd.infoInt'
  clear hrx h hrn hrc hrm hsx hs hsn hsc hsm hS
  go_enter Tryd.func34, Tryd.ntmps34
  go_wp2_with (fail)
  go_loopw [5, 6] (fun x y W => ∃ (k : Nat) (C : List (List Int)) (vs : List Value), k ≤ L.length ∧ y = .int .i64 k ∧ GrowV W w.heap.size x vs C ∧ Hid (C.length = k) ∧ Hid (∀ i : Nat, i < k → Rising (C.getD i []) ∧ ∀ y, y ∈ C.getD i [] ↔ 0 ≤ y ∧ y < 1024 ∧ ∃ r, Reaches L i r ∧ y ∈ S.getD r.toNat []) ∧ Below w.heap.size w W) (fun _ y _ => L.length - (intOf y).toNat)
  case atStart => exact ⟨0, [], [], Nat.zero_le _, rfl, GrowV.nil _ _, Lib.hid rfl, Lib.hid (fun i hi => absurd hi (Nat.not_lt_zero _)), Below.refl _ _⟩
  case round =>
    obtain ⟨k, C, vs, hk, rfl, hG, hCl, hC, hb⟩ := hrel
    rename World => w2
    by_cases hlt : k < L.length
    · have hkI : (k : Int) < (L.length : Int) := by omega
      have HX := Lib.hid (reach_any L _ k w2 (HRV.out.below hb) hlt (by omega))
      obtain ⟨ca, cc, hce⟩ := owns_slice hG.own
      rw [hCl.out] at hce
      subst hce
      have HG := Lib.hid hG
      have hsz := hb.size
      clear hG
      go_wp2_with (fail)
      refine HX.out.mono ?_
      rintro e w3 ⟨⟨v9, rl, rfl, hv9, hf9, hr9, hm9, hl9⟩, hb9⟩
      obtain ⟨va, vn, vc, rfl, hvn, _, _, hvx⟩ := hv9.open
      obtain rfl := hvn.out
      have hG9 := HG.out.below hb9
      have hb3 := hb.trans (hb9.mono hb.size)
      have hs3 : w.heap.size ≤ w3.heap.size := hb3.size
      have HF := Lib.hid (And.intro hm9 (And.intro hG9 (And.intro hlt hk)))
      clear hv9 hf9 hr9 hm9 hG9 hb9 hsz HX hk hvn
      go_wp2_with (fail)
      go_loopw [7, 9] (fun x y W => ∃ j : Nat, j ≤ rl.length ∧ y = .int .i64 j ∧ W.ownsRow w3.heap.size 3 1 x (acc S rl j).length ((acc S rl j).map (.int .i64)) ∧ Below w3.heap.size w3 W) (fun _ y _ => rl.length - (intOf y).toNat)
      case atStart => exact ⟨0, Nat.zero_le _, rfl, World.ownsRow_nil _ _ _ _, Below.refl _ _⟩
      case round =>
        obtain ⟨j, hj, rfl, hl3, hb4⟩ := hrel
        have hbw : Below w.heap.size w wr := hb3.trans (hb4.mono hs3)
        have hal := acc_len (S := S) (rl := rl) HSL.out j
        by_cases hjl : j < rl.length
        · have hjI : (j : Int) < (rl.length : Int) := by omega
          obtain ⟨vb, vo, rfl, hcj⟩ := hvx.out j hjl
          have hcj2 := (hb4.cell (World.block_lt_of_cell? _ _ hcj)).trans hcj
          have hnx := acc_next S rl j hjl
          have hN : NodeOf L (rl.getD j 0) := ((HF.out.1 _).1 (get_mem hjl)).node ⟨by omega, by omega⟩
          generalize rl.getD j 0 = r at hcj2 hnx hN
          obtain ⟨nr, rfl⟩ : ∃ nr : Nat, r = nr := ⟨r.toNat, by have := hN.1; omega⟩
          rw [Int.toNat_natCast] at hnx
          have hl3' := Lib.hid hl3
          have hb4' := Lib.hid hb4
          have hjl' := Lib.hid hjl
          clear hcj hN hl3 hb4
          by_cases hin : nr < S.length
          · have hinI : (nr : Int) < (S.length : Int) := by omega
            obtain ⟨b5, o5, xa, xn, xc, rfl, hx0, hx1, hx2, hx3, hx4⟩ := row_at (HSV.out.below hbw) nr hin
            have hsrc : SrcV wr (.slice xa xn xc) xn ((S.getD nr []).map (.int .i64)) := by
              obtain ⟨vs5, p1, p2, p3⟩ := HSV.out.below hbw
              have := SrcV.of_ints (IntsV.mk (w := wr) (a := xa) (n := xn) (c := xc) (l := S.getD nr []) hx1.out hx2 hx3 hx4.out (by
                intro e
                obtain ⟨_, _, _, hv, _, _, _, hh⟩ := (HSV.out.below hbw).open
                cases hv
                obtain ⟨b6, o6, u6, e6, c6, i6⟩ := hh.out nr hin
                cases e6
                rw [hx0] at c6
                cases c6
                exact i6.none_cap e))
              rwa [← hx1.out] at this
            have hxn : xn ≤ 1000 := by rw [hx1.out]; exact HSL.out nr
            have hxl := hx1.out
            clear hx2 hx3 hx4 hin hjl hx1 hbw
            have HSRC := Lib.hid hsrc
            have HXL := Lib.hid hxl
            clear hsrc hxl
            go_wp2_with (first
              | (at_builtin; refine wpList_append_src rfl _ _ 22 rfl w3.heap.size 3 i1 (.int .i64 0) 1 8 Tryd.underlying22 hi1 hy0 hy1 hy2 rfl (by decide) _ _ _ rfl hl3'.out (.slice xa xn xc) xn ((S.getD nr []).map (.int .i64)) rfl HSRC.out ?c1 ?c2 ?c3 ?c4 ?c5 ?_))
            case c1 => have := HXL.out; simp [List.getD_eq_getElem?_getD] at this ⊢; omega
            case c2 => exact ints_one _
            case c3 => unfold maxLen; omega
            case c4 => omega
            case c5 => exact hb4'.out.size
            intro v' w10 hown' hgrow
            have hown2 : w10.ownsRow w3.heap.size 3 1 v' (acc S rl (j + 1)).length ((acc S rl (j + 1)).map (.int .i64)) := by
              rw [hnx, List.length_append, List.map_append, ← HXL.out]
              simpa [List.getD_eq_getElem?_getD] using hown'
            have hb10 := hb4'.out.grown hgrow hb4'.out.size (fun kk hkk => (hl3'.out.lt kk hkk).1)
            have HQ := Lib.hid (And.intro hown2 hb10)
            clear hown' hgrow hown2 hb10 hl3' hb4'
            go_wp2_with (fail)
            go_roundw
            case rel => exact ⟨j + 1, hjl'.out, by go_num, HQ.out.1, HQ.out.2⟩
            case measure => have := hjl'.out; simp [intOf]; omega
          · have hinI : ¬ (nr : Int) < (S.length : Int) := by omega
            have h0 : S.getD nr [] = [] := by rw [List.getD_eq_getElem?_getD, List.getElem?_eq_none (by omega)]; rfl
            rw [h0, List.append_nil] at hnx
            have HNX := Lib.hid hnx
            clear hnx h0 hin hjl hbw
            go_wp2_with (fail)
            go_roundw
            case rel => exact ⟨j + 1, hjl'.out, by go_num, by rw [HNX.out]; exact hl3'.out, hb4'.out⟩
            case measure => have := hjl'.out; simp [intOf]; omega
        · obtain rfl : j = rl.length := by omega
          have hset := set2_any _ (acc S rl rl.length) wr (IntsV.of_owns (e := 3) (base := w3.heap.size) hl3) (by omega)
          have HX := Lib.hid hset
          have HB := Lib.hid (And.intro hb4 hbw)
          have hc4 : C.length ≤ 1000 := by rw [hCl.out]; omega
          obtain ⟨la, lc, hle⟩ := owns_slice hl3
          subst hle
          clear hset hl3 hb4 hbw hjl hj hal hlt
          go_wp2_with (fail)
          refine HX.out.mono ?_
          rintro e w9 ⟨⟨v10, rfl, hv10, hf10⟩, hb10⟩
          obtain ⟨ta, tn, tc, rfl, _⟩ := hv10.open
          have hG10 := (HF.out.2.1.below HB.out.1).below hb10
          have hbe : Below w.heap.size w w9 := HB.out.2.trans (hb10.mono HB.out.2.size)
          have ho10 := hG10.own
          rw [hCl.out] at ho10
          have hs10 : w.heap.size ≤ w9.heap.size := hbe.size
          have hkk : k ≤ 1000 := by rw [← hCl.out]; exact hc4
          have HQ := Lib.hid (And.intro hv10 (And.intro hf10 (And.intro hG10 (And.intro hbe (And.intro hb10 HB.out.1.size)))))
          clear hv10 hf10 hG10 hbe hb10 hc4 HX
          go_wp2_with (first
            | (at_builtin; refine wpList_append_own_at _ rfl _ _ 45 rfl w.heap.size 22 i0 (.slice none 0 0) 1 24 Tryd.underlying45 hi0 hz0 hz1 hz2 rfl (by decide) _ _ _ rfl (ho10.alloc _) ⟨w9.heap.size, 0, none⟩ 1 1 [.slice ta tn tc] rfl rfl (news1 _ _ _) ?c2 ?c3 ?c4 ?c5 ?_))
          case c2 => intro x hx; simp at hx; rw [hx]; rfl
          case c3 => unfold maxLen; omega
          case c4 => omega
          case c5 => simp; omega
          intro v' w11 hown' hgrow _ hloc
          obtain ⟨hv10, hf10, hG10, hbe, hb10, hsz4⟩ := HQ.out
          obtain ⟨hm9, hG9, hlt, hk⟩ := HF.out
          have hba := (Below.refl w9.heap.size w9).alloc (Nat.le_refl _) (.cells #[.slice ta tn tc] 22)
          have hG12 := (hG10.below hba).push (l := membersS (ofS (acc S rl rl.length))) (by rw [hCl.out]; exact hown') hgrow (by simpa using hloc) (hv10.below hba) (fun kk hkk => by
            have h1 := hf10 kk hkk
            refine ⟨by simp; omega, fun e => ?_⟩
            have := (hG9.own.lt kk e).2
            omega)
          have hbb : Below w.heap.size w w11 := (hbe.alloc hs10 (.cells #[.slice ta tn tc] 22)).grown hgrow (by simp; omega) (fun kk hkk => (ho10.lt kk hkk).1)
          have HQ2 := Lib.hid (And.intro hG12 (And.intro (close_next hCl.out hC.out (close_row (S := S) hm9)) hbb))
          have HLK : Hid ((C ++ [membersS (ofS (acc S rl rl.length))]).length = k + 1) := Lib.hid (by have := hCl.out; simp; exact this)
          have hlt' := Lib.hid hlt
          clear hv10 hf10 hG10 hbe hb10 hsz4 hm9 hG9 hlt hk hba hG12 hbb hown' hgrow hloc ho10
          go_wp2_with (fail)
          go_roundw
          case rel => exact ⟨k + 1, _, _, hlt'.out, by go_num, HQ2.out.1, HLK, Lib.hid HQ2.out.2.1, HQ2.out.2.2⟩
          case measure => have := hlt'.out; simp [intOf]; omega
    · obtain rfl : k = L.length := by omega
      have HR : Hid (IsClose L S C) := Lib.hid ⟨hCl.out, hC.out⟩
      have HG := Lib.hid hG.toRows
      clear hG hC hlt hk
      go_wp2_with (fail)
      go_ret
      exact ⟨⟨_, C, rfl, HG.out, fun _ => HR.out, fun h => absurd h (by omega)⟩, hb⟩
end

end Go.Proofs.YtijnekbhpdcemaaDoor
