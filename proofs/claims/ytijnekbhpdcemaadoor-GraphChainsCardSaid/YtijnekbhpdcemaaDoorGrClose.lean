/- A component is made. -/
import Derived.Test.YtijnekbhpdcemaaDoorGrEnter
import Derived.Test.YtijnekbhpdcemaaDoorGrClone
namespace Go.Proofs.YtijnekbhpdcemaaDoor
open Go.RowKit
set_option linter.unusedVariables false
set_option linter.unusedSimpArgs false

/-- while the nodes of a component are told its number -/
def TS.told (s : TS) (A M : List Int) (k : Nat) : TS := { s with opn := A, cmp := fun v => if v ∈ M.take k then (s.cps.length : Int) else s.cmp v }
theorem told_zero (s : TS) (A M : List Int) : s.told A M 0 = { s with opn := A } := by simp [TS.told]
theorem told_fn (f : Int → Int) (M : List Int) (k : Nat) (c : Int) (hk : k < M.length) : upd (fun v => if v ∈ M.take k then c else f v) (M.getD k 0) c = fun v => if v ∈ M.take (k + 1) then c else f v := by
  funext v
  unfold upd
  have hm : v ∈ M.take (k + 1) ↔ v ∈ M.take k ∨ v = M.getD k 0 := by
    rw [List.take_add_one, List.getElem?_eq_getElem hk, List.getD_eq_getElem?_getD, List.getElem?_eq_getElem hk, List.mem_append]
    simp
  by_cases e : v = M.getD k 0
  · rw [if_pos e, if_pos (hm.2 (.inr e))]
  · rw [if_neg e]
    show (if v ∈ M.take k then c else f v) = _
    by_cases e2 : v ∈ M.take k
    · rw [if_pos e2, if_pos (hm.2 (.inl e2))]
    · rw [if_neg e2, if_neg (fun h => by rcases hm.1 h with h | h <;> contradiction)]
theorem told_next (s : TS) (A M : List Int) (k : Nat) (hk : k < M.length) : { s.told A M k with cmp := upd (s.told A M k).cmp (M.getD k 0) (s.cps.length : Int) } = s.told A M (k + 1) := by
  show TS.mk s.ord s.low (upd (fun v => if v ∈ M.take k then (s.cps.length : Int) else s.cmp v) (M.getD k 0) (s.cps.length : Int)) A s.cps s.met = _
  rw [told_fn _ _ _ _ hk]; rfl
theorem told_all (s : TS) (A M : List Int) : { s.told A M M.length with cps := s.cps ++ [M] } = s.close A M := by
  unfold TS.told TS.close
  simp [List.take_length]

theorem nd_at {i : Int} {A B : List Int} (hB : i ∉ B) {k : Nat} (hk : k < (i :: B).length) (h : (A ++ i :: B).getD (A.length + k) 0 = i) : k = 0 := by
  rw [List.getD_eq_getElem?_getD, List.getElem?_append_right (by omega), show A.length + k - A.length = k by omega] at h
  match k, h with
  | 0, _ => rfl
  | k + 1, h =>
    simp only [List.getElem?_cons_succ] at h
    simp at hk
    rw [List.getElem?_eq_getElem hk] at h
    exact absurd (List.getElem_mem hk) (by simp at h; rw [h]; exact hB)

theorem at_first (A B : List Int) (i : Int) : (A ++ i :: B).getD A.length 0 = i := by simp [List.getD_eq_getElem?_getD]

theorem after_clone {base : Nat} {tag : Nat → Nat} {b : Nat} {rv : Value} {n ob lb cb : Nat} {ov cv : Value} {vs : List Value} {s : TS} {w w1 : World} {nv : Value} {M : List Int} (h : WalkV w base tag b rv n ob lb cb ov cv vs s) (hM : 0 < M.length)
    (hnv : w1.ownsRow w.heap.size 3 1 nv M.length (M.map (.int .i64))) (hb : Below w.heap.size w w1) :
    ∃ k c, nv = .slice (some ⟨k, 0, none⟩) M.length c ∧ M.length ≤ c ∧ c ≤ maxLen ∧ WalkV w1 base (retag tag k (7 + s.cps.length)) b rv n ob lb cb ov cv vs s ∧ Kept tag (retag tag k (7 + s.cps.length)) w w1 ∧ w1.ownsRow base 3 1 nv M.length (M.map (.int .i64)) ∧ retag tag k (7 + s.cps.length) k = 7 + s.cps.length ∧ w1.cell? ⟨b, 4, none⟩ = some ov ∧ w1.frozen? ⟨b, 4, none⟩ = false := by
  obtain ⟨k, c, rfl, h1, h2, h3, h4⟩ := owns_at hnv hM
  have hm := h.mark hb (g := k) (t := 7 + s.cps.length) h1 h2
  exact ⟨k, c, rfl, h3, h4, hm, (⟨hb.os, hb.tape, hb.output, hb.size, fun _ _ => rfl, fun j hj _ => hb.block j hj⟩ : Kept tag tag w w1).retag h1, own_weaken hnv h.bas, retag_at _ _ _, hm.rb.cell (by omega), hm.rb.frozen 4⟩

def ClosePost (base : Nat) (tag : Nat → Nat) (b : Nat) (rv : Value) (n ob lb cb : Nat) (s' : TS) (w : World) (e : Ending) (w' : World) : Prop :=
  e = .returned (.tuple #[]) ∧ ∃ tag' ov' cv' vs', WalkV w' base tag' b rv n ob lb cb ov' cv' vs' s' ∧ Kept tag tag' w w'

set_option maxHeartbeats 4000000 in
set_option maxRecDepth 100000 in
theorem close_any (base : Nat) (tag : Nat → Nat) (b : Nat) (rv : Value) (n ob lb cb : Nat) (ov cv : Value) (vs : List Value) (s : TS) (A B : List Int) (i : Int) (w : World) (h : WalkV w base tag b rv n ob lb cb ov cv vs s)
    (hs : s.opn = A ++ i :: B) (hB : i ∉ B) (hn : n ≤ 1000000) (hnode : ∀ v ∈ s.opn, 0 ≤ v ∧ v < (n : Int)) (ho : s.opn.length ≤ n) (hc : s.cps.length ≤ n) :
    Calls Tryd.prog 61 #[.pointer (some ⟨b, 0, none⟩), .int .i64 i] w (ClosePost base tag b rv n ob lb cb (s.close A (i :: B)) w) := by
  obtain ⟨i0, hi0, hz0, hz1, hz2⟩ := info_parts Tryd.infoRow
  obtain ⟨⟨c0, c1, c2, c3, c4, c5, c6⟩, f1, f2, f3, f4, ⟨d1, d2, d3⟩, ⟨l1, l2, l3, l4⟩⟩ := h.cells
  have hov := h.rov
  have hlen : s.opn.length = A.length + (B.length + 1) := by rw [hs]; simp
  obtain ⟨g, cap, rfl, hg1, hg2, hg3, hg4⟩ := owns_at hov (by omega)
  have hcell : ∀ j, j < s.opn.length → w.cell? ⟨g, j, none⟩ = some (.int .i64 (s.opn.getD j 0)) := fun j hj => by
    rw [hov.cellAt j (by omega), List.getElem?_map, List.getElem?_eq_getElem hj, List.getD_eq_getElem?_getD, List.getElem?_eq_getElem hj]; rfl
  have HC := Lib.hid hcell
  clear hcell
  generalize hL : s.opn.length = N at *
  obtain ⟨ac, cc, rfl⟩ := owns_slice h.rcv
  go_enter Tryd.func61, Tryd.ntmps61
  go_wp2_with (fail)
  go_loop [4] (fun x => ∃ k : Nat, k ≤ B.length ∧ x = .int .i64 ((A.length : Int) + k)) (fun x => (intOf x).toNat)
  case atStart => exact ⟨B.length, Nat.le_refl _, by congr 1; omega⟩
  case round =>
    obtain ⟨k, hk, rfl⟩ := hrel
    have hck := HC.out (A.length + k) (by omega)
    by_cases he : s.opn.getD (A.length + k) 0 = i
    · rw [he] at hck
      obtain rfl : k = 0 := nd_at (A := A) hB (k := k) (by simp; omega) (by rw [← hs]; exact he)
      clear HC
      rw [Nat.add_zero] at hck
      have hAN : (A.length : Int) < (N : Int) := by omega
      have hAN' : A.length < N := by omega
      have hBN : B.length + 1 ≤ 1000000 := by omega
      have HL := Lib.hid hlen
      clear hlen
      have hcap : A.length ≤ cap := by omega
      have hI : IntsV w (.slice (some ⟨g, A.length, none⟩) (N - A.length) (cap - A.length)) (i :: B) := by
        have h1 := IntsV.drop (k := A.length) (IntsV.of_owns (e := 3) (l := s.opn) (v := .slice (some ⟨g, 0, none⟩) N cap) (by rw [hL]; exact hov)) (by omega)
        rw [Nat.zero_add, hs, List.drop_left] at h1
        exact h1
      have hMl : (i :: B).length = B.length + 1 := rfl
      have HY := Lib.hid (fun nv w1 hnv hb => after_clone (nv := nv) (w1 := w1) (M := i :: B) h (by simp) hnv hb)
      have HX := Lib.hid (clone_any _ _ w hI (by simp) (by have := HL.out; simp; omega))
      go_wp2_with (first
        | (go_at_call 81; refine HX.out.mono ?_; rintro e w1 ⟨⟨nv, rfl, hnv⟩, hb1⟩; obtain ⟨kn, kc, rfl, hkc1, hkc2, h1, k1, hnv1, ht1, hc4, hf4⟩ := HY.out nv w1 hnv hb1; clear hnv hb1))
      have hA1 : w1.ownsRow base 3 1 (.slice (some ⟨g, 0, none⟩) A.length cap) A.length (A.map (.int .i64)) := by
        have h3 := h1.rov
        rw [hL] at h3
        have h4 := owns_take h3 (m := A.length) (by omega)
        rwa [Nat.mul_one, ← List.map_take, hs, List.take_left] at h4
      have h2 := h1.setOpn (ov' := .slice (some ⟨g, 0, none⟩) A.length cap) (l := A) hA1 (fun k hk => h1.tov k hk)
      have k2 := k1.setCell (a := ⟨b, 4, none⟩) (by show retag tag kn _ b ≠ 0; rw [h1.tb]; omega) (.slice (some ⟨g, 0, none⟩) A.length cap)
      have nv2 := WalkV.ownOther hnv1 (x := 7 + s.cps.length) (fun k hk => by cases hk; exact ht1) (a := ⟨b, 4, none⟩) h1.tb (by omega) (.slice (some ⟨g, 0, none⟩) A.length cap)
      rw [← told_zero s A (i :: B)] at h2
      generalize w1.setCell ⟨b, 4, none⟩ (.slice (some ⟨g, 0, none⟩) A.length cap) = w2 at h2 k2 nv2 ⊢
      generalize htg : retag tag kn (7 + s.cps.length) = tg at h2 k2 ht1
      clear h1 k1 hnv1 hc4 hf4 hA1 htg HX HY hI
      have hmem : ∀ k, k < (i :: B).length → ∃ y : Nat, (i :: B).getD k 0 = y ∧ y < n := fun k hk => by
        have hm : (i :: B).getD k 0 ∈ s.opn := by rw [hs]; exact List.mem_append_right _ (get_mem hk)
        obtain ⟨h5, h6⟩ := hnode _ hm
        exact ⟨((i :: B).getD k 0).toNat, by omega, by omega⟩
      have HM := Lib.hid hmem
      have HN := Lib.hid hnode
      have HS := Lib.hid hs
      clear hmem hnode hs hB h hov
      go_loopw [43] (fun x wr => ∃ k : Nat, k ≤ B.length + 1 ∧ x = .int .i64 k ∧ WalkV wr base tg b rv n ob lb cb (.slice (some ⟨g, 0, none⟩) A.length cap) (.slice ac s.cps.length cc) vs (s.told A (i :: B) k) ∧ Kept tag tg w wr ∧
        wr.ownsRow base 3 1 (.slice (some ⟨kn, 0, none⟩) (B.length + 1) kc) (B.length + 1) ((i :: B).map (.int .i64))) (fun x _ => B.length + 1 - (intOf x).toNat)
      case atStart => exact ⟨0, Nat.zero_le _, rfl, h2, k2, nv2⟩
      case round =>
        obtain ⟨k, hk, rfl, hw, hkept, hnv⟩ := hrel
        obtain ⟨⟨c0, c1, c2, c3, c4, c5, c6⟩, f1, f2, f3, f4, ⟨d1, d2, d3⟩, ⟨l1, l2, l3, l4⟩⟩ := hw.cells
        by_cases hlt : k < B.length + 1
        · obtain ⟨y, hy, hyn⟩ := HM.out k (by simpa using hlt)
          have hyI : (y : Int) < (n : Int) := by omega
          have hcy : wr.cell? ⟨kn, k, none⟩ = some (.int .i64 y) := by
            rw [hnv.cellAt k (by omega), List.getElem?_map, ← hy, List.getD_eq_getElem?_getD]
            rw [List.getElem?_eq_getElem (show k < (i :: B).length by simpa using hlt)]; rfl
          have q1 := hw.rc.cell hyn
          have hw2 := hw.setCmp y (s.cps.length : Int)
          have hk2 := hkept.setCell (a := ⟨cb, y, none⟩) (by show tg cb ≠ 0; rw [hw.tc]; omega) (.int .i64 (s.cps.length : Int))
          have hnv2 := WalkV.ownOther hnv (x := 7 + s.cps.length) (fun k hk => by cases hk; exact ht1) (a := ⟨cb, y, none⟩) hw.tc (by omega) (.int .i64 (s.cps.length : Int))
          rw [← hy, told_next s A (i :: B) k (by simpa using hlt)] at hw2
          have HY := Lib.hid hy
          clear hy
          go_wp2_with (fail)
          go_region
          go_wp2_with (fail)
          go_roundw
          case rel => exact ⟨k + 1, by omega, by go_num, hw2.drew, hk2.drew, hnv2.drew⟩
          case measure => simp [intOf]; omega
        · obtain rfl : k = B.length + 1 := by omega
          have hfin := told_all s A (i :: B)
          have hcv := hw.rcv
          have hcl : (s.told A (i :: B) (B.length + 1)).cps.length = s.cps.length := rfl
          rw [hcl] at hcv
          have hbw := hw.bas
          have h3 := hw.alloc (.cells #[.slice (some ⟨kn, 0, none⟩) (B.length + 1) kc] 22)
          have k3 := hkept.alloc (.cells #[.slice (some ⟨kn, 0, none⟩) (B.length + 1) kc] 22)
          have nv3 := hnv.alloc (.cells #[.slice (some ⟨kn, 0, none⟩) (B.length + 1) kc] 22)
          go_wp2_with (first
            | (at_builtin; refine wpList_append_own_at _ rfl _ _ 45 rfl base 22 i0 (.slice none 0 0) 1 24 Tryd.underlying45 hi0 hz0 hz1 hz2 rfl (by decide) _ _ _ rfl (hcv.alloc _) ⟨wr.heap.size, 0, none⟩ 1 1 [.slice (some ⟨kn, 0, none⟩) (B.length + 1) kc] rfl rfl (news1 _ _ _) ?c2 ?c3 ?c4 ?c5 ?_))
          case c2 => rfl
          case c3 => unfold maxLen; omega
          case c4 => omega
          case c5 => omega
          intro v' w4 hown hgrow _ hloc
          obtain ⟨g', cap', rfl, _⟩ := owns_at hown (by omega)
          have g4 := (h3.rb.of_block (hgrow.block b h3.rb.lt (fun e => absurd (h3.tcv b e.symm) (by rw [h3.tb]; omega))))
          obtain ⟨tag', h5, k5⟩ := h3.compsGrown (M := i :: B) hgrow (by simpa using hloc) hown nv3 (fun k hk => by cases hk; exact ht1)
          have c5' := g4.cell (i := 5) (by omega)
          have f5' := g4.frozen 5
          have kk := k3.trans k5
          have hfin' : { s.told A (i :: B) (B.length + 1) with cps := (s.told A (i :: B) (B.length + 1)).cps ++ [i :: B] } = s.close A (i :: B) := hfin
          rw [hfin'] at h5
          clear c0 c1 c2 c3 c4 c5 c6 f1 f2 f3 f4 hgrow hloc hown k3 k5 nv3 h3 hw hkept hnv hcv
          go_wp2_with (fail)
          go_end0
          exact ⟨rfl, tag', _, _, _, h5, kk⟩
    · have hk0 : k ≠ 0 := fun e => he (by subst e; rw [hs]; exact at_first A B i)
      generalize s.opn.getD (A.length + k) 0 = y at hck he
      have h1 : (y != i) = true := by simp [he]
      go_wp2_with (fail)
      go_round
      case rel => exact ⟨k - 1, by omega, by congr 1; omega⟩
      case measure => simp [intOf]; omega

end Go.Proofs.YtijnekbhpdcemaaDoor
