/- Lists: slices of slices, cut. -/
import Derived.Test.YtijnekbhpdcemaaDoorGrRows
import Derived.Test.YtijnekbhpdcemaaDoorPut
namespace Go.Proofs.YtijnekbhpdcemaaDoor
open Go.RowKit
set_option linter.unusedVariables false
set_option linter.unusedSimpArgs false

theorem Tryd.infoRow : (Tryd.prog.info? 22).map (fun i => (i.zero, i.size, i.bytes)) = some (some (.slice none 0 0), 1, 24) := by kernel_rfl

theorem CellsV.of_owns1 {w : World} {base : Nat} {e : TypeId} {v : Value} {n : Nat} {xs : List Value} (h : w.ownsRow base e 1 v n xs) : CellsV w v n xs := by
  obtain ⟨h1, h2⟩ := h
  rcases h2 with ⟨rfl, h0⟩ | ⟨g, cap, cur, rfl, hg, hh, hn, hc, hs, ht⟩
  · refine ⟨none, 0, by rw [h0], by omega, by omega, fun _ => rfl, fun i hi => ?_⟩
    omega
  · refine ⟨_, cap, rfl, hn, by unfold maxLen at hc; omega, (fun h => by cases h), fun i hi => ?_⟩
    refine ⟨g, 0, rfl, ?_⟩
    rw [cell_of_row w g _ cur e (0, 0) hh]
    have hcs : i < cur.size := by omega
    rw [List.getD_eq_getElem?_getD, ← ht, List.getElem?_take, if_pos (by omega)]
    simp [hcs]
theorem RowsV.of_owns {w : World} {base : Nat} {e : TypeId} {v : Value} {vs : List Value} {L : List (List Int)} (h : w.ownsRow base e 1 v L.length vs) (hi : ∀ i, i < L.length → IntsV w (vs.getD i undef) (L.getD i [])) : RowsV w v L :=
  ⟨vs, CellsV.of_owns1 h, by have := h.1; omega, hi⟩

/-- a list of numbers, and a list of lists, cut -/
def cutI (l : List Int) (m : Nat) : List Int := if m < l.length then l.take m else l
def cutV (v : Value) (l : List Int) (m : Nat) : Value := if m < l.length then (match v with | .slice a n c => .slice a m c | x => x) else v
theorem cutV_ints {v : Value} {l : List Int} {m : Nat} {w : World} (h : IntsV w v l) : IntsV w (cutV v l m) (cutI l m) ∧ (cutV v l m).oneCell' = true := by
  obtain ⟨a, n, c, rfl, hn, hnc, hc, hx⟩ := h.open
  have hn' := hn.out
  unfold cutV cutI
  by_cases hlt : m < l.length
  · rw [if_pos hlt, if_pos hlt]; exact ⟨IntsV.take h (by omega), rfl⟩
  · rw [if_neg hlt, if_neg hlt]; exact ⟨h, rfl⟩
theorem cutI_any (v : Value) (l : List Int) (m : Nat) (w : World) (h : IntsV w v l) (hm : m ≤ 1000000) :
    Calls Tryd.prog 14 #[v, .int .i64 m] w fun e w' => e = .returned (cutV v l m) ∧ w = w' := by
  obtain ⟨a, n, c, rfl, hn, hnc, hc, hx⟩ := h.open
  clear h
  by_cases hlt : m < n
  · have hv : cutV (.slice a n c) l m = .slice a m c := by unfold cutV; rw [if_pos (by have := hn.out; omega)]
    rw [hv]
    clear hv
    go_enter Tryd.func14, Tryd.ntmps14
    go_wp2_with (fail)
    go_ret
    exact ⟨rfl, rfl⟩
  · have hv : cutV (.slice a n c) l m = .slice a n c := by unfold cutV; rw [if_neg (by have := hn.out; omega)]
    rw [hv]
    clear hv
    go_enter Tryd.func14, Tryd.ntmps14
    go_wp2_with (fail)
    go_ret
    exact ⟨rfl, rfl⟩
def cutLs (L : List (List Int)) (most each : Nat) : List (List Int) := (L.take most).map (fun l => cutI l each)
theorem cutLs_at (L : List (List Int)) (most each k : Nat) (hk : k < L.length) (hm : k < most) : (cutLs L most each).take (k + 1) = (cutLs L most each).take k ++ [cutI (L.getD k []) each] := by
  unfold cutLs
  rw [List.take_add_one, List.getElem?_map, List.getElem?_take, if_pos hm, List.getElem?_eq_getElem hk, List.getD_eq_getElem?_getD, List.getElem?_eq_getElem hk]
  rfl

def TellsRows (L : List (List Int)) (w : World) (e : Ending) (w' : World) : Prop := (∃ v, e = .returned v ∧ RowsV w' v L) ∧ Below w.heap.size w w'

theorem news1 (w : World) (a : Value) (t : TypeId) : ∀ j u, [a][j]? = some u → (w.alloc (.cells #[a] t)).cell? ((⟨w.heap.size, 0, none⟩ : Addr).add j) = some u := by
  intro j u hj
  match j, hj with
  | 0, hj => simp at hj; subst hj; simp [Addr.add]

set_option maxRecDepth 100000 in
set_option maxHeartbeats 2000000 in
theorem lists_any (v : Value) (L : List (List Int)) (most each : Nat) (w : World) (h : RowsV w v L) (hm : most ≤ 100000) (he : each ≤ 100000) :
    Calls Tryd.prog 32 #[v, .int .i64 most, .int .i64 each] w (TellsRows (cutLs L most each) w) := by
  obtain ⟨i0, hi, hz0, hz1, hz2⟩ := info_parts Tryd.infoRow
  obtain ⟨a, n, c, rfl, hn, hnc, hc, hx⟩ := h.open
  have HCL : Hid ((cutLs L most each).length = min most n) := Lib.hid (by rw [hn.out]; unfold cutLs; simp)
  clear h
  go_enter Tryd.func32, Tryd.ntmps32
  go_wp2_with fail
  go_loopw [7, 8] (fun x y wr => ∃ (k : Nat) (vs : List Value), k ≤ n ∧ k ≤ most ∧ y = .int .i64 k ∧ wr.ownsRow w.heap.size 22 1 x k vs ∧ Hid (∀ i, i < k → IntsV w (vs.getD i undef) ((cutLs L most each).getD i [])) ∧ Below w.heap.size w wr) (fun _ y _ => n + 1 - (intOf y).toNat)
  case atStart => exact ⟨0, [], by omega, by omega, rfl, World.ownsRow_nil _ _ _ _, Lib.hid (fun i hi => absurd hi (Nat.not_lt_zero _)), Below.refl _ _⟩
  case round =>
    obtain ⟨k, vs, hk, hkm, rfl, hown, HI, hb⟩ := hrel
    rename_i u7
    by_cases hlt : k < n ∧ k < most
    · obtain ⟨h1, h2⟩ := hlt
      obtain ⟨b1, o1, u1, rfl, c1, i1⟩ := hx.out k h1
      have c1' := (hb.cell (World.block_lt_of_cell? _ _ c1)).trans c1
      have HQ := Lib.hid (cutI_any u1 (L.getD k []) each wr (i1.below hb) (by omega))
      obtain ⟨hu, hu1⟩ := cutV_ints (m := each) i1
      generalize cutV u1 (L.getD k []) each = u at *
      have HU := Lib.hid hu
      obtain ⟨ua, uc, hue, _⟩ := hu
      generalize (cutI (L.getD k []) each).length = un at hue
      subst hue
      have ek : (cutLs L most each).getD k [] = cutI (L.getD k []) each := by
        have h3 := hn.out
        unfold cutLs
        rw [List.getD_eq_getElem?_getD, List.getElem?_map, List.getElem?_take, if_pos h2, List.getElem?_eq_getElem (by omega), List.getD_eq_getElem?_getD, List.getElem?_eq_getElem (by omega)]
        rfl
      have hvl := hown.1
      have HI2 : Hid (∀ i, i < k + 1 → IntsV w ((vs ++ [Value.slice ua un uc]).getD i undef) ((cutLs L most each).getD i [])) := Lib.hid (fun i hi => by
        by_cases e : i < k
        · rw [List.getD_eq_getElem?_getD, List.getElem?_append_left (by omega), ← List.getD_eq_getElem?_getD]; exact HI.out i e
        · obtain rfl : i = k := by omega
          rw [ek, List.getD_eq_getElem?_getD, List.getElem?_append_right (by omega), show i - vs.length = 0 by omega]
          exact HU.out)
      clear i1 c1 HI ek
      go_wp2_with (first
        | (go_at_call 14; refine HQ.out.mono ?_; rintro e w9 ⟨rfl, rfl⟩)
        | (at_builtin; refine wpList_append_own_at _ rfl _ _ 45 rfl w.heap.size 22 i0 (.slice none 0 0) 1 24 Tryd.underlying45 hi hz0 hz1 hz2 rfl (by decide) _ _ _ rfl (hown.alloc _) ⟨wr.heap.size, 0, none⟩ 1 1 [.slice ua un uc] rfl rfl (news1 _ _ _) ?c2 ?c3 ?c4 ?c5 ?_))
      case c2 => intro x hx; simp at hx; rw [hx]; exact hu1
      case c3 => unfold maxLen; omega
      case c4 => omega
      case c5 => have := hb.size; simp; omega
      intro v' w4 hown' hgrow _ hloc
      have hb4 := (hb.alloc hb.size _).grown hgrow (Nat.le_trans hb.size (by simp)) (own_base hown (Nat.le_refl _))
      go_wp2_with fail
      go_roundw
      case rel => exact ⟨k + 1, vs ++ [.slice ua un uc], by omega, by omega, by go_num, hown', HI2, hb4⟩
      case measure => simp [intOf]; omega
    · have hkk : k = (cutLs L most each).length := by have := HCL.out; omega
      have hfin : RowsV wr u7 (cutLs L most each) := RowsV.of_owns (by rw [← hkk]; exact hown) (fun i hi => (HI.out i (by omega)).below hb)
      clear HI hkk hx
      by_cases h1 : k < n
      · have h2 : ¬ k < most := fun h => hlt ⟨h1, h⟩
        clear hlt
        go_wp2_with fail
        go_ret
        exact ⟨⟨_, rfl, hfin⟩, hb⟩
      · clear hlt
        go_wp2_with fail
        go_ret
        exact ⟨⟨_, rfl, hfin⟩, hb⟩

end Go.Proofs.YtijnekbhpdcemaaDoor
