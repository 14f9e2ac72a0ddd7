/- The laws' helpers on lists of names: cut, unlike. -/
import Derived.Test.YtijnekbhpdcemaaNames3
namespace Go.Proofs.Ytijnekbhpdcemaa
open Go.RowKit Go.Maps
set_option linter.unusedVariables false

/-- a text, cut -/
def cutT (s : ByteArray) (m : Nat) : ByteArray := if m < s.size then s.extract 0 m else s
theorem cutT_size (s : ByteArray) (m : Nat) : (cutT s m).size ≤ m := by
  unfold cutT; split
  · simp; omega
  · omega

theorem text_any (s : ByteArray) (m : Nat) (w : World) (hs : s.size ≤ maxLen) (hm : m ≤ 1000000) :
    Calls Try.prog 16 #[.string s, .int .i64 m] w fun e w' => e = .returned (.string (cutT s m)) ∧ w = w' := by
  unfold maxLen at hs
  by_cases h : m < s.size
  · have hc := Lib.hid (show cutT s m = s.extract 0 m from if_pos h)
    have hm' : m ≤ s.size := Nat.le_of_lt h
    have d1 : decide ((m : Int) < (s.size : Int)) = true := by simp; omega
    go_enter Try.func16, Try.ntmps16
    go_wp2
    go_ret
    exact ⟨ret_str hc.out.symm, rfl⟩
  · have hc := Lib.hid (show cutT s m = s from if_neg h)
    have d1 : decide ((m : Int) < (s.size : Int)) = false := by simp; omega
    go_enter Try.func16, Try.ntmps16
    go_wp2
    go_ret
    exact ⟨ret_str hc.out.symm, rfl⟩

/-- lists of names, each cut, not too many -/
def cutS (l : List ByteArray) : List ByteArray := (l.take 40).map (fun s => cutT s 30)
theorem cutS_len (l : List ByteArray) : (cutS l).length ≤ 40 := by unfold cutS; simp; omega
theorem cutS_size (l : List ByteArray) : ∀ s ∈ cutS l, s.size ≤ 30 := by
  intro s hs
  obtain ⟨t, _, rfl⟩ := List.mem_map.1 hs
  exact cutT_size t 30

def TellsStrs (base : Nat) (l : List ByteArray) (w : World) (e : Ending) (w' : World) : Prop := (∃ v, e = .returned v ∧ StrsV w' v l) ∧ Below base w w'

set_option maxRecDepth 100000 in
theorem cut_any (v : Value) (l : List ByteArray) (w : World) (h : StrsV w v l) (hl : ∀ s ∈ l, s.size ≤ maxLen) :
    Calls Try.prog 6 #[v] w (TellsStrs w.heap.size (cutS l) w) := by
  obtain ⟨a, n, c, rfl, hn, hnc, hc, hx⟩ := h.open
  have HL := Lib.hid hl
  clear h hl
  obtain ⟨i0, hi, hz0, hz1, hz2⟩ := info_parts Try.infoStr
  go_enter Try.func6, Try.ntmps6
  go_wp2
  go_loopw [3, 4] (fun x i wr => ∃ (k : Nat) (r : List ByteArray), k ≤ n ∧ k ≤ 40 ∧ i = .int .i64 k ∧ r.length ≤ k ∧ Hid (r = (l.take k).map (fun s => cutT s 30)) ∧ wr.ownsRow w.heap.size 9 1 x r.length (r.map .string) ∧ Below w.heap.size w wr) (fun _ i _ => n - (intOf i).toNat)
  case atStart => exact ⟨0, [], Nat.zero_le _, by omega, rfl, Nat.le_refl _, Lib.hid rfl, World.ownsRow_nil _ _ _ _, Below.refl _ _⟩
  case round =>
    obtain ⟨k, r, hk, hk40, rfl, hrl, hr, hown, hb⟩ := hrel
    by_cases hlt : k < n
    · by_cases h40 : k < 40
      · obtain ⟨b, o, rfl, c0⟩ := hx.out k hlt
        have c1 : wr.cell? ⟨b, o + k, none⟩ = some (.string (l.getD k ByteArray.empty)) := by rw [hb.cell (World.block_lt_of_cell? _ _ c0)]; exact c0
        clear c0
        have hkl : k < l.length := by have := hn.out; omega
        have hstep : Hid (r ++ [cutT (l.getD k ByteArray.empty) 30] = (l.take (k + 1)).map (fun s => cutT s 30)) := Lib.hid (by
          rw [List.take_succ_eq_append_getElem hkl, List.map_append, ← hr.out, getD_of hkl]; rfl)
        have hsz : (l.getD k ByteArray.empty).size ≤ maxLen := HL.out _ (by rw [getD_of hkl]; exact List.getElem_mem _)
        have hT := Lib.hid (fun W => text_any (l.getD k ByteArray.empty) 30 W hsz (by omega))
        generalize l.getD k ByteArray.empty = y at c1 hstep hT
        generalize cutT y 30 = z at hstep hT
        clear hsz
        have hs1 := hb.size
        go_wp2_with fail
        refine (hT.out _).mono ?_
        rintro e w2 ⟨rfl, rfl⟩
        go_wp2_with (first | (at_builtin; refine wpList_append_own _ rfl _ _ 22 rfl w.heap.size 9 i0 (.string ByteArray.empty) 1 16 Try.underlying22 hi hz0 hz1 hz2 rfl (by decide) _ _ _ rfl (hown.alloc _) ⟨wr.heap.size, 0, none⟩ 1 1 [.string z] rfl rfl (cell_one_new _ _ _) ?c2 ?c3 ?c4 ?c5 ?_))
        case c2 => exact strs_one [z]
        case c3 => unfold maxLen; omega
        case c4 => omega
        case c5 => simp; omega
        intro v' w4 hown' hgrow _
        have hb' := (hb.alloc hs1 (.cells #[.string z] 9)).grown hgrow (by simp; omega) (own_base hown (Nat.le_refl _))
        clear hgrow hown hb
        go_wp2_with fail
        go_roundw
        case rel => exact ⟨k + 1, r ++ [z], by omega, by omega, by go_num, by simp; omega, hstep, by simpa using hown', hb'⟩
        case measure => simp [intOf]; omega
      · have hcut : Hid (r = cutS l) := Lib.hid (by rw [hr.out]; unfold cutS; rw [show k = 40 by omega])
        go_wp2_with fail
        go_ret
        exact ⟨⟨_, rfl, by rw [← hcut.out]; exact StrsV.of_owns hown⟩, hb⟩
    · have hcut : Hid (r = cutS l) := Lib.hid (by rw [hr.out]; unfold cutS; rw [List.take_of_length_le (show l.length ≤ k by have := hn.out; omega), List.take_of_length_le (show l.length ≤ 40 by have := hn.out; omega)])
      go_wp2_with fail
      go_ret
      exact ⟨⟨_, rfl, by rw [← hcut.out]; exact StrsV.of_owns hown⟩, hb⟩

set_option maxRecDepth 100000 in
theorem unlike_any (v : Value) (l : List ByteArray) (w : World) (h : StrsV w v l) (hl : l.length ≤ 1000) :
    Calls Try.prog 7 #[v] w (TellsStrs w.heap.size (l.foldl putS []) w) := by
  obtain ⟨a, n, c, rfl, hn, hnc, hc, hx⟩ := h.open
  clear h
  have hn1 : n ≤ 1000 := by rw [hn.out]; exact hl
  clear hl
  obtain ⟨i0, hi, hz0, hz1, hz2⟩ := info_parts Try.infoStr
  go_enter Try.func7, Try.ntmps7
  go_wp2
  go_loopw [3, 4] (fun x i wr => ∃ (k : Nat) (r : List ByteArray), k ≤ n ∧ i = .int .i64 k ∧ r.length ≤ k ∧ Hid (r = (l.take k).foldl putS []) ∧ wr.ownsRow w.heap.size 9 1 x r.length (r.map .string) ∧ Below w.heap.size w wr) (fun _ i _ => n - (intOf i).toNat)
  case atStart => exact ⟨0, [], Nat.zero_le _, rfl, Nat.le_refl _, Lib.hid rfl, World.ownsRow_nil _ _ _ _, Below.refl _ _⟩
  case round =>
    obtain ⟨k, r, hk, rfl, hrl, hr, hown, hb⟩ := hrel
    by_cases hlt : k < n
    · obtain ⟨b, o, rfl, c0⟩ := hx.out k hlt
      have c1 : wr.cell? ⟨b, o + k, none⟩ = some (.string (l.getD k ByteArray.empty)) := by rw [hb.cell (World.block_lt_of_cell? _ _ c0)]; exact c0
      clear c0
      have hkl : k < l.length := by have := hn.out; omega
      have hstep : Hid (putS r (l.getD k ByteArray.empty) = (l.take (k + 1)).foldl putS []) := Lib.hid (by
        rw [List.take_succ_eq_append_getElem hkl, List.foldl_append, ← hr.out, getD_of hkl]; rfl)
      generalize l.getD k ByteArray.empty = y at c1 hstep
      have hs1 := hb.size
      go_wp2_with fail
      refine (find_any _ r y _ (StrsV.of_owns hown)).mono ?_
      rintro e w2 ⟨rfl, rfl⟩
      by_cases hp : place r y < r.length
      · have hi2 : idx r y = (place r y : Nat) := by unfold idx; rw [if_pos hp]
        have hps := Lib.hid (putS_in hp)
        rw [hi2]
        have d1 : decide (((place r y : Nat) : Int) < 0) = false := by simp
        clear hi2 hp
        generalize place r y = pl at d1
        go_wp2_with fail
        go_roundw
        case rel => exact ⟨k + 1, r, by omega, by go_num, by omega, Lib.hid (by rw [← hstep.out, hps.out]), hown, hb⟩
        case measure => simp [intOf]; omega
      · have hi2 : idx r y = -1 := by unfold idx; rw [if_neg hp]
        have hps := Lib.hid (putS_new hp)
        rw [hi2]
        clear hi2 hp
        go_wp2_with (first | (at_builtin; refine wpList_append_own _ rfl _ _ 22 rfl w.heap.size 9 i0 (.string ByteArray.empty) 1 16 Try.underlying22 hi hz0 hz1 hz2 rfl (by decide) _ _ _ rfl (hown.alloc _) ⟨wr.heap.size, 0, none⟩ 1 1 [.string y] rfl rfl (cell_one_new _ _ _) ?c2 ?c3 ?c4 ?c5 ?_))
        case c2 => exact strs_one [y]
        case c3 => unfold maxLen; omega
        case c4 => omega
        case c5 => simp; omega
        intro v' w4 hown' hgrow _
        have hb' := (hb.alloc hs1 (.cells #[.string y] 9)).grown hgrow (by simp; omega) (own_base hown (Nat.le_refl _))
        clear hgrow hown hb
        go_wp2_with fail
        go_roundw
        case rel => exact ⟨k + 1, r ++ [y], by omega, by go_num, by simp; omega, Lib.hid (by rw [← hstep.out, hps.out]), by simpa using hown', hb'⟩
        case measure => simp [intOf]; omega
    · have hcut : Hid (r = l.foldl putS []) := Lib.hid (by rw [hr.out, List.take_of_length_le (show l.length ≤ k by have := hn.out; omega)])
      go_wp2_with fail
      go_ret
      exact ⟨⟨_, rfl, by rw [← hcut.out]; exact StrsV.of_owns hown⟩, hb⟩

end Go.Proofs.Ytijnekbhpdcemaa
