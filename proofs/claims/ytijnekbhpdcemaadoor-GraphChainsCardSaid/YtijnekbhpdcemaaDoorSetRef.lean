/- The document's set of a list; lists cut, lists written over. -/
import Derived.Test.YtijnekbhpdcemaaDoorSorted
import Derived.Outline
namespace Go.Proofs.YtijnekbhpdcemaaDoor
open Go.RowKit
set_option linter.unusedVariables false

def SetTo (l r : List Int) (k : Nat) : Prop := Rising r ∧ (∀ y, y ∈ r ↔ (0 ≤ y ∧ y < 1024 ∧ y ∈ l.take k)) ∧ r.length ≤ k

theorem setTo_step {l r r' : List Int} {k : Nat} (h : SetTo l r k) (hk : k < l.length) (hy : 0 ≤ l.getD k 0 ∧ l.getD k 0 < 1024) (hp : PutIs r (l.getD k 0) r') : SetTo l r' (k + 1) := by
  obtain ⟨h1, h2, h3⟩ := h
  obtain ⟨p1, p2, p3⟩ := put_rising h1 hp
  refine ⟨p1, fun y => ?_, by omega⟩
  rw [p2, h2, List.take_succ_eq_append_getElem hk]
  have e : l.getD k 0 = l[k] := by rw [List.getD_eq_getElem?_getD, List.getElem?_eq_getElem hk]; rfl
  simp only [List.mem_append, List.mem_singleton]
  constructor
  · rintro (rfl | ⟨a, b, c⟩)
    · exact ⟨hy.1, hy.2, .inr e⟩
    · exact ⟨a, b, .inl c⟩
  · rintro ⟨a, b, c | c⟩
    · exact .inr ⟨a, b, c⟩
    · exact .inl (by rw [e]; exact c)

theorem setTo_skip {l r : List Int} {k : Nat} (h : SetTo l r k) (hk : k < l.length) (hy : ¬ (0 ≤ l.getD k 0 ∧ l.getD k 0 < 1024)) : SetTo l r (k + 1) := by
  obtain ⟨h1, h2, h3⟩ := h
  refine ⟨h1, fun y => ?_, by omega⟩
  rw [h2, List.take_succ_eq_append_getElem hk]
  have e : l.getD k 0 = l[k] := by rw [List.getD_eq_getElem?_getD, List.getElem?_eq_getElem hk]; rfl
  simp only [List.mem_append, List.mem_singleton]
  constructor
  · rintro ⟨a, b, c⟩; exact ⟨a, b, .inl c⟩
  · rintro ⟨a, b, c | c⟩
    · exact ⟨a, b, c⟩
    · exact (hy (by rw [e, ← c]; exact ⟨a, b⟩)).elim

theorem setTo_end {l r : List Int} {k : Nat} (h : SetTo l r k) (hk : l.length ≤ k) : r = membersS (ofS l) := by
  refine setIs_members ⟨h.1, fun y => ?_⟩
  rw [h.2.1, List.take_of_length_le hk]

/-- a value read as a list, told apart from the walk -/
def TellsInts (l : List Int) (w : World) (e : Ending) (w' : World) : Prop := (∃ v, e = .returned v ∧ IntsV w' v l) ∧ Below w.heap.size w w'

set_option maxRecDepth 100000 in
theorem set_any (v : Value) (l : List Int) (w : World) (h : IntsV w v l) (hl : l.length ≤ 1000000) :
    Calls Tryd.prog 15 #[v] w (TellsInts (membersS (ofS l)) w) := by
  obtain ⟨a, n, c, rfl, hn, hnc, hc, hx⟩ := h.open
  have h' := Lib.hid h
  clear h
  have hn6 : n ≤ 1000000 := by rw [hn.out]; exact hl
  clear hl
  go_enter Tryd.func15, Tryd.ntmps15
  go_wp2_with (fail)
  go_loopw [3, 4] (fun x i wr => ∃ (k : Nat) (r : List Int), k ≤ n ∧ i = .int .i64 k ∧ Hid (SetTo l r k) ∧ Hid (IntsV wr x r) ∧ Below w.heap.size w wr) (fun _ i _ => n - (intOf i).toNat)
  case atStart => exact ⟨0, [], Nat.zero_le _, rfl, Lib.hid ⟨List.Pairwise.nil, fun y => by simp, Nat.zero_le _⟩, Lib.hid (IntsV.nil _), Below.refl _ _⟩
  case round =>
    obtain ⟨k, r, hk, rfl, hs, hr, hb⟩ := hrel
    by_cases hlt : k < n
    · obtain ⟨b, o, rfl, c1⟩ := hx.out k hlt
      have c2 : wr.cell? ⟨b, o + k, none⟩ = some (.int .i64 (l.getD k 0)) := by rw [hb.cell (World.block_lt_of_cell? _ _ c1)]; exact c1
      clear c1
      by_cases hy : 0 ≤ l.getD k 0 ∧ l.getD k 0 < 1024
      · have hst := Lib.hid (fun r' hp => setTo_step (r' := r') hs.out (by have := hn.out; omega) hy hp)
        have hy0 := hy.1
        have hy1 := hy.2
        clear hy
        generalize l.getD k 0 = y at c2 hst hy0 hy1
        go_wp2_with (fail)
        refine (zput_any _ r y _ hr.out (by have := hs.out.2.2; omega)).mono ?_
        rintro e w2 ⟨⟨v', r', rfl, hp, hv'⟩, hb2⟩
        have HV := Lib.hid hv'
        have HP := Lib.hid hp
        clear hv' hp
        go_wp2_with (fail)
        go_roundw
        case rel => exact ⟨k + 1, r', by omega, by go_num, Lib.hid (hst.out r' HP.out), HV, hb.trans (hb2.mono hb.size)⟩
        case measure => simp [intOf]; omega
      · have hst := Lib.hid (setTo_skip hs.out (by have := hn.out; omega) hy)
        by_cases hy0 : 0 ≤ l.getD k 0
        · have hy1 : ¬ l.getD k 0 < 1024 := fun h => hy ⟨hy0, h⟩
          clear hy
          generalize l.getD k 0 = y at c2 hy0 hy1
          go_wp2_with (fail)
          go_roundw
          case rel => exact ⟨k + 1, r, by omega, by go_num, hst, hr, hb⟩
          case measure => simp [intOf]; omega
        · clear hy
          generalize l.getD k 0 = y at c2 hy0
          go_wp2_with (fail)
          go_roundw
          case rel => exact ⟨k + 1, r, by omega, by go_num, hst, hr, hb⟩
          case measure => simp [intOf]; omega
    · go_wp2_with (fail)
      go_ret
      exact ⟨⟨_, rfl, by rw [← setTo_end hs.out (by have := hn.out; omega)]; exact hr.out⟩, hb⟩

/-- a list, cut -/
def cutL (l : List Int) (m : Nat) : List Int := if m < l.length then l.take m else l
theorem cutL_le (l : List Int) (m : Nat) : (cutL l m).length ≤ m := by
  unfold cutL; split
  · simp; omega
  · omega

theorem cutInts_any (v : Value) (l : List Int) (m : Nat) (w : World) (h : IntsV w v l) (hm : m ≤ 1000000) :
    Calls Tryd.prog 14 #[v, .int .i64 m] w fun e w' => (TellsInts (cutL l m) w e w') ∧ w = w' := by
  obtain ⟨a, n, c, rfl, hn, hnc, hc, hx⟩ := h.open
  have h' := Lib.hid h
  clear h
  by_cases hlt : m < n
  · go_enter Tryd.func14, Tryd.ntmps14
    go_wp2_with (fail)
    go_ret
    exact ⟨⟨⟨_, rfl, by unfold cutL; rw [if_pos (by have := hn.out; omega)]; exact IntsV.take h'.out (by omega)⟩, Below.refl _ _⟩, rfl⟩
  · go_enter Tryd.func14, Tryd.ntmps14
    go_wp2_with (fail)
    go_ret
    exact ⟨⟨⟨_, rfl, by unfold cutL; rw [if_neg (by have := hn.out; omega)]; exact h'.out⟩, Below.refl _ _⟩, rfl⟩

theorem spoil_any (base : Nat) (v : Value) (n : Nat) (xs : List Value) (w : World) (h : w.ownsRow base 3 1 v n xs) :
    Calls Tryd.prog 22 #[v] w fun e w' => e = .returned (.tuple #[]) ∧ Below base w w' := by
  obtain ⟨hl, h⟩ := h
  rcases h with ⟨rfl, rfl⟩ | ⟨g, cap, cur, rfl, hg, hh, hnc, hcm, hcs, ht⟩
  · go_enter Tryd.func22, Tryd.ntmps22
    go_wp2_with (fail)
    refine wp_loop_rounds 1 ?_; rw [rounds_succ]
    go_wp2_with (fail)
    go_end0
    exact ⟨rfl, Below.refl _ _⟩
  · unfold maxLen at hcm
    go_enter Tryd.func22, Tryd.ntmps22
    go_wp2_with (fail)
    go_loopw [2] (fun i wr => ∃ (k : Nat) (cs : Array Value), k ≤ n ∧ i = .int .i64 k ∧ Below base w wr ∧ wr.heap[g]? = some (.cells cs 3 (0, 0)) ∧ cs.size = cur.size) (fun i _ => n - (intOf i).toNat)
    case atStart => exact ⟨0, cur, Nat.zero_le _, rfl, Below.refl _ _, hh, rfl⟩
    case round =>
      obtain ⟨k, cs, hk, rfl, hb, hhr, hsz⟩ := hrel
      have HS := Lib.hid hsz
      clear hsz
      by_cases hlt : k < n
      · have hk2 : k < cs.size := by rw [HS.out]; omega
        obtain ⟨u, hu⟩ : ∃ u, cs[k]? = some u := ⟨cs[k], by simp [hk2]⟩
        have hcell : wr.cell? ⟨g, k, none⟩ = some u := by rw [cell_of_row _ _ _ _ _ _ hhr]; exact hu
        have hfree : wr.frozen? ⟨g, k, none⟩ = false := free_of_block hhr
        clear hk2 hu
        go_wp2_with (fail)
        go_roundw
        case rel => exact ⟨k + 1, cs.setIfInBounds k (.int .i64 (-77)), by omega, by go_num, hb.setCell hg _, block_setCell hhr, by simp; exact HS.out⟩
        case measure => simp [intOf]; omega
      · go_wp2_with (fail)
        go_end0
        exact ⟨rfl, hb⟩

end Go.Proofs.YtijnekbhpdcemaaDoor
